/- NameOf: the walk. Conditions: numbers that fit. -/
import Derived.Test.YtipmpebckfaknaaDoorNmZ
namespace Go.Proofs.YtipmpebckfaknaaDoor
open Go.RowKit Go.Lib

/-- The four Names that are made of four numbers. -/
def nms (a b c d : Nat) : List Nm := [⟨1, a, b, 0, 0, 0⟩, ⟨2, a, b, 0, 0, 0⟩, ⟨3, 0, 0, a, b, c⟩, ⟨4, a, 0, b, c, d⟩]
theorem nms_ok {a b c d : Nat} (ha : a < 18446744073709551616) (hb : b < 18446744073709551616) (hc : c < 18446744073709551616) (hd : d < 18446744073709551616) {k : Nat} {x : Nm} (h : (nms a b c d)[k]? = some x) : x.Ok ∧ mayOf x = true := by
  unfold nms at h
  match k, h with
  | 0, h => obtain rfl : _ = x := by injection h
            exact ⟨⟨by simp only; omega, ha, hb, by simp only; omega, by simp only; omega, by simp only; omega⟩, by simp [mayOf]⟩
  | 1, h => obtain rfl : _ = x := by injection h
            exact ⟨⟨by simp only; omega, ha, hb, by simp only; omega, by simp only; omega, by simp only; omega⟩, by simp [mayOf]⟩
  | 2, h => obtain rfl : _ = x := by injection h
            exact ⟨⟨by simp only; omega, by simp only; omega, by simp only; omega, ha, hb, hc⟩, by simp [mayOf]⟩
  | 3, h => obtain rfl : _ = x := by injection h
            exact ⟨⟨by simp only; omega, ha, by simp only; omega, hb, hc, hd⟩, by simp [mayOf]⟩
  | _ + 4, h => cases h
section
variable {b : Act} {w : World} {o : Oper}
theorem exec_atT {x y : Operand} {M n c k : Nat} (ho : o.op = .indexAddr 44 x y) (h : b.eval x = .slice (some ⟨M, 0, none⟩) n c) (h' : b.eval y = .int .i64 (k : Int)) (hk : k < n) : (execOp b.eval o).run Tryd.prog w = .ok (.value (.pointer (some ⟨M, k, none⟩))) w := by
  have hk' : (k : Int) < n := by omega
  unfold execOp
  simp only [ho, h, h']
  go_simp
theorem exec_atN {x y : Operand} {M n c k : Nat} (ho : o.op = .indexAddr 40 x y) (h : b.eval x = .slice (some ⟨M, 0, none⟩) n c) (h' : b.eval y = .int .i64 (k : Int)) (hk : k < n) : (execOp b.eval o).run Tryd.prog w = .ok (.value (.pointer (some ⟨M, k * 6, none⟩))) w := by
  have hk' : (k : Int) < n := by omega
  unfold execOp
  simp only [ho, h, h']
  go_simp
end
def NoF (x : Nm) (k M N : Nat) : Nat → Value → World → Prop
  | 0, v, _ => v = .slice (some ⟨M, 0, none⟩) 4 4
  | 1, v, _ => v = .int .i64 (k : Int)
  | 2, v, _ => v = .pointer (some ⟨M, k, none⟩)
  | 3, v, _ => v = .string (txt (putOf x))
  | 4, v, _ => v = .slice (some ⟨N, 0, none⟩) 4 4
  | 5, v, _ => v = .int .i64 (k : Int)
  | 6, v, _ => v = .pointer (some ⟨N, k * 6, none⟩)
  | 7, v, _ => v = x.v
  | 8, v, _ => v = x.v
  | 9, v, _ => v = .string (txt (putOf x))
  | 10, v, _ => v = .bool false
  | 11, v, _ => v = .bool false
  | 12, v, _ => v = .bool true
  | 13, v, _ => v = .bool false
  | 14, v, _ => v = .bool false
  | 15, v, _ => v = .bool false
  | 16, v, _ => v = x.v
  | 17, v, _ => v = .slice (some ⟨N, 0, none⟩) 4 4
  | 18, v, _ => v = .int .i64 (k : Int)
  | 19, v, _ => v = .pointer (some ⟨N, k * 6, none⟩)
  | 20, v, _ => v = x.v
  | 21, v, _ => v = .bool false
  | 22, v, _ => v = .bool false
  | 23, v, _ => v = .bool false
  | 24, v, _ => v = x.v
  | 25, v, _ => v = .string (txt (putOf x))
  | 26, v, _ => v = .slice (some ⟨M, 0, none⟩) 4 4
  | 27, v, _ => v = .int .i64 (k : Int)
  | 28, v, _ => v = .pointer (some ⟨M, k, none⟩)
  | 29, v, _ => v = .string (txt (putOf x))
  | 30, v, _ => v = .bool false
  | 31, v, _ => v = .bool false
  | _, _, _ => True
theorem NoF.keep {x : Nm} {k M N : Nat} (j : Nat) (u : Value) (w w' : World) (_hb : Below w.heap.size w w') (hfact : NoF x k M N j u w) : NoF x k M N j u w' :=
  match j, hfact with
  | 0, h => h
  | 1, h => h
  | 2, h => h
  | 3, h => h
  | 4, h => h
  | 5, h => h
  | 6, h => h
  | 7, h => h
  | 8, h => h
  | 9, h => h
  | 10, h => h
  | 11, h => h
  | 12, h => h
  | 13, h => h
  | 14, h => h
  | 15, h => h
  | 16, h => h
  | 17, h => h
  | 18, h => h
  | 19, h => h
  | 20, h => h
  | 21, h => h
  | 22, h => h
  | 23, h => h
  | 24, h => h
  | 25, h => h
  | 26, h => h
  | 27, h => h
  | 28, h => h
  | 29, h => h
  | 30, h => h
  | 31, h => h
  | _ + 32, h => h
def NoC (W : World) (x : Nm) (k M N g : Nat) (w : World) : Prop := Below W.heap.size W w ∧ BoxNm x w ⟨N, k * 6, none⟩ ∧ BoxNm x w ⟨g, 0, none⟩ ∧ w.cell? ⟨M, k, none⟩ = some (.string (txt (putOf x))) ∧ Env w
theorem NoC.keep {W : World} {x : Nm} {k M N g : Nat} (w w' : World) (hb : Below w.heap.size w w') (hc : NoC W x k M N g w) : NoC W x k M N g w' :=
  ⟨hc.1.trans (hb.mono hc.1.size), hc.2.1.keep hb, hc.2.2.1.keep hb, (hb.cell (World.block_lt_of_cell? w _ hc.2.2.2.1)).trans hc.2.2.2.1, hc.2.2.2.2.on hb⟩

set_option maxHeartbeats 4000000 in
set_option maxRecDepth 100000 in
theorem ofLaw_any (a b c d : Nat) (ha : a < 18446744073709551616) (hb : b < 18446744073709551616) (hc : c < 18446744073709551616) (hd : d < 18446744073709551616) (w : World) (hE : Env w) :
    Calls Tryd.prog 5 #[.int .u64 (a : Int), .int .u64 (b : Int), .int .u64 (c : Int), .int .u64 (d : Int)] w fun e w' => e = .returned (.bool true) ∧ Below w.heap.size w w' := by
  have HE := Lib.hid hE
  have Ha := Lib.hid ha
  have Hb := Lib.hid hb
  have Hc := Lib.hid hc
  have Hd := Lib.hid hd
  clear hE ha hb hc hd
  go_enter Tryd.func5, Tryd.ntmps5
  go_upto_region 2 with fail
  obtain ⟨W1, hW1⟩ : ∃ W, Hid (W = w.alloc (.cells #[.int .u8 1, .int .u64 (a : Int), .int .u64 (b : Int), .int .u64 0, .int .u64 0, .int .u64 0, .int .u8 2, .int .u64 (a : Int), .int .u64 (b : Int), .int .u64 0, .int .u64 0, .int .u64 0, .int .u8 3, .int .u64 0, .int .u64 0, .int .u64 (a : Int), .int .u64 (b : Int), .int .u64 (c : Int), .int .u8 4, .int .u64 (a : Int), .int .u64 0, .int .u64 (b : Int), .int .u64 (c : Int), .int .u64 (d : Int)] 24)) := ⟨_, rfl⟩
  rw [← hW1.out]
  have HB1 : Hid (Below w.heap.size w W1) := by rw [hW1.out]; exact below_new _ _
  have HL : Hid (∀ k x, (nms a b c d)[k]? = some x → BoxNm x W1 ⟨w.heap.size, k * 6, none⟩) := by
    intro k x hx
    have hn := heap_alloc_new w (.cells #[.int .u8 1, .int .u64 (a : Int), .int .u64 (b : Int), .int .u64 0, .int .u64 0, .int .u64 0, .int .u8 2, .int .u64 (a : Int), .int .u64 (b : Int), .int .u64 0, .int .u64 0, .int .u64 0, .int .u8 3, .int .u64 0, .int .u64 0, .int .u64 (a : Int), .int .u64 (b : Int), .int .u64 (c : Int), .int .u8 4, .int .u64 (a : Int), .int .u64 0, .int .u64 (b : Int), .int .u64 (c : Int), .int .u64 (d : Int)] 24)
    rw [← hW1.out] at hn
    have hc := fun j => cell_of_row W1 w.heap.size j _ _ _ hn
    have hlt := (Array.getElem?_eq_some_iff.1 hn).1
    unfold nms at hx
    match k, hx with
    | 0, hx => obtain rfl : _ = x := by injection hx
               exact ⟨hc 0, hc 1, hc 2, hc 3, hc 4, hc 5, hlt⟩
    | 1, hx => obtain rfl : _ = x := by injection hx
               exact ⟨hc 6, hc 7, hc 8, hc 9, hc 10, hc 11, hlt⟩
    | 2, hx => obtain rfl : _ = x := by injection hx
               exact ⟨hc 12, hc 13, hc 14, hc 15, hc 16, hc 17, hlt⟩
    | 3, hx => obtain rfl : _ = x := by injection hx
               exact ⟨hc 18, hc 19, hc 20, hc 21, hc 22, hc 23, hlt⟩
    | _ + 4, hx => cases hx
  go_upto_region 3 with (first
    | (go_at_call 19; refine (ofSlot_any a b Ha.out Hb.out _ (HE.out.on HB1.out)).mono ?_; rintro e w1 ⟨rfl, hb1⟩)
    | (go_at_call 20; refine (ofBase_any a b Ha.out Hb.out _ ((HE.out.on HB1.out).on hb1)).mono ?_; rintro e w2 ⟨rfl, hb2⟩)
    | (go_at_call 21; refine (ofTemp_any a b c Ha.out Hb.out Hc.out _ (((HE.out.on HB1.out).on hb1).on hb2)).mono ?_; rintro e w3 ⟨rfl, hb3⟩)
    | (go_at_call 22; refine (ofSeg_any a b c d Ha.out Hb.out Hc.out Hd.out _ ((((HE.out.on HB1.out).on hb1).on hb2).on hb3)).mono ?_; rintro e w4 ⟨rfl, hb4⟩))
  obtain ⟨W2, hW2⟩ : ∃ W, Hid (W = w4.alloc (.cells #[.string (txt (putOf ⟨1, a, b, 0, 0, 0⟩)), .string (txt (putOf ⟨2, a, b, 0, 0, 0⟩)), .string (txt (putOf ⟨3, 0, 0, a, b, c⟩)), .string (txt (putOf ⟨4, a, 0, b, c, d⟩))] 9)) := ⟨_, rfl⟩
  rw [← hW2.out]
  have h12 : Below W1.heap.size W1 W2 := by
    have h3 := ((hb1.trans (hb2.mono hb1.size)).trans (hb3.mono (Nat.le_trans hb1.size hb2.size))).trans (hb4.mono (Nat.le_trans (Nat.le_trans hb1.size hb2.size) hb3.size))
    rw [hW2.out]
    exact h3.alloc h3.size _
  have HB2 : Hid (Below w.heap.size w W2) := HB1.out.trans (h12.mono HB1.out.size)
  have HL2 : Hid (∀ k x, (nms a b c d)[k]? = some x → BoxNm x W2 ⟨w.heap.size, k * 6, none⟩) := fun k x hx => (HL.out k x hx).keep h12
  have HT : Hid (∀ k x, (nms a b c d)[k]? = some x → W2.cell? ⟨w4.heap.size, k, none⟩ = some (.string (txt (putOf x)))) := by
    intro k x hx
    have hn := heap_alloc_new w4 (.cells #[.string (txt (putOf ⟨1, a, b, 0, 0, 0⟩)), .string (txt (putOf ⟨2, a, b, 0, 0, 0⟩)), .string (txt (putOf ⟨3, 0, 0, a, b, c⟩)), .string (txt (putOf ⟨4, a, 0, b, c, d⟩))] 9)
    rw [← hW2.out] at hn
    have hc := fun j => cell_of_row W2 w4.heap.size j _ _ _ hn
    unfold nms at hx
    match k, hx with
    | 0, hx => obtain rfl : _ = x := by injection hx
               exact hc 0
    | 1, hx => obtain rfl : _ = x := by injection hx
               exact hc 1
    | 2, hx => obtain rfl : _ = x := by injection hx
               exact hc 2
    | 3, hx => obtain rfl : _ = x := by injection hx
               exact hc 3
    | _ + 4, hx => cases hx
  obtain ⟨M, hM⟩ : ∃ M, Hid (M = w4.heap.size) := ⟨_, rfl⟩
  rw [← hM.out]
  rw [← hM.out] at HT
  obtain ⟨N, hN⟩ : ∃ N, Hid (N = w.heap.size) := ⟨_, rfl⟩
  rw [← hN.out] at HL2 ⊢
  clear HL HB1 h12 hb1 hb2 hb3 hb4
  go_wp2
  go_loopw [11] (fun i wr => ∃ k : Nat, k ≤ 4 ∧ i = .int .i64 (k : Int) ∧ Below W2.heap.size W2 wr) (fun i _ => 4 - (Lib.intOf i).toNat)
  case atStart => exact ⟨0, Nat.zero_le _, rfl, .refl _ _⟩
  case round =>
    obtain ⟨k, hk, rfl, hb⟩ := hrel
    have HB := Lib.hid hb
    clear hb
    by_cases hlt : k < 4
    · obtain ⟨x, hx⟩ : ∃ x, (nms a b c d)[k]? = some x := ⟨_, List.getElem?_eq_getElem hlt⟩
      obtain ⟨ox, hm⟩ := nms_ok Ha.out Hb.out Hc.out Hd.out hx
      have Hx := Lib.hid ox
      have Hm := Lib.hid hm
      have hbx := (HL2.out k x hx).keep HB.out
      have ht0 := HT.out k x hx
      have ht : wr.cell? ⟨M, k, none⟩ = some (.string (txt (putOf x))) := (HB.out.cell (World.block_lt_of_cell? W2 _ ht0)).trans ht0
      have Hbx := Lib.hid hbx
      have HEr : Hid (Env wr) := (HE.out.on HB2.out).on HB.out
      have Hlen : Hid ((putOf x).length < 4294967281) := by
        have := putOf_le x ox
        show _ < _
        omega
      clear hbx ht0 hx ox hm
      have Hk4 : Hid (k < 4) := hlt
      go_upto_region 7 with (go_at_call 17; refine (parse_yes (putOf x) x (parse_put Hm.out Hx.out) _ HEr.out Hlen.out).mono ?_; rintro e w5 ⟨rfl, hb5⟩)
      obtain ⟨W3, hW3⟩ : ∃ W, Hid (W = w5.alloc (.cells #[.int .u8 (x.k : Int), .int .u64 (x.d : Int), .int .u64 (x.n : Int), .int .u64 (x.p : Int), .int .u64 (x.i : Int), .int .u64 (x.c : Int)] 24)) := ⟨_, rfl⟩
      rw [← hW3.out]
      have h35 : Below wr.heap.size wr W3 := by rw [hW3.out]; exact hb5.alloc hb5.size _
      have HG3 : Hid (BoxNm x W3 ⟨w5.heap.size, 0, none⟩) := by rw [hW3.out]; exact boxNm_new x w5 _
      have HB3 : Hid (Below W2.heap.size W2 W3) := HB.out.trans (h35.mono HB.out.size)
      have HX3 : Hid (BoxNm x W3 ⟨N, k * 6, none⟩) := Hbx.out.keep h35
      have HT3 : Hid (W3.cell? ⟨M, k, none⟩ = some (.string (txt (putOf x)))) := (h35.cell (World.block_lt_of_cell? wr _ ht)).trans ht
      have HE3 : Hid (Env W3) := HEr.out.on h35
      clear h35 ht hb5 Hbx
      go_cut [89] from 58 to 89 (fun s wx => s = .bool false ∧ Below W3.heap.size W3 wx)
      case first =>
        rename_i J K1 hJ hK
        refine wp_region_facts (n := 91) (NoF x k M N) (NoC W3 x k M N w5.heap.size) (by kernel_rfl) (by kernel_rfl) rfl ?_ ?_ ?_
        · exact ⟨(Below.refl _ _).drew, HX3.out.keep (Below.refl _ _).drew, HG3.out.keep (Below.refl _ _).drew, ((Below.refl W3.heap.size _).drew.cell (World.block_lt_of_cell? W3 _ HT3.out)).trans HT3.out, HE3.out.on (Below.refl _ _).drew⟩
        · skip
          refine OpsOk.cons _ _ (OpOk.run _ _ NoF.keep NoC.keep fun b v hs hc hg => ⟨rfl, _, _, exec_move rfl (hs 10 (by kernel_rfl)), .refl _ _, rfl⟩) ?_
          refine OpsOk.cons _ _ (OpOk.run _ _ NoF.keep NoC.keep fun b v hs hc hg => ⟨rfl, _, _, exec_move rfl (hs 11 (by kernel_rfl)), .refl _ _, rfl⟩) ?_
          refine OpsOk.cons _ _ (OpOk.run _ _ NoF.keep NoC.keep fun b v hs hc hg => ⟨rfl, _, _, exec_atT rfl (dep hg 0 rfl rfl rfl rfl) (dep hg 1 rfl rfl rfl rfl) Hk4.out, .refl _ _, rfl⟩) ?_
          refine OpsOk.cons _ _ (OpOk.run _ _ NoF.keep NoC.keep fun b v hs hc hg => ⟨rfl, _, _, exec_loadT rfl (dep hg 0 rfl rfl rfl rfl) hc.2.2.2.1, .refl _ _, rfl⟩) ?_
          refine OpsOk.cons _ _ (OpOk.run _ _ NoF.keep NoC.keep fun b v hs hc hg => ⟨rfl, _, _, exec_move rfl (hs 9 (by kernel_rfl)), .refl _ _, rfl⟩) ?_
          refine OpsOk.cons _ _ (OpOk.run _ _ NoF.keep NoC.keep fun b v hs hc hg => ⟨rfl, _, _, exec_move rfl (hs 11 (by kernel_rfl)), .refl _ _, rfl⟩) ?_
          refine OpsOk.cons _ _ (OpOk.run _ _ NoF.keep NoC.keep fun b v hs hc hg => ⟨rfl, _, _, exec_atN rfl (dep hg 0 rfl rfl rfl rfl) (dep hg 1 rfl rfl rfl rfl) Hk4.out, .refl _ _, rfl⟩) ?_
          refine OpsOk.cons _ _ (OpOk.run _ _ NoF.keep NoC.keep fun b v hs hc hg => ⟨rfl, _, _, exec_loadN rfl (dep hg 0 rfl rfl rfl rfl) hc.2.1, .refl _ _, rfl⟩) ?_
          refine OpsOk.cons _ _ (OpOk.call _ _ NoF.keep NoC.keep fun b v hs hc hg => ⟨rfl, _, _, exec_call1 (enter_ref _) rfl (dep hg 0 rfl rfl rfl rfl), ans_q (ref_any x v)⟩) ?_
          refine OpsOk.cons _ _ (OpOk.call _ _ NoF.keep NoC.keep fun b v hs hc hg => ⟨rfl, _, _, exec_call1 (enter_rput _) rfl (dep hg 0 rfl rfl rfl rfl), ans_q (rput_any x Hx.out v)⟩) ?_
          refine OpsOk.cons _ _ (OpOk.run _ _ NoF.keep NoC.keep fun b v hs hc hg => ⟨rfl, _, _, exec_neT rfl (dep hg 0 rfl rfl rfl rfl) (dep hg 1 rfl rfl rfl rfl), .refl _ _, by rw [decide_eq_true rfl]; rfl⟩) ?_
          refine OpsOk.cons _ _ (OpOk.run _ _ NoF.keep NoC.keep fun b v hs hc hg => ⟨rfl, _, _, exec_move rfl (dep hg 0 rfl rfl rfl rfl), .refl _ _, rfl⟩) ?_
          refine OpsOk.cons _ _ (OpOk.run _ _ NoF.keep NoC.keep fun b v hs hc hg => ⟨wanted_of rfl rfl rfl (dep hg 0 rfl rfl rfl rfl), _, _, exec_move rfl (hs 13 (by kernel_rfl)), .refl _ _, rfl⟩) ?_
          refine OpsOk.cons _ _ (OpOk.run _ _ NoF.keep NoC.keep fun b v hs hc hg => ⟨wanted_of rfl rfl rfl (dep hg 1 rfl rfl rfl rfl), _, _, exec_not rfl (dep hg 0 rfl rfl rfl rfl), .refl _ _, rfl⟩) ?_
          refine OpsOk.cons _ _ (OpOk.run _ _ NoF.keep NoC.keep fun b v hs hc hg => ⟨rfl, _, _, exec_pick rfl (dep hg 0 rfl rfl rfl rfl) (dep hg 1 rfl rfl rfl rfl), .refl _ _, rfl⟩) ?_
          refine OpsOk.cons _ _ (OpOk.run _ _ NoF.keep NoC.keep fun b v hs hc hg => ⟨rfl, _, _, exec_move rfl (dep hg 0 rfl rfl rfl rfl), .refl _ _, rfl⟩) ?_
          refine OpsOk.cons _ _ (OpOk.run _ _ NoF.keep NoC.keep fun b v hs hc hg => ⟨wanted_of rfl rfl rfl (dep hg 0 rfl rfl rfl rfl), _, _, exec_loadN rfl (hs 12 (by kernel_rfl)) hc.2.2.1, .refl _ _, rfl⟩) ?_
          refine OpsOk.cons _ _ (OpOk.run _ _ NoF.keep NoC.keep fun b v hs hc hg => ⟨wanted_of rfl rfl rfl (dep hg 0 rfl rfl rfl rfl), _, _, exec_move rfl (hs 9 (by kernel_rfl)), .refl _ _, rfl⟩) ?_
          refine OpsOk.cons _ _ (OpOk.run _ _ NoF.keep NoC.keep fun b v hs hc hg => ⟨wanted_of rfl rfl rfl (dep hg 0 rfl rfl rfl rfl), _, _, exec_move rfl (hs 11 (by kernel_rfl)), .refl _ _, rfl⟩) ?_
          refine OpsOk.cons _ _ (OpOk.run _ _ NoF.keep NoC.keep fun b v hs hc hg => ⟨wanted_of rfl rfl rfl (dep hg 2 rfl rfl rfl rfl), _, _, exec_atN rfl (dep hg 0 rfl rfl rfl rfl) (dep hg 1 rfl rfl rfl rfl) Hk4.out, .refl _ _, rfl⟩) ?_
          refine OpsOk.cons _ _ (OpOk.run _ _ NoF.keep NoC.keep fun b v hs hc hg => ⟨wanted_of rfl rfl rfl (dep hg 1 rfl rfl rfl rfl), _, _, exec_loadN rfl (dep hg 0 rfl rfl rfl rfl) hc.2.1, .refl _ _, rfl⟩) ?_
          refine OpsOk.cons _ _ (OpOk.run _ _ NoF.keep NoC.keep fun b v hs hc hg => ⟨wanted_of rfl rfl rfl (dep hg 2 rfl rfl rfl rfl), _, _, exec_neN rfl (dep hg 0 rfl rfl rfl rfl) (dep hg 1 rfl rfl rfl rfl), .refl _ _, by rw [decide_eq_true rfl]; rfl⟩) ?_
          refine OpsOk.cons _ _ (OpOk.run _ _ NoF.keep NoC.keep fun b v hs hc hg => ⟨rfl, _, _, exec_pick rfl (dep hg 0 rfl rfl rfl rfl) (dep hg 1 rfl rfl rfl rfl), .refl _ _, rfl⟩) ?_
          refine OpsOk.cons _ _ (OpOk.run _ _ NoF.keep NoC.keep fun b v hs hc hg => ⟨rfl, _, _, exec_move rfl (dep hg 0 rfl rfl rfl rfl), .refl _ _, rfl⟩) ?_
          refine OpsOk.cons _ _ (OpOk.run _ _ NoF.keep NoC.keep fun b v hs hc hg => ⟨wanted_of rfl rfl rfl (dep hg 0 rfl rfl rfl rfl), _, _, exec_loadN rfl (hs 12 (by kernel_rfl)) hc.2.2.1, .refl _ _, rfl⟩) ?_
          refine OpsOk.cons _ _ (OpOk.call _ _ NoF.keep NoC.keep fun b v hs hc hg => ⟨wanted_of rfl rfl rfl (dep hg 1 rfl rfl rfl rfl), _, _, exec_call1 (enter_put _) rfl (dep hg 0 rfl rfl rfl rfl), ans_q (put_any x Hx.out v hc.2.2.2.2)⟩) ?_
          refine OpsOk.cons _ _ (OpOk.run _ _ NoF.keep NoC.keep fun b v hs hc hg => ⟨wanted_of rfl rfl rfl (dep hg 0 rfl rfl rfl rfl), _, _, exec_move rfl (hs 10 (by kernel_rfl)), .refl _ _, rfl⟩) ?_
          refine OpsOk.cons _ _ (OpOk.run _ _ NoF.keep NoC.keep fun b v hs hc hg => ⟨wanted_of rfl rfl rfl (dep hg 0 rfl rfl rfl rfl), _, _, exec_move rfl (hs 11 (by kernel_rfl)), .refl _ _, rfl⟩) ?_
          refine OpsOk.cons _ _ (OpOk.run _ _ NoF.keep NoC.keep fun b v hs hc hg => ⟨wanted_of rfl rfl rfl (dep hg 2 rfl rfl rfl rfl), _, _, exec_atT rfl (dep hg 0 rfl rfl rfl rfl) (dep hg 1 rfl rfl rfl rfl) Hk4.out, .refl _ _, rfl⟩) ?_
          refine OpsOk.cons _ _ (OpOk.run _ _ NoF.keep NoC.keep fun b v hs hc hg => ⟨wanted_of rfl rfl rfl (dep hg 1 rfl rfl rfl rfl), _, _, exec_loadT rfl (dep hg 0 rfl rfl rfl rfl) hc.2.2.2.1, .refl _ _, rfl⟩) ?_
          refine OpsOk.cons _ _ (OpOk.run _ _ NoF.keep NoC.keep fun b v hs hc hg => ⟨wanted_of rfl rfl rfl (dep hg 2 rfl rfl rfl rfl), _, _, exec_neT rfl (dep hg 0 rfl rfl rfl rfl) (dep hg 1 rfl rfl rfl rfl), .refl _ _, by rw [decide_eq_true rfl]; rfl⟩) ?_
          refine OpsOk.cons _ _ (OpOk.run _ _ NoF.keep NoC.keep fun b v hs hc hg => ⟨rfl, _, _, exec_pick rfl (dep hg 0 rfl rfl rfl rfl) (dep hg 1 rfl rfl rfl rfl), .refl _ _, rfl⟩) ?_
          exact OpsOk.nil _ _
        · intro b' w' hsz hd hs hc hall
          refine hK _ _ (Met.intro (hJ _ _ ?_))
          exact ⟨b'.tmps.getD 58 undef, b'.tmps.getD 59 undef, b'.tmps.getD 60 undef, b'.tmps.getD 61 undef, b'.tmps.getD 62 undef, b'.tmps.getD 63 undef, b'.tmps.getD 64 undef, b'.tmps.getD 65 undef, b'.tmps.getD 66 undef, b'.tmps.getD 67 undef, b'.tmps.getD 68 undef, b'.tmps.getD 69 undef, b'.tmps.getD 70 undef, b'.tmps.getD 71 undef, b'.tmps.getD 72 undef, b'.tmps.getD 73 undef, b'.tmps.getD 74 undef, b'.tmps.getD 75 undef, b'.tmps.getD 76 undef, b'.tmps.getD 77 undef, b'.tmps.getD 78 undef, b'.tmps.getD 79 undef, b'.tmps.getD 80 undef, b'.tmps.getD 81 undef, b'.tmps.getD 82 undef, b'.tmps.getD 83 undef, b'.tmps.getD 84 undef, b'.tmps.getD 85 undef, b'.tmps.getD 86 undef, b'.tmps.getD 87 undef, b'.tmps.getD 88 undef, b'.tmps.getD 89 undef, ⟨hall 31 _ _ rfl rfl, hc.1⟩, (act_known hsz hd hs).trans (by kernel_rfl)⟩
      obtain ⟨rfl, hb7⟩ := hcut
      have HB4 : Hid (Below W2.heap.size W2 wc) := HB3.out.trans (hb7.mono HB3.out.size)
      clear hb7
      go_wp2
      go_roundw
      case rel => exact ⟨k + 1, by omega, by go_num, HB4.out⟩
      case measure =>
        simp only [Lib.intOf]
        omega
    · have h4 : k = 4 := by omega
      have Hend : Hid (Env wr) := (HE.out.on HB2.out).on HB.out
      go_wp2_with (go_at_call 16; refine (works_any _ Hend.out).mono ?_; rintro e w9 ⟨rfl, hb9⟩)
      go_ret
      exact ⟨rfl, HB2.out.trans ((HB.out.trans (hb9.mono HB.out.size)).mono HB2.out.size)⟩
end Go.Proofs.YtipmpebckfaknaaDoor
