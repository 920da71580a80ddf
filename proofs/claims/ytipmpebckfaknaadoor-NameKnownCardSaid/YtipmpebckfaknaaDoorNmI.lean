/- Sort, by the reference. Conditions: at most 1,000,000 texts, of at most 1,048,000 bytes. -/
import Derived.Test.YtipmpebckfaknaaDoorNmJ
import Derived.Test.YtipmpebckfaknaaDoorSkip
import Derived.Test.YtipmpebckfaknaaDoorSwap
import Derived.Test.YtipmpebckfaknaaDoorNmV
namespace Go.Proofs.YtipmpebckfaknaaDoor
open Go.RowKit Go.Lib

section
variable {b : Act} {w : World} {o : Oper}
theorem exec_gtrI {x y : Operand} {i j : Int} (ho : o.op = .binOp .gtr 3 x y 3) (h : b.eval x = .int .i64 i) (h' : b.eval y = .int .i64 j) : (execOp b.eval o).run Tryd.prog w = .ok (.value (.bool (decide (j < i)))) w := by
  unfold execOp
  simp only [ho, h, h']
  go_simp
theorem exec_subI {x y : Operand} {q k : Nat} (hq : q = k + 1) (hb : q < 9223372036854775807) (ho : o.op = .binOp .sub 3 x y 3) (h : b.eval x = .int .i64 (q : Int)) (h' : b.eval y = .int .i64 1) : (execOp b.eval o).run Tryd.prog w = .ok (.value (.int .i64 (k : Int))) w := by
  have hw : IntKind.i64.wrap ((q : Int) - 1) = (k : Int) := by rw [IntKind.wrap_i64]; omega
  have hw2 : IntKind.i64.wrap (k : Int) = (k : Int) := by rw [IntKind.wrap_i64]; omega
  unfold execOp
  simp only [ho, h, h']
  go_simp
theorem exec_atR {x y : Operand} {M n c k : Nat} (ho : o.op = .indexAddr 46 x y) (h : b.eval x = .slice (some ⟨M, 0, none⟩) n c) (h' : b.eval y = .int .i64 (k : Int)) (hk : k < n) : (execOp b.eval o).run Tryd.prog w = .ok (.value (.pointer (some ⟨M, k * 6, none⟩))) w := by
  have hk' : (k : Int) < n := by omega
  unfold execOp
  simp only [ho, h, h']
  go_simp
end
def CpF (a x : Nm) (g q k n c : Nat) : Nat → Value → World → Prop
  | 0, v, _ => v = .int .i64 (q : Int)
  | 1, v, _ => v = .bool true
  | 2, v, _ => v = .bool true
  | 3, v, _ => v = .slice (some ⟨g, 0, none⟩) n c
  | 4, v, _ => v = .int .i64 (q : Int)
  | 5, v, _ => v = .int .i64 (k : Int)
  | 6, v, _ => v = .pointer (some ⟨g, k * 6, none⟩)
  | 7, v, _ => v = a.v
  | 8, v, _ => v = .slice (some ⟨g, 0, none⟩) n c
  | 9, v, _ => v = .int .i64 (q : Int)
  | 10, v, _ => v = .pointer (some ⟨g, q * 6, none⟩)
  | 11, v, _ => v = x.v
  | 12, v, _ => v = .int .i64 (cmpOf a x)
  | 13, v, _ => v = .bool (decide (0 < cmpOf a x))
  | 14, v, _ => v = .bool (decide (0 < cmpOf a x))
  | _, _, _ => True
theorem CpF.keep {a x : Nm} {g q k n c : Nat} (j : Nat) (u : Value) (w w' : World) (_hb : Below w.heap.size w w') (hfact : CpF a x g q k n c j u w) : CpF a x g q k n c j u w' :=
  match j, hfact with
  | 0, h => h
  | 1, h => h
  | 2, h => h
  | 3, h => h
  | 4, h => h
  | 5, h => h
  | 6, h => h
  | 7, h => h
  | 8, h => h
  | 9, h => h
  | 10, h => h
  | 11, h => h
  | 12, h => h
  | 13, h => h
  | 14, h => h
  | _ + 15, h => h
def CpZ (q : Nat) : Nat → Value → World → Prop
  | 0, v, _ => v = .int .i64 (q : Int)
  | 1, v, _ => v = .bool false
  | 2, v, _ => v = .bool false
  | 3, v, _ => v = undef
  | 4, v, _ => v = undef
  | 5, v, _ => v = undef
  | 6, v, _ => v = undef
  | 7, v, _ => v = undef
  | 8, v, _ => v = undef
  | 9, v, _ => v = undef
  | 10, v, _ => v = undef
  | 11, v, _ => v = undef
  | 12, v, _ => v = undef
  | 13, v, _ => v = undef
  | 14, v, _ => v = .bool false
  | _, _, _ => True
theorem CpZ.keep {q : Nat} (j : Nat) (u : Value) (w w' : World) (_hb : Below w.heap.size w w') (hfact : CpZ q j u w) : CpZ q j u w' :=
  match j, hfact with
  | 0, h => h
  | 1, h => h
  | 2, h => h
  | 3, h => h
  | 4, h => h
  | 5, h => h
  | 6, h => h
  | 7, h => h
  | 8, h => h
  | 9, h => h
  | 10, h => h
  | 11, h => h
  | 12, h => h
  | 13, h => h
  | 14, h => h
  | _ + 15, h => h
def SwV (a x : Nm) (g q k n c : Nat) : Nat → Value → Prop
  | 0, v => v = .slice (some ⟨g, 0, none⟩) n c
  | 1, v => v = .int .i64 (q : Int)
  | 2, v => v = .int .i64 (k : Int)
  | 3, v => v = .slice (some ⟨g, 0, none⟩) n c
  | 4, v => v = .int .i64 (q : Int)
  | 5, v => v = .slice (some ⟨g, 0, none⟩) n c
  | 6, v => v = .int .i64 (q : Int)
  | 7, v => v = .pointer (some ⟨g, q * 6, none⟩)
  | 8, v => v = x.v
  | 9, v => v = .slice (some ⟨g, 0, none⟩) n c
  | 10, v => v = .int .i64 (q : Int)
  | 11, v => v = .int .i64 (k : Int)
  | 12, v => v = .pointer (some ⟨g, k * 6, none⟩)
  | 13, v => v = a.v
  | 14, v => v = .pointer (some ⟨g, k * 6, none⟩)
  | 16, v => v = .pointer (some ⟨g, q * 6, none⟩)
  | _, _ => True
def SwF (a x : Nm) (g q k n c : Nat) (i : Nat) (v : Value) (_ : World) : Prop := SwV a x g q k n c i v
def CpC (W : World) (a x : Nm) (g q k : Nat) (w : World) : Prop := Below W.heap.size W w ∧ BoxNm a w ⟨g, k * 6, none⟩ ∧ BoxNm x w ⟨g, q * 6, none⟩
theorem CpC.keep {W : World} {a x : Nm} {g q k : Nat} (w w' : World) (hb : Below w.heap.size w w') (hc : CpC W a x g q k w) : CpC W a x g q k w' := ⟨hc.1.trans (hb.mono hc.1.size), hc.2.1.keep hb, hc.2.2.keep hb⟩
def CpD (W : World) (w : World) : Prop := Below W.heap.size W w
theorem CpD.keep {W : World} (w w' : World) (hb : Below w.heap.size w w') (hc : CpD W w) : CpD W w' := Below.trans hc (hb.mono (Below.size hc))

/-- The last statement of a block: what follows the block follows it. -/
theorem wp_last {P : Program} {co : Code} {id : Nat} {K : Act → World → Prop} {Q' : Exit → Act → World → Prop} {a : Act} {w : World} (h : co.wp P (Exit.then K (Exit.inBlock id (Exit.then K Q'))) a w) : co.wp P (Exit.inBlock id (Exit.then K Q')) a w :=
  wp_mono h (fun e a w h => by cases e <;> exact h)
theorem wrap_sub {q k : Nat} (hq : q = k + 1) (hb : q < 9223372036854775807) : wrap64 ((q : Int) - 1) = (k : Int) := by
  have h := IntKind.wrap_i64 ((q : Int) - 1)
  unfold wrap64
  omega
theorem meas_sub {q k : Nat} (hq : q = k + 1) (hb : q < 9223372036854775807) : (Lib.intOf (Value.int .i64 (wrap64 (k : Int)))).toNat < (Lib.intOf (Value.int .i64 (q : Int))).toNat := by
  have h : wrap64 (k : Int) = (k : Int) := by
    unfold wrap64
    omega
  rw [h]
  show (k : Int).toNat < (q : Int).toNat
  omega
theorem OwnN.of' {e : TypeId} {base n : Nat} {w : World} {xs : List Nm} {g cap : Nat} {rest : List Value} (hn : xs.length = n) (hb : base ≤ g) (h : RowN w g e xs rest) (h1 : n ≤ cap) (h2 : cap ≤ maxLen) (h3 : (ncells xs ++ rest).length = cap * 6) : OwnN e base w (.slice (some ⟨g, 0, none⟩) n cap) xs := by
  subst hn
  exact OwnN.of hb h h1 h2 h3
theorem rparse_yes (s : List UInt8) (x : Nm) (h : parseOf s = some x) (w : World) (hl : s.length ≤ 1048000) : Calls Tryd.prog 18 #[.string (txt s)] w fun e w' => e = .returned (.tuple #[.agg #[.int .u8 (x.k : Int), .int .u64 (x.d : Int), .int .u64 (x.n : Int), .int .u64 (x.p : Int), .int .u64 (x.i : Int), .int .u64 (x.c : Int)], .bool true]) ∧ Below w.heap.size w w' := by
  refine (rparse_any s w hl).mono ?_
  rintro e w' ⟨hn, hb⟩
  unfold ParseAns at hn
  rw [h] at hn
  exact ⟨hn, hb⟩
theorem rparse_no (s : List UInt8) (h : parseOf s = none) (w : World) (hl : s.length ≤ 1048000) : Calls Tryd.prog 18 #[.string (txt s)] w fun e w' => e = .returned (.tuple #[.agg #[.int .u8 0, .int .u64 0, .int .u64 0, .int .u64 0, .int .u64 0, .int .u64 0], .bool false]) ∧ Below w.heap.size w w' := by
  refine (rparse_any s w hl).mono ?_
  rintro e w' ⟨hn, hb⟩
  unfold ParseAns at hn
  rw [h] at hn
  exact ⟨hn, hb⟩

set_option maxHeartbeats 4000000 in
set_option maxRecDepth 100000 in
theorem rsort_any (A : Option Addr) (c m : Nat) (l : List (List UInt8)) (w : World) (hm : l.length = m) (hr : RdT w w.heap.size A l) (hl : m ≤ 1000000) (hall : ∀ s ∈ l, s.length ≤ 1048000) :
    Calls Tryd.prog 23 #[.slice A m c] w fun e w' => (∃ v, e = .returned v ∧ OwnN 25 w.heap.size w' v (sortN (namesOf l))) ∧ Below w.heap.size w w' := by
  have HR := Lib.hid hr
  have Hm := Lib.hid hm
  have Hl := Lib.hid hl
  have Hall := Lib.hid hall
  clear hr hm hall
  go_enter Tryd.func23, Tryd.ntmps23
  go_wp2
  go_loopw [3, 4] (fun v i wr => ∃ (k : Nat) (own : List Nm), k ≤ m ∧ i = .int .i64 (k : Int) ∧ OwnN 25 w.heap.size wr v own ∧ Hid (own.Perm (namesOf (l.take k))) ∧ Hid (own.Pairwise LeN) ∧ Below w.heap.size w wr) (fun _ i _ => m - (Lib.intOf i).toNat)
  case atStart => exact ⟨0, [], Nat.zero_le _, rfl, OwnN.nil _ _ _, by exact List.Perm.nil, by exact List.Pairwise.nil, .refl _ _⟩
  case round =>
    obtain ⟨i, own, hi, rfl, hown, Hper, Hsor, hb⟩ := hrel
    have HO := Lib.hid hown
    have HB := Lib.hid hb
    clear hown hb
    have Hlen : Hid (own.length ≤ 1000000) := by
      have := Hper.out.length_eq
      rw [Hid, this]
      exact Nat.le_trans (namesOf_le l i) (Nat.le_trans hi Hl.out)
    by_cases hlt : i < m
    · have hlt' : i < l.length := by rw [Hm.out]; exact hlt
      obtain ⟨ad, s, rfl, hab, hcell, hs⟩ := RdT.at_ HR.out hlt'
      have hcr := (HB.out.cell (p := ad.add i) (by rw [block_of_add]; exact hab)).trans hcell
      have Hs : Hid (s.length ≤ 1048000) := Hall.out s (List.mem_of_getElem? hs.out)
      have hsn := namesOf_snoc hs.out
      clear hab hcell hs hlt'
      cases hp : parseOf s with
      | none =>
        have Hp := Lib.hid hp
        rw [hp, Option.toList_none, List.append_nil] at hsn
        have Hsn := Lib.hid hsn
        clear hp hsn
        go_wp2_with (go_at_call 18; refine (rparse_no s Hp.out _ Hs.out).mono ?_; rintro e w2 ⟨rfl, hb2⟩)
        go_roundw
        case rel => exact ⟨i + 1, own, by omega, by go_num, OwnN.below HO.out (hb2.alloc hb2.size _), by rw [Hsn.out]; exact Hper, Hsor, (HB.out.trans (hb2.mono HB.out.size)).alloc (Nat.le_trans HB.out.size hb2.size) _⟩
        case measure => simp [Lib.intOf]; omega
      | some x =>
        have Hkx : Hid (x.k < 256) := (put_parse hp).2.2.k
        have Hp := Lib.hid hp
        rw [hp, Option.toList_some] at hsn
        have Hsn := Lib.hid hsn
        clear hp hsn
        go_upto_region 7 with (go_at_call 18; refine (rparse_yes s x Hp.out _ Hs.out).mono ?_; rintro e w2 ⟨rfl, hb2⟩)
        obtain ⟨W, hW⟩ : ∃ W, Hid (W = w2.alloc (.cells #[.int .u8 (x.k : Int), .int .u64 (x.d : Int), .int .u64 (x.n : Int), .int .u64 (x.p : Int), .int .u64 (x.i : Int), .int .u64 (x.c : Int)] 25)) := ⟨_, rfl⟩
        rw [← hW.out]
        have h2W : Below wr.heap.size wr W := by rw [hW.out]; exact hb2.alloc hb2.size _
        have HX : Hid (BoxNm x W ⟨w2.heap.size, 0, none⟩) := by rw [hW.out]; exact boxNm_new x w2 _
        have HO2 := Lib.hid (OwnN.below HO.out h2W)
        have HB2 := Lib.hid (HB.out.trans (h2W.mono HB.out.size))
        have x0 : W.cell? ⟨w2.heap.size, 0, none⟩ = some (.int .u8 (x.k : Int)) := HX.out.c0
        have x1 : W.cell? ⟨w2.heap.size, 1, none⟩ = some (.int .u64 (x.d : Int)) := HX.out.c1
        have x2 : W.cell? ⟨w2.heap.size, 2, none⟩ = some (.int .u64 (x.n : Int)) := HX.out.c2
        have x3 : W.cell? ⟨w2.heap.size, 3, none⟩ = some (.int .u64 (x.p : Int)) := HX.out.c3
        have x4 : W.cell? ⟨w2.heap.size, 4, none⟩ = some (.int .u64 (x.i : Int)) := HX.out.c4
        have x5 : W.cell? ⟨w2.heap.size, 5, none⟩ = some (.int .u64 (x.c : Int)) := HX.out.c5
        clear h2W hb2
        go_upto_region 8 with (at_builtin; refine push_name nmSl2 (.tmp 24) (.tmp 26) x HO2.out HB2.out.size (by have := Hlen.out; omega) rfl rfl rfl rfl rfl ?_; intro v1 w3 hown1 hb3 hbs3)
        obtain ⟨g, cap, rest, rfl, hg, hrow, hcap, hcm, hrl⟩ : ∃ g cap rest, v1 = .slice (some ⟨g, 0, none⟩) (own ++ [x]).length cap ∧ w.heap.size ≤ g ∧ RowN w3 g 25 (own ++ [x]) rest ∧ (own ++ [x]).length ≤ cap ∧ cap ≤ maxLen ∧ (ncells (own ++ [x]) ++ rest).length = cap * 6 := by
          rcases OwnN.form hown1 with ⟨_, h⟩ | h
          · exact absurd h (by simp)
          · exact h
        obtain ⟨n, hn⟩ : ∃ n, Hid (n = (own ++ [x]).length) := ⟨_, rfl⟩
        rw [← hn.out] at hcap ⊢
        have Hn1 : Hid (n = own.length + 1) := by rw [hn.out]; simp [Hid]
        have Hnm : Hid (n ≤ 1000001) := by
          have := Hn1.out
          have := Hlen.out
          exact (by omega : n ≤ 1000001)
        have Hrow := Lib.hid hrow
        have Hg := Lib.hid hg
        have Hcap := Lib.hid hcap
        have Hcm := Lib.hid hcm
        have Hrl := Lib.hid hrl
        have HB3 := Lib.hid (HB2.out.trans hb3)
        clear hown1 hb3 hbs3 hrow hg hcap hcm hrl HX HO2 HB2 hW
        obtain ⟨wo, hwo⟩ : ∃ wo : World, Hid (wo = wr) := ⟨_, rfl⟩
        go_wp2
        go_loopw [7] (fun j wz => ∃ (q : Nat) (xs : List Nm), j = .int .i64 (q : Int) ∧ Hid (InSt own x q xs) ∧ Hid (RowN wz g 25 xs rest) ∧ Below w.heap.size w wz) (fun j _ => (Lib.intOf j).toNat)
        case atStart => exact ⟨own.length, own ++ [x], by have h1 := Hn1.out; have h2 := Hlen.out; rw [wrap_sub h1 (by omega)], InSt.start own x, Hrow.out, HB3.out⟩
        case round =>
          obtain ⟨q, xs, rfl, Hin, Hrw, hbz⟩ := hrel
          have HZ := Lib.hid hbz
          clear hbz
          have Hxn : Hid (xs.length = n) := by
            rw [Hn1.out]
            exact Hin.out.length
          have Hpx : Hid (xs.Perm (namesOf (l.take (i + 1)))) := by
            rw [Hsn.out]
            exact Hin.out.perm.trans (Hper.out.append_right [x])
          have Hqn : Hid (q < n) := by rw [← Hxn.out]; exact Hin.out.le
          have Hq63 : Hid (q < 9223372036854775807) := by
            have := Hqn.out
            have := Hnm.out
            exact (by omega : q < 9223372036854775807)
          by_cases hq0 : q = 0
          · have Hq0 : Hid (¬ (0 : Int) < (q : Int)) := by
              rw [hq0]
              exact (by decide : ¬ (0 : Int) < ((0 : Nat) : Int))
            have Hso : Hid (xs.Pairwise LeN) := by
              have h := Hin.out
              rw [hq0] at h
              exact h.stop0 Hsor.out
            clear hq0
            go_upto_region 9 with fail
            go_cut [45] from 31 to 45 (fun s wx => s = .bool false ∧ Below wr.heap.size wr wx)
            case first =>
              rename_i J K1 hJ hK
              refine wp_region_skips (n := 65) (CpZ q) (CpD wr) (by kernel_rfl) (by kernel_rfl) rfl ?_ ?_ ?_
              · exact (Below.refl _ _).drew
              · skip
                refine OksOp.cons _ _ (OkOp.of _ _ (OpOk.run _ _ CpZ.keep CpD.keep fun b v hs hc hg => ⟨rfl, _, _, exec_move rfl (hs 7 (by kernel_rfl)), .refl _ _, rfl⟩)) ?_
                refine OksOp.cons _ _ (OkOp.of _ _ (OpOk.run _ _ CpZ.keep CpD.keep fun b v hs hc hg => ⟨rfl, _, _, exec_gtrI rfl (dep hg 0 rfl rfl rfl rfl) rfl, .refl _ _, by rw [decide_eq_false Hq0.out]; rfl⟩)) ?_
                refine OksOp.cons _ _ (OkOp.of _ _ (OpOk.run _ _ CpZ.keep CpD.keep fun b v hs hc hg => ⟨rfl, _, _, exec_move rfl (dep hg 0 rfl rfl rfl rfl), .refl _ _, rfl⟩)) ?_
                refine OksOp.cons _ _ (OkOp.skip _ _ fun b v hs hc hg => ⟨unwanted_of rfl rfl rfl (dep hg 0 rfl rfl rfl rfl), rfl⟩) ?_
                refine OksOp.cons _ _ (OkOp.skip _ _ fun b v hs hc hg => ⟨unwanted_of rfl rfl rfl (dep hg 0 rfl rfl rfl rfl), rfl⟩) ?_
                refine OksOp.cons _ _ (OkOp.skip _ _ fun b v hs hc hg => ⟨unwanted_of rfl rfl rfl (dep hg 1 rfl rfl rfl rfl), rfl⟩) ?_
                refine OksOp.cons _ _ (OkOp.skip _ _ fun b v hs hc hg => ⟨unwanted_of rfl rfl rfl (dep hg 2 rfl rfl rfl rfl), rfl⟩) ?_
                refine OksOp.cons _ _ (OkOp.skip _ _ fun b v hs hc hg => ⟨unwanted_of rfl rfl rfl (dep hg 1 rfl rfl rfl rfl), rfl⟩) ?_
                refine OksOp.cons _ _ (OkOp.skip _ _ fun b v hs hc hg => ⟨unwanted_of rfl rfl rfl (dep hg 0 rfl rfl rfl rfl), rfl⟩) ?_
                refine OksOp.cons _ _ (OkOp.skip _ _ fun b v hs hc hg => ⟨unwanted_of rfl rfl rfl (dep hg 0 rfl rfl rfl rfl), rfl⟩) ?_
                refine OksOp.cons _ _ (OkOp.skip _ _ fun b v hs hc hg => ⟨unwanted_of rfl rfl rfl (dep hg 2 rfl rfl rfl rfl), rfl⟩) ?_
                refine OksOp.cons _ _ (OkOp.skip _ _ fun b v hs hc hg => ⟨unwanted_of rfl rfl rfl (dep hg 1 rfl rfl rfl rfl), rfl⟩) ?_
                refine OksOp.cons _ _ (OkOp.skip _ _ fun b v hs hc hg => ⟨unwanted_of rfl rfl rfl (dep hg 2 rfl rfl rfl rfl), rfl⟩) ?_
                refine OksOp.cons _ _ (OkOp.skip _ _ fun b v hs hc hg => ⟨unwanted_of rfl rfl rfl (dep hg 1 rfl rfl rfl rfl), rfl⟩) ?_
                refine OksOp.cons _ _ (OkOp.of _ _ (OpOk.run _ _ CpZ.keep CpD.keep fun b v hs hc hg => ⟨rfl, _, _, exec_pick rfl (dep hg 0 rfl rfl rfl rfl) rfl, .refl _ _, rfl⟩)) ?_
                exact OksOp.nil _ _
              · intro b' w' hsz hd hs hc hall
                refine hK _ _ (Met.intro (hJ _ _ ?_))
                exact ⟨b'.tmps.getD 31 undef, b'.tmps.getD 32 undef, b'.tmps.getD 33 undef, b'.tmps.getD 34 undef, b'.tmps.getD 35 undef, b'.tmps.getD 36 undef, b'.tmps.getD 37 undef, b'.tmps.getD 38 undef, b'.tmps.getD 39 undef, b'.tmps.getD 40 undef, b'.tmps.getD 41 undef, b'.tmps.getD 42 undef, b'.tmps.getD 43 undef, b'.tmps.getD 44 undef, b'.tmps.getD 45 undef, ⟨hall 14 _ _ rfl rfl, hc⟩, (act_known hsz hd hs).trans (by kernel_rfl)⟩
            obtain ⟨rfl, hb9⟩ := hcut
            have HB9 := Lib.hid (HZ.out.trans (hb9.mono HZ.out.size))
            have Hrw9 := Lib.hid (Hrw.out.keep hb9)
            clear hb9
            go_wp2
            go_roundw
            case rel => exact ⟨i + 1, xs, by omega, by go_num, OwnN.of' Hxn.out Hg.out Hrw9.out Hcap.out Hcm.out (by rw [List.length_append, ncells_len, Hxn.out, hn.out, ← ncells_len, ← List.length_append]; exact Hrl.out), Hpx, Hso, HB9.out⟩
            case measure => simp [Lib.intOf]; omega
          · obtain ⟨k, hk⟩ : ∃ k, q = k + 1 := ⟨q - 1, by omega⟩
            have Hqk := Lib.hid hk
            have Hi2 : Hid (InSt own x (k + 1) xs) := by
              have h := Hin.out
              rwa [hk] at h
            obtain ⟨_, a, _, _, _, _, _, ha, hx⟩ := Hi2.out.two
            have Hq0 : Hid ((0 : Int) < (q : Int)) := (by omega : (0 : Int) < (q : Int))
            have Hkn : Hid (k < n) := by
              have := Hqn.out
              exact (by omega : k < n)
            have Ha := Lib.hid ha
            have hx' : xs[q]? = some x := by rw [hk]; exact hx
            have Hx' := Lib.hid hx'
            have HbA := Lib.hid (Hrw.out.box ha)
            have HbX := Lib.hid (Hrw.out.box hx')
            have Hka : Hid (a.k < 256) := namesOf_kind (Hpx.out.mem_iff.1 (List.mem_of_getElem? ha))
            clear hk hx hx' ha hq0
            go_upto_region 9 with fail
            go_cut [45] from 31 to 45 (fun s wx => s = .bool (decide (0 < cmpOf a x)) ∧ Below wr.heap.size wr wx)
            case first =>
              rename_i J K1 hJ hK
              refine wp_region_skips (n := 65) (CpF a x g q k n cap) (CpC wr a x g q k) (by kernel_rfl) (by kernel_rfl) rfl ?_ ?_ ?_
              · exact ⟨(Below.refl _ _).drew, HbA.out.keep (Below.refl _ _).drew, HbX.out.keep (Below.refl _ _).drew⟩
              · skip
                refine OksOp.cons _ _ (OkOp.of _ _ (OpOk.run _ _ CpF.keep CpC.keep fun b v hs hc hg => ⟨rfl, _, _, exec_move rfl (hs 7 (by kernel_rfl)), .refl _ _, rfl⟩)) ?_
                refine OksOp.cons _ _ (OkOp.of _ _ (OpOk.run _ _ CpF.keep CpC.keep fun b v hs hc hg => ⟨rfl, _, _, exec_gtrI rfl (dep hg 0 rfl rfl rfl rfl) rfl, .refl _ _, by rw [decide_eq_true Hq0.out]; rfl⟩)) ?_
                refine OksOp.cons _ _ (OkOp.of _ _ (OpOk.run _ _ CpF.keep CpC.keep fun b v hs hc hg => ⟨rfl, _, _, exec_move rfl (dep hg 0 rfl rfl rfl rfl), .refl _ _, rfl⟩)) ?_
                refine OksOp.cons _ _ (OkOp.of _ _ (OpOk.run _ _ CpF.keep CpC.keep fun b v hs hc hg => ⟨wanted_of rfl rfl rfl (dep hg 0 rfl rfl rfl rfl), _, _, exec_move rfl (hs 3 (by kernel_rfl)), .refl _ _, rfl⟩)) ?_
                refine OksOp.cons _ _ (OkOp.of _ _ (OpOk.run _ _ CpF.keep CpC.keep fun b v hs hc hg => ⟨wanted_of rfl rfl rfl (dep hg 0 rfl rfl rfl rfl), _, _, exec_move rfl (hs 7 (by kernel_rfl)), .refl _ _, rfl⟩)) ?_
                refine OksOp.cons _ _ (OkOp.of _ _ (OpOk.run _ _ CpF.keep CpC.keep fun b v hs hc hg => ⟨wanted_of rfl rfl rfl (dep hg 1 rfl rfl rfl rfl), _, _, exec_subI Hqk.out Hq63.out rfl (dep hg 0 rfl rfl rfl rfl) rfl, .refl _ _, rfl⟩)) ?_
                refine OksOp.cons _ _ (OkOp.of _ _ (OpOk.run _ _ CpF.keep CpC.keep fun b v hs hc hg => ⟨wanted_of rfl rfl rfl (dep hg 2 rfl rfl rfl rfl), _, _, exec_atR rfl (dep hg 0 rfl rfl rfl rfl) (dep hg 1 rfl rfl rfl rfl) Hkn.out, .refl _ _, rfl⟩)) ?_
                refine OksOp.cons _ _ (OkOp.of _ _ (OpOk.run _ _ CpF.keep CpC.keep fun b v hs hc hg => ⟨wanted_of rfl rfl rfl (dep hg 1 rfl rfl rfl rfl), _, _, exec_loadR rfl (dep hg 0 rfl rfl rfl rfl) hc.2.1, .refl _ _, rfl⟩)) ?_
                refine OksOp.cons _ _ (OkOp.of _ _ (OpOk.run _ _ CpF.keep CpC.keep fun b v hs hc hg => ⟨wanted_of rfl rfl rfl (dep hg 0 rfl rfl rfl rfl), _, _, exec_move rfl (hs 3 (by kernel_rfl)), .refl _ _, rfl⟩)) ?_
                refine OksOp.cons _ _ (OkOp.of _ _ (OpOk.run _ _ CpF.keep CpC.keep fun b v hs hc hg => ⟨wanted_of rfl rfl rfl (dep hg 0 rfl rfl rfl rfl), _, _, exec_move rfl (hs 7 (by kernel_rfl)), .refl _ _, rfl⟩)) ?_
                refine OksOp.cons _ _ (OkOp.of _ _ (OpOk.run _ _ CpF.keep CpC.keep fun b v hs hc hg => ⟨wanted_of rfl rfl rfl (dep hg 2 rfl rfl rfl rfl), _, _, exec_atR rfl (dep hg 0 rfl rfl rfl rfl) (dep hg 1 rfl rfl rfl rfl) Hqn.out, .refl _ _, rfl⟩)) ?_
                refine OksOp.cons _ _ (OkOp.of _ _ (OpOk.run _ _ CpF.keep CpC.keep fun b v hs hc hg => ⟨wanted_of rfl rfl rfl (dep hg 1 rfl rfl rfl rfl), _, _, exec_loadR rfl (dep hg 0 rfl rfl rfl rfl) hc.2.2, .refl _ _, rfl⟩)) ?_
                refine OksOp.cons _ _ (OkOp.of _ _ (OpOk.call _ _ CpF.keep CpC.keep fun b v hs hc hg => ⟨wanted_of rfl rfl rfl (dep hg 2 rfl rfl rfl rfl), _, _, exec_call2 (enter_rcompare _) rfl (dep hg 0 rfl rfl rfl rfl) (dep hg 1 rfl rfl rfl rfl), ans_q (rcompare_any a x Hka.out Hkx.out v)⟩)) ?_
                refine OksOp.cons _ _ (OkOp.of _ _ (OpOk.run _ _ CpF.keep CpC.keep fun b v hs hc hg => ⟨wanted_of rfl rfl rfl (dep hg 1 rfl rfl rfl rfl), _, _, exec_gtrI rfl (dep hg 0 rfl rfl rfl rfl) rfl, .refl _ _, rfl⟩)) ?_
                refine OksOp.cons _ _ (OkOp.of _ _ (OpOk.run _ _ CpF.keep CpC.keep fun b v hs hc hg => ⟨rfl, _, _, exec_pick rfl (dep hg 0 rfl rfl rfl rfl) (dep hg 1 rfl rfl rfl rfl), .refl _ _, rfl⟩)) ?_
                exact OksOp.nil _ _
              · intro b' w' hsz hd hs hc hall
                refine hK _ _ (Met.intro (hJ _ _ ?_))
                exact ⟨b'.tmps.getD 31 undef, b'.tmps.getD 32 undef, b'.tmps.getD 33 undef, b'.tmps.getD 34 undef, b'.tmps.getD 35 undef, b'.tmps.getD 36 undef, b'.tmps.getD 37 undef, b'.tmps.getD 38 undef, b'.tmps.getD 39 undef, b'.tmps.getD 40 undef, b'.tmps.getD 41 undef, b'.tmps.getD 42 undef, b'.tmps.getD 43 undef, b'.tmps.getD 44 undef, b'.tmps.getD 45 undef, ⟨hall 14 _ _ rfl rfl, hc.1⟩, (act_known hsz hd hs).trans (by kernel_rfl)⟩
            obtain ⟨rfl, hb9⟩ := hcut
            have HB9 := Lib.hid (HZ.out.trans (hb9.mono HZ.out.size))
            have Hrw9 := Lib.hid (Hrw.out.keep hb9)
            clear hb9 HbA HbX
            by_cases hgt : 0 < cmpOf a x
            · have Hi3 : Hid (InSt own x k ((xs.set k x).set q a)) := by
                rw [Hqk.out]
                exact Hi2.out.step Ha.out hgt
              have hdec : decide (0 < cmpOf a x) = true := decide_eq_true hgt
              rw [hdec]
              clear hgt hdec
              go_upto_region 11 with fail
              refine wp_last ?_
              go_cut [63] from 48 to 63 (fun s wx => RowN wx g 25 ((xs.set k x).set q a) rest ∧ Below w.heap.size w wx)
              case first =>
                rename_i J K1 hJ hK
                have Hr0 : Hid (RowN wc.drew g 25 xs rest) := Hrw9.out
                have HbX := Lib.hid (Hr0.out.box Hx'.out)
                have HbA := Lib.hid (Hr0.out.box Ha.out)
                have Hkl : Hid (k < xs.length) := by rw [Hxn.out]; exact Hkn
                have Hr1 := Lib.hid (Hr0.out.put (xs.set k x))
                have Hql : Hid (q < (xs.set k x).length) := by rw [List.length_set, Hxn.out]; exact Hqn
                have Hr2 := Lib.hid (Hr1.out.put ((xs.set k x).set q a))
                have Hb0 : Hid (Below w.heap.size w wc.drew) := HB9.out.drew
                have Hb2 := Lib.hid (below_setRow' (below_setRow' Hb0.out Hg.out (ncells (xs.set k x) ++ rest).toArray) Hg.out (ncells ((xs.set k x).set q a) ++ rest).toArray)
                refine wp_region_stages (n := 65) (SwF a x g q k n cap) (TwoW 15 17 wc.drew (wc.drew.setRow g (ncells (xs.set k x) ++ rest).toArray) ((wc.drew.setRow g (ncells (xs.set k x) ++ rest).toArray).setRow g (ncells ((xs.set k x).set q a) ++ rest).toArray)) (by kernel_rfl) (by kernel_rfl) rfl ?_ ?_ ?_
                · intro L hL
                  unfold TwoW
                  rw [hL 15, hL 17]
                  rfl
                · skip
                  refine OpsSt.cons _ _ (OpSt.pure (by decide) (by decide) fun b w hs hg => ⟨rfl, _, exec_move rfl (hs 3 (by kernel_rfl)), rfl⟩) ?_
                  refine OpsSt.cons _ _ (OpSt.pure (by decide) (by decide) fun b w hs hg => ⟨rfl, _, exec_move rfl (hs 7 (by kernel_rfl)), rfl⟩) ?_
                  refine OpsSt.cons _ _ (OpSt.pure (by decide) (by decide) fun b w hs hg => ⟨rfl, _, exec_subI Hqk.out Hq63.out rfl (dep hg 0 rfl rfl rfl rfl) rfl, rfl⟩) ?_
                  refine OpsSt.cons _ _ (OpSt.pure (by decide) (by decide) fun b w hs hg => ⟨rfl, _, exec_move rfl (hs 3 (by kernel_rfl)), rfl⟩) ?_
                  refine OpsSt.cons _ _ (OpSt.pure (by decide) (by decide) fun b w hs hg => ⟨rfl, _, exec_move rfl (hs 7 (by kernel_rfl)), rfl⟩) ?_
                  refine OpsSt.cons _ _ (OpSt.pure (by decide) (by decide) fun b w hs hg => ⟨rfl, _, exec_move rfl (hs 3 (by kernel_rfl)), rfl⟩) ?_
                  refine OpsSt.cons _ _ (OpSt.pure (by decide) (by decide) fun b w hs hg => ⟨rfl, _, exec_move rfl (hs 7 (by kernel_rfl)), rfl⟩) ?_
                  refine OpsSt.cons _ _ (OpSt.pure (by decide) (by decide) fun b w hs hg => ⟨rfl, _, exec_atR rfl (dep hg 0 rfl rfl rfl rfl) (dep hg 1 rfl rfl rfl rfl) Hqn.out, rfl⟩) ?_
                  refine OpsSt.cons _ _ (OpSt.load (by decide) (by decide) (fun L hcl hn => ⟨notyet (s := 15) (k := 1) hcl rfl rfl rfl hn, notyet (s := 17) (k := 11) hcl rfl rfl rfl hn⟩) fun b hs hg => ⟨rfl, _, exec_loadR rfl (dep hg 0 rfl rfl rfl rfl) HbX.out, rfl⟩) ?_
                  refine OpsSt.cons _ _ (OpSt.pure (by decide) (by decide) fun b w hs hg => ⟨rfl, _, exec_move rfl (hs 3 (by kernel_rfl)), rfl⟩) ?_
                  refine OpsSt.cons _ _ (OpSt.pure (by decide) (by decide) fun b w hs hg => ⟨rfl, _, exec_move rfl (hs 7 (by kernel_rfl)), rfl⟩) ?_
                  refine OpsSt.cons _ _ (OpSt.pure (by decide) (by decide) fun b w hs hg => ⟨rfl, _, exec_subI Hqk.out Hq63.out rfl (dep hg 0 rfl rfl rfl rfl) rfl, rfl⟩) ?_
                  refine OpsSt.cons _ _ (OpSt.pure (by decide) (by decide) fun b w hs hg => ⟨rfl, _, exec_atR rfl (dep hg 0 rfl rfl rfl rfl) (dep hg 1 rfl rfl rfl rfl) Hkn.out, rfl⟩) ?_
                  refine OpsSt.cons _ _ (OpSt.load (by decide) (by decide) (fun L hcl hn => ⟨notyet (s := 15) (k := 15) hcl rfl rfl rfl hn, notyet (s := 17) (k := 1) hcl rfl rfl rfl hn⟩) fun b hs hg => ⟨rfl, _, exec_loadR rfl (dep hg 0 rfl rfl rfl rfl) HbA.out, rfl⟩) ?_
                  refine OpsSt.cons _ _ (OpSt.pure (by decide) (by decide) fun b w hs hg => ⟨rfl, _, exec_atR rfl (dep hg 0 rfl rfl rfl rfl) (dep hg 1 rfl rfl rfl rfl) Hkn.out, rfl⟩) ?_
                  refine OpsSt.cons _ _ (OpSt.first (by decide) (fun _ _ _ _ h => h) rfl (fun L hcl hn => notyet (s := 17) (k := 2) hcl rfl rfl rfl hn) fun b hs hg => ⟨rfl, fun K hK => wp_storeN size_rnm rfl (dep hg 0 rfl rfl rfl rfl) (dep hg 1 rfl rfl rfl rfl) Hr0.out Hkl.out hK⟩) ?_
                  refine OpsSt.cons _ _ (OpSt.pure (by decide) (by decide) fun b w hs hg => ⟨rfl, _, exec_atR rfl (dep hg 0 rfl rfl rfl rfl) (dep hg 1 rfl rfl rfl rfl) Hqn.out, rfl⟩) ?_
                  refine OpsSt.cons _ _ (OpSt.last (fun _ _ _ _ h => h) rfl (k := 2) rfl rfl rfl fun b hs hg => ⟨rfl, fun K hK => wp_storeN size_rnm rfl (dep hg 0 rfl rfl rfl rfl) (dep hg 1 rfl rfl rfl rfl) Hr1.out Hql.out hK⟩) ?_
                  exact OpsSt.nil _ _
                · intro L b' w' hall hsz hd hs hC hf
                  have hw2 : w' = (wc.drew.setRow g (ncells (xs.set k x) ++ rest).toArray).setRow g (ncells ((xs.set k x).set q a) ++ rest).toArray := by
                    unfold TwoW at hC
                    rw [hall 17 (by decide)] at hC
                    exact hC
                  subst hw2
                  refine hK _ _ (Met.intro (hJ _ _ ?_))
                  exact ⟨b'.tmps.getD 48 undef, b'.tmps.getD 49 undef, b'.tmps.getD 50 undef, b'.tmps.getD 51 undef, b'.tmps.getD 52 undef, b'.tmps.getD 53 undef, b'.tmps.getD 54 undef, b'.tmps.getD 55 undef, b'.tmps.getD 56 undef, b'.tmps.getD 57 undef, b'.tmps.getD 58 undef, b'.tmps.getD 59 undef, b'.tmps.getD 60 undef, b'.tmps.getD 61 undef, b'.tmps.getD 62 undef, b'.tmps.getD 63 undef, ⟨Hr2.out, Hb2.out⟩, (act_known hsz hd hs).trans (by kernel_rfl)⟩
              obtain ⟨hrow2, hb2⟩ := hcut
              have Hrow2 := Lib.hid hrow2
              have Hb2 := Lib.hid hb2
              have hq1 := Hqk.out
              clear hrow2 hb2
              go_wp2
              go_roundw
              case rel => exact ⟨k, _, by have := Hq63.out; congr 1; unfold wrap64; omega, Hi3, Hrow2, Hb2.out⟩
              case measure => exact meas_sub hq1 Hq63.out
            · have Hso : Hid (xs.Pairwise LeN) := Hi2.out.stop Ha.out hgt Hsor.out
              have hdec : decide (0 < cmpOf a x) = false := decide_eq_false hgt
              rw [hdec]
              clear hgt hdec
              go_wp2
              go_roundw
              case rel => exact ⟨i + 1, xs, by omega, by go_num, OwnN.of' Hxn.out Hg.out Hrw9.out Hcap.out Hcm.out (by rw [List.length_append, ncells_len, Hxn.out, hn.out, ← ncells_len, ← List.length_append]; exact Hrl.out), Hpx, Hso, HB9.out⟩
              case measure => simp [Lib.intOf]; omega
    · obtain rfl : i = m := by omega
      have Hfin : Hid (own = sortN (namesOf l)) := by
        have h := Hper.out
        rw [List.take_of_length_le (by rw [Hm.out]; exact Nat.le_refl _)] at h
        exact sortN_of Hsor.out h
      go_wp2
      go_ret
      refine ⟨⟨_, rfl, ?_⟩, HB.out⟩
      rw [← Hfin.out]
      exact HO.out
end Go.Proofs.YtipmpebckfaknaaDoor
