/- The walk of RecordPuts: whatever the record, it returns true. Conditions: none. -/
import Derived.Test.YtfhcpjnjemojgaaKLawRR
namespace Go.Proofs.Ytfhcpjnjemojgaa
open Go.RowKit

theorem enter_few6 (w : World) (args : Array Value) : (callFunc 8 args).run Try.prog w = .ok (.enter 8 args) w := by kernel_rfl
theorem enter_Put6 (w : World) (args : Array Value) : (callFunc 12 args).run Try.prog w = .ok (.enter 12 args) w := by kernel_rfl
theorem enter_Right6 (w : World) (args : Array Value) : (callFunc 14 args).run Try.prog w = .ok (.enter 14 args) w := by kernel_rfl
theorem enter_rPut6 (w : World) (args : Array Value) : (callFunc 10 args).run Try.prog w = .ok (.enter 10 args) w := by kernel_rfl
theorem enter_Word6 (w : World) (args : Array Value) : (callFunc 16 args).run Try.prog w = .ok (.enter 16 args) w := by kernel_rfl
theorem enter_rWord6 (w : World) (args : Array Value) : (callFunc 17 args).run Try.prog w = .ok (.enter 17 args) w := by kernel_rfl
section
variable {b : Act} {w : World} {o : Oper}
theorem exec_eqB6 {x y : Operand} {c d : Bool} (ho : o.op = .binOp .eql 4 x y 4) (h : b.eval x = .bool c) (h' : b.eval y = .bool d) : (execOp b.eval o).run Try.prog w = .ok (.value (.bool (c == d))) w := by
  unfold execOp
  simp only [ho, h, h']
  go_simp
theorem exec_eqT6 {x y : Operand} {l m : List UInt8} (ho : o.op = .binOp .eql 9 x y 9) (h : b.eval x = .string (txt l)) (h' : b.eval y = .string (txt m)) : (execOp b.eval o).run Try.prog w = .ok (.value (.bool (decide (l = m)))) w := by
  unfold execOp
  simp only [ho, h, h']
  go_simp
  rw [txt_beq]
end
def RpF (x : Rc) (g : Nat) : Nat → Value → World → Prop
  | 0, v, _ => v = x.v
  | 1, v, _ => v = .bool (rightM x)
  | 2, v, _ => v = x.v
  | 3, v, _ => v = x.v
  | 4, v, _ => v = .bool (rightM x)
  | 5, v, _ => v = .bool true
  | 6, v, _ => v = .bool true
  | 7, v, _ => v = .pointer (some ⟨g, 0, none⟩)
  | 8, v, _ => v = .int .u8 (x.k : Int)
  | 9, v, _ => v = .string (txt (wordOf x.k))
  | 10, v, _ => v = .pointer (some ⟨g, 0, none⟩)
  | 11, v, _ => v = .int .u8 (x.k : Int)
  | 12, v, _ => v = .string (txt (wordOf x.k))
  | 13, v, _ => v = .bool true
  | 14, v, _ => v = .bool true
  | 15, v, _ => v = .bool true
  | 16, v, _ => v = .bool true
  | 17, v, _ => v = .bool true
  | 18, v, _ => v = .bool true
  | _, _, _ => True
theorem RpF.keep {x : Rc} {g : Nat} (i : Nat) (u : Value) (w w' : World) (_hb : Below w.heap.size w w') (h : RpF x g i u w) : RpF x g i u w' :=
  match i, h with
  | 0, h | 1, h | 2, h | 3, h | 4, h | 5, h | 6, h | 7, h | 8, h | 9, h | 10, h | 11, h | 12, h | 13, h | 14, h | 15, h | 16, h | 17, h | 18, h => h
  | _ + 19, h => h
def RpC (W : World) (x : Rc) (g : Nat) (w : World) : Prop := Below W.heap.size W w ∧ RecAt x w g
theorem RpC.keep {W : World} {x : Rc} {g : Nat} (w w' : World) (hb : Below w.heap.size w w') (hc : RpC W x g w) : RpC W x g w' := ⟨hc.1.trans (hb.mono hc.1.size), hc.2.below hb hc.2.lt⟩
theorem putM_len {x : Rc} (hx : x.Ok) : (putM x).1.length ≤ 600 := by
  unfold putM
  split
  · rename_i h
    have := body_small hx h
    simp only
    rw [encFr_len]
    unfold fsz
    have := sz_10 (n := (body x (allP x.k)).length) (by omega)
    omega
  · simp

set_option maxHeartbeats 8000000 in
set_option maxRecDepth 100000 in
theorem recPuts_any (x : Rc) (hok : x.Ok) (w : World) : Calls Try.prog 3 #[x.v] w fun e w' => e = .returned (.bool true) ∧ Below w.heap.size w w' := by
  obtain ⟨W, hW⟩ : ∃ W, Hid (W = w.alloc (.cells x.cells.toArray 24)) := ⟨_, rfl⟩
  have hbW : Hid (Below w.heap.size w W) := by rw [hW.out]; exact below_new _ _
  have hx : Hid (RecAt x W w.heap.size) := by rw [hW.out]; exact recAt_new x w
  have HW' := Lib.hid (show w.alloc (.cells #[.int .u8 (x.k : Int), .int .u64 (x.p : Int), .int .u64 (x.i : Int), .int .u64 (x.q : Int), .int .u64 (x.e : Int), .int .u64 (x.u : Int), .int .u64 (x.r : Int), .int .u64 (x.c : Int), .int .u64 (x.z : Int), .int .u64 (x.s : Int), .string (txt x.n), .string (txt x.t)] 24) = W from hW.out.symm)
  have Hok := Lib.hid hok
  have Hfew := Lib.hid (few_any x W)
  clear hok
  unfold Rc.v
  go_enter Try.func3, Try.ntmps3
  go_upto_region 1 with fail
  rw [HW'.out]
  refine wp_region_lit ?_
  refine wpList_runG (v := x.v) (w' := W) (by kernel_rfl) (exec_loadRec (x := .tmp 1) (g := w.heap.size) rfl (by kernel_rfl) hx.out.cells12) ?_
  go_frame
  refine wpList_callG (by kernel_rfl) (exec_call1 (v := x.v) (enter_few6 _) rfl (by kernel_rfl)) ?_
  refine Hfew.out.mono ?_
  rintro e w1 ⟨rfl, hb1⟩
  refine ⟨_, rfl, ?_⟩
  go_frame
  refine wpList_run (v := .bool (!fewM x)) (w' := w1) rfl (by kernel_rfl) ?_
  go_frame
  have hx1 := Lib.hid (hx.out.below hb1 hx.out.lt)
  have hb1w := Lib.hid (hbW.out.trans (hb1.mono hbW.out.size))
  clear hb1
  cases hf : fewM x
  · go_wp2_with (go_at_call 9; refine (works6_any _).mono ?_; rintro e w' ⟨rfl, hb⟩)
    go_ret
    exact ⟨rfl, hb1w.out.trans (hb.mono hb1w.out.size)⟩
  rw [Bool.not_true]
  go_upto_region 3 with fail
  refine wp_region_lit ?_
  refine wpList_runG (v := x.v) (w' := w1) (by kernel_rfl) (exec_loadRec (x := .tmp 1) (g := w.heap.size) rfl (by kernel_rfl) hx1.out.cells12) ?_
  go_frame
  refine wpList_callG (by kernel_rfl) (exec_call1 (v := x.v) (enter_recRef _) rfl (by kernel_rfl)) ((ref_any x w1).mono ?_)
  rintro e w2 ⟨rfl, hb2⟩
  refine ⟨_, rfl, ?_⟩
  go_frame
  refine wpList_callG (by kernel_rfl) (exec_call1 (v := x.v) (enter_rPut6 _) rfl (by kernel_rfl)) ((refRecPut_any x Hok.out w2).mono ?_)
  rintro e w3 ⟨⟨v3, rfl, hown3⟩, hb3⟩
  refine ⟨_, rfl, ?_⟩
  go_frame
  have Hlen := Lib.hid (putM_len Hok.out)
  obtain ⟨l, E, hlE⟩ : ∃ l E, putM x = (l, E) := ⟨_, _, rfl⟩
  have HlE := Lib.hid hlE
  rw [hlE] at hown3 Hlen ⊢
  clear hlE
  simp only at hown3 Hlen ⊢
  obtain ⟨A3, c3, rfl, hc3, _, hr3⟩ := own_form hown3
  have hx3 := Lib.hid ((hx1.out.below hb2 hx1.out.lt).below hb3 (hx1.out.below hb2 hx1.out.lt).lt)
  have hb3w := Lib.hid ((hb1w.out.trans (hb2.mono hb1w.out.size)).trans (hb3.mono (Nat.le_trans hb1w.out.size hb2.size)))
  obtain ⟨B3, hB3⟩ : ∃ B3, Hid (B3 = w3.heap.size) := ⟨_, rfl⟩
  have Hr3 : Hid (RdB w3 B3 A3 l) := by rw [hB3.out]; exact Lib.hid hr3
  have Hgl := Lib.hid (show w.heap.size < B3 by rw [hB3.out]; exact hx3.out.lt)
  obtain ⟨n, hn⟩ : ∃ n, Hid (n = l.length) := ⟨_, rfl⟩
  rw [← hn.out]
  have hn600 : (n : Int) ≤ 600 := by have := Hlen.out; rw [hn.out]; omega
  clear hown3 hr3 hb2 hb3 hc3
  refine wpList_run (v := .tuple #[.slice A3 n c3, .int .i64 (E : Int)]) (w' := w3) rfl (by kernel_rfl) ?_
  go_frame
  refine wpList_run (v := .slice A3 n c3) (w' := w3) rfl (by kernel_rfl) ?_
  go_frame
  refine wpList_run (v := .int .i64 (E : Int)) (w' := w3) rfl (by kernel_rfl) ?_
  go_frame
  refine wpList_run (v := .slice A3 n c3) (w' := w3) rfl (by kernel_rfl) (wpList_run (v := .int .i64 (E : Int)) (w' := w3) rfl (by kernel_rfl) ?_)
  go_frame
  go_wp2
  go_loopw [5, 6, 7, 8] (fun t _ _ _ wr => ∃ k : Nat, k ≤ 2 ∧ t = .int .i64 (k : Int) ∧ Hid (RecAt x wr w.heap.size) ∧ Hid (B3 ≤ wr.heap.size) ∧ Hid (RdB wr B3 A3 l) ∧ Hid (Below w.heap.size w wr)) (fun t _ _ _ _ => 2 - (intOf t).toNat)
  case atStart => exact ⟨0, by omega, rfl, hx3, by rw [hB3.out]; exact Lib.hid (Nat.le_refl _), Hr3, hb3w⟩
  case round =>
    obtain ⟨k, hk, rfl, hxr, hBr, hrr, hbr⟩ := hrel
    by_cases hlt : k < 2
    · have hlt' : (k : Int) < 2 := by omega
      go_upto_region 7 with fail
      refine wp_region_lit ?_
      refine wpList_runG (v := x.v) (w' := wr) (by kernel_rfl) (exec_loadRec (x := .tmp 1) (g := w.heap.size) rfl (by kernel_rfl) hxr.out.cells12) ?_
      go_frame
      refine wpList_callG (by kernel_rfl) (exec_call1 (v := x.v) (enter_Put6 _) rfl (by kernel_rfl)) ((rput_any x Hok.out wr).mono ?_)
      rintro e w4 ⟨⟨v4, rfl, hown4⟩, hb4⟩
      rw [HlE.out] at hown4 ⊢
      simp only at hown4 ⊢
      obtain ⟨A4, c4, rfl, hc4, _, hr4⟩ := own_form hown4
      have Hown4 := Lib.hid hown4
      have hx4 := Lib.hid (hxr.out.below hb4 hxr.out.lt)
      have hB4 := Lib.hid (Nat.le_trans hBr.out hb4.size)
      have HS4 := Lib.hid hb4.size
      have hr34 := Lib.hid (hrr.out.below (hb4.mono hBr.out))
      have hbw4 := Lib.hid (hbr.out.trans (hb4.mono hbr.out.size))
      have hr4' : Hid (RdB w4 w4.heap.size A4 l) := Lib.hid hr4
      rw [← hn.out] at Hown4 ⊢
      clear hr4 hb4 hown4 hc4
      refine ⟨_, rfl, ?_⟩
      go_frame
      refine wpList_run (v := .tuple #[.slice A4 n c4, .int .i64 (E : Int)]) (w' := w4) rfl (by kernel_rfl) ?_
      go_frame
      refine wpList_run (v := .slice A4 n c4) (w' := w4) rfl (by kernel_rfl) ?_
      go_frame
      refine wpList_run (v := .int .i64 (E : Int)) (w' := w4) rfl (by kernel_rfl) ?_
      go_frame
      refine wpList_run (v := .slice A4 n c4) (w' := w4) rfl (by kernel_rfl) (wpList_run (v := .int .i64 (E : Int)) (w' := w4) rfl (by kernel_rfl) ?_)
      go_frame
      have e1 : ((E : Int) != (E : Int)) = false := by simp
      have e2 : (E != E) = false := by simp
      have HS := Lib.hid (sameT_any (c := c4) (c' := c3) (l := l) (m := l) (n := n) (n' := n) hn.out.symm hn.out.symm rfl (by omega) hr4'.out hr34.out)
      go_upto_region 10 with (go_at_call 13; refine HS.out.mono ?_; rintro e w5 ⟨rfl, hb5⟩)
      have hx5 := Lib.hid (hx4.out.below hb5 hx4.out.lt)
      have hB5 := Lib.hid (Nat.le_trans hB4.out hb5.size)
      have hr5 := Lib.hid (hr34.out.below (hb5.mono hB4.out))
      have hbw5 := Lib.hid (hbw4.out.trans (hb5.mono hbw4.out.size))
      obtain ⟨G, hG⟩ : ∃ G, Hid (G = wr.heap.size) := ⟨_, rfl⟩
      have Hown5 : Hid (w5.ownsRow G 5 1 (.slice A4 n c4) n (bs l)) := by rw [hG.out]; exact Lib.hid (own_below Hown4.out hb5 (Nat.le_refl _))
      have HG5 := Lib.hid (show G ≤ w5.heap.size by rw [hG.out]; exact Nat.le_trans (Nat.le_trans (Nat.le_refl _) HS4.out) hb5.size)
      have hBG := Lib.hid (show B3 ≤ G by rw [hG.out]; exact hBr.out)
      clear hb5 e1 e2
      go_wp2
      go_loopw [8] (fun t wr2 => ∃ (j : Nat) (l' : List UInt8), j ≤ n ∧ t = .int .i64 (j : Int) ∧ Hid (RecAt x wr2 w.heap.size) ∧ Hid (G ≤ wr2.heap.size) ∧ Hid (RdB wr2 B3 A3 l) ∧ Hid (wr2.ownsRow G 5 1 (.slice A4 n c4) n (bs l')) ∧ Hid (Below w.heap.size w wr2)) (fun t _ => n - (intOf t).toNat)
      case atStart => exact ⟨0, l, by omega, rfl, hx5, Lib.hid (HG5.out), hr5, Hown5, hbw5⟩
      case round =>
        obtain ⟨j, l', hj, rfl, hxl, hGl, hrl, hol, hbl⟩ := hrel
        by_cases hjlt : j < n
        · have hjlt' : (j : Int) < (n : Int) := by omega
          obtain ⟨g4, cap4, e4, hg4, _⟩ := hol.out.form (by omega)
          injection e4 with e4 _ e4'
          subst e4 e4'
          obtain ⟨x7, hc7, _⟩ := own_cell hol.out (k := j) hjlt
          have hf7 := hol.out.frozenAt j
          obtain ⟨hs7, _⟩ := own_set (k := j) (x := 7) 7 hol.out rfl
          have hbs : Below G wr (wr.setCell ⟨g4, j, none⟩ (.int .u8 7)) := (Below.refl G wr).setCell (p := ⟨g4, j, none⟩) (by simpa using hg4) (.int .u8 7)
          have Hs7 := Lib.hid hs7
          have Hx7 := Lib.hid (hxl.out.below hbs (by have := Hgl.out; have := hBG.out; omega))
          have Hr7 := Lib.hid (hrl.out.below (hbs.mono hBG.out))
          have HG7 := Lib.hid (Nat.le_trans hGl.out hbs.size)
          have Hb7 := Lib.hid (hbl.out.trans (hbs.mono (by have := Hgl.out; have := hBG.out; omega)))
          clear hs7 hbs
          go_wp2_with fail
          go_roundw
          · exact ⟨j + 1, _, by omega, by exact rfl, Hx7, HG7, Hr7, Hs7, Hb7⟩
          · show n - (intOf (.int .i64 ((j : Int) + 1))).toNat < n - (intOf (.int .i64 (j : Int))).toNat
            simp only [intOf]
            omega
        · obtain rfl : j = n := by omega
          go_wp2
          go_roundw
          · exact ⟨k + 1, by omega, by exact rfl, hxl, Lib.hid (Nat.le_trans hBG.out hGl.out), hrl, hbl⟩
          · show 2 - (intOf (.int .i64 ((k : Int) + 1))).toNat < 2 - (intOf (.int .i64 (k : Int))).toNat
            simp only [intOf]
            omega
    · obtain rfl : k = 2 := by omega
      go_upto_region 14 with fail
      refine wp_region_facts (n := 64) (RpF x w.heap.size) (RpC wr x w.heap.size) (by kernel_rfl) (by kernel_rfl) rfl ?_ ?_ ?_
      · exact ⟨(Below.refl _ _).drew, hxr.out⟩
      · skip
        refine OpsOk.cons _ _ (OpOk.run _ _ RpF.keep RpC.keep fun b v hs hc hg => ⟨rfl, _, _, exec_loadRec rfl (hs 1 (by kernel_rfl)) hc.2.cells12, .refl _ _, rfl⟩) ?_
        refine OpsOk.cons _ _ (OpOk.call _ _ RpF.keep RpC.keep fun b v hs hc hg => ⟨rfl, _, _, exec_call1 (enter_Right6 _) rfl (dep hg 0 rfl rfl rfl rfl), ans_v (Right_any x v)⟩) ?_
        refine OpsOk.cons _ _ (OpOk.run _ _ RpF.keep RpC.keep fun b v hs hc hg => ⟨rfl, _, _, exec_loadRec rfl (hs 1 (by kernel_rfl)) hc.2.cells12, .refl _ _, rfl⟩) ?_
        refine OpsOk.cons _ _ (OpOk.call _ _ RpF.keep RpC.keep fun b v hs hc hg => ⟨rfl, _, _, exec_call1 (enter_recRef _) rfl (dep hg 0 rfl rfl rfl rfl), ans_v (ref_any x v)⟩) ?_
        refine OpsOk.cons _ _ (OpOk.call _ _ RpF.keep RpC.keep fun b v hs hc hg => ⟨rfl, _, _, exec_call1 (enter_refRight _) rfl (dep hg 0 rfl rfl rfl rfl), ans_v (refRight_any x v)⟩) ?_
        refine OpsOk.cons _ _ (OpOk.run _ _ RpF.keep RpC.keep fun b v hs hc hg => ⟨rfl, _, _, exec_eqB6 rfl (dep hg 0 rfl rfl rfl rfl) (dep hg 1 rfl rfl rfl rfl), .refl _ _, by rw [beq_self_eq_true]; rfl⟩) ?_
        refine OpsOk.cons _ _ (OpOk.run _ _ RpF.keep RpC.keep fun b v hs hc hg => ⟨rfl, _, _, exec_move rfl (dep hg 0 rfl rfl rfl rfl), .refl _ _, rfl⟩) ?_
        refine OpsOk.cons _ _ (OpOk.run _ _ RpF.keep RpC.keep fun b v hs hc hg => ⟨wanted_of rfl rfl rfl (dep hg 0 rfl rfl rfl rfl), _, _, exec_fieldC 0 (by decide) rfl (hs 1 (by kernel_rfl)), .refl _ _, rfl⟩) ?_
        refine OpsOk.cons _ _ (OpOk.run _ _ RpF.keep RpC.keep fun b v hs hc hg => ⟨wanted_of rfl rfl rfl (dep hg 1 rfl rfl rfl rfl), _, _, exec_load8 rfl (dep hg 0 rfl rfl rfl rfl) (hc.2.cell 0), .refl _ _, rfl⟩) ?_
        refine OpsOk.cons _ _ (OpOk.call _ _ RpF.keep RpC.keep fun b v hs hc hg => ⟨wanted_of rfl rfl rfl (dep hg 2 rfl rfl rfl rfl), _, _, exec_call1 (enter_Word6 _) rfl (dep hg 0 rfl rfl rfl rfl), ans_v (word_any x.k v)⟩) ?_
        refine OpsOk.cons _ _ (OpOk.run _ _ RpF.keep RpC.keep fun b v hs hc hg => ⟨wanted_of rfl rfl rfl (dep hg 0 rfl rfl rfl rfl), _, _, exec_fieldC 0 (by decide) rfl (hs 1 (by kernel_rfl)), .refl _ _, rfl⟩) ?_
        refine OpsOk.cons _ _ (OpOk.run _ _ RpF.keep RpC.keep fun b v hs hc hg => ⟨wanted_of rfl rfl rfl (dep hg 1 rfl rfl rfl rfl), _, _, exec_load8 rfl (dep hg 0 rfl rfl rfl rfl) (hc.2.cell 0), .refl _ _, rfl⟩) ?_
        refine OpsOk.cons _ _ (OpOk.call _ _ RpF.keep RpC.keep fun b v hs hc hg => ⟨wanted_of rfl rfl rfl (dep hg 2 rfl rfl rfl rfl), _, _, exec_call1 (enter_rWord6 _) rfl (dep hg 0 rfl rfl rfl rfl), ans_v (refWord_any x.k v)⟩) ?_
        refine OpsOk.cons _ _ (OpOk.run _ _ RpF.keep RpC.keep fun b v hs hc hg => ⟨wanted_of rfl rfl rfl (dep hg 2 rfl rfl rfl rfl), _, _, exec_eqT6 rfl (dep hg 0 rfl rfl rfl rfl) (dep hg 1 rfl rfl rfl rfl), .refl _ _, by rw [decide_eq_true rfl]; rfl⟩) ?_
        refine OpsOk.cons _ _ (OpOk.run _ _ RpF.keep RpC.keep fun b v hs hc hg => ⟨rfl, _, _, exec_pick rfl (dep hg 0 rfl rfl rfl rfl) (dep hg 1 rfl rfl rfl rfl), .refl _ _, rfl⟩) ?_
        refine OpsOk.cons _ _ (OpOk.run _ _ RpF.keep RpC.keep fun b v hs hc hg => ⟨rfl, _, _, exec_move rfl (dep hg 0 rfl rfl rfl rfl), .refl _ _, rfl⟩) ?_
        refine OpsOk.cons _ _ (OpOk.call _ _ RpF.keep RpC.keep fun b v hs hc hg => ⟨wanted_of rfl rfl rfl (dep hg 1 rfl rfl rfl rfl), _, _, exec_call0 (enter_works6 _) rfl, ans_v (works6_any v)⟩) ?_
        refine OpsOk.cons _ _ (OpOk.run _ _ RpF.keep RpC.keep fun b v hs hc hg => ⟨rfl, _, _, exec_pick rfl (dep hg 0 rfl rfl rfl rfl) (dep hg 1 rfl rfl rfl rfl), .refl _ _, rfl⟩) ?_
        refine OpsOk.cons _ _ (OpOk.run _ _ RpF.keep RpC.keep fun b v hs hc hg => ⟨rfl, _, _, exec_assign rfl (dep hg 0 rfl rfl rfl rfl), .refl _ _, rfl⟩) ?_
        exact OpsOk.nil _ _
      · intro b' w' hsz hd hs hc hall
        have h4' : b'.tmps[2]?.getD undef = .bool true := by
          have : b'.tmps.getD 2 undef = .bool true := hall 18 _ _ rfl rfl
          rwa [Array.getD_eq_getD_getElem?] at this
        clear hall hs
        go_wp2
        exact bodyPost_ret (v := .bool true) (by simp [results, Try.results3, h4', go_sem]) hd ⟨rfl, hbr.out.trans (hc.1.mono hbr.out.size)⟩
end Go.Proofs.Ytfhcpjnjemojgaa
