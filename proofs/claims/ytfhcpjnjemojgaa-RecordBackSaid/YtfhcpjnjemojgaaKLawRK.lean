/- The walk of RecordBack: whatever the two records and the bytes, it returns true. Conditions: none. -/
import Derived.Test.YtfhcpjnjemojgaaKLawRP
import Derived.Test.YtfhcpjnjemojgaaKRcU
import Derived.Test.YtfhcpjnjemojgaaKGc
namespace Go.Proofs.Ytfhcpjnjemojgaa
open Go.RowKit

theorem runS_rdP_ok {l : List UInt8} : ∀ (ps : List Nat) (s : Rc × Int), s.1.Ok → (runS (rdP l) s ps).1.1.Ok
  | [], _, h => h
  | j :: ps, s, h => by
    have h1 : (rdP l s j).1.1.Ok := by
      unfold rdP
      split
      · exact h.setN (take_lt _ _)
      · exact h.setT
    rw [runS]
    split
    · exact h1
    · exact runS_rdP_ok ps _ h1
theorem parseM_ok (b : List UInt8) : (parseM b).1.Ok := by
  have hz : (Rc.zero 0).Ok := Rc.Ok.zero (by decide)
  unfold parseM
  split
  · exact hz
  split
  · exact hz
  split
  · exact hz
  split
  · exact hz
  split
  · exact runS_rdP_ok _ _ (Rc.Ok.zero (UInt8.toNat_lt _))
  · exact hz
theorem exec_neE6 {b : Act} {w : World} {o : Oper} {x y : Operand} {n m : Nat} (ho : o.op = .binOp .neq 28 x y 28) (h : b.eval x = .int .i64 (n : Int)) (h' : b.eval y = .int .i64 (m : Int)) : (execOp b.eval o).run Try.prog w = .ok (.value (.bool (!decide (n = m)))) w := by
  have e : ((n : Int) == (m : Int)) = decide (n = m) := by
    by_cases hc : n = m
    · subst hc; simp
    · rw [decide_eq_false hc, beq_eq_false_iff_ne]; omega
  have e2 : ((n : Int) != (m : Int)) = !decide (n = m) := by unfold bne; rw [e]
  unfold execOp
  simp only [ho, h, h']
  go_simp
def RkF (r s : Rc) (hh : Nat) (S S2 : Value) (q ub : Bool) : Nat → Value → World → Prop
  | 0, v, _ => v = .int .i64 ((0 : Nat) : Int)
  | 1, v, _ => v = .bool true
  | 2, v, _ => v = .bool true
  | 3, v, _ => v = .int .i64 ((0 : Nat) : Int)
  | 4, v, _ => v = .bool true
  | 5, v, _ => v = .bool true
  | 6, v, _ => v = .bool true
  | 7, v, _ => v = r.v
  | 8, v, _ => v = r.v
  | 9, v, _ => v = .bool true
  | 10, v, _ => v = .bool true
  | 11, v, _ => v = .bool true
  | 12, v, _ => v = .int .i64 (hh : Int)
  | 13, v, _ => v = .bool (!decide (hh = 0))
  | 14, v, _ => v = .bool (!ub)
  | 15, v, _ => v = if ub then S else undef
  | 16, v, _ => v = if ub then S2 else undef
  | 17, v, _ => v = if ub then .bool q else undef
  | 18, v, _ => v = if ub then r.v else undef
  | 19, v, _ => v = if ub then s.v else undef
  | 20, v, _ => v = if ub then .bool q else undef
  | 21, v, _ => v = if ub then .bool true else undef
  | 22, v, _ => v = .bool true
  | 23, v, _ => v = .bool true
  | 24, v, _ => v = .bool true
  | 25, v, _ => v = .bool true
  | 26, v, _ => v = .bool true
  | 27, v, _ => v = .bool true
  | _, _, _ => True
theorem RkF.keep {r s : Rc} {hh : Nat} {S S2 : Value} {q ub : Bool} (i : Nat) (u : Value) (w w' : World) (_hb : Below w.heap.size w w') (h : RkF r s hh S S2 q ub i u w) : RkF r s hh S S2 q ub i u w' :=
  match i, h with
  | 0, h | 1, h | 2, h | 3, h | 4, h | 5, h | 6, h | 7, h | 8, h | 9, h | 10, h | 11, h | 12, h | 13, h | 14, h | 15, h | 16, h | 17, h | 18, h | 19, h | 20, h | 21, h | 22, h | 23, h | 24, h | 25, h | 26, h | 27, h => h
  | _ + 28, h => h
def RkC (W : World) (r s : Rc) (g g' y : Nat) (A A' : Option Addr) (B B' : Nat) (l l' : List UInt8) (w : World) : Prop := Below W.heap.size W w ∧ RecAt r w g ∧ RecAt s w g' ∧ RecAt r w y ∧ (B ≤ w.heap.size ∧ RdB w B A l) ∧ B' ≤ w.heap.size ∧ RdB w B' A' l'
theorem RkC.keep {W : World} {r s : Rc} {g g' y : Nat} {A A' : Option Addr} {B B' : Nat} {l l' : List UInt8} (w w' : World) (hb : Below w.heap.size w w') (hc : RkC W r s g g' y A A' B B' l l' w) : RkC W r s g g' y A A' B B' l l' w' :=
  ⟨hc.1.trans (hb.mono hc.1.size), hc.2.1.below hb hc.2.1.lt, hc.2.2.1.below hb hc.2.2.1.lt, hc.2.2.2.1.below hb hc.2.2.2.1.lt, ⟨Nat.le_trans hc.2.2.2.2.1.1 hb.size, hc.2.2.2.2.1.2.below (hb.mono hc.2.2.2.2.1.1)⟩, Nat.le_trans hc.2.2.2.2.2.1 hb.size, hc.2.2.2.2.2.2.below (hb.mono hc.2.2.2.2.2.1)⟩

set_option maxHeartbeats 16000000 in
set_option maxRecDepth 100000 in
theorem recBack_any (r s : Rc) (hr0 : r.Ok) (hs0 : s.Ok) (A : Option Addr) (c : Nat) (l : List UInt8) (w : World) (hm : l.length ≤ 9223372036854775807) (hcap : l.length ≤ c) (hrd : RdB w w.heap.size A l) : Calls Try.prog 6 #[r.v, s.v, .slice A l.length c] w fun e w' => e = .returned (.bool true) ∧ Below w.heap.size w w' := by
  obtain ⟨W1, hW1⟩ : ∃ W, Hid (W = w.alloc (.cells r.cells.toArray 24)) := ⟨_, rfl⟩
  have HW1 := Lib.hid (show w.alloc (.cells #[.int .u8 (r.k : Int), .int .u64 (r.p : Int), .int .u64 (r.i : Int), .int .u64 (r.q : Int), .int .u64 (r.e : Int), .int .u64 (r.u : Int), .int .u64 (r.r : Int), .int .u64 (r.c : Int), .int .u64 (r.z : Int), .int .u64 (r.s : Int), .string (txt r.n), .string (txt r.t)] 24) = W1 from hW1.out.symm)
  obtain ⟨W, hW⟩ : ∃ W, Hid (W = W1.alloc (.cells s.cells.toArray 24)) := ⟨_, rfl⟩
  have HW := Lib.hid (show W1.alloc (.cells #[.int .u8 (s.k : Int), .int .u64 (s.p : Int), .int .u64 (s.i : Int), .int .u64 (s.q : Int), .int .u64 (s.e : Int), .int .u64 (s.u : Int), .int .u64 (s.r : Int), .int .u64 (s.c : Int), .int .u64 (s.z : Int), .int .u64 (s.s : Int), .string (txt s.n), .string (txt s.t)] 24) = W from hW.out.symm)
  obtain ⟨gs, hgs⟩ : ∃ gs, Hid (gs = w.heap.size + 1) := ⟨_, rfl⟩
  have h1 : Below w.heap.size w W1 := by rw [hW1.out]; exact below_new _ _
  have h2 : Below W1.heap.size W1 W := by rw [hW.out]; exact below_new _ _
  have hbW := Lib.hid (h1.trans (h2.mono h1.size))
  have hxr1 : RecAt r W1 w.heap.size := by rw [hW1.out]; exact recAt_new r w
  have hxr := Lib.hid (hxr1.below h2 hxr1.lt)
  have hz1 : W1.heap.size = w.heap.size + 1 := by rw [hW1.out]; simp
  have hxs : Hid (RecAt s W gs) := by rw [hgs.out, ← hz1, hW.out]; exact recAt_new s W1
  have hrdW := Lib.hid (hrd.below hbW.out)
  have Hr0 := Lib.hid hr0
  have Hs0 := Lib.hid hs0
  have Hm := Lib.hid hm
  have Hcap := Lib.hid hcap
  clear hz1 h1 h2 hxr1 hrd hr0 hs0 hm hcap
  have Hfr := Lib.hid (few_any r W)
  obtain ⟨N, hN⟩ : ∃ N, Hid (N = l.length) := ⟨_, rfl⟩
  rw [← hN.out]
  unfold Rc.v
  go_enter Try.func6, Try.ntmps6
  go_upto_region 1 with fail
  rw [HW1.out]
  rw [← hgs.out]
  rw [HW.out]
  refine wp_region_lit ?_
  refine wpList_runG (v := r.v) (w' := W) (by kernel_rfl) (exec_loadRec (x := .tmp 3) (g := w.heap.size) rfl (by kernel_rfl) hxr.out.cells12) ?_
  go_frame
  refine wpList_callG (by kernel_rfl) (exec_call1 (v := r.v) (enter_few6 _) rfl (by kernel_rfl)) ?_
  refine Hfr.out.mono ?_
  rintro e w1 ⟨rfl, hb1⟩
  refine ⟨_, rfl, ?_⟩
  have hxr1 := Lib.hid (hxr.out.below hb1 hxr.out.lt)
  have hxs1 := Lib.hid (hxs.out.below hb1 hxs.out.lt)
  have hb1w := Lib.hid (hbW.out.trans (hb1.mono hbW.out.size))
  have hrd1 := Lib.hid (hrdW.out.below (hb1.mono hbW.out.size))
  clear hb1
  cases hf : fewM r
  · go_frame
    go_wp2_with (go_at_call 9; refine (works6_any _).mono ?_; rintro e w' ⟨rfl, hb⟩)
    go_ret
    exact ⟨rfl, hb1w.out.trans (hb.mono hb1w.out.size)⟩
  go_frame
  refine wpList_run (v := .bool false) (w' := w1) rfl (by kernel_rfl) ?_
  go_frame
  refine wpList_run (v := .bool false) (w' := w1) rfl (by kernel_rfl) ?_
  go_frame
  refine wpList_runG (v := s.v) (w' := w1) (by kernel_rfl) (exec_loadRec (x := .tmp 4) (g := gs) rfl (by kernel_rfl) hxs1.out.cells12) ?_
  go_frame
  refine wpList_callG (by kernel_rfl) (exec_call1 (v := s.v) (enter_few6 _) rfl (by kernel_rfl)) ((few_any s w1).mono ?_)
  rintro e w2 ⟨rfl, hb2⟩
  refine ⟨_, rfl, ?_⟩
  have hxr2 := Lib.hid (hxr1.out.below hb2 hxr1.out.lt)
  have hxs2 := Lib.hid (hxs1.out.below hb2 hxs1.out.lt)
  have hb2w := Lib.hid (hb1w.out.trans (hb2.mono hb1w.out.size))
  have hrd2 := Lib.hid (hrd1.out.below (hb2.mono hb1w.out.size))
  clear hb2 hf
  cases hf : fewM s
  · go_frame
    go_wp2_with (go_at_call 9; refine (works6_any _).mono ?_; rintro e w' ⟨rfl, hb⟩)
    go_ret
    exact ⟨rfl, hb2w.out.trans (hb.mono hb2w.out.size)⟩
  go_frame
  by_cases hl : 400 < N
  · have hl' : (400 : Int) < (N : Int) := by omega
    have hm' : (N : Int) ≤ 9223372036854775807 := by have := Hm.out; rw [hN.out]; omega
    go_wp2_with (go_at_call 9; refine (works6_any _).mono ?_; rintro e w' ⟨rfl, hb⟩)
    go_ret
    exact ⟨rfl, hb2w.out.trans (hb.mono hb2w.out.size)⟩
  have hl' : (N : Int) ≤ 400 := by omega
  have Hl := Lib.hid (show l.length ≤ 400 by have := hN.out; omega)
  obtain ⟨x, E, hx⟩ : ∃ x E, parseM l = (x, E) := ⟨_, _, rfl⟩
  have Hx := Lib.hid hx
  have Hxok := Lib.hid (show x.Ok by have := parseM_ok l; rw [hx] at this; exact this)
  clear hl hx hf
  have hP := parse_any A c w.heap.size l w2 (by have := Hl.out; omega) Hcap.out hb2w.out.size hrd2.out
  rw [Hx.out, ← hN.out] at hP
  have HP := Lib.hid hP
  clear hP
  go_upto_region 4 with (go_at_call 18; refine HP.out.mono ?_; rintro e w3 ⟨rfl, hb3⟩; simp only; unfold Rc.v)
  obtain ⟨W3, hW3⟩ : ∃ W3, Hid (W3 = w3.alloc (.cells x.cells.toArray 24)) := ⟨_, rfl⟩
  have HW3 := Lib.hid (show w3.alloc (.cells #[.int .u8 (x.k : Int), .int .u64 (x.p : Int), .int .u64 (x.i : Int), .int .u64 (x.q : Int), .int .u64 (x.e : Int), .int .u64 (x.u : Int), .int .u64 (x.r : Int), .int .u64 (x.c : Int), .int .u64 (x.z : Int), .int .u64 (x.s : Int), .string (txt x.n), .string (txt x.t)] 24) = W3 from hW3.out.symm)
  rw [HW3.out]
  obtain ⟨gx, hgx⟩ : ∃ gx, Hid (gx = w3.heap.size) := ⟨_, rfl⟩
  rw [← hgx.out]
  have hX3 := Lib.hid (show RecAt x W3 gx by rw [hgx.out, hW3.out]; exact recAt_new _ _)
  have h23 : Below w2.heap.size w2 W3 := by rw [hW3.out]; exact hb3.alloc hb3.size _
  have hxr3 := Lib.hid (hxr2.out.below h23 hxr2.out.lt)
  have hxs3 := Lib.hid (hxs2.out.below h23 hxs2.out.lt)
  have hb3w := Lib.hid (hb2w.out.trans (h23.mono hb2w.out.size))
  have hrd3 := Lib.hid (hrd2.out.below (h23.mono hb2w.out.size))
  clear hb3 h23
  by_cases hE : E = 0
  case' pos =>
    subst hE
    obtain ⟨hrx, hpx⟩ := put_parse Hx.out
    have hpu := rput_any x Hxok.out W3
    rw [hpx] at hpu
    have Hpu := Lib.hid hpu
    have HRx := Lib.hid (show ∀ v, Calls Try.prog 14 #[x.v] v fun e w' => e = .returned (.bool true) ∧ Below v.heap.size v w' from fun v => by have h := Right_any x v; rw [hrx] at h; exact h)
    clear hrx hpx hpu
    go_upto_region 5 with fail
    refine wp_region_lit ?_
    refine wpList_runG (v := x.v) (w' := W3) (by kernel_rfl) (exec_loadRec (x := .tmp 7) (g := gx) rfl (by kernel_rfl) hX3.out.cells12) ?_
    go_frame
    refine wpList_callG (by kernel_rfl) (exec_call1 (v := x.v) (enter_Put6 _) rfl (by kernel_rfl)) (Hpu.out.mono ?_)
    rintro e w4 ⟨⟨v4, rfl, hown4⟩, hb4⟩
    simp only at hown4 ⊢
    obtain ⟨A4, c4, rfl, _, _, hr4⟩ := own_form hown4
    have hX4 := Lib.hid (hX3.out.below hb4 hX3.out.lt)
    have hr4' : Hid (RdB w4 w4.heap.size A4 l) := Lib.hid hr4
    have hxr4 := Lib.hid (hxr3.out.below hb4 hxr3.out.lt)
    have hxs4 := Lib.hid (hxs3.out.below hb4 hxs3.out.lt)
    have hb4w := Lib.hid (hb3w.out.trans (hb4.mono hb3w.out.size))
    have hrd4 := Lib.hid (hrd3.out.below (hb4.mono hb3w.out.size))
    rw [← hN.out]
    clear hr4 hown4 hb4
    refine ⟨_, rfl, ?_⟩
    go_frame
    refine wpList_run (v := .tuple #[.slice A4 N c4, .int .i64 0]) (w' := w4) rfl (by kernel_rfl) ?_
    go_frame
    refine wpList_run (v := .slice A4 N c4) (w' := w4) rfl (by kernel_rfl) ?_
    go_frame
    refine wpList_run (v := .int .i64 0) (w' := w4) rfl (by kernel_rfl) ?_
    go_frame
    refine wpList_run (v := .slice A4 N c4) (w' := w4) rfl (by kernel_rfl) (wpList_run (v := .int .i64 0) (w' := w4) rfl (by kernel_rfl) ?_)
    go_frame
    go_upto_region 6 with fail
    refine wp_region_lit (wpList_run (v := .int .i64 0) (w' := w4) rfl (by kernel_rfl) (wpList_run (v := .bool false) (w' := w4) rfl (by kernel_rfl) (wpList_run (v := .bool false) (w' := w4) rfl (by kernel_rfl) ?_)))
    go_frame
    refine wpList_runG (v := x.v) (w' := w4) (by kernel_rfl) (exec_loadRec (x := .tmp 7) (g := gx) rfl (by kernel_rfl) hX4.out.cells12) ?_
    go_frame
    refine wpList_callG (by kernel_rfl) (exec_call1 (v := x.v) (enter_Right6 _) rfl (by kernel_rfl)) ((HRx.out w4).mono ?_)
    rintro e w5 ⟨rfl, hb5⟩
    refine ⟨_, rfl, ?_⟩
    go_frame
    have hr5' : Hid (RdB w5 w4.heap.size A4 l) := Lib.hid (hr4'.out.below hb5)
    have hxr5 := Lib.hid (hxr4.out.below hb5 hxr4.out.lt)
    have hxs5 := Lib.hid (hxs4.out.below hb5 hxs4.out.lt)
    have hb5w := Lib.hid (hb4w.out.trans (hb5.mono hb4w.out.size))
    have hrd5 := Lib.hid (hrd4.out.below (hb5.mono hb4w.out.size))
    clear hb5
    have HS := Lib.hid (sameT_any (c := c4) (c' := c) (l := l) (m := l) (n := N) (n' := N) hN.out.symm hN.out.symm rfl (by omega) hr5'.out hrd5.out)
    go_upto_region 8 with (go_at_call 13; refine HS.out.mono ?_; rintro e wz ⟨rfl, hb6⟩)
    have hxrz := Lib.hid (hxr5.out.below hb6 hxr5.out.lt)
    have hxsz := Lib.hid (hxs5.out.below hb6 hxs5.out.lt)
    have hbz := Lib.hid (hb5w.out.trans (hb6.mono hb5w.out.size))
    clear HS hb6 hr5' hxr5 hxs5 hb5w hrd5 hr4' hxr4 hxs4 hb4w hrd4 hX4 Hpu HRx
  case' neg =>
    have hE1 : ((E : Int) == 0) = false := by rw [beq_eq_false_iff_ne]; omega
    have hE2 : (E == 0) = false := by rw [beq_eq_false_iff_ne]; exact hE
    go_upto_region 8 with fail
    have hxrz := hxr3
    have hxsz := hxs3
    have hbz := hb3w
    obtain ⟨wz, hwz⟩ : ∃ wz, wz = W3 := ⟨_, rfl⟩
    rw [← hwz] at hxrz hxsz hbz ⊢
    clear hE1 hE2 hwz
  all_goals
    clear hX3 hxr3 hxs3 hb3w hrd3 HW3 hW3 HP hxr2 hxs2 hb2w hrd2 hxr1 hxs1 hb1w hrd1
    refine wp_region_lit ?_
    refine wpList_runG (v := r.v) (w' := wz) (by kernel_rfl) (exec_loadRec (x := .tmp 3) (g := w.heap.size) rfl (by kernel_rfl) hxrz.out.cells12) ?_
    go_frame
    refine wpList_callG (by kernel_rfl) (exec_call1 (v := r.v) (enter_Put6 _) rfl (by kernel_rfl)) ((rput_any r Hr0.out wz).mono ?_)
    rintro e w4 ⟨⟨v4, rfl, hown4⟩, hb4⟩
    have hxr4 := Lib.hid (hxrz.out.below hb4 hxrz.out.lt)
    have hxs4 := Lib.hid (hxsz.out.below hb4 hxsz.out.lt)
    have hb4w := Lib.hid (hbz.out.trans (hb4.mono hbz.out.size))
    have hRr := fun v => Right_any r v
    obtain ⟨m, F, hmF⟩ : ∃ m F, putM r = (m, F) := ⟨_, _, rfl⟩
    have HmF := Lib.hid hmF
    rw [hmF] at hown4 ⊢
    simp only at hown4 ⊢
    obtain ⟨A4, c4, rfl, hc4, _, hr4⟩ := own_form hown4
    have hr4' : Hid (RdB w4 w4.heap.size A4 m) := Lib.hid hr4
    have Hc4 := Lib.hid hc4
    obtain ⟨M, hM⟩ : ∃ M, Hid (M = m.length) := ⟨_, rfl⟩
    rw [← hM.out]
    have HlenM := Lib.hid (show m.length ≤ 600 by have := putM_len Hr0.out; rw [hmF] at this; exact this)
    clear hr4 hown4 hb4 hc4 hmF hxrz hxsz hbz
    refine ⟨_, rfl, ?_⟩
    go_frame
    refine wpList_run (v := .tuple #[.slice A4 M c4, .int .i64 (F : Int)]) (w' := w4) rfl (by kernel_rfl) ?_
    go_frame
    refine wpList_run (v := .slice A4 M c4) (w' := w4) rfl (by kernel_rfl) ?_
    go_frame
    refine wpList_run (v := .int .i64 (F : Int)) (w' := w4) rfl (by kernel_rfl) ?_
    go_frame
    refine wpList_run (v := .slice A4 M c4) (w' := w4) rfl (by kernel_rfl) (wpList_run (v := .int .i64 (F : Int)) (w' := w4) rfl (by kernel_rfl) ?_)
    go_frame
    go_upto_region 9 with fail
    refine wp_region_lit ?_
    refine wpList_runG (v := r.v) (w' := w4) (by kernel_rfl) (exec_loadRec (x := .tmp 3) (g := w.heap.size) rfl (by kernel_rfl) hxr4.out.cells12) ?_
    go_frame
    refine wpList_callG (by kernel_rfl) (exec_call1 (v := r.v) (enter_Right6 _) rfl (by kernel_rfl)) ((hRr w4).mono ?_)
    rintro e w5 ⟨rfl, hb5⟩
    refine ⟨_, rfl, ?_⟩
    go_frame
    have hxr5 := Lib.hid (hxr4.out.below hb5 hxr4.out.lt)
    have hxs5 := Lib.hid (hxs4.out.below hb5 hxs4.out.lt)
    have hb5w := Lib.hid (hb4w.out.trans (hb5.mono hb4w.out.size))
    have hr5' : Hid (RdB w5 w4.heap.size A4 m) := Lib.hid (hr4'.out.below hb5)
    have Hs45 := Lib.hid hb5.size
    clear hb5 hRr
    refine wpList_run (v := .bool (!rightM r)) (w' := w5) rfl (by kernel_rfl) ?_
    go_frame
    cases hrt : rightM r
    · have e : putM r = ([], 2) := by unfold putM; rw [if_neg (by rw [hrt]; simp)]
      rw [HmF.out] at e
      obtain ⟨rfl, rfl⟩ := Prod.mk.inj e
      have hM0 : M = 0 := by rw [hM.out]; rfl
      subst hM0
      go_wp2_with (go_at_call 9; refine (works6_any _).mono ?_; rintro e w' ⟨rfl, hb⟩)
      go_ret
      exact ⟨rfl, hb5w.out.trans (hb.mono hb5w.out.size)⟩
    have hpp := parse_put Hr0.out hrt
    have hF0 : F = 0 := by
      have e : (putM r).2 = 0 := by unfold putM; rw [if_pos hrt]
      rw [HmF.out] at e
      exact e
    subst hF0
    rw [HmF.out] at hpp
    simp only at hpp
    have hP := parse_any A4 c4 w4.heap.size m w5 (by have := HlenM.out; omega) Hc4.out Hs45.out hr5'.out
    rw [hpp, ← hM.out] at hP
    have HP := Lib.hid hP
    have Hrt := Lib.hid hrt
    clear hP hpp hrt
    rw [Bool.not_true]
    go_upto_region 12 with (go_at_call 18; refine HP.out.mono ?_; rintro e w6 ⟨rfl, hb6⟩; simp only; unfold Rc.v)
    obtain ⟨W6, hW6⟩ : ∃ W6, Hid (W6 = w6.alloc (.cells r.cells.toArray 24)) := ⟨_, rfl⟩
    have HW6 := Lib.hid (show w6.alloc (.cells #[.int .u8 (r.k : Int), .int .u64 (r.p : Int), .int .u64 (r.i : Int), .int .u64 (r.q : Int), .int .u64 (r.e : Int), .int .u64 (r.u : Int), .int .u64 (r.r : Int), .int .u64 (r.c : Int), .int .u64 (r.z : Int), .int .u64 (r.s : Int), .string (txt r.n), .string (txt r.t)] 24) = W6 from hW6.out.symm)
    rw [HW6.out]
    obtain ⟨gy, hgy⟩ : ∃ gy, Hid (gy = w6.heap.size) := ⟨_, rfl⟩
    rw [← hgy.out]
    have hY6 := Lib.hid (show RecAt r W6 gy by rw [hgy.out, hW6.out]; exact recAt_new _ _)
    have h56 : Below w5.heap.size w5 W6 := by rw [hW6.out]; exact hb6.alloc hb6.size _
    have hxr6 := Lib.hid (hxr5.out.below h56 hxr5.out.lt)
    have hxs6 := Lib.hid (hxs5.out.below h56 hxs5.out.lt)
    have hb6w := Lib.hid (hb5w.out.trans (h56.mono hb5w.out.size))
    have hr6 := Lib.hid (hr5'.out.below (h56.mono Hs45.out))
    have Hs46 := Lib.hid (Nat.le_trans Hs45.out h56.size)
    clear hb6 h56
    refine wp_region_lit ?_
    refine wpList_runG (v := s.v) (w' := W6) (by kernel_rfl) (exec_loadRec (x := .tmp 4) (g := gs) rfl (by kernel_rfl) hxs6.out.cells12) ?_
    go_frame
    refine wpList_callG (by kernel_rfl) (exec_call1 (v := s.v) (enter_Put6 _) rfl (by kernel_rfl)) ((rput_any s Hs0.out W6).mono ?_)
    rintro e w7 ⟨⟨v7, rfl, hown7⟩, hb7⟩
    have hxr7 := Lib.hid (hxr6.out.below hb7 hxr6.out.lt)
    have hxs7 := Lib.hid (hxs6.out.below hb7 hxs6.out.lt)
    have hY7 := Lib.hid (hY6.out.below hb7 hY6.out.lt)
    have hb7w := Lib.hid (hb6w.out.trans (hb7.mono hb6w.out.size))
    have hr7 := Lib.hid (hr6.out.below (hb7.mono Hs46.out))
    have Hs47 := Lib.hid (Nat.le_trans Hs46.out hb7.size)
    obtain ⟨m2, H, hmH⟩ : ∃ m2 H, putM s = (m2, H) := ⟨_, _, rfl⟩
    have HmH := Lib.hid hmH
    rw [hmH] at hown7 ⊢
    simp only at hown7 ⊢
    obtain ⟨A7, c7, rfl, _, _, hrm7⟩ := own_form hown7
    have hrm7' : Hid (RdB w7 w7.heap.size A7 m2) := Lib.hid hrm7
    obtain ⟨M2, hM2⟩ : ∃ M2, Hid (M2 = m2.length) := ⟨_, rfl⟩
    rw [← hM2.out]
    clear hrm7 hown7 hb7 hmH
    refine ⟨_, rfl, ?_⟩
    go_frame
    refine wpList_run (v := .tuple #[.slice A7 M2 c7, .int .i64 (H : Int)]) (w' := w7) rfl (by kernel_rfl) ?_
    go_frame
    refine wpList_run (v := .slice A7 M2 c7) (w' := w7) rfl (by kernel_rfl) ?_
    go_frame
    refine wpList_run (v := .int .i64 (H : Int)) (w' := w7) rfl (by kernel_rfl) ?_
    go_frame
    refine wpList_run (v := .slice A7 M2 c7) (w' := w7) rfl (by kernel_rfl) (wpList_run (v := .int .i64 (H : Int)) (w' := w7) rfl (by kernel_rfl) ?_)
    go_frame
    go_upto_region 13 with fail
    by_cases hH : H = 0
    · have hHd : decide (H = 0) = true := decide_eq_true hH
      have hrs : rightM s = true := by
        cases h : rightM s
        · have e : putM s = ([], 2) := by unfold putM; rw [if_neg (by rw [h]; simp)]
          rw [HmH.out] at e
          have := (Prod.mk.inj e).2
          omega
        · rfl
      have hq : decide (m = m2) = decide (r = s) := by
        refine decide_eq_decide.2 ⟨fun h => put_inj Hr0.out Hs0.out Hrt.out hrs (by rw [HmF.out, HmH.out]; exact h), fun h => ?_⟩
        have := HmF.out
        rw [h, HmH.out] at this
        exact (Prod.mk.inj this).1.symm
      refine wp_region_skips (n := 111) (RkF r s H (.slice A4 M c4) (.slice A7 M2 c7) (decide (r = s)) true) (RkC w7 r s w.heap.size gs gy A4 A7 w4.heap.size w7.heap.size m m2) (by kernel_rfl) (by kernel_rfl) rfl ?_ ?_ ?_
      · exact ⟨(Below.refl _ _).drew, hxr7.out, hxs7.out, hY7.out, ⟨Hs47.out, hr7.out⟩, Nat.le_refl _, hrm7'.out⟩
      rotate_left
      · intro b' w' hsz hd hs hc hall
        have h4' : b'.tmps[6]?.getD undef = .bool true := by
          have : b'.tmps.getD 6 undef = .bool true := hall 27 _ _ rfl rfl
          rwa [Array.getD_eq_getD_getElem?] at this
        clear hall hs
        go_wp2
        exact bodyPost_ret (v := .bool true) (by simp [results, Try.results6, h4', go_sem]) hd ⟨rfl, hb7w.out.trans (hc.1.mono hb7w.out.size)⟩
      refine OksOp.cons _ _ (OkOp.of _ _ (OpOk.run _ _ RkF.keep RkC.keep fun b v hs hc hg => ⟨rfl, _, _, exec_move rfl (hs 12 (by kernel_rfl)), .refl _ _, rfl⟩)) ?_
      refine OksOp.cons _ _ (OkOp.of _ _ (OpOk.run _ _ RkF.keep RkC.keep fun b v hs hc hg => ⟨rfl, _, _, exec_eqE (m := 0) rfl (dep hg 0 rfl rfl rfl rfl) rfl, .refl _ _, by rw [decide_eq_true rfl]; rfl⟩)) ?_
      refine OksOp.cons _ _ (OkOp.of _ _ (OpOk.run _ _ RkF.keep RkC.keep fun b v hs hc hg => ⟨rfl, _, _, exec_move rfl (dep hg 0 rfl rfl rfl rfl), .refl _ _, rfl⟩)) ?_
      refine OksOp.cons _ _ (OkOp.of _ _ (OpOk.run _ _ RkF.keep RkC.keep fun b v hs hc hg => ⟨wanted_of rfl rfl rfl (dep hg 0 rfl rfl rfl rfl), _, _, exec_move rfl (hs 14 (by kernel_rfl)), .refl _ _, rfl⟩)) ?_
      refine OksOp.cons _ _ (OkOp.of _ _ (OpOk.run _ _ RkF.keep RkC.keep fun b v hs hc hg => ⟨wanted_of rfl rfl rfl (dep hg 1 rfl rfl rfl rfl), _, _, exec_eqE (m := 0) rfl (dep hg 0 rfl rfl rfl rfl) rfl, .refl _ _, by rw [decide_eq_true rfl]; rfl⟩)) ?_
      refine OksOp.cons _ _ (OkOp.of _ _ (OpOk.run _ _ RkF.keep RkC.keep fun b v hs hc hg => ⟨rfl, _, _, exec_pick rfl (dep hg 0 rfl rfl rfl rfl) (dep hg 1 rfl rfl rfl rfl), .refl _ _, rfl⟩)) ?_
      refine OksOp.cons _ _ (OkOp.of _ _ (OpOk.run _ _ RkF.keep RkC.keep fun b v hs hc hg => ⟨rfl, _, _, exec_move rfl (dep hg 0 rfl rfl rfl rfl), .refl _ _, rfl⟩)) ?_
      refine OksOp.cons _ _ (OkOp.of _ _ (OpOk.run _ _ RkF.keep RkC.keep fun b v hs hc hg => ⟨wanted_of rfl rfl rfl (dep hg 0 rfl rfl rfl rfl), _, _, exec_loadRec rfl (hs 13 (by kernel_rfl)) hc.2.2.2.1.cells12, .refl _ _, rfl⟩)) ?_
      refine OksOp.cons _ _ (OkOp.of _ _ (OpOk.run _ _ RkF.keep RkC.keep fun b v hs hc hg => ⟨wanted_of rfl rfl rfl (dep hg 0 rfl rfl rfl rfl), _, _, exec_loadRec rfl (hs 3 (by kernel_rfl)) hc.2.1.cells12, .refl _ _, rfl⟩)) ?_
      refine OksOp.cons _ _ (OkOp.of _ _ (OpOk.run _ _ RkF.keep RkC.keep fun b v hs hc hg => ⟨wanted_of rfl rfl rfl (dep hg 2 rfl rfl rfl rfl), _, _, exec_eqRec rfl (dep hg 0 rfl rfl rfl rfl) (dep hg 1 rfl rfl rfl rfl), .refl _ _, by rw [decide_eq_true rfl]; rfl⟩)) ?_
      refine OksOp.cons _ _ (OkOp.of _ _ (OpOk.run _ _ RkF.keep RkC.keep fun b v hs hc hg => ⟨rfl, _, _, exec_pick rfl (dep hg 0 rfl rfl rfl rfl) (dep hg 1 rfl rfl rfl rfl), .refl _ _, rfl⟩)) ?_
      refine OksOp.cons _ _ (OkOp.of _ _ (OpOk.run _ _ RkF.keep RkC.keep fun b v hs hc hg => ⟨rfl, _, _, exec_move rfl (dep hg 0 rfl rfl rfl rfl), .refl _ _, rfl⟩)) ?_
      refine OksOp.cons _ _ (OkOp.of _ _ (OpOk.run _ _ RkF.keep RkC.keep fun b v hs hc hg => ⟨wanted_of rfl rfl rfl (dep hg 0 rfl rfl rfl rfl), _, _, exec_move rfl (hs 16 (by kernel_rfl)), .refl _ _, rfl⟩)) ?_
      refine OksOp.cons _ _ (OkOp.of _ _ (OpOk.run _ _ RkF.keep RkC.keep fun b v hs hc hg => ⟨wanted_of rfl rfl rfl (dep hg 1 rfl rfl rfl rfl), _, _, exec_neE6 (m := 0) rfl (dep hg 0 rfl rfl rfl rfl) rfl, .refl _ _, rfl⟩)) ?_
      refine OksOp.cons _ _ (OkOp.of _ _ (OpOk.run _ _ RkF.keep RkC.keep fun b v hs hc hg => ⟨wanted_of rfl rfl rfl (dep hg 2 rfl rfl rfl rfl), _, _, exec_move rfl (dep hg 0 rfl rfl rfl rfl), .refl _ _, congrArg (fun q => Value.bool (!q)) hHd⟩)) ?_
      refine OksOp.cons _ _ (OkOp.of _ _ (OpOk.run _ _ RkF.keep RkC.keep fun b v hs hc hg => ⟨wanted_of rfl rfl rfl (dep hg 0 rfl rfl rfl rfl), _, _, exec_move rfl (hs 11 (by kernel_rfl)), .refl _ _, rfl⟩)) ?_
      refine OksOp.cons _ _ (OkOp.of _ _ (OpOk.run _ _ RkF.keep RkC.keep fun b v hs hc hg => ⟨wanted_of rfl rfl rfl (dep hg 0 rfl rfl rfl rfl), _, _, exec_move rfl (hs 15 (by kernel_rfl)), .refl _ _, rfl⟩)) ?_
      refine OksOp.cons _ _ (OkOp.of _ _ (OpOk.call _ _ RkF.keep RkC.keep fun b v hs hc hg => ⟨wanted_of rfl rfl rfl (dep hg 3 rfl rfl rfl rfl), _, _, exec_call2 (enter_sameB6 _) rfl (dep hg 0 rfl rfl rfl rfl) (dep hg 1 rfl rfl rfl rfl), ans_v (by rw [← hq]; exact sameN_any hM.out.symm hM2.out.symm (by have := HlenM.out; have := hM.out; omega) hc.2.2.2.2.1.2 hc.2.2.2.2.2.2)⟩)) ?_
      refine OksOp.cons _ _ (OkOp.of _ _ (OpOk.run _ _ RkF.keep RkC.keep fun b v hs hc hg => ⟨wanted_of rfl rfl rfl (dep hg 0 rfl rfl rfl rfl), _, _, exec_loadRec rfl (hs 3 (by kernel_rfl)) hc.2.1.cells12, .refl _ _, rfl⟩)) ?_
      refine OksOp.cons _ _ (OkOp.of _ _ (OpOk.run _ _ RkF.keep RkC.keep fun b v hs hc hg => ⟨wanted_of rfl rfl rfl (dep hg 0 rfl rfl rfl rfl), _, _, exec_loadRec rfl (hs 4 (by kernel_rfl)) hc.2.2.1.cells12, .refl _ _, rfl⟩)) ?_
      refine OksOp.cons _ _ (OkOp.of _ _ (OpOk.run _ _ RkF.keep RkC.keep fun b v hs hc hg => ⟨wanted_of rfl rfl rfl (dep hg 2 rfl rfl rfl rfl), _, _, exec_eqRec rfl (dep hg 0 rfl rfl rfl rfl) (dep hg 1 rfl rfl rfl rfl), .refl _ _, rfl⟩)) ?_
      refine OksOp.cons _ _ (OkOp.of _ _ (OpOk.run _ _ RkF.keep RkC.keep fun b v hs hc hg => ⟨wanted_of rfl rfl rfl (dep hg 2 rfl rfl rfl rfl), _, _, exec_eqB6 rfl (dep hg 0 rfl rfl rfl rfl) (dep hg 1 rfl rfl rfl rfl), .refl _ _, by rw [beq_self_eq_true]; rfl⟩)) ?_
      refine OksOp.cons _ _ (OkOp.of _ _ (OpOk.run _ _ RkF.keep RkC.keep fun b v hs hc hg => ⟨wanted_of rfl rfl rfl (dep hg 2 rfl rfl rfl rfl), _, _, exec_pick rfl (dep hg 0 rfl rfl rfl rfl) (dep hg 1 rfl rfl rfl rfl), .refl _ _, rfl⟩)) ?_
      refine OksOp.cons _ _ (OkOp.of _ _ (OpOk.run _ _ RkF.keep RkC.keep fun b v hs hc hg => ⟨rfl, _, _, exec_pick rfl (dep hg 0 rfl rfl rfl rfl) (dep hg 1 rfl rfl rfl rfl), .refl _ _, rfl⟩)) ?_
      refine OksOp.cons _ _ (OkOp.of _ _ (OpOk.run _ _ RkF.keep RkC.keep fun b v hs hc hg => ⟨rfl, _, _, exec_move rfl (dep hg 0 rfl rfl rfl rfl), .refl _ _, rfl⟩)) ?_
      refine OksOp.cons _ _ (OkOp.of _ _ (OpOk.call _ _ RkF.keep RkC.keep fun b v hs hc hg => ⟨wanted_of rfl rfl rfl (dep hg 1 rfl rfl rfl rfl), _, _, exec_call0 (enter_works6 _) rfl, ans_v (works6_any v)⟩)) ?_
      refine OksOp.cons _ _ (OkOp.of _ _ (OpOk.run _ _ RkF.keep RkC.keep fun b v hs hc hg => ⟨rfl, _, _, exec_pick rfl (dep hg 0 rfl rfl rfl rfl) (dep hg 1 rfl rfl rfl rfl), .refl _ _, rfl⟩)) ?_
      refine OksOp.cons _ _ (OkOp.of _ _ (OpOk.run _ _ RkF.keep RkC.keep fun b v hs hc hg => ⟨rfl, _, _, exec_assign rfl (dep hg 0 rfl rfl rfl rfl), .refl _ _, rfl⟩)) ?_
      exact OksOp.nil _ _
    · have hHd : decide (H = 0) = false := decide_eq_false hH
      refine wp_region_skips (n := 111) (RkF r s H (.slice A4 M c4) (.slice A7 M2 c7) (decide (r = s)) false) (RkC w7 r s w.heap.size gs gy A4 A7 w4.heap.size w7.heap.size m m2) (by kernel_rfl) (by kernel_rfl) rfl ?_ ?_ ?_
      · exact ⟨(Below.refl _ _).drew, hxr7.out, hxs7.out, hY7.out, ⟨Hs47.out, hr7.out⟩, Nat.le_refl _, hrm7'.out⟩
      rotate_left
      · intro b' w' hsz hd hs hc hall
        have h4' : b'.tmps[6]?.getD undef = .bool true := by
          have : b'.tmps.getD 6 undef = .bool true := hall 27 _ _ rfl rfl
          rwa [Array.getD_eq_getD_getElem?] at this
        clear hall hs
        go_wp2
        exact bodyPost_ret (v := .bool true) (by simp [results, Try.results6, h4', go_sem]) hd ⟨rfl, hb7w.out.trans (hc.1.mono hb7w.out.size)⟩
      refine OksOp.cons _ _ (OkOp.of _ _ (OpOk.run _ _ RkF.keep RkC.keep fun b v hs hc hg => ⟨rfl, _, _, exec_move rfl (hs 12 (by kernel_rfl)), .refl _ _, rfl⟩)) ?_
      refine OksOp.cons _ _ (OkOp.of _ _ (OpOk.run _ _ RkF.keep RkC.keep fun b v hs hc hg => ⟨rfl, _, _, exec_eqE (m := 0) rfl (dep hg 0 rfl rfl rfl rfl) rfl, .refl _ _, by rw [decide_eq_true rfl]; rfl⟩)) ?_
      refine OksOp.cons _ _ (OkOp.of _ _ (OpOk.run _ _ RkF.keep RkC.keep fun b v hs hc hg => ⟨rfl, _, _, exec_move rfl (dep hg 0 rfl rfl rfl rfl), .refl _ _, rfl⟩)) ?_
      refine OksOp.cons _ _ (OkOp.of _ _ (OpOk.run _ _ RkF.keep RkC.keep fun b v hs hc hg => ⟨wanted_of rfl rfl rfl (dep hg 0 rfl rfl rfl rfl), _, _, exec_move rfl (hs 14 (by kernel_rfl)), .refl _ _, rfl⟩)) ?_
      refine OksOp.cons _ _ (OkOp.of _ _ (OpOk.run _ _ RkF.keep RkC.keep fun b v hs hc hg => ⟨wanted_of rfl rfl rfl (dep hg 1 rfl rfl rfl rfl), _, _, exec_eqE (m := 0) rfl (dep hg 0 rfl rfl rfl rfl) rfl, .refl _ _, by rw [decide_eq_true rfl]; rfl⟩)) ?_
      refine OksOp.cons _ _ (OkOp.of _ _ (OpOk.run _ _ RkF.keep RkC.keep fun b v hs hc hg => ⟨rfl, _, _, exec_pick rfl (dep hg 0 rfl rfl rfl rfl) (dep hg 1 rfl rfl rfl rfl), .refl _ _, rfl⟩)) ?_
      refine OksOp.cons _ _ (OkOp.of _ _ (OpOk.run _ _ RkF.keep RkC.keep fun b v hs hc hg => ⟨rfl, _, _, exec_move rfl (dep hg 0 rfl rfl rfl rfl), .refl _ _, rfl⟩)) ?_
      refine OksOp.cons _ _ (OkOp.of _ _ (OpOk.run _ _ RkF.keep RkC.keep fun b v hs hc hg => ⟨wanted_of rfl rfl rfl (dep hg 0 rfl rfl rfl rfl), _, _, exec_loadRec rfl (hs 13 (by kernel_rfl)) hc.2.2.2.1.cells12, .refl _ _, rfl⟩)) ?_
      refine OksOp.cons _ _ (OkOp.of _ _ (OpOk.run _ _ RkF.keep RkC.keep fun b v hs hc hg => ⟨wanted_of rfl rfl rfl (dep hg 0 rfl rfl rfl rfl), _, _, exec_loadRec rfl (hs 3 (by kernel_rfl)) hc.2.1.cells12, .refl _ _, rfl⟩)) ?_
      refine OksOp.cons _ _ (OkOp.of _ _ (OpOk.run _ _ RkF.keep RkC.keep fun b v hs hc hg => ⟨wanted_of rfl rfl rfl (dep hg 2 rfl rfl rfl rfl), _, _, exec_eqRec rfl (dep hg 0 rfl rfl rfl rfl) (dep hg 1 rfl rfl rfl rfl), .refl _ _, by rw [decide_eq_true rfl]; rfl⟩)) ?_
      refine OksOp.cons _ _ (OkOp.of _ _ (OpOk.run _ _ RkF.keep RkC.keep fun b v hs hc hg => ⟨rfl, _, _, exec_pick rfl (dep hg 0 rfl rfl rfl rfl) (dep hg 1 rfl rfl rfl rfl), .refl _ _, rfl⟩)) ?_
      refine OksOp.cons _ _ (OkOp.of _ _ (OpOk.run _ _ RkF.keep RkC.keep fun b v hs hc hg => ⟨rfl, _, _, exec_move rfl (dep hg 0 rfl rfl rfl rfl), .refl _ _, rfl⟩)) ?_
      refine OksOp.cons _ _ (OkOp.of _ _ (OpOk.run _ _ RkF.keep RkC.keep fun b v hs hc hg => ⟨wanted_of rfl rfl rfl (dep hg 0 rfl rfl rfl rfl), _, _, exec_move rfl (hs 16 (by kernel_rfl)), .refl _ _, rfl⟩)) ?_
      refine OksOp.cons _ _ (OkOp.of _ _ (OpOk.run _ _ RkF.keep RkC.keep fun b v hs hc hg => ⟨wanted_of rfl rfl rfl (dep hg 1 rfl rfl rfl rfl), _, _, exec_neE6 (m := 0) rfl (dep hg 0 rfl rfl rfl rfl) rfl, .refl _ _, rfl⟩)) ?_
      refine OksOp.cons _ _ (OkOp.of _ _ (OpOk.run _ _ RkF.keep RkC.keep fun b v hs hc hg => ⟨wanted_of rfl rfl rfl (dep hg 2 rfl rfl rfl rfl), _, _, exec_move rfl (dep hg 0 rfl rfl rfl rfl), .refl _ _, congrArg (fun q => Value.bool (!q)) hHd⟩)) ?_
      refine OksOp.cons _ _ (OkOp.skip _ _ fun b v hs hc hg => ⟨unwanted_of rfl rfl rfl (dep hg 0 rfl rfl rfl rfl), rfl⟩) ?_
      refine OksOp.cons _ _ (OkOp.skip _ _ fun b v hs hc hg => ⟨unwanted_of rfl rfl rfl (dep hg 0 rfl rfl rfl rfl), rfl⟩) ?_
      refine OksOp.cons _ _ (OkOp.skip _ _ fun b v hs hc hg => ⟨unwanted_of rfl rfl rfl (dep hg 3 rfl rfl rfl rfl), rfl⟩) ?_
      refine OksOp.cons _ _ (OkOp.skip _ _ fun b v hs hc hg => ⟨unwanted_of rfl rfl rfl (dep hg 0 rfl rfl rfl rfl), rfl⟩) ?_
      refine OksOp.cons _ _ (OkOp.skip _ _ fun b v hs hc hg => ⟨unwanted_of rfl rfl rfl (dep hg 0 rfl rfl rfl rfl), rfl⟩) ?_
      refine OksOp.cons _ _ (OkOp.skip _ _ fun b v hs hc hg => ⟨unwanted_of rfl rfl rfl (dep hg 2 rfl rfl rfl rfl), rfl⟩) ?_
      refine OksOp.cons _ _ (OkOp.skip _ _ fun b v hs hc hg => ⟨unwanted_of rfl rfl rfl (dep hg 2 rfl rfl rfl rfl), rfl⟩) ?_
      refine OksOp.cons _ _ (OkOp.of _ _ (OpOk.run _ _ RkF.keep RkC.keep fun b v hs hc hg => ⟨wanted_of rfl rfl rfl (dep hg 2 rfl rfl rfl rfl), _, _, exec_pick rfl (dep hg 0 rfl rfl rfl rfl) rfl, .refl _ _, rfl⟩)) ?_
      refine OksOp.cons _ _ (OkOp.of _ _ (OpOk.run _ _ RkF.keep RkC.keep fun b v hs hc hg => ⟨rfl, _, _, exec_pick rfl (dep hg 0 rfl rfl rfl rfl) (dep hg 1 rfl rfl rfl rfl), .refl _ _, rfl⟩)) ?_
      refine OksOp.cons _ _ (OkOp.of _ _ (OpOk.run _ _ RkF.keep RkC.keep fun b v hs hc hg => ⟨rfl, _, _, exec_move rfl (dep hg 0 rfl rfl rfl rfl), .refl _ _, rfl⟩)) ?_
      refine OksOp.cons _ _ (OkOp.of _ _ (OpOk.call _ _ RkF.keep RkC.keep fun b v hs hc hg => ⟨wanted_of rfl rfl rfl (dep hg 1 rfl rfl rfl rfl), _, _, exec_call0 (enter_works6 _) rfl, ans_v (works6_any v)⟩)) ?_
      refine OksOp.cons _ _ (OkOp.of _ _ (OpOk.run _ _ RkF.keep RkC.keep fun b v hs hc hg => ⟨rfl, _, _, exec_pick rfl (dep hg 0 rfl rfl rfl rfl) (dep hg 1 rfl rfl rfl rfl), .refl _ _, rfl⟩)) ?_
      refine OksOp.cons _ _ (OkOp.of _ _ (OpOk.run _ _ RkF.keep RkC.keep fun b v hs hc hg => ⟨rfl, _, _, exec_assign rfl (dep hg 0 rfl rfl rfl rfl), .refl _ _, rfl⟩)) ?_
      exact OksOp.nil _ _
end Go.Proofs.Ytfhcpjnjemojgaa
