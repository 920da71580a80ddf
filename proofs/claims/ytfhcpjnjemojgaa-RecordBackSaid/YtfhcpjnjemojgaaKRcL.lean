/- The walk of right: is a record right, by its kind's parts? Conditions: none. -/
import Derived.Test.YtfhcpjnjemojgaaKRcK
namespace Go.Proofs.Ytfhcpjnjemojgaa
open Go.RowKit

theorem Rc.cells_eq (x : Rc) : Value.agg x.cells.toArray = x.v := rfl
theorem RecAt.cells12 {x : Rc} {w : World} {g : Nat} (h : RecAt x w g) : Cells12 x w g := ⟨h.cell⟩
theorem recAt_new (x : Rc) (w : World) : RecAt x (w.alloc (.cells x.cells.toArray 24)) w.heap.size := heap_alloc_new _ _
/-- What right tells of a record of a kind that there is. -/
def rightP (x : Rc) : Bool := decide (x.z ≤ 65535) && decide (x.s ≤ 4294967295) && decide (runS eraP x (allP x.k) = (Rc.zero x.k, 0))
theorem rightM_eq (x : Rc) : rightM x = (isK x.k && rightP x) := by
  unfold rightM rightP
  simp only [Bool.and_assoc]
theorem eraP_k (x : Rc) (j : Nat) : (eraP x j).1.k = x.k := by
  unfold eraP
  split
  · exact k_setN _ _ _
  · split
    · rfl
    · exact k_setT _ _ _
theorem runS_eraP_k : ∀ (ps : List Nat) (x : Rc), (runS eraP x ps).1.k = x.k
  | [], _ => rfl
  | j :: ps, x => by
    rw [runS]
    split
    · exact eraP_k x j
    · rw [runS_eraP_k ps, eraP_k]
theorem PartsAt.below {w w' : World} {A : Option Addr} {ps : List Nat} (h : PartsAt w A ps) (hb : Below w.heap.size w w') : PartsAt w' A ps := h.keep (keep_below hb)
set_option maxHeartbeats 2000000 in
set_option maxRecDepth 100000 in
theorem right_any (x : Rc) (A : Option Addr) (c : Nat) (w : World) (hp : PartsAt w A (parts x.k)) :
    Calls Try.prog 31 #[x.v, .slice A (parts x.k).length c] w fun e w' => e = .returned (.bool (rightP x)) ∧ Below w.heap.size w w' := by
  obtain ⟨m, hm⟩ : ∃ m, Hid (m = (parts x.k).length) := ⟨_, rfl⟩
  rw [← hm.out]
  obtain ⟨W, hW⟩ : ∃ W, Hid (W = w.alloc (.cells x.cells.toArray 24)) := ⟨_, rfl⟩
  have hbW : Hid (Below w.heap.size w W) := by rw [hW.out]; exact below_new _ _
  have hx : Hid (RecAt x W w.heap.size) := by rw [hW.out]; exact recAt_new x w
  have hpW : Hid (PartsAt W A (parts x.k)) := hp.below hbW.out
  have hsz := Lib.hid (show W.heap.size = w.heap.size + 1 by rw [hW.out]; simp)
  clear hp
  have hc8 : W.cell? ⟨w.heap.size, 8, none⟩ = some (.int .u64 (x.z : Int)) := hx.out.cell 8
  have hc9 : W.cell? ⟨w.heap.size, 9, none⟩ = some (.int .u64 (x.s : Int)) := hx.out.cell 9
  have hW' : w.alloc (.cells #[.int .u8 (x.k : Int), .int .u64 (x.p : Int), .int .u64 (x.i : Int), .int .u64 (x.q : Int), .int .u64 (x.e : Int), .int .u64 (x.u : Int), .int .u64 (x.r : Int), .int .u64 (x.c : Int), .int .u64 (x.z : Int), .int .u64 (x.s : Int), .string (txt x.n), .string (txt x.t)] 24) = W := hW.out.symm
  have HW' := Lib.hid hW'
  clear hW'
  unfold Rc.v
  go_enter Try.func31, Try.ntmps31
  go_upto_region 1 with fail
  rw [HW'.out]
  by_cases hz : 65535 < x.z
  · have hz' : (65535 : Int) < (x.z : Int) := by omega
    go_wp2
    go_ret
    exact ⟨ret_bool (by unfold rightP; rw [decide_eq_false (p := x.z ≤ 65535) (by omega)]; rfl), hbW.out⟩
  by_cases hs : 4294967295 < x.s
  · have hz' : (x.z : Int) ≤ 65535 := by omega
    have hs' : (4294967295 : Int) < (x.s : Int) := by omega
    go_wp2
    go_ret
    exact ⟨ret_bool (by unfold rightP; rw [decide_eq_false (p := x.s ≤ 4294967295) (by omega), Bool.and_false]; rfl), hbW.out⟩
  have hz' : (x.z : Int) ≤ 65535 := by omega
  have hs' : (x.s : Int) ≤ 4294967295 := by omega
  have hR : rightP x = decide (runS eraP x (allP x.k) = (Rc.zero x.k, 0)) := by
    unfold rightP
    rw [decide_eq_true (p := x.z ≤ 65535) (by omega), decide_eq_true (p := x.s ≤ 4294967295) (by omega), Bool.true_and, Bool.true_and]
  have hcall := walkEra_any x x.k w.heap.size A c W hx.out hpW.out
  rw [← hm.out] at hcall
  have hyk := runS_eraP_k (allP x.k) x
  obtain ⟨y, E, hyE⟩ : ∃ y E, runS eraP x (allP x.k) = (y, E) := ⟨_, _, rfl⟩
  rw [hyE] at hcall hR hyk
  simp only at hcall hyk
  have Hcall := Lib.hid hcall
  have HR := Lib.hid hR
  have Hyk := Lib.hid hyk
  clear hz hs hcall hR hyE hyk
  by_cases hE : E = 0
  · subst hE
    go_upto_region 4 with (go_at_call 32; refine Hcall.out.mono ?_; rintro e w2 ⟨rfl, hy, hb2⟩)
    have hb : Below w.heap.size w w2 := hbW.out.trans (hb2.below (by rw [hsz.out]; omega) (by simp))
    refine wp_region_lit (wpList_run (v := .int .i64 0) (w' := w2) rfl (by kernel_rfl) (wpList_run (v := .bool true) (w' := w2) rfl (by kernel_rfl) (wpList_run (v := .bool true) (w' := w2) rfl (by kernel_rfl) ?_)))
    go_frame
    refine wpList_runG (v := y.v) (w' := w2) (by kernel_rfl) (exec_loadRec (x := .tmp 2) (g := w.heap.size) rfl (by kernel_rfl) hy.cells12) ?_
    go_frame
    refine wpList_runG (v := .pointer (some ⟨w.heap.size, 0, none⟩)) (w' := w2) (by kernel_rfl) (exec_fieldC (x := .tmp 2) 0 (by decide) rfl (by kernel_rfl)) ?_
    go_frame
    refine wpList_runG (v := .int .u8 (y.k : Int)) (w' := w2) (by kernel_rfl) (exec_load8 (x := .tmp 22) (a := ⟨w.heap.size, 0, none⟩) rfl (by kernel_rfl) (hy.cell 0)) ?_
    go_frame
    refine wpList_runG (v := (Rc.zero y.k).v) (w' := w2) (by kernel_rfl) (exec_buildK (x := .tmp 23) rfl (by kernel_rfl)) ?_
    go_frame
    refine wpList_runG (v := .bool (decide (y = Rc.zero y.k))) (w' := w2) (by kernel_rfl) (exec_eqRec (x := .tmp 21) (y := .tmp 24) rfl (by kernel_rfl) (by kernel_rfl)) ?_
    go_frame
    refine wpList_run (v := .bool (decide (y = Rc.zero y.k))) (w' := w2) rfl (by kernel_rfl) (wpList_run (v := .bool (decide (y = Rc.zero y.k))) (w' := w2) rfl (by kernel_rfl) ?_)
    go_frame
    go_wp2_with fail
    go_ret
    refine ⟨ret_bool ?_, hb⟩
    rw [HR.out, Hyk.out]
    exact decide_eq_decide.2 ⟨fun h => by rw [h], fun h => (Prod.mk.inj h).1⟩
  · have hE1 : ((E : Int) == 0) = false := by rw [beq_eq_false_iff_ne]; omega
    have hE2 : (E == 0) = false := by rw [beq_eq_false_iff_ne]; exact hE
    go_wp2_with (go_at_call 32; refine Hcall.out.mono ?_; rintro e w2 ⟨rfl, hy, hb2⟩)
    have hb : Below w.heap.size w w2 := hbW.out.trans (hb2.below (by rw [hsz.out]; omega) (by simp))
    go_ret
    exact ⟨ret_bool (by rw [HR.out, decide_eq_false]; intro h; exact hE (Prod.mk.inj h).2), hb⟩
end Go.Proofs.Ytfhcpjnjemojgaa
