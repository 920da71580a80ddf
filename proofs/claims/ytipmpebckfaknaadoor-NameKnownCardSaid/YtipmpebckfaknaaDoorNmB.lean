/- The reference's numbers of a Name. Conditions: none. -/
import Derived.Test.YtipmpebckfaknaaDoorNmA
import Derived.BigRegion
import Derived.Test.YtipmpebckfaknaaDoorPush
namespace Go.Proofs.YtipmpebckfaknaaDoor
open Go.RowKit

/-- The numbers of which a Name's kind tells. -/
def numsOf (x : Nm) : List Nat :=
  if x.k = 1 ∨ x.k = 2 then [x.d, x.n] else if x.k = 3 then [x.p, x.i, x.c] else if x.k = 4 then [x.d, x.p, x.i, x.c] else []
/-- May there be such a Name? -/
def mayOf (x : Nm) : Bool :=
  if x.k = 1 ∨ x.k = 2 then decide (x.p = 0) && decide (x.i = 0) && decide (x.c = 0) else if x.k = 3 then decide (x.d = 0) && decide (x.n = 0) else if x.k = 4 then decide (x.n = 0) else false
def RNum (x : Nm) (w : World) (e : Ending) (w' : World) : Prop :=
  ∃ A c, e = .returned (.tuple #[.slice A (numsOf x).length c, .bool (mayOf x)]) ∧ RdU w' w'.heap.size A (numsOf x) ∧ Below w.heap.size w w'
theorem RNum.new (x : Nm) (w w1 : World) (l : List Nat) (b : Bool) (n c N : Nat) (hl : numsOf x = l) (hb : mayOf x = b) (hn : l.length = n) (hN : w1.heap.size = N) (hw : Below w.heap.size w w1) :
    RNum x w (.returned (.tuple #[.slice (some ⟨N, 0, none⟩) n c, .bool b])) (w1.alloc (.cells (us l).toArray 22)).drew := by
  subst hl hb hn hN
  refine ⟨_, c, rfl, ?_, ?_⟩
  · have := reads_new w1 22 (us (numsOf x))
    rw [us_len] at this
    have h2 : (w1.alloc (.cells (us (numsOf x)).toArray 22)).drew.heap.size = w1.heap.size + 1 := by simp
    rw [h2]
    exact this
  · have := hw.alloc hw.size (.cells (us (numsOf x)).toArray 22)
    exact ⟨this.os, this.tape, this.output, this.size, this.block⟩
theorem zero_true {a : Nat} (h : ((a : Int) == 0) = true) : a = 0 := by
  simp only [beq_iff_eq] at h; omega
theorem zero_false {a : Nat} (h : ((a : Int) == 0) = false) : a ≠ 0 := by
  simp only [beq_eq_false_iff_ne, ne_eq] at h; omega

set_option maxHeartbeats 4000000 in
theorem rnum_1 (d n p i c : Nat) (w : World) : Calls Tryd.prog 27 #[(Nm.mk 1 d n p i c).v] w fun e w' => RNum ⟨1, d, n, p, i, c⟩ w e w' := by
  unfold Nm.v
  simp only
  rcases hp : ((p : Int) == 0) with _ | _
  · go_enter Tryd.func27, Tryd.ntmps27
    go_wp2
    go_region
    go_wp2
    go_ret2
    refine RNum.new ⟨1, d, n, p, i, c⟩ w (w.alloc _) [d, n] false 2 2 (w.heap.size + 1) rfl ?_ rfl (by simp) (below_new w _)
    simp [mayOf, zero_false hp]
  · rcases hi : ((i : Int) == 0) with _ | _
    · go_enter Tryd.func27, Tryd.ntmps27
      go_wp2
      go_region
      go_wp2
      go_ret2
      refine RNum.new ⟨1, d, n, p, i, c⟩ w (w.alloc _) [d, n] false 2 2 (w.heap.size + 1) rfl ?_ rfl (by simp) (below_new w _)
      simp [mayOf, zero_true hp, zero_false hi]
    · rcases hc : ((c : Int) == 0) with _ | _
      all_goals
        go_enter Tryd.func27, Tryd.ntmps27
        go_wp2
        go_region
        go_wp2
        go_ret2
      · refine RNum.new ⟨1, d, n, p, i, c⟩ w (w.alloc _) [d, n] false 2 2 (w.heap.size + 1) rfl ?_ rfl (by simp) (below_new w _)
        simp [mayOf, zero_true hp, zero_true hi, zero_false hc]
      · refine RNum.new ⟨1, d, n, p, i, c⟩ w (w.alloc _) [d, n] true 2 2 (w.heap.size + 1) rfl ?_ rfl (by simp) (below_new w _)
        simp [mayOf, zero_true hp, zero_true hi, zero_true hc]
set_option maxHeartbeats 4000000 in
theorem rnum_2 (d n p i c : Nat) (w : World) : Calls Tryd.prog 27 #[(Nm.mk 2 d n p i c).v] w fun e w' => RNum ⟨2, d, n, p, i, c⟩ w e w' := by
  unfold Nm.v
  simp only
  rcases hp : ((p : Int) == 0) with _ | _
  · go_enter Tryd.func27, Tryd.ntmps27
    go_wp2
    go_region
    go_wp2
    go_ret2
    refine RNum.new ⟨2, d, n, p, i, c⟩ w (w.alloc _) [d, n] false 2 2 (w.heap.size + 1) rfl ?_ rfl (by simp) (below_new w _)
    simp [mayOf, zero_false hp]
  · rcases hi : ((i : Int) == 0) with _ | _
    · go_enter Tryd.func27, Tryd.ntmps27
      go_wp2
      go_region
      go_wp2
      go_ret2
      refine RNum.new ⟨2, d, n, p, i, c⟩ w (w.alloc _) [d, n] false 2 2 (w.heap.size + 1) rfl ?_ rfl (by simp) (below_new w _)
      simp [mayOf, zero_true hp, zero_false hi]
    · rcases hc : ((c : Int) == 0) with _ | _
      all_goals
        go_enter Tryd.func27, Tryd.ntmps27
        go_wp2
        go_region
        go_wp2
        go_ret2
      · refine RNum.new ⟨2, d, n, p, i, c⟩ w (w.alloc _) [d, n] false 2 2 (w.heap.size + 1) rfl ?_ rfl (by simp) (below_new w _)
        simp [mayOf, zero_true hp, zero_true hi, zero_false hc]
      · refine RNum.new ⟨2, d, n, p, i, c⟩ w (w.alloc _) [d, n] true 2 2 (w.heap.size + 1) rfl ?_ rfl (by simp) (below_new w _)
        simp [mayOf, zero_true hp, zero_true hi, zero_true hc]
set_option maxHeartbeats 4000000 in
theorem rnum_3 (d n p i c : Nat) (w : World) : Calls Tryd.prog 27 #[(Nm.mk 3 d n p i c).v] w fun e w' => RNum ⟨3, d, n, p, i, c⟩ w e w' := by
  unfold Nm.v
  simp only
  rcases hd : ((d : Int) == 0) with _ | _
  · go_enter Tryd.func27, Tryd.ntmps27
    go_wp2
    go_region
    go_wp2
    go_ret2
    refine RNum.new ⟨3, d, n, p, i, c⟩ w (w.alloc _) [p, i, c] false 3 3 (w.heap.size + 1) rfl ?_ rfl (by simp) (below_new w _)
    simp [mayOf, zero_false hd]
  · rcases hn : ((n : Int) == 0) with _ | _
    all_goals
      go_enter Tryd.func27, Tryd.ntmps27
      go_wp2
      go_region
      go_wp2
      go_ret2
    · refine RNum.new ⟨3, d, n, p, i, c⟩ w (w.alloc _) [p, i, c] false 3 3 (w.heap.size + 1) rfl ?_ rfl (by simp) (below_new w _)
      simp [mayOf, zero_true hd, zero_false hn]
    · refine RNum.new ⟨3, d, n, p, i, c⟩ w (w.alloc _) [p, i, c] true 3 3 (w.heap.size + 1) rfl ?_ rfl (by simp) (below_new w _)
      simp [mayOf, zero_true hd, zero_true hn]
set_option maxHeartbeats 4000000 in
theorem rnum_4 (d n p i c : Nat) (w : World) : Calls Tryd.prog 27 #[(Nm.mk 4 d n p i c).v] w fun e w' => RNum ⟨4, d, n, p, i, c⟩ w e w' := by
  unfold Nm.v
  simp only
  rcases hn : ((n : Int) == 0) with _ | _
  all_goals
    go_enter Tryd.func27, Tryd.ntmps27
    go_wp2
    go_region
    go_wp2
    go_ret2
  · refine RNum.new ⟨4, d, n, p, i, c⟩ w (w.alloc _) [d, p, i, c] false 4 4 (w.heap.size + 1) rfl ?_ rfl (by simp) (below_new w _)
    simp [mayOf, zero_false hn]
  · refine RNum.new ⟨4, d, n, p, i, c⟩ w (w.alloc _) [d, p, i, c] true 4 4 (w.heap.size + 1) rfl ?_ rfl (by simp) (below_new w _)
    simp [mayOf, zero_true hn]
theorem rnum_no (k d n p i c : Nat) (h1 : k ≠ 1) (h2 : k ≠ 2) (h3 : k ≠ 3) (h4 : k ≠ 4) (w : World) : Calls Tryd.prog 27 #[(Nm.mk k d n p i c).v] w fun e w' => RNum ⟨k, d, n, p, i, c⟩ w e w' := by
  have e1 : ((k : Int) == 1) = false := by simp only [beq_eq_false_iff_ne, ne_eq]; omega
  have e2 : ((k : Int) == 2) = false := by simp only [beq_eq_false_iff_ne, ne_eq]; omega
  have e3 : ((k : Int) == 3) = false := by simp only [beq_eq_false_iff_ne, ne_eq]; omega
  have e4 : ((k : Int) == 4) = false := by simp only [beq_eq_false_iff_ne, ne_eq]; omega
  unfold Nm.v
  simp only
  go_enter Tryd.func27, Tryd.ntmps27
  go_wp2
  go_ret2
  have hn : numsOf ⟨k, d, n, p, i, c⟩ = [] := by simp [numsOf, h1, h2, h3, h4]
  have hm : mayOf ⟨k, d, n, p, i, c⟩ = false := by simp [mayOf, h1, h2, h3, h4]
  unfold RNum
  rw [hn, hm]
  exact ⟨none, 0, rfl, Reads.none_, below_new _ _⟩
theorem rnum_any (x : Nm) (w : World) : Calls Tryd.prog 27 #[x.v] w (RNum x w) := by
  obtain ⟨k, d, n, p, i, c⟩ := x
  by_cases h1 : k = 1
  · subst h1; exact rnum_1 d n p i c w
  · by_cases h2 : k = 2
    · subst h2; exact rnum_2 d n p i c w
    · by_cases h3 : k = 3
      · subst h3; exact rnum_3 d n p i c w
      · by_cases h4 : k = 4
        · subst h4; exact rnum_4 d n p i c w
        · exact rnum_no k d n p i c h1 h2 h3 h4 w
end Go.Proofs.YtipmpebckfaknaaDoor
