/- The walks of the two tables. Conditions: none. -/
import Derived.Test.YtfhcpjnjemojgaaKCrcB
import Derived.Laws.Rows
import Derived.Great.Walk
namespace Go.Proofs.Ytfhcpjnjemojgaa
open Go.RowKit

/-- The table's cells. -/
def tabV : Array Value := ((List.range 256).map fun i => rv (tab i)).toArray
/-- The table filled up to k. -/
def tabTo (k : Nat) : Array Value := ((List.range 256).map fun i => if i < k then rv (tab i) else .int .u32 0).toArray
theorem tabTo_size (k : Nat) : (tabTo k).size = 256 := by simp [tabTo]
theorem tabV_size : tabV.size = 256 := by simp [tabV]
theorem tabV_one : tabV.all (·.oneCell') = true := by
  rw [Array.all_eq_true_iff_forall_mem]
  intro x hx
  simp only [tabV, List.mem_toArray, List.mem_map] at hx
  obtain ⟨i, _, rfl⟩ := hx
  rfl
theorem tabTo_all : tabTo 256 = tabV := by
  unfold tabTo tabV
  rw [List.map_congr_left (g := fun i => rv (tab i)) (fun i hi => if_pos (List.mem_range.1 hi))]
theorem tabTo_get {k i : Nat} (hi : i < 256) (h : i < k) : (tabTo k)[i]? = some (rv (tab i)) := by
  unfold tabTo
  rw [List.getElem?_toArray, List.getElem?_map, List.getElem?_range hi, Option.map_some, if_pos h]
theorem tabTo_set {k : Nat} (hk : k < 256) : (tabTo k).setIfInBounds k (rv (tab k)) = tabTo (k + 1) := by
  apply Array.ext_getElem?
  intro i
  rw [Array.getElem?_setIfInBounds, tabTo_size]
  by_cases h : k = i
  · subst h
    rw [if_pos rfl, if_pos hk, tabTo_get hk (by omega)]
  · rw [if_neg h]
    by_cases hi : i < 256
    · unfold tabTo
      rw [List.getElem?_toArray, List.getElem?_toArray, List.getElem?_map, List.getElem?_map, List.getElem?_range hi, Option.map_some, Option.map_some]
      congr 1
      by_cases hk' : i < k
      · rw [if_pos hk', if_pos (by omega)]
      · rw [if_neg hk', if_neg (by omega)]
    · rw [Array.getElem?_eq_none (by rw [tabTo_size]; omega), Array.getElem?_eq_none (by rw [tabTo_size]; omega)]

section
variable {P : Program}
theorem run_alloc_zero (w : World) (t : TypeId) (i : TypeInfo) (z : Value) (hi : P.info? t = some i) (hz : i.zero = some z) :
    (Instr.alloc t true (.tuple #[])).run P w = .ok (.pointer (some ⟨w.heap.size, 0, none⟩)) (w.alloc (.cells z.cells t)) := by
  simp [Instr.alloc, zeroValue, typeInfo, hi, hz, newVar, newRow]
/-- A variable of an array's type, new. -/
theorem wpList_alloc_zero {ops : Array Oper} {rest : List Oper} {o : Oper} {a : Act} {w : World} {Q : Exit → Act → World → Prop} (hgd : o.guard = none) (t : TypeId) (ho : o.op = .alloc t)
    (cs : Array Value) (hz : (P.info? t).bind (·.zero) = some (.agg cs)) (N : Nat) (hN : w.heap.size = N)
    (h : wpList P ops Q rest (a.put o.dst (.pointer (some ⟨N, 0, none⟩))) (w.alloc (.cells cs t))) : wpList P ops Q (o :: rest) a w := by
  subst hN
  cases hi : P.info? t with
  | none => simp [hi] at hz
  | some i =>
    simp only [hi, Option.bind_some] at hz
    refine wpList_plain hgd fun _ hK => ?_
    unfold Oper.wp execOp
    simp only [ho, Sem.run_bind, run_alloc_zero w t i _ hi hz, Result.andThen_ok]
    exact hK _ _ h
end
theorem zero_row : (Try.prog.info? 119).bind (·.zero) = some (.agg (tabTo 0)) := by kernel_rfl
theorem size_row : (Try.prog.info? 119).map (·.size) = some 256 := by kernel_rfl

/-- The two blocks of a call that makes a table: the result's, and the table filled up to k. -/
structure Tabs (w0 : World) (k : Nat) (w : World) : Prop where
  res : w.heap[w0.heap.size]? = some (.cells (tabTo 0) 119 (0, 0))
  tab : w.heap[w0.heap.size + 1]? = some (.cells (tabTo k) 119 (0, 0))
  old : Below w0.heap.size w0 w
theorem Tabs.new (w : World) : Tabs w 0 ((w.alloc (.cells (tabTo 0) 119)).alloc (.cells (tabTo 0) 119)) :=
  ⟨heap_alloc2_old w _ _, heap_alloc2_new w _ _, ((Below.refl _ _).alloc (Nat.le_refl _) _).alloc (by simp) _⟩
theorem Tabs.cell {w0 w : World} {k i : Nat} (h : Tabs w0 k w) (hi : i < 256) (hk : i < k) : w.cell? ⟨w0.heap.size + 1, i, none⟩ = some (rv (Go.Proofs.Ytfhcpjnjemojgaa.tab i)) := by
  rw [cell_of_row w _ i _ _ _ h.tab]
  exact tabTo_get hi hk
theorem Tabs.some_cell {w0 w : World} {k i : Nat} (h : Tabs w0 k w) (hi : i < 256) : ∃ u, w.cell? ⟨w0.heap.size + 1, i, none⟩ = some u := by
  rw [cell_of_row w _ i _ _ _ h.tab]
  exact ⟨_, Array.getElem?_eq_getElem (by rw [tabTo_size]; exact hi)⟩
theorem Tabs.free {w0 w : World} {k : Nat} (h : Tabs w0 k w) (i : Nat) : w.frozen? ⟨w0.heap.size + 1, i, none⟩ = false := frozen_of_row w _ i _ _ h.tab
theorem Tabs.go {w0 w : World} {k : Nat} (h : Tabs w0 k w) (hk : k < 256) {z : Int} (hz : z = ((Go.Proofs.Ytfhcpjnjemojgaa.tab k).toNat : Int)) : Tabs w0 (k + 1) (w.setCell ⟨w0.heap.size + 1, k, none⟩ (.int .u32 z)) := by
  subst hz
  refine ⟨?_, ?_, h.old.setCell (by simp) _⟩
  · rw [heap_setCell_other w _ _ _ (by simp)]
    exact h.res
  · rw [heap_setCell_same w _ _ _ _ _ h.tab, tabTo_set hk]

theorem below_setRow {B : Nat} {a w : World} (h : Below B a w) {g : Nat} (hg : B ≤ g) (cs : Array Value) : Below B a (w.setRow g cs) :=
  ⟨h.os, h.tape, h.output, by rw [size_setRow]; exact h.size, fun k hk => (setRow_other w g k cs (by omega)).trans (h.block k hk)⟩
theorem of_small {k : Nat} (h : k < 256) : (k : Int) = ((BitVec.ofNat 32 k).toNat : Int) := by
  rw [BitVec.toNat_ofNat]
  omega

end Go.Proofs.Ytfhcpjnjemojgaa
