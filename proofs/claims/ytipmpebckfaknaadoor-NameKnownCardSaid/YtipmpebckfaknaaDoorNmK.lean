/- slices.SortFunc over a list of Names of the call's own, by Compare: the list in order. Conditions: at most 2^40. -/
import Derived.Test.YtipmpebckfaknaaDoorNmN
namespace Go.Proofs.YtipmpebckfaknaaDoor
open Go.RowKit Go.Lib Go.Sort

instance : Inhabited Nm := ⟨Nm.zero⟩
/-- Names in order. -/
def sortN (xs : List Nm) : List Nm := xs.mergeSort fun x y => !(ltOf cmpOf) y x
theorem lt_iff (x y : Nm) : ltOf cmpOf x y = true ↔ cmpOf x y < 0 := by unfold ltOf; exact decide_eq_true_iff
theorem lt_not (x y : Nm) : ltOf cmpOf x y = false ↔ 0 ≤ cmpOf x y := by
  unfold ltOf
  rw [decide_eq_false_iff_not]
  omega
theorem swo_nm : SWO (ltOf cmpOf) where
  irrefl x := by rw [lt_not, cmpOf_self]; exact Int.le_refl _
  trans x y z h1 h2 := by rw [lt_iff] at *; exact cmpOf_trans h1 h2
  ntrans x y z h1 h2 := by
    rw [lt_not] at *
    rcases cmpOf_range x z with h | h | h
    · exfalso
      have hxz : cmpOf x z < 0 := by omega
      rcases cmpOf_range x y with h3 | h3 | h3
      · omega
      · have e := (cmpOf_zero x y).1 h3
        subst e
        omega
      · have hyx : cmpOf y x < 0 := by rw [cmpOf_neg]; omega
        have := cmpOf_trans hyx hxz
        omega
    · omega
    · omega
theorem total_nm (x y : Nm) (h : ltOf cmpOf x y = false) (h' : ltOf cmpOf y x = false) : x = y := by
  rw [lt_not] at h h'
  rw [cmpOf_neg] at h'
  exact (cmpOf_zero x y).1 (by omega)
theorem sortN_length (xs : List Nm) : (sortN xs).length = xs.length := by unfold sortN; exact List.length_mergeSort _
theorem get_nm (x : Nm) (j : Nat) (hj : j < 6) : x.cells[j]? = some (x.cells[j]!) := by
  rw [List.getElem!_eq_getElem?_getD, List.getElem?_eq_getElem (show j < x.cells.length from hj)]
  rfl
theorem flat_get (xs : List Nm) {t : Nat} (ht : t < xs.length * 6) : (ncells xs)[t]? = some ((flatK Nm.cells 6 xs.toArray)[t]!) := by
  have h6 : t % 6 < 6 := Nat.mod_lt _ (by decide)
  have hk : t / 6 < xs.length := by omega
  have hx : xs[t / 6]? = some xs[t / 6] := List.getElem?_eq_getElem hk
  rw [get_flatK Nm.cells 6 xs.toArray t (by simpa using ht)]
  have e : (xs.toArray)[t / 6]! = xs[t / 6] := by
    rw [getElem!_pos xs.toArray (t / 6) (by simpa using hk)]
    simp
  rw [e, ← get_nm _ _ h6, ← ncells_get hx h6]
  congr 1
  omega
theorem RowN.holds {w : World} {g : Nat} {e : TypeId} {xs : List Nm} {rest : List Value} (h : RowN w g e xs rest) : HoldsK Nm.cells 6 w g 0 xs.toArray := by
  intro j hj
  rw [size_flatK] at hj
  simp only [List.size_toArray] at hj
  rw [Nat.zero_add]
  constructor
  · rw [cell_of_row w g j _ _ _ h, List.getElem?_toArray, List.getElem?_append_left (by rw [ncells_len]; exact hj)]
    exact flat_get xs hj
  · unfold RowN at h
    simp [World.frozen?, h]
theorem RowN.sorted {w : World} {g : Nat} {e : TypeId} {xs ys : List Nm} {rest : List Value} (h : RowN w g e xs rest) (hl : ys.length = xs.length) (n : Nat) (os : Array Obj) : RowN (sortWorldK Nm.cells 6 w g 0 n ys.toArray os) g e ys rest := by
  have hlt := h.lt
  unfold sortWorldK putRowK putRow mapBlock grow RowN Go.Sort.ahead
  simp only
  rw [Array.getElem?_append_left (by simpa using hlt), Array.getElem?_modify, if_pos rfl]
  unfold RowN at h
  rw [h]
  simp only [Option.map_some, onCells, Option.some.injEq, Obj.cells.injEq, and_self, and_true]
  apply Array.ext_getElem?
  intro t
  unfold putCells
  rw [Array.getElem?_mapIdx, List.getElem?_toArray, List.getElem?_toArray, size_flatK]
  simp only [List.size_toArray, Nat.zero_le, true_and, Nat.zero_add, Nat.sub_zero, id]
  by_cases ht : t < ys.length * 6
  · rw [List.getElem?_append_left (by rw [ncells_len]; omega), List.getElem?_append_left (by rw [ncells_len]; exact ht), flat_get ys ht, flat_get xs (by omega)]
    simp [ht]
  · rw [List.getElem?_append_right (by rw [ncells_len]; omega), List.getElem?_append_right (by rw [ncells_len]; omega), ncells_len, ncells_len, hl]
    cases hr : rest[t - xs.length * 6]? with
    | none => rfl
    | some u =>
      simp [ht]
      intro h'
      omega
theorem below_sorted {w : World} {g base : Nat} (hb : base ≤ g) (hbase : base ≤ w.heap.size) (n : Nat) (d : Array Nm) (os : Array Obj) : Below base w (sortWorldK Nm.cells 6 w g 0 n d os) := by
  unfold sortWorldK putRowK putRow mapBlock grow Go.Sort.ahead
  refine ⟨rfl, rfl, rfl, by simp, fun k hk => ?_⟩
  simp only
  rw [Array.getElem?_append_left (by simpa using Nat.lt_of_lt_of_le hk hbase), Array.getElem?_modify, if_neg (by omega)]

theorem cmpLays_nm (blk off size : Nat) (w : World) : CmpLays Tryd.prog 14 #[] Nm.cells 6 cmpOf blk off size w :=
  fun _ _ _ _ x y => (compare_any x y _).mono fun _ _ ⟨h1, h2⟩ => ⟨h1, h2.out⟩

theorem sort_own {base : Nat} {v : Value} {xs : List Nm} (w : World) (h : OwnN 24 base w v xs) (hbase : base ≤ w.heap.size) (hl : xs.length ≤ 1099511627776) :
    Calls Tryd.prog 38 #[v, .func (.func 14) #[] #[]] w fun e w' => e = .returned (.tuple #[]) ∧ OwnN 24 base w' v (sortN xs) ∧ Below base w w' := by
  rcases h.form with ⟨rfl, rfl⟩ | ⟨g, cap, rest, rfl, hb, hr, h1, h2, h3⟩
  · refine (AnyF.slices_SortFunc_none Tryd.laysSort none 0 (.func (.func 14) #[] #[]) w).mono ?_
    rintro e w' ⟨rfl, rfl⟩
    exact ⟨rfl, by rw [show sortN [] = [] from List.mergeSort_nil]; exact OwnN.nil _ _ _, .refl _ _⟩
  · have eg : ∀ args w, (callFunc 14 args).run Tryd.prog w = .ok (.enter 14 args) w := fun args w => enter_compare w args
    have hcon := AnyQ.slices_SortFunc_total Tryd.laysSort 6 Tryd.isAgg24 Tryd.sizeOf24 Nm.cells (fun x => cells_len x) (fun x => cells_one x) cmpOf swo_nm 14 #[] g 0 cap xs.toArray w eg (cmpLays_nm g 0 _ w) hr.holds hr.lt (by simp only [List.size_toArray]; omega) total_nm
    simp only [List.size_toArray] at hcon
    refine hcon.mono ?_
    rintro e w' ⟨rfl, n, os, rfl⟩
    have hlen := sortN_length xs
    refine ⟨rfl, ?_, below_sorted hb hbase _ _ _⟩
    have hr' := hr.sorted (ys := sortN xs) hlen n os
    rw [← hlen]
    exact OwnN.of hb hr' (by omega) h2 (by rw [List.length_append, ncells_len, hlen, ← ncells_len, ← List.length_append]; exact h3)
end Go.Proofs.YtipmpebckfaknaaDoor
