/- One Name brought to its place from behind: the order that stands. Conditions: none. -/
import Derived.Test.YtipmpebckfaknaaDoorNmH
namespace Go.Proofs.YtipmpebckfaknaaDoor
open Go.RowKit Go.Lib Go.Sort

/-- Not behind. -/
def LeN (a b : Nm) : Prop := cmpOf a b ≤ 0
theorem le_iff (a b : Nm) : LeN a b ↔ ltOf cmpOf b a = false := by
  unfold LeN
  rw [lt_not, cmpOf_neg]
  omega
theorem LeN.trans {a b c : Nm} (h : LeN a b) (h' : LeN b c) : LeN a c := by
  rw [le_iff] at *
  exact swo_nm.ntrans c b a h' h
theorem LeN.of_gt {a b : Nm} (h : 0 < cmpOf a b) : LeN b a := by
  unfold LeN
  rw [cmpOf_neg]
  omega
theorem sortN_of {own xs : List Nm} (hs : own.Pairwise LeN) (hp : own.Perm xs) : own = sortN xs := by
  refine List.Perm.eq_of_pairwise (le := LeN) ?_ hs ?_ (hp.trans (List.mergeSort_perm _ _).symm)
  · intro a b _ _ h h'
    rw [le_iff] at h h'
    exact total_nm a b h' h
  · have h := List.pairwise_mergeSort (le := fun x y => !(ltOf cmpOf) y x) (fun a b c h h' => by
      simp only [Bool.not_eq_true'] at *
      exact swo_nm.ntrans c b a h' h) (fun a b => by
      cases h : ltOf cmpOf b a with
      | false => simp
      | true => simp [swo_nm.asymmA h]) xs
    refine h.imp ?_
    intro a b hab
    rw [le_iff]
    simpa using hab

/-- The last Name, x, has come from behind to place k. -/
def InSt (own : List Nm) (x : Nm) (k : Nat) (xs : List Nm) : Prop := ∃ A B, A.length = k ∧ xs = A ++ x :: B ∧ own = A ++ B ∧ ∀ b ∈ B, 0 < cmpOf b x
theorem InSt.start (own : List Nm) (x : Nm) : InSt own x own.length (own ++ [x]) := ⟨own, [], rfl, rfl, by simp, by simp⟩
theorem InSt.perm {own xs : List Nm} {x : Nm} {k : Nat} (h : InSt own x k xs) : xs.Perm (own ++ [x]) := by
  obtain ⟨A, B, _, rfl, rfl, _⟩ := h
  refine List.perm_middle.trans ?_
  exact (List.perm_append_singleton _ _).symm
theorem InSt.length {own xs : List Nm} {x : Nm} {k : Nat} (h : InSt own x k xs) : xs.length = own.length + 1 := by
  have := h.perm.length_eq
  simpa using this
theorem InSt.le {own xs : List Nm} {x : Nm} {k : Nat} (h : InSt own x k xs) : k < xs.length := by
  obtain ⟨A, B, rfl, rfl, _, _⟩ := h
  simp
theorem InSt.stop0 {own xs : List Nm} {x : Nm} (h : InSt own x 0 xs) (hs : own.Pairwise LeN) : xs.Pairwise LeN := by
  obtain ⟨A, B, hA, rfl, rfl, hB⟩ := h
  obtain rfl := List.eq_nil_of_length_eq_zero hA
  rw [List.nil_append] at *
  exact List.pairwise_cons.2 ⟨fun b hb => LeN.of_gt (hB b hb), hs⟩
/-- What stands at the place and ahead of it. -/
theorem InSt.two {own xs : List Nm} {x : Nm} {k : Nat} (h : InSt own x (k + 1) xs) : ∃ A' a B, A'.length = k ∧ xs = A' ++ a :: x :: B ∧ own = A' ++ a :: B ∧ (∀ b ∈ B, 0 < cmpOf b x) ∧ xs[k]? = some a ∧ xs[k + 1]? = some x := by
  obtain ⟨A, B, hA, rfl, rfl, hB⟩ := h
  have hne : A ≠ [] := by
    intro e
    rw [e] at hA
    simp at hA
  obtain ⟨A', a, rfl⟩ : ∃ A' a, A = A' ++ [a] := ⟨A.dropLast, A.getLast hne, (List.dropLast_concat_getLast hne).symm⟩
  have hk : A'.length = k := by simpa using hA
  refine ⟨A', a, B, hk, by simp, by simp, hB, ?_, ?_⟩
  · subst hk
    simp
  · subst hk
    rw [List.append_assoc, List.getElem?_append_right (by omega)]
    simp
theorem InSt.stop {own xs : List Nm} {x a : Nm} {k : Nat} (h : InSt own x (k + 1) xs) (ha : xs[k]? = some a) (hle : ¬ 0 < cmpOf a x) (hs : own.Pairwise LeN) : xs.Pairwise LeN := by
  obtain ⟨A', a', B, hk, rfl, rfl, hB, h1, _⟩ := h.two
  rw [h1] at ha
  obtain rfl : a' = a := by injection ha
  have hax : LeN a' x := by unfold LeN; omega
  rw [List.pairwise_append] at hs ⊢
  obtain ⟨p1, p2, p3⟩ := hs
  rw [List.pairwise_cons] at p2
  refine ⟨p1, ?_, ?_⟩
  · rw [List.pairwise_cons, List.pairwise_cons]
    refine ⟨fun b hb => ?_, fun b hb => LeN.of_gt (hB b hb), p2.2⟩
    rcases List.mem_cons.1 hb with rfl | hb
    · exact hax
    · exact p2.1 b hb
  · intro c hc b hb
    have hca : LeN c a' := p3 c hc a' (by simp)
    rcases List.mem_cons.1 hb with rfl | hb
    · exact hca
    · rcases List.mem_cons.1 hb with rfl | hb
      · exact hca.trans hax
      · exact p3 c hc b (by simp [hb])
theorem InSt.step {own xs : List Nm} {x a : Nm} {k : Nat} (h : InSt own x (k + 1) xs) (ha : xs[k]? = some a) (hgt : 0 < cmpOf a x) : InSt own x k ((xs.set k x).set (k + 1) a) := by
  obtain ⟨A', a', B, hk, rfl, rfl, hB, h1, _⟩ := h.two
  rw [h1] at ha
  obtain rfl : a' = a := by injection ha
  refine ⟨A', a' :: B, hk, ?_, rfl, ?_⟩
  · subst hk
    rw [List.set_append_right _ _ (Nat.le_refl _), Nat.sub_self, List.set_cons_zero, List.set_append_right _ _ (by omega), show A'.length + 1 - A'.length = 1 by omega]
    rfl
  · intro b hb
    rcases List.mem_cons.1 hb with rfl | hb
    · exact hgt
    · exact hB b hb
theorem namesOf_kind {l : List (List UInt8)} {y : Nm} (h : y ∈ namesOf l) : y.k < 256 := by
  unfold namesOf at h
  rw [List.mem_filterMap] at h
  obtain ⟨s, _, hs⟩ := h
  exact (put_parse hs).2.2.k
end Go.Proofs.YtipmpebckfaknaaDoor
