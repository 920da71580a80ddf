/- Two texts' difference, as edits. No program here. -/
import Derived.Test.YtohgghaooppcoaaDlN
namespace Go.Proofs.Ytohgghaooppcoaa
open Go.RowKit Go.Lib

/-- Kept at the front, come, gone, kept at the end. -/
def dfl (h : Nat) (y : List UInt8) (d e : Nat) : List Ed := flush h y d ++ flush e [] 0
def dh (a b : List UInt8) : Nat := cpl a b
def de (a b : List UInt8) : Nat := cpl (a.drop (dh a b)).reverse (b.drop (dh a b)).reverse
def dif (a b : List UInt8) : List Ed := dfl (dh a b) ((b.drop (dh a b)).take (b.length - dh a b - de a b)) (a.length - dh a b - de a b) (de a b)
theorem rev_take {l : List UInt8} {n : Nat} (_ : n ≤ l.length) : l.reverse.take n = (l.drop (l.length - n)).reverse := by
  rw [List.take_reverse]
theorem dh_le (a b : List UInt8) : dh a b ≤ a.length ∧ dh a b ≤ b.length := cpl_le a b
theorem de_le (a b : List UInt8) : dh a b + de a b ≤ a.length ∧ dh a b + de a b ≤ b.length := by
  have h1 := dh_le a b
  have h2 := cpl_le (a.drop (dh a b)).reverse (b.drop (dh a b)).reverse
  simp only [List.length_reverse, List.length_drop] at h2
  unfold de
  omega
theorem dif_parts (a b : List UInt8) : ∃ p x y q, a = p ++ (x ++ q) ∧ b = p ++ (y ++ q) ∧ p.length = dh a b ∧ q.length = de a b ∧ (x ≠ [] ∨ y ≠ [] ∨ q = []) := by
  have h1 := dh_le a b
  have h2 := de_le a b
  have hp : a.take (dh a b) = b.take (dh a b) := cpl_take a b
  have hq := cpl_take (a.drop (dh a b)).reverse (b.drop (dh a b)).reverse
  change (a.drop (dh a b)).reverse.take (de a b) = (b.drop (dh a b)).reverse.take (de a b) at hq
  rw [rev_take (by rw [List.length_drop]; omega), rev_take (by rw [List.length_drop]; omega), List.reverse_inj] at hq
  have e1 : a = a.take (dh a b) ++ ((a.drop (dh a b)).take ((a.drop (dh a b)).length - de a b) ++ (a.drop (dh a b)).drop ((a.drop (dh a b)).length - de a b)) := by
    rw [List.take_append_drop, List.take_append_drop]
  have e2 : b = b.take (dh a b) ++ ((b.drop (dh a b)).take ((b.drop (dh a b)).length - de a b) ++ (b.drop (dh a b)).drop ((b.drop (dh a b)).length - de a b)) := by
    rw [List.take_append_drop, List.take_append_drop]
  refine ⟨a.take (dh a b), (a.drop (dh a b)).take ((a.drop (dh a b)).length - de a b), (b.drop (dh a b)).take ((b.drop (dh a b)).length - de a b), (a.drop (dh a b)).drop ((a.drop (dh a b)).length - de a b), e1, ?_, by simp; omega, by simp; omega, ?_⟩
  · rw [hp, hq]; exact e2
  · by_cases ha : dh a b + de a b < a.length
    · left
      intro h
      have := congrArg List.length h
      simp at this
      omega
    by_cases hb : dh a b + de a b < b.length
    · right; left
      intro h
      have := congrArg List.length h
      simp at this
      omega
    right; right
    by_cases he : de a b = 0
    · apply List.eq_nil_of_length_eq_zero
      simp
      omega
    exfalso
    have hne := cpl_ne (a := a) (b := b) (by show dh a b < _; omega) (by show dh a b < _; omega)
    apply hne
    show a[dh a b]? = b[dh a b]?
    have hd : a.drop (dh a b) = b.drop (dh a b) := by
      have k1 : (a.drop (dh a b)).length - de a b = 0 := by rw [List.length_drop]; omega
      have k2 : (b.drop (dh a b)).length - de a b = 0 := by rw [List.length_drop]; omega
      rw [k1, k2] at hq
      simpa using hq
    have g1 : (a.drop (dh a b))[0]? = a[dh a b]? := by simp
    have g2 : (b.drop (dh a b))[0]? = b[dh a b]? := by simp
    rw [← g1, ← g2, hd]
/-- The difference in parts. -/
theorem dif_eq {a b p x y q : List UInt8} (ha : a = p ++ (x ++ q)) (hb : b = p ++ (y ++ q)) (hp : p.length = dh a b) (hq : q.length = de a b) : dif a b = dfl p.length y x.length q.length := by
  unfold dif
  have l1 : a.length = p.length + (x.length + q.length) := by rw [ha]; simp
  have l2 : b.length = p.length + (y.length + q.length) := by rw [hb]; simp
  rw [← hp, ← hq, show a.length - p.length - q.length = x.length by omega, show b.length - p.length - q.length = y.length by omega]
  congr 1
  rw [hb]
  simp
theorem dfl_wrs (h : Nat) (y : List UInt8) (d e : Nat) : wrs (dfl h y d e) := by
  intro x hx
  unfold dfl flush at hx
  simp only [List.mem_append] at hx
  unfold wr
  rcases hx with (hx | hx | hx) | (hx | hx | hx)
  all_goals
    split at hx
    · simp only [List.mem_singleton] at hx
      subst hx
      first
        | (right; left; refine ⟨rfl, ?_, rfl⟩; simp only [eR]; omega)
        | (left; refine ⟨rfl, rfl, ?_⟩; assumption)
        | (right; right; refine ⟨rfl, ?_, rfl⟩; simp only [eD]; omega)
    · cases hx
theorem dfl_all {h d e : Nat} {y : List UInt8} (h1 : h ≤ 2147483647) (h2 : d ≤ 2147483647) (h3 : e ≤ 2147483647) : allRt (dfl h y d e) = true := by
  refine List.all_eq_true.2 fun x hx => rt_of_wr (dfl_wrs _ _ _ _ x hx) ?_
  unfold dfl flush at hx
  simp only [List.mem_append] at hx
  rcases hx with (hx | hx | hx) | (hx | hx | hx)
  all_goals
    split at hx
    · simp only [List.mem_singleton] at hx
      subst hx
      simp only [eR, eI, eD]
      omega
    · cases hx
theorem dfl_mg {h d e : Nat} {y : List UInt8} (hm : 0 < d ∨ y ≠ [] ∨ e = 0) : mg (dfl h y d e) = none := by
  unfold dfl flush
  by_cases g1 : 0 < h <;> by_cases g2 : y = [] <;> by_cases g3 : 0 < d <;> by_cases g4 : 0 < e
  all_goals
    simp (config := { decide := true }) [g1, g2, g3, g4, mg, eR, eI, eD]
  all_goals
    rcases hm with hm | hm | hm
    · omega
    · exact absurd g2 hm
    · omega
theorem dfl_app (p x y q : List UInt8) : app (p ++ (x ++ q)) (dfl p.length y x.length q.length) = p ++ (y ++ q) := by
  unfold dfl flush
  by_cases g1 : 0 < p.length <;> by_cases g2 : y = [] <;> by_cases g3 : 0 < x.length <;> by_cases g4 : 0 < q.length
  all_goals
    rw [List.length_pos_iff] at g1 g3 g4
    simp only [ne_eq, Classical.not_not] at g1 g3 g4
    simp (config := { decide := true }) [g1, g2, g3, g4, app, eR, eI, eD, List.length_pos_iff]
theorem dfl_sumN (h d e : Nat) (y : List UInt8) : sumN (dfl h y d e) = h + d + e := by
  unfold dfl flush
  by_cases g1 : 0 < h <;> by_cases g2 : y = [] <;> by_cases g3 : 0 < d <;> by_cases g4 : 0 < e
  all_goals
    simp [g1, g2, g3, g4, sumN, eR, eI, eD]
    try omega
/-- What the difference is. -/
structure DifOk (a b : List UInt8) : Prop where
  rt : allRt (dif a b) = true
  nrm : nrmE (dif a b) = 0
  nl : nrmL (dif a b) = dif a b
  ap : app a (dif a b) = b
  sf : szF (dif a b) = a.length
  st : szT (dif a b) = b.length
  of : isOf a (dif a b) = true
theorem dif_ok (a b : List UInt8) (ha : a.length ≤ 2147483647) : DifOk a b := by
  obtain ⟨p, x, y, q, e1, e2, hp, hq, hm⟩ := dif_parts a b
  have e := dif_eq e1 e2 hp hq
  have hl : a.length = p.length + (x.length + q.length) := by rw [e1]; simp
  have h1 : allRt (dif a b) = true := by rw [e]; exact dfl_all (by omega) (by omega) (by omega)
  have h2 : mg (dif a b) = none := by
    rw [e]
    refine dfl_mg ?_
    rcases hm with hm | hm | hm
    · exact .inl (List.length_pos_iff.2 hm)
    · exact .inr (.inl hm)
    · exact .inr (.inr (by rw [hm]; rfl))
  have h3 : norm (dif a b) = dif a b := norm_irr (wrs_of_all h1) h2
  have h4 : nrmE (dif a b) = 0 := by unfold nrmE; rw [if_pos h1, h3, if_pos h1]
  have h5 : app a (dif a b) = b := by rw [e, e1, dfl_app, ← e2]
  have h6 : szF (dif a b) = a.length := by rw [szF_sum h1, e, dfl_sumN]; omega
  exact ⟨h1, h4, by unfold nrmL; rw [if_pos h4, h3], h5, h6, by rw [← app_len _ a h1 h6, h5], isOf_iff.2 ⟨h6, h1⟩⟩
theorem dif_len (a b : List UInt8) : (dif a b).length ≤ 6 := by
  unfold dif dfl
  rw [List.length_append]
  have h1 := flush_len (dh a b) ((b.drop (dh a b)).take (b.length - dh a b - de a b)) (a.length - dh a b - de a b)
  have h2 := flush_len (de a b) [] 0
  omega
theorem dif_s (a b : List UInt8) : ∀ x ∈ dif a b, x.s.length ≤ b.length := by
  intro x hx
  unfold dif dfl flush at hx
  simp only [List.mem_append] at hx
  rcases hx with (hx | hx | hx) | (hx | hx | hx)
  all_goals
    split at hx
    · simp only [List.mem_singleton] at hx
      subst hx
      simp only [eR, eI, eD, List.length_nil, List.length_take, List.length_drop]
      omega
    · cases hx
end Go.Proofs.Ytohgghaooppcoaa
