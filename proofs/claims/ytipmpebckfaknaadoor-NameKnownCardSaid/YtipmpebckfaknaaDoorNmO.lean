/- The Names' order: nought at one Name alone; turned round, the other sign; it goes on. Conditions: none. -/
import Derived.Test.YtipmpebckfaknaaDoorNmF
namespace Go.Proofs.YtipmpebckfaknaaDoor
open Go.RowKit

theorem c3_neg (a b : Nat) : c3 b a = -c3 a b := by
  unfold c3
  repeat' split
  all_goals omega
theorem firstNZ_six (a b c d e f : Int) : firstNZ [a, b, c, d, e, f] = if a = 0 then if b = 0 then if c = 0 then if d = 0 then if e = 0 then if f = 0 then 0 else f else e else d else c else b else a := by
  simp only [firstNZ]
theorem cmpOf_zero (x y : Nm) : cmpOf x y = 0 ↔ x = y := by
  constructor
  · intro h
    unfold cmpOf at h
    rw [firstNZ_six] at h
    obtain ⟨k, d, n, p, i, c⟩ := x
    obtain ⟨k', d', n', p', i', c'⟩ := y
    simp only at h
    by_cases h0 : c3 k k' = 0
    · rw [if_pos h0] at h
      by_cases h1 : c3 d d' = 0
      · rw [if_pos h1] at h
        by_cases h2 : c3 n n' = 0
        · rw [if_pos h2] at h
          by_cases h3 : c3 p p' = 0
          · rw [if_pos h3] at h
            by_cases h4 : c3 i i' = 0
            · rw [if_pos h4] at h
              by_cases h5 : c3 c c' = 0
              · rw [c3_zero h0, c3_zero h1, c3_zero h2, c3_zero h3, c3_zero h4, c3_zero h5]
              · rw [if_neg h5] at h; exact absurd h h5
            · rw [if_neg h4] at h; exact absurd h h4
          · rw [if_neg h3] at h; exact absurd h h3
        · rw [if_neg h2] at h; exact absurd h h2
      · rw [if_neg h1] at h; exact absurd h h1
    · rw [if_neg h0] at h; exact absurd h h0
  · rintro rfl
    exact cmpOf_self x
theorem cmpOf_neg (x y : Nm) : cmpOf y x = -cmpOf x y := by
  unfold cmpOf
  rw [firstNZ_six, firstNZ_six, c3_neg x.k y.k, c3_neg x.d y.d, c3_neg x.n y.n, c3_neg x.p y.p, c3_neg x.i y.i, c3_neg x.c y.c]
  simp only [Int.neg_eq_zero]
  repeat' split
  all_goals omega
theorem cmpOf_range (x y : Nm) : cmpOf x y = -1 ∨ cmpOf x y = 0 ∨ cmpOf x y = 1 := by
  unfold cmpOf
  rw [firstNZ_six]
  repeat' split
  all_goals (first | exact c3_range _ _ | simp)
/-- Ahead of, in this order. -/
theorem cmpOf_lt (x y : Nm) : cmpOf x y < 0 ↔ x.k < y.k ∨ (x.k = y.k ∧ (x.d < y.d ∨ (x.d = y.d ∧ (x.n < y.n ∨ (x.n = y.n ∧ (x.p < y.p ∨ (x.p = y.p ∧ (x.i < y.i ∨ (x.i = y.i ∧ x.c < y.c))))))))) := by
  unfold cmpOf
  rw [firstNZ_six]
  have hz : ∀ a b : Nat, c3 a b = 0 ↔ a = b := fun a b => ⟨c3_zero, fun h => by rw [h]; exact c3_self b⟩
  have hl : ∀ a b : Nat, c3 a b < 0 ↔ a < b := fun a b => by
    unfold c3
    repeat' split
    all_goals omega
  simp only [hz]
  repeat' split
  all_goals (first | (rw [hl]; omega) | omega)
theorem cmpOf_trans {x y z : Nm} (h : cmpOf x y < 0) (h' : cmpOf y z < 0) : cmpOf x z < 0 := by
  rw [cmpOf_lt] at *
  omega
end Go.Proofs.YtipmpebckfaknaaDoor
