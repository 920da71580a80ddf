/- Names held against each other: the order's answer, cmp.Compare, cmp.Or. Conditions: parts that fit. -/
import Derived.Test.YtipmpebckfaknaaDoorNmX
namespace Go.Proofs.YtipmpebckfaknaaDoor
open Go.RowKit

def c3 (a b : Nat) : Int := if a < b then -1 else if b < a then 1 else 0
/-- The first that is not nought. -/
def firstNZ : List Int → Int
  | [] => 0
  | x :: r => if x = 0 then firstNZ r else x
def cmpOf (x y : Nm) : Int := firstNZ [c3 x.k y.k, c3 x.d y.d, c3 x.n y.n, c3 x.p y.p, c3 x.i y.i, c3 x.c y.c]
theorem c3_self (a : Nat) : c3 a a = 0 := by unfold c3; rw [if_neg (by omega), if_neg (by omega)]
theorem c3_zero {a b : Nat} (h : c3 a b = 0) : a = b := by
  unfold c3 at h
  split at h
  · cases h
  · split at h
    · cases h
    · omega
theorem cmpOf_self (x : Nm) : cmpOf x x = 0 := by simp [cmpOf, c3_self, firstNZ]
theorem c3_range (a b : Nat) : c3 a b = -1 ∨ c3 a b = 0 ∨ c3 a b = 1 := by
  unfold c3
  split
  · exact .inl rfl
  · split
    · exact .inr (.inr rfl)
    · exact .inr (.inl rfl)

theorem ret_c3_lt {a b : Nat} (h : a < b) : Ending.returned (.int .i64 (-1)) = .returned (.int .i64 (c3 a b)) := by rw [c3, if_pos h]
theorem ret_c3_gt {a b : Nat} (h : ¬ a < b) (h' : b < a) : Ending.returned (.int .i64 1) = .returned (.int .i64 (c3 a b)) := by rw [c3, if_neg h, if_pos h']
theorem ret_c3_eq {a b : Nat} (h : ¬ a < b) (h' : ¬ b < a) : Ending.returned (.int .i64 0) = .returned (.int .i64 (c3 a b)) := by rw [c3, if_neg h, if_neg h']
theorem cmp8_any (a b : Nat) (w : World) : Calls Tryd.prog 31 #[.int .u8 (a : Int), .int .u8 (b : Int)] w fun e w' => e = .returned (.int .i64 (c3 a b)) ∧ w = w' := by
  go_enter Tryd.func31, Tryd.ntmps31
  go_wp2
  all_goals
    go_ret
    first
      | exact ⟨ret_c3_lt (by assumption), rfl⟩
      | exact ⟨ret_c3_gt (by assumption) (by assumption), rfl⟩
      | exact ⟨ret_c3_eq (by assumption) (by assumption), rfl⟩
theorem cmp64_any (a b : Nat) (w : World) : Calls Tryd.prog 32 #[.int .u64 (a : Int), .int .u64 (b : Int)] w fun e w' => e = .returned (.int .i64 (c3 a b)) ∧ w = w' := by
  go_enter Tryd.func32, Tryd.ntmps32
  go_wp2
  all_goals
    go_ret
    first
      | exact ⟨ret_c3_lt (by assumption), rfl⟩
      | exact ⟨ret_c3_gt (by assumption) (by assumption), rfl⟩
      | exact ⟨ret_c3_eq (by assumption) (by assumption), rfl⟩
theorem firstNZ_step {zs : List Int} {k : Nat} {z : Int} (h : zs[k]? = some z) : firstNZ (zs.drop k) = if z = 0 then firstNZ (zs.drop (k + 1)) else z := by
  have hk := (List.getElem?_eq_some_iff.1 h).1
  rw [List.drop_eq_getElem_cons hk, (List.getElem?_eq_some_iff.1 h).2]
  rfl
theorem cmpOr_any (A : Option Addr) (n c B : Nat) (zs : List Int) (hn : zs.length = n) (w : World) (hr : Reads w B 1 A n (zs.map (Value.int .i64))) (hn63 : n ≤ 9223372036854775807) :
    Calls Tryd.prog 30 #[.slice A n c] w fun e w' => e = .returned (.int .i64 (firstNZ zs)) ∧ w = w' := by
  have Hn := Lib.hid hn
  clear hn
  go_enter Tryd.func30, Tryd.ntmps30
  go_wp2
  go_loop [8] (fun i => ∃ k : Nat, k ≤ n ∧ i = .int .i64 (k : Int) ∧ Hid (firstNZ zs = firstNZ (zs.drop k))) (fun i => n - (Lib.intOf i).toNat)
  case atStart => exact ⟨0, Nat.zero_le _, rfl, by exact rfl⟩
  case round =>
    obtain ⟨k, hk, rfl, Hk⟩ := hrel
    by_cases hlt : k < n
    · obtain ⟨ad, u, rfl, _, hu, hc⟩ := Reads.at_ hr hlt
      obtain ⟨z, hz, rfl⟩ : ∃ z, zs[k]? = some z ∧ Value.int .i64 z = u := by
        rw [List.getElem?_map] at hu
        cases h : zs[k]? with
        | none => rw [h] at hu; cases hu
        | some z => rw [h] at hu; exact ⟨z, rfl, by injection hu⟩
      have Hz := Lib.hid hz
      clear hz hu
      by_cases h0 : z = 0
      · subst h0
        go_wp2
        go_round
        case rel => exact ⟨k + 1, by omega, by go_num, by rw [Hk.out, firstNZ_step Hz.out, if_pos rfl]; exact rfl⟩
        case measure => simp [Lib.intOf]; omega
      · go_wp2
        go_ret
        exact ⟨by rw [Hk.out, firstNZ_step Hz.out, if_neg h0]; rfl, rfl⟩
    · obtain rfl : k = n := by omega
      go_wp2
      go_ret
      exact ⟨by rw [Hk.out, List.drop_of_length_le (by rw [Hn.out]; exact Nat.le_refl _)]; rfl, rfl⟩
end Go.Proofs.YtipmpebckfaknaaDoor
