/- The walks of the small functions: one digit, eight digits, the document's own Update. Conditions: rows of at most 2^40 bytes. -/
import Derived.Test.YtfhcpjnjemojgaaKGa
import Derived.Test.YtfhcpjnjemojgaaKCrcMath
import Derived.Laws.BitsAllLaws
namespace Go.Proofs.Ytfhcpjnjemojgaa
open Go.RowKit

/-- A register as a value. -/
abbrev rv (c : BitVec 32) : Value := .int .u32 (c.toNat : Int)
theorem ret_u32 {a b : Int} (h : a = b) : Ending.returned (.int .u32 a) = .returned (.int .u32 b) := by rw [h]
theorem val_u32 {a b : Int} (h : a = b) : Value.int .u32 a = .int .u32 b := by rw [h]
theorem bit0 (c : BitVec 32) : c.getLsbD 0 = decide (c.toNat % 2 = 1) := by
  show c.toNat.testBit 0 = _
  rw [Nat.testBit_zero]
theorem step_odd_nat {c : BitVec 32} (h : c.toNat % 2 = 1) : (step c).toNat = c.toNat / 2 ^^^ 2197175160 := by
  unfold step
  rw [bit0, decide_eq_true h, if_pos rfl, BitVec.toNat_xor, BitVec.toNat_ushiftRight, Nat.shiftRight_eq_div_pow]
  rfl
theorem step_even_nat {c : BitVec 32} (h : c.toNat % 2 = 0) : (step c).toNat = c.toNat / 2 := by
  unfold step
  rw [bit0, decide_eq_false (by omega), if_neg (by simp), BitVec.xor_zero, BitVec.toNat_ushiftRight, Nat.shiftRight_eq_div_pow]

theorem xor_nat {a b : Int} {c d : Nat} (ha : a = (c : Int)) (hb : b = (d : Int)) (h1 : c < 4294967296) (h2 : d < 4294967296) : bits .xor .u32 a b = ((c ^^^ d : Nat) : Int) := by
  subst ha hb
  exact u32_xor_nat c d h1 h2

set_option maxHeartbeats 400000 in
/-- One digit. -/
theorem refStep_any (c : BitVec 32) (w : World) : Calls Try.prog 58 #[rv c] w fun e w' => e = .returned (rv (step c)) ∧ w = w' := by
  have hlt : (c.toNat : Int) < 4294967296 := by have := c.isLt; omega
  have h0 : 0 ≤ (c.toNat : Int) := by omega
  by_cases h : c.toNat % 2 = 1
  · have E := Lib.hid (step_odd_nat h)
    have ht : ((c.toNat : Int) % 2 == 1) = true := by rw [beq_iff_eq]; omega
    clear h
    go_enter Try.func58, Try.ntmps58
    go_wp2
    go_ret
    exact ⟨ret_u32 (by rw [E.out]; exact xor_nat (by omega) rfl (by omega) (by omega)), rfl⟩
  · have E := Lib.hid (step_even_nat (c := c) (by omega))
    have ht : ((c.toNat : Int) % 2 == 1) = false := by rw [beq_eq_false_iff_ne]; omega
    clear h
    go_enter Try.func58, Try.ntmps58
    go_wp2
    go_ret
    exact ⟨ret_u32 (by rw [E.out]; omega), rfl⟩

theorem and_one (n : Nat) (h : n < 4294967296) : bits .and .u32 (n : Int) 1 = ((n % 2 : Nat) : Int) := by
  rw [← nat_mask1]
  exact u32_and_nat n 1 h (by omega)
/-- A register's number by a letter. -/
theorem letter (c : BitVec 32) : ∃ n : Nat, rv c = .int .u32 (n : Int) ∧ Hid (n = c.toNat) ∧ Hid (n < 4294967296) := ⟨c.toNat, rfl, rfl, by have := c.isLt; show _ < _; omega⟩

set_option maxHeartbeats 400000 in
/-- Eight digits. -/
theorem digits_any (c : BitVec 32) (w : World) : Calls Try.prog 64 #[rv c] w fun e w' => e = .returned (rv (steps 8 c)) ∧ w = w' := by
  go_enter Try.func64, Try.ntmps64
  go_wp2
  go_loop [0, 4] (fun r i => ∃ (k : Nat) (x : BitVec 32), k ≤ 8 ∧ i = .int .i64 (k : Int) ∧ r = rv x ∧ Hid (x = steps k c)) (fun _ i => 8 - (intOf i).toNat)
  case atStart => exact ⟨0, c, by omega, rfl, rfl, by exact rfl⟩
  case round =>
    obtain ⟨k, x, hk, rfl, rfl, hx⟩ := hrel
    obtain ⟨n, hn, hnx, hlt'⟩ := letter x
    rw [hn]
    clear hn
    by_cases hlt : k < 8
    · have ha := and_one n hlt'.out
      by_cases h : n % 2 = 1
      · have E := Lib.hid (step_odd_nat (c := x) (by rw [← hnx.out]; exact h))
        rw [h] at ha
        clear h
        go_wp2
        go_round
        case rel => exact ⟨k + 1, step x, by omega, by go_num, val_u32 (by rw [E.out]; exact xor_nat (by have := hnx.out; omega) rfl (by have := hnx.out; omega) (by omega)), by rw [hx.out]; exact rfl⟩
        case measure => simp [intOf]; omega
      · have h' : n % 2 = 0 := by omega
        have E := Lib.hid (step_even_nat (c := x) (by rw [← hnx.out]; exact h'))
        rw [h'] at ha
        clear h h'
        go_wp2
        go_round
        case rel => exact ⟨k + 1, step x, by omega, by go_num, val_u32 (by rw [E.out, xor_nat (c := x.toNat / 2) (d := 0) (by have := hnx.out; omega) (by omega) (by have := hnx.out; omega) (by omega), Nat.xor_zero]), by rw [hx.out]; exact rfl⟩
        case measure => simp [intOf]; omega
    · obtain rfl : k = 8 := by omega
      go_wp2
      go_ret
      exact ⟨by rw [← hx.out]; exact ret_u32 (by have := hnx.out; omega), rfl⟩
end Go.Proofs.Ytfhcpjnjemojgaa
