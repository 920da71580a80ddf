/- The walk of the document's own Update. Conditions: rows of at most 2^40 bytes. -/
import Derived.Test.YtfhcpjnjemojgaaKCrcA
namespace Go.Proofs.Ytfhcpjnjemojgaa
open Go.RowKit

theorem digit_nat (b : UInt8) (k : Nat) : (digit b k).toNat = b.toNat / 2 ^ k % 2 := by
  unfold digit
  have e : (wide b).getLsbD k = decide (b.toNat / 2 ^ k % 2 = 1) := by
    show (wide b).toNat.testBit k = _
    rw [wide_toNat, Nat.testBit_eq_decide_div_mod_eq]
  rw [e]
  by_cases h : b.toNat / 2 ^ k % 2 = 1
  · simp [h]
  · have : b.toNat / 2 ^ k % 2 = 0 := by omega
    simp [this]

theorem step_at {z : Int} {c : BitVec 32} (w : World) (h : z = (c.toNat : Int)) : Calls Try.prog 58 #[.int .u32 z] w fun e w' => e = .returned (rv (step c)) ∧ w = w' := by
  subst h
  exact refStep_any c w
theorem not_nat {n : Nat} {c : BitVec 32} (h : Hid (n = c.toNat)) : bits .xor .u32 (n : Int) 4294967295 = ((~~~ c).toNat : Int) := by
  have e : ~~~ c = c ^^^ 4294967295#32 := by
    rw [← BitVec.xor_allOnes]
    rfl
  rw [e, BitVec.toNat_xor, h.out]
  exact u32_xor_nat _ _ c.isLt (by decide)
theorem xor_digit {m j : Nat} {y : BitVec 32} (b : UInt8) (h : Hid (m = y.toNat)) : bits .xor .u32 (m : Int) ((b.toNat : Int) / 2 ^ j % 2) = ((y ^^^ digit b j).toNat : Int) := by
  rw [BitVec.toNat_xor, digit_nat, h.out]
  refine xor_nat rfl ?_ y.isLt (by omega)
  simp

set_option maxHeartbeats 1000000 in
/-- The document's own Update. -/
theorem refUpdate_big (c : BitVec 32) (A : Option Addr) (cap B : Nat) (l : List UInt8) (w : World) (hl : l.length ≤ 140737488355327) (hr : RdB w B A l) :
    Calls Try.prog 53 #[rv c, .slice A l.length cap] w fun e w' => e = .returned (rv (upd c l)) ∧ w = w' := by
  have hlen : (l.length : Int) ≤ 140737488355327 := by omega
  clear hl
  obtain ⟨n, hn, hnc, hlt'⟩ := letter c
  rw [hn]
  clear hn
  go_enter Try.func53, Try.ntmps53
  go_wp2
  go_loop [0, 5] (fun r i => ∃ (k : Nat) (x : BitVec 32), k ≤ l.length ∧ i = .int .i64 (k : Int) ∧ r = rv x ∧ Hid (x = reg (~~~ c) (l.take k))) (fun _ i => l.length - (intOf i).toNat)
  case atStart => exact ⟨0, ~~~ c, by omega, rfl, val_u32 (not_nat hnc), by exact rfl⟩
  case round =>
    obtain ⟨k, x, hk, rfl, rfl, hx⟩ := hrel
    by_cases hlt : k < l.length
    · obtain ⟨ad, b, rfl, _, hc, hb⟩ := RdB.at_ hr hlt
      go_wp2
      go_loop [0, 6] (fun r i => ∃ (j : Nat) (y : BitVec 32), j ≤ 8 ∧ i = .int .i64 (j : Int) ∧ r = rv y ∧ Hid (y ^^^ wide b >>> j = steps j (x ^^^ wide b))) (fun _ i => 8 - (intOf i).toNat)
      case atStart => exact ⟨0, x, by omega, rfl, rfl, by show _ = _; simp [steps]⟩
      case round =>
        obtain ⟨j, y, hj, rfl, rfl, hy⟩ := hrel
        obtain ⟨m, hm, hmy, hmlt⟩ := letter y
        rw [hm]
        clear hm
        by_cases hlt8 : j < 8
        · go_wp2_with fail
          refine (step_at _ (xor_digit b hmy)).mono ?_
          rintro e w' ⟨rfl, rfl⟩
          go_wp2
          go_round
          case rel => exact ⟨j + 1, _, by omega, by go_num, rfl, digits_go hy.out⟩
          case measure => simp [intOf]; omega
        · obtain rfl : j = 8 := by omega
          go_wp2
          go_round
          case rel =>
            refine ⟨k + 1, y, by omega, by go_num, val_u32 (by rw [hmy.out]), ?_⟩
            show y = _
            rw [take_snoc hb, reg_append, ← hx.out]
            exact digits_end hy.out
          case measure => simp [intOf]; omega
    · obtain rfl : k = l.length := by omega
      obtain ⟨m, hm, hmy, hmlt⟩ := letter x
      rw [hm]
      clear hm
      go_wp2
      go_ret
      refine ⟨ret_u32 ?_, rfl⟩
      rw [not_nat hmy, hx.out, List.take_length]
      rfl
theorem refUpdate_any (c : BitVec 32) (A : Option Addr) (cap B : Nat) (l : List UInt8) (w : World) (hl : l.length ≤ 140737488351232) (hr : RdB w B A l) :
    Calls Try.prog 53 #[rv c, .slice A l.length cap] w fun e w' => e = .returned (rv (upd c l)) ∧ w = w' := refUpdate_big c A cap B l w (by omega) hr
end Go.Proofs.Ytfhcpjnjemojgaa
