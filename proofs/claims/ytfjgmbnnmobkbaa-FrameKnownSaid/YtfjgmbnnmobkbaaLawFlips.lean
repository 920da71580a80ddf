/- The walk of CrcFlips: whatever the bytes and the digit, it returns true. Conditions: none. -/
import Derived.Test.YtfjgmbnnmobkbaaCrcH
import Derived.StillTailTactics
namespace Go.Proofs.Ytfjgmbnnmobkbaa
open Go.RowKit

/-- The byte whose digit r alone is 1. -/
def bit (r : Nat) : UInt8 := UInt8.ofNat (2 ^ r)
theorem pow_lt {r : Nat} (h : r < 8) : 2 ^ r < 256 := Nat.pow_lt_pow_right (by omega) h
theorem bit_nat {r : Nat} (h : r < 8) : (bit r).toNat = 2 ^ r := by
  have := pow_lt h
  simp [bit, UInt8.toNat_ofNat']
  omega
theorem pow_bit {r : Nat} (h : r < 8) : (2 : Int) ^ r % 256 = ((bit r).toNat : Int) := by
  have h1 := pow_lt h
  rw [bit_nat h]
  have h2 : (2 : Int) ^ r = ((2 ^ r : Nat) : Int) := by push_cast; rfl
  rw [h2]
  generalize 2 ^ r = k at *
  omega
theorem wrap_bit {r : Nat} (h : r < 8) : IntKind.u8.wrap ((2 : Int) ^ r) = ((bit r).toNat : Int) := by
  rw [IntKind.wrap_u8]
  exact pow_bit h
theorem bit_ne {r : Nat} (h : r < 8) : bit r ≠ 0 := by
  intro e
  have := bit_nat h
  rw [e] at this
  have h2 : 0 < 2 ^ r := Nat.two_pow_pos r
  simp at this
  omega
theorem xor_ne {x y : UInt8} (h : y ≠ 0) : x ^^^ y ≠ x := by
  intro e
  apply h
  have : x ^^^ (x ^^^ y) = x ^^^ x := by rw [e]
  rw [← UInt8.xor_assoc, UInt8.xor_self, UInt8.zero_xor] at this
  exact this
theorem set_parts {l : List UInt8} {q : Nat} {x y : UInt8} (h : l[q]? = some x) : l.set q y = l.take q ++ y :: l.drop (q + 1) ∧ l = l.take q ++ x :: l.drop (q + 1) := by
  obtain ⟨hq, e⟩ := List.getElem?_eq_some_iff.1 h
  refine ⟨by rw [List.set_eq_take_append_cons_drop, if_pos hq], ?_⟩
  conv => lhs; rw [← List.take_append_drop q l]
  rw [List.drop_eq_getElem_cons hq, e]
theorem flip_one {l : List UInt8} {q r : Nat} {x : UInt8} (h : l[q]? = some x) (hr : r < 8) : sum (l.set q (x ^^^ bit r)) ≠ sum l := by
  obtain ⟨e1, e2⟩ := set_parts (y := x ^^^ bit r) h
  rw [e1]
  conv => rhs; rw [e2]
  exact sum_ne_one _ _ _ _ (xor_ne (bit_ne hr))
theorem bits_ne : ∀ r : Fin 7, bit r.val ^^^ bit (r.val + 1) ≠ 0 := by decide
theorem flip_two {l : List UInt8} {q r q2 r2 : Nat} {x z : UInt8} (h : l[q]? = some x) (hr : r < 8) (hz : (l.set q (x ^^^ bit r))[q2]? = some z) (hr2 : r2 < 8) (hqr : 8 * q2 + r2 = 8 * q + r + 1) :
    sum ((l.set q (x ^^^ bit r)).set q2 (z ^^^ bit r2)) ≠ sum l := by
  have hq := (List.getElem?_eq_some_iff.1 h).1
  by_cases h7 : r < 7
  · have e1 : q2 = q := by omega
    have e2 : r2 = r + 1 := by omega
    subst e1 e2
    rw [List.getElem?_set_self hq] at hz
    injection hz with hz
    subst hz
    rw [List.set_set]
    obtain ⟨e1, e2⟩ := set_parts (y := x ^^^ bit r ^^^ bit (r + 1)) h
    rw [e1]
    conv => rhs; rw [e2]
    rw [UInt8.xor_assoc]
    exact sum_ne_one _ _ _ _ (xor_ne (bits_ne ⟨r, h7⟩))
  · have e0 : r = 7 := by omega
    have e1 : q2 = q + 1 := by omega
    have e2 : r2 = 0 := by omega
    subst e0 e1 e2
    rw [List.getElem?_set_ne (by omega)] at hz
    obtain ⟨e1, e2⟩ := set_parts (y := x ^^^ bit 7) h
    have hq1 := (List.getElem?_eq_some_iff.1 hz).1
    have e3 : l.drop (q + 1) = z :: l.drop (q + 2) := drop_cons hz
    have htl : (l.take q).length = q := by rw [List.length_take]; omega
    have e4 : (l.set q (x ^^^ bit 7)).set (q + 1) (z ^^^ bit 0) = l.take q ++ (x ^^^ 128) :: (z ^^^ 1) :: l.drop (q + 2) := by
      rw [e1, e3, List.set_append_right _ _ (by omega), htl, show q + 1 - q = 1 by omega]
      rfl
    rw [e4]
    conv => rhs; rw [e2, e3]
    exact sum_ne_two _ _ _ _
theorem ne_int {a b : BitVec 32} (h : a ≠ b) : ((a.toNat : Int) != (b.toNat : Int)) = true := by
  rw [bne_iff_ne]
  intro e
  exact h (BitVec.eq_of_toNat_eq (by omega))
theorem ne_nat {a b : BitVec 32} (h : a ≠ b) : (a.toNat != b.toNat) = true := by
  rw [bne_iff_ne]
  intro e
  exact h (BitVec.eq_of_toNat_eq e)

end Go.Proofs.Ytfjgmbnnmobkbaa
