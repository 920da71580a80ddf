/- The walks of varint's writers: appendNumber, All, Put, Text. Conditions: numbers below 2^64, rows of at most 2^40 bytes. -/
import Derived.Test.YtohgghaooppcoaaVar1
namespace Go.Proofs.Ytohgghaooppcoaa
open Go.RowKit

theorem or128 (m : Nat) : bits .or .u8 ((m : Int) % 256) 128 = (((UInt8.ofNat (m % 128 + 128)).toNat : Nat) : Int) := by
  rw [ofNat_toNat (by omega)]
  have h : ((m : Int) % 256) = ((m % 256 : Nat) : Int) := by omega
  rw [h]
  have := u8_or_nat (m % 256) 128 (by omega) (by omega)
  rw [show ((128 : Nat) : Int) = 128 from rfl] at this
  rw [this]
  congr 1
  have h2 : ∀ a : Fin 256, a.val ||| 128 = a.val % 128 + 128 := by decide +kernel
  have := h2 ⟨m % 256, by omega⟩
  simp only at this
  rw [this]
  omega
theorem enc_next {pre : List UInt8} {m n : Nat} (h : pre ++ enc m = enc n) (hm : 128 ≤ m) : (pre ++ [UInt8.ofNat (m % 128 + 128)]) ++ enc (m / 128) = enc n := by
  rw [enc_big hm] at h
  simpa using h
theorem enc_last {pre : List UInt8} {m n : Nat} (h : pre ++ enc m = enc n) (hm : m < 128) : pre ++ [UInt8.ofNat m] = enc n := by
  rw [enc_small hm] at h
  exact h
theorem pre_le {pre : List UInt8} {m n : Nat} (h : pre ++ enc m = enc n) (hn : n < 18446744073709551616) : pre.length ≤ 9 := by
  have h1 := sz_10 hn
  have h2 := sz_pos m
  unfold sz at h1 h2
  rw [← h, List.length_append] at h1
  omega

set_option maxHeartbeats 1000000 in
set_option maxRecDepth 100000 in
theorem appendNumber_any (base : Nat) (v : Value) (l : List UInt8) (n : Nat) (w : World) (hn : n < 18446744073709551616) (hl : l.length ≤ 140737488351232) (hbase : base ≤ w.heap.size)
    (hown : w.ownsRow base 5 1 v l.length (bs l)) :
    Calls Try.prog 57 #[v, .int .u64 (n : Int)] w fun e w' => ∃ v', e = .returned v' ∧ w'.ownsRow base 5 1 v' (l ++ enc n).length (bs (l ++ enc n)) ∧ Below base w w' := by
  have Hn := Lib.hid hn
  have Hl := Lib.hid hl
  clear hn hl
  go_enter Try.func57, Try.ntmps57
  go_wp2
  go_loopw [0, 1] (fun v x wr => ∃ (m : Nat) (pre : List UInt8), x = .int .u64 (m : Int) ∧ (m : Int) ≤ 18446744073709551615 ∧ Hid (pre ++ enc m = enc n) ∧ wr.ownsRow base 5 1 v (l ++ pre).length (bs (l ++ pre)) ∧ Below base w wr ∧ base ≤ wr.heap.size)
    (fun _ x _ => (intOf x).toNat)
  case atStart => exact ⟨n, [], rfl, by have := Hn.out; omega, by exact rfl, by simpa using hown, .refl _ _, hbase⟩
  case round =>
    obtain ⟨m, pre, rfl, hm, hpre, hownr, hb, hbr⟩ := hrel
    have hpl : (l ++ pre).length ≤ 140737488355327 := by
      have := pre_le hpre.out Hn.out
      have := Hl.out
      simp only [List.length_append]
      omega
    have Hpl := Lib.hid hpl
    clear hpl
    by_cases hbig : 128 ≤ m
    · go_wp2_with
        (at_builtin
         refine push_byte (.tmp 7) (.tmp 11) _ (UInt8.ofNat (m % 128 + 128)) hownr hbr Hpl.out (or128 m) rfl rfl rfl rfl ?_
         intro v1 w1 hown1 hb1 hbs1
         clear hownr)
      go_roundw
      case rel => exact ⟨m / 128, pre ++ [UInt8.ofNat (m % 128 + 128)], by go_num, by omega, enc_next hpre.out hbig, by rw [← List.append_assoc]; exact hown1, hb.trans hb1, hbs1⟩
      case measure => simp [intOf]; omega
    · have hsm : m < 128 := by omega
      go_wp2_with
        (at_builtin
         refine push_byte (.tmp 15) (.tmp 18) _ (UInt8.ofNat m) hownr hbr Hpl.out (by rw [ofNat_toNat (by omega)]) rfl rfl rfl rfl ?_
         intro v1 w1 hown1 hb1 hbs1
         clear hownr)
      go_ret
      refine ⟨v1, rfl, ?_, hb.trans hb1⟩
      rw [List.append_assoc, enc_last hpre.out hsm] at hown1
      exact hown1
end Go.Proofs.Ytohgghaooppcoaa
