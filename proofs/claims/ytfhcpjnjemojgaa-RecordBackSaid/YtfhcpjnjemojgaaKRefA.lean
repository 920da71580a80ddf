/- The walks of the document's own writers of numbers and texts. Conditions: numbers below 2^64, rows of at most 2^40 bytes. -/
import Derived.Test.YtfhcpjnjemojgaaKKit
namespace Go.Proofs.Ytfhcpjnjemojgaa
open Go.RowKit

theorem sz_one {n : Nat} (h : sz n = 1) : n < 128 := by
  rcases Nat.lt_or_ge n 128 with h1 | h1
  · exact h1
  · have := sz_big h1; have := sz_pos (n / 128); omega

set_option maxHeartbeats 400000 in
theorem groups_any (n : Nat) (w : World) (hn : n < 18446744073709551616) :
    Calls Try.prog 41 #[.int .u64 (n : Int)] w fun e w' => e = .returned (.int .i64 ((sz n : Nat) : Int)) ∧ w = w' := by
  have hs := sz_10 hn
  have Hn := Lib.hid hn
  clear hn
  go_enter Try.func41, Try.ntmps41
  go_wp2
  go_loop [0, 3] (fun x y => ∃ m k : Nat, x = .int .u64 (m : Int) ∧ (m : Int) ≤ 18446744073709551615 ∧ y = .int .i64 (k : Int) ∧ k ≤ 10 ∧ Hid (k + sz m = sz n + 1)) (fun x _ => (intOf x).toNat)
  case atStart => exact ⟨n, 1, rfl, by have := Hn.out; omega, rfl, by omega, by show 1 + sz n = sz n + 1; omega⟩
  case round =>
    obtain ⟨m, k, rfl, hm, rfl, hk, he⟩ := hrel
    by_cases hbig : 128 ≤ m
    · have hgt : 0 < (m : Int) / 128 := by omega
      go_wp2
      go_round
      case rel => exact ⟨m / 128, k + 1, by go_num, by omega, by go_num, by have := he.out; have := sz_big hbig; have := sz_pos (m / 128); omega, by have := he.out; have := sz_big hbig; show k + 1 + sz (m / 128) = sz n + 1; omega⟩
      case measure => simp [intOf]; omega
    · have hgt : ¬ 0 < (m : Int) / 128 := by omega
      have hk1 : (k : Int) = (sz n : Nat) := by have := he.out; have := sz_small (n := m) (by omega); omega
      have Hk := Lib.hid hk1
      clear hk1
      go_wp2
      go_ret
      exact ⟨ret_int Hk.out, rfl⟩

theorem put_byte_hi (m : Nat) : ((m : Int) % 128 + 128) = (((UInt8.ofNat (m % 128 + 128)).toNat : Nat) : Int) := by rw [ofNat_toNat (by omega)]; omega
theorem put_byte_lo {m : Nat} (h : m < 128) : ((m : Int) % 128) = (((UInt8.ofNat m).toNat : Nat) : Int) := by rw [ofNat_toNat (by omega)]; omega

set_option maxHeartbeats 1000000 in
set_option maxRecDepth 100000 in
theorem refPut_any (n : Nat) (w : World) (hn : n < 18446744073709551616) :
    Calls Try.prog 28 #[.int .u64 (n : Int)] w fun e w' => ∃ v, e = .returned v ∧ w'.ownsRow w.heap.size 5 1 v (enc n).length (bs (enc n)) ∧ Below w.heap.size w w' := by
  have hs := sz_10 hn
  have hs0 := sz_pos n
  have Hn := Lib.hid hn
  clear hn
  generalize hK : sz n = K at hs hs0
  have HK := Lib.hid hK
  clear hK
  go_enter Try.func28, Try.ntmps28
  go_wp2_with (go_at_call 41; refine (groups_any _ _ Hn.out).mono ?_; rintro e w' ⟨rfl, rfl⟩; rw [HK.out])
  go_loopw [0, 3, 5] (fun x v i wr => ∃ (m j : Nat) (pre : List UInt8), x = .int .u64 (m : Int) ∧ (m : Int) ≤ 18446744073709551615 ∧ i = .int .i64 (j : Int) ∧ j ≤ K ∧ Hid (pre.length = j ∧ (j < K → pre ++ enc m = enc n) ∧ (j = K → pre = enc n)) ∧ wr.ownsRow w.heap.size 5 1 v pre.length (bs pre) ∧ Below w.heap.size w wr) (fun _ _ i _ => K - (intOf i).toNat)
  case atStart => exact ⟨n, 0, [], rfl, by have := Hn.out; omega, rfl, by omega, ⟨rfl, fun _ => rfl, fun h => by omega⟩, World.ownsRow_nil _ _ _ _, .refl _ _⟩
  case round =>
    obtain ⟨m, j, pre, rfl, hm, rfl, hj, he, hown, hb⟩ := hrel
    have hpl : pre.length ≤ 140737488355327 := by have := he.out.1; omega
    have Hpl := Lib.hid hpl
    clear hpl
    by_cases hlt : j < K
    · have hsm : j + sz m = K := by
        have h1 := congrArg List.length (he.out.2.1 hlt)
        rw [List.length_append, he.out.1] at h1
        rw [← HK.out]
        exact h1
      by_cases hlast : j + 1 < K
      · have hbig : 128 ≤ m := by
          rcases Nat.lt_or_ge m 128 with h | h
          · have := sz_small h; omega
          · exact h
        have Hsm := Lib.hid hsm
        clear hsm
        go_wp2_with (at_builtin; refine push_byte (.tmp 23) (.tmp 25) _ (UInt8.ofNat (m % 128 + 128)) hown hb.size Hpl.out (put_byte_hi m) rfl rfl rfl rfl ?_; intro v1 w1 hown1 hb1 hbs1; clear hown)
        go_roundw
        case rel => exact ⟨m / 128, j + 1, pre ++ [UInt8.ofNat (m % 128 + 128)], by go_num, by omega, by go_num, by omega, ⟨by simp [he.out.1], fun _ => enc_next (he.out.2.1 hlt) hbig, fun h => by omega⟩, hown1, hb.trans hb1⟩
        case measure => simp [intOf]; omega
      · have hsml : m < 128 := sz_one (by omega)
        have hjk : j + 1 = K := by omega
        have Hjk := Lib.hid hjk
        clear hsm hjk
        go_wp2_with (at_builtin; refine push_byte (.tmp 23) (.tmp 25) _ (UInt8.ofNat m) hown hb.size Hpl.out (put_byte_lo hsml) rfl rfl rfl rfl ?_; intro v1 w1 hown1 hb1 hbs1; clear hown)
        go_roundw
        case rel => exact ⟨m / 128, j + 1, pre ++ [UInt8.ofNat m], by go_num, by omega, by go_num, by omega, ⟨by simp [he.out.1], fun h => by omega, fun _ => enc_last (he.out.2.1 hlt) hsml⟩, hown1, hb.trans hb1⟩
        case measure => simp [intOf]; omega
    · have hjk : j = K := by omega
      have hpe := he.out.2.2 hjk
      have Hpe := Lib.hid hpe
      clear hpe hjk
      go_wp2
      go_ret
      exact ⟨_, rfl, by rw [← Hpe.out]; exact hown, hb⟩
end Go.Proofs.Ytfhcpjnjemojgaa
