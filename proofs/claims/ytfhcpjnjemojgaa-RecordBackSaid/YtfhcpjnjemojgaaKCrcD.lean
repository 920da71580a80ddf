/- The walk of the program's table. Conditions: none. -/
import Derived.Test.YtfhcpjnjemojgaaKCrcC
import Derived.StillTailTactics
namespace Go.Proofs.Ytfhcpjnjemojgaa
open Go.RowKit

/-- A number without its lowest digit that is 1. -/
def low (k : Nat) : Nat := k &&& (k - 1)
theorem low_facts : ∀ k : Fin 256, low k.val < 256 ∧ (low k.val ≠ 0 → low k.val < k.val ∧ k.val ^^^ low k.val < k.val) := by decide +kernel
theorem i64_and_nat (a b : Nat) (ha : a < 9223372036854775808) (hb : b < 9223372036854775808) : bits .and .i64 (a : Int) (b : Int) = ((a &&& b : Nat) : Int) := by
  have hx : a &&& b < 2 ^ 63 := Nat.and_lt_two_pow _ (by omega)
  have ofInt (a : Nat) (ha : a < 9223372036854775808) : (BitVec.ofInt 64 (a : Int)).toNat = a := by
    rw [BitVec.ofInt_natCast, BitVec.toNat_ofNat]; exact Nat.mod_eq_of_lt (by omega)
  show IntKind.i64.wrap ((BitVec.ofInt 64 (a : Int) &&& BitVec.ofInt 64 (b : Int)).toNat : Int) = _
  rw [BitVec.toNat_and, ofInt a ha, ofInt b hb, IntKind.wrap_i64]
  omega
theorem i64_xor_nat (a b : Nat) (ha : a < 9223372036854775808) (hb : b < 9223372036854775808) : bits .xor .i64 (a : Int) (b : Int) = ((a ^^^ b : Nat) : Int) := by
  have hx : a ^^^ b < 2 ^ 63 := Nat.xor_lt_two_pow (by omega) (by omega)
  have ofInt (a : Nat) (ha : a < 9223372036854775808) : (BitVec.ofInt 64 (a : Int)).toNat = a := by
    rw [BitVec.ofInt_natCast, BitVec.toNat_ofNat]; exact Nat.mod_eq_of_lt (by omega)
  show IntKind.i64.wrap ((BitVec.ofInt 64 (a : Int) ^^^ BitVec.ofInt 64 (b : Int)).toNat : Int) = _
  rw [BitVec.toNat_xor, ofInt a ha, ofInt b hb, IntKind.wrap_i64]
  omega
theorem low_bits (k : Nat) (h : k < 256) : bits .and .i64 (k : Int) ((k : Int) - 1) = (low k : Int) := by
  cases k with
  | zero => decide +kernel
  | succ n =>
    have e : (((n + 1 : Nat) : Int) - 1) = (n : Int) := by omega
    rw [e]
    exact i64_and_nat (n + 1) n (by omega) (by omega)

theorem digits_at {z : Int} {c : BitVec 32} (w : World) (h : z = (c.toNat : Int)) : Calls Try.prog 64 #[.int .u32 z] w fun e w' => e = .returned (rv (steps 8 c)) ∧ w = w' := by
  subst h
  exact digits_any c w

theorem Tabs.drew {w0 w : World} {k : Nat} (h : Tabs w0 k w) : Tabs w0 k w.drew := ⟨h.res, h.tab, h.old.drew⟩

set_option maxHeartbeats 1000000 in
set_option maxRecDepth 100000 in
theorem crcTable_any (w : World) : Calls Try.prog 63 #[] w fun e w' => e = .returned (.agg tabV) ∧ Below w.heap.size w w' := by
  go_enter Try.func63, Try.ntmps63
  go_wp2_with (refine wpList_alloc_zero rfl 119 rfl _ zero_row _ rfl ?_)
  go_loopw [4] (fun i wr => ∃ k : Nat, k ≤ 256 ∧ i = .int .i64 (k : Int) ∧ Tabs w k wr) (fun i _ => 256 - (intOf i).toNat)
  case atStart => exact ⟨0, by omega, rfl, Tabs.new w⟩
  case round =>
    obtain ⟨k, hk, rfl, ht⟩ := hrel
    by_cases hlt : k < 256
    · have hd : decide ((k : Int) < 256) = true := by rw [decide_eq_true_iff]; omega
      have hand := low_bits k hlt
      obtain ⟨hr256, hrk⟩ := low_facts ⟨k, hlt⟩
      simp only at hr256 hrk
      have hpar := tab_parts k (low k)
      obtain ⟨r, hr⟩ : ∃ r, r = low k := ⟨_, rfl⟩
      rw [← hr] at hand hr256 hrk hpar
      have Hpar := Lib.hid hpar
      clear hr hpar
      obtain ⟨u, hu⟩ := ht.some_cell hlt
      have hf := ht.free k
      by_cases h0 : r = 0
      · subst h0
        go_wp2_with fail
        refine (digits_at _ (of_small hlt)).mono ?_
        rintro e w' ⟨rfl, rfl⟩
        go_wp2
        go_roundw
        case rel => exact ⟨k + 1, by omega, by go_num, ht.go hlt rfl⟩
        case measure => simp [intOf]; omega
      · obtain ⟨h1, h2⟩ := hrk h0
        have hx := i64_xor_nat k r (by omega) (by omega)
        have hq : ((r : Int) == 0) = false := by rw [beq_eq_false_iff_ne]; omega
        obtain ⟨q, hqx⟩ : ∃ q, q = k ^^^ r := ⟨_, rfl⟩
        rw [← hqx] at hx h2 Hpar
        have hc1 := ht.cell (i := r) hr256 h1
        have hc2 := ht.cell (i := q) (by omega) h2
        have hi0 : (0 : Int) ≤ (r : Int) := by omega
        have hi1 : (r : Int) < 256 := by omega
        have hi2 : (q : Int) < 256 := by omega
        have hi3 : (k : Int) < 256 := by omega
        clear hqx hrk h1 h2
        go_wp2_with fail
        go_still_tail 11, (by kernel_rfl)
        go_wp2
        go_roundw
        case rel => exact ⟨k + 1, by omega, by go_num, ht.drew.go hlt (by rw [← Hpar.out, BitVec.toNat_xor]; exact xor_nat rfl rfl (tab r).isLt (tab q).isLt)⟩
        case measure => simp [intOf]; omega
    · obtain rfl : k = 256 := by omega
      have hg := ht.tab
      have hg0 := ht.res
      rw [tabTo_all] at hg
      go_wp2_with (first | refine wpList_load_row rfl 119 (.tmp 1) rfl _ rfl _ _ _ _ hg Try.underlying119 rfl (by rw [size_row, tabV_size]) ?_ | refine wpList_store_row rfl 119 (.tmp 0) (.tmp 30) rfl _ _ rfl rfl _ _ hg0 (by rw [size_row, tabV_size]) (by rw [tabTo_size, tabV_size]) tabV_one ?_)
      exact bodyPost_ret (v := .agg tabV) (results_cell_row rfl _ _ w.heap.size _ _ _ _ rfl (setRow_heap _ _ _ _ _ _ hg0) Try.underlying119 rfl (by rw [size_row, tabV_size])) rfl ⟨rfl, below_setRow ht.old (Nat.le_refl _) _⟩
end Go.Proofs.Ytfhcpjnjemojgaa
