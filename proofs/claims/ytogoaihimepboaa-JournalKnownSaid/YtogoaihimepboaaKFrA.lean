/- Frames as values and cells; the walks of frame.Size and the document's Size. Conditions: bodies of at most 2^40 bytes. -/
import Derived.Test.YtogoaihimepboaaKGf
import Derived.Test.YtogoaihimepboaaKGe
import Derived.Test.YtogoaihimepboaaKFrMath
namespace Go.Proofs.Ytogoaihimepboaa
open Go.RowKit

/-- A frame: its kind, and its body's row. -/
structure Fr where
  k : UInt8
  r : Row
def Fr.v (f : Fr) : Value := .agg #[.int .u8 (f.k.toNat : Int), .slice f.r.A f.r.l.length f.r.c]

set_option maxHeartbeats 1000000 in
set_option maxRecDepth 100000 in
theorem frSize_any (f : Fr) (w : World) (hl : f.r.l.length ≤ 140737488351232) :
    Calls Try.prog 46 #[f.v] w fun e w' => e = .returned (.int .i64 ((fsz f.r.l.length : Nat) : Int)) ∧ Below w.heap.size w w' := by
  unfold Fr.v
  obtain ⟨k, A, c, l⟩ := f
  simp only at hl ⊢
  have hlen : (l.length : Int) ≤ 140737488351232 := by omega
  have Hs := Lib.hid (sz_10 (n := l.length) (by omega))
  clear hl
  go_enter Try.func46, Try.ntmps46
  go_wp2_with fail
  refine (size_any _ _ (by omega)).mono ?_
  rintro e w' ⟨rfl, rfl⟩
  have hs := Hs.out
  go_wp2
  go_ret
  refine ⟨ret_int ?_, (Below.refl _ _).alloc (Nat.le_refl _) _⟩
  unfold fsz
  omega

theorem or_byte {acc x k : Nat} (hk : k ≤ 3) (ha : acc < 256 ^ k) (hx : x < 256) : bits .or .u32 (acc : Int) ((x : Int) % 4294967296 * 2 ^ (k * 8) % 4294967296) = ((acc + x * 256 ^ k : Nat) : Int) := by
  have e2 : (2 : Nat) ^ (k * 8) = 256 ^ k := by rw [Nat.mul_comm, Nat.pow_mul]
  have h1 : 256 ^ k ≤ 256 ^ 3 := Nat.pow_le_pow_right (by omega) hk
  have h2 : x * 256 ^ k ≤ 255 * 256 ^ 3 := Nat.mul_le_mul (by omega) h1
  have e : ((x : Int) * 2 ^ (k * 8)) = ((x * 256 ^ k : Nat) : Int) := by
    rw [Int.natCast_mul, ← e2, Int.natCast_pow]; rfl
  have ex : (x : Int) % 4294967296 = (x : Int) := by omega
  have ew : ((x * 256 ^ k : Nat) : Int) % 4294967296 = ((x * 256 ^ k : Nat) : Int) := by omega
  rw [ex, e, ew, u32_or_nat acc (x * 256 ^ k) (by omega) (by omega)]
  congr 1
  rw [← e2] at ha ⊢
  rw [Nat.or_comm, Nat.mul_comm x, ← Nat.two_pow_add_eq_or_of_lt ha, Nat.add_comm]
theorem or_first {acc x : Nat} (ha : acc < 256 ^ 0) (hx : x < 256) : bits .or .u32 (acc : Int) ((x : Int) % 4294967296) = ((acc + x * 256 ^ 0 : Nat) : Int) := by
  have h0 : acc = 0 := by simpa using ha
  subst h0
  have ex : (x : Int) % 4294967296 = (x : Int) := by omega
  rw [ex, u32_or_nat 0 x (by omega) (by omega)]
  simp
theorem rdTo_step {l : List UInt8} {k : Nat} {x : UInt8} (h : Hid (l[k]? = some x)) : rdTo l (k + 1) = rdTo l k + x.toNat * 256 ^ k := by
  rw [rdTo, h.out]
  rfl

set_option maxHeartbeats 1000000 in
set_option maxRecDepth 100000 in
/-- Four bytes read as a check. -/
theorem readSum_any (A : Option Addr) (c B : Nat) (l : List UInt8) (w : World) (h4 : 4 ≤ l.length) (hl : l.length ≤ 140737488351232) (hr : RdB w B A l) :
    Calls Try.prog 41 #[.slice A l.length c] w fun e w' => e = .returned (rv (rd4 l)) ∧ w = w' := by
  have hlen : (l.length : Int) ≤ 140737488351232 := by omega
  have hlen4 : (4 : Int) ≤ (l.length : Int) := by omega
  clear hl
  go_enter Try.func41, Try.ntmps41
  go_wp2
  go_loop [2, 4] (fun r i => ∃ (k acc : Nat), k ≤ 4 ∧ i = .int .i64 (k : Int) ∧ r = .int .u32 (acc : Int) ∧ Hid (acc = rdTo l k)) (fun _ i => 4 - (intOf i).toNat)
  case atStart => exact ⟨0, 0, by omega, rfl, rfl, by exact rfl⟩
  case round =>
    obtain ⟨k, acc, hk, rfl, rfl, hacc⟩ := hrel
    by_cases hlt : k < 4
    · obtain ⟨ad, x, rfl, _, hc, hx⟩ := RdB.at_ hr (k := k) (by omega)
      have hlt' : acc < 256 ^ k := by rw [hacc.out]; exact rdTo_lt l k
      have hstep := rdTo_step hx
      rw [← hacc.out] at hstep
      have hil : (k : Int) < (l.length : Int) := by omega
      have Hstep := Lib.hid hstep
      rcases Nat.eq_zero_or_pos k with hk0 | hk0
      · subst hk0
        have hor := or_first hlt' (x := x.toNat) (by have := x.toNat_lt; omega)
        have Hor := Lib.hid hor
        rw [add_zero'] at hc
        clear hor hlt' hstep
        go_wp2
        go_round
        case rel => exact ⟨1, acc + x.toNat * 256 ^ 0, by omega, by go_num, by rw [Hor.out], Hstep.out.symm⟩
        case measure => simp [intOf]
      · have hor := or_byte (by omega) hlt' (x := x.toNat) (by have := x.toNat_lt; omega)
        have Hor := Lib.hid hor
        clear hor hlt' hstep
        go_wp2
        go_round
        case rel => exact ⟨k + 1, acc + x.toNat * 256 ^ k, by omega, by go_num, by rw [Hor.out], Hstep.out.symm⟩
        case measure => simp [intOf]; omega
    · obtain rfl : k = 4 := by omega
      have hv : (acc : Int) = ((rd4 l).toNat : Int) := by rw [hacc.out, rd4_nat]
      have Hv := Lib.hid hv
      clear hv
      go_wp2
      go_ret
      exact ⟨ret_u32 Hv.out, rfl⟩

theorem sbyte_low {c : BitVec 32} {m k : Nat} (h : Hid (m = c.toNat / 256 ^ k)) : (m : Int) % 256 = ((sbyte c k).toNat : Int) := by
  rw [sbyte_nat, ← h.out]
  omega
theorem div_on {c : BitVec 32} {m k : Nat} (h : Hid (m = c.toNat / 256 ^ k)) : Hid (m / 256 = c.toNat / 256 ^ (k + 1)) := by
  show m / 256 = _
  rw [h.out, Nat.pow_succ, Nat.div_div_eq_div_mul]

set_option maxHeartbeats 1000000 in
set_option maxRecDepth 100000 in
/-- A check put behind a row of the call's own. -/
theorem appendSum_any (base : Nat) (v : Value) (l : List UInt8) (c : BitVec 32) (w : World) (hl : l.length ≤ 140737488351232) (hbase : base ≤ w.heap.size)
    (hown : w.ownsRow base 5 1 v l.length (bs l)) :
    Calls Try.prog 54 #[v, rv c] w fun e w' => ∃ v', e = .returned v' ∧ w'.ownsRow base 5 1 v' (l ++ sum4 c).length (bs (l ++ sum4 c)) ∧ Below base w w' := by
  have Hl := Lib.hid hl
  clear hl
  obtain ⟨n, hn, hnc, hlt'⟩ := letter c
  rw [hn]
  clear hn
  go_enter Try.func54, Try.ntmps54
  go_wp2
  go_loopw [0, 1, 5] (fun v r i wr => ∃ (k m : Nat), k ≤ 4 ∧ i = .int .i64 (k : Int) ∧ r = .int .u32 (m : Int) ∧ (m : Int) ≤ 4294967295 ∧ Hid (m = c.toNat / 256 ^ k) ∧ wr.ownsRow base 5 1 v (l ++ sumTo c k).length (bs (l ++ sumTo c k)) ∧ Below base w wr ∧ base ≤ wr.heap.size) (fun _ _ i _ => 4 - (intOf i).toNat)
  case atStart => exact ⟨0, n, by omega, rfl, rfl, by have := hlt'.out; omega, by show n = _; rw [hnc.out]; simp, by simpa [sumTo] using hown, .refl _ _, hbase⟩
  case round =>
    obtain ⟨k, m, hk, rfl, rfl, hm, hmc, hownr, hb, hbr⟩ := hrel
    by_cases hlt : k < 4
    · have Hpl := Lib.hid (show (l ++ sumTo c k).length ≤ 140737488355327 by have := Hl.out; simp [sumTo]; omega)
      go_wp2_with
        (at_builtin
         refine push_byte (.tmp 7) (.tmp 10) _ (sbyte c k) hownr hbr Hpl.out (sbyte_low hmc) rfl rfl rfl rfl ?_
         intro v1 w1 hown1 hb1 hbs1
         clear hownr)
      go_roundw
      case rel => exact ⟨k + 1, m / 256, by omega, by go_num, by go_num, by omega, div_on hmc, by rw [sumTo_snoc, ← List.append_assoc]; exact hown1, hb.trans hb1, hbs1⟩
      case measure => simp [intOf]; omega
    · obtain rfl : k = 4 := by omega
      go_wp2
      go_ret
      exact ⟨_, rfl, hownr, hb⟩
theorem appendSum_at (base : Nat) (v : Value) (l : List UInt8) (n : Nat) (hn : n = l.length) (c : BitVec 32) (z : Int) (hz : z = (c.toNat : Int)) (w : World) (hl : l.length ≤ 140737488351232) (hbase : base ≤ w.heap.size)
    (hown : w.ownsRow base 5 1 v n (bs l)) :
    Calls Try.prog 54 #[v, .int .u32 z] w fun e w' => ∃ v', e = .returned v' ∧ w'.ownsRow base 5 1 v' (l ++ sum4 c).length (bs (l ++ sum4 c)) ∧ Below base w w' := by
  subst hz hn
  exact appendSum_any base v l c w hl hbase hown
end Go.Proofs.Ytogoaihimepboaa
