/- Numbers as few bytes, as plain lists: how they are written, how they are read, and that the one undoes the other. No program in sight. Conditions: numbers below 2^64. -/
/- The walks of varint's numbers: how many digits, how many bytes, a number put behind a row. Conditions: numbers below 2^64, rows of at most 2^40 bytes. -/
/- The walks of varint's writers: appendNumber, All, Put, Text. Conditions: numbers below 2^64, rows of at most 2^40 bytes. -/
/- The walks of varint's writers: All, Put, Text. Conditions: numbers below 2^64, at most 2^36 of them; texts of at most 2^40 bytes. -/
/- The walks of the statements' own helpers: SameBytes, Spoil, Own. Conditions: rows of at most 2^40 bytes. -/
import Derived.Lib.BitFns
import Derived.Test.YtogoaihimepboaaKGa
import Derived.Lib.Strings
import Derived.Lib.Slices
import Derived.Lib.Small
import Derived.Lib.Walk
import Derived.Deep.Light
import Derived.Laws.MakeOwn
import Derived.Lib.AppendStr
import Derived.Deep.QuietTactic
import Derived.BigQuiet

namespace Go.Proofs.Ytogoaihimepboaa
theorem ofNat_toNat {n : Nat} (h : n < 256) : (UInt8.ofNat n).toNat = n := by simp [UInt8.toNat_ofNat']; omega

def encF : Nat → Nat → List UInt8
  | 0, n => [UInt8.ofNat n]
  | f + 1, n => if n < 128 then [UInt8.ofNat n] else UInt8.ofNat (n % 128 + 128) :: encF f (n / 128)
/-- A number, written. -/
def enc (n : Nat) : List UInt8 := encF n n
theorem encF_step : ∀ (f n : Nat), n ≤ f → encF (f + 1) n = encF f n
  | 0, n, h => by
    have : n = 0 := by omega
    subst this; rfl
  | f + 1, n, h => by
    rw [encF]
    conv => rhs; rw [encF]
    split
    · rfl
    · rw [encF_step f (n / 128) (by omega)]
theorem encF_fuel (n : Nat) : ∀ k, encF (n + k) n = encF n n
  | 0 => rfl
  | k + 1 => by rw [show n + (k + 1) = (n + k) + 1 from by omega, encF_step _ _ (by omega), encF_fuel n k]
theorem enc_small {n : Nat} (h : n < 128) : enc n = [UInt8.ofNat n] := by
  unfold enc
  cases n with
  | zero => rfl
  | succ n => rw [encF, if_pos h]
theorem enc_big {n : Nat} (h : 128 ≤ n) : enc n = UInt8.ofNat (n % 128 + 128) :: enc (n / 128) := by
  unfold enc
  obtain ⟨m, rfl⟩ : ∃ m, n = m + 1 := ⟨n - 1, by omega⟩
  rw [encF, if_neg (by omega)]
  have := encF_fuel ((m + 1) / 128) (m - (m + 1) / 128)
  rw [show (m + 1) / 128 + (m - (m + 1) / 128) = m from by omega] at this
  rw [this]
/-- How many bytes a number has. -/
abbrev sz (n : Nat) : Nat := (enc n).length
theorem sz_pos (n : Nat) : 0 < sz n := by
  unfold sz
  by_cases h : n < 128
  · rw [enc_small h]; simp
  · rw [enc_big (by omega)]; simp
theorem sz_small {n : Nat} (h : n < 128) : sz n = 1 := by simp [sz, enc_small h]
theorem sz_big {n : Nat} (h : 128 ≤ n) : sz n = sz (n / 128) + 1 := by simp [sz, enc_big h]
theorem sz_le : ∀ (k n : Nat), n < 128 ^ (k + 1) → sz n ≤ k + 1
  | 0, n, h => by rw [sz_small (by simpa using h)]; omega
  | k + 1, n, h => by
    by_cases hn : n < 128
    · rw [sz_small hn]; omega
    · rw [sz_big (by omega)]
      have := sz_le k (n / 128) (by rw [Nat.div_lt_iff_lt_mul (by omega)]; rw [Nat.pow_succ] at h; exact h)
      omega
theorem sz_10 {n : Nat} (h : n < 18446744073709551616) : sz n ≤ 10 := sz_le 9 n (by omega)

theorem bitLenAux_half : ∀ (f x : Nat), 0 < x → Lib.bitLenAux (f + 1) x = 1 + Lib.bitLenAux f (x / 2) := by
  intro f x h
  rw [Lib.bitLenAux, if_neg (by omega)]
theorem bitLenAux_stable : ∀ (f x : Nat), x < 2 ^ f → Lib.bitLenAux (f + 1) x = Lib.bitLenAux f x
  | 0, x, h => by
    have : x = 0 := by simpa using h
    subst this; rfl
  | f + 1, x, h => by
    rw [Lib.bitLenAux]
    conv => rhs; rw [Lib.bitLenAux]
    split
    · rfl
    · rw [bitLenAux_stable f (x / 2) (by rw [Nat.div_lt_iff_lt_mul (by omega)]; rw [Nat.pow_succ] at h; exact h)]
theorem bitLen_half {x : Nat} (h0 : 0 < x) (h : x < 18446744073709551616) : Lib.bitLen x = 1 + Lib.bitLen (x / 2) := by
  unfold Lib.bitLen
  rw [bitLenAux_half 63 x h0, bitLenAux_stable 63 (x / 2) (by omega)]
theorem bitLen_128 {x : Nat} (h0 : 128 ≤ x) (h : x < 18446744073709551616) : Lib.bitLen x = 7 + Lib.bitLen (x / 128) := by
  rw [bitLen_half (by omega) h, bitLen_half (by omega) (by omega), bitLen_half (by omega) (by omega), bitLen_half (by omega) (by omega), bitLen_half (by omega) (by omega), bitLen_half (by omega) (by omega), bitLen_half (by omega) (by omega)]
  rw [show x / 2 / 2 / 2 / 2 / 2 / 2 / 2 = x / 128 from by omega]
  omega
theorem bitLen_pos {x : Nat} (h0 : 0 < x) (h : x < 18446744073709551616) : 0 < Lib.bitLen x := by rw [bitLen_half h0 h]; omega
theorem bitLen_7 : ∀ n : Fin 128, Lib.bitLen n.val ≤ 7 := by decide +kernel
/-- How many bytes a number has, by its binary digits. -/
theorem sz_bits : ∀ (k n : Nat), n ≤ k → n < 18446744073709551616 → sz n = (max (Lib.bitLen n) 1 + 6) / 7
  | k, n, hk, h => by
    by_cases hn : n < 128
    · have := bitLen_7 ⟨n, hn⟩
      rw [sz_small hn]
      simp only at this
      omega
    · match k, hk with
      | 0, hk => omega
      | k + 1, hk =>
        rw [sz_big (by omega), bitLen_128 (by omega) h, sz_bits k (n / 128) (by omega) (by omega)]
        have := bitLen_pos (x := n / 128) (by omega) (by omega)
        omega
theorem bitLen_mono_aux : ∀ (f x y : Nat), x ≤ y → Lib.bitLenAux f x ≤ Lib.bitLenAux f y
  | 0, _, _, _ => Nat.le_refl _
  | f + 1, x, y, h => by
    rw [Lib.bitLenAux, Lib.bitLenAux]
    split
    · omega
    · rw [if_neg (by omega)]
      have := bitLen_mono_aux f (x / 2) (y / 2) (by omega)
      omega
theorem sz_mono {x y : Nat} (h : x ≤ y) (hy : y < 18446744073709551616) : sz x ≤ sz y := by
  rw [sz_bits x x (Nat.le_refl _) (by omega), sz_bits y y (Nat.le_refl _) hy]
  have := bitLen_mono_aux 64 x y h
  unfold Lib.bitLen
  omega

/-! ### reading -/
/-- The number that is written, the bytes that it takes, the error: from group i on, with what the groups ahead say. -/
def tk : Nat → Nat → List UInt8 → Nat × Nat × Nat
  | _, _, [] => (0, 0, 10)
  | i, acc, c :: r => if (0 < i ∧ c.toNat = 0) ∨ (i = 9 ∧ 1 < c.toNat) then (0, 0, 11) else if c.toNat < 128 then (acc + c.toNat * 2 ^ (7 * i), i + 1, 0) else tk (i + 1) (acc + (c.toNat - 128) * 2 ^ (7 * i)) r
theorem pow7 (i : Nat) : 2 ^ (7 * (i + 1)) = 128 * 2 ^ (7 * i) := by
  rw [show 7 * (i + 1) = 7 * i + 7 from by omega, Nat.pow_add]
  omega
theorem pow7_top {i : Nat} (h : i ≤ 9) : 2 ^ (7 * i) * 2 ^ (64 - 7 * i) = 18446744073709551616 := by
  rw [← Nat.pow_add, show 7 * i + (64 - 7 * i) = 64 from by omega]
theorem pow_div128 {i : Nat} (h : i + 1 ≤ 9) : 2 ^ (64 - 7 * i) = 128 * 2 ^ (64 - 7 * (i + 1)) := by
  rw [show 64 - 7 * i = 7 + (64 - 7 * (i + 1)) from by omega, Nat.pow_add]
/-- What is put is taken. -/
theorem tk_enc : ∀ (k m i acc : Nat) (rest : List UInt8), m ≤ k → (0 < i → 0 < m) → i ≤ 9 → m < 2 ^ (64 - 7 * i) → tk i acc (enc m ++ rest) = (acc + m * 2 ^ (7 * i), i + sz m, 0)
  | k, m, i, acc, rest, hk, h0, hi, hm => by
    by_cases hs : m < 128
    · rw [enc_small hs, sz_small hs]
      simp only [List.cons_append, List.nil_append, tk]
      rw [ofNat_toNat (by omega), if_neg (by
        intro h
        rcases h with h | ⟨h, h'⟩
        · have := h0 h.1; omega
        · subst h; have : m < 2 := by simpa using hm
          omega), if_pos hs]
    · have hi' : i + 1 ≤ 9 := by
        rcases Nat.lt_or_ge i 9 with h | h
        · omega
        · have : i = 9 := by omega
          subst this
          have : m < 2 := by simpa using hm
          omega
      match k, hk with
      | 0, hk => omega
      | k + 1, hk =>
        rw [enc_big (by omega), sz_big (by omega)]
        simp only [List.cons_append, tk]
        rw [ofNat_toNat (by omega), if_neg (by omega), if_neg (by omega)]
        rw [tk_enc k (m / 128) (i + 1) _ rest (by omega) (by intro _; omega) hi' (by rw [Nat.div_lt_iff_lt_mul (by omega), Nat.mul_comm, ← pow_div128 hi']; exact hm)]
        rw [pow7]
        have e : m / 128 * (128 * 2 ^ (7 * i)) = (m / 128 * 128) * 2 ^ (7 * i) := by rw [Nat.mul_assoc]
        rw [e, Nat.add_assoc, ← Nat.add_mul, show (m % 128 + 128 - 128 + m / 128 * 128) = m from by omega]
        congr 2
        omega
/-- What is taken, put again, is what was taken. -/
theorem tk_back : ∀ (l : List UInt8) (i acc n k : Nat), i ≤ 9 → tk i acc l = (n, k, 0) → ∃ m, n = acc + m * 2 ^ (7 * i) ∧ enc m = l.take (k - i) ∧ i < k ∧ k ≤ i + l.length ∧ m < 2 ^ (64 - 7 * i) ∧ (0 < i → 0 < m)
  | [], i, acc, n, k, hi, h => by simp [tk] at h
  | c :: r, i, acc, n, k, hi, h => by
    have hc := c.toNat_lt
    rw [tk] at h
    split at h
    · simp at h
    · rename_i h1
      split at h
      · rename_i h2
        simp only [Prod.mk.injEq, and_true] at h
        obtain ⟨rfl, rfl⟩ := h
        refine ⟨c.toNat, rfl, ?_, by omega, by simp, ?_, ?_⟩
        · rw [show i + 1 - i = 1 from by omega, enc_small h2]; simp
        · rcases Nat.lt_or_ge i 9 with h9 | h9
          · have : 2 ^ 8 ≤ 2 ^ (64 - 7 * i) := Nat.pow_le_pow_right (by omega) (by omega)
            omega
          · have : i = 9 := by omega
            subst this
            show c.toNat < 2
            omega
        · intro h3; omega
      · rename_i h2
        have hi' : i + 1 ≤ 9 := by omega
        obtain ⟨m, rfl, he, hlt, hle, hm, h0⟩ := tk_back r (i + 1) _ n k hi' h
        have hm0 := h0 (by omega)
        refine ⟨c.toNat - 128 + m * 128, ?_, ?_, by omega, by simp; omega, ?_, by intro _; omega⟩
        · rw [pow7, Nat.add_mul, Nat.mul_assoc, Nat.add_assoc]
        · rw [enc_big (by omega), show (c.toNat - 128 + m * 128) / 128 = m from by omega, show (c.toNat - 128 + m * 128) % 128 + 128 = c.toNat from by omega, he]
          obtain ⟨j, rfl⟩ : ∃ j, k = i + 1 + j := ⟨k - (i + 1), by omega⟩
          rw [show i + 1 + j - i = j + 1 from by omega, show i + 1 + j - (i + 1) = j from by omega]
          simp
        · rw [pow_div128 hi']
          omega

/-! ### the calls' answers -/
/-- Take's answer: the number, the place behind it, the error. -/
def take (l : List UInt8) (p : Int) : Nat × Int × Nat :=
  if 0 ≤ p ∧ p < l.length then (if (tk 0 0 (l.drop p.toNat)).2.2 = 0 then ((tk 0 0 (l.drop p.toNat)).1, p + ((tk 0 0 (l.drop p.toNat)).2.1 : Nat), 0) else (0, p, (tk 0 0 (l.drop p.toNat)).2.2)) else (0, p, 10)
/-- TakeText's. -/
def takeText (l : List UInt8) (p : Int) : List UInt8 × Int × Nat :=
  if (take l p).2.2 ≠ 0 then ([], p, (take l p).2.2)
  else if (l.length : Int) - (take l p).2.1 < (take l p).1 then ([], p, 10)
  else ((l.drop (take l p).2.1.toNat).take (take l p).1, (take l p).2.1 + (take l p).1, 0)
/-- TakeAll's, from some place on, with the numbers that were taken ahead. -/
def takeMany (l : List UInt8) (p0 : Int) : Nat → Int → List Nat → List Nat × Int × Nat
  | 0, p, acc => (acc, p, 0)
  | k + 1, p, acc => if (take l p).2.2 ≠ 0 then ([], p0, (take l p).2.2) else takeMany l p0 k (take l p).2.1 (acc ++ [(take l p).1])
def takeAll (l : List UInt8) (p many : Int) : List Nat × Int × Nat := takeMany l p many.toNat p []

theorem tk_err : ∀ (l : List UInt8) (i acc : Nat), (tk i acc l).2.2 = 0 ∨ (tk i acc l).2.2 = 10 ∨ (tk i acc l).2.2 = 11
  | [], i, acc => by simp [tk]
  | c :: r, i, acc => by
    rw [tk]
    split
    · simp
    · split
      · simp
      · exact tk_err r _ _
theorem take_err (l : List UInt8) (p : Int) : (take l p).2.2 = 0 ∨ (take l p).2.2 = 10 ∨ (take l p).2.2 = 11 := by
  unfold take
  split
  · split
    · simp
    · exact tk_err _ _ _
  · simp
/-- What a number that is taken is. -/
theorem take_ok {l : List UInt8} {p : Int} (h : (take l p).2.2 = 0) :
    0 ≤ p ∧ (take l p).1 < 18446744073709551616 ∧ ∃ k : Nat, 0 < k ∧ (take l p).2.1 = p + k ∧ p + k ≤ l.length ∧ enc (take l p).1 = (l.drop p.toNat).take k := by
  unfold take at h ⊢
  split at h
  · rename_i hp
    rw [if_pos hp]
    split at h
    · rename_i h0
      rw [if_pos h0]
      obtain ⟨m, e1, e2, e3, e4, e5, e6⟩ := tk_back (l.drop p.toNat) 0 0 _ _ (by omega) (show tk 0 0 (l.drop p.toNat) = ((tk 0 0 (l.drop p.toNat)).1, (tk 0 0 (l.drop p.toNat)).2.1, 0) from Prod.ext rfl (Prod.ext rfl h0))
      simp only [Nat.zero_add, Nat.mul_zero, Nat.pow_zero, Nat.mul_one] at e1
      rw [List.length_drop] at e4
      refine ⟨hp.1, ?_, _, e3, rfl, by omega, ?_⟩
      · show (tk 0 0 (l.drop p.toNat)).1 < 18446744073709551616
        rw [e1]; simpa using e5
      · show enc (tk 0 0 (l.drop p.toNat)).1 = _
        rw [e1, e2]; rfl
    · rename_i h0; exact absurd h h0
  · simp at h
theorem take_lt (l : List UInt8) (p : Int) : (take l p).1 < 18446744073709551616 := by
  by_cases h : (take l p).2.2 = 0
  · exact (take_ok h).2.1
  · unfold take at h ⊢
    split
    · rename_i hp
      rw [if_pos hp] at h
      split
      · rename_i h0; rw [if_pos h0] at h; simp at h
      · simp
    · simp
theorem take_no {l : List UInt8} {p : Int} (h : (take l p).2.2 ≠ 0) : (take l p).1 = 0 ∧ (take l p).2.1 = p := by
  unfold take at h ⊢
  split
  · rename_i hp
    rw [if_pos hp] at h
    split
    · rename_i h0; rw [if_pos h0] at h; simp at h
    · simp
  · simp
/-- What is put is taken as it was. -/
theorem take_enc {l : List UInt8} {p : Nat} {n : Nat} {rest : List UInt8} (hn : n < 18446744073709551616) (hl : l.drop p = enc n ++ rest) : take l p = (n, (p : Int) + (sz n : Nat), 0) := by
  have hs := sz_pos n
  have hp : p < l.length := by
    rcases Nat.lt_or_ge p l.length with h | h
    · exact h
    · rw [List.drop_eq_nil_of_le h] at hl
      have : (enc n ++ rest).length = 0 := by rw [← hl]; rfl
      rw [List.length_append] at this
      unfold sz at hs
      omega
  have e := tk_enc n n 0 0 rest (Nat.le_refl _) (by omega) (by omega) (by simpa using hn)
  unfold take
  rw [if_pos ⟨by omega, by omega⟩, Int.toNat_natCast, hl, e]
  simp
theorem takeMany_enc (l : List UInt8) (p0 : Int) : ∀ (ns : List Nat) (p : Nat) (acc : List Nat) (rest : List UInt8), (∀ n ∈ ns, n < 18446744073709551616) → l.drop p = ns.flatMap enc ++ rest →
    takeMany l p0 ns.length p acc = (acc ++ ns, (p : Int) + ((ns.flatMap enc).length : Nat), 0)
  | [], p, acc, rest, _, _ => by simp [takeMany]
  | n :: ns, p, acc, rest, hn, hl => by
    have hn0 := hn n (by simp)
    have e := take_enc (l := l) (p := p) (n := n) (rest := ns.flatMap enc ++ rest) hn0 (by rw [hl]; simp)
    rw [List.length_cons, takeMany, e]
    simp only [ne_eq, not_true_eq_false, if_false]
    have h2 : l.drop (p + sz n) = ns.flatMap enc ++ rest := by
      rw [← List.drop_drop, hl]
      simp only [List.flatMap_cons, List.append_assoc]
      exact List.drop_left
    have := takeMany_enc l p0 ns (p + sz n) (acc ++ [n]) rest (fun m hm => hn m (by simp [hm])) h2
    rw [show ((p : Int) + (sz n : Nat)) = ((p + sz n : Nat) : Int) from by omega, this]
    simp only [List.append_assoc, List.cons_append, List.nil_append, List.flatMap_cons, List.length_append, Prod.mk.injEq, true_and, and_true]
    unfold sz
    omega
theorem takeAll_enc {l : List UInt8} {p : Nat} {ns : List Nat} {rest : List UInt8} (hn : ∀ n ∈ ns, n < 18446744073709551616) (hl : l.drop p = ns.flatMap enc ++ rest) :
    takeAll l p ns.length = (ns, (p : Int) + ((ns.flatMap enc).length : Nat), 0) := by
  unfold takeAll
  rw [Int.toNat_natCast, takeMany_enc l p ns p [] rest hn hl]
  rfl
theorem takeText_enc {l : List UInt8} {p : Nat} {s rest : List UInt8} (hs : s.length < 18446744073709551616) (hl : l.drop p = enc s.length ++ (s ++ rest)) :
    takeText l p = (s, (p : Int) + (sz s.length : Nat) + (s.length : Nat), 0) := by
  have e := take_enc hs hl
  have hlen : l.length = p + (sz s.length + (s.length + rest.length)) := by
    have h1 : (l.drop p).length = sz s.length + (s.length + rest.length) := by rw [hl]; simp
    have hz := sz_pos s.length
    rw [List.length_drop] at h1
    omega
  unfold takeText
  rw [e]
  simp only [ne_eq, not_true_eq_false, if_false]
  rw [if_neg (by omega), show ((p : Int) + (sz s.length : Nat)).toNat = p + sz s.length from by omega, ← List.drop_drop, hl]
  simp
end Go.Proofs.Ytogoaihimepboaa

namespace Go.Proofs.Ytogoaihimepboaa
open Go.RowKit

set_option maxRecDepth 100000 in
theorem len8tab_size : (Lib.len8tab.size : Int) = 256 := by
  have : Lib.len8tab.size = 256 := by decide
  omega
theorem wrap_add (k a b : Nat) (hk : k ≤ 56) (ha : a ≤ 8) (hb : b = k + a) : wrap64 ((k : Int) + wrap64 (a : Int)) = (b : Int) := by
  unfold wrap64
  omega
theorem wrap_wrap (a : Nat) (ha : a ≤ 8) : wrap64 (wrap64 (a : Int)) = (a : Int) := by
  unfold wrap64
  omega
theorem wrap_one (a : Nat) (ha : a ≤ 8) : wrap64 (a : Int) = (a : Int) := by
  unfold wrap64
  omega
theorem wrap_wadd (k a b : Nat) (hk : k ≤ 56) (ha : a ≤ 8) (hb : b = k + a) : wrap64 ((k : Int) + (a : Int)) = (b : Int) := by
  unfold wrap64
  omega
theorem len8_get (y : Int) (h : y.toNat < Lib.len8tab.size) : ((Lib.len8tab[y.toNat]'h).toNat : Int) = Lib.len8 y := by
  unfold Lib.len8
  rw [getElem?_pos Lib.len8tab y.toNat h]
  rfl

set_option maxHeartbeats 32000000 in
set_option maxRecDepth 1000000 in
theorem len64_any (x : Int) (w : World) (h0 : 0 ≤ x) (h1 : x ≤ 18446744073709551615) :
    Calls Try.prog 58 #[.int .u64 x] w fun e w' => e = .returned (.int .i64 (Lib.bitLen x.toNat)) ∧ w' = w := by
  go_enter Try.func58, Try.ntmps58
  go_wp2
  all_goals first
    | (go_ret; refine ⟨congrArg Ending.returned (congrArg (Value.int IntKind.i64) ?_), rfl⟩; go_light)
    | (exfalso
       go_light
       have hs := len8tab_size
       omega)
  all_goals first
    | (rw [len8_get (x / 4294967296 / 65536 / 256) _, Lib.len8_of (x / 4294967296 / 65536 / 256) (by omega) (by omega)]
       have e : (x / 4294967296 / 65536 / 256).toNat = x.toNat / 72057594037927936 := by omega
       have l := Lib.bitLen_le8' (x / 4294967296 / 65536 / 256) (by omega) (by omega)
       have s := Lib.bitLen_shift56 x.toNat (by omega) (by omega)
       rw [e] at l ⊢
       exact wrap_add 56 _ _ (by decide) l s)
    | (rw [len8_get (x / 4294967296 / 65536) _, Lib.len8_of (x / 4294967296 / 65536) (by omega) (by omega)]
       have e : (x / 4294967296 / 65536).toNat = x.toNat / 281474976710656 := by omega
       have l := Lib.bitLen_le8' (x / 4294967296 / 65536) (by omega) (by omega)
       have s := Lib.bitLen_shift48 x.toNat (by omega) (by omega)
       rw [e] at l ⊢
       exact wrap_add 48 _ _ (by decide) l s)
    | (rw [len8_get (x / 4294967296 / 256) _, Lib.len8_of (x / 4294967296 / 256) (by omega) (by omega)]
       have e : (x / 4294967296 / 256).toNat = x.toNat / 1099511627776 := by omega
       have l := Lib.bitLen_le8' (x / 4294967296 / 256) (by omega) (by omega)
       have s := Lib.bitLen_shift40 x.toNat (by omega) (by omega)
       rw [e] at l ⊢
       exact wrap_add 40 _ _ (by decide) l s)
    | (rw [len8_get (x / 4294967296) _, Lib.len8_of (x / 4294967296) (by omega) (by omega)]
       have e : (x / 4294967296).toNat = x.toNat / 4294967296 := by omega
       have l := Lib.bitLen_le8' (x / 4294967296) (by omega) (by omega)
       have s := Lib.bitLen_shift32 x.toNat (by omega) (by omega)
       rw [e] at l ⊢
       exact wrap_add 32 _ _ (by decide) l s)
    | (rw [len8_get (x / 65536 / 256) _, Lib.len8_of (x / 65536 / 256) (by omega) (by omega)]
       have e : (x / 65536 / 256).toNat = x.toNat / 16777216 := by omega
       have l := Lib.bitLen_le8' (x / 65536 / 256) (by omega) (by omega)
       have s := Lib.bitLen_shift24 x.toNat (by omega) (by omega)
       rw [e] at l ⊢
       exact wrap_add 24 _ _ (by decide) l s)
    | (rw [len8_get (x / 65536) _, Lib.len8_of (x / 65536) (by omega) (by omega)]
       have e : (x / 65536).toNat = x.toNat / 65536 := by omega
       have l := Lib.bitLen_le8' (x / 65536) (by omega) (by omega)
       have s := Lib.bitLen_shift16 x.toNat (by omega) (by omega)
       rw [e] at l ⊢
       exact wrap_add 16 _ _ (by decide) l s)
    | (rw [len8_get (x / 256) _, Lib.len8_of (x / 256) (by omega) (by omega)]
       have e : (x / 256).toNat = x.toNat / 256 := by omega
       have l := Lib.bitLen_le8' (x / 256) (by omega) (by omega)
       have s := Lib.bitLen_shift8 x.toNat (by omega) (by omega)
       rw [e] at l ⊢
       exact wrap_add 8 _ _ (by decide) l s)
    | (rw [len8_get (x) _, Lib.len8_of (x) (by omega) (by omega)]
       have e : (x).toNat = x.toNat := by omega
       have l := Lib.bitLen_le8' (x) (by omega) (by omega)
       rw [e] at l ⊢
       first | exact wrap_wrap _ l | exact wrap_add 0 _ _ (by decide) l (by omega) | exact wrap_one _ l)

theorem ret_int {k : IntKind} {a b : Int} (h : a = b) : Ending.returned (.int k a) = .returned (.int k b) := by rw [h]
theorem bitLen_le (x : Nat) : Lib.bitLen x ≤ 64 := by
  have : ∀ f x, Lib.bitLenAux f x ≤ f := by
    intro f
    induction f with
    | zero => intro x; simp [Lib.bitLenAux]
    | succ f ih =>
      intro x
      rw [Lib.bitLenAux]
      split
      · omega
      · have := ih (x / 2); omega
  exact this 64 x
set_option maxHeartbeats 400000 in
theorem size_any (n : Nat) (w : World) (hn : n < 18446744073709551616) :
    Calls Try.prog 52 #[.int .u64 (n : Int)] w fun e w' => e = .returned (.int .i64 ((sz n : Nat) : Int)) ∧ w = w' := by
  have hs := sz_bits n n (Nat.le_refl _) hn
  have hb := bitLen_le n
  generalize hL : Lib.bitLen n = L at hs hb
  have HL := Lib.hid hL
  have HS := Lib.hid hs
  clear hL hs
  go_enter Try.func52, Try.ntmps52
  go_wp2_with (go_at_call 58; refine (len64_any _ _ (by omega) (by omega)).mono ?_; rintro e w' ⟨rfl, rfl⟩; rw [Int.toNat_natCast, HL.out])
  go_ret
  exact ⟨ret_int (by rw [HS.out]; omega), rfl⟩

/-! ### a number put behind a row of the call's own -/
theorem Try.info31 : (Try.prog.info? 23).map (fun i => (i.zero, i.size, i.bytes)) = some (some (.int .u64 0), 1, 8) := by kernel_rfl

theorem reads_word (w : World) (t : TypeId) (x : Int) (n : Nat) (h : x = (n : Int)) : Reads (w.alloc (.cells #[.int .u64 x] t)) (w.heap.size + 1) 1 (some ⟨w.heap.size, 0, none⟩) 1 (us [n]) := by
  subst h
  exact reads_new w t (us [n])

/-! ### one more at the end of a row of the call's own -/
section
variable {ops : Array Oper} {rest : List Oper} {o : Oper} {a : Act} {Q : Exit → Act → World → Prop} {w : World} {base : Nat} {v : Value}
theorem push_word (s x : Operand) {l : List Nat} (xi : Int) (c : Nat) (hown : w.ownsRow base 23 1 v l.length (us l)) (hbase : base ≤ w.heap.size) (hl : l.length ≤ 2199023255552) (hc : xi = (c : Int))
    (hgd : o.guard = none) (ho : o.op = .call { callee := .builtin .append, args := #[s, x], argTypes := #[94, 94] })
    (hs : a.eval s = v) (hx : a.eval x = .slice (some ⟨w.heap.size, 0, none⟩) 1 1)
    (h : ∀ v' w', w'.ownsRow base 23 1 v' (l ++ [c]).length (us (l ++ [c])) → Below base w w' → base ≤ w'.heap.size → wpList Try.prog ops Q rest (a.put o.dst v') w') :
    wpList Try.prog ops Q (o :: rest) a (w.alloc (.cells #[.int .u64 xi] 23)) := by
  obtain ⟨i0, hi0, hz0, hz1, hz2⟩ := info_parts Try.info31
  refine wpList_append_any _ hgd s x _ ho base 23 i0 _ 1 8 Try.underlying94 hi0 hz0 hz1 hz2 rfl (by omega) v _ _ hs (hown.alloc _) (w.heap.size + 1) _ 1 1 (us [c]) hx (reads_word _ _ _ _ hc) (us_one _) (by simp only [maxLen]; omega) (by omega) (by simp; omega) ?_
  intro v1 w1 h1 h2 _
  have hb := ((Below.refl base w).alloc hbase _).trans (grown_below (hown.alloc (.cells #[.int .u64 xi] 23)) h2 (by simp; omega))
  refine h v1 w1 ?_ hb (Nat.le_trans hbase hb.size)
  rw [us_append]
  simpa using h1
end
end Go.Proofs.Ytogoaihimepboaa

namespace Go.Proofs.Ytogoaihimepboaa
open Go.RowKit

theorem or128 (m : Nat) : bits .or .u8 ((m : Int) % 256) 128 = (((UInt8.ofNat (m % 128 + 128)).toNat : Nat) : Int) := by
  rw [ofNat_toNat (by omega)]
  have h : ((m : Int) % 256) = ((m % 256 : Nat) : Int) := by omega
  rw [h]
  have := u8_or_nat (m % 256) 128 (by omega) (by omega)
  rw [show ((128 : Nat) : Int) = 128 from rfl] at this
  rw [this]
  congr 1
  have h2 : ∀ a : Fin 256, a.val ||| 128 = a.val % 128 + 128 := by decide +kernel
  have := h2 ⟨m % 256, by omega⟩
  simp only at this
  rw [this]
  omega
theorem enc_next {pre : List UInt8} {m n : Nat} (h : pre ++ enc m = enc n) (hm : 128 ≤ m) : (pre ++ [UInt8.ofNat (m % 128 + 128)]) ++ enc (m / 128) = enc n := by
  rw [enc_big hm] at h
  simpa using h
theorem enc_last {pre : List UInt8} {m n : Nat} (h : pre ++ enc m = enc n) (hm : m < 128) : pre ++ [UInt8.ofNat m] = enc n := by
  rw [enc_small hm] at h
  exact h
theorem pre_le {pre : List UInt8} {m n : Nat} (h : pre ++ enc m = enc n) (hn : n < 18446744073709551616) : pre.length ≤ 9 := by
  have h1 := sz_10 hn
  have h2 := sz_pos m
  unfold sz at h1 h2
  rw [← h, List.length_append] at h1
  omega

set_option maxHeartbeats 1000000 in
set_option maxRecDepth 100000 in
theorem appendNumber_any (base : Nat) (v : Value) (l : List UInt8) (n : Nat) (w : World) (hn : n < 18446744073709551616) (hl : l.length ≤ 140737488351232) (hbase : base ≤ w.heap.size)
    (hown : w.ownsRow base 5 1 v l.length (bs l)) :
    Calls Try.prog 61 #[v, .int .u64 (n : Int)] w fun e w' => ∃ v', e = .returned v' ∧ w'.ownsRow base 5 1 v' (l ++ enc n).length (bs (l ++ enc n)) ∧ Below base w w' := by
  have Hn := Lib.hid hn
  have Hl := Lib.hid hl
  clear hn hl
  go_enter Try.func61, Try.ntmps61
  go_wp2
  go_loopw [0, 1] (fun v x wr => ∃ (m : Nat) (pre : List UInt8), x = .int .u64 (m : Int) ∧ (m : Int) ≤ 18446744073709551615 ∧ Hid (pre ++ enc m = enc n) ∧ wr.ownsRow base 5 1 v (l ++ pre).length (bs (l ++ pre)) ∧ Below base w wr ∧ base ≤ wr.heap.size)
    (fun _ x _ => (intOf x).toNat)
  case atStart => exact ⟨n, [], rfl, by have := Hn.out; omega, by exact rfl, by simpa using hown, .refl _ _, hbase⟩
  case round =>
    obtain ⟨m, pre, rfl, hm, hpre, hownr, hb, hbr⟩ := hrel
    have hpl : (l ++ pre).length ≤ 140737488355327 := by
      have := pre_le hpre.out Hn.out
      have := Hl.out
      simp only [List.length_append]
      omega
    have Hpl := Lib.hid hpl
    clear hpl
    by_cases hbig : 128 ≤ m
    · go_wp2_with
        (at_builtin
         refine push_byte (.tmp 7) (.tmp 11) _ (UInt8.ofNat (m % 128 + 128)) hownr hbr Hpl.out (or128 m) rfl rfl rfl rfl ?_
         intro v1 w1 hown1 hb1 hbs1
         clear hownr)
      go_roundw
      case rel => exact ⟨m / 128, pre ++ [UInt8.ofNat (m % 128 + 128)], by go_num, by omega, enc_next hpre.out hbig, by rw [← List.append_assoc]; exact hown1, hb.trans hb1, hbs1⟩
      case measure => simp [intOf]; omega
    · have hsm : m < 128 := by omega
      go_wp2_with
        (at_builtin
         refine push_byte (.tmp 15) (.tmp 18) _ (UInt8.ofNat m) hownr hbr Hpl.out (by rw [ofNat_toNat (by omega)]) rfl rfl rfl rfl ?_
         intro v1 w1 hown1 hb1 hbs1
         clear hownr)
      go_ret
      refine ⟨v1, rfl, ?_, hb.trans hb1⟩
      rw [List.append_assoc, enc_last hpre.out hsm] at hown1
      exact hown1
end Go.Proofs.Ytogoaihimepboaa

namespace Go.Proofs.Ytogoaihimepboaa
open Go.RowKit

/-- Numbers, written one behind the other. -/
def encs (l : List Nat) : List UInt8 := l.flatMap enc
theorem encs_snoc {l : List Nat} {k x : Nat} (h : Hid (l[k]? = some x)) : encs (l.take (k + 1)) = encs (l.take k) ++ enc x := by
  rw [take_snoc h]; simp [encs]
theorem encs_le : ∀ (l : List Nat), (∀ n ∈ l, n < 18446744073709551616) → (encs l).length ≤ 10 * l.length
  | [], _ => by simp [encs]
  | n :: l, h => by
    have h1 := sz_10 (h n (by simp))
    have h2 := encs_le l (fun m hm => h m (by simp [hm]))
    unfold sz at h1
    simp only [encs, List.flatMap_cons, List.length_append, List.length_cons] at h1 h2 ⊢
    omega
theorem encs_take_le {l : List Nat} (h : ∀ n ∈ l, n < 18446744073709551616) (k : Nat) : (encs (l.take k)).length ≤ 10 * l.length := by
  have h1 := encs_le (l.take k) (fun n hn => h n (List.mem_of_mem_take hn))
  have h2 := List.length_take_le k l
  have h3 : (l.take k).length ≤ l.length := by simp; omega
  omega

theorem run_make_rowN {P : Program} (t e : TypeId) (i : TypeInfo) (z : Value) (ht : P.underlying t = some (.slice e)) (hi : P.info? e = some i) (hz : i.zero = some z)
    (kl kc : IntKind) (n c : Nat) (hnc : n ≤ c) (hbytes : i.bytes * c ≤ 281474976710656) (h63 : c ≤ 9223372036854775807) (w : World) :
    (Instr.makeSlice t (.int kl (n : Int)) (.int kc (c : Int))).run P w = .ok (.slice (some ⟨w.heap.size, 0, none⟩) n c) (w.alloc (.cells (madeCells z.cells (c * i.size)) e)) := by
  have hb : (i.bytes : Int) * (c : Int) ≤ 281474976710656 := by
    have h : ((i.bytes * c : Nat) : Int) ≤ 281474976710656 := by omega
    rwa [Int.natCast_mul] at h
  have hr := run_make (P := P) w t e i z ht hi hz kl kc n c (by omega) (by omega) hb (by omega)
  simp only [Int.toNat_natCast] at hr
  exact hr
/-- make([]byte, 0, c) -/
theorem run_make_row (c : Nat) (h : c ≤ 281474976710656) (w : World) :
    (Instr.makeSlice 22 (.int .i64 0) (.int .i64 (c : Int))).run Try.prog w = .ok (.slice (some ⟨w.heap.size, 0, none⟩) 0 c) (w.alloc (.cells (madeCells #[.int .u8 0] c) 5)) := by
  obtain ⟨i0, hi0, hz0, hz1, hz2⟩ := info_parts Try.info5
  have := run_make_rowN (P := Try.prog) 22 5 i0 _ Try.underlying22 hi0 hz0 .i64 .i64 0 c (by omega) (by rw [hz2]; omega) (by omega) w
  rw [hz1, Nat.mul_one] at this
  exact this
theorem made_size (z : Value) (n : Nat) : (madeCells #[z] n).size = n := by simp [madeCells]

set_option maxHeartbeats 1000000 in
set_option maxRecDepth 100000 in
theorem all_any (A : Option Addr) (c : Nat) (l : List Nat) (w : World) (hl : l.length ≤ 68719476736) (hr : RdU w w.heap.size A l) (hn : ∀ n ∈ l, n < 18446744073709551616) :
    Calls Try.prog 59 #[.slice A l.length c] w fun e w' => ∃ v, e = .returned v ∧ w'.ownsRow w.heap.size 5 1 v (encs l).length (bs (encs l)) ∧ Below w.heap.size w w' := by
  have hlen : (l.length : Int) ≤ 68719476736 := by omega
  have Hn := Lib.hid hn
  clear hn hl
  go_enter Try.func59, Try.ntmps59
  go_wp2
  go_loop [3, 11] (fun s i => ∃ (k T : Nat), k ≤ l.length ∧ i = .int .i64 (k : Int) ∧ s = .int .i64 (T : Int) ∧ T ≤ 10 * k) (fun _ i => l.length - (intOf i).toNat)
  case atStart => exact ⟨0, 0, by omega, rfl, rfl, by omega⟩
  case round =>
    obtain ⟨k, T, hk, rfl, rfl, hT⟩ := hrel
    by_cases hlt : k < l.length
    · obtain ⟨ad, x, rfl, _, hc, hx⟩ := RdU.at_ hr hlt
      have hx64 := Hn.out x (mem_of_get hx)
      have hx10 := sz_10 hx64
      have Hx64 := Lib.hid hx64
      clear hx64
      go_wp2_with (go_at_call 52; refine (size_any _ _ Hx64.out).mono ?_; rintro e w' ⟨rfl, rfl⟩)
      go_round
      case rel => exact ⟨k + 1, T + sz x, by omega, by go_num, by go_num, by omega⟩
      case measure => simp [intOf]; omega
    · obtain rfl : k = l.length := by omega
      have hmk := run_make_row T (by omega)
      have hown0 := World.ownsRow_made w (e := 5) (size := 1) (base := w.heap.size) (madeCells #[Value.int .u8 0] T) T (Nat.le_refl _) (by simp only [maxLen]; omega) (by rw [made_size]; omega)
      have hb0 := (Below.refl w.heap.size w).alloc (Nat.le_refl _) (.cells (madeCells #[Value.int .u8 0] T) 5)
      go_wp2
      clear hmk
      go_loopw [6, 24] (fun v i wr => ∃ k : Nat, k ≤ l.length ∧ i = .int .i64 (k : Int) ∧ wr.ownsRow w.heap.size 5 1 v (encs (l.take k)).length (bs (encs (l.take k))) ∧ Below w.heap.size w wr) (fun _ i _ => l.length - (intOf i).toNat)
      case atStart => exact ⟨0, by omega, rfl, hown0, hb0⟩
      case round =>
        obtain ⟨k, hk, rfl, hown, hb⟩ := hrel
        clear hown0 hb0
        by_cases hlt : k < l.length
        · obtain ⟨ad, x, rfl, _, hc, hx⟩ := RdU.at_ (hr.below hb) hlt
          have Hb := Lib.hid (encs_take_le Hn.out k)
          go_wp2_with (go_at_call 61; refine (appendNumber_any w.heap.size _ _ _ _ (Hn.out x (mem_of_get hx)) (by have := Hb.out; omega) hb.size hown).mono ?_; rintro e w1 ⟨v1, rfl, hown1, hb1⟩)
          go_roundw
          case rel => exact ⟨k + 1, by omega, by go_num, by rw [encs_snoc hx]; exact hown1, hb.trans hb1⟩
          case measure => simp [intOf]; omega
        · obtain rfl : k = l.length := by omega
          rw [List.take_length] at hown
          go_wp2
          go_ret
          exact ⟨_, rfl, hown, hb⟩

theorem encs_one (n : Nat) : encs [n] = enc n := by simp [encs]
theorem put_any (n : Nat) (w : World) (hn : n < 18446744073709551616) :
    Calls Try.prog 53 #[.int .u64 (n : Int)] w fun e w' => ∃ v, e = .returned v ∧ w'.ownsRow w.heap.size 5 1 v (enc n).length (bs (enc n)) ∧ Below w.heap.size w w' := by
  have hb0 := (Below.refl w.heap.size w).alloc (Nat.le_refl _) (.cells #[.int .u64 (n : Int)] 23)
  have Hn := Lib.hid hn
  clear hn
  go_enter Try.func53, Try.ntmps53
  go_wp2_with (go_at_call 59; refine (all_any _ 1 [n] _ (by simp) ((reads_word w 23 _ n rfl).more (by simp)) (by intro m hm; rw [List.mem_singleton] at hm; subst hm; exact Hn.out)).mono ?_; rintro e w1 ⟨v1, rfl, hown1, hb1⟩)
  go_ret
  rw [encs_one] at hown1
  exact ⟨_, rfl, own_mono hown1 (by simp), hb0.trans (hb1.mono (by simp))⟩

section
variable {ops : Array Oper} {rest : List Oper} {o : Oper} {a : Act} {Q : Exit → Act → World → Prop} {w : World} {base : Nat} {v : Value}
/-- A text behind a row of the call's own. -/
theorem push_str (s x : Operand) {l : List UInt8} {t : ByteArray} (hown : w.ownsRow base 5 1 v l.length (bs l)) (hbase : base ≤ w.heap.size) (hl : l.length + t.size ≤ 140737488355327)
    (hgd : o.guard = none) (ho : o.op = .call { callee := .builtin .append, args := #[s, x], argTypes := #[22, 9] })
    (hs : a.eval s = v) (hx : a.eval x = .string t)
    (h : ∀ v' w', w'.ownsRow base 5 1 v' (l ++ t.data.toList).length (bs (l ++ t.data.toList)) → Below base w w' → base ≤ w'.heap.size → w.grownBy w' v.ownBlock → wpList Try.prog ops Q rest (a.put o.dst v') w') :
    wpList Try.prog ops Q (o :: rest) a w := by
  obtain ⟨i0, hi0, hz0, hz1, hz2⟩ := info_parts Try.info5
  refine Lib.wpList_append_own_string _ hgd s x _ _ ho base 5 i0 Try.underlying22 Try.underlying9 hi0 hz0 hz1 hz2 v _ _ hs hown t hx (by simp only [maxLen]; omega) (by omega) hbase ?_
  intro v1 w1 h1 h2 _
  have hb := grown_below hown h2 hbase
  refine h v1 w1 ?_ hb (Nat.le_trans hbase hb.size) h2
  have e : t.data.toList.length = t.size := by simp
  rw [bs_append, List.length_append, e]
  exact h1
end
/-- A text, written. -/
def encText (s : List UInt8) : List UInt8 := enc s.length ++ s
end Go.Proofs.Ytogoaihimepboaa

namespace Go.Proofs.Ytogoaihimepboaa
open Go.RowKit

theorem take_eq_of_len {α : Type} [DecidableEq α] {l m : List α} (h : l.length ≠ m.length) : decide (l = m) = false := by
  rw [decide_eq_false_iff_not]
  intro e
  exact h (by rw [e])
theorem ne_of_get {α : Type} [DecidableEq α] {l m : List α} {k : Nat} {x y : α} (hx : Hid (l[k]? = some x)) (hy : Hid (m[k]? = some y)) (h : x ≠ y) : decide (l = m) = false := by
  rw [decide_eq_false_iff_not]
  intro e
  subst e
  have := hx.out.symm.trans hy.out
  injection this with this
  exact h this
theorem eq_of_takes {α : Type} [DecidableEq α] {l m : List α} (hl : l.length = m.length) (h : Hid (l.take l.length = m.take l.length)) : decide (l = m) = true := by
  rw [decide_eq_true_iff]
  have := h.out
  rw [List.take_length, hl, List.take_length] at this
  exact this
theorem takes_snoc {α : Type} {l m : List α} {k : Nat} {x : α} (h : Hid (l.take k = m.take k)) (hx : Hid (l[k]? = some x)) (hy : Hid (m[k]? = some x)) : Hid (l.take (k + 1) = m.take (k + 1)) := by
  show l.take (k + 1) = m.take (k + 1)
  rw [take_snoc hx, take_snoc hy, h.out]


set_option maxHeartbeats 1000000 in
theorem sameBytes_any (A A' : Option Addr) (c c' B B' : Nat) (l m : List UInt8) (w : World) (hl : l.length ≤ 140737488351232) (hr : RdB w B A l) (hm : RdB w B' A' m) :
    Calls Try.prog 16 #[.slice A l.length c, .slice A' m.length c'] w fun e w' => e = .returned (.bool (decide (l = m))) ∧ ∃ n, w' = w.drewN n := by
  have hlen : (l.length : Int) ≤ 140737488351232 := by omega
  clear hl
  by_cases hlm : l.length = m.length
  · have hne : ((l.length : Int) != (m.length : Int)) = false := by rw [hlm]; simp
    have hne' : (l.length != m.length) = false := by rw [hlm]; simp
    have Hlm := Lib.hid hlm
    clear hlm
    go_enter Try.func16, Try.ntmps16
    go_wp2
    go_loopw [5] (fun i wr => ∃ k n : Nat, k ≤ l.length ∧ i = .int .i64 (k : Int) ∧ wr = w.drewN n ∧ Hid (l.take k = m.take k)) (fun i _ => l.length - (intOf i).toNat)
    case atStart => exact ⟨0, 0, by omega, rfl, rfl, by exact rfl⟩
    case round =>
      obtain ⟨k, n, hk, rfl, rfl, ht⟩ := hrel
      by_cases hlt : k < l.length
      · have hlt' : k < m.length := by have := Hlm.out; omega
        obtain ⟨ad, x, rfl, _, hc, hx⟩ := RdB.at_ hr hlt
        obtain ⟨ad', y, rfl, _, hc', hy⟩ := RdB.at_ hm hlt'
        by_cases hxy : x = y
        · subst hxy
          go_wp2
          go_quiet (fail)
          go_wp2
          go_roundw
          case rel => exact ⟨k + 1, _, by omega, by go_num, rfl, takes_snoc ht hx hy⟩
          case measure => simp [intOf]; omega
        · have hv : ((x.toNat : Int) != (y.toNat : Int)) = true := by
            rw [bne_iff_ne]
            intro e
            exact hxy (UInt8.toNat_inj.1 (by omega))
          have hv' : (x.toNat != y.toNat) = true := by
            rw [bne_iff_ne]
            intro e
            exact hxy (UInt8.toNat_inj.1 e)
          have Hxy := Lib.hid hxy
          clear hxy
          go_wp2
          go_quiet (fail)
          go_wp2
          go_ret
          exact ⟨ret_bool (ne_of_get hx hy Hxy.out).symm, _, World.drewN_drewN _ _ _⟩
      · obtain rfl : k = l.length := by omega
        go_wp2
        go_ret
        exact ⟨ret_bool (eq_of_takes Hlm.out ht).symm, _, rfl⟩
  · have hne : ((l.length : Int) != (m.length : Int)) = true := by rw [bne_iff_ne]; omega
    have hne' : (l.length != m.length) = true := by rw [bne_iff_ne]; omega
    have Hlm := Lib.hid hlm
    clear hlm
    go_enter Try.func16, Try.ntmps16
    go_wp2
    go_ret
    exact ⟨ret_bool (take_eq_of_len Hlm.out).symm, 0, rfl⟩

theorem own_get {w : World} {base size n k : Nat} {e : TypeId} {v : Value} {xs : List Value} (h : w.ownsRow base e size v n xs) (hk : k < xs.length) {g : Nat} (hg : v.ownBlock = some g) : ∃ u, w.cell? ⟨g, k, none⟩ = some u := by
  have := h.cells hg k _ (List.getElem?_eq_getElem hk)
  have hadd : (⟨g, 0, none⟩ : Addr).add k = ⟨g, k, none⟩ := by unfold Addr.add; split <;> simp_all
  rw [hadd] at this
  exact ⟨_, this⟩
theorem grownBy_trans {a b c : World} {row : Option Nat} (h : a.grownBy b row) (k : b.grownBy c row) : a.grownBy c row :=
  ⟨k.os.trans h.os, k.tape.trans h.tape, k.output.trans h.output, Nat.le_trans h.size k.size, fun i hi hne => (k.block i (Nat.lt_of_lt_of_le hi h.size) hne).trans (h.block i hi hne)⟩

set_option maxHeartbeats 1000000 in
/-- Spoil: a row of the call's own is written over: what it holds then is not told. -/
theorem spoil_any (base n : Nat) (v : Value) (xs : List Value) (w : World) (hn : n ≤ 140737488351232) (hown : w.ownsRow base 5 1 v n xs) :
    Calls Try.prog 20 #[v] w fun e w' => e = .returned (.tuple #[]) ∧ (∃ ys, w'.ownsRow base 5 1 v n ys) ∧ w.grownBy w' v.ownBlock := by
  have hlen : (n : Int) ≤ 140737488351232 := by omega
  clear hn
  rcases Nat.eq_zero_or_pos n with h0 | h0
  · subst h0
    obtain ⟨A, c, rfl, _, _, _⟩ := own_form hown
    go_enter Try.func20, Try.ntmps20
    go_wp2
    refine wp_loop_rounds 1 ?_
    rw [rounds_succ]
    go_wp2
    go_end0
    exact ⟨rfl, ⟨_, hown⟩, World.grownBy.refl _ _⟩
  · obtain ⟨g, cap, rfl, _, _⟩ := hown.form h0
    have hown' : Hid (w.ownsRow base 5 1 (.slice (some ⟨g, 0, none⟩) n cap) n xs) := hown
    clear hown
    go_enter Try.func20, Try.ntmps20
    go_wp2
    go_loopw [2] (fun i wr => ∃ k : Nat, k ≤ n ∧ i = .int .i64 (k : Int) ∧ (∃ ys, wr.ownsRow base 5 1 (.slice (some ⟨g, 0, none⟩) n cap) n ys) ∧ w.grownBy wr (some g)) (fun i _ => n - (intOf i).toNat)
    case atStart => exact ⟨0, by omega, rfl, ⟨_, hown'.out⟩, World.grownBy.refl _ _⟩
    case round =>
      obtain ⟨k, hk, rfl, ⟨ys, hys⟩, hg⟩ := hrel
      by_cases hlt : k < n
      · obtain ⟨u, hu⟩ := own_get hys (k := k) (by have := hys.1; omega) (g := g) rfl
        have hf := hys.frozenAt k
        obtain ⟨h1, h2⟩ := hys.stored k (.int .u8 165)
        have H1 := Lib.hid h1
        have H2 := Lib.hid h2
        clear h1 h2 hys
        go_wp2
        go_roundw
        case rel => exact ⟨k + 1, by omega, by go_num, ⟨_, H1.out⟩, grownBy_trans hg H2.out⟩
        case measure => simp [intOf]; omega
      · go_wp2
        go_end0
        exact ⟨rfl, ⟨_, hys⟩, hg⟩

set_option maxHeartbeats 400000 in
/-- Own: a row, in new memory. -/
theorem own_any (A : Option Addr) (c B : Nat) (l : List UInt8) (w : World) (hl : l.length ≤ 140737488351232) (hr : RdB w B A l) :
    Calls Try.prog 8 #[.slice A l.length c] w fun e w' => ∃ v, e = .returned v ∧ w'.ownsRow w.heap.size 5 1 v l.length (bs l) ∧ Below w.heap.size w w' := by
  have Hl := Lib.hid hl
  clear hl
  go_enter Try.func8, Try.ntmps8
  go_wp2_with (at_builtin; refine push_row (.tmp 4) (.tmp 5) (l := []) (World.ownsRow_nil w w.heap.size 5 1) (Nat.le_refl _) hr (by have := Hl.out; simp; omega) rfl rfl rfl rfl ?_; intro v1 w1 hown1 hb1 hbs1 hg1)
  go_ret
  exact ⟨_, rfl, hown1, hb1⟩
end Go.Proofs.Ytogoaihimepboaa
