/- Numbers as few bytes, as plain lists: how they are written, how they are read, and that the one undoes the other. No program in sight. Conditions: numbers below 2^64. -/
import Derived.Lib.BitFns
namespace Go.Proofs.Ytohgghaooppcoaa
theorem ofNat_toNat {n : Nat} (h : n < 256) : (UInt8.ofNat n).toNat = n := by simp [UInt8.toNat_ofNat']; omega

def encF : Nat → Nat → List UInt8
  | 0, n => [UInt8.ofNat n]
  | f + 1, n => if n < 128 then [UInt8.ofNat n] else UInt8.ofNat (n % 128 + 128) :: encF f (n / 128)
/-- A number, written. -/
def enc (n : Nat) : List UInt8 := encF n n
theorem encF_step : ∀ (f n : Nat), n ≤ f → encF (f + 1) n = encF f n
  | 0, n, h => by
    have : n = 0 := by omega
    subst this; rfl
  | f + 1, n, h => by
    rw [encF]
    conv => rhs; rw [encF]
    split
    · rfl
    · rw [encF_step f (n / 128) (by omega)]
theorem encF_fuel (n : Nat) : ∀ k, encF (n + k) n = encF n n
  | 0 => rfl
  | k + 1 => by rw [show n + (k + 1) = (n + k) + 1 from by omega, encF_step _ _ (by omega), encF_fuel n k]
theorem enc_small {n : Nat} (h : n < 128) : enc n = [UInt8.ofNat n] := by
  unfold enc
  cases n with
  | zero => rfl
  | succ n => rw [encF, if_pos h]
theorem enc_big {n : Nat} (h : 128 ≤ n) : enc n = UInt8.ofNat (n % 128 + 128) :: enc (n / 128) := by
  unfold enc
  obtain ⟨m, rfl⟩ : ∃ m, n = m + 1 := ⟨n - 1, by omega⟩
  rw [encF, if_neg (by omega)]
  have := encF_fuel ((m + 1) / 128) (m - (m + 1) / 128)
  rw [show (m + 1) / 128 + (m - (m + 1) / 128) = m from by omega] at this
  rw [this]
/-- How many bytes a number has. -/
abbrev sz (n : Nat) : Nat := (enc n).length
theorem sz_pos (n : Nat) : 0 < sz n := by
  unfold sz
  by_cases h : n < 128
  · rw [enc_small h]; simp
  · rw [enc_big (by omega)]; simp
theorem sz_small {n : Nat} (h : n < 128) : sz n = 1 := by simp [sz, enc_small h]
theorem sz_big {n : Nat} (h : 128 ≤ n) : sz n = sz (n / 128) + 1 := by simp [sz, enc_big h]
theorem sz_le : ∀ (k n : Nat), n < 128 ^ (k + 1) → sz n ≤ k + 1
  | 0, n, h => by rw [sz_small (by simpa using h)]; omega
  | k + 1, n, h => by
    by_cases hn : n < 128
    · rw [sz_small hn]; omega
    · rw [sz_big (by omega)]
      have := sz_le k (n / 128) (by rw [Nat.div_lt_iff_lt_mul (by omega)]; rw [Nat.pow_succ] at h; exact h)
      omega
theorem sz_10 {n : Nat} (h : n < 18446744073709551616) : sz n ≤ 10 := sz_le 9 n (by omega)

theorem bitLenAux_half : ∀ (f x : Nat), 0 < x → Lib.bitLenAux (f + 1) x = 1 + Lib.bitLenAux f (x / 2) := by
  intro f x h
  rw [Lib.bitLenAux, if_neg (by omega)]
theorem bitLenAux_stable : ∀ (f x : Nat), x < 2 ^ f → Lib.bitLenAux (f + 1) x = Lib.bitLenAux f x
  | 0, x, h => by
    have : x = 0 := by simpa using h
    subst this; rfl
  | f + 1, x, h => by
    rw [Lib.bitLenAux]
    conv => rhs; rw [Lib.bitLenAux]
    split
    · rfl
    · rw [bitLenAux_stable f (x / 2) (by rw [Nat.div_lt_iff_lt_mul (by omega)]; rw [Nat.pow_succ] at h; exact h)]
theorem bitLen_half {x : Nat} (h0 : 0 < x) (h : x < 18446744073709551616) : Lib.bitLen x = 1 + Lib.bitLen (x / 2) := by
  unfold Lib.bitLen
  rw [bitLenAux_half 63 x h0, bitLenAux_stable 63 (x / 2) (by omega)]
theorem bitLen_128 {x : Nat} (h0 : 128 ≤ x) (h : x < 18446744073709551616) : Lib.bitLen x = 7 + Lib.bitLen (x / 128) := by
  rw [bitLen_half (by omega) h, bitLen_half (by omega) (by omega), bitLen_half (by omega) (by omega), bitLen_half (by omega) (by omega), bitLen_half (by omega) (by omega), bitLen_half (by omega) (by omega), bitLen_half (by omega) (by omega)]
  rw [show x / 2 / 2 / 2 / 2 / 2 / 2 / 2 = x / 128 from by omega]
  omega
theorem bitLen_pos {x : Nat} (h0 : 0 < x) (h : x < 18446744073709551616) : 0 < Lib.bitLen x := by rw [bitLen_half h0 h]; omega
theorem bitLen_7 : ∀ n : Fin 128, Lib.bitLen n.val ≤ 7 := by decide +kernel
/-- How many bytes a number has, by its binary digits. -/
theorem sz_bits : ∀ (k n : Nat), n ≤ k → n < 18446744073709551616 → sz n = (max (Lib.bitLen n) 1 + 6) / 7
  | k, n, hk, h => by
    by_cases hn : n < 128
    · have := bitLen_7 ⟨n, hn⟩
      rw [sz_small hn]
      simp only at this
      omega
    · match k, hk with
      | 0, hk => omega
      | k + 1, hk =>
        rw [sz_big (by omega), bitLen_128 (by omega) h, sz_bits k (n / 128) (by omega) (by omega)]
        have := bitLen_pos (x := n / 128) (by omega) (by omega)
        omega
theorem bitLen_mono_aux : ∀ (f x y : Nat), x ≤ y → Lib.bitLenAux f x ≤ Lib.bitLenAux f y
  | 0, _, _, _ => Nat.le_refl _
  | f + 1, x, y, h => by
    rw [Lib.bitLenAux, Lib.bitLenAux]
    split
    · omega
    · rw [if_neg (by omega)]
      have := bitLen_mono_aux f (x / 2) (y / 2) (by omega)
      omega
theorem sz_mono {x y : Nat} (h : x ≤ y) (hy : y < 18446744073709551616) : sz x ≤ sz y := by
  rw [sz_bits x x (Nat.le_refl _) (by omega), sz_bits y y (Nat.le_refl _) hy]
  have := bitLen_mono_aux 64 x y h
  unfold Lib.bitLen
  omega

/-! ### reading -/
/-- The number that is written, the bytes that it takes, the error: from group i on, with what the groups ahead say. -/
def tk : Nat → Nat → List UInt8 → Nat × Nat × Nat
  | _, _, [] => (0, 0, 10)
  | i, acc, c :: r => if (0 < i ∧ c.toNat = 0) ∨ (i = 9 ∧ 1 < c.toNat) then (0, 0, 11) else if c.toNat < 128 then (acc + c.toNat * 2 ^ (7 * i), i + 1, 0) else tk (i + 1) (acc + (c.toNat - 128) * 2 ^ (7 * i)) r
theorem pow7 (i : Nat) : 2 ^ (7 * (i + 1)) = 128 * 2 ^ (7 * i) := by
  rw [show 7 * (i + 1) = 7 * i + 7 from by omega, Nat.pow_add]
  omega
theorem pow7_top {i : Nat} (h : i ≤ 9) : 2 ^ (7 * i) * 2 ^ (64 - 7 * i) = 18446744073709551616 := by
  rw [← Nat.pow_add, show 7 * i + (64 - 7 * i) = 64 from by omega]
theorem pow_div128 {i : Nat} (h : i + 1 ≤ 9) : 2 ^ (64 - 7 * i) = 128 * 2 ^ (64 - 7 * (i + 1)) := by
  rw [show 64 - 7 * i = 7 + (64 - 7 * (i + 1)) from by omega, Nat.pow_add]
/-- What is put is taken. -/
theorem tk_enc : ∀ (k m i acc : Nat) (rest : List UInt8), m ≤ k → (0 < i → 0 < m) → i ≤ 9 → m < 2 ^ (64 - 7 * i) → tk i acc (enc m ++ rest) = (acc + m * 2 ^ (7 * i), i + sz m, 0)
  | k, m, i, acc, rest, hk, h0, hi, hm => by
    by_cases hs : m < 128
    · rw [enc_small hs, sz_small hs]
      simp only [List.cons_append, List.nil_append, tk]
      rw [ofNat_toNat (by omega), if_neg (by
        intro h
        rcases h with h | ⟨h, h'⟩
        · have := h0 h.1; omega
        · subst h; have : m < 2 := by simpa using hm
          omega), if_pos hs]
    · have hi' : i + 1 ≤ 9 := by
        rcases Nat.lt_or_ge i 9 with h | h
        · omega
        · have : i = 9 := by omega
          subst this
          have : m < 2 := by simpa using hm
          omega
      match k, hk with
      | 0, hk => omega
      | k + 1, hk =>
        rw [enc_big (by omega), sz_big (by omega)]
        simp only [List.cons_append, tk]
        rw [ofNat_toNat (by omega), if_neg (by omega), if_neg (by omega)]
        rw [tk_enc k (m / 128) (i + 1) _ rest (by omega) (by intro _; omega) hi' (by rw [Nat.div_lt_iff_lt_mul (by omega), Nat.mul_comm, ← pow_div128 hi']; exact hm)]
        rw [pow7]
        have e : m / 128 * (128 * 2 ^ (7 * i)) = (m / 128 * 128) * 2 ^ (7 * i) := by rw [Nat.mul_assoc]
        rw [e, Nat.add_assoc, ← Nat.add_mul, show (m % 128 + 128 - 128 + m / 128 * 128) = m from by omega]
        congr 2
        omega
/-- What is taken, put again, is what was taken. -/
theorem tk_back : ∀ (l : List UInt8) (i acc n k : Nat), i ≤ 9 → tk i acc l = (n, k, 0) → ∃ m, n = acc + m * 2 ^ (7 * i) ∧ enc m = l.take (k - i) ∧ i < k ∧ k ≤ i + l.length ∧ m < 2 ^ (64 - 7 * i) ∧ (0 < i → 0 < m)
  | [], i, acc, n, k, hi, h => by simp [tk] at h
  | c :: r, i, acc, n, k, hi, h => by
    have hc := c.toNat_lt
    rw [tk] at h
    split at h
    · simp at h
    · rename_i h1
      split at h
      · rename_i h2
        simp only [Prod.mk.injEq, and_true] at h
        obtain ⟨rfl, rfl⟩ := h
        refine ⟨c.toNat, rfl, ?_, by omega, by simp, ?_, ?_⟩
        · rw [show i + 1 - i = 1 from by omega, enc_small h2]; simp
        · rcases Nat.lt_or_ge i 9 with h9 | h9
          · have : 2 ^ 8 ≤ 2 ^ (64 - 7 * i) := Nat.pow_le_pow_right (by omega) (by omega)
            omega
          · have : i = 9 := by omega
            subst this
            show c.toNat < 2
            omega
        · intro h3; omega
      · rename_i h2
        have hi' : i + 1 ≤ 9 := by omega
        obtain ⟨m, rfl, he, hlt, hle, hm, h0⟩ := tk_back r (i + 1) _ n k hi' h
        have hm0 := h0 (by omega)
        refine ⟨c.toNat - 128 + m * 128, ?_, ?_, by omega, by simp; omega, ?_, by intro _; omega⟩
        · rw [pow7, Nat.add_mul, Nat.mul_assoc, Nat.add_assoc]
        · rw [enc_big (by omega), show (c.toNat - 128 + m * 128) / 128 = m from by omega, show (c.toNat - 128 + m * 128) % 128 + 128 = c.toNat from by omega, he]
          obtain ⟨j, rfl⟩ : ∃ j, k = i + 1 + j := ⟨k - (i + 1), by omega⟩
          rw [show i + 1 + j - i = j + 1 from by omega, show i + 1 + j - (i + 1) = j from by omega]
          simp
        · rw [pow_div128 hi']
          omega

/-! ### the calls' answers -/
/-- Take's answer: the number, the place behind it, the error. -/
def take (l : List UInt8) (p : Int) : Nat × Int × Nat :=
  if 0 ≤ p ∧ p < l.length then (if (tk 0 0 (l.drop p.toNat)).2.2 = 0 then ((tk 0 0 (l.drop p.toNat)).1, p + ((tk 0 0 (l.drop p.toNat)).2.1 : Nat), 0) else (0, p, (tk 0 0 (l.drop p.toNat)).2.2)) else (0, p, 10)
/-- TakeText's. -/
def takeText (l : List UInt8) (p : Int) : List UInt8 × Int × Nat :=
  if (take l p).2.2 ≠ 0 then ([], p, (take l p).2.2)
  else if (l.length : Int) - (take l p).2.1 < (take l p).1 then ([], p, 10)
  else ((l.drop (take l p).2.1.toNat).take (take l p).1, (take l p).2.1 + (take l p).1, 0)
/-- TakeAll's, from some place on, with the numbers that were taken ahead. -/
def takeMany (l : List UInt8) (p0 : Int) : Nat → Int → List Nat → List Nat × Int × Nat
  | 0, p, acc => (acc, p, 0)
  | k + 1, p, acc => if (take l p).2.2 ≠ 0 then ([], p0, (take l p).2.2) else takeMany l p0 k (take l p).2.1 (acc ++ [(take l p).1])
def takeAll (l : List UInt8) (p many : Int) : List Nat × Int × Nat := takeMany l p many.toNat p []

theorem tk_err : ∀ (l : List UInt8) (i acc : Nat), (tk i acc l).2.2 = 0 ∨ (tk i acc l).2.2 = 10 ∨ (tk i acc l).2.2 = 11
  | [], i, acc => by simp [tk]
  | c :: r, i, acc => by
    rw [tk]
    split
    · simp
    · split
      · simp
      · exact tk_err r _ _
theorem take_err (l : List UInt8) (p : Int) : (take l p).2.2 = 0 ∨ (take l p).2.2 = 10 ∨ (take l p).2.2 = 11 := by
  unfold take
  split
  · split
    · simp
    · exact tk_err _ _ _
  · simp
/-- What a number that is taken is. -/
theorem take_ok {l : List UInt8} {p : Int} (h : (take l p).2.2 = 0) :
    0 ≤ p ∧ (take l p).1 < 18446744073709551616 ∧ ∃ k : Nat, 0 < k ∧ (take l p).2.1 = p + k ∧ p + k ≤ l.length ∧ enc (take l p).1 = (l.drop p.toNat).take k := by
  unfold take at h ⊢
  split at h
  · rename_i hp
    rw [if_pos hp]
    split at h
    · rename_i h0
      rw [if_pos h0]
      obtain ⟨m, e1, e2, e3, e4, e5, e6⟩ := tk_back (l.drop p.toNat) 0 0 _ _ (by omega) (show tk 0 0 (l.drop p.toNat) = ((tk 0 0 (l.drop p.toNat)).1, (tk 0 0 (l.drop p.toNat)).2.1, 0) from Prod.ext rfl (Prod.ext rfl h0))
      simp only [Nat.zero_add, Nat.mul_zero, Nat.pow_zero, Nat.mul_one] at e1
      rw [List.length_drop] at e4
      refine ⟨hp.1, ?_, _, e3, rfl, by omega, ?_⟩
      · show (tk 0 0 (l.drop p.toNat)).1 < 18446744073709551616
        rw [e1]; simpa using e5
      · show enc (tk 0 0 (l.drop p.toNat)).1 = _
        rw [e1, e2]; rfl
    · rename_i h0; exact absurd h h0
  · simp at h
theorem take_lt (l : List UInt8) (p : Int) : (take l p).1 < 18446744073709551616 := by
  by_cases h : (take l p).2.2 = 0
  · exact (take_ok h).2.1
  · unfold take at h ⊢
    split
    · rename_i hp
      rw [if_pos hp] at h
      split
      · rename_i h0; rw [if_pos h0] at h; simp at h
      · simp
    · simp
theorem take_no {l : List UInt8} {p : Int} (h : (take l p).2.2 ≠ 0) : (take l p).1 = 0 ∧ (take l p).2.1 = p := by
  unfold take at h ⊢
  split
  · rename_i hp
    rw [if_pos hp] at h
    split
    · rename_i h0; rw [if_pos h0] at h; simp at h
    · simp
  · simp
/-- What is put is taken as it was. -/
theorem take_enc {l : List UInt8} {p : Nat} {n : Nat} {rest : List UInt8} (hn : n < 18446744073709551616) (hl : l.drop p = enc n ++ rest) : take l p = (n, (p : Int) + (sz n : Nat), 0) := by
  have hs := sz_pos n
  have hp : p < l.length := by
    rcases Nat.lt_or_ge p l.length with h | h
    · exact h
    · rw [List.drop_eq_nil_of_le h] at hl
      have : (enc n ++ rest).length = 0 := by rw [← hl]; rfl
      rw [List.length_append] at this
      unfold sz at hs
      omega
  have e := tk_enc n n 0 0 rest (Nat.le_refl _) (by omega) (by omega) (by simpa using hn)
  unfold take
  rw [if_pos ⟨by omega, by omega⟩, Int.toNat_natCast, hl, e]
  simp
theorem takeMany_enc (l : List UInt8) (p0 : Int) : ∀ (ns : List Nat) (p : Nat) (acc : List Nat) (rest : List UInt8), (∀ n ∈ ns, n < 18446744073709551616) → l.drop p = ns.flatMap enc ++ rest →
    takeMany l p0 ns.length p acc = (acc ++ ns, (p : Int) + ((ns.flatMap enc).length : Nat), 0)
  | [], p, acc, rest, _, _ => by simp [takeMany]
  | n :: ns, p, acc, rest, hn, hl => by
    have hn0 := hn n (by simp)
    have e := take_enc (l := l) (p := p) (n := n) (rest := ns.flatMap enc ++ rest) hn0 (by rw [hl]; simp)
    rw [List.length_cons, takeMany, e]
    simp only [ne_eq, not_true_eq_false, if_false]
    have h2 : l.drop (p + sz n) = ns.flatMap enc ++ rest := by
      rw [← List.drop_drop, hl]
      simp only [List.flatMap_cons, List.append_assoc]
      exact List.drop_left
    have := takeMany_enc l p0 ns (p + sz n) (acc ++ [n]) rest (fun m hm => hn m (by simp [hm])) h2
    rw [show ((p : Int) + (sz n : Nat)) = ((p + sz n : Nat) : Int) from by omega, this]
    simp only [List.append_assoc, List.cons_append, List.nil_append, List.flatMap_cons, List.length_append, Prod.mk.injEq, true_and, and_true]
    unfold sz
    omega
theorem takeAll_enc {l : List UInt8} {p : Nat} {ns : List Nat} {rest : List UInt8} (hn : ∀ n ∈ ns, n < 18446744073709551616) (hl : l.drop p = ns.flatMap enc ++ rest) :
    takeAll l p ns.length = (ns, (p : Int) + ((ns.flatMap enc).length : Nat), 0) := by
  unfold takeAll
  rw [Int.toNat_natCast, takeMany_enc l p ns p [] rest hn hl]
  rfl
theorem takeText_enc {l : List UInt8} {p : Nat} {s rest : List UInt8} (hs : s.length < 18446744073709551616) (hl : l.drop p = enc s.length ++ (s ++ rest)) :
    takeText l p = (s, (p : Int) + (sz s.length : Nat) + (s.length : Nat), 0) := by
  have e := take_enc hs hl
  have hlen : l.length = p + (sz s.length + (s.length + rest.length)) := by
    have h1 : (l.drop p).length = sz s.length + (s.length + rest.length) := by rw [hl]; simp
    have hz := sz_pos s.length
    rw [List.length_drop] at h1
    omega
  unfold takeText
  rw [e]
  simp only [ne_eq, not_true_eq_false, if_false]
  rw [if_neg (by omega), show ((p : Int) + (sz s.length : Nat)).toNat = p + sz s.length from by omega, ← List.drop_drop, hl]
  simp
end Go.Proofs.Ytohgghaooppcoaa
