/- CRC-32C as plain mathematics over 32 binary digits: one step, eight steps, a byte, a row; the xor laws; what two rows of unlike bytes come to. No program in it. Conditions: none. -/
import Derived.Lib.Hide
namespace Go.Proofs.Ytfhcpjnjemojgaa

def pol : BitVec 32 := 2197175160#32
/-- One digit falls out. -/
def step (c : BitVec 32) : BitVec 32 := c >>> 1 ^^^ (if c.getLsbD 0 then pol else 0#32)
def steps : Nat → BitVec 32 → BitVec 32
  | 0, c => c
  | n + 1, c => step (steps n c)
/-- A byte, in a register of 32 digits. -/
def wide (b : UInt8) : BitVec 32 := b.toBitVec.setWidth 32
def feed (c : BitVec 32) (b : UInt8) : BitVec 32 := steps 8 (c ^^^ wide b)
def reg : BitVec 32 → List UInt8 → BitVec 32
  | c, [] => c
  | c, b :: l => reg (feed c b) l
/-- The check of what c is the check of, and of l behind. -/
def upd (c : BitVec 32) (l : List UInt8) : BitVec 32 := ~~~ reg (~~~ c) l
def sum (l : List UInt8) : BitVec 32 := upd 0#32 l

theorem step_xor (a b : BitVec 32) : step (a ^^^ b) = step a ^^^ step b := by
  unfold step
  rw [BitVec.getLsbD_xor]
  cases a.getLsbD 0 <;> cases b.getLsbD 0 <;> simp <;> (apply BitVec.eq_of_getLsbD_eq; intro i hi; simp; try (cases (a.getLsbD (1 + i)) <;> cases (b.getLsbD (1 + i)) <;> cases (pol.getLsbD i) <;> rfl))
theorem steps_xor (n : Nat) (a b : BitVec 32) : steps n (a ^^^ b) = steps n a ^^^ steps n b := by
  induction n with
  | zero => rfl
  | succ n ih => simp only [steps, ih, step_xor]
theorem step_zero : step 0#32 = 0#32 := by decide
theorem steps_zero (n : Nat) : steps n 0#32 = 0#32 := by
  induction n with
  | zero => rfl
  | succ n ih => simp only [steps, ih, step_zero]
theorem step_nought {c : BitVec 32} (h : step c = 0#32) : c = 0#32 := by
  unfold step at h
  cases hc : c.getLsbD 0 with
  | true =>
    exfalso
    have h31 := congrArg (fun x => x.getLsbD 31) h
    rw [hc] at h31
    simp [pol] at h31
  | false =>
    rw [hc] at h
    simp only [Bool.false_eq_true, if_false, BitVec.xor_zero] at h
    apply BitVec.eq_of_getLsbD_eq
    intro i hi
    cases i with
    | zero => simpa using hc
    | succ i =>
      have := congrArg (fun x => x.getLsbD i) h
      simp only [BitVec.getLsbD_ushiftRight, BitVec.getLsbD_zero] at this
      rw [Nat.add_comm] at this
      simpa using this
theorem steps_nought {n : Nat} {c : BitVec 32} (h : steps n c = 0#32) : c = 0#32 := by
  induction n with
  | zero => exact h
  | succ n ih => exact ih (step_nought h)
theorem xor_nought {a b : BitVec 32} (h : a ^^^ b = 0#32) : a = b := by simpa using h
theorem steps_inj {n : Nat} {a b : BitVec 32} (h : steps n a = steps n b) : a = b := by
  apply xor_nought
  apply steps_nought (n := n)
  rw [steps_xor, h, BitVec.xor_self]

theorem step_even {c : BitVec 32} (h : c.getLsbD 0 = false) : step c = c >>> 1 := by
  unfold step
  rw [h]
  simp
theorem step_shifted (c : BitVec 32) (n : Nat) (hn : n < 8) : step ((c >>> 8) <<< (n + 1)) = (c >>> 8) <<< n := by
  rw [step_even (by simp)]
  apply BitVec.eq_of_getLsbD_eq
  intro i hi
  simp only [BitVec.getLsbD_ushiftRight, BitVec.getLsbD_shiftLeft]
  by_cases h31 : i = 31
  · subst h31
    have : c.getLsbD (8 + (31 - n)) = false := BitVec.getLsbD_of_ge c _ (by omega)
    simp [this]
  · have e : 1 + i - (n + 1) = i - n := by omega
    rw [e]
    have h1 : decide (1 + i < 32) = true := by simp; omega
    have h2 : decide (1 + i < n + 1) = decide (i < n) := by simp; omega
    have h3 : decide (i < 32) = true := by simp; omega
    rw [h1, h2, h3]
theorem steps_shifted (c : BitVec 32) : ∀ (n : Nat), n ≤ 8 → ∀ k, n + k ≤ 8 → steps n ((c >>> 8) <<< (n + k)) = (c >>> 8) <<< k
  | 0, _, k, _ => by simp [steps]
  | n + 1, hn, k, hk => by
    have h := steps_shifted c n (by omega) (k + 1) (by omega)
    rw [steps, show n + 1 + k = n + (k + 1) by omega, h, step_shifted c k (by omega)]
theorem steps_high (c : BitVec 32) : steps 8 ((c >>> 8) <<< 8) = c >>> 8 := by
  have := steps_shifted c 8 (by omega) 0 (by omega)
  simpa using this
/-- The lowest byte of a register, and another byte. -/
def place (c : BitVec 32) (b : UInt8) : Nat := c.toNat % 256 ^^^ b.toNat
theorem place_lt (c : BitVec 32) (b : UInt8) : place c b < 256 := by
  have h1 : c.toNat % 256 < 2 ^ 8 := by omega
  have h2 : b.toNat < 2 ^ 8 := by have := b.toNat_lt; omega
  exact Nat.xor_lt_two_pow h1 h2
theorem wide_toNat (b : UInt8) : (wide b).toNat = b.toNat := by
  have := b.toNat_lt
  simp [wide]
theorem feed_split (c : BitVec 32) (b : UInt8) : c ^^^ wide b = ((c >>> 8) <<< 8) ^^^ BitVec.ofNat 32 (place c b) := by
  apply BitVec.eq_of_toNat_eq
  have e : (BitVec.ofNat 32 (place c b)).toNat = place c b := by
    have := place_lt c b
    rw [BitVec.toNat_ofNat]
    omega
  rw [BitVec.toNat_xor, BitVec.toNat_xor, e, wide_toNat]
  unfold place
  rw [← Nat.xor_assoc]
  congr 1
  apply Nat.eq_of_testBit_eq
  intro i
  rw [Nat.testBit_xor, show (256 : Nat) = 2 ^ 8 by rfl, Nat.testBit_mod_two_pow]
  show c.getLsbD i = (((c >>> 8) <<< 8).getLsbD i ^^ (decide (i < 8) && c.getLsbD i))
  simp only [BitVec.getLsbD_ushiftRight, BitVec.getLsbD_shiftLeft]
  by_cases h8 : i < 8
  · simp [h8]
  · by_cases h32 : i < 32
    · simp [h8, h32, show 8 + (i - 8) = i by omega]
    · have : c.getLsbD i = false := BitVec.getLsbD_of_ge c _ (by omega)
      simp [h8, h32, this]
/-- The table: what a byte makes of a register. -/
def tab (i : Nat) : BitVec 32 := steps 8 (BitVec.ofNat 32 i)
theorem feed_tab (c : BitVec 32) (b : UInt8) : feed c b = c >>> 8 ^^^ tab (place c b) := by
  unfold feed tab
  rw [feed_split, steps_xor, steps_high]
theorem tab_xor (i j : Nat) : tab (i ^^^ j) = tab i ^^^ tab j := by
  unfold tab
  rw [← steps_xor, BitVec.ofNat_xor]
theorem xor_cancel (i j : Nat) : j ^^^ (i ^^^ j) = i := by
  rw [Nat.xor_comm i j, ← Nat.xor_assoc, Nat.xor_self, Nat.zero_xor]
theorem tab_parts (i j : Nat) : tab j ^^^ tab (i ^^^ j) = tab i := by rw [← tab_xor, xor_cancel]

/-! ### digit by digit -/
def digit (b : UInt8) (k : Nat) : BitVec 32 := if (wide b).getLsbD k then 1#32 else 0#32
/-- What is left of the byte behind k digits. -/
theorem digit_step (b : UInt8) (k : Nat) : step (wide b >>> k ^^^ digit b k) = wide b >>> (k + 1) := by
  rw [step_even]
  · apply BitVec.eq_of_getLsbD_eq
    intro i hi
    unfold digit
    cases h : (wide b).getLsbD k
    · simp only [Bool.false_eq_true, if_false, BitVec.xor_zero, BitVec.getLsbD_ushiftRight, ← Nat.add_assoc]
    · simp only [if_true, BitVec.getLsbD_ushiftRight, BitVec.getLsbD_xor, ← Nat.add_assoc]
      have : (1#32).getLsbD (1 + i) = false := by
        rw [BitVec.getLsbD_one]
        simp
      rw [this, Bool.xor_false]
  · unfold digit
    cases h : (wide b).getLsbD k <;> simp [h]
theorem digits_go {c x : BitVec 32} {b : UInt8} {k : Nat} (h : c ^^^ wide b >>> k = steps k x) : step (c ^^^ digit b k) ^^^ wide b >>> (k + 1) = steps (k + 1) x := by
  rw [steps, ← h, ← digit_step b k, ← step_xor, BitVec.xor_assoc]
  congr 1
  rw [BitVec.xor_comm (wide b >>> k), ← BitVec.xor_assoc (digit b k), BitVec.xor_self, BitVec.zero_xor]
theorem wide_gone (b : UInt8) : wide b >>> 8 = 0#32 := by
  apply BitVec.eq_of_toNat_eq
  rw [BitVec.toNat_ushiftRight, wide_toNat, Nat.shiftRight_eq_div_pow]
  have := b.toNat_lt
  simp
  omega
theorem digits_end {c x : BitVec 32} {b : UInt8} (h : c ^^^ wide b >>> 8 = steps 8 x) : c = steps 8 x := by
  rw [wide_gone, BitVec.xor_zero] at h
  exact h

/-! ### rows -/
theorem reg_append (c : BitVec 32) (a b : List UInt8) : reg c (a ++ b) = reg (reg c a) b := by
  induction a generalizing c with
  | nil => rfl
  | cons x a ih => exact ih _
theorem upd_append (c : BitVec 32) (a b : List UInt8) : upd c (a ++ b) = upd (upd c a) b := by
  unfold upd
  rw [reg_append, BitVec.not_not]
theorem upd_nil (c : BitVec 32) : upd c [] = c := by simp [upd, reg]
theorem feed_inj {c d : BitVec 32} {b : UInt8} (h : feed c b = feed d b) : c = d := by
  have := steps_inj h
  have e := congrArg (· ^^^ wide b) this
  simpa [BitVec.xor_assoc] using e
theorem reg_inj {c d : BitVec 32} {l : List UInt8} (h : reg c l = reg d l) : c = d := by
  induction l generalizing c d with
  | nil => exact h
  | cons b l ih => exact feed_inj (ih h)
theorem wide_inj {x y : UInt8} (h : wide x = wide y) : x = y := by
  have := congrArg BitVec.toNat h
  rw [wide_toNat, wide_toNat] at this
  exact UInt8.toNat_inj.1 this
/-- One byte another one. -/
theorem sum_ne_one (p r : List UInt8) (x y : UInt8) (h : x ≠ y) : sum (p ++ x :: r) ≠ sum (p ++ y :: r) := by
  intro e
  unfold sum upd at e
  have e := BitVec.not_inj.1 e
  rw [reg_append, reg_append] at e
  simp only [reg] at e
  have e := steps_inj (reg_inj e)
  have e := congrArg (reg (~~~ 0#32) p ^^^ ·) e
  simp only [← BitVec.xor_assoc, BitVec.xor_self, BitVec.zero_xor] at e
  exact h (wide_inj e)
theorem wide_xor (x y : UInt8) : wide (x ^^^ y) = wide x ^^^ wide y := by
  unfold wide
  apply BitVec.eq_of_getLsbD_eq
  intro i hi
  simp
/-- The highest digit of one byte, and the lowest of the next. -/
theorem sum_ne_two (p r : List UInt8) (x y : UInt8) : sum (p ++ (x ^^^ 128) :: (y ^^^ 1) :: r) ≠ sum (p ++ x :: y :: r) := by
  intro e
  unfold sum upd at e
  have e := BitVec.not_inj.1 e
  rw [reg_append, reg_append] at e
  simp only [reg] at e
  have e := reg_inj e
  generalize reg (~~~ 0#32) p = c at e
  have e1 : feed c (x ^^^ 128) = feed c x ^^^ steps 8 128#32 := by
    unfold feed
    rw [← steps_xor, wide_xor, BitVec.xor_assoc]
    rfl
  have e2 := steps_inj e
  rw [e1, wide_xor] at e2
  have e3 : feed c x ^^^ steps 8 128#32 ^^^ (wide y ^^^ wide 1) = (feed c x ^^^ wide y) ^^^ (steps 8 128#32 ^^^ wide 1) := by
    rw [BitVec.xor_assoc, BitVec.xor_assoc]
    congr 1
    rw [← BitVec.xor_assoc, ← BitVec.xor_assoc, BitVec.xor_comm (wide y)]
  rw [e3] at e2
  have e4 := congrArg ((feed c x ^^^ wide y) ^^^ ·) e2
  simp only [← BitVec.xor_assoc _ _ (steps 8 128#32 ^^^ wide 1), BitVec.xor_self, BitVec.zero_xor] at e4
  exact absurd e4 (by decide +kernel)
/-- Two rows as long as one another, and noughts. -/
theorem reg_xors : ∀ (l m : List UInt8) (a b z : BitVec 32), l.length = m.length → reg (a ^^^ b ^^^ z) (List.zipWith (· ^^^ ·) l m) = reg a l ^^^ reg b m ^^^ reg z (List.replicate l.length 0)
  | [], [], a, b, z, _ => rfl
  | x :: l, y :: m, a, b, z, h => by
    have h' : l.length = m.length := by simpa using h
    have e : feed (a ^^^ b ^^^ z) (x ^^^ y) = feed a x ^^^ feed b y ^^^ feed z 0 := by
      unfold feed
      rw [← steps_xor, ← steps_xor, wide_xor]
      congr 1
      rw [show wide 0 = 0#32 from rfl, BitVec.xor_zero]
      apply BitVec.eq_of_getLsbD_eq
      intro i hi
      simp only [BitVec.getLsbD_xor]
      cases a.getLsbD i <;> cases b.getLsbD i <;> cases z.getLsbD i <;> cases (wide x).getLsbD i <;> cases (wide y).getLsbD i <;> rfl
    have ih := reg_xors l m (feed a x) (feed b y) (feed z 0) h'
    rw [← e] at ih
    exact ih
theorem sum_xors (l m : List UInt8) (h : l.length = m.length) : sum (List.zipWith (· ^^^ ·) l m) = sum l ^^^ sum m ^^^ sum (List.replicate l.length 0) := by
  unfold sum upd
  have := reg_xors l m (~~~ 0#32) (~~~ 0#32) (~~~ 0#32) h
  rw [BitVec.xor_self, BitVec.zero_xor] at this
  rw [this]
  apply BitVec.eq_of_getLsbD_eq
  intro i hi
  simp only [BitVec.getLsbD_xor, BitVec.getLsbD_not, hi, decide_true, Bool.true_and]
  cases (reg (~~~ 0#32) l).getLsbD i <;> cases (reg (~~~ 0#32) m).getLsbD i <;> cases (reg (~~~ 0#32) (List.replicate l.length 0)).getLsbD i <;> rfl
end Go.Proofs.Ytfhcpjnjemojgaa
