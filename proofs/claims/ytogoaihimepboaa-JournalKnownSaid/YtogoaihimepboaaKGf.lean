/- CRC-32C as plain mathematics over 32 binary digits: one step, eight steps, a byte, a row; the xor laws; what two rows of unlike bytes come to. No program in it. Conditions: none. -/
/- The walks of the small functions: one digit, eight digits, the document's own Update. Conditions: rows of at most 2^40 bytes. -/
/- The walk of the document's own Update. Conditions: rows of at most 2^40 bytes. -/
/- The walks of the two tables. Conditions: none. -/
/- The walk of the program's table. Conditions: none. -/
/- The walk of the program's sum over rows of bytes. Conditions: at most 2^40 rows, of at most 2^40 bytes. -/
/- The walks of Sum, Match, Update, and of the document's own Sum. Conditions: at most 2^40 rows, of at most 2^40 bytes. -/
/- The walk of the chapter's examples (works): they hold. Conditions: none. -/
/- Calls and operations of the laws' last statements. Conditions: rows of at most 2^40 bytes. -/
import Derived.Lib.Hide
import Derived.Test.YtogoaihimepboaaKGa
import Derived.Laws.BitsAllLaws
import Derived.Laws.Rows
import Derived.Great.Walk
import Derived.StillTailTactics
import Derived.Lib.SlBytesConst

namespace Go.Proofs.Ytogoaihimepboaa

def pol : BitVec 32 := 2197175160#32
/-- One digit falls out. -/
def step (c : BitVec 32) : BitVec 32 := c >>> 1 ^^^ (if c.getLsbD 0 then pol else 0#32)
def steps : Nat → BitVec 32 → BitVec 32
  | 0, c => c
  | n + 1, c => step (steps n c)
/-- A byte, in a register of 32 digits. -/
def wide (b : UInt8) : BitVec 32 := b.toBitVec.setWidth 32
def feed (c : BitVec 32) (b : UInt8) : BitVec 32 := steps 8 (c ^^^ wide b)
def reg : BitVec 32 → List UInt8 → BitVec 32
  | c, [] => c
  | c, b :: l => reg (feed c b) l
/-- The check of what c is the check of, and of l behind. -/
def upd (c : BitVec 32) (l : List UInt8) : BitVec 32 := ~~~ reg (~~~ c) l
def sum (l : List UInt8) : BitVec 32 := upd 0#32 l

theorem step_xor (a b : BitVec 32) : step (a ^^^ b) = step a ^^^ step b := by
  unfold step
  rw [BitVec.getLsbD_xor]
  cases a.getLsbD 0 <;> cases b.getLsbD 0 <;> simp <;> (apply BitVec.eq_of_getLsbD_eq; intro i hi; simp; try (cases (a.getLsbD (1 + i)) <;> cases (b.getLsbD (1 + i)) <;> cases (pol.getLsbD i) <;> rfl))
theorem steps_xor (n : Nat) (a b : BitVec 32) : steps n (a ^^^ b) = steps n a ^^^ steps n b := by
  induction n with
  | zero => rfl
  | succ n ih => simp only [steps, ih, step_xor]
theorem step_zero : step 0#32 = 0#32 := by decide
theorem steps_zero (n : Nat) : steps n 0#32 = 0#32 := by
  induction n with
  | zero => rfl
  | succ n ih => simp only [steps, ih, step_zero]
theorem step_nought {c : BitVec 32} (h : step c = 0#32) : c = 0#32 := by
  unfold step at h
  cases hc : c.getLsbD 0 with
  | true =>
    exfalso
    have h31 := congrArg (fun x => x.getLsbD 31) h
    rw [hc] at h31
    simp [pol] at h31
  | false =>
    rw [hc] at h
    simp only [Bool.false_eq_true, if_false, BitVec.xor_zero] at h
    apply BitVec.eq_of_getLsbD_eq
    intro i hi
    cases i with
    | zero => simpa using hc
    | succ i =>
      have := congrArg (fun x => x.getLsbD i) h
      simp only [BitVec.getLsbD_ushiftRight, BitVec.getLsbD_zero] at this
      rw [Nat.add_comm] at this
      simpa using this
theorem steps_nought {n : Nat} {c : BitVec 32} (h : steps n c = 0#32) : c = 0#32 := by
  induction n with
  | zero => exact h
  | succ n ih => exact ih (step_nought h)
theorem xor_nought {a b : BitVec 32} (h : a ^^^ b = 0#32) : a = b := by simpa using h
theorem steps_inj {n : Nat} {a b : BitVec 32} (h : steps n a = steps n b) : a = b := by
  apply xor_nought
  apply steps_nought (n := n)
  rw [steps_xor, h, BitVec.xor_self]

theorem step_even {c : BitVec 32} (h : c.getLsbD 0 = false) : step c = c >>> 1 := by
  unfold step
  rw [h]
  simp
theorem step_shifted (c : BitVec 32) (n : Nat) (hn : n < 8) : step ((c >>> 8) <<< (n + 1)) = (c >>> 8) <<< n := by
  rw [step_even (by simp)]
  apply BitVec.eq_of_getLsbD_eq
  intro i hi
  simp only [BitVec.getLsbD_ushiftRight, BitVec.getLsbD_shiftLeft]
  by_cases h31 : i = 31
  · subst h31
    have : c.getLsbD (8 + (31 - n)) = false := BitVec.getLsbD_of_ge c _ (by omega)
    simp [this]
  · have e : 1 + i - (n + 1) = i - n := by omega
    rw [e]
    have h1 : decide (1 + i < 32) = true := by simp; omega
    have h2 : decide (1 + i < n + 1) = decide (i < n) := by simp; omega
    have h3 : decide (i < 32) = true := by simp; omega
    rw [h1, h2, h3]
theorem steps_shifted (c : BitVec 32) : ∀ (n : Nat), n ≤ 8 → ∀ k, n + k ≤ 8 → steps n ((c >>> 8) <<< (n + k)) = (c >>> 8) <<< k
  | 0, _, k, _ => by simp [steps]
  | n + 1, hn, k, hk => by
    have h := steps_shifted c n (by omega) (k + 1) (by omega)
    rw [steps, show n + 1 + k = n + (k + 1) by omega, h, step_shifted c k (by omega)]
theorem steps_high (c : BitVec 32) : steps 8 ((c >>> 8) <<< 8) = c >>> 8 := by
  have := steps_shifted c 8 (by omega) 0 (by omega)
  simpa using this
/-- The lowest byte of a register, and another byte. -/
def place (c : BitVec 32) (b : UInt8) : Nat := c.toNat % 256 ^^^ b.toNat
theorem place_lt (c : BitVec 32) (b : UInt8) : place c b < 256 := by
  have h1 : c.toNat % 256 < 2 ^ 8 := by omega
  have h2 : b.toNat < 2 ^ 8 := by have := b.toNat_lt; omega
  exact Nat.xor_lt_two_pow h1 h2
theorem wide_toNat (b : UInt8) : (wide b).toNat = b.toNat := by
  have := b.toNat_lt
  simp [wide]
theorem feed_split (c : BitVec 32) (b : UInt8) : c ^^^ wide b = ((c >>> 8) <<< 8) ^^^ BitVec.ofNat 32 (place c b) := by
  apply BitVec.eq_of_toNat_eq
  have e : (BitVec.ofNat 32 (place c b)).toNat = place c b := by
    have := place_lt c b
    rw [BitVec.toNat_ofNat]
    omega
  rw [BitVec.toNat_xor, BitVec.toNat_xor, e, wide_toNat]
  unfold place
  rw [← Nat.xor_assoc]
  congr 1
  apply Nat.eq_of_testBit_eq
  intro i
  rw [Nat.testBit_xor, show (256 : Nat) = 2 ^ 8 by rfl, Nat.testBit_mod_two_pow]
  show c.getLsbD i = (((c >>> 8) <<< 8).getLsbD i ^^ (decide (i < 8) && c.getLsbD i))
  simp only [BitVec.getLsbD_ushiftRight, BitVec.getLsbD_shiftLeft]
  by_cases h8 : i < 8
  · simp [h8]
  · by_cases h32 : i < 32
    · simp [h8, h32, show 8 + (i - 8) = i by omega]
    · have : c.getLsbD i = false := BitVec.getLsbD_of_ge c _ (by omega)
      simp [h8, h32, this]
/-- The table: what a byte makes of a register. -/
def tab (i : Nat) : BitVec 32 := steps 8 (BitVec.ofNat 32 i)
theorem feed_tab (c : BitVec 32) (b : UInt8) : feed c b = c >>> 8 ^^^ tab (place c b) := by
  unfold feed tab
  rw [feed_split, steps_xor, steps_high]
theorem tab_xor (i j : Nat) : tab (i ^^^ j) = tab i ^^^ tab j := by
  unfold tab
  rw [← steps_xor, BitVec.ofNat_xor]
theorem xor_cancel (i j : Nat) : j ^^^ (i ^^^ j) = i := by
  rw [Nat.xor_comm i j, ← Nat.xor_assoc, Nat.xor_self, Nat.zero_xor]
theorem tab_parts (i j : Nat) : tab j ^^^ tab (i ^^^ j) = tab i := by rw [← tab_xor, xor_cancel]

/-! ### digit by digit -/
def digit (b : UInt8) (k : Nat) : BitVec 32 := if (wide b).getLsbD k then 1#32 else 0#32
/-- What is left of the byte behind k digits. -/
theorem digit_step (b : UInt8) (k : Nat) : step (wide b >>> k ^^^ digit b k) = wide b >>> (k + 1) := by
  rw [step_even]
  · apply BitVec.eq_of_getLsbD_eq
    intro i hi
    unfold digit
    cases h : (wide b).getLsbD k
    · simp only [Bool.false_eq_true, if_false, BitVec.xor_zero, BitVec.getLsbD_ushiftRight, ← Nat.add_assoc]
    · simp only [if_true, BitVec.getLsbD_ushiftRight, BitVec.getLsbD_xor, ← Nat.add_assoc]
      have : (1#32).getLsbD (1 + i) = false := by
        rw [BitVec.getLsbD_one]
        simp
      rw [this, Bool.xor_false]
  · unfold digit
    cases h : (wide b).getLsbD k <;> simp [h]
theorem digits_go {c x : BitVec 32} {b : UInt8} {k : Nat} (h : c ^^^ wide b >>> k = steps k x) : step (c ^^^ digit b k) ^^^ wide b >>> (k + 1) = steps (k + 1) x := by
  rw [steps, ← h, ← digit_step b k, ← step_xor, BitVec.xor_assoc]
  congr 1
  rw [BitVec.xor_comm (wide b >>> k), ← BitVec.xor_assoc (digit b k), BitVec.xor_self, BitVec.zero_xor]
theorem wide_gone (b : UInt8) : wide b >>> 8 = 0#32 := by
  apply BitVec.eq_of_toNat_eq
  rw [BitVec.toNat_ushiftRight, wide_toNat, Nat.shiftRight_eq_div_pow]
  have := b.toNat_lt
  simp
  omega
theorem digits_end {c x : BitVec 32} {b : UInt8} (h : c ^^^ wide b >>> 8 = steps 8 x) : c = steps 8 x := by
  rw [wide_gone, BitVec.xor_zero] at h
  exact h

/-! ### rows -/
theorem reg_append (c : BitVec 32) (a b : List UInt8) : reg c (a ++ b) = reg (reg c a) b := by
  induction a generalizing c with
  | nil => rfl
  | cons x a ih => exact ih _
theorem upd_append (c : BitVec 32) (a b : List UInt8) : upd c (a ++ b) = upd (upd c a) b := by
  unfold upd
  rw [reg_append, BitVec.not_not]
theorem upd_nil (c : BitVec 32) : upd c [] = c := by simp [upd, reg]
theorem feed_inj {c d : BitVec 32} {b : UInt8} (h : feed c b = feed d b) : c = d := by
  have := steps_inj h
  have e := congrArg (· ^^^ wide b) this
  simpa [BitVec.xor_assoc] using e
theorem reg_inj {c d : BitVec 32} {l : List UInt8} (h : reg c l = reg d l) : c = d := by
  induction l generalizing c d with
  | nil => exact h
  | cons b l ih => exact feed_inj (ih h)
theorem wide_inj {x y : UInt8} (h : wide x = wide y) : x = y := by
  have := congrArg BitVec.toNat h
  rw [wide_toNat, wide_toNat] at this
  exact UInt8.toNat_inj.1 this
/-- One byte another one. -/
theorem sum_ne_one (p r : List UInt8) (x y : UInt8) (h : x ≠ y) : sum (p ++ x :: r) ≠ sum (p ++ y :: r) := by
  intro e
  unfold sum upd at e
  have e := BitVec.not_inj.1 e
  rw [reg_append, reg_append] at e
  simp only [reg] at e
  have e := steps_inj (reg_inj e)
  have e := congrArg (reg (~~~ 0#32) p ^^^ ·) e
  simp only [← BitVec.xor_assoc, BitVec.xor_self, BitVec.zero_xor] at e
  exact h (wide_inj e)
theorem wide_xor (x y : UInt8) : wide (x ^^^ y) = wide x ^^^ wide y := by
  unfold wide
  apply BitVec.eq_of_getLsbD_eq
  intro i hi
  simp
/-- The highest digit of one byte, and the lowest of the next. -/
theorem sum_ne_two (p r : List UInt8) (x y : UInt8) : sum (p ++ (x ^^^ 128) :: (y ^^^ 1) :: r) ≠ sum (p ++ x :: y :: r) := by
  intro e
  unfold sum upd at e
  have e := BitVec.not_inj.1 e
  rw [reg_append, reg_append] at e
  simp only [reg] at e
  have e := reg_inj e
  generalize reg (~~~ 0#32) p = c at e
  have e1 : feed c (x ^^^ 128) = feed c x ^^^ steps 8 128#32 := by
    unfold feed
    rw [← steps_xor, wide_xor, BitVec.xor_assoc]
    rfl
  have e2 := steps_inj e
  rw [e1, wide_xor] at e2
  have e3 : feed c x ^^^ steps 8 128#32 ^^^ (wide y ^^^ wide 1) = (feed c x ^^^ wide y) ^^^ (steps 8 128#32 ^^^ wide 1) := by
    rw [BitVec.xor_assoc, BitVec.xor_assoc]
    congr 1
    rw [← BitVec.xor_assoc, ← BitVec.xor_assoc, BitVec.xor_comm (wide y)]
  rw [e3] at e2
  have e4 := congrArg ((feed c x ^^^ wide y) ^^^ ·) e2
  simp only [← BitVec.xor_assoc _ _ (steps 8 128#32 ^^^ wide 1), BitVec.xor_self, BitVec.zero_xor] at e4
  exact absurd e4 (by decide +kernel)
/-- Two rows as long as one another, and noughts. -/
theorem reg_xors : ∀ (l m : List UInt8) (a b z : BitVec 32), l.length = m.length → reg (a ^^^ b ^^^ z) (List.zipWith (· ^^^ ·) l m) = reg a l ^^^ reg b m ^^^ reg z (List.replicate l.length 0)
  | [], [], a, b, z, _ => rfl
  | x :: l, y :: m, a, b, z, h => by
    have h' : l.length = m.length := by simpa using h
    have e : feed (a ^^^ b ^^^ z) (x ^^^ y) = feed a x ^^^ feed b y ^^^ feed z 0 := by
      unfold feed
      rw [← steps_xor, ← steps_xor, wide_xor]
      congr 1
      rw [show wide 0 = 0#32 from rfl, BitVec.xor_zero]
      apply BitVec.eq_of_getLsbD_eq
      intro i hi
      simp only [BitVec.getLsbD_xor]
      cases a.getLsbD i <;> cases b.getLsbD i <;> cases z.getLsbD i <;> cases (wide x).getLsbD i <;> cases (wide y).getLsbD i <;> rfl
    have ih := reg_xors l m (feed a x) (feed b y) (feed z 0) h'
    rw [← e] at ih
    exact ih
theorem sum_xors (l m : List UInt8) (h : l.length = m.length) : sum (List.zipWith (· ^^^ ·) l m) = sum l ^^^ sum m ^^^ sum (List.replicate l.length 0) := by
  unfold sum upd
  have := reg_xors l m (~~~ 0#32) (~~~ 0#32) (~~~ 0#32) h
  rw [BitVec.xor_self, BitVec.zero_xor] at this
  rw [this]
  apply BitVec.eq_of_getLsbD_eq
  intro i hi
  simp only [BitVec.getLsbD_xor, BitVec.getLsbD_not, hi, decide_true, Bool.true_and]
  cases (reg (~~~ 0#32) l).getLsbD i <;> cases (reg (~~~ 0#32) m).getLsbD i <;> cases (reg (~~~ 0#32) (List.replicate l.length 0)).getLsbD i <;> rfl
end Go.Proofs.Ytogoaihimepboaa

namespace Go.Proofs.Ytogoaihimepboaa
open Go.RowKit

/-- A register as a value. -/
abbrev rv (c : BitVec 32) : Value := .int .u32 (c.toNat : Int)
theorem ret_u32 {a b : Int} (h : a = b) : Ending.returned (.int .u32 a) = .returned (.int .u32 b) := by rw [h]
theorem val_u32 {a b : Int} (h : a = b) : Value.int .u32 a = .int .u32 b := by rw [h]
theorem bit0 (c : BitVec 32) : c.getLsbD 0 = decide (c.toNat % 2 = 1) := by
  show c.toNat.testBit 0 = _
  rw [Nat.testBit_zero]
theorem step_odd_nat {c : BitVec 32} (h : c.toNat % 2 = 1) : (step c).toNat = c.toNat / 2 ^^^ 2197175160 := by
  unfold step
  rw [bit0, decide_eq_true h, if_pos rfl, BitVec.toNat_xor, BitVec.toNat_ushiftRight, Nat.shiftRight_eq_div_pow]
  rfl
theorem step_even_nat {c : BitVec 32} (h : c.toNat % 2 = 0) : (step c).toNat = c.toNat / 2 := by
  unfold step
  rw [bit0, decide_eq_false (by omega), if_neg (by simp), BitVec.xor_zero, BitVec.toNat_ushiftRight, Nat.shiftRight_eq_div_pow]

theorem xor_nat {a b : Int} {c d : Nat} (ha : a = (c : Int)) (hb : b = (d : Int)) (h1 : c < 4294967296) (h2 : d < 4294967296) : bits .xor .u32 a b = ((c ^^^ d : Nat) : Int) := by
  subst ha hb
  exact u32_xor_nat c d h1 h2

set_option maxHeartbeats 400000 in
/-- One digit. -/
theorem refStep_any (c : BitVec 32) (w : World) : Calls Try.prog 56 #[rv c] w fun e w' => e = .returned (rv (step c)) ∧ w = w' := by
  have hlt : (c.toNat : Int) < 4294967296 := by have := c.isLt; omega
  have h0 : 0 ≤ (c.toNat : Int) := by omega
  by_cases h : c.toNat % 2 = 1
  · have E := Lib.hid (step_odd_nat h)
    have ht : ((c.toNat : Int) % 2 == 1) = true := by rw [beq_iff_eq]; omega
    clear h
    go_enter Try.func56, Try.ntmps56
    go_wp2
    go_ret
    exact ⟨ret_u32 (by rw [E.out]; exact xor_nat (by omega) rfl (by omega) (by omega)), rfl⟩
  · have E := Lib.hid (step_even_nat (c := c) (by omega))
    have ht : ((c.toNat : Int) % 2 == 1) = false := by rw [beq_eq_false_iff_ne]; omega
    clear h
    go_enter Try.func56, Try.ntmps56
    go_wp2
    go_ret
    exact ⟨ret_u32 (by rw [E.out]; omega), rfl⟩

theorem and_one (n : Nat) (h : n < 4294967296) : bits .and .u32 (n : Int) 1 = ((n % 2 : Nat) : Int) := by
  rw [← nat_mask1]
  exact u32_and_nat n 1 h (by omega)
/-- A register's number by a letter. -/
theorem letter (c : BitVec 32) : ∃ n : Nat, rv c = .int .u32 (n : Int) ∧ Hid (n = c.toNat) ∧ Hid (n < 4294967296) := ⟨c.toNat, rfl, rfl, by have := c.isLt; show _ < _; omega⟩

set_option maxHeartbeats 400000 in
/-- Eight digits. -/
theorem digits_any (c : BitVec 32) (w : World) : Calls Try.prog 60 #[rv c] w fun e w' => e = .returned (rv (steps 8 c)) ∧ w = w' := by
  go_enter Try.func60, Try.ntmps60
  go_wp2
  go_loop [0, 4] (fun r i => ∃ (k : Nat) (x : BitVec 32), k ≤ 8 ∧ i = .int .i64 (k : Int) ∧ r = rv x ∧ Hid (x = steps k c)) (fun _ i => 8 - (intOf i).toNat)
  case atStart => exact ⟨0, c, by omega, rfl, rfl, by exact rfl⟩
  case round =>
    obtain ⟨k, x, hk, rfl, rfl, hx⟩ := hrel
    obtain ⟨n, hn, hnx, hlt'⟩ := letter x
    rw [hn]
    clear hn
    by_cases hlt : k < 8
    · have ha := and_one n hlt'.out
      by_cases h : n % 2 = 1
      · have E := Lib.hid (step_odd_nat (c := x) (by rw [← hnx.out]; exact h))
        rw [h] at ha
        clear h
        go_wp2
        go_round
        case rel => exact ⟨k + 1, step x, by omega, by go_num, val_u32 (by rw [E.out]; exact xor_nat (by have := hnx.out; omega) rfl (by have := hnx.out; omega) (by omega)), by rw [hx.out]; exact rfl⟩
        case measure => simp [intOf]; omega
      · have h' : n % 2 = 0 := by omega
        have E := Lib.hid (step_even_nat (c := x) (by rw [← hnx.out]; exact h'))
        rw [h'] at ha
        clear h h'
        go_wp2
        go_round
        case rel => exact ⟨k + 1, step x, by omega, by go_num, val_u32 (by rw [E.out, xor_nat (c := x.toNat / 2) (d := 0) (by have := hnx.out; omega) (by omega) (by have := hnx.out; omega) (by omega), Nat.xor_zero]), by rw [hx.out]; exact rfl⟩
        case measure => simp [intOf]; omega
    · obtain rfl : k = 8 := by omega
      go_wp2
      go_ret
      exact ⟨by rw [← hx.out]; exact ret_u32 (by have := hnx.out; omega), rfl⟩
end Go.Proofs.Ytogoaihimepboaa

namespace Go.Proofs.Ytogoaihimepboaa
open Go.RowKit

theorem digit_nat (b : UInt8) (k : Nat) : (digit b k).toNat = b.toNat / 2 ^ k % 2 := by
  unfold digit
  have e : (wide b).getLsbD k = decide (b.toNat / 2 ^ k % 2 = 1) := by
    show (wide b).toNat.testBit k = _
    rw [wide_toNat, Nat.testBit_eq_decide_div_mod_eq]
  rw [e]
  by_cases h : b.toNat / 2 ^ k % 2 = 1
  · simp [h]
  · have : b.toNat / 2 ^ k % 2 = 0 := by omega
    simp [this]

theorem step_at {z : Int} {c : BitVec 32} (w : World) (h : z = (c.toNat : Int)) : Calls Try.prog 56 #[.int .u32 z] w fun e w' => e = .returned (rv (step c)) ∧ w = w' := by
  subst h
  exact refStep_any c w
theorem not_nat {n : Nat} {c : BitVec 32} (h : Hid (n = c.toNat)) : bits .xor .u32 (n : Int) 4294967295 = ((~~~ c).toNat : Int) := by
  have e : ~~~ c = c ^^^ 4294967295#32 := by
    rw [← BitVec.xor_allOnes]
    rfl
  rw [e, BitVec.toNat_xor, h.out]
  exact u32_xor_nat _ _ c.isLt (by decide)
theorem xor_digit {m j : Nat} {y : BitVec 32} (b : UInt8) (h : Hid (m = y.toNat)) : bits .xor .u32 (m : Int) ((b.toNat : Int) / 2 ^ j % 2) = ((y ^^^ digit b j).toNat : Int) := by
  rw [BitVec.toNat_xor, digit_nat, h.out]
  refine xor_nat rfl ?_ y.isLt (by omega)
  simp

set_option maxHeartbeats 1000000 in
/-- The document's own Update. -/
theorem refUpdate_big (c : BitVec 32) (A : Option Addr) (cap B : Nat) (l : List UInt8) (w : World) (hl : l.length ≤ 140737488355327) (hr : RdB w B A l) :
    Calls Try.prog 49 #[rv c, .slice A l.length cap] w fun e w' => e = .returned (rv (upd c l)) ∧ w = w' := by
  have hlen : (l.length : Int) ≤ 140737488355327 := by omega
  clear hl
  obtain ⟨n, hn, hnc, hlt'⟩ := letter c
  rw [hn]
  clear hn
  go_enter Try.func49, Try.ntmps49
  go_wp2
  go_loop [0, 5] (fun r i => ∃ (k : Nat) (x : BitVec 32), k ≤ l.length ∧ i = .int .i64 (k : Int) ∧ r = rv x ∧ Hid (x = reg (~~~ c) (l.take k))) (fun _ i => l.length - (intOf i).toNat)
  case atStart => exact ⟨0, ~~~ c, by omega, rfl, val_u32 (not_nat hnc), by exact rfl⟩
  case round =>
    obtain ⟨k, x, hk, rfl, rfl, hx⟩ := hrel
    by_cases hlt : k < l.length
    · obtain ⟨ad, b, rfl, _, hc, hb⟩ := RdB.at_ hr hlt
      go_wp2
      go_loop [0, 6] (fun r i => ∃ (j : Nat) (y : BitVec 32), j ≤ 8 ∧ i = .int .i64 (j : Int) ∧ r = rv y ∧ Hid (y ^^^ wide b >>> j = steps j (x ^^^ wide b))) (fun _ i => 8 - (intOf i).toNat)
      case atStart => exact ⟨0, x, by omega, rfl, rfl, by show _ = _; simp [steps]⟩
      case round =>
        obtain ⟨j, y, hj, rfl, rfl, hy⟩ := hrel
        obtain ⟨m, hm, hmy, hmlt⟩ := letter y
        rw [hm]
        clear hm
        by_cases hlt8 : j < 8
        · go_wp2_with fail
          refine (step_at _ (xor_digit b hmy)).mono ?_
          rintro e w' ⟨rfl, rfl⟩
          go_wp2
          go_round
          case rel => exact ⟨j + 1, _, by omega, by go_num, rfl, digits_go hy.out⟩
          case measure => simp [intOf]; omega
        · obtain rfl : j = 8 := by omega
          go_wp2
          go_round
          case rel =>
            refine ⟨k + 1, y, by omega, by go_num, val_u32 (by rw [hmy.out]), ?_⟩
            show y = _
            rw [take_snoc hb, reg_append, ← hx.out]
            exact digits_end hy.out
          case measure => simp [intOf]; omega
    · obtain rfl : k = l.length := by omega
      obtain ⟨m, hm, hmy, hmlt⟩ := letter x
      rw [hm]
      clear hm
      go_wp2
      go_ret
      refine ⟨ret_u32 ?_, rfl⟩
      rw [not_nat hmy, hx.out, List.take_length]
      rfl
theorem refUpdate_any (c : BitVec 32) (A : Option Addr) (cap B : Nat) (l : List UInt8) (w : World) (hl : l.length ≤ 140737488351232) (hr : RdB w B A l) :
    Calls Try.prog 49 #[rv c, .slice A l.length cap] w fun e w' => e = .returned (rv (upd c l)) ∧ w = w' := refUpdate_big c A cap B l w (by omega) hr
end Go.Proofs.Ytogoaihimepboaa

namespace Go.Proofs.Ytogoaihimepboaa
open Go.RowKit

/-- The table's cells. -/
def tabV : Array Value := ((List.range 256).map fun i => rv (tab i)).toArray
/-- The table filled up to k. -/
def tabTo (k : Nat) : Array Value := ((List.range 256).map fun i => if i < k then rv (tab i) else .int .u32 0).toArray
theorem tabTo_size (k : Nat) : (tabTo k).size = 256 := by simp [tabTo]
theorem tabV_size : tabV.size = 256 := by simp [tabV]
theorem tabV_one : tabV.all (·.oneCell') = true := by
  rw [Array.all_eq_true_iff_forall_mem]
  intro x hx
  simp only [tabV, List.mem_toArray, List.mem_map] at hx
  obtain ⟨i, _, rfl⟩ := hx
  rfl
theorem tabTo_all : tabTo 256 = tabV := by
  unfold tabTo tabV
  rw [List.map_congr_left (g := fun i => rv (tab i)) (fun i hi => if_pos (List.mem_range.1 hi))]
theorem tabTo_get {k i : Nat} (hi : i < 256) (h : i < k) : (tabTo k)[i]? = some (rv (tab i)) := by
  unfold tabTo
  rw [List.getElem?_toArray, List.getElem?_map, List.getElem?_range hi, Option.map_some, if_pos h]
theorem tabTo_set {k : Nat} (hk : k < 256) : (tabTo k).setIfInBounds k (rv (tab k)) = tabTo (k + 1) := by
  apply Array.ext_getElem?
  intro i
  rw [Array.getElem?_setIfInBounds, tabTo_size]
  by_cases h : k = i
  · subst h
    rw [if_pos rfl, if_pos hk, tabTo_get hk (by omega)]
  · rw [if_neg h]
    by_cases hi : i < 256
    · unfold tabTo
      rw [List.getElem?_toArray, List.getElem?_toArray, List.getElem?_map, List.getElem?_map, List.getElem?_range hi, Option.map_some, Option.map_some]
      congr 1
      by_cases hk' : i < k
      · rw [if_pos hk', if_pos (by omega)]
      · rw [if_neg hk', if_neg (by omega)]
    · rw [Array.getElem?_eq_none (by rw [tabTo_size]; omega), Array.getElem?_eq_none (by rw [tabTo_size]; omega)]

section
variable {P : Program}
theorem run_alloc_zero (w : World) (t : TypeId) (i : TypeInfo) (z : Value) (hi : P.info? t = some i) (hz : i.zero = some z) :
    (Instr.alloc t true (.tuple #[])).run P w = .ok (.pointer (some ⟨w.heap.size, 0, none⟩)) (w.alloc (.cells z.cells t)) := by
  simp [Instr.alloc, zeroValue, typeInfo, hi, hz, newVar, newRow]
/-- A variable of an array's type, new. -/
theorem wpList_alloc_zero {ops : Array Oper} {rest : List Oper} {o : Oper} {a : Act} {w : World} {Q : Exit → Act → World → Prop} (hgd : o.guard = none) (t : TypeId) (ho : o.op = .alloc t)
    (cs : Array Value) (hz : (P.info? t).bind (·.zero) = some (.agg cs)) (N : Nat) (hN : w.heap.size = N)
    (h : wpList P ops Q rest (a.put o.dst (.pointer (some ⟨N, 0, none⟩))) (w.alloc (.cells cs t))) : wpList P ops Q (o :: rest) a w := by
  subst hN
  cases hi : P.info? t with
  | none => simp [hi] at hz
  | some i =>
    simp only [hi, Option.bind_some] at hz
    refine wpList_plain hgd fun _ hK => ?_
    unfold Oper.wp execOp
    simp only [ho, Sem.run_bind, run_alloc_zero w t i _ hi hz, Result.andThen_ok]
    exact hK _ _ h
end
theorem zero_row : (Try.prog.info? 89).bind (·.zero) = some (.agg (tabTo 0)) := by kernel_rfl
theorem size_row : (Try.prog.info? 89).map (·.size) = some 256 := by kernel_rfl

/-- The two blocks of a call that makes a table: the result's, and the table filled up to k. -/
structure Tabs (w0 : World) (k : Nat) (w : World) : Prop where
  res : w.heap[w0.heap.size]? = some (.cells (tabTo 0) 89 (0, 0))
  tab : w.heap[w0.heap.size + 1]? = some (.cells (tabTo k) 89 (0, 0))
  old : Below w0.heap.size w0 w
theorem Tabs.new (w : World) : Tabs w 0 ((w.alloc (.cells (tabTo 0) 89)).alloc (.cells (tabTo 0) 89)) :=
  ⟨heap_alloc2_old w _ _, heap_alloc2_new w _ _, ((Below.refl _ _).alloc (Nat.le_refl _) _).alloc (by simp) _⟩
theorem Tabs.cell {w0 w : World} {k i : Nat} (h : Tabs w0 k w) (hi : i < 256) (hk : i < k) : w.cell? ⟨w0.heap.size + 1, i, none⟩ = some (rv (Go.Proofs.Ytogoaihimepboaa.tab i)) := by
  rw [cell_of_row w _ i _ _ _ h.tab]
  exact tabTo_get hi hk
theorem Tabs.some_cell {w0 w : World} {k i : Nat} (h : Tabs w0 k w) (hi : i < 256) : ∃ u, w.cell? ⟨w0.heap.size + 1, i, none⟩ = some u := by
  rw [cell_of_row w _ i _ _ _ h.tab]
  exact ⟨_, Array.getElem?_eq_getElem (by rw [tabTo_size]; exact hi)⟩
theorem Tabs.free {w0 w : World} {k : Nat} (h : Tabs w0 k w) (i : Nat) : w.frozen? ⟨w0.heap.size + 1, i, none⟩ = false := frozen_of_row w _ i _ _ h.tab
theorem Tabs.go {w0 w : World} {k : Nat} (h : Tabs w0 k w) (hk : k < 256) {z : Int} (hz : z = ((Go.Proofs.Ytogoaihimepboaa.tab k).toNat : Int)) : Tabs w0 (k + 1) (w.setCell ⟨w0.heap.size + 1, k, none⟩ (.int .u32 z)) := by
  subst hz
  refine ⟨?_, ?_, h.old.setCell (by simp) _⟩
  · rw [heap_setCell_other w _ _ _ (by simp)]
    exact h.res
  · rw [heap_setCell_same w _ _ _ _ _ h.tab, tabTo_set hk]

theorem below_setRow {B : Nat} {a w : World} (h : Below B a w) {g : Nat} (hg : B ≤ g) (cs : Array Value) : Below B a (w.setRow g cs) :=
  ⟨h.os, h.tape, h.output, by rw [size_setRow]; exact h.size, fun k hk => (setRow_other w g k cs (by omega)).trans (h.block k hk)⟩
theorem of_small {k : Nat} (h : k < 256) : (k : Int) = ((BitVec.ofNat 32 k).toNat : Int) := by
  rw [BitVec.toNat_ofNat]
  omega

end Go.Proofs.Ytogoaihimepboaa

namespace Go.Proofs.Ytogoaihimepboaa
open Go.RowKit

/-- A number without its lowest digit that is 1. -/
def low (k : Nat) : Nat := k &&& (k - 1)
theorem low_facts : ∀ k : Fin 256, low k.val < 256 ∧ (low k.val ≠ 0 → low k.val < k.val ∧ k.val ^^^ low k.val < k.val) := by decide +kernel
theorem i64_and_nat (a b : Nat) (ha : a < 9223372036854775808) (hb : b < 9223372036854775808) : bits .and .i64 (a : Int) (b : Int) = ((a &&& b : Nat) : Int) := by
  have hx : a &&& b < 2 ^ 63 := Nat.and_lt_two_pow _ (by omega)
  have ofInt (a : Nat) (ha : a < 9223372036854775808) : (BitVec.ofInt 64 (a : Int)).toNat = a := by
    rw [BitVec.ofInt_natCast, BitVec.toNat_ofNat]; exact Nat.mod_eq_of_lt (by omega)
  show IntKind.i64.wrap ((BitVec.ofInt 64 (a : Int) &&& BitVec.ofInt 64 (b : Int)).toNat : Int) = _
  rw [BitVec.toNat_and, ofInt a ha, ofInt b hb, IntKind.wrap_i64]
  omega
theorem i64_xor_nat (a b : Nat) (ha : a < 9223372036854775808) (hb : b < 9223372036854775808) : bits .xor .i64 (a : Int) (b : Int) = ((a ^^^ b : Nat) : Int) := by
  have hx : a ^^^ b < 2 ^ 63 := Nat.xor_lt_two_pow (by omega) (by omega)
  have ofInt (a : Nat) (ha : a < 9223372036854775808) : (BitVec.ofInt 64 (a : Int)).toNat = a := by
    rw [BitVec.ofInt_natCast, BitVec.toNat_ofNat]; exact Nat.mod_eq_of_lt (by omega)
  show IntKind.i64.wrap ((BitVec.ofInt 64 (a : Int) ^^^ BitVec.ofInt 64 (b : Int)).toNat : Int) = _
  rw [BitVec.toNat_xor, ofInt a ha, ofInt b hb, IntKind.wrap_i64]
  omega
theorem low_bits (k : Nat) (h : k < 256) : bits .and .i64 (k : Int) ((k : Int) - 1) = (low k : Int) := by
  cases k with
  | zero => decide +kernel
  | succ n =>
    have e : (((n + 1 : Nat) : Int) - 1) = (n : Int) := by omega
    rw [e]
    exact i64_and_nat (n + 1) n (by omega) (by omega)

theorem digits_at {z : Int} {c : BitVec 32} (w : World) (h : z = (c.toNat : Int)) : Calls Try.prog 60 #[.int .u32 z] w fun e w' => e = .returned (rv (steps 8 c)) ∧ w = w' := by
  subst h
  exact digits_any c w

theorem Tabs.drew {w0 w : World} {k : Nat} (h : Tabs w0 k w) : Tabs w0 k w.drew := ⟨h.res, h.tab, h.old.drew⟩

set_option maxHeartbeats 1000000 in
set_option maxRecDepth 100000 in
theorem crcTable_any (w : World) : Calls Try.prog 55 #[] w fun e w' => e = .returned (.agg tabV) ∧ Below w.heap.size w w' := by
  go_enter Try.func55, Try.ntmps55
  go_wp2_with (refine wpList_alloc_zero rfl 89 rfl _ zero_row _ rfl ?_)
  go_loopw [4] (fun i wr => ∃ k : Nat, k ≤ 256 ∧ i = .int .i64 (k : Int) ∧ Tabs w k wr) (fun i _ => 256 - (intOf i).toNat)
  case atStart => exact ⟨0, by omega, rfl, Tabs.new w⟩
  case round =>
    obtain ⟨k, hk, rfl, ht⟩ := hrel
    by_cases hlt : k < 256
    · have hd : decide ((k : Int) < 256) = true := by rw [decide_eq_true_iff]; omega
      have hand := low_bits k hlt
      obtain ⟨hr256, hrk⟩ := low_facts ⟨k, hlt⟩
      simp only at hr256 hrk
      have hpar := tab_parts k (low k)
      obtain ⟨r, hr⟩ : ∃ r, r = low k := ⟨_, rfl⟩
      rw [← hr] at hand hr256 hrk hpar
      have Hpar := Lib.hid hpar
      clear hr hpar
      obtain ⟨u, hu⟩ := ht.some_cell hlt
      have hf := ht.free k
      by_cases h0 : r = 0
      · subst h0
        go_wp2_with fail
        refine (digits_at _ (of_small hlt)).mono ?_
        rintro e w' ⟨rfl, rfl⟩
        go_wp2
        go_roundw
        case rel => exact ⟨k + 1, by omega, by go_num, ht.go hlt rfl⟩
        case measure => simp [intOf]; omega
      · obtain ⟨h1, h2⟩ := hrk h0
        have hx := i64_xor_nat k r (by omega) (by omega)
        have hq : ((r : Int) == 0) = false := by rw [beq_eq_false_iff_ne]; omega
        obtain ⟨q, hqx⟩ : ∃ q, q = k ^^^ r := ⟨_, rfl⟩
        rw [← hqx] at hx h2 Hpar
        have hc1 := ht.cell (i := r) hr256 h1
        have hc2 := ht.cell (i := q) (by omega) h2
        have hi0 : (0 : Int) ≤ (r : Int) := by omega
        have hi1 : (r : Int) < 256 := by omega
        have hi2 : (q : Int) < 256 := by omega
        have hi3 : (k : Int) < 256 := by omega
        clear hqx hrk h1 h2
        go_wp2_with fail
        go_still_tail 11, (by kernel_rfl)
        go_wp2
        go_roundw
        case rel => exact ⟨k + 1, by omega, by go_num, ht.drew.go hlt (by rw [← Hpar.out, BitVec.toNat_xor]; exact xor_nat rfl rfl (tab r).isLt (tab q).isLt)⟩
        case measure => simp [intOf]; omega
    · obtain rfl : k = 256 := by omega
      have hg := ht.tab
      have hg0 := ht.res
      rw [tabTo_all] at hg
      go_wp2_with (first | refine wpList_load_row rfl 89 (.tmp 1) rfl _ rfl _ _ _ _ hg Try.underlying89 rfl (by rw [size_row, tabV_size]) ?_ | refine wpList_store_row rfl 89 (.tmp 0) (.tmp 30) rfl _ _ rfl rfl _ _ hg0 (by rw [size_row, tabV_size]) (by rw [tabTo_size, tabV_size]) tabV_one ?_)
      exact bodyPost_ret (v := .agg tabV) (results_cell_row rfl _ _ w.heap.size _ _ _ _ rfl (setRow_heap _ _ _ _ _ _ hg0) Try.underlying89 rfl (by rw [size_row, tabV_size])) rfl ⟨rfl, below_setRow ht.old (Nat.le_refl _) _⟩
end Go.Proofs.Ytogoaihimepboaa

namespace Go.Proofs.Ytogoaihimepboaa
open Go.RowKit

theorem wpList_store_tab {P : Program} {ops : Array Oper} {rest : List Oper} {o : Oper} {a : Act} {w : World} {Q : Exit → Act → World → Prop} (hgd : o.guard = none) (ty : TypeId) (x y : Operand) (ho : o.op = .store ty x y)
    (g : Nat) (cells : Array Value) (hx : a.eval x = .pointer (some ⟨g, 0, none⟩)) (hy : a.eval y = .agg cells)
    (t : TypeId) (old : Array Value) (hg : w.heap[g]? = some (.cells old t (0, 0))) (hi : (P.info? ty).map (·.size) = some cells.size)
    (hold : old.size = cells.size) (h1 : cells.all (·.oneCell') = true) (hd : o.dst = none)
    (h : wpList P ops Q rest a (w.setRow g cells)) : wpList P ops Q (o :: rest) a w :=
  wpList_store_row hgd ty x y ho g cells hx hy t old hg hi hold h1 (by rw [hd]; exact h)

/-- A table stored in a new variable: what may be read there. -/
theorem store_tab {ops : Array Oper} {rest : List Oper} {o : Oper} {a : Act} {w : World} {Q : Exit → Act → World → Prop} (x y : Operand) (hgd : o.guard = none) (ho : o.op = .store 89 x y)
    (hx : a.eval x = .pointer (some ⟨w.heap.size, 0, none⟩)) (hy : a.eval y = .agg tabV) (hd : o.dst = none)
    (h : ∀ W, Below w.heap.size w W → Hid (∀ i, i < 256 → W.cell? ⟨w.heap.size, i, none⟩ = some (rv (tab i))) → w.heap.size + 1 ≤ W.heap.size → wpList Try.prog ops Q rest a W) :
    wpList Try.prog ops Q (o :: rest) a (w.alloc (.cells (tabTo 0) 89)) := by
  refine wpList_store_row hgd _ x y ho w.heap.size tabV hx hy _ _ (heap_alloc_new _ _) (by rw [size_row, tabV_size]) (by rw [tabTo_size, tabV_size]) tabV_one ?_
  rw [hd]
  refine h _ (below_setRow ((Below.refl _ _).alloc (Nat.le_refl _) _) (Nat.le_refl _) _) ?_ (by simp)
  intro i hi
  rw [cell_of_row _ _ i _ _ _ (setRow_heap _ _ _ _ _ _ (heap_alloc_new _ _))]
  unfold tabV
  rw [List.getElem?_toArray, List.getElem?_map, List.getElem?_range hi, Option.map_some]

theorem not_max {n : Nat} {c : BitVec 32} (h : Hid (n = c.toNat)) : bits .xor .u32 IntKind.u32.max (n : Int) = ((~~~ c).toNat : Int) := by
  have e : ~~~ c = 4294967295#32 ^^^ c := by
    rw [BitVec.xor_comm, ← BitVec.xor_allOnes]
    rfl
  rw [e, BitVec.toNat_xor, h.out]
  exact u32_xor_nat _ _ (by decide) c.isLt
theorem place_bits {m : Nat} {y : BitVec 32} {b : UInt8} (h : Hid (m = y.toNat)) : bits .xor .u8 ((m : Int) % 256) (b.toNat : Int) = (place y b : Int) := by
  have e : (m : Int) % 256 = ((y.toNat % 256 : Nat) : Int) := by rw [h.out]; omega
  rw [e]
  exact u8_xor_nat _ _ (by omega) b.toNat_lt

theorem feed_bits {m p : Nat} {y : BitVec 32} {b : UInt8} (h : Hid (m = y.toNat)) (hp : p = place y b) : bits .xor .u32 ((m : Int) / 256) ((tab p).toNat : Int) = ((feed y b).toNat : Int) := by
  rw [feed_tab, ← hp, BitVec.toNat_xor, BitVec.toNat_ushiftRight, Nat.shiftRight_eq_div_pow]
  have e : (m : Int) / 256 = ((y.toNat / 2 ^ 8 : Nat) : Int) := by rw [h.out]; omega
  rw [e]
  exact u32_xor_nat _ _ (by have := y.isLt; omega) (tab p).isLt

set_option maxHeartbeats 1000000 in
set_option maxRecDepth 100000 in
theorem goOn_any (c : BitVec 32) (A : Option Addr) (cap B : Nat) (rows : List Row) (w : World) (hl : rows.length ≤ 140737488351232) (hls : ∀ r ∈ rows, r.l.length ≤ 140737488351232) (hB : B ≤ w.heap.size) (hr : RdR w B A rows) :
    Calls Try.prog 48 #[rv c, .slice A rows.length cap] w fun e w' => e = .returned (rv (upd c (bytes rows))) ∧ Below w.heap.size w w' := by
  have hlen : (rows.length : Int) ≤ 140737488351232 := by omega
  have Hls := Lib.hid hls
  clear hl hls
  obtain ⟨n, hn, hnc, hlt'⟩ := letter c
  rw [hn]
  clear hn
  go_enter Try.func48, Try.ntmps48
  go_wp2_with fail
  refine (crcTable_any _).mono ?_
  rintro e w1 ⟨rfl, hb1⟩
  go_wp2_with (first | refine wpList_alloc_zero rfl 89 rfl _ zero_row _ rfl ?_ | refine wpList_store_tab rfl 89 (.tmp 5) (.tmp 11) rfl w1.heap.size tabV rfl rfl _ _ (heap_alloc_new _ _) (by rw [size_row, tabV_size]) (by rw [tabTo_size, tabV_size]) tabV_one rfl ?_)
  obtain ⟨W, hW⟩ : ∃ W, W = (w1.alloc (.cells (tabTo 0) 89)).setRow w1.heap.size tabV := ⟨_, rfl⟩
  rw [← hW]
  have hg : W.heap[w1.heap.size]? = some (.cells tabV 89 (0, 0)) := by rw [hW]; exact setRow_heap _ _ _ _ _ _ (heap_alloc_new _ _)
  have hbW : Below w.heap.size w W := by rw [hW]; exact below_setRow (hb1.alloc hb1.size _) hb1.size _
  have HbW := Lib.hid hbW
  have hrW := hr.below (hbW.mono hB)
  obtain ⟨N, hN⟩ : ∃ N, N = w1.heap.size := ⟨_, rfl⟩
  rw [← hN] at hg ⊢
  have htab : Hid (∀ i, i < 256 → W.cell? ⟨N, i, none⟩ = some (rv (tab i))) := fun i hi => by
    rw [cell_of_row W _ i _ _ _ hg]
    unfold tabV
    rw [List.getElem?_toArray, List.getElem?_map, List.getElem?_range hi, Option.map_some]
  clear hW hN hg hbW hb1 hr
  go_loop [6, 16] (fun r i => ∃ (k : Nat) (x : BitVec 32), k ≤ rows.length ∧ i = .int .i64 (k : Int) ∧ r = rv x ∧ Hid (x = reg (~~~ c) (bytes (rows.take k)))) (fun _ i => rows.length - (intOf i).toNat)
  case atStart => exact ⟨0, ~~~ c, by omega, rfl, val_u32 (not_max hnc), by exact rfl⟩
  case round =>
    obtain ⟨k, x, hk, rfl, rfl, hx⟩ := hrel
    by_cases hlt : k < rows.length
    · obtain ⟨ad, r, rfl, _, hc, hk', hrow⟩ := hrW.at_ hlt
      have hll : (r.l.length : Int) ≤ 140737488351232 := by have := Hls.out r (mem_of_get hk'); omega
      go_wp2
      go_loop [6, 22] (fun q i => ∃ (j : Nat) (y : BitVec 32), j ≤ r.l.length ∧ i = .int .i64 (j : Int) ∧ q = rv y ∧ Hid (y = reg x (r.l.take j))) (fun _ i => r.l.length - (intOf i).toNat)
      case atStart => exact ⟨0, x, by omega, rfl, rfl, by exact rfl⟩
      case round =>
        obtain ⟨j, y, hj, rfl, rfl, hy⟩ := hrel
        by_cases hltj : j < r.l.length
        · obtain ⟨ad', b, hA, _, hcb, hb⟩ := RdB.at_ hrow hltj
          obtain ⟨m, hm, hmy, hmlt⟩ := letter y
          rw [hm, hA]
          clear hm
          obtain ⟨p, hp⟩ : ∃ p, p = place y b := ⟨_, rfl⟩
          have hp256 : (p : Int) < 256 := by have := place_lt y b; omega
          have hpx := place_bits (b := b) hmy
          have hct := htab.out p (by omega)
          rw [← hp] at hpx
          have Hp := Lib.hid hp
          clear hp
          go_wp2
          go_round
          case rel => exact ⟨j + 1, feed y b, by omega, by go_num, val_u32 (feed_bits hmy Hp.out), by rw [take_snoc hb, reg_append, ← hy.out]; exact rfl⟩
          case measure => simp [intOf]; omega
        · obtain rfl : j = r.l.length := by omega
          go_wp2
          go_round
          case rel => exact ⟨k + 1, y, by omega, by go_num, rfl, by rw [hy.out, List.take_length, bytes_snoc hk', reg_append, hx.out]; exact rfl⟩
          case measure => simp [intOf]; omega
    · obtain rfl : k = rows.length := by omega
      obtain ⟨m, hm, hmy, hmlt⟩ := letter x
      rw [hm]
      clear hm
      go_wp2
      go_ret
      refine ⟨ret_u32 ?_, HbW.out⟩
      rw [not_max hmy, hx.out, List.take_length]
      rfl
end Go.Proofs.Ytogoaihimepboaa

namespace Go.Proofs.Ytogoaihimepboaa
open Go.RowKit

theorem goOn_at {z : Int} {c : BitVec 32} (hz : z = (c.toNat : Int)) (A : Option Addr) (n cap B : Nat) (rows : List Row) (hn : n = rows.length) (w : World) (hl : rows.length ≤ 140737488351232) (hls : ∀ r ∈ rows, r.l.length ≤ 140737488351232) (hB : B ≤ w.heap.size) (hr : RdR w B A rows) :
    Calls Try.prog 48 #[.int .u32 z, .slice A n cap] w fun e w' => e = .returned (rv (upd c (bytes rows))) ∧ Below w.heap.size w w' := by
  subst hz hn
  exact goOn_any c A cap B rows w hl hls hB hr

theorem sum_any (A : Option Addr) (cap B : Nat) (rows : List Row) (w : World) (hl : rows.length ≤ 140737488351232) (hls : ∀ r ∈ rows, r.l.length ≤ 140737488351232) (hB : B ≤ w.heap.size) (hr : RdR w B A rows) :
    Calls Try.prog 37 #[.slice A rows.length cap] w fun e w' => e = .returned (rv (sum (bytes rows))) ∧ Below w.heap.size w w' := by
  have Hl := Lib.hid hl
  have Hls := Lib.hid hls
  clear hl hls
  go_enter Try.func37, Try.ntmps37
  go_wp2_with fail
  refine (goOn_at (c := 0#32) rfl A _ cap B rows rfl _ Hl.out Hls.out hB hr).mono ?_
  rintro e w1 ⟨rfl, hb1⟩
  go_wp2
  go_ret
  exact ⟨rfl, hb1⟩

theorem eq_bits (a b : BitVec 32) : ((a.toNat : Int) == (b.toNat : Int)) = decide (a = b) := by
  rw [Bool.eq_iff_iff, beq_iff_eq, decide_eq_true_iff]
  constructor
  · intro h
    exact BitVec.eq_of_toNat_eq (by omega)
  · rintro rfl
    rfl

theorem match_any (c : BitVec 32) (A : Option Addr) (cap B : Nat) (rows : List Row) (w : World) (hl : rows.length ≤ 140737488351232) (hls : ∀ r ∈ rows, r.l.length ≤ 140737488351232) (hB : B ≤ w.heap.size) (hr : RdR w B A rows) :
    Calls Try.prog 40 #[rv c, .slice A rows.length cap] w fun e w' => e = .returned (.bool (decide (sum (bytes rows) = c))) ∧ Below w.heap.size w w' := by
  have Hl := Lib.hid hl
  have Hls := Lib.hid hls
  clear hl hls
  have He := Lib.hid (eq_bits (sum (bytes rows)) c)
  obtain ⟨n, hn, hnc, hlt'⟩ := letter c
  rw [hn]
  clear hn
  go_enter Try.func40, Try.ntmps40
  go_wp2_with fail
  refine (sum_any A cap B rows _ Hl.out Hls.out hB hr).mono ?_
  rintro e w1 ⟨rfl, hb1⟩
  go_wp2
  go_ret
  exact ⟨ret_bool (by rw [hnc.out]; exact He.out), hb1⟩

theorem bytes_le (rows : List Row) (k : Nat) : (bytes (rows.take k)).length ≤ (bytes rows).length := by
  conv => rhs; rw [← List.take_append_drop k rows]
  unfold bytes
  rw [List.flatMap_append, List.length_append]
  omega

set_option maxHeartbeats 1000000 in
theorem refSum_big (A : Option Addr) (cap B : Nat) (rows : List Row) (w : World) (hl : rows.length ≤ 140737488351232) (hls : (bytes rows).length ≤ 140737488355327) (hB : B ≤ w.heap.size) (hr : RdR w B A rows) :
    Calls Try.prog 38 #[.slice A rows.length cap] w fun e w' => e = .returned (rv (sum (bytes rows))) ∧ Below w.heap.size w w' := by
  have hlen : (rows.length : Int) ≤ 140737488351232 := by omega
  have Hls := Lib.hid hls
  clear hl hls
  go_enter Try.func38, Try.ntmps38
  go_wp2
  go_loopw [3, 4] (fun v i wr => ∃ k : Nat, k ≤ rows.length ∧ i = .int .i64 (k : Int) ∧ wr.ownsRow w.heap.size 5 1 v (bytes (rows.take k)).length (bs (bytes (rows.take k))) ∧ Below w.heap.size w wr) (fun _ i _ => rows.length - (intOf i).toNat)
  case atStart => exact ⟨0, by omega, rfl, World.ownsRow_nil _ _ _ _, .refl _ _⟩
  case round =>
    obtain ⟨k, hk, rfl, hown, hb⟩ := hrel
    by_cases hlt : k < rows.length
    · obtain ⟨ad, r, rfl, _, hc, hk', hrow⟩ := (hr.below (hb.mono hB)).at_ hlt
      have Hll := Lib.hid (show (bytes (rows.take k)).length + r.l.length ≤ 140737488355327 by
        have h1 := bytes_le rows (k + 1)
        rw [bytes_snoc hk', List.length_append] at h1
        have := Hls.out
        omega)
      have hz := hb.size
      go_wp2_with (at_builtin; refine push_row (.tmp 11) (.tmp 15) hown hz hrow Hll.out rfl rfl rfl rfl ?_; intro v1 w1 hown1 hb1 hbs1 hg1; clear hown)
      go_roundw
      case rel => exact ⟨k + 1, by omega, by go_num, by rw [bytes_snoc hk']; exact hown1, hb.trans hb1⟩
      case measure => simp [intOf]; omega
    · obtain rfl : k = rows.length := by omega
      rw [List.take_length] at hown
      obtain ⟨A1, c1, rfl, _, _, hr1⟩ := own_form hown
      clear hown
      go_wp2_with fail
      refine (refUpdate_big 0#32 A1 c1 wr.heap.size (bytes rows) _ Hls.out hr1).mono ?_
      rintro e w1 ⟨rfl, rfl⟩
      go_wp2
      go_ret
      exact ⟨rfl, hb⟩
theorem refSum_any (A : Option Addr) (cap B : Nat) (rows : List Row) (w : World) (hl : rows.length ≤ 140737488351232) (hls : (bytes rows).length ≤ 140737488351232) (hB : B ≤ w.heap.size) (hr : RdR w B A rows) :
    Calls Try.prog 38 #[.slice A rows.length cap] w fun e w' => e = .returned (rv (sum (bytes rows))) ∧ Below w.heap.size w w' := refSum_big A cap B rows w hl (by omega) hB hr
end Go.Proofs.Ytogoaihimepboaa

namespace Go.Proofs.Ytogoaihimepboaa
open Go.RowKit

theorem sumOne (W : World) (N : Nat) (hN : W.heap.size = N) (A : Option Addr) (c n B : Nat) (l : List UInt8) (hn : l.length = n) (hl : l.length ≤ 140737488351232) (hB : B ≤ N) (hr : RdB W B A l) (z : Int) (hz : ((sum l).toNat : Int) = z) :
    Calls Try.prog 37 #[.slice (some ⟨N, 0, none⟩) 1 1] (W.alloc (.cells #[.slice A n c] 22)) fun e w' => e = .returned (.int .u32 z) ∧ Below N W w' ∧ N + 1 ≤ w'.heap.size := by
  subst hn hz hN
  have h := sum_any (some ⟨W.heap.size, 0, none⟩) 1 (W.heap.size + 1) [⟨A, c, l⟩] (W.alloc (.cells #[.slice A l.length c] 22)) (by simp) (by intro r hr; simp only [List.mem_singleton] at hr; subst hr; exact hl) (by simp) (RdR.new W B [⟨A, c, l⟩] 22 hB (by intro r hr'; simp only [List.mem_singleton] at hr'; subst hr'; exact hr))
  refine h.mono ?_
  rintro e w' ⟨rfl, hb⟩
  exact ⟨congrArg (fun l => Ending.returned (rv (sum l))) (by simp [bytes]), ((Below.refl _ _).alloc (Nat.le_refl _) _).trans (hb.mono (by simp)), by have := hb.size; simpa using this⟩
theorem reads_marked (W : World) {xs : List Value} {l : List UInt8} (hx : xs = bs l) (fr : Nat × Nat) : RdB (W.alloc (.cells xs.toArray 5 fr)) (W.heap.size + 1) (some ⟨W.heap.size, 0, none⟩) l := by
  subst hx
  refine ⟨by rw [bs_len]; omega, fun _ => ⟨_, rfl, by simp, fun j u hu => ?_⟩⟩
  have hadd : (⟨W.heap.size, 0, none⟩ : Addr).add j = ⟨W.heap.size, j, none⟩ := by unfold Addr.add; split <;> simp_all
  rw [hadd, cell_of_row (W.alloc (.cells (bs l).toArray 5 fr)) W.heap.size j (bs l).toArray _ fr (heap_alloc_new W _)]
  simpa using hu
theorem sum_digits : ((sum [49, 50, 51, 52, 53, 54, 55, 56, 57]).toNat : Int) = 3808858755 := by decide +kernel
theorem sum_noughts : ((sum (noughts 32)).toNat : Int) = 2324772522 := by decide +kernel
theorem sum_ones : ((sum (List.replicate 32 255)).toNat : Int) = 1655221059 := by decide +kernel
theorem tab_1 : ((tab 1).toNat : Int) = 4067132163 := by decide +kernel
theorem tab_128 : ((tab 128).toNat : Int) = 2197175160 := by decide +kernel
theorem RdR.nil (w : World) (B : Nat) : RdR w B none [] := ⟨Reads.none_, by simp⟩
theorem sumNil (w : World) : Calls Try.prog 37 #[.slice none 0 0] w fun e w' => e = .returned (.int .u32 0) ∧ Below w.heap.size w w' :=
  (sum_any none 0 0 [] w (by simp) (by simp) (by omega) (RdR.nil w 0)).mono fun _ _ ⟨he, hb⟩ => ⟨he, hb⟩

end Go.Proofs.Ytogoaihimepboaa

namespace Go.Proofs.Ytogoaihimepboaa
open Go.RowKit

theorem xor8 (x y : UInt8) : bits .xor .u8 (x.toNat : Int) (y.toNat : Int) = ((x ^^^ y).toNat : Int) := by
  rw [UInt8.toNat_xor]
  exact u8_xor_nat _ _ x.toNat_lt y.toNat_lt
theorem enter_sum (w : World) (args : Array Value) : (callFunc 37 args).run Try.prog w = .ok (.enter 37 args) w := by kernel_rfl
theorem sum_one {w : World} {v : Value} {l : List UInt8} (h : One w v l) (hl : l.length ≤ 140737488351232) :
    Calls Try.prog 37 #[v] w fun e w' => ∃ u, e = .returned u ∧ Below w.heap.size w w' ∧ u = rv (sum l) := by
  obtain ⟨N, r, rfl, rfl, hr⟩ := h
  refine (sum_any _ 1 _ [r] w (by simp) (by intro q hq; simp only [List.mem_singleton] at hq; subst hq; exact hl) (Nat.le_refl _) hr).mono ?_
  rintro e w' ⟨rfl, hb⟩
  exact ⟨_, rfl, hb, by rw [show bytes [r] = r.l by simp [bytes]]⟩
theorem exec_xor32 {b : Act} {w : World} {o : Oper} {x y : Operand} {c d : BitVec 32} (ho : o.op = .binOp .xor 71 x y 71) (h : b.eval x = rv c) (h' : b.eval y = rv d) : (execOp b.eval o).run Try.prog w = .ok (.value (rv (c ^^^ d))) w := by
  have e := u32_xor_nat c.toNat d.toNat c.isLt d.isLt
  rw [← BitVec.toNat_xor] at e
  unfold execOp
  simp only [ho, h, h']
  go_simp
theorem exec_eq32 {b : Act} {w : World} {o : Oper} {x y : Operand} {c : BitVec 32} (ho : o.op = .binOp .eql 71 x y 71) (h : b.eval x = rv c) (h' : b.eval y = rv c) : (execOp b.eval o).run Try.prog w = .ok (.value (.bool true)) w := by
  unfold execOp
  simp only [ho, h, h']
  go_simp

end Go.Proofs.Ytogoaihimepboaa
