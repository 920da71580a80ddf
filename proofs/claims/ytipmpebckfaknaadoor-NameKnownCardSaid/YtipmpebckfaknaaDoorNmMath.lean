/- What the document says of names: digits, the parts between the strokes, a text's Name, a Name's text. No memory. Conditions: numbers below 2^64. -/
import Derived.Test.YtipmpebckfaknaaDoorNmB
import Derived.Test.YtipmpebckfaknaaDoorNmD
import Derived.Lib.ParseIntB
import Derived.Lib.ItoaLen
namespace Go.Proofs.YtipmpebckfaknaaDoor
open Go.RowKit Go.Lib

/-! ### digits -/
def Dig (c : UInt8) : Prop := 48 ≤ c.toNat ∧ c.toNat ≤ 57
def valD (acc : Nat) : List UInt8 → Nat
  | [] => acc
  | c :: r => valD (acc * 10 + (c.toNat - 48)) r
theorem valD_snoc : ∀ (l : List UInt8) (acc : Nat) (c : UInt8), valD acc (l ++ [c]) = valD acc l * 10 + (c.toNat - 48)
  | [], _, _ => rfl
  | _ :: r, _, c => valD_snoc r _ c
theorem valD_ge : ∀ (l : List UInt8) (acc : Nat), acc ≤ valD acc l
  | [], _ => Nat.le_refl _
  | c :: r, acc => by
    have := valD_ge r (acc * 10 + (c.toNat - 48))
    show acc ≤ valD (acc * 10 + (c.toNat - 48)) r
    omega
theorem parseM_ok {M : Nat} : ∀ {l : List UInt8} {acc u : Nat}, acc ≤ M → parseUintM M acc l = .ok u → (∀ c ∈ l, Dig c) ∧ u = valD acc l ∧ u ≤ M
  | [], acc, u, ha, h => by
    unfold parseUintM at h
    injection h with h
    subst h
    exact ⟨by simp, rfl, ha⟩
  | c :: r, acc, u, ha, h => by
    unfold parseUintM at h
    split at h
    · rename_i hc
      split at h
      · cases h
      · split at h
        · cases h
        · rename_i h1 h2
          obtain ⟨i1, i2, i3⟩ := parseM_ok (by omega) h
          exact ⟨by intro x hx; rcases List.mem_cons.1 hx with rfl | hx; exact hc; exact i1 x hx, i2, i3⟩
    · cases h
theorem parseM_val {M : Nat} (hM : M ≤ 18446744073709551615) : ∀ {l : List UInt8} {acc : Nat}, (∀ c ∈ l, Dig c) → valD acc l ≤ M → parseUintM M acc l = .ok (valD acc l)
  | [], _, _, _ => rfl
  | c :: r, acc, hd, hv => by
    have hc : 48 ≤ c.toNat ∧ c.toNat ≤ 57 := hd c (by simp)
    have hge := valD_ge r (acc * 10 + (c.toNat - 48))
    have hv' : valD (acc * 10 + (c.toNat - 48)) r ≤ M := hv
    unfold parseUintM
    rw [if_pos hc, if_neg (by omega), if_neg (by omega)]
    exact parseM_val hM (fun x hx => hd x (by simp [hx])) hv'
theorem dig_mk {d : Nat} (h : d < 10) : Dig (UInt8.ofNat (48 + d)) := by
  unfold Dig
  rw [u8_toNat (by omega)]
  omega
theorem decDigits_big {u : Nat} (h : ¬ u < 10) : decDigits u = decDigits (u / 10) ++ [UInt8.ofNat (48 + u % 10)] := by rw [decDigits, dif_neg h]
theorem decDigits_spec (u : Nat) : (∀ c ∈ decDigits u, Dig c) ∧ valD 0 (decDigits u) = u ∧ decDigits u ≠ [] := by
  induction u using Nat.strongRecOn with
  | _ u ih =>
    by_cases h : u < 10
    · rw [decDigits_one h]
      refine ⟨by intro c hc; rw [List.mem_singleton] at hc; subst hc; exact dig_mk h, ?_, by simp⟩
      show 0 * 10 + ((UInt8.ofNat (48 + u)).toNat - 48) = u
      rw [u8_toNat (by omega)]
      omega
    · obtain ⟨i1, i2, _⟩ := ih (u / 10) (by omega)
      rw [decDigits_big h]
      refine ⟨?_, ?_, by simp⟩
      · intro c hc
        rw [List.mem_append, List.mem_singleton] at hc
        rcases hc with hc | rfl
        · exact i1 c hc
        · exact dig_mk (by omega)
      · rw [valD_snoc, i2, u8_toNat (by omega)]
        omega
theorem decDigits_inj {u v : Nat} (h : decDigits u = decDigits v) : u = v := by
  have h1 := (decDigits_spec u).2.1
  have h2 := (decDigits_spec v).2.1
  rw [h] at h1
  omega
theorem head_app {a b : List UInt8} (h : a ≠ []) : (a ++ b).head? = a.head? := by
  cases a with
  | nil => exact absurd rfl h
  | cons x r => rfl
theorem decDigits_head {u : Nat} (h : 1 < (decDigits u).length) : (decDigits u).head? ≠ some 48 := by
  induction u using Nat.strongRecOn with
  | _ u ih =>
    by_cases h10 : u < 10
    · rw [decDigits_one h10] at h
      simp at h
    · rw [decDigits_big h10]
      have hne := (decDigits_spec (u / 10)).2.2
      rw [head_app hne]
      by_cases hs : u / 10 < 10
      · rw [decDigits_one hs]
        intro he
        injection he with he
        have := congrArg UInt8.toNat he
        rw [u8_toNat (by omega)] at this
        have h48 : (48 : UInt8).toNat = 48 := rfl
        omega
      · refine ih (u / 10) (by omega) ?_
        rw [decDigits_big hs, List.length_append]
        have := List.length_pos_iff.2 (decDigits_spec (u / 10 / 10)).2.2
        simp
        exact this
theorem decDigits_val : ∀ (n : Nat) (l : List UInt8), l.length = n → l ≠ [] → (∀ c ∈ l, Dig c) → (1 < l.length → l.head? ≠ some 48) → decDigits (valD 0 l) = l := by
  intro n
  induction n with
  | zero => intro l hl hne; exact absurd (List.eq_nil_of_length_eq_zero hl) hne
  | succ n ih =>
    intro l hl hne hd hh
    obtain ⟨l', c, rfl⟩ : ∃ l' c, l = l' ++ [c] := by
      obtain ⟨l', c, h⟩ := (List.eq_nil_or_concat l).resolve_left hne
      exact ⟨l', c, by rw [h, List.concat_eq_append]⟩
    have hc := hd c (by simp)
    have hcc : UInt8.ofNat (48 + (c.toNat - 48)) = c := by
      rw [show 48 + (c.toNat - 48) = c.toNat by unfold Dig at hc; omega]
      exact UInt8.ofNat_toNat
    rw [valD_snoc]
    by_cases hl' : l' = []
    · subst hl'
      show decDigits (0 * 10 + (c.toNat - 48)) = [c]
      rw [decDigits_one (by unfold Dig at hc; omega), show 0 * 10 + (c.toNat - 48) = c.toNat - 48 by omega, hcc]
    · have hlen : 1 < (l' ++ [c]).length := by
        have := List.length_pos_iff.2 hl'
        simp
        exact this
      have hhd := hh hlen
      rw [head_app hl'] at hhd
      have hpos : 1 ≤ valD 0 l' := by
        cases l' with
        | nil => exact absurd rfl hl'
        | cons x r =>
          have hx := hd x (by simp)
          have hx48 : x.toNat ≠ 48 := by
            intro e
            apply hhd
            have : x = 48 := by
              have h1 : UInt8.ofNat x.toNat = x := UInt8.ofNat_toNat
              rw [e] at h1
              exact h1.symm
            rw [this]; rfl
          have := valD_ge r (0 * 10 + (x.toNat - 48))
          show 1 ≤ valD (0 * 10 + (x.toNat - 48)) r
          unfold Dig at hx
          omega
      have hdc : c.toNat - 48 < 10 := by unfold Dig at hc; omega
      rw [decDigits_big (by omega), show (valD 0 l' * 10 + (c.toNat - 48)) / 10 = valD 0 l' by omega, show (valD 0 l' * 10 + (c.toNat - 48)) % 10 = c.toNat - 48 by omega, hcc,
        ih l' (by simp at hl; exact hl) hl' (fun x hx => hd x (by simp [hx])) (fun _ => hhd)]

/-- The number that digits are. -/
def numOf (l : List UInt8) : Option Nat :=
  if 1 < l.length ∧ l.head? = some 48 then none else match parseUintB 64 l with
    | .ok u => some u
    | _ => none
theorem numOf_iff {l : List UInt8} {u : Nat} : numOf l = some u ↔ u < 18446744073709551616 ∧ decDigits u = l := by
  unfold numOf
  constructor
  · intro h
    split at h
    · cases h
    · rename_i hh
      split at h
      · rename_i v hv
        injection h with h
        subst h
        unfold parseUintB at hv
        split at hv
        · cases hv
        · rename_i hne
          obtain ⟨h1, h2, h3⟩ := parseM_ok (Nat.zero_le _) hv
          have h3' : v ≤ 18446744073709551615 := h3
          refine ⟨by omega, ?_⟩
          rw [h2]
          exact decDigits_val _ l rfl hne h1 (fun hl he => hh ⟨hl, he⟩)
      · cases h
  · rintro ⟨hu, rfl⟩
    obtain ⟨h1, h2, h3⟩ := decDigits_spec u
    rw [if_neg (fun h => decDigits_head h.1 h.2)]
    have hM : (2 : Nat) ^ 64 - 1 = 18446744073709551615 := by decide
    have : parseUintB 64 (decDigits u) = .ok u := by
      unfold parseUintB
      rw [if_neg h3, hM, parseM_val (by decide) h1 (by rw [h2]; omega), h2]
    simp only [this]

/-! ### the parts between the strokes -/
def splitD : List UInt8 → List (List UInt8)
  | [] => [[]]
  | c :: r => if c = 45 then [] :: splitD r else match splitD r with
    | [] => [[c]]
    | h :: t => (c :: h) :: t
theorem splitD_ne (l : List UInt8) : splitD l ≠ [] := by
  cases l with
  | nil => simp [splitD]
  | cons c r =>
    unfold splitD
    split
    · simp
    · split <;> simp
theorem splitD_no {l : List UInt8} (h : (45 : UInt8) ∉ l) : splitD l = [l] := by
  induction l with
  | nil => rfl
  | cons c r ih =>
    have hc : c ≠ 45 := fun e => h (by simp [e])
    unfold splitD
    rw [if_neg hc, ih (fun hm => h (by simp [hm]))]
theorem splitD_cut {l r : List UInt8} (h : (45 : UInt8) ∉ l) : splitD (l ++ 45 :: r) = l :: splitD r := by
  induction l with
  | nil => simp [splitD]
  | cons c l ih =>
    have hc : c ≠ 45 := fun e => h (by simp [e])
    rw [List.cons_append]
    conv => lhs; unfold splitD
    rw [if_neg hc, ih (fun hm => h (by simp [hm]))]
def joinD : List (List UInt8) → List UInt8
  | [] => []
  | [x] => x
  | x :: y :: r => x ++ 45 :: joinD (y :: r)
theorem joinD_cons {x : List UInt8} {r : List (List UInt8)} (h : r ≠ []) : joinD (x :: r) = x ++ 45 :: joinD r := by
  cases r with
  | nil => exact absurd rfl h
  | cons y r => rfl
theorem join_split (l : List UInt8) : joinD (splitD l) = l := by
  induction l with
  | nil => rfl
  | cons c r ih =>
    unfold splitD
    split
    · rename_i hc
      rw [joinD_cons (splitD_ne r), ih, hc]
      rfl
    · split
      · rename_i h
        exact absurd h (splitD_ne r)
      · rename_i h t e
        rw [e] at ih
        cases t with
        | nil =>
          show c :: h = c :: r
          rw [← ih]; rfl
        | cons y t =>
          show (c :: h) ++ 45 :: joinD (y :: t) = c :: r
          rw [← ih]; rfl
theorem split_join : ∀ {ps : List (List UInt8)}, ps ≠ [] → (∀ p ∈ ps, (45 : UInt8) ∉ p) → splitD (joinD ps) = ps
  | [], h, _ => absurd rfl h
  | [x], _, h => splitD_no (h x (by simp))
  | x :: y :: r, _, h => by
    rw [joinD_cons (by simp), splitD_cut (h x (by simp)), split_join (by simp) (fun p hp => h p (by simp at hp ⊢; exact .inr hp))]
theorem dec_no (u : Nat) : (45 : UInt8) ∉ decDigits u := by
  intro h
  have := (decDigits_spec u).1 45 h
  unfold Dig at this
  have h45 : (45 : UInt8).toNat = 45 := rfl
  omega

/-! ### names -/
def letterOf (k : Nat) : List UInt8 := if k = 1 then [115] else if k = 2 then [98] else if k = 3 then [116] else if k = 4 then [106] else []
/-- A Name's text. -/
def putOf (x : Nm) : List UInt8 := if mayOf x = true then letterOf x.k ++ (numsOf x).flatMap (fun u => 45 :: decDigits u) else []
def kindFor (l : List UInt8) (m : Nat) : Nat := if l = [115] ∧ m = 2 then 1 else if l = [98] ∧ m = 2 then 2 else if l = [116] ∧ m = 3 then 3 else if l = [106] ∧ m = 4 then 4 else 0
/-- The Name that numbers behind a letter are. -/
def nameFor (letter : List UInt8) (ns : List Nat) : Option Nm :=
  if kindFor letter ns.length = 0 then none else some (madeOf (kindFor letter ns.length) (ns.getD 0 0) (ns.getD 1 0) (ns.getD 2 0) (ns.getD 3 0))
/-- The Name that a text is. -/
def parseOf (s : List UInt8) : Option Nm :=
  match splitD s with
  | [] => none
  | letter :: ds => if 4 < ds.length then none else (ds.mapM numOf).bind (nameFor letter)
theorem joinD_flat : ∀ (a : List UInt8) (ds : List (List UInt8)), joinD (a :: ds) = a ++ ds.flatMap (fun d => 45 :: d)
  | a, [] => by simp [joinD]
  | a, d :: r => by
    rw [joinD_cons (by simp), joinD_flat d r]
    simp
theorem putOf_join {x : Nm} (h : mayOf x = true) : putOf x = joinD (letterOf x.k :: (numsOf x).map decDigits) := by
  unfold putOf
  rw [if_pos h, joinD_flat, List.flatMap_map]
theorem letter_no (k : Nat) : (45 : UInt8) ∉ letterOf k := by
  unfold letterOf
  repeat' split
  all_goals decide
theorem split_put {x : Nm} (h : mayOf x = true) : splitD (putOf x) = letterOf x.k :: (numsOf x).map decDigits := by
  rw [putOf_join h]
  refine split_join (by simp) fun p hp => ?_
  rcases List.mem_cons.1 hp with rfl | hp
  · exact letter_no _
  · obtain ⟨u, _, rfl⟩ := List.mem_map.1 hp
    exact dec_no u
theorem mapM_dec : ∀ {us : List Nat}, (∀ u ∈ us, u < 18446744073709551616) → (us.map decDigits).mapM numOf = some us
  | [], _ => rfl
  | u :: r, h => by
    rw [List.map_cons, List.mapM_cons, (numOf_iff).2 ⟨h u (by simp), rfl⟩, mapM_dec (fun v hv => h v (by simp [hv]))]
    rfl
theorem mapM_inv : ∀ {ds : List (List UInt8)} {ns : List Nat}, ds.mapM numOf = some ns → ds = ns.map decDigits ∧ ∀ u ∈ ns, u < 18446744073709551616
  | [], ns, h => by
    rw [List.mapM_nil] at h
    injection h with h
    subst h
    exact ⟨rfl, by simp⟩
  | d :: r, ns, h => by
    rw [List.mapM_cons] at h
    cases hu : numOf d with
    | none => rw [hu] at h; cases h
    | some u =>
      rw [hu] at h
      cases hr : r.mapM numOf with
      | none => rw [hr] at h; cases h
      | some us =>
        rw [hr] at h
        obtain rfl : ns = u :: us := (Option.some.inj h).symm
        obtain ⟨h1, h2⟩ := mapM_inv hr
        obtain ⟨h3, h4⟩ := numOf_iff.1 hu
        refine ⟨by rw [List.map_cons, h4, ← h1], fun v hv => ?_⟩
        rcases List.mem_cons.1 hv with rfl | hv
        · exact h3
        · exact h2 v hv
theorem numsOf_ok {x : Nm} (h : x.Ok) : ∀ u ∈ numsOf x, u < 18446744073709551616 := by
  obtain ⟨h0, h1, h2, h3, h4, h5⟩ := h
  unfold numsOf
  intro u hu
  split at hu
  · simp only [List.mem_cons, List.not_mem_nil, or_false] at hu
    omega
  · split at hu
    · simp only [List.mem_cons, List.not_mem_nil, or_false] at hu
      omega
    · split at hu
      · simp only [List.mem_cons, List.not_mem_nil, or_false] at hu
        omega
      · simp at hu
theorem nums_le (x : Nm) : (numsOf x).length ≤ 4 := by
  unfold numsOf
  repeat' split
  all_goals simp
theorem nameFor_nums {x : Nm} (h : mayOf x = true) : nameFor (letterOf x.k) (numsOf x) = some x := by
  obtain ⟨k, d, n, p, i, c⟩ := x
  unfold mayOf at h
  simp only at h
  by_cases h1 : k = 1
  · subst h1
    simp at h
    obtain ⟨⟨rfl, rfl⟩, rfl⟩ := h
    rfl
  · by_cases h2 : k = 2
    · subst h2
      simp at h
      obtain ⟨⟨rfl, rfl⟩, rfl⟩ := h
      rfl
    · rw [if_neg (by omega)] at h
      by_cases h3 : k = 3
      · subst h3
        simp at h
        obtain ⟨rfl, rfl⟩ := h
        rfl
      · rw [if_neg h3] at h
        by_cases h4 : k = 4
        · subst h4
          simp at h
          subst h
          rfl
        · rw [if_neg h4] at h
          cases h
/-- What is put is parsed as it was. -/
theorem parse_put {x : Nm} (hm : mayOf x = true) (hx : x.Ok) : parseOf (putOf x) = some x := by
  unfold parseOf
  rw [split_put hm]
  simp only [List.length_map]
  rw [if_neg (by have := nums_le x; omega), mapM_dec (numsOf_ok hx)]
  exact nameFor_nums hm
theorem z64 : 0 < 18446744073709551616 := by decide
theorem nameFor_inv {letter : List UInt8} {ns : List Nat} {x : Nm} (h : nameFor letter ns = some x) (hn : ∀ u ∈ ns, u < 18446744073709551616) : mayOf x = true ∧ letterOf x.k = letter ∧ numsOf x = ns ∧ x.Ok ∧ x.k = kindFor letter ns.length := by
  unfold nameFor at h
  split at h
  · cases h
  · rename_i hk
    injection h with h
    subst h
    unfold kindFor at hk ⊢
    split
    · rename_i hc
      obtain ⟨rfl, hl⟩ := hc
      match ns, hl with
      | [a, b], _ => exact ⟨rfl, rfl, rfl, ⟨(by decide : (1 : Nat) < 256), hn a (by simp), hn b (by simp), z64, z64, z64⟩, rfl⟩
    · split
      · rename_i hc
        obtain ⟨rfl, hl⟩ := hc
        match ns, hl with
        | [a, b], _ => exact ⟨rfl, rfl, rfl, ⟨(by decide : (2 : Nat) < 256), hn a (by simp), hn b (by simp), z64, z64, z64⟩, rfl⟩
      · split
        · rename_i hc
          obtain ⟨rfl, hl⟩ := hc
          match ns, hl with
          | [a, b, c], _ => exact ⟨rfl, rfl, rfl, ⟨(by decide : (3 : Nat) < 256), z64, z64, hn a (by simp), hn b (by simp), hn c (by simp)⟩, rfl⟩
        · split
          · rename_i hc
            obtain ⟨rfl, hl⟩ := hc
            match ns, hl with
            | [a, b, c, d], _ => exact ⟨rfl, rfl, rfl, ⟨(by decide : (4 : Nat) < 256), hn a (by simp), z64, hn b (by simp), hn c (by simp), hn d (by simp)⟩, rfl⟩
          · rename_i h1 h2 h3 h4
            rw [if_neg h1, if_neg h2, if_neg h3, if_neg h4] at hk
            exact absurd rfl hk
theorem parse_split {s : List UInt8} {x : Nm} (h : parseOf s = some x) : ∃ letter ds ns, splitD s = letter :: ds ∧ ds.length ≤ 4 ∧ ds.mapM numOf = some ns ∧ nameFor letter ns = some x := by
  unfold parseOf at h
  split at h
  · cases h
  · rename_i letter ds e
    split at h
    · cases h
    · cases hm : ds.mapM numOf with
      | none => rw [hm] at h; cases h
      | some ns =>
        rw [hm] at h
        exact ⟨letter, ds, ns, e, by omega, hm, h⟩
/-- What is parsed is put as it was. -/
theorem put_parse {s : List UInt8} {x : Nm} (h : parseOf s = some x) : mayOf x = true ∧ putOf x = s ∧ x.Ok := by
  obtain ⟨letter, ds, ns, e, _, hm, hx⟩ := parse_split h
  obtain ⟨h1, h2⟩ := mapM_inv hm
  obtain ⟨i1, i2, i3, i4, _⟩ := nameFor_inv hx h2
  refine ⟨i1, ?_, i4⟩
  rw [putOf_join i1, i2, i3, ← h1, ← e, join_split]
theorem put_inj {x y : Nm} (hx : mayOf x = true) (ox : x.Ok) (hy : mayOf y = true) (oy : y.Ok) (h : putOf x = putOf y) : x = y := by
  have h1 := parse_put hx ox
  rw [h, parse_put hy oy] at h1
  exact (Option.some.inj h1).symm

/-! ### the reference's way -/
def cands (ns : List Nat) : List Nm := [⟨1, ns.getD 0 0, ns.getD 1 0, 0, 0, 0⟩, ⟨2, ns.getD 0 0, ns.getD 1 0, 0, 0, 0⟩, ⟨3, 0, 0, ns.getD 0 0, ns.getD 1 0, ns.getD 2 0⟩, ⟨4, ns.getD 0 0, 0, ns.getD 1 0, ns.getD 2 0, ns.getD 3 0⟩]
theorem getD_lt {ns : List Nat} (h : ∀ u ∈ ns, u < 18446744073709551616) (i : Nat) : ns.getD i 0 < 18446744073709551616 := by
  rw [List.getD_eq_getElem?_getD]
  cases hi : ns[i]? with
  | none => decide
  | some u => exact h u (List.mem_of_getElem? hi)
theorem cands_ok {ns : List Nat} (h : ∀ u ∈ ns, u < 18446744073709551616) : ∀ c ∈ cands ns, mayOf c = true ∧ c.Ok := by
  intro c hc
  have g := getD_lt h
  simp only [cands, List.mem_cons, List.not_mem_nil, or_false] at hc
  rcases hc with rfl | rfl | rfl | rfl
  · exact ⟨rfl, (by decide : (1 : Nat) < 256), g 0, g 1, z64, z64, z64⟩
  · exact ⟨rfl, (by decide : (2 : Nat) < 256), g 0, g 1, z64, z64, z64⟩
  · exact ⟨rfl, (by decide : (3 : Nat) < 256), z64, z64, g 0, g 1, g 2⟩
  · exact ⟨rfl, (by decide : (4 : Nat) < 256), g 0, z64, g 1, g 2, g 3⟩
theorem parse_find {s letter : List UInt8} {ds : List (List UInt8)} {ns : List Nat} (e : splitD s = letter :: ds) (hm : ds.mapM numOf = some ns) : parseOf s = (cands ns).find? fun c => decide (putOf c = s) := by
  obtain ⟨h1, h2⟩ := mapM_inv hm
  cases hf : (cands ns).find? fun c => decide (putOf c = s) with
  | some c =>
    have hc := List.mem_of_find?_eq_some hf
    have hp := List.find?_some hf
    simp only [decide_eq_true_eq] at hp
    obtain ⟨i1, i2⟩ := cands_ok h2 c hc
    rw [← hp]
    exact parse_put i1 i2
  | none =>
    cases hx : parseOf s with
    | none => rfl
    | some x =>
      exfalso
      have hp := (put_parse hx).2.1
      obtain ⟨letter', ds', ns', e', _, hm', hn'⟩ := parse_split hx
      rw [e] at e'
      obtain ⟨rfl, rfl⟩ : letter = letter' ∧ ds = ds' := by injection e' with a b; exact ⟨a, b⟩
      rw [hm] at hm'
      obtain rfl : ns = ns' := Option.some.inj hm'
      have hin : x ∈ cands ns := by
        unfold nameFor at hn'
        split at hn'
        · cases hn'
        · rename_i hk
          injection hn' with hn'
          subst hn'
          unfold kindFor at hk ⊢
          unfold cands
          split
          · simp [madeOf]
          · split
            · simp [madeOf]
            · split
              · simp [madeOf]
              · split
                · simp [madeOf]
                · rename_i h1 h2 h3 h4
                  rw [if_neg h1, if_neg h2, if_neg h3, if_neg h4] at hk
                  exact absurd rfl hk
      have := List.find?_eq_none.1 hf x hin
      simp [hp] at this
theorem parse_few {s letter : List UInt8} {ds : List (List UInt8)} {ns : List Nat} (e : splitD s = letter :: ds) (hm : ds.mapM numOf = some ns) (h : ns.length < 2 ∨ 4 < ns.length) : parseOf s = none := by
  unfold parseOf
  rw [e]
  simp only
  have hl : ds.length = ns.length := by rw [(mapM_inv hm).1, List.length_map]
  split
  · rfl
  · rw [hm]
    show nameFor letter ns = none
    have hk : kindFor letter ns.length = 0 := by
      unfold kindFor
      rw [if_neg (fun h' => by have := h'.2; omega), if_neg (fun h' => by have := h'.2; omega), if_neg (fun h' => by have := h'.2; omega), if_neg (fun h' => by have := h'.2; omega)]
    unfold nameFor
    rw [if_pos hk]
theorem parse_not {s letter : List UInt8} {ds : List (List UInt8)} (e : splitD s = letter :: ds) (hm : ds.mapM numOf = none) : parseOf s = none := by
  unfold parseOf
  rw [e]
  simp only
  split
  · rfl
  · rw [hm]; rfl
theorem mapM_snoc {ds : List (List UInt8)} {d : List UInt8} {ns : List Nat} {u : Nat} (h : ds.mapM numOf = some ns) (hd : numOf d = some u) : (ds ++ [d]).mapM numOf = some (ns ++ [u]) := by
  rw [List.mapM_append, h, List.mapM_cons, hd]
  rfl
theorem mapM_bad {ds r : List (List UInt8)} {d : List UInt8} (hd : numOf d = none) : (ds ++ d :: r).mapM numOf = none := by
  cases h : ds.mapM numOf with
  | none => rw [List.mapM_append, h]; rfl
  | some ns => rw [List.mapM_append, h, List.mapM_cons, hd]; rfl
end Go.Proofs.YtipmpebckfaknaaDoor
