/- Payloads of a segment: what is told at a place, all of them, what is whole. Conditions: none. -/
import Derived.Test.YtogoaihimepboaaKFrL
namespace Go.Proofs.Ytogoaihimepboaa
open Go.RowKit

/-- What stands at a place: the payload, the place behind it, the error. -/
def nxJ (b : List UInt8) (p : Int) : List UInt8 × Int × Nat :=
  if (takeF b p).2.2 ≠ 0 then ([], p, (takeF b p).2.2) else if (takeF b p).1.1 ≠ 9 then ([], p, 60) else ((takeF b p).1.2, (takeF b p).2.1, 0)
theorem nxJ_err {b : List UInt8} {p : Int} (h : (takeF b p).2.2 ≠ 0) : nxJ b p = ([], p, (takeF b p).2.2) := if_pos h
theorem nxJ_kind {b : List UInt8} {p : Int} (h : (takeF b p).2.2 = 0) (hk : (takeF b p).1.1 ≠ 9) : nxJ b p = ([], p, 60) := by
  unfold nxJ
  rw [if_neg (by simp [h]), if_pos hk]
theorem nxJ_good {b : List UInt8} {p : Int} (h : (takeF b p).2.2 = 0) (hk : (takeF b p).1.1 = 9) : nxJ b p = ((takeF b p).1.2, (takeF b p).2.1, 0) := by
  unfold nxJ
  rw [if_neg (by simp [h]), if_neg (by simp [hk])]
theorem nxJ_no {b : List UInt8} {p : Int} (h : (nxJ b p).2.2 ≠ 0) : (nxJ b p).1 = [] ∧ (nxJ b p).2.1 = p := by
  by_cases h1 : (takeF b p).2.2 = 0
  · by_cases h2 : (takeF b p).1.1 = 9
    · rw [nxJ_good h1 h2] at h
      exact absurd rfl h
    · rw [nxJ_kind h1 h2]
      exact ⟨rfl, rfl⟩
  · rw [nxJ_err h1]
    exact ⟨rfl, rfl⟩
/-- A payload that is told stands there. -/
theorem nxJ_ok {b : List UInt8} {p : Int} (h : (nxJ b p).2.2 = 0) :
    ∃ q : Nat, ∃ rest, p = (q : Int) ∧ b.drop q = encFr 9 (nxJ b p).1 ++ rest ∧ (nxJ b p).1.length ≤ 65535 ∧ (nxJ b p).2.1 = ((q + fsz (nxJ b p).1.length : Nat) : Int) ∧ q + fsz (nxJ b p).1.length ≤ b.length := by
  by_cases h1 : (takeF b p).2.2 = 0
  · by_cases h2 : (takeF b p).1.1 = 9
    · obtain ⟨q, rest, e1, e2, e3, e4, e5⟩ := takeF_ok h1
      rw [nxJ_good h1 h2]
      rw [h2] at e2
      exact ⟨q, rest, e1, e2, e3, e4, e5⟩
    · rw [nxJ_kind h1 h2] at h
      simp at h
  · rw [nxJ_err h1] at h
    exact absurd h h1
theorem nxJ_enc {b : List UInt8} {q : Nat} {l rest : List UInt8} (hl : l.length ≤ 65535) (h : b.drop q = encFr 9 l ++ rest) : nxJ b q = (l, ((q + fsz l.length : Nat) : Int), 0) := by
  have ht := takeF_enc hl h
  rw [nxJ_good (by rw [ht]) (by rw [ht]), ht]
theorem nxJ_len (b : List UInt8) (p : Int) : (nxJ b p).1.length ≤ 65535 := by
  by_cases h : (nxJ b p).2.2 = 0
  · obtain ⟨_, _, _, _, h3, _⟩ := nxJ_ok h
    exact h3
  · rw [(nxJ_no h).1]
    simp

/-- After i payloads from the beginning on: these, and the place. -/
def sj (b : List UInt8) : Nat → Option (List (List UInt8) × Nat)
  | 0 => some ([], 0)
  | i + 1 => (sj b i).bind fun s => if (nxJ b s.2).2.2 = 0 then some (s.1 ++ [(nxJ b s.2).1], (nxJ b s.2).2.1.toNat) else none
theorem sj_on {b : List UInt8} {i : Nat} {l : List (List UInt8)} {p : Nat} {f : List UInt8} {nx : Nat} (h : sj b i = some (l, p)) (ht : nxJ b p = (f, (nx : Int), 0)) : sj b (i + 1) = some (l ++ [f], nx) := by
  simp only [sj, h, Option.bind_some, ht, if_true, Int.toNat_natCast]
theorem sj_stop {b : List UInt8} {i : Nat} {l : List (List UInt8)} {p : Nat} (h : sj b i = some (l, p)) (ht : (nxJ b p).2.2 ≠ 0) : ∀ j, i < j → sj b j = none := by
  intro j
  induction j with
  | zero => intro h; omega
  | succ j ih =>
    intro hj
    by_cases e : i = j
    · subst e
      simp only [sj, h, Option.bind_some, if_neg ht]
    · simp only [sj, ih (by omega), Option.bind_none]
/-- All's answer, and Whole's. -/
def AllJ (b : List UInt8) (l : List (List UInt8)) (p : Nat) : Prop := sj b l.length = some (l, p) ∧ (nxJ b p).2.2 ≠ 0
theorem allJ_one {b : List UInt8} {l m : List (List UInt8)} {p q : Nat} (h : AllJ b l p) (h' : AllJ b m q) : l = m ∧ p = q := by
  have e : l.length = m.length := by
    rcases Nat.lt_trichotomy l.length m.length with h1 | h1 | h1
    · have := sj_stop h.1 h.2 _ h1
      rw [h'.1] at this
      cases this
    · exact h1
    · have := sj_stop h'.1 h'.2 _ h1
      rw [h.1] at this
      cases this
  have := h.1
  rw [e, h'.1] at this
  simp only [Option.some.injEq, Prod.mk.injEq] at this
  exact ⟨this.1.symm, this.2.symm⟩
/-- Payloads, written. -/
def encJ (l : List (List UInt8)) : List UInt8 := l.flatMap fun m => encFr 9 m
theorem encJ_fs (l : List (List UInt8)) : encJ l = encFs (l.map fun m => (9, m)) := by
  unfold encJ encFs
  rw [List.flatMap_map]
theorem encJ_snoc (l : List (List UInt8)) (m : List UInt8) : encJ (l ++ [m]) = encJ l ++ encFr 9 m := by
  unfold encJ
  rw [List.flatMap_append, List.flatMap_singleton]
theorem encJ_append (l m : List (List UInt8)) : encJ (l ++ m) = encJ l ++ encJ m := List.flatMap_append
theorem encJ_one (m : List UInt8) : encJ [m] = encFr 9 m := by simp [encJ]
/-- What has been told stands from the beginning on. -/
theorem sj_stand {b : List UInt8} : ∀ {i : Nat} {l : List (List UInt8)} {p : Nat}, sj b i = some (l, p) → l.length = i ∧ p ≤ b.length ∧ encJ l = b.take p ∧ ∀ m ∈ l, m.length ≤ 65535
  | 0, l, p, h => by
    simp only [sj, Option.some.injEq, Prod.mk.injEq] at h
    obtain ⟨rfl, rfl⟩ := h
    exact ⟨rfl, by omega, rfl, by simp⟩
  | i + 1, l, p, h => by
    unfold sj at h
    cases hs : sj b i with
    | none => rw [hs] at h; simp at h
    | some s =>
      obtain ⟨l0, p0⟩ := s
      rw [hs] at h
      simp only [Option.bind_some] at h
      obtain ⟨h1, h2, h3, h4⟩ := sj_stand hs
      split at h
      · rename_i he
        simp only [Option.some.injEq, Prod.mk.injEq] at h
        obtain ⟨rfl, rfl⟩ := h
        obtain ⟨q, rest, e1, e2, e3, e4, e5⟩ := nxJ_ok he
        obtain rfl : p0 = q := by omega
        rw [e4, Int.toNat_natCast]
        refine ⟨by simp [h1], e5, ?_, ?_⟩
        · rw [encJ_snoc, h3, List.take_add, e2]
          congr 1
          rw [← encFr_len 9 (nxJ b p0).1, List.take_left]
        · intro m hm
          rw [List.mem_append, List.mem_singleton] at hm
          rcases hm with hm | rfl
          · exact h4 m hm
          · exact e3
      · simp at h
theorem allJ_stand {b : List UInt8} {l : List (List UInt8)} {p : Nat} (h : AllJ b l p) : p ≤ b.length ∧ encJ l = b.take p ∧ ∀ m ∈ l, m.length ≤ 65535 := (sj_stand h.1).2
theorem allJ_len {b : List UInt8} {l : List (List UInt8)} {p : Nat} (h : AllJ b l p) : (encJ l).length = p := by
  obtain ⟨h1, h2, _⟩ := allJ_stand h
  rw [h2, List.length_take]
  omega
/-- There is always an answer. -/
theorem allJ_from {b : List UInt8} : ∀ (n : Nat) {i : Nat} {l : List (List UInt8)} {p : Nat}, b.length ≤ p + n → sj b i = some (l, p) → ∃ m q, AllJ b m q
  | n, i, l, p, hn, h => by
    by_cases he : (nxJ b p).2.2 = 0
    · obtain ⟨q, rest, e1, e2, e3, e4, e5⟩ := nxJ_ok he
      obtain rfl : p = q := by omega
      have h6 := fsz_pos (nxJ b p).1.length
      have hon := sj_on h (show nxJ b p = ((nxJ b p).1, ((p + fsz (nxJ b p).1.length : Nat) : Int), 0) by rw [← e4, ← he])
      match n, hn with
      | 0, hn => omega
      | n + 1, hn => exact allJ_from n (by omega) hon
    · have hl := (sj_stand h).1
      exact ⟨l, p, by rw [hl]; exact h, he⟩
theorem allJ_ex (b : List UInt8) : ∃ l p, AllJ b l p := allJ_from b.length (i := 0) (l := []) (p := 0) (by omega) rfl
/-- Payloads that stand from the beginning on are told. -/
theorem sj_encs {b : List UInt8} {l : List (List UInt8)} (hl : ∀ m ∈ l, m.length ≤ 65535) {rest : List UInt8} (h : b = encJ l ++ rest) : ∀ k, k ≤ l.length → sj b k = some (l.take k, (encJ (l.take k)).length)
  | 0, _ => by simp [sj, encJ]
  | k + 1, hk => by
    have hx : l[k]? = some l[k] := List.getElem?_eq_getElem (by omega)
    have ih := sj_encs hl h k (by omega)
    have e : l.take (k + 1) = l.take k ++ [l[k]] := by rw [List.take_add_one, hx]; rfl
    have hd : b.drop (encJ (l.take k)).length = encFr 9 l[k] ++ (encJ (l.drop (k + 1)) ++ rest) := by
      have e2 : encJ l = encJ (l.take k) ++ (encFr 9 l[k] ++ encJ (l.drop (k + 1))) := by
        conv => lhs; rw [← List.take_append_drop (k + 1) l, e]
        rw [encJ_append, encJ_snoc, List.append_assoc]
      rw [h, e2, List.append_assoc, List.append_assoc]
      exact List.drop_left
    have := sj_on ih (nxJ_enc (hl _ (List.getElem_mem _)) hd)
    rw [this, e, encJ_snoc, List.length_append, encFr_len]
/-- A segment that is cut is whole. -/
theorem allJ_whole {b : List UInt8} {l : List (List UInt8)} {p : Nat} (h : AllJ b l p) : AllJ (b.take p) l p := by
  obtain ⟨h1, h2, h3⟩ := allJ_stand h
  have h4 := sj_encs h3 (b := b.take p) (rest := []) (by rw [List.append_nil, h2]) l.length (Nat.le_refl _)
  rw [List.take_length, allJ_len h] at h4
  refine ⟨h4, fun h0 => ?_⟩
  obtain ⟨q, rest, e1, e2, e3, e4, e5⟩ := nxJ_ok h0
  have h6 := fsz_pos (nxJ (b.take p) p).1.length
  rw [List.length_take] at e5
  omega
/-- Whole payloads. -/
theorem allJ_encs {l : List (List UInt8)} (hl : ∀ m ∈ l, m.length ≤ 65535) : AllJ (encJ l) l (encJ l).length := by
  have h4 := sj_encs hl (b := encJ l) (rest := []) (by rw [List.append_nil]) l.length (Nat.le_refl _)
  rw [List.take_length] at h4
  refine ⟨h4, fun h0 => ?_⟩
  obtain ⟨q, rest, e1, e2, e3, e4, e5⟩ := nxJ_ok h0
  have h6 := fsz_pos (nxJ (encJ l) ((encJ l).length : Nat)).1.length
  omega
/-- Behind whole payloads no less is whole. -/
theorem allJ_more {l m : List (List UInt8)} (hl : ∀ m ∈ l, m.length ≤ 65535) {rest : List UInt8} {p : Nat} (h : AllJ (encJ l ++ rest) m p) : (encJ l).length ≤ p := by
  have h4 := sj_encs hl (b := encJ l ++ rest) (rest := rest) rfl l.length (Nat.le_refl _)
  rw [List.take_length] at h4
  have hle : l.length ≤ m.length := by
    by_cases hc : l.length ≤ m.length
    · exact hc
    · have := sj_stop h.1 h.2 l.length (by omega)
      rw [h4] at this
      cases this
  have h5 := (allJ_stand h).2.1
  have hpre : ∀ k, l.length ≤ k → ∀ {m' : List (List UInt8)} {p' : Nat}, sj (encJ l ++ rest) k = some (m', p') → (encJ l).length ≤ p' := by
    intro k
    induction k with
    | zero => intro hk m' p' h'; rw [show l.length = 0 by omega] at h4; rw [h4] at h'; simp only [Option.some.injEq, Prod.mk.injEq] at h'; omega
    | succ k ih =>
      intro hk m' p' h'
      by_cases hk' : l.length ≤ k
      · unfold sj at h'
        cases hs : sj (encJ l ++ rest) k with
        | none => rw [hs] at h'; simp at h'
        | some s =>
          obtain ⟨l0, p0⟩ := s
          rw [hs] at h'
          simp only [Option.bind_some] at h'
          have := ih hk' hs
          split at h'
          · rename_i he
            simp only [Option.some.injEq, Prod.mk.injEq] at h'
            obtain ⟨q, rest', e1, e2, e3, e4, e5⟩ := nxJ_ok he
            rw [e4, Int.toNat_natCast] at h'
            omega
          · simp at h'
      · rw [show k + 1 = l.length by omega, h4] at h'
        simp only [Option.some.injEq, Prod.mk.injEq] at h'
        omega
  exact hpre m.length hle h.1
/-- Whole payloads, and less than one more, ahead of a cut. -/
theorem allJ_cut {l : List (List UInt8)} (hl : ∀ m ∈ l, m.length ≤ 65535) {n k : Nat} (hk : k ≤ l.length) (hn : (encJ (l.take k)).length ≤ n) (hn' : n ≤ (encJ l).length) (hlast : ∀ m, l[k]? = some m → n < (encJ (l.take k)).length + fsz m.length) :
    AllJ ((encJ l).take n) (l.take k) (encJ (l.take k)).length := by
  have hsp : encJ l = encJ (l.take k) ++ encJ (l.drop k) := by rw [← encJ_append, List.take_append_drop]
  have hcut : (encJ l).take n = encJ (l.take k) ++ ((encJ (l.drop k)).take (n - (encJ (l.take k)).length)) := by
    rw [hsp, List.take_append, List.take_of_length_le hn]
  have hlen : (l.take k).length = k := by rw [List.length_take]; omega
  have h1 := sj_encs (b := (encJ l).take n) (l := l.take k) (fun f hf => hl f (List.mem_of_mem_take hf)) hcut k (by omega)
  rw [List.take_take, Nat.min_self] at h1
  refine ⟨by rw [hlen]; exact h1, fun h0 => ?_⟩
  obtain ⟨q, rest, e1, e2, e3, e4, e5⟩ := nxJ_ok h0
  obtain rfl : (encJ (l.take k)).length = q := by omega
  rw [List.length_take] at e5
  have h6 := fsz_pos (nxJ ((encJ l).take n) ((encJ (l.take k)).length : Nat)).1.length
  by_cases hml : k < l.length
  · have hx : l[k]? = some l[k] := List.getElem?_eq_getElem hml
    have hlt := hlast _ hx
    have hd : (encJ l).drop (encJ (l.take k)).length = encFr 9 l[k] ++ encJ (l.drop (k + 1)) := by
      have e1 : encJ (l.drop k) = encFr 9 l[k] ++ encJ (l.drop (k + 1)) := by
        rw [List.drop_eq_getElem_cons hml]
        rfl
      rw [hsp, List.drop_left, e1]
    have hd2 : (encJ l).drop (encJ (l.take k)).length = encFr 9 (nxJ ((encJ l).take n) ((encJ (l.take k)).length : Nat)).1 ++ (rest ++ (encJ l).drop n) := by
      rw [← List.append_assoc, ← e2]
      rw [List.drop_take]
      have : (encJ l).drop n = ((encJ l).drop (encJ (l.take k)).length).drop (n - (encJ (l.take k)).length) := by rw [List.drop_drop]; congr 1; omega
      rw [this, List.take_append_drop]
    have t1 := nxJ_enc (hl _ (List.getElem_mem hml)) hd
    have t2 := nxJ_enc e3 hd2
    rw [t1] at t2
    simp only [Prod.mk.injEq, and_true] at t2
    have := congrArg List.length t2.1
    omega
  · have : (encJ (l.take k)).length = (encJ l).length := by rw [List.take_of_length_le (by omega)]
    omega
/-- Put's answer. -/
def putJ (l : List (List UInt8)) : List UInt8 × Nat := joinF (l.map fun m => (9, m))
theorem putJ_ok {l : List (List UInt8)} (h : ∀ m ∈ l, m.length ≤ 65535) : putJ l = (encJ l, 0) := by
  unfold putJ
  rw [joinF_ok, encJ_fs]
  intro f hf
  rw [List.mem_map] at hf
  obtain ⟨m, hm, rfl⟩ := hf
  exact h m hm
theorem putJ_no {l : List (List UInt8)} {m : List UInt8} (hm : m ∈ l) (h : 65535 < m.length) : putJ l = ([], 3) :=
  joinF_no (f := (9, m)) (List.mem_map.2 ⟨m, hm, rfl⟩) h
end Go.Proofs.Ytogoaihimepboaa
