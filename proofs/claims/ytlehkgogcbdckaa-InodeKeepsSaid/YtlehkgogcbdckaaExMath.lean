/- Files as lists of parts, by definition: what is done to them, and what follows of it. Conditions: none. -/
import Derived.Test.YtlehkgogcbdckaaPush
namespace Go.Proofs.Ytlehkgogcbdckaa
open Go.RowKit

/-- A part: its bytes, and whether it is durable. -/
abbrev Pt := List UInt8 × Bool
def fullM (m : List Pt) : List Pt := m.filter fun p => !p.1.isEmpty
def contM (m : List Pt) : List UInt8 := m.flatMap fun p => p.1
def volM (m : List Pt) : Nat := (m.filter fun p => !p.2 && !p.1.isEmpty).length
def holdM : List Pt → List Bool → List Pt
  | [], _ => []
  | p :: m, k => if p.2 = true then p :: holdM m k else match k with
    | [] => p :: holdM m []
    | b :: k => (p.1, b) :: holdM m k
def endM : List Pt → Nat
  | [] => 0
  | p :: m => if endM m = 0 then (if p.2 = true then 1 else 0) else endM m + 1
def fillP (p : Pt) : Pt := (if p.2 = true then p.1 else noughts p.1.length, true)
def failH (h : List Pt) : List Pt := (h.take (endM h)).map fillP
def failM (m : List Pt) (k : List Bool) : List Pt := failH (holdM (fullM m) k)
def syncM (m : List Pt) : List Pt := (fullM m).map fun p => (p.1, true)
def appM (m : List Pt) (b : List UInt8) : List Pt := fullM (m ++ [(b, false)])
def ofM (l : List (List UInt8)) : List Pt := fullM (l.map fun b => (b, true))

theorem fullM_append (a b : List Pt) : fullM (a ++ b) = fullM a ++ fullM b := by simp [fullM]
theorem fullM_one {p : Pt} (h : p.1 ≠ []) : fullM [p] = [p] := by
  have : p.1.isEmpty = false := by cases hp : p.1 <;> simp_all
  simp [fullM, this]
theorem fullM_none {p : Pt} (h : p.1 = []) : fullM [p] = [] := by simp [fullM, h]
theorem fullM_mem {m : List Pt} {p : Pt} (h : p ∈ fullM m) : p.1 ≠ [] := by
  unfold fullM at h
  rw [List.mem_filter] at h
  intro e
  rw [e] at h
  simp at h
theorem fullM_id {m : List Pt} (h : ∀ p ∈ m, p.1 ≠ []) : fullM m = m := by
  unfold fullM
  rw [List.filter_eq_self]
  intro p hp
  have := h p hp
  cases hq : p.1 <;> simp_all
theorem fullM_idem (m : List Pt) : fullM (fullM m) = fullM m := fullM_id fun _ h => fullM_mem h
theorem contM_append (a b : List Pt) : contM (a ++ b) = contM a ++ contM b := by simp [contM]
theorem contM_one (p : Pt) : contM [p] = p.1 := by simp [contM]
theorem contM_cons (p : Pt) (m : List Pt) : contM (p :: m) = p.1 ++ contM m := by simp [contM]
theorem contM_full (m : List Pt) : contM (fullM m) = contM m := by
  induction m with
  | nil => rfl
  | cons p m ih =>
    rw [show p :: m = [p] ++ m from rfl, fullM_append, contM_append, contM_append, ih]
    by_cases h : p.1 = []
    · rw [fullM_none h]; simp [contM, h]
    · rw [fullM_one h]
theorem volM_append (a b : List Pt) : volM (a ++ b) = volM a + volM b := by simp [volM]
theorem volM_full (m : List Pt) : volM (fullM m) = volM m := by
  unfold volM fullM
  rw [List.filter_filter]
  congr 1
  apply List.filter_congr
  intro p _
  cases p.1.isEmpty <;> simp
theorem volM_one (p : Pt) : volM [p] = if (!p.2 && !p.1.isEmpty) = true then 1 else 0 := by
  unfold volM
  rw [List.filter_cons]
  split <;> rfl
theorem holdM_len : ∀ (m : List Pt) (k : List Bool), (holdM m k).length = m.length
  | [], _ => rfl
  | p :: m, k => by
    unfold holdM
    split
    · rw [List.length_cons, List.length_cons, holdM_len m]
    · cases k with
      | nil => simp only [List.length_cons, holdM_len m]
      | cons b k => simp only [List.length_cons, holdM_len m]
theorem holdM_d {p : Pt} {m : List Pt} {k : List Bool} (h : p.2 = true) : holdM (p :: m) k = p :: holdM m k := by rw [holdM.eq_def]; simp only; rw [if_pos h]
theorem holdM_none {p : Pt} {m : List Pt} (h : ¬ p.2 = true) : holdM (p :: m) [] = p :: holdM m [] := by rw [holdM.eq_def]; simp only; rw [if_neg h]
theorem holdM_told {p : Pt} {m : List Pt} {b : Bool} {k : List Bool} (h : ¬ p.2 = true) : holdM (p :: m) (b :: k) = (p.1, b) :: holdM m k := by rw [holdM.eq_def]; simp only; rw [if_neg h]
theorem holdM_snoc : ∀ (m : List Pt) (k : List Bool) (p : Pt), (∀ q ∈ m, q.1 ≠ []) → holdM (m ++ [p]) k = holdM m k ++ [if p.2 = true then p else (p.1, (k[volM m]?).getD false)]
  | [], k, p, _ => by
    obtain ⟨b, d⟩ := p
    cases d <;> cases k <;> simp [holdM, volM]
  | q :: m, k, p, h => by
    have ih := fun k => holdM_snoc m k p (fun x hx => h x (by simp [hx]))
    have hq : q.1.isEmpty = false := by
      have := h q (by simp)
      cases hq : q.1 <;> simp_all
    have hv : volM (q :: m) = (if q.2 = true then 0 else 1) + volM m := by
      rw [show q :: m = [q] ++ m from rfl, volM_append, volM_one, hq]
      cases q.2 <;> simp
    rw [List.cons_append, hv]
    by_cases hd : q.2 = true
    · rw [holdM_d hd, holdM_d hd, if_pos hd, ih, Nat.zero_add]
      rfl
    · rw [if_neg hd]
      cases k with
      | nil => rw [holdM_none hd, holdM_none hd, ih]; simp
      | cons b k =>
        rw [holdM_told hd, holdM_told hd, ih, Nat.add_comm 1, List.getElem?_cons_succ]
        rfl
theorem holdM_get {m : List Pt} : ∀ {k : List Bool} {j : Nat} {p : Pt}, m[j]? = some p → ∃ d, (holdM m k)[j]? = some (p.1, d) ∧ (p.2 = true → d = true) := by
  induction m with
  | nil => intro k j p h; simp at h
  | cons q m ih =>
    intro k j p h
    cases j with
    | zero =>
      simp only [List.getElem?_cons_zero, Option.some.injEq] at h
      subst h
      unfold holdM
      by_cases hd : q.2 = true
      · rw [if_pos hd]
        exact ⟨q.2, by simp, fun h => h⟩
      · rw [if_neg hd]
        cases k with
        | nil => exact ⟨q.2, by simp, fun h => absurd h hd⟩
        | cons b k => exact ⟨b, by simp, fun h => absurd h hd⟩
    | succ j =>
      simp only [List.getElem?_cons_succ] at h
      unfold holdM
      by_cases hd : q.2 = true
      · rw [if_pos hd]
        exact ih h
      · rw [if_neg hd]
        cases k with
        | nil => exact ih h
        | cons b k => exact ih h
theorem endM_le : ∀ m : List Pt, endM m ≤ m.length
  | [] => Nat.le_refl _
  | p :: m => by
    have := endM_le m
    unfold endM
    rw [List.length_cons]
    split
    · split <;> omega
    · omega
theorem endM_snoc (m : List Pt) (p : Pt) : endM (m ++ [p]) = if p.2 = true then m.length + 1 else endM m := by
  induction m with
  | nil => simp [endM]
  | cons q m ih =>
    rw [List.cons_append, endM, ih]
    by_cases h : p.2 = true
    · rw [if_pos h, if_pos h, if_neg (by omega), List.length_cons]
    · rw [if_neg h, if_neg h, endM]
theorem endM_take (m : List Pt) : ∀ n, endM m ≤ n → endM (m.take n) = endM m := by
  induction m with
  | nil => intro n _; simp
  | cons p m ih =>
    intro n h
    cases n with
    | zero =>
      have h0 : endM (p :: m) = 0 := by omega
      rw [h0]
      rfl
    | succ n =>
      rw [List.take_succ_cons]
      have hm : endM m ≤ n := by
        unfold endM at h
        split at h
        · omega
        · omega
      unfold endM
      rw [ih n hm]
/-- No durable part stands behind the end. -/
theorem endM_back {m : List Pt} {n : Nat} {p : Pt} (h : endM (m.take (n + 1)) = endM m) (hp : m[n]? = some p) (hd : p.2 = false) : endM (m.take n) = endM m := by
  rw [← h, List.take_add_one, hp]
  simp only [Option.toList_some]
  rw [endM_snoc, if_neg (by rw [hd]; simp)]
theorem endM_here {m : List Pt} {n : Nat} {p : Pt} (h : endM (m.take (n + 1)) = endM m) (hp : m[n]? = some p) (hd : p.2 = true) : endM m = n + 1 := by
  rw [← h, List.take_add_one, hp]
  simp only [Option.toList_some]
  have hn := (List.getElem?_eq_some_iff.1 hp).1
  rw [endM_snoc, if_pos hd, List.length_take]
  omega
theorem endM_zero {m : List Pt} (h : endM (m.take 0) = endM m) : endM m = 0 := by
  rw [← h]
  simp [endM]
theorem endM_at {m : List Pt} {n : Nat} {p : Pt} (hp : m[n]? = some p) (hd : p.2 = true) : n + 1 ≤ endM m := by
  induction m generalizing n with
  | nil => simp at hp
  | cons q m ih =>
    unfold endM
    cases n with
    | zero =>
      simp only [List.getElem?_cons_zero, Option.some.injEq] at hp
      subst hp
      rw [if_pos hd]
      split <;> omega
    | succ n =>
      have := ih (n := n) (by simpa using hp)
      rw [if_neg (by omega)]
      omega
theorem fillP_len (p : Pt) : (fillP p).1.length = p.1.length := by
  unfold fillP
  split
  · rfl
  · exact noughts_len _
theorem map_snoc_take {α β : Type} {l : List α} {k : Nat} {x : α} (f : α → β) (h : Hid (l[k]? = some x)) : (l.take (k + 1)).map f = (l.take k).map f ++ [f x] := by
  rw [take_snoc h, List.map_append]
  rfl

/-! ### what stays behind a failure -/
theorem contM_map_len {f : Pt → Pt} (hf : ∀ p, (f p).1.length = p.1.length) (m : List Pt) : (contM (m.map f)).length = (contM m).length := by
  induction m with
  | nil => rfl
  | cons p m ih => rw [List.map_cons, contM_cons, contM_cons, List.length_append, List.length_append, ih, hf]
theorem contM_take_len (m : List Pt) (n : Nat) : (contM (m.take n)).length ≤ (contM m).length := by
  conv => rhs; rw [← List.take_append_drop n m]
  rw [contM_append, List.length_append]
  omega
theorem contM_hold (m : List Pt) (k : List Bool) : contM (holdM m k) = contM m := by
  induction m generalizing k with
  | nil => rfl
  | cons p m ih =>
    unfold holdM
    split
    · rw [contM_cons, contM_cons, ih]
    · cases k with
      | nil => simp only [contM_cons, ih]
      | cons b k => simp only [contM_cons, ih]
/-- Noughts alone are another. -/
def Nought (a b : List UInt8) : Prop := a.length ≤ b.length ∧ ∀ (i : Nat) (x y : UInt8), a[i]? = some x → b[i]? = some y → x = y ∨ x = 0
theorem Nought.refl (a : List UInt8) : Nought a a := ⟨Nat.le_refl _, fun i x y hx hy => .inl (by rw [hx] at hy; injection hy)⟩
theorem Nought.nil (b : List UInt8) : Nought [] b := ⟨Nat.zero_le _, fun i x y hx _ => by simp at hx⟩
theorem Nought.append {a b c d : List UInt8} (h : a.length = b.length) (h1 : Nought a b) (h2 : Nought c d) : Nought (a ++ c) (b ++ d) := by
  refine ⟨by rw [List.length_append, List.length_append]; have := h2.1; omega, fun i x y hx hy => ?_⟩
  by_cases hi : i < a.length
  · rw [List.getElem?_append_left hi] at hx
    rw [List.getElem?_append_left (by omega)] at hy
    exact h1.2 i x y hx hy
  · rw [List.getElem?_append_right (by omega)] at hx
    rw [List.getElem?_append_right (by omega), ← h] at hy
    exact h2.2 _ x y hx hy
theorem Nought.fill (b : List UInt8) : Nought (noughts b.length) b := by
  refine ⟨by rw [noughts_len]; exact Nat.le_refl _, fun i x y hx _ => .inr ?_⟩
  unfold noughts at hx
  rw [List.getElem?_replicate] at hx
  split at hx
  · injection hx with hx; exact hx.symm
  · cases hx
theorem fill_nought (p : Pt) : Nought (fillP p).1 p.1 := by
  unfold fillP
  split
  · exact .refl _
  · exact .fill _
theorem failH_nought (h : List Pt) (n : Nat) : Nought (contM ((h.take n).map fillP)) (contM h) := by
  induction h generalizing n with
  | nil => simp [contM]; exact .nil _
  | cons p h ih =>
    cases n with
    | zero => exact .nil _
    | succ n =>
      rw [List.take_succ_cons, List.map_cons, contM_cons, contM_cons]
      exact .append (fillP_len p) (fill_nought p) (ih n)
/-- A failure leaves a beginning of the content, but for noughts. -/
theorem failM_nought (m : List Pt) (k : List Bool) : Nought (contM (failM m k)) (contM m) := by
  have := failH_nought (holdM (fullM m) k) (endM (holdM (fullM m) k))
  rw [contM_hold, contM_full] at this
  exact this
theorem failM_durable {m : List Pt} {k : List Bool} {p : Pt} (h : p ∈ failM m k) : p.2 = true := by
  unfold failM failH at h
  rw [List.mem_map] at h
  obtain ⟨q, _, rfl⟩ := h
  rfl
theorem failM_full {m : List Pt} {k : List Bool} {p : Pt} (h : p ∈ failM m k) : p.1 ≠ [] := by
  unfold failM failH at h
  rw [List.mem_map] at h
  obtain ⟨q, hq, rfl⟩ := h
  have hq' := List.mem_of_mem_take hq
  obtain ⟨j, hj⟩ := List.getElem?_of_mem hq'
  have hjl := (List.getElem?_eq_some_iff.1 hj).1
  rw [holdM_len] at hjl
  obtain ⟨d, hd, _⟩ := holdM_get (k := k) (List.getElem?_eq_getElem hjl)
  rw [hd] at hj
  injection hj with hj
  have hne := fullM_mem (List.getElem_mem hjl)
  intro e
  have := fillP_len q
  rw [e, ← hj] at this
  simp only [List.length_nil] at this
  exact hne (List.eq_nil_of_length_eq_zero this.symm)
theorem volM_durable {m : List Pt} (h : ∀ p ∈ m, p.2 = true) : volM m = 0 := by
  unfold volM
  rw [List.length_eq_zero_iff, List.filter_eq_nil_iff]
  intro p hp
  rw [h p hp]
  simp
/-- What is durable stays: a beginning whose parts are durable. -/
theorem failM_keeps {m : List Pt} {k : List Bool} {j : Nat} (hf : ∀ p ∈ m, p.1 ≠ []) (hd : ∀ p ∈ m.take j, p.2 = true) : contM (m.take j) <+: contM (failM m k) := by
  unfold failM
  rw [fullM_id hf]
  have hh : (holdM m k).take j = m.take j := by
    apply List.ext_getElem?
    intro i
    rw [List.getElem?_take, List.getElem?_take]
    split
    · rename_i hij
      cases hm : m[i]? with
      | none =>
        rw [List.getElem?_eq_none_iff] at hm ⊢
        rw [holdM_len]
        exact hm
      | some p =>
        obtain ⟨d, h1, h2⟩ := holdM_get (k := k) hm
        have hp : p.2 = true := hd p (List.mem_of_getElem? (i := i) (by rw [List.getElem?_take, if_pos hij]; exact hm))
        rw [h1, h2 hp, ← hp]
    · rfl
  have hle : min j m.length ≤ endM (holdM m k) := by
    rcases Nat.eq_zero_or_pos (min j m.length) with h0 | h0
    · omega
    · obtain ⟨n, hn⟩ : ∃ n, min j m.length = n + 1 := ⟨min j m.length - 1, by omega⟩
      have hnl : n < m.length := by omega
      obtain ⟨d, h1, h2⟩ := holdM_get (k := k) (List.getElem?_eq_getElem hnl)
      have hp : (m[n]).2 = true := hd _ (List.mem_of_getElem? (i := n) (by rw [List.getElem?_take, if_pos (by omega)]; exact List.getElem?_eq_getElem hnl))
      have := endM_at h1 (h2 hp)
      omega
  have hj : m.take j = (holdM m k).take (min j m.length) := by
    rw [← hh]
    rcases Nat.le_total j m.length with h | h
    · rw [Nat.min_eq_left h]
    · rw [Nat.min_eq_right h, List.take_of_length_le (by rw [holdM_len]; exact h), List.take_of_length_le (by rw [holdM_len]; exact Nat.le_refl _)]
  have hjd : ∀ p ∈ (holdM m k).take (min j m.length), p.2 = true := by rw [← hj]; exact hd
  have hfi : ((holdM m k).take (min j m.length)).map fillP = (holdM m k).take (min j m.length) := by
    conv => rhs; rw [← List.map_id ((holdM m k).take (min j m.length))]
    apply List.map_congr_left
    intro p hp
    have := hjd p hp
    unfold fillP
    rw [if_pos this]
    obtain ⟨b, d⟩ := p
    simp only at this
    subst this
    rfl
  rw [hj]
  unfold failH
  obtain ⟨x, hx⟩ : ∃ x, endM (holdM m k) = min j m.length + x := ⟨endM (holdM m k) - min j m.length, by omega⟩
  rw [hx, List.take_add, List.map_append, hfi, contM_append]
  exact List.prefix_append _ _
/-- If all stay, the content does. -/
theorem holdM_all {m : List Pt} : ∀ {k : List Bool}, (∀ p ∈ m, p.1 ≠ []) → (∀ i, i < volM m → k[i]? = some true) → holdM m k = m.map fun p => (p.1, true) := by
  induction m with
  | nil => intro _ _ _; rfl
  | cons p m ih =>
    intro k hf ha
    have hp : p.1.isEmpty = false := by
      have := hf p (by simp)
      cases hq : p.1 <;> simp_all
    have hv : volM (p :: m) = (if p.2 = true then 0 else 1) + volM m := by
      rw [show p :: m = [p] ++ m from rfl, volM_append, volM_one, hp]
      cases p.2 <;> simp
    have hf' : ∀ q ∈ m, q.1 ≠ [] := fun q hq => hf q (by simp [hq])
    by_cases hd : p.2 = true
    · rw [hv, if_pos hd, Nat.zero_add] at ha
      rw [holdM_d hd, ih hf' ha, List.map_cons]
      obtain ⟨b, d⟩ := p
      simp only at hd
      rw [hd]
    · rw [hv, if_neg hd] at ha
      cases k with
      | nil =>
        have := ha 0 (by omega)
        simp at this
      | cons b k =>
        have h0 := ha 0 (by omega)
        simp only [List.getElem?_cons_zero, Option.some.injEq] at h0
        rw [holdM_told hd, ih hf' (fun i hi => by have := ha (i + 1) (by omega); simpa using this), List.map_cons, h0]
theorem endM_all {m : List Pt} (h : ∀ p ∈ m, p.2 = true) : endM m = m.length := by
  induction m with
  | nil => rfl
  | cons p m ih =>
    have := ih (fun q hq => h q (by simp [hq]))
    unfold endM
    rw [this, List.length_cons, if_pos (h p (by simp))]
    split <;> omega
theorem failM_all {m : List Pt} {k : List Bool} (hf : ∀ p ∈ m, p.1 ≠ []) (ha : ∀ i, i < volM m → k[i]? = some true) : failM m k = m.map fun p => (p.1, true) := by
  unfold failM failH
  rw [fullM_id hf, holdM_all hf ha, endM_all (by
    intro p hp
    rw [List.mem_map] at hp
    obtain ⟨q, _, rfl⟩ := hp
    rfl), List.take_length, List.map_map]
  rfl
theorem failM_done {m : List Pt} {k : List Bool} (hf : ∀ p ∈ m, p.1 ≠ []) (hd : ∀ p ∈ m, p.2 = true) : failM m k = m := by
  rw [failM_all hf (by rw [volM_durable hd]; intro i h; omega)]
  conv => rhs; rw [← List.map_id m]
  apply List.map_congr_left
  intro p hp
  rw [← hd p hp]
  rfl
end Go.Proofs.Ytlehkgogcbdckaa
