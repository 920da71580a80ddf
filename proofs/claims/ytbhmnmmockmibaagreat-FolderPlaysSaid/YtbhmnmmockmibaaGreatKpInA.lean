/- Tables of files, by definition: what their maps say, and what is done to them. Conditions: none. -/
import Derived.Test.YtbhmnmmockmibaaGreatKpExB
import Derived.Maps.OwnSet
import Derived.Maps.RangeWalk
import Derived.Maps.Ext
import Derived.Lib.SlKeysI
namespace Go.Proofs.YtbhmnmmockmibaaGreat
open Go.RowKit Go.Maps
structure Fi where
  i : Int
  g : Nat
  n : Int
  m : List Pt
def dt (p : Option Nat) : DataW Unit := .lit (.int .i64 (match p with | none => 0 | some g => (g : Int) + 1))
def ptr (p : Option Nat) : Value := match p with | none => .pointer none | some g => .pointer (some ⟨g, 0, none⟩)
def RF (v : Value) : Option (DataW Unit × List MemPlace) := match v with
  | .pointer none => some (dt none, [])
  | .pointer (some ⟨g, 0, none⟩) => some (dt (some g), [])
  | _ => none
theorem RF_ptr (p : Option Nat) : RF (ptr p) = some (dt p, []) := by cases p <;> rfl
theorem RF_inv {v : Value} {y : DataW Unit × List MemPlace} (h : RF v = some y) : ∃ p, v = ptr p ∧ y = (dt p, []) := by
  unfold RF at h
  split at h
  · injection h with h
    exact ⟨none, rfl, h.symm⟩
  · rename_i g
    injection h with h
    exact ⟨some g, rfl, h.symm⟩
  · cases h
theorem dt_inj {p q : Option Nat} (h : dt p = dt q) : p = q := by
  unfold dt at h
  injection h with h
  injection h with _ h
  cases p <;> cases q <;> simp at h ⊢ <;> omega
def fiD (f : Fi) : Lit × DataW Unit := (.int .i64 f.i, dt (some f.g))
def datum (fs : List Fi) : DataW Unit := .map (fs.map fiD)
def findF (fs : List Fi) (z : Int) : Option Fi := fs.find? fun f => decide (f.i = z)
def delF (fs : List Fi) (z : Int) : List Fi := fs.filter fun f => !decide (f.i = z)
theorem same_fi (f : Fi) (z : Int) : (fiD f).1.sameKey (.int .i64 z) = decide (f.i = z) := by
  unfold fiD Lit.sameKey
  simp
theorem datum_at (fs : List Fi) (z : Int) (zd : DataW Unit) : (datum fs).atKey (.int .i64 z) zd = ((findF fs z).map fun f => dt (some f.g)).getD zd := by
  unfold DataW.atKey datum findF
  induction fs with
  | nil => rfl
  | cons f fs ih =>
    simp only [List.map_cons, List.find?_cons, same_fi] at ih ⊢
    by_cases h : f.i = z
    · simp [h, fiD]
    · simp only [h, decide_false]
      exact ih
theorem datum_del (fs : List Fi) (z : Int) : (datum fs).del (.int .i64 z) = datum (delF fs z) := by
  unfold DataW.del datum delF
  simp only
  rw [List.filter_map]
  congr 2
  apply List.filter_congr
  intro f _
  simp only [Function.comp, same_fi]
theorem insert_last (x : Lit × DataW Unit) : ∀ l : List (Lit × DataW Unit), (∀ p ∈ l, x.1.before p.1 = false) → DataW.insert x l = l ++ [x]
  | [], _ => rfl
  | y :: r, h => by
    unfold DataW.insert
    rw [h y (by simp)]
    simp [insert_last x r (fun p hp => h p (by simp [hp]))]
theorem datum_put {fs : List Fi} {x : Fi} (h : ∀ f ∈ fs, f.i < x.i) : (datum fs).put (.int .i64 x.i) (dt (some x.g)) = datum (fs ++ [x]) := by
  unfold DataW.put datum
  simp only
  rw [List.filter_eq_self.2, insert_last, List.map_append]
  · rfl
  · intro p hp
    obtain ⟨f, hf, rfl⟩ := List.mem_map.1 hp
    have := h f hf
    simp [fiD, Lit.before]
    omega
  · intro p hp
    obtain ⟨f, hf, rfl⟩ := List.mem_map.1 hp
    have := h f hf
    rw [same_fi]
    simp
    omega
theorem datum_size (fs : List Fi) : Maps.size (datum fs) = fs.length := by simp [Maps.size, datum]
theorem datum_keys (fs : List Fi) : intKeys (datum fs) = fs.map Fi.i := by
  unfold intKeys datum
  simp only [List.map_map]
  rfl
theorem datum_has (fs : List Fi) (z : Int) : Maps.has (datum fs) (.int .i64 z) = (findF fs z).isSome := by
  unfold Maps.has datum findF
  simp only
  induction fs with
  | nil => rfl
  | cons f fs ih =>
    simp only [List.map_cons, List.any_cons, List.find?_cons, same_fi] at ih ⊢
    by_cases h : f.i = z
    · simp [h]
    · simp only [h, decide_false, Bool.false_or]
      exact ih
theorem datum_found {fs : List Fi} {z : Int} {p : Option Nat} (h : ∀ zd, (datum fs).atKey (.int .i64 z) zd = dt p) : ∃ f, findF fs z = some f ∧ p = some f.g := by
  cases hf : findF fs z with
  | none =>
    have h1 := h (.lit (.bool true))
    rw [datum_at, hf] at h1
    simp [dt] at h1
  | some f =>
    have h1 := h (.lit (.bool true))
    rw [datum_at, hf] at h1
    exact ⟨f, rfl, (dt_inj (p := some f.g) h1).symm⟩
theorem findF_mem {fs : List Fi} {z : Int} {f : Fi} (h : findF fs z = some f) : f ∈ fs ∧ f.i = z := by
  refine ⟨List.mem_of_find?_eq_some h, ?_⟩
  have := List.find?_some h
  simpa using this
theorem findF_none {fs : List Fi} {z : Int} (h : findF fs z = none) : ∀ f ∈ fs, f.i ≠ z := by
  unfold findF at h
  rw [List.find?_eq_none] at h
  intro f hf e
  exact h f hf (by simpa using e)
def updF (fs : List Fi) (z n : Int) (m : List Pt) : List Fi := fs.map fun f => if f.i = z then ⟨f.i, f.g, n, m⟩ else f
theorem updF_mem {fs : List Fi} {z n : Int} {m : List Pt} {x : Fi} (h : x ∈ updF fs z n m) : ∃ f ∈ fs, x.i = f.i ∧ x.g = f.g ∧ ((f.i = z ∧ x.n = n ∧ x.m = m) ∨ (f.i ≠ z ∧ x = f)) := by
  unfold updF at h
  obtain ⟨f, hf, rfl⟩ := List.mem_map.1 h
  refine ⟨f, hf, ?_⟩
  by_cases e : f.i = z
  · rw [if_pos e]; exact ⟨rfl, rfl, .inl ⟨e, rfl, rfl⟩⟩
  · rw [if_neg e]; exact ⟨rfl, rfl, .inr ⟨e, rfl⟩⟩
theorem updF_i (fs : List Fi) (z n : Int) (m : List Pt) : (updF fs z n m).map Fi.i = fs.map Fi.i := by
  unfold updF
  rw [List.map_map]
  apply List.map_congr_left
  intro f _
  simp only [Function.comp]
  split <;> rfl
theorem updF_g (fs : List Fi) (z n : Int) (m : List Pt) : (updF fs z n m).map Fi.g = fs.map Fi.g := by
  unfold updF
  rw [List.map_map]
  apply List.map_congr_left
  intro f _
  simp only [Function.comp]
  split <;> rfl
theorem updF_len (fs : List Fi) (z n : Int) (m : List Pt) : (updF fs z n m).length = fs.length := by unfold updF; rw [List.length_map]
theorem updF_datum (fs : List Fi) (z n : Int) (m : List Pt) : datum (updF fs z n m) = datum fs := by
  unfold datum updF
  rw [List.map_map]
  congr 1
  apply List.map_congr_left
  intro f _
  simp only [Function.comp]
  split <;> rfl
theorem updF_here {fs : List Fi} {z n : Int} {m : List Pt} {f : Fi} (h : findF fs z = some f) : findF (updF fs z n m) z = some ⟨f.i, f.g, n, m⟩ := by
  unfold findF updF at *
  induction fs with
  | nil => cases h
  | cons x fs ih =>
    simp only [List.map_cons, List.find?_cons] at h ⊢
    by_cases e : x.i = z
    · simp only [e, decide_true, if_true] at h ⊢
      injection h with h
      subst h
      rw [e]
    · simp only [e, decide_false, if_false] at h ⊢
      exact ih h
theorem delF_mem {fs : List Fi} {z : Int} {x : Fi} : x ∈ delF fs z ↔ x ∈ fs ∧ x.i ≠ z := by
  unfold delF
  rw [List.mem_filter]
  simp
theorem findF_at {fs : List Fi} {k : Nat} {f : Fi} (hs : fs.Pairwise fun a b => a.i < b.i) (h : fs[k]? = some f) : findF fs f.i = some f := by
  induction fs generalizing k with
  | nil => simp at h
  | cons x fs ih =>
    rw [List.pairwise_cons] at hs
    unfold findF at ih ⊢
    rw [List.find?_cons]
    cases k with
    | zero =>
      simp only [List.getElem?_cons_zero, Option.some.injEq] at h
      subst h
      simp
    | succ k =>
      simp only [List.getElem?_cons_succ] at h
      have hlt := hs.1 f (List.mem_of_getElem? h)
      have hne : ¬ x.i = f.i := by omega
      simp only [hne, decide_false]
      exact ih hs.2 h
theorem findF_of_mem {fs : List Fi} {f : Fi} (hs : fs.Pairwise fun a b => a.i < b.i) (h : f ∈ fs) : findF fs f.i = some f := by
  obtain ⟨k, hk⟩ := List.getElem?_of_mem h
  exact findF_at hs hk
def sumF (μ : Fi → Nat) (fs : List Fi) : Nat := (fs.map μ).sum
def restF (fs : List Fi) (left : Lit → Bool) : List Fi := fs.filter fun f => left (.int .i64 f.i)
theorem rest_start (fs : List Fi) : restF fs (Maps.has (datum fs)) = fs := by
  unfold restF
  rw [List.filter_eq_self]
  intro f hf
  rw [datum_has]
  cases h : findF fs f.i with
  | some _ => rfl
  | none => exact absurd rfl (findF_none h f hf)
theorem rest_end {fs : List Fi} {left : Lit → Bool} (h : ∀ k, left k = false) : restF fs left = [] := by
  unfold restF
  rw [List.filter_eq_nil_iff]
  intro f _
  simp [h]
theorem rest_one {fs : List Fi} {p : Fi → Bool} {z : Int} {f : Fi} (μ : Fi → Nat) (hs : fs.Pairwise fun a b => a.i < b.i) (hf : findF fs z = some f) (hl : p f = true) :
    sumF μ (fs.filter p) = sumF μ (fs.filter fun y => p y && !decide (y.i = z)) + μ f := by
  induction fs with
  | nil => cases hf
  | cons x fs ih =>
    rw [List.pairwise_cons] at hs
    unfold findF at hf ih
    rw [List.find?_cons] at hf
    unfold sumF at ih ⊢
    by_cases e : x.i = z
    · simp only [e, decide_true] at hf
      injection hf with hf
      subst hf
      have hrest : fs.filter (fun y => p y && !decide (y.i = z)) = fs.filter p := by
        apply List.filter_congr
        intro y hy
        have := hs.1 y hy
        have hne : ¬ y.i = z := by omega
        simp [hne]
      rw [List.filter_cons_of_pos hl, List.filter_cons_of_neg (by simp [e]), hrest, List.map_cons, List.sum_cons]
      omega
    · simp only [e, decide_false] at hf
      have ih := ih hs.2 hf
      by_cases hx : p x = true
      · rw [List.filter_cons_of_pos hx, List.filter_cons_of_pos (by simp [hx, e]), List.map_cons, List.map_cons, List.sum_cons, List.sum_cons, ih]
        omega
      · rw [List.filter_cons_of_neg hx, List.filter_cons_of_neg (by simp [hx])]
        exact ih
theorem rest_step {fs : List Fi} {left : Lit → Bool} {z : Int} {f : Fi} (μ : Fi → Nat) (hs : fs.Pairwise fun a b => a.i < b.i) (hf : findF fs z = some f) (hl : left (.int .i64 z) = true) :
    sumF μ (restF fs left) = sumF μ (restF fs fun y => left y && !y.sameKey (.int .i64 z)) + μ f := by
  have h1 := rest_one μ (p := fun f => left (.int .i64 f.i)) hs hf (by rw [(findF_mem hf).2]; exact hl)
  unfold restF
  rw [h1]
  congr 2
  apply List.filter_congr
  intro y _
  have := same_fi y z
  unfold fiD at this
  simp only at this
  simp only [this]
def usedF (fs : List Fi) : Nat := sumF (fun f => (contM f.m).length) fs
def volF (fs : List Fi) : Nat := sumF (fun f => volM f.m) fs
theorem sum_le {μ : Fi → Nat} {fs : List Fi} {K : Nat} (h : ∀ f ∈ fs, μ f ≤ K) : sumF μ fs ≤ fs.length * K := by
  unfold sumF
  induction fs with
  | nil => simp
  | cons f fs ih =>
    have h1 := ih (fun x hx => h x (by simp [hx]))
    have h2 := h f (by simp)
    rw [List.map_cons, List.sum_cons, List.length_cons, Nat.succ_mul]
    omega
theorem sum_rest {μ : Fi → Nat} (fs : List Fi) (p : Fi → Bool) : sumF μ (fs.filter p) ≤ sumF μ fs := by
  unfold sumF
  induction fs with
  | nil => simp
  | cons f fs ih =>
    rw [List.filter_cons, List.map_cons, List.sum_cons]
    split
    · rw [List.map_cons, List.sum_cons]; omega
    · omega
theorem sum_append (μ : Fi → Nat) (a b : List Fi) : sumF μ (a ++ b) = sumF μ a + sumF μ b := by simp [sumF]
theorem sum_upd {μ : Fi → Nat} {fs : List Fi} {z n : Int} {m : List Pt} {f : Fi} (hs : fs.Pairwise fun a b => a.i < b.i) (h : findF fs z = some f) : sumF μ (updF fs z n m) + μ f = sumF μ fs + μ ⟨f.i, f.g, n, m⟩ := by
  unfold sumF updF
  unfold findF at h
  induction fs with
  | nil => cases h
  | cons x fs ih =>
    rw [List.pairwise_cons] at hs
    rw [List.find?_cons] at h
    simp only [List.map_cons, List.sum_cons]
    by_cases e : x.i = z
    · simp only [e, decide_true] at h
      injection h with h
      subst h
      have hrest : (fs.map fun f => if f.i = z then (⟨f.i, f.g, n, m⟩ : Fi) else f) = fs := by
        conv => rhs; rw [← List.map_id fs]
        apply List.map_congr_left
        intro y hy
        have := hs.1 y hy
        have hne : ¬ y.i = z := by omega
        rw [if_neg hne]
        rfl
      rw [if_pos e, hrest]
      omega
    · simp only [e, decide_false] at h
      have := ih hs.2 h
      rw [if_neg e]
      omega
end Go.Proofs.YtbhmnmmockmibaaGreat
