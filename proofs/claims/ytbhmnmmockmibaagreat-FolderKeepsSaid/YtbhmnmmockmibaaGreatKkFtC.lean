/- Tables of files, by definition: what their maps say, and what is done to them. Conditions: none. A table in memory: its own block, its map, its files' blocks; what stays while something is done. Conditions: files of at most 1000 parts of 60 bytes. The walks of New, find, Sync, Link, Bytes. Conditions: files of at most 1000 parts of 60 bytes. -/
import Derived.Test.YtbhmnmmockmibaaGreatKkExA
import Derived.Maps.OwnSet
import Derived.Maps.RangeWalk
import Derived.Maps.Ext
import Derived.Lib.SlKeysI
import Derived.Test.YtbhmnmmockmibaaGreatKkFdMath
namespace Go.Proofs.YtbhmnmmockmibaaGreat
open Go.RowKit Go.Maps
/-- A file: its number, its block, how many names, its parts. -/
structure Fi where
  i : Int
  g : Nat
  n : Int
  m : List Pt
def dt (p : Option Nat) : DataW Unit := .lit (.int .i64 (match p with | none => 0 | some g => (g : Int) + 1))
def ptr (p : Option Nat) : Value := match p with | none => .pointer none | some g => .pointer (some ⟨g, 0, none⟩)
def RF (v : Value) : Option (DataW Unit × List MemPlace) := match v with
  | .pointer none => some (dt none, [])
  | .pointer (some ⟨g, 0, none⟩) => some (dt (some g), [])
  | _ => none
theorem RF_ptr (p : Option Nat) : RF (ptr p) = some (dt p, []) := by cases p <;> rfl
theorem RF_inv {v : Value} {y : DataW Unit × List MemPlace} (h : RF v = some y) : ∃ p, v = ptr p ∧ y = (dt p, []) := by
  unfold RF at h
  split at h
  · injection h with h
    exact ⟨none, rfl, h.symm⟩
  · rename_i g
    injection h with h
    exact ⟨some g, rfl, h.symm⟩
  · cases h
theorem dt_inj {p q : Option Nat} (h : dt p = dt q) : p = q := by
  unfold dt at h
  injection h with h
  injection h with _ h
  cases p <;> cases q <;> simp at h ⊢ <;> omega
def fiD (f : Fi) : Lit × DataW Unit := (.int .i64 f.i, dt (some f.g))
def datum (fs : List Fi) : DataW Unit := .map (fs.map fiD)
def findF (fs : List Fi) (z : Int) : Option Fi := fs.find? fun f => decide (f.i = z)
def delF (fs : List Fi) (z : Int) : List Fi := fs.filter fun f => !decide (f.i = z)
theorem same_fi (f : Fi) (z : Int) : (fiD f).1.sameKey (.int .i64 z) = decide (f.i = z) := by
  unfold fiD Lit.sameKey
  simp
theorem datum_at (fs : List Fi) (z : Int) (zd : DataW Unit) : (datum fs).atKey (.int .i64 z) zd = ((findF fs z).map fun f => dt (some f.g)).getD zd := by
  unfold DataW.atKey datum findF
  induction fs with
  | nil => rfl
  | cons f fs ih =>
    simp only [List.map_cons, List.find?_cons, same_fi] at ih ⊢
    by_cases h : f.i = z
    · simp [h, fiD]
    · simp only [h, decide_false]
      exact ih
theorem datum_del (fs : List Fi) (z : Int) : (datum fs).del (.int .i64 z) = datum (delF fs z) := by
  unfold DataW.del datum delF
  simp only
  rw [List.filter_map]
  congr 2
  apply List.filter_congr
  intro f _
  simp only [Function.comp, same_fi]
theorem insert_last (x : Lit × DataW Unit) : ∀ l : List (Lit × DataW Unit), (∀ p ∈ l, x.1.before p.1 = false) → DataW.insert x l = l ++ [x]
  | [], _ => rfl
  | y :: r, h => by
    unfold DataW.insert
    rw [h y (by simp)]
    simp [insert_last x r (fun p hp => h p (by simp [hp]))]
theorem datum_put {fs : List Fi} {x : Fi} (h : ∀ f ∈ fs, f.i < x.i) : (datum fs).put (.int .i64 x.i) (dt (some x.g)) = datum (fs ++ [x]) := by
  unfold DataW.put datum
  simp only
  rw [List.filter_eq_self.2, insert_last, List.map_append]
  · rfl
  · intro p hp
    obtain ⟨f, hf, rfl⟩ := List.mem_map.1 hp
    have := h f hf
    simp [fiD, Lit.before]
    omega
  · intro p hp
    obtain ⟨f, hf, rfl⟩ := List.mem_map.1 hp
    have := h f hf
    rw [same_fi]
    simp
    omega
theorem datum_size (fs : List Fi) : Maps.size (datum fs) = fs.length := by simp [Maps.size, datum]
theorem datum_keys (fs : List Fi) : intKeys (datum fs) = fs.map Fi.i := by
  unfold intKeys datum
  simp only [List.map_map]
  rfl
theorem datum_has (fs : List Fi) (z : Int) : Maps.has (datum fs) (.int .i64 z) = (findF fs z).isSome := by
  unfold Maps.has datum findF
  simp only
  induction fs with
  | nil => rfl
  | cons f fs ih =>
    simp only [List.map_cons, List.any_cons, List.find?_cons, same_fi] at ih ⊢
    by_cases h : f.i = z
    · simp [h]
    · simp only [h, decide_false, Bool.false_or]
      exact ih
theorem datum_found {fs : List Fi} {z : Int} {p : Option Nat} (h : ∀ zd, (datum fs).atKey (.int .i64 z) zd = dt p) : ∃ f, findF fs z = some f ∧ p = some f.g := by
  cases hf : findF fs z with
  | none =>
    have h1 := h (.lit (.bool true))
    rw [datum_at, hf] at h1
    simp [dt] at h1
  | some f =>
    have h1 := h (.lit (.bool true))
    rw [datum_at, hf] at h1
    exact ⟨f, rfl, (dt_inj (p := some f.g) h1).symm⟩
theorem findF_mem {fs : List Fi} {z : Int} {f : Fi} (h : findF fs z = some f) : f ∈ fs ∧ f.i = z := by
  refine ⟨List.mem_of_find?_eq_some h, ?_⟩
  have := List.find?_some h
  simpa using this
theorem findF_none {fs : List Fi} {z : Int} (h : findF fs z = none) : ∀ f ∈ fs, f.i ≠ z := by
  unfold findF at h
  rw [List.find?_eq_none] at h
  intro f hf e
  exact h f hf (by simpa using e)
def updF (fs : List Fi) (z n : Int) (m : List Pt) : List Fi := fs.map fun f => if f.i = z then ⟨f.i, f.g, n, m⟩ else f
theorem updF_mem {fs : List Fi} {z n : Int} {m : List Pt} {x : Fi} (h : x ∈ updF fs z n m) : ∃ f ∈ fs, x.i = f.i ∧ x.g = f.g ∧ ((f.i = z ∧ x.n = n ∧ x.m = m) ∨ (f.i ≠ z ∧ x = f)) := by
  unfold updF at h
  obtain ⟨f, hf, rfl⟩ := List.mem_map.1 h
  refine ⟨f, hf, ?_⟩
  by_cases e : f.i = z
  · rw [if_pos e]; exact ⟨rfl, rfl, .inl ⟨e, rfl, rfl⟩⟩
  · rw [if_neg e]; exact ⟨rfl, rfl, .inr ⟨e, rfl⟩⟩
theorem updF_i (fs : List Fi) (z n : Int) (m : List Pt) : (updF fs z n m).map Fi.i = fs.map Fi.i := by
  unfold updF
  rw [List.map_map]
  apply List.map_congr_left
  intro f _
  simp only [Function.comp]
  split <;> rfl
theorem updF_g (fs : List Fi) (z n : Int) (m : List Pt) : (updF fs z n m).map Fi.g = fs.map Fi.g := by
  unfold updF
  rw [List.map_map]
  apply List.map_congr_left
  intro f _
  simp only [Function.comp]
  split <;> rfl
theorem updF_len (fs : List Fi) (z n : Int) (m : List Pt) : (updF fs z n m).length = fs.length := by unfold updF; rw [List.length_map]
theorem updF_datum (fs : List Fi) (z n : Int) (m : List Pt) : datum (updF fs z n m) = datum fs := by
  unfold datum updF
  rw [List.map_map]
  congr 1
  apply List.map_congr_left
  intro f _
  simp only [Function.comp]
  split <;> rfl
theorem updF_here {fs : List Fi} {z n : Int} {m : List Pt} {f : Fi} (h : findF fs z = some f) : findF (updF fs z n m) z = some ⟨f.i, f.g, n, m⟩ := by
  unfold findF updF at *
  induction fs with
  | nil => cases h
  | cons x fs ih =>
    simp only [List.map_cons, List.find?_cons] at h ⊢
    by_cases e : x.i = z
    · simp only [e, decide_true, if_true] at h ⊢
      injection h with h
      subst h
      rw [e]
    · simp only [e, decide_false, if_false] at h ⊢
      exact ih h
theorem delF_mem {fs : List Fi} {z : Int} {x : Fi} : x ∈ delF fs z ↔ x ∈ fs ∧ x.i ≠ z := by
  unfold delF
  rw [List.mem_filter]
  simp
theorem findF_at {fs : List Fi} {k : Nat} {f : Fi} (hs : fs.Pairwise fun a b => a.i < b.i) (h : fs[k]? = some f) : findF fs f.i = some f := by
  induction fs generalizing k with
  | nil => simp at h
  | cons x fs ih =>
    rw [List.pairwise_cons] at hs
    unfold findF at ih ⊢
    rw [List.find?_cons]
    cases k with
    | zero =>
      simp only [List.getElem?_cons_zero, Option.some.injEq] at h
      subst h
      simp
    | succ k =>
      simp only [List.getElem?_cons_succ] at h
      have hlt := hs.1 f (List.mem_of_getElem? h)
      have hne : ¬ x.i = f.i := by omega
      simp only [hne, decide_false]
      exact ih hs.2 h
theorem findF_of_mem {fs : List Fi} {f : Fi} (hs : fs.Pairwise fun a b => a.i < b.i) (h : f ∈ fs) : findF fs f.i = some f := by
  obtain ⟨k, hk⟩ := List.getElem?_of_mem h
  exact findF_at hs hk
def sumF (μ : Fi → Nat) (fs : List Fi) : Nat := (fs.map μ).sum
def restF (fs : List Fi) (left : Lit → Bool) : List Fi := fs.filter fun f => left (.int .i64 f.i)
theorem rest_start (fs : List Fi) : restF fs (Maps.has (datum fs)) = fs := by
  unfold restF
  rw [List.filter_eq_self]
  intro f hf
  rw [datum_has]
  cases h : findF fs f.i with
  | some _ => rfl
  | none => exact absurd rfl (findF_none h f hf)
theorem rest_end {fs : List Fi} {left : Lit → Bool} (h : ∀ k, left k = false) : restF fs left = [] := by
  unfold restF
  rw [List.filter_eq_nil_iff]
  intro f _
  simp [h]
theorem rest_one {fs : List Fi} {p : Fi → Bool} {z : Int} {f : Fi} (μ : Fi → Nat) (hs : fs.Pairwise fun a b => a.i < b.i) (hf : findF fs z = some f) (hl : p f = true) :
    sumF μ (fs.filter p) = sumF μ (fs.filter fun y => p y && !decide (y.i = z)) + μ f := by
  induction fs with
  | nil => cases hf
  | cons x fs ih =>
    rw [List.pairwise_cons] at hs
    unfold findF at hf ih
    rw [List.find?_cons] at hf
    unfold sumF at ih ⊢
    by_cases e : x.i = z
    · simp only [e, decide_true] at hf
      injection hf with hf
      subst hf
      have hrest : fs.filter (fun y => p y && !decide (y.i = z)) = fs.filter p := by
        apply List.filter_congr
        intro y hy
        have := hs.1 y hy
        have hne : ¬ y.i = z := by omega
        simp [hne]
      rw [List.filter_cons_of_pos hl, List.filter_cons_of_neg (by simp [e]), hrest, List.map_cons, List.sum_cons]
      omega
    · simp only [e, decide_false] at hf
      have ih := ih hs.2 hf
      by_cases hx : p x = true
      · rw [List.filter_cons_of_pos hx, List.filter_cons_of_pos (by simp [hx, e]), List.map_cons, List.map_cons, List.sum_cons, List.sum_cons, ih]
        omega
      · rw [List.filter_cons_of_neg hx, List.filter_cons_of_neg (by simp [hx])]
        exact ih
theorem rest_step {fs : List Fi} {left : Lit → Bool} {z : Int} {f : Fi} (μ : Fi → Nat) (hs : fs.Pairwise fun a b => a.i < b.i) (hf : findF fs z = some f) (hl : left (.int .i64 z) = true) :
    sumF μ (restF fs left) = sumF μ (restF fs fun y => left y && !y.sameKey (.int .i64 z)) + μ f := by
  have h1 := rest_one μ (p := fun f => left (.int .i64 f.i)) hs hf (by rw [(findF_mem hf).2]; exact hl)
  unfold restF
  rw [h1]
  congr 2
  apply List.filter_congr
  intro y _
  have := same_fi y z
  unfold fiD at this
  simp only at this
  simp only [this]
def usedF (fs : List Fi) : Nat := sumF (fun f => (contM f.m).length) fs
def volF (fs : List Fi) : Nat := sumF (fun f => volM f.m) fs
theorem sum_le {μ : Fi → Nat} {fs : List Fi} {K : Nat} (h : ∀ f ∈ fs, μ f ≤ K) : sumF μ fs ≤ fs.length * K := by
  unfold sumF
  induction fs with
  | nil => simp
  | cons f fs ih =>
    have h1 := ih (fun x hx => h x (by simp [hx]))
    have h2 := h f (by simp)
    rw [List.map_cons, List.sum_cons, List.length_cons, Nat.succ_mul]
    omega
theorem sum_rest {μ : Fi → Nat} (fs : List Fi) (p : Fi → Bool) : sumF μ (fs.filter p) ≤ sumF μ fs := by
  unfold sumF
  induction fs with
  | nil => simp
  | cons f fs ih =>
    rw [List.filter_cons, List.map_cons, List.sum_cons]
    split
    · rw [List.map_cons, List.sum_cons]; omega
    · omega
theorem sum_append (μ : Fi → Nat) (a b : List Fi) : sumF μ (a ++ b) = sumF μ a + sumF μ b := by simp [sumF]
theorem sum_upd {μ : Fi → Nat} {fs : List Fi} {z n : Int} {m : List Pt} {f : Fi} (hs : fs.Pairwise fun a b => a.i < b.i) (h : findF fs z = some f) : sumF μ (updF fs z n m) + μ f = sumF μ fs + μ ⟨f.i, f.g, n, m⟩ := by
  unfold sumF updF
  unfold findF at h
  induction fs with
  | nil => cases h
  | cons x fs ih =>
    rw [List.pairwise_cons] at hs
    rw [List.find?_cons] at h
    simp only [List.map_cons, List.sum_cons]
    by_cases e : x.i = z
    · simp only [e, decide_true] at h
      injection h with h
      subst h
      have hrest : (fs.map fun f => if f.i = z then (⟨f.i, f.g, n, m⟩ : Fi) else f) = fs := by
        conv => rhs; rw [← List.map_id fs]
        apply List.map_congr_left
        intro y hy
        have := hs.1 y hy
        have hne : ¬ y.i = z := by omega
        rw [if_neg hne]
        rfl
      rw [if_pos e, hrest]
      omega
    · simp only [e, decide_false] at h
      have := ih hs.2 h
      rw [if_neg e]
      omega
end Go.Proofs.YtbhmnmmockmibaaGreat

namespace Go.Proofs.YtbhmnmmockmibaaGreat
open Go.RowKit Go.Maps
section
variable {H : Type} {P : Program} {k : TypeId} {R : Value → Option (DataW H × List MemPlace)} {w w' : World} {b n : Nat} {D : DataW H}
theorem owns_size (h : w.ownsMap P k R b n D) : w.ownsMap P k R b (Maps.size D) D := by
  obtain ⟨es, clock, hb, F, _, rfl⟩ := h
  exact ⟨es, clock, hb, F, by simp [Maps.size, length_sorted], rfl⟩
theorem owns_touch {X : Nat → Prop} (h : w.ownsMap P k R b n D) (ht : Touch X w w') (hx : ¬ X b) : w'.ownsMap P k R b n D := by
  obtain ⟨es, clock, hb, F, hs, rfl⟩ := h
  exact ⟨es, clock, ht.heap hx hb, F, hs, rfl⟩
end
theorem failM_less (m : List Pt) (q : List Bool) : (contM (failM m q)).length ≤ (contM m).length := (failM_nought m q).1
theorem failM_len (m : List Pt) (q : List Bool) : (failM m q).length ≤ m.length := by
  unfold failM failH
  rw [List.length_map, List.length_take, holdM_len]
  have : (fullM m).length ≤ m.length := List.length_filter_le _ _
  omega
theorem failM_short {m : List Pt} {q : List Bool} {N : Nat} (h : ∀ p ∈ m, p.1.length ≤ N) {p : Pt} (hp : p ∈ failM m q) : p.1.length ≤ N := by
  unfold failM failH at hp
  rw [List.mem_map] at hp
  obtain ⟨r, hr, rfl⟩ := hp
  rw [fillP_len]
  obtain ⟨i, hi⟩ := List.getElem?_of_mem (List.mem_of_mem_take hr)
  have hlt := (List.getElem?_eq_some_iff.1 hi).1
  rw [holdM_len] at hlt
  obtain ⟨d, hd, _⟩ := holdM_get (k := q) (List.getElem?_eq_getElem hlt)
  rw [hd] at hi
  injection hi with hi
  rw [← hi]
  have hin := List.getElem_mem hlt
  have h5 := h _ (List.mem_filter.1 hin).1
  exact h5
theorem failM_vol (m : List Pt) (q : List Bool) : volM (failM m q) = 0 := volM_durable fun _ hp => failM_durable hp
theorem contM_flag (m : List Pt) : contM (m.map fun p => (p.1, true)) = contM m := by
  induction m with
  | nil => rfl
  | cons p m ih => rw [List.map_cons, contM_cons, contM_cons, ih]
theorem contM_sync (m : List Pt) : contM (syncM m) = contM m := by unfold syncM; rw [contM_flag, contM_full]
theorem contM_app (m : List Pt) (l : List UInt8) : contM (appM m l) = contM m ++ l := by unfold appM; rw [contM_full, contM_append, contM_one]
structure Sz (m : List Pt) (N : Nat) : Prop where
  n : m.length ≤ N
  l : ∀ p ∈ m, p.1.length ≤ 60
section
variable {m : List Pt} {N M : Nat} {l : List UInt8}
theorem Sz.mono (h : Sz m N) (hN : N ≤ M) : Sz m M := ⟨Nat.le_trans h.n hN, h.l⟩
theorem Sz.sm (h : Sz m N) (hN : N ≤ 1000) : SmM m := ⟨Nat.le_trans h.n hN, fun p hp => by have := h.l p hp; omega⟩
theorem Sz.more (h : Sz m N) (l : List UInt8) (hl : l.length ≤ 60) : Sz (m ++ [(l, false)]) (N + 1) := by
  refine ⟨by rw [List.length_append]; have := h.n; simp; omega, fun p hp => ?_⟩
  rw [List.mem_append, List.mem_singleton] at hp
  rcases hp with hp | rfl
  · exact h.l p hp
  · exact hl
theorem Sz.full (h : Sz m N) : Sz (fullM m) N := ⟨Nat.le_trans (List.length_filter_le _ _) h.n, fun p hp => h.l p (List.mem_filter.1 hp).1⟩
theorem Sz.app (h : Sz m N) (hl : l.length ≤ 60) : Sz (appM m l) (N + 1) := (h.more l hl).full
theorem Sz.sync (h : Sz m N) : Sz (syncM m) N := by
  refine ⟨by unfold syncM; rw [List.length_map]; have := h.full.n; omega, fun p hp => ?_⟩
  unfold syncM at hp
  rw [List.mem_map] at hp
  obtain ⟨q, hq, rfl⟩ := hp
  exact h.full.l q hq
theorem Sz.fail (h : Sz m N) (q : List Bool) : Sz (failM m q) N := ⟨by have := failM_len m q; have := h.n; omega, fun p hp => failM_short h.l hp⟩
theorem Sz.cont (h : Sz m N) : (contM m).length ≤ N * 60 := by
  have : ∀ m : List Pt, (∀ p ∈ m, p.1.length ≤ 60) → (contM m).length ≤ m.length * 60 := by
    intro m
    induction m with
    | nil => intro _; simp [contM]
    | cons p m ih =>
      intro h
      have h1 := ih (fun q hq => h q (by simp [hq]))
      have h2 := h p (by simp)
      rw [contM_cons, List.length_append, List.length_cons]
      omega
  have h1 := this m h.l
  have h2 := h.n
  omega
end
/-- A folder's block, but for the table's three cells. -/
structure Ps where
  nm : Value
  pd : Value
  m : Value
  n : Value
  tk : Value
structure Tb where
  pp : Ps
  q : Int
  made : Nat
  mp : Option Nat
  fs : List Fi
/-- A table behind at most N calls. -/
structure Tb.Ok (T : Tb) (N : Nat) : Prop where
  q : 0 ≤ T.q ∧ T.q ≤ 9223372036854775807
  made : T.made ≤ N
  len : T.fs.length ≤ N
  sort : T.fs.Pairwise fun a b => a.i < b.i
  num : ∀ f ∈ T.fs, 1 ≤ f.i ∧ f.i ≤ T.made
  many : ∀ f ∈ T.fs, -9223372036854775808 ≤ f.n ∧ f.n ≤ 9223372036854775807
  size : ∀ f ∈ T.fs, Sz f.m N
def Tb.X (T : Tb) (t : Nat) : Nat → Prop := fun k => k = t ∨ T.mp = some k ∨ ∃ f ∈ T.fs, k = f.g
/-- A table in the block t; its files' bytes lie in no block of Z. -/
structure TabAt (w : World) (Z : Nat → Prop) (t : Nat) (T : Tb) : Prop where
  top : w.heap[t]? = some (.cells #[T.pp.nm, T.pp.pd, T.pp.m, T.pp.n, T.pp.tk, .int .i64 T.q, .int .i64 (T.made : Int), .map T.mp] 84 (0, 0))
  map : ∀ b, T.mp = some b → w.ownsMap Tryz.prog 3 RF b T.fs.length (datum T.fs)
  non : T.mp = none → T.fs = []
  file : ∀ f ∈ T.fs, ∃ v, w.heap[f.g]? = some (.cells #[v, .int .i64 f.n] 129 (0, 0)) ∧ FileV w (fun k => T.X t k ∨ Z k) v f.m
  dist : T.fs.Pairwise fun a b => a.g ≠ b.g
section
variable {w w' : World} {Z Y : Nat → Prop} {t N M : Nat} {T : Tb}
theorem Tb.Ok.mono (h : T.Ok N) (hN : N ≤ M) : T.Ok M := ⟨h.q, Nat.le_trans h.made hN, Nat.le_trans h.len hN, h.sort, h.num, h.many, fun f hf => (h.size f hf).mono hN⟩
theorem Tb.Ok.used (h : T.Ok N) : usedF T.fs ≤ N * (N * 60) := by
  have h1 := sum_le (μ := fun f => (contM f.m).length) (K := N * 60) fun f hf => (h.size f hf).cont
  exact Nat.le_trans h1 (Nat.mul_le_mul_right _ h.len)
theorem Tb.Ok.vol (h : T.Ok N) : volF T.fs ≤ N * N := by
  have h1 := sum_le (μ := fun f => volM f.m) (K := N) fun f hf => Nat.le_trans (volM_le _) (h.size f hf).n
  exact Nat.le_trans h1 (Nat.mul_le_mul_right _ h.len)
theorem TabAt.lt (h : TabAt w Z t T) {k : Nat} (hk : T.X t k) : k < w.heap.size := by
  rcases hk with rfl | hk | ⟨f, hf, rfl⟩
  · exact (Array.getElem?_eq_some_iff.1 h.top).1
  · exact (h.map k hk).lt
  · obtain ⟨v, hv, _⟩ := h.file f hf
    exact (Array.getElem?_eq_some_iff.1 hv).1
theorem TabAt.keep (h : TabAt w Z t T) (ht : Touch Y w w') (hy : ∀ b, b < w.heap.size → Y b → Z b ∧ ¬ T.X t b) : TabAt w' Z t T := by
  have hn : ∀ b, T.X t b → ¬ Y b := fun b hb hyb => (hy b (h.lt hb) hyb).2 hb
  refine ⟨ht.heap (hn t (.inl rfl)) h.top, fun b hb => owns_touch (h.map b hb) ht (hn b (.inr (.inl hb))), h.non, fun f hf => ?_, h.dist⟩
  obtain ⟨v, hv, hF⟩ := h.file f hf
  refine ⟨v, ht.heap (hn f.g (.inr (.inr ⟨f, hf, rfl⟩))) hv, ?_⟩
  obtain ⟨A, c, ps, e, hc, hp, hsay⟩ := hF
  have hk : ∀ {size n : Nat} {A : Option Addr} {xs : List Value}, RdX w (fun k => T.X t k ∨ Z k) size A n xs → RdX w' (fun k => T.X t k ∨ Z k) size A n xs := fun hr =>
    ⟨hr.1, fun hn => by
      obtain ⟨ad, e, hb, hx, hc⟩ := hr.2 hn
      exact ⟨ad, e, Nat.lt_of_lt_of_le hb ht.size, hx, fun j u hu => (ht.cell (by rw [block_of_add]; exact hb) (by rw [block_of_add]; exact fun hyb => hx (.inr (hy _ hb hyb).1))).trans (hc j u hu)⟩⟩
  exact ⟨A, c, ps, e, hc, ⟨hk hp.top, fun p hp' => hk (hp.row p hp')⟩, hsay⟩
theorem TabAt.below (h : TabAt w Z t T) (hb : Below w.heap.size w w') : TabAt w' Z t T := h.keep (Touch.of (X := fun _ => False) hb) fun _ _ h => h.elim
/-- What lies high is avoided as well. -/
theorem TabAt.high (h : TabAt w Z t T) : TabAt w (fun b => Z b ∨ w.heap.size ≤ b) t T := by
  refine ⟨h.top, h.map, h.non, fun f hf => ?_, h.dist⟩
  obtain ⟨v, hv, A, c, ps, e, hc, hp, hsay⟩ := h.file f hf
  have hk : ∀ {size n : Nat} {A : Option Addr} {xs : List Value}, RdX w (fun k => T.X t k ∨ Z k) size A n xs → RdX w (fun k => T.X t k ∨ Z k ∨ w.heap.size ≤ k) size A n xs := fun hr =>
    ⟨hr.1, fun hn => by
      obtain ⟨ad, e, hb, hx, hc⟩ := hr.2 hn
      exact ⟨ad, e, hb, fun h => by
        rcases h with h | h | h
        · exact hx (.inl h)
        · exact hx (.inr h)
        · omega, hc⟩⟩
  exact ⟨v, hv, A, c, ps, e, hc, ⟨hk hp.top, fun p hp' => hk (hp.row p hp')⟩, hsay⟩
theorem TabAt.mono (h : TabAt w Z t T) (hx : ∀ b, b < w.heap.size → Y b → Z b) : TabAt w Y t T := by
  refine ⟨h.top, h.map, h.non, fun f hf => ?_, h.dist⟩
  obtain ⟨v, hv, hF⟩ := h.file f hf
  exact ⟨v, hv, hF.mono fun b hb hy => hy.elim .inl fun hy => .inr (hx b hb hy)⟩
theorem dist_of_mem {fs : List Fi} (_hs : fs.Pairwise fun a b => a.i < b.i) (hd : fs.Pairwise fun a b => a.g ≠ b.g) {f x : Fi} (hf : f ∈ fs) (hx : x ∈ fs) (hne : f.i ≠ x.i) : f.g ≠ x.g := by
  obtain ⟨j, hj⟩ := List.getElem?_of_mem hf
  obtain ⟨k, hk⟩ := List.getElem?_of_mem hx
  have h1 := (List.getElem?_eq_some_iff.1 hj)
  have h2 := (List.getElem?_eq_some_iff.1 hk)
  obtain ⟨l1, e1⟩ := h1
  obtain ⟨l2, e2⟩ := h2
  rw [List.pairwise_iff_getElem] at hd
  rcases Nat.lt_trichotomy j k with hlt | heq | hgt
  · have := hd j k l1 l2 hlt
    rw [e1, e2] at this
    exact this
  · subst heq
    rw [e1] at e2
    exact absurd (congrArg Fi.i e2) hne
  · have := hd k j l2 l1 hgt
    rw [e1, e2] at this
    exact fun e => this e.symm
/-- A file is another one. -/
theorem TabAt.upd (h : TabAt w Z t T) (hok : T.fs.Pairwise fun a b => a.i < b.i) {f : Fi} {n : Int} {m : List Pt} {v : Value} (hf : findF T.fs f.i = some f) (ht : Touch (fun k => k = f.g) w w') (hv : w'.heap[f.g]? = some (.cells #[v, .int .i64 n] 129 (0, 0))) (hF : FileV w' (fun k => T.X t k ∨ Z k) v m) :
    TabAt w' Z t { T with fs := updF T.fs f.i n m } := by
  obtain ⟨hm, _⟩ := findF_mem hf
  obtain ⟨v0, hv0, _⟩ := h.file f hm
  have ht0 : ¬ t = f.g := fun e => by
    have := h.top
    rw [e, hv0] at this
    injection this with this
    injection this with this _ _
    simp at this
  have hX : ∀ k, ({ T with fs := updF T.fs f.i n m } : Tb).X t k ↔ T.X t k := fun k => by
    unfold Tb.X
    simp only
    have : (∃ x ∈ updF T.fs f.i n m, k = x.g) ↔ ∃ x ∈ T.fs, k = x.g := by
      constructor
      · rintro ⟨x, hx, rfl⟩
        obtain ⟨y, hy, _, hg, _⟩ := updF_mem hx
        exact ⟨y, hy, hg⟩
      · rintro ⟨x, hx, rfl⟩
        have : x.g ∈ (updF T.fs f.i n m).map Fi.g := by rw [updF_g]; exact List.mem_map_of_mem hx
        obtain ⟨y, hy, e⟩ := List.mem_map.1 this
        exact ⟨y, hy, e.symm⟩
    rw [this]
  refine ⟨ht.heap ht0 h.top, fun b hb => ?_, fun hn => ?_, fun x hx => ?_, ?_⟩
  · simp only
    rw [updF_datum, updF_len]
    refine owns_touch (h.map b hb) ht fun e => ?_
    obtain ⟨es, clock, hb', _⟩ := h.map b hb
    rw [e, hv0] at hb'
    cases hb'
  · have := h.non hn
    simp only
    rw [this]
    rfl
  · obtain ⟨y, hy, hi, hg, hc⟩ := updF_mem hx
    rcases hc with ⟨e, hn', hm'⟩ | ⟨e, rfl⟩
    · have hyf : y = f := by
        have := findF_of_mem hok hy
        rw [e, hf] at this
        injection this with this
        exact this.symm
      subst hyf
      refine ⟨v, by rw [hg, hn']; exact hv, ?_⟩
      rw [hm']
      exact hF.mono fun b _ hb => hb.elim (fun hb => .inl ((hX b).1 hb)) .inr
    · obtain ⟨v1, hv1, hF1⟩ := h.file x hy
      have hne := dist_of_mem hok h.dist hm hy fun h' => e h'.symm
      refine ⟨v1, ht.heap (fun e => hne e.symm) hv1, ?_⟩
      refine (hF1.mono fun b _ hb => hb.elim (fun hb => .inl ((hX b).1 hb)) .inr).keep (Touch.mono ht fun b _ e => ?_)
      exact .inl ((hX b).2 (.inr (.inr ⟨f, hm, e⟩)))
  · have h1 := h.dist
    have e2 := updF_g T.fs f.i n m
    have h2 : (T.fs.map Fi.g).Pairwise (· ≠ ·) := by rw [List.pairwise_map]; exact h1
    rw [← e2, List.pairwise_map] at h2
    exact h2
end
end Go.Proofs.YtbhmnmmockmibaaGreat

namespace Go.Proofs.YtbhmnmmockmibaaGreat
open Go.RowKit Go.Maps
theorem keyI : Keyed Tryz.prog 3 := int_keyed Tryz.underlying3
theorem key_i {z : Int} (hz : -9223372036854775808 ≤ z ∧ z ≤ 9223372036854775807) : keyOf Tryz.prog 3 (.int .i64 z) = some (.int .i64 z) :=
  keyOf_int_mk Tryz.underlying3 (by simp only [Lit.wf, Bool.and_eq_true, decide_eq_true_eq]; exact hz)
section
variable {w : World} {Z : Nat → Prop} {t N : Nat} {T : Tb}
set_option maxRecDepth 100000 in
theorem TabAt.look (h : TabAt w Z t T) {z : Int} (hz : -9223372036854775808 ≤ z ∧ z ≤ 9223372036854775807) :
    (Instr.lookup 78 (.map T.mp) (.int .i64 z) false).run Tryz.prog w = .ok (ptr ((findF T.fs z).map Fi.g)) w := by
  cases hm : T.mp with
  | none =>
    have := Maps.look_nil (w := w) false keyI Tryz.underlying78 (Tryz.zeroValue130 w) (key_i hz)
    rw [h.non hm]
    exact this
  | some b =>
    obtain ⟨v, ps, hrun, hv⟩ := (h.map b hm).lookup keyI Tryz.underlying78 (Tryz.zeroValue130 w) (zd := dt none) (zp := []) rfl (key_i hz)
    obtain ⟨p, rfl, hp⟩ := RF_inv hv
    rw [datum_at] at hp
    injection hp with hp _
    have e : ptr p = ptr ((findF T.fs z).map Fi.g) := by
      cases hf : findF T.fs z with
      | none =>
        rw [hf] at hp
        rw [← dt_inj (p := none) hp]
        rfl
      | some f =>
        rw [hf] at hp
        rw [← dt_inj (p := some f.g) hp]
        rfl
    rw [e] at hrun
    exact hrun
theorem TabAt.cells (h : TabAt w Z t T) : w.cell? ⟨t, 5, none⟩ = some (.int .i64 T.q) ∧ w.cell? ⟨t, 6, none⟩ = some (.int .i64 (T.made : Int)) ∧ w.cell? ⟨t, 7, none⟩ = some (.map T.mp) := by
  refine ⟨?_, ?_, ?_⟩ <;> (rw [cell_of_row w t _ _ _ _ h.top]; rfl)
theorem TabAt.filed (h : TabAt w Z t T) {z : Int} {f : Fi} (hf : findF T.fs z = some f) : ∃ A n c, w.heap[f.g]? = some (.cells #[.slice A n c, .int .i64 f.n] 129 (0, 0)) ∧ FileV w (fun k => T.X t k ∨ Z k) (.slice A n c) f.m := by
  obtain ⟨v, hv, hF⟩ := h.file f (findF_mem hf).1
  obtain ⟨A, c, ps, rfl, hr⟩ := hF
  exact ⟨A, _, c, hv, A, c, ps, rfl, hr⟩
set_option maxHeartbeats 1000000 in
theorem find_some (h : TabAt w Z t T) {z : Int} (hz : -9223372036854775808 ≤ z ∧ z ≤ 9223372036854775807) {f : Fi} (hf : findF T.fs z = some f) :
    Calls Tryz.prog 91 #[.pointer (some ⟨t, 5, none⟩), .int .i64 z] w fun e w' => e = .returned (.tuple #[.pointer (some ⟨f.g, 0, none⟩), .int .i64 0]) ∧ w' = w := by
  obtain ⟨c0, c1, c2⟩ := h.cells
  have hl := h.look hz
  rw [hf] at hl
  simp only [Option.map_some, ptr] at hl
  generalize T.mp = mp at *
  generalize f.g = g at *
  clear h
  go_enter Tryz.func91, Tryz.ntmps91
  go_wp2
  go_ret2
  exact ⟨rfl, rfl⟩
set_option maxHeartbeats 1000000 in
theorem find_none (h : TabAt w Z t T) {z : Int} (hz : -9223372036854775808 ≤ z ∧ z ≤ 9223372036854775807) (hf : findF T.fs z = none) :
    Calls Tryz.prog 91 #[.pointer (some ⟨t, 5, none⟩), .int .i64 z] w fun e w' => e = .returned (.tuple #[.pointer none, .int .i64 80]) ∧ w' = w := by
  obtain ⟨c0, c1, c2⟩ := h.cells
  have hl := h.look hz
  rw [hf] at hl
  simp only [Option.map_none, ptr] at hl
  generalize T.mp = mp at *
  clear h
  go_enter Tryz.func91, Tryz.ntmps91
  go_wp2
  go_ret2
  exact ⟨rfl, rfl⟩
theorem TabAt.lowF (h : TabAt w Z t T) (hZ : ∀ b, Z b → b < w.heap.size) (b : Nat) (hb : T.X t b ∨ Z b) : XW w b := hb.elim (fun hb => h.lt hb) (hZ b)
set_option maxHeartbeats 1000000 in
theorem sync_some (h : TabAt w Z t T) (hok : T.Ok N) (hN : N ≤ 1000) (hZ : ∀ b, Z b → b < w.heap.size) {z : Int} (hz : -9223372036854775808 ≤ z ∧ z ≤ 9223372036854775807) {f : Fi} (hf : findF T.fs z = some f) :
    Calls Tryz.prog 74 #[.pointer (some ⟨t, 5, none⟩), .int .i64 z] w fun e w' => e = .returned (.int .i64 0) ∧ Touch (T.X t) w w' ∧ TabAt w' Z t { T with fs := updF T.fs z f.n (syncM f.m) } := by
  have Hc := Lib.hid (find_some h hz hf)
  obtain ⟨hm, hi⟩ := findF_mem hf
  obtain ⟨A, n, c, hv, hF⟩ := h.filed hf
  obtain ⟨A', c', ps, e, hcap, hp, hsay⟩ := hF
  injection e with e1 e2 e3
  subst e1 e2 e3
  have hsm : SmM (says ps) := by rw [hsay]; exact (hok.size f hm).sm hN
  have Hs := Lib.hid (sync_any (nm := .int .i64 f.n) hv hsm hp)
  have Hfin : Hid (∀ w' v, Touch (fun k => k = f.g) w w' → w'.heap[f.g]? = some (.cells #[v, .int .i64 f.n] 129 (0, 0)) → FileV w' (XW w) v (syncM (says ps)) → Touch (T.X t) w w' ∧ TabAt w' Z t { T with fs := updF T.fs z f.n (syncM f.m) }) := by
    intro w' v ht hv' hF'
    refine ⟨ht.mono fun b _ e => .inr (.inr ⟨f, hm, e⟩), ?_⟩
    rw [← hi]
    refine h.upd hok.sort (by rw [hi]; exact hf) ht hv' ?_
    rw [hsay] at hF'
    exact hF'.mono fun b _ hb => h.lowF hZ b hb
  generalize f.g = g at *
  clear h hok hv hp hsm hm hf hi hsay hcap
  go_enter Tryz.func74, Tryz.ntmps74
  go_wp2_with (first
    | (go_at_call 91; refine Hc.out.mono ?_; rintro e w1 ⟨rfl, rfl⟩)
    | (go_at_call 108; refine Hs.out.mono ?_; rintro e w1 ⟨rfl, ht, v, hv', hF'⟩))
  go_ret
  exact ⟨rfl, Hfin.out _ _ ht hv' hF'⟩
set_option maxHeartbeats 1000000 in
theorem link_some (h : TabAt w Z t T) (hok : T.Ok N) {z : Int} (hz : -9223372036854775808 ≤ z ∧ z ≤ 9223372036854775807) {f : Fi} (hf : findF T.fs z = some f) :
    Calls Tryz.prog 104 #[.pointer (some ⟨t, 5, none⟩), .int .i64 z] w fun e w' => e = .returned (.int .i64 0) ∧ Touch (T.X t) w w' ∧ TabAt w' Z t { T with fs := updF T.fs z (wrap64 (f.n + 1)) f.m } := by
  have Hc := Lib.hid (find_some h hz hf)
  obtain ⟨hm, hi⟩ := findF_mem hf
  obtain ⟨A, n, c, hv, hF⟩ := h.filed hf
  have c1 := bx_cell1 hv
  have z1 := bx_frozen1 hv
  have Hfin : Hid (∀ u, Touch (T.X t) w (w.setCell ⟨f.g, 1, none⟩ (.int .i64 u)) ∧ TabAt (w.setCell ⟨f.g, 1, none⟩ (.int .i64 u)) Z t { T with fs := updF T.fs z u f.m }) := by
    intro u
    have ht := Touch.cell1 w f.g 1 (.int .i64 u)
    refine ⟨ht.mono fun b _ e => .inr (.inr ⟨f, hm, e⟩), ?_⟩
    rw [← hi]
    exact h.upd hok.sort (by rw [hi]; exact hf) ht (bx_set1 _ hv) (hF.keep (ht.mono fun b _ e => .inl (.inr (.inr ⟨f, hm, e⟩))))
  generalize f.g = g at *
  clear h hok hv hF hm hf hi
  go_enter Tryz.func104, Tryz.ntmps104
  go_wp2_with (go_at_call 91; refine Hc.out.mono ?_; rintro e w1 ⟨rfl, rfl⟩)
  go_ret
  exact ⟨rfl, Hfin.out _⟩
set_option maxHeartbeats 1000000 in
theorem bytes_some (h : TabAt w Z t T) (hok : T.Ok N) (hN : N ≤ 1000) {z : Int} (hz : -9223372036854775808 ≤ z ∧ z ≤ 9223372036854775807) {f : Fi} (hf : findF T.fs z = some f) :
    Calls Tryz.prog 56 #[.pointer (some ⟨t, 5, none⟩), .int .i64 z] w fun e w' => ∃ v, e = .returned (.tuple #[v, .int .i64 0]) ∧ Below w.heap.size w w' ∧ w'.ownsRow w.heap.size 5 1 v (contM f.m).length (bs (contM f.m)) := by
  have Hc := Lib.hid (find_some h hz hf)
  obtain ⟨hm, hi⟩ := findF_mem hf
  obtain ⟨A, n, c, hv, hF⟩ := h.filed hf
  obtain ⟨A', c', ps, e, hcap, hp, hsay⟩ := hF
  injection e with e1 e2 e3
  subst e1 e2 e3
  have hsm : SmM (says ps) := by rw [hsay]; exact (hok.size f hm).sm hN
  have c0 := bx_cell hv
  have Hs := Lib.hid (bytes_any A c ps w hsm hp)
  rw [hsay] at Hs
  generalize f.g = g at *
  generalize ps.length = n at *
  clear h hok hv hp hsm hm hf hi hsay hcap
  go_enter Tryz.func56, Tryz.ntmps56
  go_wp2_with (first
    | (go_at_call 91; refine Hc.out.mono ?_; rintro e w1 ⟨rfl, rfl⟩)
    | (go_at_call 92; refine Hs.out.mono ?_; rintro e w1 ⟨v, rfl, ho, hb⟩))
  go_ret2
  exact ⟨_, rfl, hb, ho⟩
end
end Go.Proofs.YtbhmnmmockmibaaGreat
