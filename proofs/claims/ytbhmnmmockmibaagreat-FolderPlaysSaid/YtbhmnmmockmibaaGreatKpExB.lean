/- Files as lists of parts, by definition: what is done to them, and what follows of it. Conditions: none. Parts of files as values and cells; readings that avoid blocks; memory that changes in some blocks alone. Conditions: none. -/
import Derived.Test.YtbhmnmmockmibaaGreatKpMany
import Derived.Test.YtbhmnmmockmibaaGreatKpSwap
namespace Go.Proofs.YtbhmnmmockmibaaGreat
open Go.RowKit
abbrev Pt := List UInt8 × Bool
def fullM (m : List Pt) : List Pt := m.filter fun p => !p.1.isEmpty
def contM (m : List Pt) : List UInt8 := m.flatMap fun p => p.1
def volM (m : List Pt) : Nat := (m.filter fun p => !p.2 && !p.1.isEmpty).length
def holdM : List Pt → List Bool → List Pt
  | [], _ => []
  | p :: m, k => if p.2 = true then p :: holdM m k else match k with
    | [] => p :: holdM m []
    | b :: k => (p.1, b) :: holdM m k
def endM : List Pt → Nat
  | [] => 0
  | p :: m => if endM m = 0 then (if p.2 = true then 1 else 0) else endM m + 1
def fillP (p : Pt) : Pt := (if p.2 = true then p.1 else noughts p.1.length, true)
def failH (h : List Pt) : List Pt := (h.take (endM h)).map fillP
def failM (m : List Pt) (k : List Bool) : List Pt := failH (holdM (fullM m) k)
def syncM (m : List Pt) : List Pt := (fullM m).map fun p => (p.1, true)
def appM (m : List Pt) (b : List UInt8) : List Pt := fullM (m ++ [(b, false)])
theorem fullM_append (a b : List Pt) : fullM (a ++ b) = fullM a ++ fullM b := by simp [fullM]
theorem fullM_one {p : Pt} (h : p.1 ≠ []) : fullM [p] = [p] := by
  have : p.1.isEmpty = false := by cases hp : p.1 <;> simp_all
  simp [fullM, this]
theorem fullM_none {p : Pt} (h : p.1 = []) : fullM [p] = [] := by simp [fullM, h]
theorem fullM_mem {m : List Pt} {p : Pt} (h : p ∈ fullM m) : p.1 ≠ [] := by
  unfold fullM at h
  rw [List.mem_filter] at h
  intro e
  rw [e] at h
  simp at h
theorem fullM_id {m : List Pt} (h : ∀ p ∈ m, p.1 ≠ []) : fullM m = m := by
  unfold fullM
  rw [List.filter_eq_self]
  intro p hp
  have := h p hp
  cases hq : p.1 <;> simp_all
theorem fullM_idem (m : List Pt) : fullM (fullM m) = fullM m := fullM_id fun _ h => fullM_mem h
theorem contM_append (a b : List Pt) : contM (a ++ b) = contM a ++ contM b := by simp [contM]
theorem contM_one (p : Pt) : contM [p] = p.1 := by simp [contM]
theorem contM_cons (p : Pt) (m : List Pt) : contM (p :: m) = p.1 ++ contM m := by simp [contM]
theorem contM_full (m : List Pt) : contM (fullM m) = contM m := by
  induction m with
  | nil => rfl
  | cons p m ih =>
    rw [show p :: m = [p] ++ m from rfl, fullM_append, contM_append, contM_append, ih]
    by_cases h : p.1 = []
    · rw [fullM_none h]; simp [contM, h]
    · rw [fullM_one h]
theorem volM_append (a b : List Pt) : volM (a ++ b) = volM a + volM b := by simp [volM]
theorem volM_full (m : List Pt) : volM (fullM m) = volM m := by
  unfold volM fullM
  rw [List.filter_filter]
  congr 1
  apply List.filter_congr
  intro p _
  cases p.1.isEmpty <;> simp
theorem volM_one (p : Pt) : volM [p] = if (!p.2 && !p.1.isEmpty) = true then 1 else 0 := by
  unfold volM
  rw [List.filter_cons]
  split <;> rfl
theorem holdM_len : ∀ (m : List Pt) (k : List Bool), (holdM m k).length = m.length
  | [], _ => rfl
  | p :: m, k => by
    unfold holdM
    split
    · rw [List.length_cons, List.length_cons, holdM_len m]
    · cases k with
      | nil => simp only [List.length_cons, holdM_len m]
      | cons b k => simp only [List.length_cons, holdM_len m]
theorem holdM_d {p : Pt} {m : List Pt} {k : List Bool} (h : p.2 = true) : holdM (p :: m) k = p :: holdM m k := by rw [holdM.eq_def]; simp only; rw [if_pos h]
theorem holdM_none {p : Pt} {m : List Pt} (h : ¬ p.2 = true) : holdM (p :: m) [] = p :: holdM m [] := by rw [holdM.eq_def]; simp only; rw [if_neg h]
theorem holdM_told {p : Pt} {m : List Pt} {b : Bool} {k : List Bool} (h : ¬ p.2 = true) : holdM (p :: m) (b :: k) = (p.1, b) :: holdM m k := by rw [holdM.eq_def]; simp only; rw [if_neg h]
theorem holdM_snoc : ∀ (m : List Pt) (k : List Bool) (p : Pt), (∀ q ∈ m, q.1 ≠ []) → holdM (m ++ [p]) k = holdM m k ++ [if p.2 = true then p else (p.1, (k[volM m]?).getD false)]
  | [], k, p, _ => by
    obtain ⟨b, d⟩ := p
    cases d <;> cases k <;> simp [holdM, volM]
  | q :: m, k, p, h => by
    have ih := fun k => holdM_snoc m k p (fun x hx => h x (by simp [hx]))
    have hq : q.1.isEmpty = false := by
      have := h q (by simp)
      cases hq : q.1 <;> simp_all
    have hv : volM (q :: m) = (if q.2 = true then 0 else 1) + volM m := by
      rw [show q :: m = [q] ++ m from rfl, volM_append, volM_one, hq]
      cases q.2 <;> simp
    rw [List.cons_append, hv]
    by_cases hd : q.2 = true
    · rw [holdM_d hd, holdM_d hd, if_pos hd, ih, Nat.zero_add]
      rfl
    · rw [if_neg hd]
      cases k with
      | nil => rw [holdM_none hd, holdM_none hd, ih]; simp
      | cons b k =>
        rw [holdM_told hd, holdM_told hd, ih, Nat.add_comm 1, List.getElem?_cons_succ]
        rfl
theorem holdM_get {m : List Pt} : ∀ {k : List Bool} {j : Nat} {p : Pt}, m[j]? = some p → ∃ d, (holdM m k)[j]? = some (p.1, d) ∧ (p.2 = true → d = true) := by
  induction m with
  | nil => intro k j p h; simp at h
  | cons q m ih =>
    intro k j p h
    cases j with
    | zero =>
      simp only [List.getElem?_cons_zero, Option.some.injEq] at h
      subst h
      unfold holdM
      by_cases hd : q.2 = true
      · rw [if_pos hd]
        exact ⟨q.2, by simp, fun h => h⟩
      · rw [if_neg hd]
        cases k with
        | nil => exact ⟨q.2, by simp, fun h => absurd h hd⟩
        | cons b k => exact ⟨b, by simp, fun h => absurd h hd⟩
    | succ j =>
      simp only [List.getElem?_cons_succ] at h
      unfold holdM
      by_cases hd : q.2 = true
      · rw [if_pos hd]
        exact ih h
      · rw [if_neg hd]
        cases k with
        | nil => exact ih h
        | cons b k => exact ih h
theorem endM_le : ∀ m : List Pt, endM m ≤ m.length
  | [] => Nat.le_refl _
  | p :: m => by
    have := endM_le m
    unfold endM
    rw [List.length_cons]
    split
    · split <;> omega
    · omega
theorem endM_snoc (m : List Pt) (p : Pt) : endM (m ++ [p]) = if p.2 = true then m.length + 1 else endM m := by
  induction m with
  | nil => simp [endM]
  | cons q m ih =>
    rw [List.cons_append, endM, ih]
    by_cases h : p.2 = true
    · rw [if_pos h, if_pos h, if_neg (by omega), List.length_cons]
    · rw [if_neg h, if_neg h, endM]
theorem endM_back {m : List Pt} {n : Nat} {p : Pt} (h : endM (m.take (n + 1)) = endM m) (hp : m[n]? = some p) (hd : p.2 = false) : endM (m.take n) = endM m := by
  rw [← h, List.take_add_one, hp]
  simp only [Option.toList_some]
  rw [endM_snoc, if_neg (by rw [hd]; simp)]
theorem endM_here {m : List Pt} {n : Nat} {p : Pt} (h : endM (m.take (n + 1)) = endM m) (hp : m[n]? = some p) (hd : p.2 = true) : endM m = n + 1 := by
  rw [← h, List.take_add_one, hp]
  simp only [Option.toList_some]
  have hn := (List.getElem?_eq_some_iff.1 hp).1
  rw [endM_snoc, if_pos hd, List.length_take]
  omega
theorem endM_zero {m : List Pt} (h : endM (m.take 0) = endM m) : endM m = 0 := by
  rw [← h]
  simp [endM]
theorem endM_at {m : List Pt} {n : Nat} {p : Pt} (hp : m[n]? = some p) (hd : p.2 = true) : n + 1 ≤ endM m := by
  induction m generalizing n with
  | nil => simp at hp
  | cons q m ih =>
    unfold endM
    cases n with
    | zero =>
      simp only [List.getElem?_cons_zero, Option.some.injEq] at hp
      subst hp
      rw [if_pos hd]
      split <;> omega
    | succ n =>
      have := ih (n := n) (by simpa using hp)
      rw [if_neg (by omega)]
      omega
theorem fillP_len (p : Pt) : (fillP p).1.length = p.1.length := by
  unfold fillP
  split
  · rfl
  · exact noughts_len _
theorem map_snoc_take {α β : Type} {l : List α} {k : Nat} {x : α} (f : α → β) (h : Hid (l[k]? = some x)) : (l.take (k + 1)).map f = (l.take k).map f ++ [f x] := by
  rw [take_snoc h, List.map_append]
  rfl
theorem contM_hold (m : List Pt) (k : List Bool) : contM (holdM m k) = contM m := by
  induction m generalizing k with
  | nil => rfl
  | cons p m ih =>
    unfold holdM
    split
    · rw [contM_cons, contM_cons, ih]
    · cases k with
      | nil => simp only [contM_cons, ih]
      | cons b k => simp only [contM_cons, ih]
def Nought (a b : List UInt8) : Prop := a.length ≤ b.length ∧ ∀ (i : Nat) (x y : UInt8), a[i]? = some x → b[i]? = some y → x = y ∨ x = 0
theorem Nought.refl (a : List UInt8) : Nought a a := ⟨Nat.le_refl _, fun i x y hx hy => .inl (by rw [hx] at hy; injection hy)⟩
theorem Nought.nil (b : List UInt8) : Nought [] b := ⟨Nat.zero_le _, fun i x y hx _ => by simp at hx⟩
theorem Nought.append {a b c d : List UInt8} (h : a.length = b.length) (h1 : Nought a b) (h2 : Nought c d) : Nought (a ++ c) (b ++ d) := by
  refine ⟨by rw [List.length_append, List.length_append]; have := h2.1; omega, fun i x y hx hy => ?_⟩
  by_cases hi : i < a.length
  · rw [List.getElem?_append_left hi] at hx
    rw [List.getElem?_append_left (by omega)] at hy
    exact h1.2 i x y hx hy
  · rw [List.getElem?_append_right (by omega)] at hx
    rw [List.getElem?_append_right (by omega), ← h] at hy
    exact h2.2 _ x y hx hy
theorem Nought.fill (b : List UInt8) : Nought (noughts b.length) b := by
  refine ⟨by rw [noughts_len]; exact Nat.le_refl _, fun i x y hx _ => .inr ?_⟩
  unfold noughts at hx
  rw [List.getElem?_replicate] at hx
  split at hx
  · injection hx with hx; exact hx.symm
  · cases hx
theorem fill_nought (p : Pt) : Nought (fillP p).1 p.1 := by
  unfold fillP
  split
  · exact .refl _
  · exact .fill _
theorem failH_nought (h : List Pt) (n : Nat) : Nought (contM ((h.take n).map fillP)) (contM h) := by
  induction h generalizing n with
  | nil => simp [contM]; exact .nil _
  | cons p h ih =>
    cases n with
    | zero => exact .nil _
    | succ n =>
      rw [List.take_succ_cons, List.map_cons, contM_cons, contM_cons]
      exact .append (fillP_len p) (fill_nought p) (ih n)
theorem failM_nought (m : List Pt) (k : List Bool) : Nought (contM (failM m k)) (contM m) := by
  have := failH_nought (holdM (fullM m) k) (endM (holdM (fullM m) k))
  rw [contM_hold, contM_full] at this
  exact this
theorem failM_durable {m : List Pt} {k : List Bool} {p : Pt} (h : p ∈ failM m k) : p.2 = true := by
  unfold failM failH at h
  rw [List.mem_map] at h
  obtain ⟨q, _, rfl⟩ := h
  rfl
theorem failM_keeps {m : List Pt} {k : List Bool} {j : Nat} (hf : ∀ p ∈ m, p.1 ≠ []) (hd : ∀ p ∈ m.take j, p.2 = true) : contM (m.take j) <+: contM (failM m k) := by
  unfold failM
  rw [fullM_id hf]
  have hh : (holdM m k).take j = m.take j := by
    apply List.ext_getElem?
    intro i
    rw [List.getElem?_take, List.getElem?_take]
    split
    · rename_i hij
      cases hm : m[i]? with
      | none =>
        rw [List.getElem?_eq_none_iff] at hm ⊢
        rw [holdM_len]
        exact hm
      | some p =>
        obtain ⟨d, h1, h2⟩ := holdM_get (k := k) hm
        have hp : p.2 = true := hd p (List.mem_of_getElem? (i := i) (by rw [List.getElem?_take, if_pos hij]; exact hm))
        rw [h1, h2 hp, ← hp]
    · rfl
  have hle : min j m.length ≤ endM (holdM m k) := by
    rcases Nat.eq_zero_or_pos (min j m.length) with h0 | h0
    · omega
    · obtain ⟨n, hn⟩ : ∃ n, min j m.length = n + 1 := ⟨min j m.length - 1, by omega⟩
      have hnl : n < m.length := by omega
      obtain ⟨d, h1, h2⟩ := holdM_get (k := k) (List.getElem?_eq_getElem hnl)
      have hp : (m[n]).2 = true := hd _ (List.mem_of_getElem? (i := n) (by rw [List.getElem?_take, if_pos (by omega)]; exact List.getElem?_eq_getElem hnl))
      have := endM_at h1 (h2 hp)
      omega
  have hj : m.take j = (holdM m k).take (min j m.length) := by
    rw [← hh]
    rcases Nat.le_total j m.length with h | h
    · rw [Nat.min_eq_left h]
    · rw [Nat.min_eq_right h, List.take_of_length_le (by rw [holdM_len]; exact h), List.take_of_length_le (by rw [holdM_len]; exact Nat.le_refl _)]
  have hjd : ∀ p ∈ (holdM m k).take (min j m.length), p.2 = true := by rw [← hj]; exact hd
  have hfi : ((holdM m k).take (min j m.length)).map fillP = (holdM m k).take (min j m.length) := by
    conv => rhs; rw [← List.map_id ((holdM m k).take (min j m.length))]
    apply List.map_congr_left
    intro p hp
    have := hjd p hp
    unfold fillP
    rw [if_pos this]
    obtain ⟨b, d⟩ := p
    simp only at this
    subst this
    rfl
  rw [hj]
  unfold failH
  obtain ⟨x, hx⟩ : ∃ x, endM (holdM m k) = min j m.length + x := ⟨endM (holdM m k) - min j m.length, by omega⟩
  rw [hx, List.take_add, List.map_append, hfi, contM_append]
  exact List.prefix_append _ _
end Go.Proofs.YtbhmnmmockmibaaGreat

namespace Go.Proofs.YtbhmnmmockmibaaGreat
open Go.RowKit
structure Touch (X : Nat → Prop) (w w' : World) : Prop where
  os : w'.os = w.os
  tape : w'.tape = w.tape
  output : w'.output = w.output
  size : w.heap.size ≤ w'.heap.size
  block : ∀ k, k < w.heap.size → ¬ X k → w'.heap[k]? = w.heap[k]?
theorem Touch.refl (X : Nat → Prop) (w : World) : Touch X w w := ⟨rfl, rfl, rfl, Nat.le_refl _, fun _ _ _ => rfl⟩
theorem Touch.trans {X : Nat → Prop} {a b c : World} (h : Touch X a b) (k : Touch X b c) : Touch X a c :=
  ⟨k.os.trans h.os, k.tape.trans h.tape, k.output.trans h.output, Nat.le_trans h.size k.size, fun i hi hx => (k.block i (Nat.lt_of_lt_of_le hi h.size) hx).trans (h.block i hi hx)⟩
theorem Touch.mono {X Y : Nat → Prop} {w w' : World} (h : Touch X w w') (hx : ∀ b, b < w.heap.size → X b → Y b) : Touch Y w w' := ⟨h.os, h.tape, h.output, h.size, fun k hk hn => h.block k hk (fun hx' => hn (hx k hk hx'))⟩
theorem Touch.of {X : Nat → Prop} {w w' : World} (h : Below w.heap.size w w') : Touch X w w' := ⟨h.os, h.tape, h.output, h.size, fun k hk _ => h.block k hk⟩
theorem Touch.below {X : Nat → Prop} {w w' : World} {B : Nat} (h : Touch X w w') (hB : B ≤ w.heap.size) (hx : ∀ b, X b → B ≤ b) : Below B w w' :=
  ⟨h.os, h.tape, h.output, h.size, fun k hk => h.block k (by omega) (fun hx' => by have := hx k hx'; omega)⟩
theorem Touch.cell {X : Nat → Prop} {w w' : World} (h : Touch X w w') {p : Addr} (hp : p.block < w.heap.size) (hx : ¬ X p.block) : w'.cell? p = w.cell? p := World.cell?_of_block (h.block _ hp hx)
theorem Touch.heap {X : Nat → Prop} {w w' : World} (h : Touch X w w') {g : Nat} {o : Obj} (hx : ¬ X g) (hg : w.heap[g]? = some o) : w'.heap[g]? = some o := by
  rw [h.block g (Array.getElem?_eq_some_iff.1 hg).1 hx]
  exact hg
theorem Touch.grown {X : Nat → Prop} {w w' : World} {row : Option Nat} (h : w.grownBy w' row) (hx : ∀ k, row = some k → X k) : Touch X w w' :=
  ⟨h.os, h.tape, h.output, h.size, fun k hk hn => h.block k hk (fun e => hn (hx k e.symm))⟩
theorem Touch.setCell {X : Nat → Prop} {w w' : World} (h : Touch X w w') {p : Addr} (hp : w.heap.size ≤ p.block ∨ X p.block) (u : Value) : Touch X w (w'.setCell p u) :=
  ⟨h.os, h.tape, h.output, by simpa [World.setCell] using h.size, fun k hk hn => by
    rw [Below.heap_setCell _ _ _ _ (by rintro rfl; rcases hp with hp | hp; omega; exact hn hp)]
    exact h.block k hk hn⟩
theorem Touch.setRow {X : Nat → Prop} {w w' : World} (h : Touch X w w') {g : Nat} (hp : w.heap.size ≤ g ∨ X g) (cs : Array Value) : Touch X w (w'.setRow g cs) :=
  ⟨h.os, h.tape, h.output, by simpa [World.setRow] using h.size, fun k hk hn => by
    rw [setRow_other w' g k cs (by rintro rfl; rcases hp with hp | hp; omega; exact hn hp)]
    exact h.block k hk hn⟩
theorem Touch.drew {X : Nat → Prop} {w w' : World} (h : Touch X w w') : Touch X w w'.drew := ⟨h.os, h.tape, h.output, h.size, h.block⟩
def RdX (w : World) (X : Nat → Prop) (size : Nat) (A : Option Addr) (n : Nat) (xs : List Value) : Prop :=
  xs.length = n * size ∧ (0 < n → ∃ ad, A = some ad ∧ ad.block < w.heap.size ∧ ¬ X ad.block ∧ ∀ j u, xs[j]? = some u → w.cell? (ad.add j) = some u)
section
variable {w w' : World} {X Y : Nat → Prop} {size n : Nat} {A : Option Addr} {xs : List Value}
theorem RdX.none_ : RdX w X size A 0 [] := ⟨by simp, fun h => absurd h (by omega)⟩
theorem RdX.keep (h : RdX w X size A n xs) (ht : Touch X w w') : RdX w' X size A n xs :=
  ⟨h.1, fun hn => by
    obtain ⟨ad, e, hb, hx, hc⟩ := h.2 hn
    exact ⟨ad, e, Nat.lt_of_lt_of_le hb ht.size, hx, fun j u hu => (ht.cell (by rw [block_of_add]; exact hb) (by rw [block_of_add]; exact hx)).trans (hc j u hu)⟩⟩
theorem RdX.below (h : RdX w X size A n xs) (ht : Below w.heap.size w w') : RdX w' X size A n xs := h.keep (.of ht)
theorem RdX.mono (h : RdX w X size A n xs) (hx : ∀ b, b < w.heap.size → Y b → X b) : RdX w Y size A n xs :=
  ⟨h.1, fun hn => by
    obtain ⟨ad, e, hb, hX, hc⟩ := h.2 hn
    exact ⟨ad, e, hb, fun hy => hX (hx _ hb hy), hc⟩⟩
theorem RdX.reads (h : RdX w X size A n xs) : Reads w w.heap.size size A n xs :=
  ⟨h.1, fun hn => by
    obtain ⟨ad, e, hb, _, hc⟩ := h.2 hn
    exact ⟨ad, e, hb, hc⟩⟩
theorem RdX.of {B : Nat} (h : Reads w B size A n xs) (hB : B ≤ w.heap.size) (hx : ∀ b, b < B → ¬ X b) : RdX w X size A n xs :=
  ⟨h.1, fun hn => by
    obtain ⟨ad, e, hb, hc⟩ := h.2 hn
    exact ⟨ad, e, by omega, hx _ hb, hc⟩⟩
theorem RdX.drew (h : RdX w X size A n xs) : RdX w.drew X size A n xs := h
end
abbrev BsX (w : World) (X : Nat → Prop) (A : Option Addr) (l : List UInt8) : Prop := RdX w X 1 A l.length (bs l)
structure Pa where
  r : Row
  d : Bool
def Pa.cs (p : Pa) : List Value := [.slice p.r.A p.r.l.length p.r.c, .bool p.d]
def Pa.v (p : Pa) : Value := .agg #[.slice p.r.A p.r.l.length p.r.c, .bool p.d]
def pcells (ps : List Pa) : List Value := ps.flatMap Pa.cs
def says (ps : List Pa) : List Pt := ps.map fun p => (p.r.l, p.d)
theorem says_len (ps : List Pa) : (says ps).length = ps.length := by simp [says]
theorem says_append (a b : List Pa) : says (a ++ b) = says a ++ says b := by simp [says]
theorem says_get {ps : List Pa} {k : Nat} {p : Pa} (h : Hid (ps[k]? = some p)) : Hid ((says ps)[k]? = some (p.r.l, p.d)) := by
  show (says ps)[k]? = _
  unfold says
  rw [List.getElem?_map, h.out]
  rfl
theorem says_take (ps : List Pa) (k : Nat) : says (ps.take k) = (says ps).take k := by simp [says]
theorem says_snoc {ps : List Pa} {k : Nat} {p : Pa} (h : Hid (ps[k]? = some p)) : says (ps.take (k + 1)) = says (ps.take k) ++ [(p.r.l, p.d)] := map_snoc_take _ h
theorem pcells_len (ps : List Pa) : (pcells ps).length = ps.length * 2 := by
  induction ps with
  | nil => rfl
  | cons f ps ih =>
    unfold pcells at ih ⊢
    rw [List.flatMap_cons, List.length_append, ih, List.length_cons]
    simp [Pa.cs]
    omega
theorem pcells_append (a b : List Pa) : pcells (a ++ b) = pcells a ++ pcells b := by simp [pcells]
theorem pcells_split {ps : List Pa} {k : Nat} {p : Pa} (h : ps[k]? = some p) : pcells ps = pcells (ps.take k) ++ (p.cs ++ pcells (ps.drop (k + 1))) ∧ (pcells (ps.take k)).length = k * 2 := by
  obtain ⟨hk, e⟩ := List.getElem?_eq_some_iff.1 h
  constructor
  · conv => lhs; rw [← List.take_append_drop k ps, List.drop_eq_getElem_cons hk, e]
    rw [pcells_append]
    rfl
  · rw [pcells_len, List.length_take]
    congr 1
    omega
theorem pcells_get {ps : List Pa} {k : Nat} {p : Pa} (h : ps[k]? = some p) : (pcells ps)[k * 2]? = some (.slice p.r.A p.r.l.length p.r.c) ∧ (pcells ps)[k * 2 + 1]? = some (.bool p.d) := by
  obtain ⟨hs, hl⟩ := pcells_split h
  rw [hs]
  constructor
  · rw [List.getElem?_append_right (by omega), hl, Nat.sub_self]; rfl
  · rw [List.getElem?_append_right (by omega), hl, show k * 2 + 1 - k * 2 = 1 by omega]; rfl
theorem pcells_set {ps : List Pa} {k : Nat} {p : Pa} (b : Bool) (h : ps[k]? = some p) : (pcells ps).set (k * 2 + 1) (.bool b) = pcells (ps.set k ⟨p.r, b⟩) := by
  obtain ⟨hs, hl⟩ := pcells_split h
  obtain ⟨hk, e⟩ := List.getElem?_eq_some_iff.1 h
  have hs' : ps.set k ⟨p.r, b⟩ = ps.take k ++ ([⟨p.r, b⟩] ++ ps.drop (k + 1)) := by
    rw [List.set_eq_take_append_cons_drop, if_pos hk]
    rfl
  rw [hs, hs', pcells_append, pcells_append, List.set_append_right _ _ (by omega), hl, show k * 2 + 1 - k * 2 = 1 by omega]
  rfl
theorem pcells_one (ps : List Pa) : ∀ u ∈ pcells ps, u.oneCell' = true := by
  intro u hu
  unfold pcells at hu
  rw [List.mem_flatMap] at hu
  obtain ⟨p, _, hu⟩ := hu
  simp only [Pa.cs, List.mem_cons, List.not_mem_nil, or_false] at hu
  rcases hu with rfl | rfl <;> rfl
structure PsX (w : World) (X : Nat → Prop) (A : Option Addr) (ps : List Pa) : Prop where
  top : RdX w X 2 A ps.length (pcells ps)
  row : ∀ p ∈ ps, BsX w X p.r.A p.r.l
section
variable {w w' : World} {X Y : Nat → Prop} {A : Option Addr} {ps : List Pa}
theorem PsX.nil : PsX w X A [] := ⟨RdX.none_, by simp⟩
theorem PsX.keep (h : PsX w X A ps) (ht : Touch X w w') : PsX w' X A ps := ⟨h.top.keep ht, fun p hp => (h.row p hp).keep ht⟩
theorem PsX.below (h : PsX w X A ps) (ht : Below w.heap.size w w') : PsX w' X A ps := h.keep (.of ht)
theorem PsX.mono (h : PsX w X A ps) (hx : ∀ b, b < w.heap.size → Y b → X b) : PsX w Y A ps := ⟨h.top.mono hx, fun p hp => (h.row p hp).mono hx⟩
theorem padd_next (a : Addr) (n : Nat) : a.add (n + 1) = ⟨(a.add n).block, (a.add n).off + 1, none⟩ := by
  unfold Addr.add
  by_cases h : n = 0 <;> simp [h, Nat.add_assoc]
theorem PsX.at_ {k : Nat} (h : PsX w X A ps) (hk : k < ps.length) :
    ∃ (ad : Addr) (p : Pa), A = some ad ∧ ad.block < w.heap.size ∧ ¬ X ad.block ∧ w.cell? (ad.add (k * 2)) = some (.slice p.r.A p.r.l.length p.r.c) ∧ w.cell? ⟨(ad.add (k * 2)).block, (ad.add (k * 2)).off + 1, none⟩ = some (.bool p.d) ∧ Hid (ps[k]? = some p) ∧ BsX w X p.r.A p.r.l := by
  obtain ⟨ad, e, hb, hx, hc⟩ := h.top.2 (by omega)
  have hr : ps[k]? = some ps[k] := List.getElem?_eq_getElem hk
  obtain ⟨h1, h2⟩ := pcells_get hr
  exact ⟨ad, _, e, hb, hx, hc _ _ h1, by rw [← padd_next]; exact hc _ _ h2, hr, h.row _ (List.mem_of_getElem? hr)⟩
theorem PsX.new (t : TypeId) (hX : ∀ b, X b → b < w.heap.size) (h : ∀ p ∈ ps, BsX w X p.r.A p.r.l) : PsX (w.alloc (.cells (pcells ps).toArray t)) X (some ⟨w.heap.size, 0, none⟩) ps := by
  refine ⟨⟨pcells_len ps, fun _ => ⟨_, rfl, by simp, fun hx => by have := hX _ hx; simp at this, fun j u hu => ?_⟩⟩, fun p hp => (h p hp).below ((Below.refl _ _).alloc (Nat.le_refl _) _)⟩
  have hadd : (⟨w.heap.size, 0, none⟩ : Addr).add j = ⟨w.heap.size, j, none⟩ := by unfold Addr.add; split <;> simp_all
  rw [hadd, cell_of_row (w.alloc (.cells (pcells ps).toArray t)) w.heap.size j (pcells ps).toArray t (0, 0) (heap_alloc_new w _)]
  simpa using hu
end
structure SmM (m : List Pt) : Prop where
  n : m.length ≤ 1000
  l : ∀ p ∈ m, p.1.length ≤ 100000
theorem contM_le {m : List Pt} (h : SmM m) (k : Nat) : (contM (m.take k)).length ≤ 100000000 := by
  have : ∀ (m : List Pt), (∀ p ∈ m, p.1.length ≤ 100000) → (contM m).length ≤ m.length * 100000 := by
    intro m
    induction m with
    | nil => intro _; simp [contM]
    | cons p m ih =>
      intro h
      have h1 := ih (fun q hq => h q (by simp [hq]))
      have h2 := h p (by simp)
      rw [contM_cons, List.length_append, List.length_cons]
      omega
  have h1 := this (m.take k) (fun p hp => h.l p (List.mem_of_mem_take hp))
  have h2 := h.n
  have h3 : (m.take k).length ≤ m.length := by rw [List.length_take]; omega
  omega
theorem contM_le' {m : List Pt} (h : SmM m) : (contM m).length ≤ 100000000 := by
  have := contM_le h m.length
  rwa [List.take_length] at this
theorem SmM.full {m : List Pt} (h : SmM m) : SmM (fullM m) := ⟨Nat.le_trans (List.length_filter_le _ _) h.n, fun p hp => h.l p (List.mem_filter.1 hp).1⟩
theorem SmM.at_ {ps : List Pa} {k : Nat} {p : Pa} (h : SmM (says ps)) (hx : Hid (ps[k]? = some p)) : p.r.l.length ≤ 100000 := h.l _ (mem_of_get (says_get hx))
theorem contM_snoc {ps : List Pa} {k : Nat} {p : Pa} (h : Hid (ps[k]? = some p)) : contM (says (ps.take (k + 1))) = contM (says (ps.take k)) ++ p.r.l := by
  rw [says_snoc h, contM_append, contM_one]
theorem ret_nat {a b : Nat} (h : a = b) : Ending.returned (.int .i64 (a : Int)) = .returned (.int .i64 (b : Int)) := by rw [h]
theorem below_new (w : World) (o : Obj) : Below w.heap.size w (w.alloc o) := (Below.refl _ _).alloc (Nat.le_refl _) _
theorem below_then {w w' w'' : World} {B : Nat} (h : Below B w w') (h' : Below w'.heap.size w' w'') (hB : B ≤ w.heap.size) : Below B w w'' := h.trans (h'.mono (Nat.le_trans hB h.size))
set_option maxHeartbeats 1000000 in
set_option maxRecDepth 100000 in
theorem size_any {X : Nat → Prop} (A : Option Addr) (c : Nat) (ps : List Pa) (w : World) (hs : SmM (says ps)) (hr : PsX w X A ps) :
    Calls Tryz.prog 114 #[.slice A ps.length c] w fun e w' => e = .returned (.int .i64 (((contM (says ps)).length : Nat) : Int)) ∧ Below w.heap.size w w' := by
  have hlen : (ps.length : Int) ≤ 1000 := by have := hs.n; rw [says_len] at this; omega
  have Hs := Lib.hid hs
  clear hs
  go_enter Tryz.func114, Tryz.ntmps114
  go_wp2
  go_loopw [3, 8] (fun s i wr => ∃ (k T : Nat), k ≤ ps.length ∧ i = .int .i64 (k : Int) ∧ s = .int .i64 (T : Int) ∧ Hid (T = (contM (says (ps.take k))).length) ∧ Below w.heap.size w wr) (fun _ i _ => ps.length - (intOf i).toNat)
  case atStart => exact ⟨0, 0, by omega, rfl, rfl, by exact rfl, .refl _ _⟩
  case round =>
    obtain ⟨k, T, hk, rfl, rfl, hT, hb⟩ := hrel
    have hTI : (T : Int) ≤ 100000000 := by have := contM_le Hs.out k; rw [← says_take, ← hT.out] at this; omega
    by_cases hlt : k < ps.length
    · obtain ⟨ad, p, rfl, _, _, hc1, hc2, hx, hrow⟩ := (hr.below hb).at_ hlt
      have hll : (p.r.l.length : Int) ≤ 100000 := by have := Hs.out.at_ hx; omega
      go_wp2
      go_roundw
      case rel => exact ⟨k + 1, T + p.r.l.length, by omega, by go_num, by go_num, by show _ = _; rw [contM_snoc hx, List.length_append, hT.out], hb.alloc hb.size _⟩
      case measure => simp [intOf]; omega
    · obtain rfl : k = ps.length := by omega
      go_wp2
      go_ret
      exact ⟨ret_nat (by rw [hT.out, List.take_length]), hb⟩
end Go.Proofs.YtbhmnmmockmibaaGreat

namespace Go.Proofs.YtbhmnmmockmibaaGreat
open Go.RowKit
set_option maxHeartbeats 1000000 in
theorem clipB_any (A : Option Addr) (n c : Nat) (w : World) (hc : n ≤ c) (hl : n ≤ 9223372036854775807) :
    Calls Tryz.prog 120 #[.slice A n c] w fun e w' => e = .returned (.slice A n n) ∧ w' = w := by
  have hcI : (n : Int) ≤ (c : Int) := by omega
  have hlI : (n : Int) ≤ 9223372036854775807 := by omega
  go_enter Tryz.func120, Tryz.ntmps120
  go_wp2
  go_ret
  exact ⟨rfl, rfl⟩
set_option maxHeartbeats 1000000 in
theorem clipP_any (A : Option Addr) (n c : Nat) (w : World) (hc : n ≤ c) (hl : n ≤ 9223372036854775807) :
    Calls Tryz.prog 123 #[.slice A n c] w fun e w' => e = .returned (.slice A n n) ∧ w' = w := by
  have hcI : (n : Int) ≤ (c : Int) := by omega
  have hlI : (n : Int) ≤ 9223372036854775807 := by omega
  go_enter Tryz.func123, Tryz.ntmps123
  go_wp2
  go_ret
  exact ⟨rfl, rfl⟩
theorem run_make0 (w : World) (n : Nat) (z : Int) (hz : z = (n : Int)) (hn : n ≤ 140737488351232) :
    (Instr.makeSlice 38 (.int .i64 0) (.int .i64 z)).run Tryz.prog w = .ok (.slice (some ⟨w.heap.size, 0, none⟩) 0 n) (w.alloc (.cells (bs (noughts n)).toArray 5)) := by
  subst hz
  obtain ⟨i0, hi0, hz0, hz1, hz2⟩ := info_parts Tryz.info5
  have h := run_make w 38 5 i0 _ Tryz.underlying38 hi0 hz0 .i64 .i64 0 (n : Int) (by omega) (by omega) (by rw [hz2]; omega) (by omega)
  have e : madeCells (Value.int .u8 0).cells (n * 1) = (bs (noughts n)).toArray := by rw [← made_noughts]
  rw [hz1, Int.toNat_natCast, e] at h
  exact h
theorem own_make0 (w : World) (n : Nat) (hn : n ≤ 140737488351232) : (w.alloc (.cells (bs (noughts n)).toArray 5)).ownsRow w.heap.size 5 1 (.slice (some ⟨w.heap.size, 0, none⟩) 0 n) 0 [] :=
  World.ownsRow_made w _ n (Nat.le_refl _) (by simp only [maxLen]; omega) (by simp [bs_len, noughts_len])
set_option maxHeartbeats 1000000 in
set_option maxRecDepth 100000 in
theorem len_any {X : Nat → Prop} (A : Option Addr) (c : Nat) (ps : List Pa) (w : World) (hs : SmM (says ps)) (hr : PsX w X A ps) :
    Calls Tryz.prog 93 #[.agg #[.slice A ps.length c]] w fun e w' => e = .returned (.int .i64 (((contM (says ps)).length : Nat) : Int)) ∧ Below w.heap.size w w' := by
  have hb := below_new w (.cells #[.slice A ps.length c] 127)
  have Hc := Lib.hid (size_any A c ps _ hs (hr.below hb))
  have Hb := Lib.hid hb
  clear hb hr
  go_enter Tryz.func93, Tryz.ntmps93
  go_wp2_with fail
  refine Hc.out.mono ?_
  rintro e w2 ⟨rfl, hb2⟩
  go_wp2
  go_ret
  exact ⟨rfl, below_then Hb.out hb2 (Nat.le_refl _)⟩
set_option maxHeartbeats 1000000 in
set_option maxRecDepth 100000 in
theorem bytes_any {X : Nat → Prop} (A : Option Addr) (c : Nat) (ps : List Pa) (w : World) (hs : SmM (says ps)) (hr : PsX w X A ps) :
    Calls Tryz.prog 92 #[.agg #[.slice A ps.length c]] w fun e w' => ∃ v, e = .returned v ∧ w'.ownsRow w.heap.size 5 1 v (contM (says ps)).length (bs (contM (says ps))) ∧ Below w.heap.size w w' := by
  have hlen : (ps.length : Int) ≤ 1000 := by have := hs.n; rw [says_len] at this; omega
  have Hs := Lib.hid hs
  have hb0 := below_new w (.cells #[.slice A ps.length c] 127)
  have Hc := Lib.hid (len_any A c ps _ hs (hr.below hb0))
  have Hb0 := Lib.hid hb0
  have hcell : (w.alloc (.cells #[.slice A ps.length c] 127)).cell? ⟨w.heap.size, 0, none⟩ = some (.slice A ps.length c) := by
    rw [cell_of_row _ _ 0 _ _ _ (heap_alloc_new w _)]; rfl
  have Hcell := Lib.hid hcell
  have hrI := Lib.hid hr
  clear hb0 hs hr
  go_enter Tryz.func92, Tryz.ntmps92
  go_wp2_with fail
  refine Hc.out.mono ?_
  rintro e w2 ⟨rfl, hb2⟩
  have hcell2 := (hb2.cell (p := ⟨w.heap.size, 0, none⟩) (by simp)).trans Hcell.out
  have hbb2 := below_then Hb0.out hb2 (Nat.le_refl _)
  obtain ⟨T, hT⟩ : ∃ T, T = (contM (says ps)).length := ⟨_, rfl⟩
  have HT := Lib.hid hT
  rw [← hT]
  have hTle : T ≤ 100000000 := by rw [hT]; exact contM_le' Hs.out
  have hmk := fun w => run_make0 w T T rfl (by omega)
  have hown0 := own_mono (own_make0 w2 T (by omega)) hbb2.size
  have hbb3 := hbb2.alloc hbb2.size (.cells (bs (noughts T)).toArray 5)
  have hcell3 := (World.cell?_alloc_lt w2 (.cells (bs (noughts T)).toArray 5) ⟨w.heap.size, 0, none⟩ (by show w.heap.size < w2.heap.size; have := hb2.size; simp at this; omega)).trans hcell2
  clear hcell hb2 hcell2 hbb2 hT hTle
  go_wp2
  clear hmk hcell3
  go_loopw [3, 12] (fun v i wr => ∃ k : Nat, k ≤ ps.length ∧ i = .int .i64 (k : Int) ∧ wr.ownsRow w.heap.size 5 1 v (contM (says (ps.take k))).length (bs (contM (says (ps.take k)))) ∧ Below w.heap.size w wr) (fun _ i _ => ps.length - (intOf i).toNat)
  case atStart => exact ⟨0, by omega, rfl, by simpa [says, contM, bs] using hown0, hbb3⟩
  case round =>
    clear hown0 hbb3
    obtain ⟨k, hk, rfl, hown, hb⟩ := hrel
    by_cases hlt : k < ps.length
    · obtain ⟨ad, p, rfl, _, _, hc1, hc2, hx, hrow⟩ := (hrI.out.below hb).at_ hlt
      have Hll := Lib.hid (Hs.out.at_ hx)
      have Hle := Lib.hid (contM_le Hs.out k)
      rw [← says_take] at Hle
      have hbz := hb.alloc hb.size (.cells #[.slice p.r.A p.r.l.length p.r.c, .bool p.d] 180)
      have hrow' := Lib.hid (hrow.below (below_new _ (.cells #[.slice p.r.A p.r.l.length p.r.c, .bool p.d] 180))).reads
      have hown' := Lib.hid (hown.alloc (.cells #[.slice p.r.A p.r.l.length p.r.c, .bool p.d] 180))
      clear hown hrow
      go_wp2_with (at_builtin; refine push_rowK (.tmp 16) (.tmp 18) hown'.out hbz.size hrow'.out (by have := Hll.out; have := Hle.out; omega) rfl rfl rfl rfl ?_; intro v1 w1 hown1 hb1 hbs1 _ _)
      go_roundw
      case rel => exact ⟨k + 1, by omega, by go_num, by rw [contM_snoc hx]; exact hown1, hbz.trans hb1⟩
      case measure => simp [intOf]; omega
    · obtain rfl : k = ps.length := by omega
      rw [List.take_length] at hown
      go_wp2
      go_ret
      exact ⟨_, rfl, by rw [HT.out]; exact hown, hb⟩
theorem volM_snoc {ps : List Pa} {k : Nat} {p : Pa} (h : Hid (ps[k]? = some p)) : volM (says (ps.take (k + 1))) = volM (says (ps.take k)) + if (!p.d && !p.r.l.isEmpty) = true then 1 else 0 := by
  rw [says_snoc h, volM_append, volM_one]
theorem volM_le (m : List Pt) : volM m ≤ m.length := by unfold volM; exact List.length_filter_le _ _
set_option maxHeartbeats 1000000 in
set_option maxRecDepth 100000 in
theorem vol_any {X : Nat → Prop} (A : Option Addr) (c : Nat) (ps : List Pa) (w : World) (hs : SmM (says ps)) (hr : PsX w X A ps) :
    Calls Tryz.prog 63 #[.agg #[.slice A ps.length c]] w fun e w' => e = .returned (.int .i64 ((volM (says ps) : Nat) : Int)) ∧ Below w.heap.size w w' := by
  have hlen : (ps.length : Int) ≤ 1000 := by have := hs.n; rw [says_len] at this; omega
  have Hs := Lib.hid hs
  have hb0 := below_new w (.cells #[.slice A ps.length c] 127)
  have hrI := Lib.hid hr
  clear hs hr
  go_enter Tryz.func63, Tryz.ntmps63
  go_wp2
  go_loopw [3, 9] (fun s i wr => ∃ (k T : Nat), k ≤ ps.length ∧ i = .int .i64 (k : Int) ∧ s = .int .i64 (T : Int) ∧ Hid (T = volM (says (ps.take k))) ∧ Below w.heap.size w wr) (fun _ i _ => ps.length - (intOf i).toNat)
  case atStart => exact ⟨0, 0, by omega, rfl, rfl, by exact rfl, hb0⟩
  case round =>
    clear hb0
    obtain ⟨k, T, hk, rfl, rfl, hT, hb⟩ := hrel
    have hTI : (T : Int) ≤ 1000 := by
      have h1 := volM_le (says (ps.take k))
      rw [← hT.out, says_len, List.length_take] at h1
      omega
    by_cases hlt : k < ps.length
    · obtain ⟨ad, p, rfl, _, _, hc1, hc2, hx, hrow⟩ := (hrI.out.below hb).at_ hlt
      have hll : (p.r.l.length : Int) ≤ 100000 := by have := Hs.out.at_ hx; omega
      have hv := Lib.hid (volM_snoc hx)
      obtain ⟨⟨pA, pc, pl⟩, pd⟩ := p
      simp only at hc1 hc2 hll
      have hbz := hb.alloc hb.size (.cells #[.slice pA pl.length pc, .bool pd] 180)
      cases pd with
      | true =>
        go_wp2
        go_roundw
        case rel => exact ⟨k + 1, T, by omega, by go_num, rfl, by show _ = _; rw [hv.out, ← hT.out]; simp, hbz⟩
        case measure => simp [intOf]; omega
      | false =>
        by_cases hp : pl.length = 0
        · have hpe : pl = [] := List.eq_nil_of_length_eq_zero hp
          subst hpe
          go_wp2
          go_roundw
          case rel => exact ⟨k + 1, T, by omega, by go_num, rfl, by show _ = _; rw [hv.out, ← hT.out]; simp, hbz⟩
          case measure => simp [intOf]; omega
        · have hp' : (0 : Int) < (pl.length : Int) := by omega
          have hp2 : 0 < pl.length := by omega
          have Hp := Lib.hid hp
          clear hp
          go_wp2
          go_roundw
          case rel => exact ⟨k + 1, T + 1, by omega, by go_num, by go_num, by show _ = _; rw [hv.out, ← hT.out]; have := Hp.out; cases pl <;> simp_all, hbz⟩
          case measure => simp [intOf]; omega
    · obtain rfl : k = ps.length := by omega
      go_wp2
      go_ret
      exact ⟨ret_nat (by rw [hT.out, List.take_length]), hb⟩
end Go.Proofs.YtbhmnmmockmibaaGreat
