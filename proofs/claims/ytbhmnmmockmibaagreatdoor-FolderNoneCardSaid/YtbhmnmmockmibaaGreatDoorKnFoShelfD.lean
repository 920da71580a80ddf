/- Directories in memory: entries, operations, the map of names, what is pending; blocks by their owners. Conditions: none. The library's contracts that the walks use, laid at this program: slices.SortFunc, stringslite.Clone. Conditions: none. -/
import Derived.Test.YtbhmnmmockmibaaGreatDoorKnFdMath
import Derived.Test.YtbhmnmmockmibaaGreatDoorKnFoMem
import Derived.Shelf.SlSortCmp.NoneTotal
import Derived.Shelf.Pu.Clone
import Derived.Test.YtbhmnmmockmibaaGreatDoorProg
namespace Go.Proofs.YtbhmnmmockmibaaGreatDoor
open Go.RowKit Go.Maps
def enCD (e : EnD) : List Value := [.string (txt e.1), .int .i64 e.2]
def ecellsD (l : List EnD) : List Value := l.flatMap enCD
theorem ecells_lenD (l : List EnD) : (ecellsD l).length = l.length * 2 := by
  induction l with
  | nil => rfl
  | cons f l ih =>
    unfold ecellsD at ih ⊢
    rw [List.flatMap_cons, List.length_append, ih, List.length_cons]
    simp [enCD]
    omega
theorem ecells_appendD (a b : List EnD) : ecellsD (a ++ b) = ecellsD a ++ ecellsD b := by simp [ecellsD]
theorem ecells_splitD {l : List EnD} {k : Nat} {e : EnD} (h : l[k]? = some e) : ecellsD l = ecellsD (l.take k) ++ (enCD e ++ ecellsD (l.drop (k + 1))) ∧ (ecellsD (l.take k)).length = k * 2 := by
  obtain ⟨hk, e'⟩ := List.getElem?_eq_some_iff.1 h
  constructor
  · conv => lhs; rw [← List.take_append_drop k l, List.drop_eq_getElem_cons hk, e']
    rw [ecells_appendD]
    rfl
  · rw [ecells_lenD, List.length_take]
    congr 1
    omega
theorem ecells_getD {l : List EnD} {k : Nat} {e : EnD} (h : l[k]? = some e) : (ecellsD l)[k * 2]? = some (.string (txt e.1)) ∧ (ecellsD l)[k * 2 + 1]? = some (.int .i64 e.2) := by
  obtain ⟨hs, hl⟩ := ecells_splitD h
  rw [hs]
  constructor
  · rw [List.getElem?_append_right (by omega), hl, Nat.sub_self]; rfl
  · rw [List.getElem?_append_right (by omega), hl, show k * 2 + 1 - k * 2 = 1 by omega]; rfl
theorem ecells_oneD (l : List EnD) : ∀ u ∈ ecellsD l, u.oneCell' = true := by
  intro u hu
  unfold ecellsD at hu
  rw [List.mem_flatMap] at hu
  obtain ⟨p, _, hu⟩ := hu
  simp only [enCD, List.mem_cons, List.not_mem_nil, or_false] at hu
  rcases hu with rfl | rfl <;> rfl
/-- Entries, as a slice value reads. -/
abbrev EnXD (w : World) (X : Nat → Prop) (A : Option Addr) (l : List EnD) : Prop := RdX w X 2 A l.length (ecellsD l)
theorem EnXD.at_ {w : World} {X : Nat → Prop} {A : Option Addr} {l : List EnD} {k : Nat} (h : EnXD w X A l) (hk : k < l.length) :
    ∃ (ad : Addr) (e : EnD), A = some ad ∧ ad.block < w.heap.size ∧ ¬ X ad.block ∧ w.cell? (ad.add (k * 2)) = some (.string (txt e.1)) ∧ w.cell? ⟨(ad.add (k * 2)).block, (ad.add (k * 2)).off + 1, none⟩ = some (.int .i64 e.2) ∧ Hid (l[k]? = some e) := by
  obtain ⟨ad, e, hb, hx, hc⟩ := h.2 (by omega)
  have hr : l[k]? = some l[k] := List.getElem?_eq_getElem hk
  obtain ⟨h1, h2⟩ := ecells_getD hr
  exact ⟨ad, _, e, hb, hx, hc _ _ h1, by rw [← padd_next]; exact hc _ _ h2, hr⟩
def prC (o : Pr) : List Value := [.bool o.add, .string (txt o.k), .int .i64 o.v]
def prV (o : Pr) : Value := .agg #[.bool o.add, .string (txt o.k), .int .i64 o.v]
def prcells (l : List Pr) : List Value := l.flatMap prC
theorem prcells_len (l : List Pr) : (prcells l).length = l.length * 3 := by
  induction l with
  | nil => rfl
  | cons f l ih =>
    unfold prcells at ih ⊢
    rw [List.flatMap_cons, List.length_append, ih, List.length_cons]
    simp [prC]
    omega
theorem prcells_append (a b : List Pr) : prcells (a ++ b) = prcells a ++ prcells b := by simp [prcells]
theorem prcells_split {l : List Pr} {k : Nat} {e : Pr} (h : l[k]? = some e) : prcells l = prcells (l.take k) ++ (prC e ++ prcells (l.drop (k + 1))) ∧ (prcells (l.take k)).length = k * 3 := by
  obtain ⟨hk, e'⟩ := List.getElem?_eq_some_iff.1 h
  constructor
  · conv => lhs; rw [← List.take_append_drop k l, List.drop_eq_getElem_cons hk, e']
    rw [prcells_append]
    rfl
  · rw [prcells_len, List.length_take]
    congr 1
    omega
theorem prcells_get {l : List Pr} {k j : Nat} {e : Pr} (h : l[k]? = some e) (hj : j < 3) : (prcells l)[k * 3 + j]? = (prC e)[j]? := by
  obtain ⟨hs, hl⟩ := prcells_split h
  rw [hs, List.getElem?_append_right (by omega), hl, List.getElem?_append_left (by show _ < 3; omega)]
  congr 1
  omega
theorem prcells_one (l : List Pr) : ∀ u ∈ prcells l, u.oneCell' = true := by
  intro u hu
  unfold prcells at hu
  rw [List.mem_flatMap] at hu
  obtain ⟨p, _, hu⟩ := hu
  simp only [prC, List.mem_cons, List.not_mem_nil, or_false] at hu
  rcases hu with rfl | rfl | rfl <;> rfl
abbrev PrX (w : World) (X : Nat → Prop) (A : Option Addr) (l : List Pr) : Prop := RdX w X 3 A l.length (prcells l)
theorem PrX.at_ {w : World} {X : Nat → Prop} {A : Option Addr} {l : List Pr} {k : Nat} (h : PrX w X A l) (hk : k < l.length) :
    ∃ (ad : Addr) (o : Pr), A = some ad ∧ ad.block < w.heap.size ∧ ¬ X ad.block ∧ w.cell? (ad.add (k * 3)) = some (.bool o.add) ∧ w.cell? ⟨(ad.add (k * 3)).block, (ad.add (k * 3)).off + 1, none⟩ = some (.string (txt o.k)) ∧
      w.cell? ⟨(ad.add (k * 3)).block, (ad.add (k * 3)).off + 2, none⟩ = some (.int .i64 o.v) ∧ Hid (l[k]? = some o) := by
  obtain ⟨ad, e, hb, hx, hc⟩ := h.2 (by omega)
  have hr : l[k]? = some l[k] := List.getElem?_eq_getElem hk
  have h0 := prcells_get hr (j := 0) (by omega)
  have h1 := prcells_get hr (j := 1) (by omega)
  have h2 := prcells_get hr (j := 2) (by omega)
  refine ⟨ad, _, e, hb, hx, hc _ _ h0, ?_, ?_, hr⟩
  · rw [← padd_next]; exact hc _ _ h1
  · have e2 : (⟨(ad.add (k * 3)).block, (ad.add (k * 3)).off + 2, none⟩ : Addr) = ad.add (k * 3 + 2) := by
      rw [padd_next ad (k * 3 + 1), padd_next ad (k * 3)]
    rw [e2]
    exact hc _ _ h2
/-- What a directory of the reference says. -/
structure RefV (w : World) (X : Nat → Prop) (v : Value) (s : St) : Prop where
  v : ∃ A c A' c', v = .agg #[.slice A s.dur.length c, .slice A' s.ops.length c'] ∧ EnXD w X A s.dur ∧ PrX w X A' s.ops
theorem RefV.keep {w w' : World} {X : Nat → Prop} {v : Value} {s : St} (h : RefV w X v s) (ht : Touch X w w') : RefV w' X v s := by
  obtain ⟨A, c, A', c', e, h1, h2⟩ := h.v
  exact ⟨A, c, A', c', e, h1.keep ht, h2.keep ht⟩
theorem RefV.below {w w' : World} {X : Nat → Prop} {v : Value} {s : St} (h : RefV w X v s) (ht : Below w.heap.size w w') : RefV w' X v s := h.keep (.of ht)
theorem RefV.mono {w : World} {X Y : Nat → Prop} {v : Value} {s : St} (h : RefV w X v s) (hx : ∀ b, b < w.heap.size → Y b → X b) : RefV w Y v s := by
  obtain ⟨A, c, A', c', e, h1, h2⟩ := h.v
  exact ⟨A, c, A', c', e, h1.mono hx, h2.mono hx⟩
theorem RefV.new (w : World) (X : Nat → Prop) : RefV w X (.agg #[.slice none 0 0, .slice none 0 0]) St.new := ⟨none, 0, none, 0, rfl, RdX.none_, RdX.none_⟩
structure SzD (e : EnD) : Prop where
  k : e.1.length ≤ 1000
  v : -9223372036854775808 ≤ e.2 ∧ e.2 ≤ 9223372036854775807
theorem SzD.wf {e : EnD} (h : SzD e) : (Lit.int .i64 e.2).wf = true := by
  have := h.v
  simp [Lit.wf, IntKind.min, IntKind.max, IntKind.signed, IntKind.bits]
  omega
/-- A directory of at most N names and operations, that might be. -/
structure Good (s : St) (N : Nat) : Prop where
  ok : s.Ok
  n : s.dur.length + s.ops.length ≤ N
  d : ∀ e ∈ s.dur, SzD e
  o : ∀ o ∈ s.ops, SzD (o.k, o.v)
theorem runs_len : ∀ (ops : List Pr) (m : List EnD), (runs m ops).length ≤ m.length + ops.length
  | [], m => by simp [runs]
  | o :: ops, m => by
    have h := runs_len ops (o.does m)
    have h2 : (o.does m).length ≤ m.length + 1 := by
      unfold Pr.does putE
      split
      · rw [ins_len]
        have := del_len m o.k
        show (delE m o.k).length + 1 ≤ _
        omega
      · have := del_len m o.k
        omega
    show (runs (o.does m) ops).length ≤ _
    rw [List.length_cons]
    omega
theorem runs_mem {e : EnD} : ∀ {ops : List Pr} {m : List EnD}, e ∈ runs m ops → e ∈ m ∨ ∃ o ∈ ops, e = (o.k, o.v)
  | [], m, h => .inl h
  | o :: ops, m, h => by
    rcases runs_mem (ops := ops) (m := o.does m) h with h | ⟨p, hp, h⟩
    · unfold Pr.does putE at h
      split at h
      · rw [mem_ins, mem_del] at h
        rcases h with h | h
        · exact .inr ⟨o, by simp, h⟩
        · exact .inl h.1
      · exact .inl (mem_del.1 h).1
    · exact .inr ⟨p, by simp [hp], h⟩
theorem Good.runs {s : St} {N : Nat} (h : Good s N) (n : Nat) : (runs s.dur (s.ops.take n)).length ≤ N ∧ ∀ e ∈ runs s.dur (s.ops.take n), SzD e := by
  constructor
  · have h1 := runs_len (s.ops.take n) s.dur
    rw [List.length_take] at h1
    have := h.n
    omega
  · intro e he
    rcases runs_mem he with h' | ⟨o, ho, rfl⟩
    · exact h.d e h'
    · exact h.o o (List.mem_of_mem_take ho)
theorem Good.now {s : St} {N : Nat} (h : Good s N) : s.now.length ≤ N ∧ ∀ e ∈ s.now, SzD e := by
  have := h.runs s.ops.length
  rw [List.take_length] at this
  exact this
theorem Good.new (N : Nat) : Good St.new N := ⟨St.new_ok, by simp [St.new], by simp [St.new], by simp [St.new]⟩
theorem Good.more {s : St} {N M : Nat} (h : Good s N) (hN : N ≤ M) : Good s M := ⟨h.ok, Nat.le_trans h.n hN, h.d, h.o⟩
theorem Good.snoc {s : St} {N : Nat} {o : Pr} (h : Good s N) (ho : o.ok s.now) (hs : SzD (o.k, o.v)) : Good ⟨s.dur, s.ops ++ [o]⟩ (N + 1) := by
  refine ⟨⟨h.ok.srt, h.ok.oks.snoc ho⟩, ?_, h.d, fun p hp => ?_⟩
  · have := h.n
    show s.dur.length + (s.ops ++ [o]).length ≤ _
    rw [List.length_append, List.length_singleton]
    omega
  · rcases List.mem_append.1 hp with hp | hp
    · exact h.o p hp
    · rw [List.mem_singleton] at hp; rw [hp]; exact hs
theorem Good.sync {s : St} {N : Nat} (h : Good s N) : Good s.sync N := ⟨h.ok.sync, by show s.now.length + 0 ≤ N; exact h.now.1, h.now.2, by simp [St.sync]⟩
theorem Good.fail {s : St} {N : Nat} (h : Good s N) (keep : Int) : Good (s.fail keep) N :=
  ⟨h.ok.fail keep, by show (Proofs.YtbhmnmmockmibaaGreatDoor.runs s.dur (s.ops.take _)).length + 0 ≤ N; exact (h.runs _).1, (h.runs _).2, by simp [St.fail]⟩
/-- A pending operation: the boxes of its number, and of its name. -/
structure Pn where
  o : Pr
  bi : Nat
  bo : Nat
def Pn.fa (p : Pn) : Value := .func (.func 149) #[] #[.pointer (some ⟨p.bi, 0, none⟩), .pointer (some ⟨p.bo, 0, none⟩)]
def Pn.fd (p : Pn) : Value := .func (.func 150) #[] #[.pointer (some ⟨p.bo, 0, none⟩)]
def Pn.f (p : Pn) (b : Bool) : Value := if b then p.fa else p.fd
def Pn.cs (p : Pn) : List Value := [p.f p.o.add, p.f (!p.o.add)]
def Pn.v (p : Pn) : Value := .agg #[p.f p.o.add, p.f (!p.o.add)]
def pncells (l : List Pn) : List Value := l.flatMap Pn.cs
theorem pncells_len (l : List Pn) : (pncells l).length = l.length * 2 := by
  induction l with
  | nil => rfl
  | cons f l ih =>
    unfold pncells at ih ⊢
    rw [List.flatMap_cons, List.length_append, ih, List.length_cons]
    simp [Pn.cs]
    omega
theorem pncells_append (a b : List Pn) : pncells (a ++ b) = pncells a ++ pncells b := by simp [pncells]
theorem pncells_split {l : List Pn} {k : Nat} {e : Pn} (h : l[k]? = some e) : pncells l = pncells (l.take k) ++ (e.cs ++ pncells (l.drop (k + 1))) ∧ (pncells (l.take k)).length = k * 2 := by
  obtain ⟨hk, e'⟩ := List.getElem?_eq_some_iff.1 h
  constructor
  · conv => lhs; rw [← List.take_append_drop k l, List.drop_eq_getElem_cons hk, e']
    rw [pncells_append]
    rfl
  · rw [pncells_len, List.length_take]
    congr 1
    omega
theorem pncells_get {l : List Pn} {k : Nat} {e : Pn} (h : l[k]? = some e) : (pncells l)[k * 2]? = some (e.f e.o.add) ∧ (pncells l)[k * 2 + 1]? = some (e.f (!e.o.add)) := by
  obtain ⟨hs, hl⟩ := pncells_split h
  rw [hs]
  constructor
  · rw [List.getElem?_append_right (by omega), hl, Nat.sub_self]; rfl
  · rw [List.getElem?_append_right (by omega), hl, show k * 2 + 1 - k * 2 = 1 by omega]; rfl
theorem Pn.f_one (p : Pn) (b : Bool) : (p.f b).oneCell' = true := by cases b <;> rfl
theorem pncells_one (l : List Pn) : ∀ u ∈ pncells l, u.oneCell' = true := by
  intro u hu
  unfold pncells at hu
  rw [List.mem_flatMap] at hu
  obtain ⟨p, _, hu⟩ := hu
  simp only [Pn.cs, List.mem_cons, List.not_mem_nil, or_false] at hu
  rcases hu with rfl | rfl <;> exact p.f_one _
/-- Its boxes hold what they should, and lie in no block of X. -/
structure PnAt (w : World) (X : Nat → Prop) (p : Pn) : Prop where
  name : w.heap[p.bo]? = some (.cells #[.string (txt p.o.k)] 9 (0, 0))
  num : w.heap[p.bi]? = some (.cells #[.int .i64 p.o.v] 3 (0, 0))
  xo : ¬ X p.bo
  xi : ¬ X p.bi
theorem PnAt.keep {w w' : World} {X : Nat → Prop} {p : Pn} (h : PnAt w X p) (ht : Touch X w w') : PnAt w' X p := ⟨ht.heap h.xo h.name, ht.heap h.xi h.num, h.xo, h.xi⟩
theorem PnAt.mono {w : World} {X Y : Nat → Prop} {p : Pn} (h : PnAt w X p) (hx : ∀ b, b < w.heap.size → Y b → X b) : PnAt w Y p :=
  ⟨h.name, h.num, fun e => h.xo (hx _ (Array.getElem?_eq_some_iff.1 h.name).1 e), fun e => h.xi (hx _ (Array.getElem?_eq_some_iff.1 h.num).1 e)⟩
/-- The blocks that were there have the owners that they had. -/
def Same (w : World) (c c' : Nat → Nat) : Prop := ∀ b, b < w.heap.size → c' b = c b
theorem Same.refl (w : World) (c : Nat → Nat) : Same w c c := fun _ _ => rfl
theorem Same.trans {w w' : World} {c c' c'' : Nat → Nat} (h : Same w c c') (k : Same w' c' c'') (hs : w.heap.size ≤ w'.heap.size) : Same w c c'' := fun b hb => (k b (by omega)).trans (h b hb)
/-- What is new has that owner. -/
def ext (w : World) (c : Nat → Nat) (i : Nat) : Nat → Nat := fun b => if b < w.heap.size then c b else i
theorem ext_same (w : World) (c : Nat → Nat) (i : Nat) : Same w c (ext w c i) := fun _ hb => if_pos hb
theorem ext_new (w : World) (c : Nat → Nat) (i : Nat) {b : Nat} (hb : w.heap.size ≤ b) : ext w c i b = i := if_neg (by omega)
abbrev Ow (c : Nat → Nat) (i : Nat) : Nat → Prop := fun b => c b = i
abbrev Mu (c : Nat → Nat) : Nat → Prop := fun b => c b ≠ 0
/-- A map of names. -/
def NamesV (w : World) (c : Nat → Nat) (i : Nat) (v : Value) (m : List EnD) : Prop :=
  (v = .map none ∧ m = []) ∨ ∃ b, v = .map (some b) ∧ c b = i ∧ w.ownsMap (H := Unit) Tryz.prog 9 (plainElem Tryz.prog 3) b m.length (mapD m)
/-- What is pending. -/
def PendV (w : World) (c : Nat → Nat) (i g : Nat) (v : Value) (ops : List Pr) : Prop :=
  ∃ ps : List Pn, ps.map Pn.o = ops ∧ w.ownsRow 0 156 2 v ps.length (pncells ps) ∧ (∀ r, v.ownBlock = some r → c r = i ∧ r ≠ g) ∧ ∀ p ∈ ps, PnAt w (Mu c) p
/-- A directory, in the block g; its blocks are those of owner i. -/
structure DirAt (w : World) (c : Nat → Nat) (i g : Nat) (zz : Rs) (s : St) : Prop where
  col : c g = i
  ne : ∀ pv, w.heap[g]? = some (.cells #[.map none, pv, zz.m, zz.n, zz.tk, zz.q, zz.k, zz.mp] 59 (0, 0)) → s.ops = []
  v : ∃ mv pv, w.heap[g]? = some (.cells #[mv, pv, zz.m, zz.n, zz.tk, zz.q, zz.k, zz.mp] 59 (0, 0)) ∧ NamesV w c i mv s.now ∧ PendV w c i g pv s.ops
section
variable {H : Type} {P : Program} {k : TypeId} {R : Value → Option (DataW H × List MemPlace)} {w w' : World} {b n : Nat} {D : DataW H}
theorem owns_sizeD (h : w.ownsMap P k R b n D) : w.ownsMap P k R b (Maps.size D) D := by
  obtain ⟨es, clock, hb, F, _, rfl⟩ := h
  exact ⟨es, clock, hb, F, by simp [Maps.size, length_sorted], rfl⟩
theorem owns_touchD {X : Nat → Prop} (h : w.ownsMap P k R b n D) (ht : Touch X w w') (hx : ¬ X b) : w'.ownsMap P k R b n D := by
  obtain ⟨es, clock, hb, F, hs, rfl⟩ := h
  exact ⟨es, clock, ht.heap hx hb, F, hs, rfl⟩
end
section
variable {w w' : World} {c c' : Nat → Nat} {i j g : Nat} {v : Value} {m : List EnD} {ops : List Pr} {zz : Rs} {s : St} {X : Nat → Prop}
theorem owns_names {b n : Nat} (h : w.ownsMap (H := Unit) Tryz.prog 9 (plainElem Tryz.prog 3) b n (mapD m)) : w.ownsMap (H := Unit) Tryz.prog 9 (plainElem Tryz.prog 3) b m.length (mapD m) := by
  have := owns_sizeD h
  rwa [mapD_size] at this
theorem NamesV.keep (h : NamesV w c i v m) (ht : Touch X w w') (hx : ∀ b, X b → c b ≠ i) (hs : Same w c c') : NamesV w' c' i v m := by
  rcases h with h | ⟨b, hv, hb, ho⟩
  · exact .inl h
  · exact .inr ⟨b, hv, (hs b ho.lt).trans hb, owns_touchD ho ht fun e => hx b e hb⟩
theorem PnAt.keepC {p : Pn} (h : PnAt w (Mu c) p) (ht : Touch X w w') (hx : ∀ b, X b → c b ≠ 0) (hs : Same w c c') : PnAt w' (Mu c') p := by
  obtain ⟨h1, h2, h3, h4⟩ := h
  have l1 := (Array.getElem?_eq_some_iff.1 h1).1
  have l2 := (Array.getElem?_eq_some_iff.1 h2).1
  have h3' : c p.bo = 0 := Classical.not_not.1 h3
  have h4' : c p.bi = 0 := Classical.not_not.1 h4
  refine ⟨ht.heap (fun e => (hx _ e) h3') h1, ht.heap (fun e => (hx _ e) h4') h2, fun e => e ?_, fun e => e ?_⟩
  · rw [hs _ l1]; exact h3'
  · rw [hs _ l2]; exact h4'
theorem own_cells {base : Nat} {e : TypeId} {size n r : Nat} {xs : List Value} (h : w.ownsRow base e size v n xs) (hr : v.ownBlock = some r) : ∃ cs t fr, w.heap[r]? = some (.cells cs t fr) := by
  rcases h.2 with ⟨rfl, _⟩ | ⟨r', cap, cur, rfl, _, hg, _⟩
  · cases hr
  · injection hr with hr
    subst hr
    exact ⟨_, _, _, hg⟩
theorem PendV.keep (h : PendV w c i g v ops) (ht : Touch X w w') (hx1 : ∀ r cs t fr, w.heap[r]? = some (.cells cs t fr) → c r = i → r ≠ g → ¬ X r) (hx2 : ∀ b, X b → c b ≠ 0) (hs : Same w c c') : PendV w' c' i g v ops := by
  obtain ⟨ps, e, ho, hr, hp⟩ := h
  refine ⟨ps, e, own_touch ho ht fun b hb => ?_, fun r hv => ?_, fun p hq => (hp p hq).keepC ht hx2 hs⟩
  · obtain ⟨cs, t, fr, hh⟩ := own_cells ho hb
    exact hx1 b cs t fr hh (hr b hb).1 (hr b hb).2
  · obtain ⟨h1, h2⟩ := hr r hv
    exact ⟨(hs r (ho.lt r hv).2).trans h1, h2⟩
theorem DirAt.lt (h : DirAt w c i g zz s) : g < w.heap.size := by
  obtain ⟨mv, pv, hg, _⟩ := h.v
  exact (Array.getElem?_eq_some_iff.1 hg).1
/-- Another one's directory stays as it was. -/
theorem DirAt.keep (h : DirAt w c i g zz s) (ht : Touch X w w') (hx : ∀ b, X b → c b ≠ i ∧ c b ≠ 0) (hs : Same w c c') : DirAt w' c' i g zz s := by
  obtain ⟨mv, pv, hg, hm, hp⟩ := h.v
  have hg' := ht.heap (fun e => (hx g e).1 h.col) hg
  refine ⟨(hs g h.lt).trans h.col, fun pv' h' => h.ne pv' ?_, mv, pv, ht.heap (fun e => (hx g e).1 h.col) hg, hm.keep ht (fun b e => (hx b e).1) hs, hp.keep ht (fun r _ _ _ _ hc _ e => (hx r e).1 hc) (fun b e => (hx b e).2) hs⟩
  rw [hg'] at h'
  rw [hg, h']
theorem DirAt.other (h : DirAt w c i g zz s) (hj : j ≠ 0) (hij : i ≠ j) (ht : Touch (Ow c j) w w') (hs : Same w c c') : DirAt w' c' i g zz s :=
  h.keep ht (fun b e => by have e' : c b = j := e; rw [e']; exact ⟨fun h => hij h.symm, hj⟩) hs
theorem DirAt.below (h : DirAt w c i g zz s) (ht : Below w.heap.size w w') : DirAt w' c i g zz s :=
  h.keep (Touch.of (X := fun _ => False) ht) (fun _ e => e.elim) (Same.refl _ _)
theorem DirAt.belowS (h : DirAt w c i g zz s) (ht : Below w.heap.size w w') (hs : Same w c c') : DirAt w' c' i g zz s :=
  h.keep (Touch.of (X := fun _ => False) ht) (fun _ e => e.elim) hs
/-- What is only read stays. -/
theorem RdX.other {size n : Nat} {A : Option Addr} {xs : List Value} (h : RdX w (Mu c) size A n xs) (hj : j ≠ 0) (ht : Touch (Ow c j) w w') (hs : Same w c c') : RdX w' (Mu c') size A n xs := by
  have h2 := (h.mono (Y := Ow c j) fun b _ e => by have e' : c b = j := e; show c b ≠ 0; rw [e']; exact hj).keep ht
  refine ⟨h.1, fun hn => ?_⟩
  obtain ⟨ad, e, hb, hx, hc⟩ := h.2 hn
  obtain ⟨ad', e', hb', _, hc'⟩ := h2.2 hn
  rw [e] at e'
  injection e' with e'
  subst e'
  exact ⟨ad, e, hb', fun h' => hx (by show c ad.block ≠ 0; rw [← hs _ hb]; exact h'), hc'⟩
theorem RdX.belowS {size n : Nat} {A : Option Addr} {xs : List Value} (h : RdX w (Mu c) size A n xs) (ht : Below w.heap.size w w') (hs : Same w c c') : RdX w' (Mu c') size A n xs := by
  have h2 := h.below ht
  refine ⟨h.1, fun hn => ?_⟩
  obtain ⟨ad, e, hb, hx, hc⟩ := h.2 hn
  obtain ⟨ad', e', hb', _, hc'⟩ := h2.2 hn
  rw [e] at e'
  injection e' with e'
  subst e'
  exact ⟨ad, e, hb', fun h' => hx (by show c ad.block ≠ 0; rw [← hs _ hb]; exact h'), hc'⟩
theorem RefV.other (h : RefV w (Mu c) v s) (hj : j ≠ 0) (ht : Touch (Ow c j) w w') (hs : Same w c c') : RefV w' (Mu c') v s := by
  obtain ⟨A, n, A', n', e, h1, h2⟩ := h.v
  exact ⟨A, n, A', n', e, h1.other hj ht hs, h2.other hj ht hs⟩
theorem RefV.belowS (h : RefV w (Mu c) v s) (ht : Below w.heap.size w w') (hs : Same w c c') : RefV w' (Mu c') v s := by
  obtain ⟨A, n, A', n', e, h1, h2⟩ := h.v
  exact ⟨A, n, A', n', e, h1.belowS ht hs, h2.belowS ht hs⟩
/-- What a call made, nobody owns. -/
theorem RefV.free (h : RefV w' (fun b => b < w.heap.size ∧ c b ≠ 0) v s) : RefV w' (Mu (ext w c 0)) v s := by
  refine h.mono fun b _ e => ?_
  by_cases hb : b < w.heap.size
  · exact ⟨hb, by have e' : ext w c 0 b ≠ 0 := e; rw [ext_same w c 0 b hb] at e'; exact e'⟩
  · exact absurd (ext_new w c 0 (by omega)) e
end
end Go.Proofs.YtbhmnmmockmibaaGreatDoor

namespace Go.Proofs
open Go.Shelf
def Tryz.laysStr_ren : Go.Shelf.Ren := ⟨fun | 25 => 161 | n => n, fun | 9 => 9 | 3 => 3 | 4 => 4 | 37 => 22 | 0 => 0 | 47 => 235 | 5 => 5 | n => n, fun | n => n⟩
theorem Tryz.laysStr : Go.Proofs.LaysPu.n25 Tryz.prog Tryz.laysStr_ren := {
  mixed := by kernel_rfl
  f25 := Tryz.func161.trans (congrArg some (by kernel_rfl))
  t0 := Tryz.underlying0
  a0 := Tryz.isAgg0
  z0 := Tryz.sizeOf0
  v0 := Tryz.zeroValue0
  i0 := by kernel_rfl
  t3 := Tryz.underlying3
  a3 := Tryz.isAgg3
  z3 := Tryz.sizeOf3
  v3 := Tryz.zeroValue3
  i3 := by kernel_rfl
  t4 := Tryz.underlying4
  a4 := Tryz.isAgg4
  z4 := Tryz.sizeOf4
  v4 := Tryz.zeroValue4
  i4 := by kernel_rfl
  t5 := Tryz.underlying5
  a5 := Tryz.isAgg5
  z5 := Tryz.sizeOf5
  v5 := Tryz.zeroValue5
  i5 := by kernel_rfl
  t9 := Tryz.underlying9
  a9 := Tryz.isAgg9
  z9 := Tryz.sizeOf9
  v9 := Tryz.zeroValue9
  i9 := by kernel_rfl
  t37 := Tryz.underlying22
  a37 := Tryz.isAgg22
  z37 := Tryz.sizeOf22
  v37 := Tryz.zeroValue22
  i37 := by kernel_rfl
  t47 := Tryz.underlying235
  a47 := Tryz.isAgg235
  z47 := Tryz.sizeOf235
  v47 := Tryz.zeroValue235
  i47 := by kernel_rfl }
def Tryz.laysSortF_ren : Go.Shelf.Ren := ⟨fun | 6 => 59 | 15 => 99 | 14 => 98 | 28 => 133 | 29 => 134 | 20 => 125 | 21 => 126 | 22 => 127 | 23 => 128 | 24 => 129 | 25 => 130 | 26 => 131 | 27 => 132 | 46 => 142 | 47 => 143 | 48 => 144 | 49 => 145 | 50 => 146 | 57 => 160 | n => n, fun | 22 => 65 | 24 => 68 | 25 => 123 | 3 => 3 | 39 => 172 | 0 => 0 | 53 => 208 | 55 => 210 | 4 => 4 | 46 => 202 | 45 => 201 | 50 => 129 | 5 => 5 | 9 => 9 | 66 => 217 | 70 => 221 | 76 => 230 | 77 => 231 | n => n, fun | n => n⟩
theorem Tryz.laysSortF : Go.Proofs.SlLaysF0.n6 Tryz.prog Tryz.laysSortF_ren := {
  mixed := by kernel_rfl
  f6 := ⟨Tryz.f59.name, by decide, Tryz.func59.trans (congrArg some (by kernel_rfl))⟩
  f14 := ⟨Tryz.f98.name, by decide, Tryz.func98.trans (congrArg some (by kernel_rfl))⟩
  f15 := Tryz.func99.trans (congrArg some (by kernel_rfl))
  f20 := ⟨Tryz.f125.name, by decide, Tryz.func125.trans (congrArg some (by kernel_rfl))⟩
  f21 := ⟨Tryz.f126.name, by decide, Tryz.func126.trans (congrArg some (by kernel_rfl))⟩
  f22 := ⟨Tryz.f127.name, by decide, Tryz.func127.trans (congrArg some (by kernel_rfl))⟩
  f23 := ⟨Tryz.f128.name, by decide, Tryz.func128.trans (congrArg some (by kernel_rfl))⟩
  f24 := ⟨Tryz.f129.name, by decide, Tryz.func129.trans (congrArg some (by kernel_rfl))⟩
  f25 := ⟨Tryz.f130.name, by decide, Tryz.func130.trans (congrArg some (by kernel_rfl))⟩
  f26 := ⟨Tryz.f131.name, by decide, Tryz.func131.trans (congrArg some (by kernel_rfl))⟩
  f27 := ⟨Tryz.f132.name, by decide, Tryz.func132.trans (congrArg some (by kernel_rfl))⟩
  f28 := Tryz.func133.trans (congrArg some (by kernel_rfl))
  f29 := Tryz.func134.trans (congrArg some (by kernel_rfl))
  f46 := ⟨Tryz.f142.name, by decide, Tryz.func142.trans (congrArg some (by kernel_rfl))⟩
  f47 := Tryz.func143.trans (congrArg some (by kernel_rfl))
  f48 := Tryz.func144.trans (congrArg some (by kernel_rfl))
  f49 := ⟨Tryz.f145.name, by decide, Tryz.func145.trans (congrArg some (by kernel_rfl))⟩
  f50 := ⟨Tryz.f146.name, by decide, Tryz.func146.trans (congrArg some (by kernel_rfl))⟩
  f57 := ⟨Tryz.f160.name, by decide, Tryz.func160.trans (congrArg some (by kernel_rfl))⟩
  t0 := Tryz.underlying0
  a0 := Tryz.isAgg0
  z0 := Tryz.sizeOf0
  v0 := Tryz.zeroValue0
  t3 := Tryz.underlying3
  a3 := Tryz.isAgg3
  z3 := Tryz.sizeOf3
  v3 := Tryz.zeroValue3
  t4 := Tryz.underlying4
  a4 := Tryz.isAgg4
  z4 := Tryz.sizeOf4
  v4 := Tryz.zeroValue4
  t5 := Tryz.underlying5
  a5 := Tryz.isAgg5
  z5 := Tryz.sizeOf5
  v5 := Tryz.zeroValue5
  t9 := Tryz.underlying9
  a9 := Tryz.isAgg9
  z9 := Tryz.sizeOf9
  v9 := Tryz.zeroValue9
  t22 := Tryz.underlying65
  a22 := Tryz.isAgg65
  z22 := Tryz.sizeOf65
  v22 := Tryz.zeroValue65
  t25 := Tryz.underlying123
  a25 := Tryz.isAgg123
  z25 := Tryz.sizeOf123
  v25 := Tryz.zeroValue123
  t39 := Tryz.underlying172
  a39 := Tryz.isAgg172
  z39 := Tryz.sizeOf172
  v39 := Tryz.zeroValue172
  t45 := Tryz.underlying201
  a45 := Tryz.isAgg201
  z45 := Tryz.sizeOf201
  v45 := Tryz.zeroValue201
  t46 := Tryz.underlying202
  a46 := Tryz.isAgg202
  z46 := Tryz.sizeOf202
  v46 := Tryz.zeroValue202
  t50 := Tryz.underlying129
  a50 := Tryz.isAgg129
  z50 := Tryz.sizeOf129
  v50 := Tryz.zeroValue129
  t53 := Tryz.underlying208
  a53 := Tryz.isAgg208
  z53 := Tryz.sizeOf208
  v53 := Tryz.zeroValue208
  t55 := Tryz.underlying210
  a55 := Tryz.isAgg210
  z55 := Tryz.sizeOf210
  v55 := Tryz.zeroValue210
  t66 := Tryz.underlying217
  a66 := Tryz.isAgg217
  z66 := Tryz.sizeOf217
  v66 := Tryz.zeroValue217
  t70 := Tryz.underlying221
  a70 := Tryz.isAgg221
  z70 := Tryz.sizeOf221
  v70 := Tryz.zeroValue221
  t76 := Tryz.underlying230
  a76 := Tryz.isAgg230
  z76 := Tryz.sizeOf230
  v76 := Tryz.zeroValue230
  t77 := Tryz.underlying231
  a77 := Tryz.isAgg231
  z77 := Tryz.sizeOf231
  v77 := Tryz.zeroValue231 }
end Go.Proofs
