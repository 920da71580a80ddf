/- Parts of files as values and cells; readings that avoid blocks; memory that changes in some blocks alone. Conditions: none. -/
import Derived.Test.YtlehkgogcbdckaaExMath
import Derived.Test.YtlehkgogcbdckaaKeep
import Derived.Test.YtlehkgogcbdckaaMany
namespace Go.Proofs.Ytlehkgogcbdckaa
open Go.RowKit

/-! ### memory that changes in some blocks alone -/
/-- Of what was there only blocks of X have changed. -/
structure Touch (X : Nat → Prop) (w w' : World) : Prop where
  os : w'.os = w.os
  tape : w'.tape = w.tape
  output : w'.output = w.output
  size : w.heap.size ≤ w'.heap.size
  block : ∀ k, k < w.heap.size → ¬ X k → w'.heap[k]? = w.heap[k]?
theorem Touch.refl (X : Nat → Prop) (w : World) : Touch X w w := ⟨rfl, rfl, rfl, Nat.le_refl _, fun _ _ _ => rfl⟩
theorem Touch.trans {X : Nat → Prop} {a b c : World} (h : Touch X a b) (k : Touch X b c) : Touch X a c :=
  ⟨k.os.trans h.os, k.tape.trans h.tape, k.output.trans h.output, Nat.le_trans h.size k.size, fun i hi hx => (k.block i (Nat.lt_of_lt_of_le hi h.size) hx).trans (h.block i hi hx)⟩
theorem Touch.mono {X Y : Nat → Prop} {w w' : World} (h : Touch X w w') (hx : ∀ b, b < w.heap.size → X b → Y b) : Touch Y w w' := ⟨h.os, h.tape, h.output, h.size, fun k hk hn => h.block k hk (fun hx' => hn (hx k hk hx'))⟩
theorem Touch.of {X : Nat → Prop} {w w' : World} (h : Below w.heap.size w w') : Touch X w w' := ⟨h.os, h.tape, h.output, h.size, fun k hk _ => h.block k hk⟩
theorem Touch.below {X : Nat → Prop} {w w' : World} {B : Nat} (h : Touch X w w') (hB : B ≤ w.heap.size) (hx : ∀ b, X b → B ≤ b) : Below B w w' :=
  ⟨h.os, h.tape, h.output, h.size, fun k hk => h.block k (by omega) (fun hx' => by have := hx k hx'; omega)⟩
theorem Touch.cell {X : Nat → Prop} {w w' : World} (h : Touch X w w') {p : Addr} (hp : p.block < w.heap.size) (hx : ¬ X p.block) : w'.cell? p = w.cell? p := World.cell?_of_block (h.block _ hp hx)
theorem Touch.heap {X : Nat → Prop} {w w' : World} (h : Touch X w w') {g : Nat} {o : Obj} (hx : ¬ X g) (hg : w.heap[g]? = some o) : w'.heap[g]? = some o := by
  rw [h.block g (Array.getElem?_eq_some_iff.1 hg).1 hx]
  exact hg
theorem Touch.grown {X : Nat → Prop} {w w' : World} {row : Option Nat} (h : w.grownBy w' row) (hx : ∀ k, row = some k → X k) : Touch X w w' :=
  ⟨h.os, h.tape, h.output, h.size, fun k hk hn => h.block k hk (fun e => hn (hx k e.symm))⟩
theorem Touch.setCell {X : Nat → Prop} {w w' : World} (h : Touch X w w') {p : Addr} (hp : w.heap.size ≤ p.block ∨ X p.block) (u : Value) : Touch X w (w'.setCell p u) :=
  ⟨h.os, h.tape, h.output, by simpa [World.setCell] using h.size, fun k hk hn => by
    rw [Below.heap_setCell _ _ _ _ (by rintro rfl; rcases hp with hp | hp; omega; exact hn hp)]
    exact h.block k hk hn⟩
theorem Touch.setRow {X : Nat → Prop} {w w' : World} (h : Touch X w w') {g : Nat} (hp : w.heap.size ≤ g ∨ X g) (cs : Array Value) : Touch X w (w'.setRow g cs) :=
  ⟨h.os, h.tape, h.output, by simpa [World.setRow] using h.size, fun k hk hn => by
    rw [setRow_other w' g k cs (by rintro rfl; rcases hp with hp | hp; omega; exact hn hp)]
    exact h.block k hk hn⟩
theorem Touch.drew {X : Nat → Prop} {w w' : World} (h : Touch X w w') : Touch X w w'.drew := ⟨h.os, h.tape, h.output, h.size, h.block⟩

/-! ### readings that avoid blocks -/
def RdX (w : World) (X : Nat → Prop) (size : Nat) (A : Option Addr) (n : Nat) (xs : List Value) : Prop :=
  xs.length = n * size ∧ (0 < n → ∃ ad, A = some ad ∧ ad.block < w.heap.size ∧ ¬ X ad.block ∧ ∀ j u, xs[j]? = some u → w.cell? (ad.add j) = some u)
section
variable {w w' : World} {X Y : Nat → Prop} {size n : Nat} {A : Option Addr} {xs : List Value}
theorem RdX.none_ : RdX w X size A 0 [] := ⟨by simp, fun h => absurd h (by omega)⟩
theorem RdX.keep (h : RdX w X size A n xs) (ht : Touch X w w') : RdX w' X size A n xs :=
  ⟨h.1, fun hn => by
    obtain ⟨ad, e, hb, hx, hc⟩ := h.2 hn
    exact ⟨ad, e, Nat.lt_of_lt_of_le hb ht.size, hx, fun j u hu => (ht.cell (by rw [block_of_add]; exact hb) (by rw [block_of_add]; exact hx)).trans (hc j u hu)⟩⟩
theorem RdX.below (h : RdX w X size A n xs) (ht : Below w.heap.size w w') : RdX w' X size A n xs := h.keep (.of ht)
theorem RdX.mono (h : RdX w X size A n xs) (hx : ∀ b, b < w.heap.size → Y b → X b) : RdX w Y size A n xs :=
  ⟨h.1, fun hn => by
    obtain ⟨ad, e, hb, hX, hc⟩ := h.2 hn
    exact ⟨ad, e, hb, fun hy => hX (hx _ hb hy), hc⟩⟩
theorem RdX.reads (h : RdX w X size A n xs) : Reads w w.heap.size size A n xs :=
  ⟨h.1, fun hn => by
    obtain ⟨ad, e, hb, _, hc⟩ := h.2 hn
    exact ⟨ad, e, hb, hc⟩⟩
theorem RdX.of {B : Nat} (h : Reads w B size A n xs) (hB : B ≤ w.heap.size) (hx : ∀ b, b < B → ¬ X b) : RdX w X size A n xs :=
  ⟨h.1, fun hn => by
    obtain ⟨ad, e, hb, hc⟩ := h.2 hn
    exact ⟨ad, e, by omega, hx _ hb, hc⟩⟩
theorem RdX.drew (h : RdX w X size A n xs) : RdX w.drew X size A n xs := h
end
abbrev BsX (w : World) (X : Nat → Prop) (A : Option Addr) (l : List UInt8) : Prop := RdX w X 1 A l.length (bs l)

/-! ### parts -/
structure Pa where
  r : Row
  d : Bool
def Pa.cs (p : Pa) : List Value := [.slice p.r.A p.r.l.length p.r.c, .bool p.d]
def Pa.v (p : Pa) : Value := .agg #[.slice p.r.A p.r.l.length p.r.c, .bool p.d]
def pcells (ps : List Pa) : List Value := ps.flatMap Pa.cs
def says (ps : List Pa) : List Pt := ps.map fun p => (p.r.l, p.d)
theorem says_len (ps : List Pa) : (says ps).length = ps.length := by simp [says]
theorem says_append (a b : List Pa) : says (a ++ b) = says a ++ says b := by simp [says]
theorem says_get {ps : List Pa} {k : Nat} {p : Pa} (h : Hid (ps[k]? = some p)) : Hid ((says ps)[k]? = some (p.r.l, p.d)) := by
  show (says ps)[k]? = _
  unfold says
  rw [List.getElem?_map, h.out]
  rfl
theorem says_take (ps : List Pa) (k : Nat) : says (ps.take k) = (says ps).take k := by simp [says]
theorem says_snoc {ps : List Pa} {k : Nat} {p : Pa} (h : Hid (ps[k]? = some p)) : says (ps.take (k + 1)) = says (ps.take k) ++ [(p.r.l, p.d)] := map_snoc_take _ h
theorem pcells_len (ps : List Pa) : (pcells ps).length = ps.length * 2 := by
  induction ps with
  | nil => rfl
  | cons f ps ih =>
    unfold pcells at ih ⊢
    rw [List.flatMap_cons, List.length_append, ih, List.length_cons]
    simp [Pa.cs]
    omega
theorem pcells_append (a b : List Pa) : pcells (a ++ b) = pcells a ++ pcells b := by simp [pcells]
theorem pcells_split {ps : List Pa} {k : Nat} {p : Pa} (h : ps[k]? = some p) : pcells ps = pcells (ps.take k) ++ (p.cs ++ pcells (ps.drop (k + 1))) ∧ (pcells (ps.take k)).length = k * 2 := by
  obtain ⟨hk, e⟩ := List.getElem?_eq_some_iff.1 h
  constructor
  · conv => lhs; rw [← List.take_append_drop k ps, List.drop_eq_getElem_cons hk, e]
    rw [pcells_append]
    rfl
  · rw [pcells_len, List.length_take]
    congr 1
    omega
theorem pcells_get {ps : List Pa} {k : Nat} {p : Pa} (h : ps[k]? = some p) : (pcells ps)[k * 2]? = some (.slice p.r.A p.r.l.length p.r.c) ∧ (pcells ps)[k * 2 + 1]? = some (.bool p.d) := by
  obtain ⟨hs, hl⟩ := pcells_split h
  rw [hs]
  constructor
  · rw [List.getElem?_append_right (by omega), hl, Nat.sub_self]; rfl
  · rw [List.getElem?_append_right (by omega), hl, show k * 2 + 1 - k * 2 = 1 by omega]; rfl
theorem pcells_set {ps : List Pa} {k : Nat} {p : Pa} (b : Bool) (h : ps[k]? = some p) : (pcells ps).set (k * 2 + 1) (.bool b) = pcells (ps.set k ⟨p.r, b⟩) := by
  obtain ⟨hs, hl⟩ := pcells_split h
  obtain ⟨hk, e⟩ := List.getElem?_eq_some_iff.1 h
  have hs' : ps.set k ⟨p.r, b⟩ = ps.take k ++ ([⟨p.r, b⟩] ++ ps.drop (k + 1)) := by
    rw [List.set_eq_take_append_cons_drop, if_pos hk]
    rfl
  rw [hs, hs', pcells_append, pcells_append, List.set_append_right _ _ (by omega), hl, show k * 2 + 1 - k * 2 = 1 by omega]
  rfl
theorem pcells_one (ps : List Pa) : ∀ u ∈ pcells ps, u.oneCell' = true := by
  intro u hu
  unfold pcells at hu
  rw [List.mem_flatMap] at hu
  obtain ⟨p, _, hu⟩ := hu
  simp only [Pa.cs, List.mem_cons, List.not_mem_nil, or_false] at hu
  rcases hu with rfl | rfl <;> rfl

/-- Parts, as a slice value reads. -/
structure PsX (w : World) (X : Nat → Prop) (A : Option Addr) (ps : List Pa) : Prop where
  top : RdX w X 2 A ps.length (pcells ps)
  row : ∀ p ∈ ps, BsX w X p.r.A p.r.l
section
variable {w w' : World} {X Y : Nat → Prop} {A : Option Addr} {ps : List Pa}
theorem PsX.nil : PsX w X A [] := ⟨RdX.none_, by simp⟩
theorem PsX.keep (h : PsX w X A ps) (ht : Touch X w w') : PsX w' X A ps := ⟨h.top.keep ht, fun p hp => (h.row p hp).keep ht⟩
theorem PsX.below (h : PsX w X A ps) (ht : Below w.heap.size w w') : PsX w' X A ps := h.keep (.of ht)
theorem PsX.mono (h : PsX w X A ps) (hx : ∀ b, b < w.heap.size → Y b → X b) : PsX w Y A ps := ⟨h.top.mono hx, fun p hp => (h.row p hp).mono hx⟩
theorem padd_next (a : Addr) (n : Nat) : a.add (n + 1) = ⟨(a.add n).block, (a.add n).off + 1, none⟩ := by
  unfold Addr.add
  by_cases h : n = 0 <;> simp [h, Nat.add_assoc]
theorem PsX.at_ {k : Nat} (h : PsX w X A ps) (hk : k < ps.length) :
    ∃ (ad : Addr) (p : Pa), A = some ad ∧ ad.block < w.heap.size ∧ ¬ X ad.block ∧ w.cell? (ad.add (k * 2)) = some (.slice p.r.A p.r.l.length p.r.c) ∧ w.cell? ⟨(ad.add (k * 2)).block, (ad.add (k * 2)).off + 1, none⟩ = some (.bool p.d) ∧ Hid (ps[k]? = some p) ∧ BsX w X p.r.A p.r.l := by
  obtain ⟨ad, e, hb, hx, hc⟩ := h.top.2 (by omega)
  have hr : ps[k]? = some ps[k] := List.getElem?_eq_getElem hk
  obtain ⟨h1, h2⟩ := pcells_get hr
  exact ⟨ad, _, e, hb, hx, hc _ _ h1, by rw [← padd_next]; exact hc _ _ h2, hr, h.row _ (List.mem_of_getElem? hr)⟩
/-- Parts that are listed anew. -/
theorem PsX.new (t : TypeId) (hX : ∀ b, X b → b < w.heap.size) (h : ∀ p ∈ ps, BsX w X p.r.A p.r.l) : PsX (w.alloc (.cells (pcells ps).toArray t)) X (some ⟨w.heap.size, 0, none⟩) ps := by
  refine ⟨⟨pcells_len ps, fun _ => ⟨_, rfl, by simp, fun hx => by have := hX _ hx; simp at this, fun j u hu => ?_⟩⟩, fun p hp => (h p hp).below ((Below.refl _ _).alloc (Nat.le_refl _) _)⟩
  have hadd : (⟨w.heap.size, 0, none⟩ : Addr).add j = ⟨w.heap.size, j, none⟩ := by unfold Addr.add; split <;> simp_all
  rw [hadd, cell_of_row (w.alloc (.cells (pcells ps).toArray t)) w.heap.size j (pcells ps).toArray t (0, 0) (heap_alloc_new w _)]
  simpa using hu
end

/-- Sizes that do. -/
structure SmM (m : List Pt) : Prop where
  n : m.length ≤ 1000
  l : ∀ p ∈ m, p.1.length ≤ 100000
theorem contM_le {m : List Pt} (h : SmM m) (k : Nat) : (contM (m.take k)).length ≤ 100000000 := by
  have : ∀ (m : List Pt), (∀ p ∈ m, p.1.length ≤ 100000) → (contM m).length ≤ m.length * 100000 := by
    intro m
    induction m with
    | nil => intro _; simp [contM]
    | cons p m ih =>
      intro h
      have h1 := ih (fun q hq => h q (by simp [hq]))
      have h2 := h p (by simp)
      rw [contM_cons, List.length_append, List.length_cons]
      omega
  have h1 := this (m.take k) (fun p hp => h.l p (List.mem_of_mem_take hp))
  have h2 := h.n
  have h3 : (m.take k).length ≤ m.length := by rw [List.length_take]; omega
  omega
theorem contM_le' {m : List Pt} (h : SmM m) : (contM m).length ≤ 100000000 := by
  have := contM_le h m.length
  rwa [List.take_length] at this
theorem SmM.full {m : List Pt} (h : SmM m) : SmM (fullM m) := ⟨Nat.le_trans (List.length_filter_le _ _) h.n, fun p hp => h.l p (List.mem_filter.1 hp).1⟩
theorem SmM.at_ {ps : List Pa} {k : Nat} {p : Pa} (h : SmM (says ps)) (hx : Hid (ps[k]? = some p)) : p.r.l.length ≤ 100000 := h.l _ (mem_of_get (says_get hx))
theorem contM_snoc {ps : List Pa} {k : Nat} {p : Pa} (h : Hid (ps[k]? = some p)) : contM (says (ps.take (k + 1))) = contM (says (ps.take k)) ++ p.r.l := by
  rw [says_snoc h, contM_append, contM_one]
theorem ret_nat {a b : Nat} (h : a = b) : Ending.returned (.int .i64 (a : Int)) = .returned (.int .i64 (b : Int)) := by rw [h]
theorem below_new (w : World) (o : Obj) : Below w.heap.size w (w.alloc o) := (Below.refl _ _).alloc (Nat.le_refl _) _
theorem below_then {w w' w'' : World} {B : Nat} (h : Below B w w') (h' : Below w'.heap.size w' w'') (hB : B ≤ w.heap.size) : Below B w w'' := h.trans (h'.mono (Nat.le_trans hB h.size))

set_option maxHeartbeats 1000000 in
set_option maxRecDepth 100000 in
theorem size_any {X : Nat → Prop} (A : Option Addr) (c : Nat) (ps : List Pa) (w : World) (hs : SmM (says ps)) (hr : PsX w X A ps) :
    Calls Try.prog 36 #[.slice A ps.length c] w fun e w' => e = .returned (.int .i64 (((contM (says ps)).length : Nat) : Int)) ∧ Below w.heap.size w w' := by
  have hlen : (ps.length : Int) ≤ 1000 := by have := hs.n; rw [says_len] at this; omega
  have Hs := Lib.hid hs
  clear hs
  go_enter Try.func36, Try.ntmps36
  go_wp2
  go_loopw [3, 8] (fun s i wr => ∃ (k T : Nat), k ≤ ps.length ∧ i = .int .i64 (k : Int) ∧ s = .int .i64 (T : Int) ∧ Hid (T = (contM (says (ps.take k))).length) ∧ Below w.heap.size w wr) (fun _ i _ => ps.length - (intOf i).toNat)
  case atStart => exact ⟨0, 0, by omega, rfl, rfl, by exact rfl, .refl _ _⟩
  case round =>
    obtain ⟨k, T, hk, rfl, rfl, hT, hb⟩ := hrel
    have hTI : (T : Int) ≤ 100000000 := by have := contM_le Hs.out k; rw [← says_take, ← hT.out] at this; omega
    by_cases hlt : k < ps.length
    · obtain ⟨ad, p, rfl, _, _, hc1, hc2, hx, hrow⟩ := (hr.below hb).at_ hlt
      have hll : (p.r.l.length : Int) ≤ 100000 := by have := Hs.out.at_ hx; omega
      go_wp2
      go_roundw
      case rel => exact ⟨k + 1, T + p.r.l.length, by omega, by go_num, by go_num, by show _ = _; rw [contM_snoc hx, List.length_append, hT.out], hb.alloc hb.size _⟩
      case measure => simp [intOf]; omega
    · obtain rfl : k = ps.length := by omega
      go_wp2
      go_ret
      exact ⟨ret_nat (by rw [hT.out, List.take_length]), hb⟩
end Go.Proofs.Ytlehkgogcbdckaa
