/- Parts of files as values and cells; readings that avoid blocks; memory that changes in some blocks alone. Conditions: none. The walks of what is only asked of a file: Len, Bytes, Volatile; end; Clip. Conditions: files of at most 1000 parts of 100000 bytes. The walks of end, and of the reference's Bytes and Volatile. Conditions: files of at most 1000 parts of 100000 bytes. The walks of the reference's Bytes and put. Conditions: files of at most 1000 parts of 100000 bytes. -/
import Derived.Test.YtbhmnmmockmibaaGreatDoorKnExMath
import Derived.Test.YtbhmnmmockmibaaGreatDoorKnTail
import Derived.Test.YtbhmnmmockmibaaGreatDoorKnMany
import Derived.Test.YtbhmnmmockmibaaGreatDoorKnTailP
import Derived.Deep.CutRange
namespace Go.Proofs.YtbhmnmmockmibaaGreatDoor
open Go.RowKit
/-- Of what was there only blocks of X have changed. -/
structure Touch (X : Nat → Prop) (w w' : World) : Prop where
  os : w'.os = w.os
  tape : w'.tape = w.tape
  output : w'.output = w.output
  size : w.heap.size ≤ w'.heap.size
  block : ∀ k, k < w.heap.size → ¬ X k → w'.heap[k]? = w.heap[k]?
theorem Touch.refl (X : Nat → Prop) (w : World) : Touch X w w := ⟨rfl, rfl, rfl, Nat.le_refl _, fun _ _ _ => rfl⟩
theorem Touch.trans {X : Nat → Prop} {a b c : World} (h : Touch X a b) (k : Touch X b c) : Touch X a c :=
  ⟨k.os.trans h.os, k.tape.trans h.tape, k.output.trans h.output, Nat.le_trans h.size k.size, fun i hi hx => (k.block i (Nat.lt_of_lt_of_le hi h.size) hx).trans (h.block i hi hx)⟩
theorem Touch.mono {X Y : Nat → Prop} {w w' : World} (h : Touch X w w') (hx : ∀ b, b < w.heap.size → X b → Y b) : Touch Y w w' := ⟨h.os, h.tape, h.output, h.size, fun k hk hn => h.block k hk (fun hx' => hn (hx k hk hx'))⟩
theorem Touch.of {X : Nat → Prop} {w w' : World} (h : Below w.heap.size w w') : Touch X w w' := ⟨h.os, h.tape, h.output, h.size, fun k hk _ => h.block k hk⟩
theorem Touch.below {X : Nat → Prop} {w w' : World} {B : Nat} (h : Touch X w w') (hB : B ≤ w.heap.size) (hx : ∀ b, X b → B ≤ b) : Below B w w' :=
  ⟨h.os, h.tape, h.output, h.size, fun k hk => h.block k (by omega) (fun hx' => by have := hx k hx'; omega)⟩
theorem Touch.cell {X : Nat → Prop} {w w' : World} (h : Touch X w w') {p : Addr} (hp : p.block < w.heap.size) (hx : ¬ X p.block) : w'.cell? p = w.cell? p := World.cell?_of_block (h.block _ hp hx)
theorem Touch.heap {X : Nat → Prop} {w w' : World} (h : Touch X w w') {g : Nat} {o : Obj} (hx : ¬ X g) (hg : w.heap[g]? = some o) : w'.heap[g]? = some o := by
  rw [h.block g (Array.getElem?_eq_some_iff.1 hg).1 hx]
  exact hg
theorem Touch.grown {X : Nat → Prop} {w w' : World} {row : Option Nat} (h : w.grownBy w' row) (hx : ∀ k, row = some k → X k) : Touch X w w' :=
  ⟨h.os, h.tape, h.output, h.size, fun k hk hn => h.block k hk (fun e => hn (hx k e.symm))⟩
theorem Touch.setCell {X : Nat → Prop} {w w' : World} (h : Touch X w w') {p : Addr} (hp : w.heap.size ≤ p.block ∨ X p.block) (u : Value) : Touch X w (w'.setCell p u) :=
  ⟨h.os, h.tape, h.output, by simpa [World.setCell] using h.size, fun k hk hn => by
    rw [Below.heap_setCell _ _ _ _ (by rintro rfl; rcases hp with hp | hp; omega; exact hn hp)]
    exact h.block k hk hn⟩
theorem Touch.setRow {X : Nat → Prop} {w w' : World} (h : Touch X w w') {g : Nat} (hp : w.heap.size ≤ g ∨ X g) (cs : Array Value) : Touch X w (w'.setRow g cs) :=
  ⟨h.os, h.tape, h.output, by simpa [World.setRow] using h.size, fun k hk hn => by
    rw [setRow_other w' g k cs (by rintro rfl; rcases hp with hp | hp; omega; exact hn hp)]
    exact h.block k hk hn⟩
theorem Touch.drew {X : Nat → Prop} {w w' : World} (h : Touch X w w') : Touch X w w'.drew := ⟨h.os, h.tape, h.output, h.size, h.block⟩
def RdX (w : World) (X : Nat → Prop) (size : Nat) (A : Option Addr) (n : Nat) (xs : List Value) : Prop :=
  xs.length = n * size ∧ (0 < n → ∃ ad, A = some ad ∧ ad.block < w.heap.size ∧ ¬ X ad.block ∧ ∀ j u, xs[j]? = some u → w.cell? (ad.add j) = some u)
section
variable {w w' : World} {X Y : Nat → Prop} {size n : Nat} {A : Option Addr} {xs : List Value}
theorem RdX.none_ : RdX w X size A 0 [] := ⟨by simp, fun h => absurd h (by omega)⟩
theorem RdX.keep (h : RdX w X size A n xs) (ht : Touch X w w') : RdX w' X size A n xs :=
  ⟨h.1, fun hn => by
    obtain ⟨ad, e, hb, hx, hc⟩ := h.2 hn
    exact ⟨ad, e, Nat.lt_of_lt_of_le hb ht.size, hx, fun j u hu => (ht.cell (by rw [block_of_add]; exact hb) (by rw [block_of_add]; exact hx)).trans (hc j u hu)⟩⟩
theorem RdX.below (h : RdX w X size A n xs) (ht : Below w.heap.size w w') : RdX w' X size A n xs := h.keep (.of ht)
theorem RdX.mono (h : RdX w X size A n xs) (hx : ∀ b, b < w.heap.size → Y b → X b) : RdX w Y size A n xs :=
  ⟨h.1, fun hn => by
    obtain ⟨ad, e, hb, hX, hc⟩ := h.2 hn
    exact ⟨ad, e, hb, fun hy => hX (hx _ hb hy), hc⟩⟩
theorem RdX.reads (h : RdX w X size A n xs) : Reads w w.heap.size size A n xs :=
  ⟨h.1, fun hn => by
    obtain ⟨ad, e, hb, _, hc⟩ := h.2 hn
    exact ⟨ad, e, hb, hc⟩⟩
theorem RdX.of {B : Nat} (h : Reads w B size A n xs) (hB : B ≤ w.heap.size) (hx : ∀ b, b < B → ¬ X b) : RdX w X size A n xs :=
  ⟨h.1, fun hn => by
    obtain ⟨ad, e, hb, hc⟩ := h.2 hn
    exact ⟨ad, e, by omega, hx _ hb, hc⟩⟩
theorem RdX.drew (h : RdX w X size A n xs) : RdX w.drew X size A n xs := h
end
abbrev BsX (w : World) (X : Nat → Prop) (A : Option Addr) (l : List UInt8) : Prop := RdX w X 1 A l.length (bs l)
structure Pa where
  r : Row
  d : Bool
def Pa.cs (p : Pa) : List Value := [.slice p.r.A p.r.l.length p.r.c, .bool p.d]
def Pa.v (p : Pa) : Value := .agg #[.slice p.r.A p.r.l.length p.r.c, .bool p.d]
def pcells (ps : List Pa) : List Value := ps.flatMap Pa.cs
def says (ps : List Pa) : List Pt := ps.map fun p => (p.r.l, p.d)
theorem says_len (ps : List Pa) : (says ps).length = ps.length := by simp [says]
theorem says_append (a b : List Pa) : says (a ++ b) = says a ++ says b := by simp [says]
theorem says_get {ps : List Pa} {k : Nat} {p : Pa} (h : Hid (ps[k]? = some p)) : Hid ((says ps)[k]? = some (p.r.l, p.d)) := by
  show (says ps)[k]? = _
  unfold says
  rw [List.getElem?_map, h.out]
  rfl
theorem says_take (ps : List Pa) (k : Nat) : says (ps.take k) = (says ps).take k := by simp [says]
theorem says_snoc {ps : List Pa} {k : Nat} {p : Pa} (h : Hid (ps[k]? = some p)) : says (ps.take (k + 1)) = says (ps.take k) ++ [(p.r.l, p.d)] := map_snoc_take _ h
theorem pcells_len (ps : List Pa) : (pcells ps).length = ps.length * 2 := by
  induction ps with
  | nil => rfl
  | cons f ps ih =>
    unfold pcells at ih ⊢
    rw [List.flatMap_cons, List.length_append, ih, List.length_cons]
    simp [Pa.cs]
    omega
theorem pcells_append (a b : List Pa) : pcells (a ++ b) = pcells a ++ pcells b := by simp [pcells]
theorem pcells_split {ps : List Pa} {k : Nat} {p : Pa} (h : ps[k]? = some p) : pcells ps = pcells (ps.take k) ++ (p.cs ++ pcells (ps.drop (k + 1))) ∧ (pcells (ps.take k)).length = k * 2 := by
  obtain ⟨hk, e⟩ := List.getElem?_eq_some_iff.1 h
  constructor
  · conv => lhs; rw [← List.take_append_drop k ps, List.drop_eq_getElem_cons hk, e]
    rw [pcells_append]
    rfl
  · rw [pcells_len, List.length_take]
    congr 1
    omega
theorem pcells_get {ps : List Pa} {k : Nat} {p : Pa} (h : ps[k]? = some p) : (pcells ps)[k * 2]? = some (.slice p.r.A p.r.l.length p.r.c) ∧ (pcells ps)[k * 2 + 1]? = some (.bool p.d) := by
  obtain ⟨hs, hl⟩ := pcells_split h
  rw [hs]
  constructor
  · rw [List.getElem?_append_right (by omega), hl, Nat.sub_self]; rfl
  · rw [List.getElem?_append_right (by omega), hl, show k * 2 + 1 - k * 2 = 1 by omega]; rfl
theorem pcells_set {ps : List Pa} {k : Nat} {p : Pa} (b : Bool) (h : ps[k]? = some p) : (pcells ps).set (k * 2 + 1) (.bool b) = pcells (ps.set k ⟨p.r, b⟩) := by
  obtain ⟨hs, hl⟩ := pcells_split h
  obtain ⟨hk, e⟩ := List.getElem?_eq_some_iff.1 h
  have hs' : ps.set k ⟨p.r, b⟩ = ps.take k ++ ([⟨p.r, b⟩] ++ ps.drop (k + 1)) := by
    rw [List.set_eq_take_append_cons_drop, if_pos hk]
    rfl
  rw [hs, hs', pcells_append, pcells_append, List.set_append_right _ _ (by omega), hl, show k * 2 + 1 - k * 2 = 1 by omega]
  rfl
theorem pcells_one (ps : List Pa) : ∀ u ∈ pcells ps, u.oneCell' = true := by
  intro u hu
  unfold pcells at hu
  rw [List.mem_flatMap] at hu
  obtain ⟨p, _, hu⟩ := hu
  simp only [Pa.cs, List.mem_cons, List.not_mem_nil, or_false] at hu
  rcases hu with rfl | rfl <;> rfl
/-- Parts, as a slice value reads. -/
structure PsX (w : World) (X : Nat → Prop) (A : Option Addr) (ps : List Pa) : Prop where
  top : RdX w X 2 A ps.length (pcells ps)
  row : ∀ p ∈ ps, BsX w X p.r.A p.r.l
section
variable {w w' : World} {X Y : Nat → Prop} {A : Option Addr} {ps : List Pa}
theorem PsX.nil : PsX w X A [] := ⟨RdX.none_, by simp⟩
theorem PsX.keep (h : PsX w X A ps) (ht : Touch X w w') : PsX w' X A ps := ⟨h.top.keep ht, fun p hp => (h.row p hp).keep ht⟩
theorem PsX.below (h : PsX w X A ps) (ht : Below w.heap.size w w') : PsX w' X A ps := h.keep (.of ht)
theorem PsX.mono (h : PsX w X A ps) (hx : ∀ b, b < w.heap.size → Y b → X b) : PsX w Y A ps := ⟨h.top.mono hx, fun p hp => (h.row p hp).mono hx⟩
theorem padd_next (a : Addr) (n : Nat) : a.add (n + 1) = ⟨(a.add n).block, (a.add n).off + 1, none⟩ := by
  unfold Addr.add
  by_cases h : n = 0 <;> simp [h, Nat.add_assoc]
theorem PsX.at_ {k : Nat} (h : PsX w X A ps) (hk : k < ps.length) :
    ∃ (ad : Addr) (p : Pa), A = some ad ∧ ad.block < w.heap.size ∧ ¬ X ad.block ∧ w.cell? (ad.add (k * 2)) = some (.slice p.r.A p.r.l.length p.r.c) ∧ w.cell? ⟨(ad.add (k * 2)).block, (ad.add (k * 2)).off + 1, none⟩ = some (.bool p.d) ∧ Hid (ps[k]? = some p) ∧ BsX w X p.r.A p.r.l := by
  obtain ⟨ad, e, hb, hx, hc⟩ := h.top.2 (by omega)
  have hr : ps[k]? = some ps[k] := List.getElem?_eq_getElem hk
  obtain ⟨h1, h2⟩ := pcells_get hr
  exact ⟨ad, _, e, hb, hx, hc _ _ h1, by rw [← padd_next]; exact hc _ _ h2, hr, h.row _ (List.mem_of_getElem? hr)⟩
/-- Parts that are listed anew. -/
theorem PsX.new (t : TypeId) (hX : ∀ b, X b → b < w.heap.size) (h : ∀ p ∈ ps, BsX w X p.r.A p.r.l) : PsX (w.alloc (.cells (pcells ps).toArray t)) X (some ⟨w.heap.size, 0, none⟩) ps := by
  refine ⟨⟨pcells_len ps, fun _ => ⟨_, rfl, by simp, fun hx => by have := hX _ hx; simp at this, fun j u hu => ?_⟩⟩, fun p hp => (h p hp).below ((Below.refl _ _).alloc (Nat.le_refl _) _)⟩
  have hadd : (⟨w.heap.size, 0, none⟩ : Addr).add j = ⟨w.heap.size, j, none⟩ := by unfold Addr.add; split <;> simp_all
  rw [hadd, cell_of_row (w.alloc (.cells (pcells ps).toArray t)) w.heap.size j (pcells ps).toArray t (0, 0) (heap_alloc_new w _)]
  simpa using hu
end
/-- Sizes that do. -/
structure SmM (m : List Pt) : Prop where
  n : m.length ≤ 1000
  l : ∀ p ∈ m, p.1.length ≤ 100000
theorem contM_le {m : List Pt} (h : SmM m) (k : Nat) : (contM (m.take k)).length ≤ 100000000 := by
  have : ∀ (m : List Pt), (∀ p ∈ m, p.1.length ≤ 100000) → (contM m).length ≤ m.length * 100000 := by
    intro m
    induction m with
    | nil => intro _; simp [contM]
    | cons p m ih =>
      intro h
      have h1 := ih (fun q hq => h q (by simp [hq]))
      have h2 := h p (by simp)
      rw [contM_cons, List.length_append, List.length_cons]
      omega
  have h1 := this (m.take k) (fun p hp => h.l p (List.mem_of_mem_take hp))
  have h2 := h.n
  have h3 : (m.take k).length ≤ m.length := by rw [List.length_take]; omega
  omega
theorem contM_le' {m : List Pt} (h : SmM m) : (contM m).length ≤ 100000000 := by
  have := contM_le h m.length
  rwa [List.take_length] at this
theorem SmM.full {m : List Pt} (h : SmM m) : SmM (fullM m) := ⟨Nat.le_trans (List.length_filter_le _ _) h.n, fun p hp => h.l p (List.mem_filter.1 hp).1⟩
theorem SmM.at_ {ps : List Pa} {k : Nat} {p : Pa} (h : SmM (says ps)) (hx : Hid (ps[k]? = some p)) : p.r.l.length ≤ 100000 := h.l _ (mem_of_get (says_get hx))
theorem contM_snoc {ps : List Pa} {k : Nat} {p : Pa} (h : Hid (ps[k]? = some p)) : contM (says (ps.take (k + 1))) = contM (says (ps.take k)) ++ p.r.l := by
  rw [says_snoc h, contM_append, contM_one]
theorem ret_nat {a b : Nat} (h : a = b) : Ending.returned (.int .i64 (a : Int)) = .returned (.int .i64 (b : Int)) := by rw [h]
theorem below_new (w : World) (o : Obj) : Below w.heap.size w (w.alloc o) := (Below.refl _ _).alloc (Nat.le_refl _) _
theorem below_then {w w' w'' : World} {B : Nat} (h : Below B w w') (h' : Below w'.heap.size w' w'') (hB : B ≤ w.heap.size) : Below B w w'' := h.trans (h'.mono (Nat.le_trans hB h.size))
set_option maxHeartbeats 1000000 in
set_option maxRecDepth 100000 in
theorem size_any {X : Nat → Prop} (A : Option Addr) (c : Nat) (ps : List Pa) (w : World) (hs : SmM (says ps)) (hr : PsX w X A ps) :
    Calls Tryz.prog 101 #[.slice A ps.length c] w fun e w' => e = .returned (.int .i64 (((contM (says ps)).length : Nat) : Int)) ∧ Below w.heap.size w w' := by
  have hlen : (ps.length : Int) ≤ 1000 := by have := hs.n; rw [says_len] at this; omega
  have Hs := Lib.hid hs
  clear hs
  go_enter Tryz.func101, Tryz.ntmps101
  go_wp2
  go_loopw [3, 8] (fun s i wr => ∃ (k T : Nat), k ≤ ps.length ∧ i = .int .i64 (k : Int) ∧ s = .int .i64 (T : Int) ∧ Hid (T = (contM (says (ps.take k))).length) ∧ Below w.heap.size w wr) (fun _ i _ => ps.length - (intOf i).toNat)
  case atStart => exact ⟨0, 0, by omega, rfl, rfl, by exact rfl, .refl _ _⟩
  case round =>
    obtain ⟨k, T, hk, rfl, rfl, hT, hb⟩ := hrel
    have hTI : (T : Int) ≤ 100000000 := by have := contM_le Hs.out k; rw [← says_take, ← hT.out] at this; omega
    by_cases hlt : k < ps.length
    · obtain ⟨ad, p, rfl, _, _, hc1, hc2, hx, hrow⟩ := (hr.below hb).at_ hlt
      have hll : (p.r.l.length : Int) ≤ 100000 := by have := Hs.out.at_ hx; omega
      go_wp2
      go_roundw
      case rel => exact ⟨k + 1, T + p.r.l.length, by omega, by go_num, by go_num, by show _ = _; rw [contM_snoc hx, List.length_append, hT.out], hb.alloc hb.size _⟩
      case measure => simp [intOf]; omega
    · obtain rfl : k = ps.length := by omega
      go_wp2
      go_ret
      exact ⟨ret_nat (by rw [hT.out, List.take_length]), hb⟩
end Go.Proofs.YtbhmnmmockmibaaGreatDoor

namespace Go.Proofs.YtbhmnmmockmibaaGreatDoor
open Go.RowKit
set_option maxHeartbeats 1000000 in
theorem clipB_any (A : Option Addr) (n c : Nat) (w : World) (hc : n ≤ c) (hl : n ≤ 9223372036854775807) :
    Calls Tryz.prog 124 #[.slice A n c] w fun e w' => e = .returned (.slice A n n) ∧ w' = w := by
  have hcI : (n : Int) ≤ (c : Int) := by omega
  have hlI : (n : Int) ≤ 9223372036854775807 := by omega
  go_enter Tryz.func124, Tryz.ntmps124
  go_wp2
  go_ret
  exact ⟨rfl, rfl⟩
set_option maxHeartbeats 1000000 in
theorem clipP_any (A : Option Addr) (n c : Nat) (w : World) (hc : n ≤ c) (hl : n ≤ 9223372036854775807) :
    Calls Tryz.prog 116 #[.slice A n c] w fun e w' => e = .returned (.slice A n n) ∧ w' = w := by
  have hcI : (n : Int) ≤ (c : Int) := by omega
  have hlI : (n : Int) ≤ 9223372036854775807 := by omega
  go_enter Tryz.func116, Tryz.ntmps116
  go_wp2
  go_ret
  exact ⟨rfl, rfl⟩
/-- A row with room, made. -/
theorem run_make0 (w : World) (n : Nat) (z : Int) (hz : z = (n : Int)) (hn : n ≤ 140737488351232) :
    (Instr.makeSlice 22 (.int .i64 0) (.int .i64 z)).run Tryz.prog w = .ok (.slice (some ⟨w.heap.size, 0, none⟩) 0 n) (w.alloc (.cells (bs (noughts n)).toArray 5)) := by
  subst hz
  obtain ⟨i0, hi0, hz0, hz1, hz2⟩ := info_parts Tryz.info5
  have h := run_make w 22 5 i0 _ Tryz.underlying22 hi0 hz0 .i64 .i64 0 (n : Int) (by omega) (by omega) (by rw [hz2]; omega) (by omega)
  have e : madeCells (Value.int .u8 0).cells (n * 1) = (bs (noughts n)).toArray := by rw [← made_noughts]
  rw [hz1, Int.toNat_natCast, e] at h
  exact h
theorem own_make0 (w : World) (n : Nat) (hn : n ≤ 140737488351232) : (w.alloc (.cells (bs (noughts n)).toArray 5)).ownsRow w.heap.size 5 1 (.slice (some ⟨w.heap.size, 0, none⟩) 0 n) 0 [] :=
  World.ownsRow_made w _ n (Nat.le_refl _) (by simp only [maxLen]; omega) (by simp [bs_len, noughts_len])
set_option maxHeartbeats 1000000 in
set_option maxRecDepth 100000 in
theorem len_any {X : Nat → Prop} (A : Option Addr) (c : Nat) (ps : List Pa) (w : World) (hs : SmM (says ps)) (hr : PsX w X A ps) :
    Calls Tryz.prog 64 #[.agg #[.slice A ps.length c]] w fun e w' => e = .returned (.int .i64 (((contM (says ps)).length : Nat) : Int)) ∧ Below w.heap.size w w' := by
  have hb := below_new w (.cells #[.slice A ps.length c] 113)
  have Hc := Lib.hid (size_any A c ps _ hs (hr.below hb))
  have Hb := Lib.hid hb
  clear hb hr
  go_enter Tryz.func64, Tryz.ntmps64
  go_wp2_with fail
  refine Hc.out.mono ?_
  rintro e w2 ⟨rfl, hb2⟩
  go_wp2
  go_ret
  exact ⟨rfl, below_then Hb.out hb2 (Nat.le_refl _)⟩
set_option maxHeartbeats 1000000 in
set_option maxRecDepth 100000 in
theorem bytes_any {X : Nat → Prop} (A : Option Addr) (c : Nat) (ps : List Pa) (w : World) (hs : SmM (says ps)) (hr : PsX w X A ps) :
    Calls Tryz.prog 63 #[.agg #[.slice A ps.length c]] w fun e w' => ∃ v, e = .returned v ∧ w'.ownsRow w.heap.size 5 1 v (contM (says ps)).length (bs (contM (says ps))) ∧ Below w.heap.size w w' := by
  have hlen : (ps.length : Int) ≤ 1000 := by have := hs.n; rw [says_len] at this; omega
  have Hs := Lib.hid hs
  have hb0 := below_new w (.cells #[.slice A ps.length c] 113)
  have Hc := Lib.hid (len_any A c ps _ hs (hr.below hb0))
  have Hb0 := Lib.hid hb0
  have hcell : (w.alloc (.cells #[.slice A ps.length c] 113)).cell? ⟨w.heap.size, 0, none⟩ = some (.slice A ps.length c) := by
    rw [cell_of_row _ _ 0 _ _ _ (heap_alloc_new w _)]; rfl
  have Hcell := Lib.hid hcell
  have hrI := Lib.hid hr
  clear hb0 hs hr
  go_enter Tryz.func63, Tryz.ntmps63
  go_wp2_with fail
  refine Hc.out.mono ?_
  rintro e w2 ⟨rfl, hb2⟩
  have hcell2 := (hb2.cell (p := ⟨w.heap.size, 0, none⟩) (by simp)).trans Hcell.out
  have hbb2 := below_then Hb0.out hb2 (Nat.le_refl _)
  obtain ⟨T, hT⟩ : ∃ T, T = (contM (says ps)).length := ⟨_, rfl⟩
  have HT := Lib.hid hT
  rw [← hT]
  have hTle : T ≤ 100000000 := by rw [hT]; exact contM_le' Hs.out
  have hmk := fun w => run_make0 w T T rfl (by omega)
  have hown0 := own_mono (own_make0 w2 T (by omega)) hbb2.size
  have hbb3 := hbb2.alloc hbb2.size (.cells (bs (noughts T)).toArray 5)
  have hcell3 := (World.cell?_alloc_lt w2 (.cells (bs (noughts T)).toArray 5) ⟨w.heap.size, 0, none⟩ (by show w.heap.size < w2.heap.size; have := hb2.size; simp at this; omega)).trans hcell2
  clear hcell hb2 hcell2 hbb2 hT hTle
  go_wp2
  clear hmk hcell3
  go_loopw [3, 12] (fun v i wr => ∃ k : Nat, k ≤ ps.length ∧ i = .int .i64 (k : Int) ∧ wr.ownsRow w.heap.size 5 1 v (contM (says (ps.take k))).length (bs (contM (says (ps.take k)))) ∧ Below w.heap.size w wr) (fun _ i _ => ps.length - (intOf i).toNat)
  case atStart => exact ⟨0, by omega, rfl, by simpa [says, contM, bs] using hown0, hbb3⟩
  case round =>
    clear hown0 hbb3
    obtain ⟨k, hk, rfl, hown, hb⟩ := hrel
    by_cases hlt : k < ps.length
    · obtain ⟨ad, p, rfl, _, _, hc1, hc2, hx, hrow⟩ := (hrI.out.below hb).at_ hlt
      have Hll := Lib.hid (Hs.out.at_ hx)
      have Hle := Lib.hid (contM_le Hs.out k)
      rw [← says_take] at Hle
      have hbz := hb.alloc hb.size (.cells #[.slice p.r.A p.r.l.length p.r.c, .bool p.d] 165)
      have hrow' := Lib.hid (hrow.below (below_new _ (.cells #[.slice p.r.A p.r.l.length p.r.c, .bool p.d] 165))).reads
      have hown' := Lib.hid (hown.alloc (.cells #[.slice p.r.A p.r.l.length p.r.c, .bool p.d] 165))
      clear hown hrow
      go_wp2_with (at_builtin; refine push_rowK (.tmp 16) (.tmp 18) hown'.out hbz.size hrow'.out (by have := Hll.out; have := Hle.out; omega) rfl rfl rfl rfl ?_; intro v1 w1 hown1 hb1 hbs1 _ _)
      go_roundw
      case rel => exact ⟨k + 1, by omega, by go_num, by rw [contM_snoc hx]; exact hown1, hbz.trans hb1⟩
      case measure => simp [intOf]; omega
    · obtain rfl : k = ps.length := by omega
      rw [List.take_length] at hown
      go_wp2
      go_ret
      exact ⟨_, rfl, by rw [HT.out]; exact hown, hb⟩
/-- One more volatile part, if it is one. -/
theorem volM_snoc {ps : List Pa} {k : Nat} {p : Pa} (h : Hid (ps[k]? = some p)) : volM (says (ps.take (k + 1))) = volM (says (ps.take k)) + if (!p.d && !p.r.l.isEmpty) = true then 1 else 0 := by
  rw [says_snoc h, volM_append, volM_one]
theorem volM_le (m : List Pt) : volM m ≤ m.length := by unfold volM; exact List.length_filter_le _ _
set_option maxHeartbeats 1000000 in
set_option maxRecDepth 100000 in
theorem vol_any {X : Nat → Prop} (A : Option Addr) (c : Nat) (ps : List Pa) (w : World) (hs : SmM (says ps)) (hr : PsX w X A ps) :
    Calls Tryz.prog 56 #[.agg #[.slice A ps.length c]] w fun e w' => e = .returned (.int .i64 ((volM (says ps) : Nat) : Int)) ∧ Below w.heap.size w w' := by
  have hlen : (ps.length : Int) ≤ 1000 := by have := hs.n; rw [says_len] at this; omega
  have Hs := Lib.hid hs
  have hb0 := below_new w (.cells #[.slice A ps.length c] 113)
  have hrI := Lib.hid hr
  clear hs hr
  go_enter Tryz.func56, Tryz.ntmps56
  go_wp2
  go_loopw [3, 9] (fun s i wr => ∃ (k T : Nat), k ≤ ps.length ∧ i = .int .i64 (k : Int) ∧ s = .int .i64 (T : Int) ∧ Hid (T = volM (says (ps.take k))) ∧ Below w.heap.size w wr) (fun _ i _ => ps.length - (intOf i).toNat)
  case atStart => exact ⟨0, 0, by omega, rfl, rfl, by exact rfl, hb0⟩
  case round =>
    clear hb0
    obtain ⟨k, T, hk, rfl, rfl, hT, hb⟩ := hrel
    have hTI : (T : Int) ≤ 1000 := by
      have h1 := volM_le (says (ps.take k))
      rw [← hT.out, says_len, List.length_take] at h1
      omega
    by_cases hlt : k < ps.length
    · obtain ⟨ad, p, rfl, _, _, hc1, hc2, hx, hrow⟩ := (hrI.out.below hb).at_ hlt
      have hll : (p.r.l.length : Int) ≤ 100000 := by have := Hs.out.at_ hx; omega
      have hv := Lib.hid (volM_snoc hx)
      obtain ⟨⟨pA, pc, pl⟩, pd⟩ := p
      simp only at hc1 hc2 hll
      have hbz := hb.alloc hb.size (.cells #[.slice pA pl.length pc, .bool pd] 165)
      cases pd with
      | true =>
        go_wp2
        go_roundw
        case rel => exact ⟨k + 1, T, by omega, by go_num, rfl, by show _ = _; rw [hv.out, ← hT.out]; simp, hbz⟩
        case measure => simp [intOf]; omega
      | false =>
        by_cases hp : pl.length = 0
        · have hpe : pl = [] := List.eq_nil_of_length_eq_zero hp
          subst hpe
          go_wp2
          go_roundw
          case rel => exact ⟨k + 1, T, by omega, by go_num, rfl, by show _ = _; rw [hv.out, ← hT.out]; simp, hbz⟩
          case measure => simp [intOf]; omega
        · have hp' : (0 : Int) < (pl.length : Int) := by omega
          have hp2 : 0 < pl.length := by omega
          have Hp := Lib.hid hp
          clear hp
          go_wp2
          go_roundw
          case rel => exact ⟨k + 1, T + 1, by omega, by go_num, by go_num, by show _ = _; rw [hv.out, ← hT.out]; have := Hp.out; cases pl <;> simp_all, hbz⟩
          case measure => simp [intOf]; omega
    · obtain rfl : k = ps.length := by omega
      go_wp2
      go_ret
      exact ⟨ret_nat (by rw [hT.out, List.take_length]), hb⟩
end Go.Proofs.YtbhmnmmockmibaaGreatDoor

namespace Go.Proofs.YtbhmnmmockmibaaGreatDoor
open Go.RowKit
set_option maxHeartbeats 1000000 in
set_option maxRecDepth 100000 in
theorem end_any {X : Nat → Prop} (A : Option Addr) (c : Nat) (ps : List Pa) (w : World) (hs : SmM (says ps)) (hr : PsX w X A ps) :
    Calls Tryz.prog 97 #[.slice A ps.length c] w fun e w' => e = .returned (.int .i64 ((endM (says ps) : Nat) : Int)) ∧ w' = w := by
  have hlen : (ps.length : Int) ≤ 1000 := by have := hs.n; rw [says_len] at this; omega
  have Hs := Lib.hid hs
  clear hs
  go_enter Tryz.func97, Tryz.ntmps97
  go_wp2
  go_step3
  go_wp2
  go_step3
  go_wp2
  go_loopw [3] (fun i wr => ∃ k : Nat, k ≤ ps.length ∧ i = .int .i64 (k : Int) ∧ wr = w ∧ Hid (endM ((says ps).take k) = endM (says ps))) (fun i _ => (intOf i).toNat)
  case atStart => exact ⟨ps.length, by omega, rfl, rfl, by show _ = _; rw [← says_len, List.take_length]⟩
  case round =>
    obtain ⟨k, hk, rfl, rfl, hT⟩ := hrel
    cases k with
    | zero =>
      go_wp2
      rw [Exit.noGoto_ret]
      go_ret
      exact ⟨ret_nat (endM_zero hT.out).symm, rfl⟩
    | succ j =>
      obtain ⟨ad, p, rfl, _, _, hc1, hc2, hx, hrow⟩ := hr.at_ (k := j) (by omega)
      obtain ⟨pr, pd⟩ := p
      have hsg := Lib.hid (says_get hx)
      simp only at hc1 hc2
      have e1 : ((j + 1 : Nat) : Int) - 1 = (j : Int) := by omega
      have e2 : (((j + 1 : Nat) : Int) == 0) = false := by rw [beq_eq_false_iff_ne]; omega
      have hjI : (j : Int) < (ps.length : Int) := by omega
      have hjn : j < ps.length := by omega
      cases pd with
      | true =>
        have hv := Lib.hid (endM_here hT.out hsg.out rfl)
        go_wp2
        go_ret
        exact ⟨ret_nat hv.out.symm, rfl⟩
      | false =>
        have hv := Lib.hid (endM_back hT.out hsg.out rfl)
        go_wp2
        go_roundw
        case rel => exact ⟨j, by omega, by first | rfl | trivial, by first | rfl | trivial, hv⟩
        case measure => simp [intOf]
set_option maxHeartbeats 1000000 in
set_option maxRecDepth 100000 in
theorem rown_any (A : Option Addr) (c B : Nat) (l : List UInt8) (w : World) (hl : l.length ≤ 140737488351232) (hr : RdB w B A l) :
    Calls Tryz.prog 147 #[.slice A l.length c] w fun e w' => ∃ v, e = .returned v ∧ w'.ownsRow w.heap.size 5 1 v l.length (bs l) ∧ Below w.heap.size w w' := by
  have Hl := Lib.hid hl
  clear hl
  go_enter Tryz.func147, Tryz.ntmps147
  go_wp2_with (at_builtin; refine push_row (.tmp 4) (.tmp 5) (l := []) (World.ownsRow_nil w w.heap.size 5 1) (Nat.le_refl _) hr (by have := Hl.out; simp; omega) rfl rfl rfl rfl ?_; intro v1 w1 hown1 hb1 hbs1 hg1)
  go_ret
  exact ⟨_, rfl, hown1, hb1⟩
end Go.Proofs.YtbhmnmmockmibaaGreatDoor

namespace Go.Proofs.YtbhmnmmockmibaaGreatDoor
open Go.RowKit
set_option maxHeartbeats 1000000 in
set_option maxRecDepth 100000 in
theorem rbytes_any {X : Nat → Prop} (A : Option Addr) (c : Nat) (ps : List Pa) (w : World) (hs : SmM (says ps)) (hr : PsX w X A ps) :
    Calls Tryz.prog 112 #[.agg #[.slice A ps.length c]] w fun e w' => ∃ v, e = .returned v ∧ w'.ownsRow w.heap.size 5 1 v (contM (says ps)).length (bs (contM (says ps))) ∧ Below w.heap.size w w' := by
  have hlen : (ps.length : Int) ≤ 1000 := by have := hs.n; rw [says_len] at this; omega
  have Hs := Lib.hid hs
  obtain ⟨W, hW⟩ : ∃ W, Hid (w.alloc (.cells #[.slice A ps.length c] 180) = W) := ⟨_, rfl⟩
  have hbW : Hid (Below w.heap.size w W) := by rw [← hW.out]; exact below_new _ _
  have hcW : Hid (W.cell? ⟨w.heap.size, 0, none⟩ = some (.slice A ps.length c)) := by
    rw [← hW.out]
    show _ = _
    rw [cell_of_row _ _ 0 _ _ _ (heap_alloc_new w _)]; rfl
  have hsW : Hid (W.heap.size = w.heap.size + 1) := by rw [← hW.out]; show _ = _; simp
  have hrW : Hid (PsX W X A ps) := hr.below hbW.out
  clear hs hr
  go_enter Tryz.func112, Tryz.ntmps112
  go_upto_region 1 with fail
  rw [hW.out]
  go_wp2
  go_loopw [3, 4] (fun v i wr => ∃ k : Nat, k ≤ ps.length ∧ i = .int .i64 (k : Int) ∧ wr.ownsRow W.heap.size 5 1 v (contM (says (ps.take k))).length (bs (contM (says (ps.take k)))) ∧ Below W.heap.size W wr) (fun _ i _ => ps.length - (intOf i).toNat)
  case atStart => exact ⟨0, by omega, rfl, World.ownsRow_nil _ _ _ _, .refl _ _⟩
  case round =>
    obtain ⟨k, hk, rfl, hown, hb⟩ := hrel
    obtain ⟨wo, hwo⟩ : ∃ wo : World, wo = wr := ⟨_, rfl⟩
    subst hwo
    have hcl := (hb.cell (p := ⟨w.heap.size, 0, none⟩) (by rw [hsW.out]; show w.heap.size < _; omega)).trans hcW.out
    by_cases hlt : k < ps.length
    · obtain ⟨ad, p, rfl, _, _, hc1, hc2, hx, hrow⟩ := (hrW.out.below hb).at_ hlt
      have Hll := Lib.hid (Hs.out.at_ hx)
      have hll : (p.r.l.length : Int) ≤ 100000 := by have := Hll.out; omega
      have Hle := Lib.hid (contM_le Hs.out k)
      rw [← says_take] at Hle
      have hlt2 := Lib.hid hown.lt
      obtain ⟨D, hD⟩ : ∃ D, Hid (contM (says (ps.take k)) = D) := ⟨_, rfl⟩
      rw [hD.out] at hown Hle
      have Hrow := Lib.hid hrow
      have Hb := Lib.hid hb
      have Hx := Lib.hid hx
      have hcA := hc1
      have HcA := Lib.hid hcA
      have Hcl := Lib.hid hcl
      clear hrow hcA hx hc1 hc2 hb hcl
      have hat0 : ∃ j n : Nat, j ≤ p.r.l.length ∧ Value.int .i64 0 = .int .i64 (j : Int) ∧ wo.ownsRow W.heap.size 5 1 (.slice none 0 0) 0 [] := ⟨0, 0, by omega, rfl, World.ownsRow_nil _ _ _ _⟩
      clear hat0
      have hcl := Hcl.out
      go_upto_region 6 with fail
      go_loopw [3, 5] (fun v i wr => ∃ j : Nat, j ≤ p.r.l.length ∧ i = .int .i64 (j : Int) ∧ wr.ownsRow W.heap.size 5 1 v (D ++ p.r.l.take j).length (bs (D ++ p.r.l.take j)) ∧ Below W.heap.size W wr) (fun _ i _ => p.r.l.length - (intOf i).toNat)
      case atStart => exact ⟨0, by omega, rfl, by simpa using hown, Hb.out⟩
      case round =>
        clear hown hcl
        obtain ⟨j, hj, rfl, hown, hb⟩ := hrel
        have hcl := (hb.cell (p := ⟨w.heap.size, 0, none⟩) (by rw [hsW.out]; show w.heap.size < _; omega)).trans hcW.out
        obtain ⟨ad2, p2, he, _, _, hc1, hc2, hx, hrow⟩ := (hrW.out.below hb).at_ hlt
        injection he with he
        subst he
        have hpp : p2 = p := by
          have h1 := hx.out
          rw [Hx.out.out] at h1
          injection h1 with h1
          exact h1.symm
        subst hpp
        by_cases hltj : j < p2.r.l.length
        · obtain ⟨ad3, x, hA3, _, hcx, hxx⟩ := RdB.at_ hrow.reads hltj
          rw [hA3] at hc1
          have Hpl := Lib.hid (show (D ++ p2.r.l.take j).length ≤ 140737488355327 by rw [List.length_append, List.length_take]; have := Hle.out; have := Hll.out; omega)
          have hjI : (j : Int) < (p2.r.l.length : Int) := by omega
          have Hown := Lib.hid hown
          have hbz := hb.size
          clear hown hrow
          go_wp2_with
            (at_builtin
             refine push_byteK (.tmp 24) (.tmp 34) _ x Hown.out hbz Hpl.out rfl rfl rfl rfl rfl rfl ?_
             intro v1 w1 hown1 hb1 hbs1 _ _)
          go_roundw
          case rel => exact ⟨j + 1, by omega, by go_num, by rw [take_snoc hxx, ← List.append_assoc]; exact hown1, hb.trans hb1⟩
          case measure => simp [intOf]; omega
        · obtain rfl : j = p2.r.l.length := by omega
          rw [List.take_length] at hown
          have hown' := Lib.hid hown
          clear hown
          go_wp2
          go_roundw
          case rel => exact ⟨k + 1, by omega, by go_num, by rw [contM_snoc hx, hD.out]; exact hown'.out, hb⟩
          case measure => simp [intOf]; omega
    · obtain rfl : k = ps.length := by omega
      rw [List.take_length] at hown
      go_wp2
      go_ret
      exact ⟨_, rfl, own_mono hown (by rw [hsW.out]; omega), hbW.out.trans (hb.mono hbW.out.size)⟩
end Go.Proofs.YtbhmnmmockmibaaGreatDoor
