/- A slice of frames, as a slice value reads. Conditions: none. -/
import Derived.Test.YtogoaihimepboaaKFrB
namespace Go.Proofs.Ytogoaihimepboaa
open Go.RowKit

/-- A frame's cells. -/
def Fr.cs (f : Fr) : List Value := [.int .u8 (f.k.toNat : Int), .slice f.r.A f.r.l.length f.r.c]
def fcells (fs : List Fr) : List Value := fs.flatMap Fr.cs
theorem fcells_len (fs : List Fr) : (fcells fs).length = fs.length * 2 := by
  induction fs with
  | nil => rfl
  | cons f fs ih =>
    unfold fcells at ih ⊢
    rw [List.flatMap_cons, List.length_append, ih, List.length_cons]
    simp [Fr.cs]
    omega
theorem fcells_append (a b : List Fr) : fcells (a ++ b) = fcells a ++ fcells b := by simp [fcells]
theorem fcells_get {fs : List Fr} {k : Nat} {f : Fr} (h : fs[k]? = some f) : (fcells fs)[k * 2]? = some (.int .u8 (f.k.toNat : Int)) ∧ (fcells fs)[k * 2 + 1]? = some (.slice f.r.A f.r.l.length f.r.c) := by
  obtain ⟨hk, e⟩ := List.getElem?_eq_some_iff.1 h
  have hs : fcells fs = fcells (fs.take k) ++ (f.cs ++ fcells (fs.drop (k + 1))) := by
    conv => lhs; rw [← List.take_append_drop k fs, List.drop_eq_getElem_cons hk, e]
    rw [fcells_append]
    rfl
  have hl : (fcells (fs.take k)).length = k * 2 := by rw [fcells_len, List.length_take]; congr 1; omega
  rw [hs]
  constructor
  · rw [List.getElem?_append_right (by omega), hl, Nat.sub_self]; rfl
  · rw [List.getElem?_append_right (by omega), hl, show k * 2 + 1 - k * 2 = 1 by omega]; rfl
theorem fcells_one (fs : List Fr) : ∀ u ∈ fcells fs, u.oneCell' = true := by
  intro u hu
  unfold fcells at hu
  rw [List.mem_flatMap] at hu
  obtain ⟨f, _, hu⟩ := hu
  simp only [Fr.cs, List.mem_cons, List.not_mem_nil, or_false] at hu
  rcases hu with rfl | rfl <;> rfl
/-- What frames say: kinds and bodies. -/
def fks (fs : List Fr) : List Fk := fs.map fun f => (f.k, f.r.l)
theorem fks_len (fs : List Fr) : (fks fs).length = fs.length := by simp [fks]
theorem fks_get {fs : List Fr} {k : Nat} {f : Fr} (h : Hid (fs[k]? = some f)) : Hid ((fks fs)[k]? = some (f.k, f.r.l)) := by
  show (fks fs)[k]? = _
  unfold fks
  rw [List.getElem?_map, h.out]
  rfl
theorem fks_take (fs : List Fr) (k : Nat) : fks (fs.take k) = (fks fs).take k := by simp [fks]

/-- Frames, as a slice value reads. -/
structure RdF (w : World) (B : Nat) (A : Option Addr) (fs : List Fr) : Prop where
  top : Reads w B 2 A fs.length (fcells fs)
  row : ∀ f ∈ fs, RdB w B f.r.A f.r.l
section
variable {w w' : World} {B B' : Nat} {A : Option Addr} {fs : List Fr}
theorem RdF.keep (h : RdF w B A fs) (hk : ∀ p : Addr, p.block < B → w'.cell? p = w.cell? p) : RdF w' B A fs := ⟨h.top.keep hk, fun r hr => (h.row r hr).keep hk⟩
theorem RdF.below (h : RdF w B A fs) (hb : Below B w w') : RdF w' B A fs := ⟨h.top.below hb, fun r hr => (h.row r hr).below hb⟩
theorem RdF.more (h : RdF w B A fs) (hB : B ≤ B') : RdF w B' A fs := ⟨h.top.more hB, fun r hr => (h.row r hr).more hB⟩
theorem RdF.alloc (h : RdF w B A fs) (hB : B ≤ w.heap.size) (o : Obj) : RdF (w.alloc o) B A fs := ⟨h.top.alloc hB o, fun r hr => (h.row r hr).alloc hB o⟩
theorem RdF.nil : RdF w B none [] := ⟨Reads.none_, by simp⟩
theorem add_next (a : Addr) (n : Nat) : a.add (n + 1) = ⟨(a.add n).block, (a.add n).off + 1, none⟩ := by
  unfold Addr.add
  by_cases h : n = 0 <;> simp [h, Nat.add_assoc]
theorem RdF.at_ {k : Nat} (h : RdF w B A fs) (hk : k < fs.length) :
    ∃ (ad : Addr) (f : Fr), A = some ad ∧ ad.block < B ∧ w.cell? (ad.add (k * 2)) = some (.int .u8 (f.k.toNat : Int)) ∧ w.cell? ⟨(ad.add (k * 2)).block, (ad.add (k * 2)).off + 1, none⟩ = some (.slice f.r.A f.r.l.length f.r.c) ∧ Hid (fs[k]? = some f) ∧ RdB w B f.r.A f.r.l := by
  obtain ⟨ad, e, hb, hc⟩ := h.top.2 (by omega)
  have hr : fs[k]? = some fs[k] := List.getElem?_eq_getElem hk
  obtain ⟨h1, h2⟩ := fcells_get hr
  exact ⟨ad, _, e, hb, hc _ _ h1, by rw [← add_next]; exact hc _ _ h2, hr, h.row _ (List.mem_of_getElem? hr)⟩
/-- Frames that are listed anew. -/
theorem RdF.new (w : World) (B : Nat) (fs : List Fr) (t : TypeId) (hB : B ≤ w.heap.size) (h : ∀ f ∈ fs, RdB w B f.r.A f.r.l) : RdF (w.alloc (.cells (fcells fs).toArray t)) (w.heap.size + 1) (some ⟨w.heap.size, 0, none⟩) fs := by
  refine ⟨⟨fcells_len fs, fun _ => ⟨_, rfl, by simp, fun j u hu => ?_⟩⟩, fun f hf => Reads.more ((h f hf).alloc hB _) (by omega)⟩
  have hadd : (⟨w.heap.size, 0, none⟩ : Addr).add j = ⟨w.heap.size, j, none⟩ := by unfold Addr.add; split <;> simp_all
  rw [hadd, cell_of_row (w.alloc (.cells (fcells fs).toArray t)) w.heap.size j (fcells fs).toArray t (0, 0) (heap_alloc_new w _)]
  simpa using hu
end

/-- Join's answer: the bytes, and the error. -/
def joinF (l : List Fk) : List UInt8 × Nat := if l.all (fun f => decide (f.2.length ≤ 65535)) then (encFs l, 0) else ([], 3)
theorem joinF_ok {l : List Fk} (h : ∀ f ∈ l, f.2.length ≤ 65535) : joinF l = (encFs l, 0) := by
  unfold joinF
  rw [if_pos]
  rw [List.all_eq_true]
  intro f hf
  exact decide_eq_true (h f hf)
theorem joinF_no {l : List Fk} {f : Fk} (hf : f ∈ l) (h : 65535 < f.2.length) : joinF l = ([], 3) := by
  unfold joinF
  rw [if_neg]
  rw [List.all_eq_true]
  intro h'
  have := of_decide_eq_true (h' f hf)
  omega
theorem encFs_le {l : List Fk} (h : ∀ f ∈ l, f.2.length ≤ 65535) (k : Nat) : (encFs (l.take k)).length ≤ 65550 * k := by
  induction k with
  | zero => simp [encFs]
  | succ k ih =>
    cases hx : l[k]? with
    | none =>
      have : l.length ≤ k := List.getElem?_eq_none_iff.1 hx
      rw [List.take_of_length_le this] at ih
      rw [List.take_of_length_le (by omega)]
      omega
    | some f =>
      rw [encFs_snoc (show Hid _ from hx), List.length_append, encFr_len]
      have h1 := h f (List.mem_of_getElem? hx)
      have h2 := sz_10 (n := f.2.length) (by omega)
      unfold fsz
      omega
/-- A maker's answer of bytes and an error. -/
def BytesErr (base : Nat) (r : List UInt8 × Nat) (e : Ending) (w' : World) : Prop :=
  ∃ v, e = .returned (.tuple #[v, .int .i64 (r.2 : Nat)]) ∧ w'.ownsRow base 5 1 v r.1.length (bs r.1)

set_option maxHeartbeats 1000000 in
set_option maxRecDepth 100000 in
theorem join_any (A : Option Addr) (c : Nat) (fs : List Fr) (w : World) (hl : fs.length ≤ 1000) (hls : ∀ f ∈ fs, f.r.l.length ≤ 140737488351232) (hr : RdF w w.heap.size A fs) :
    Calls Try.prog 35 #[.slice A fs.length c] w fun e w' => BytesErr w.heap.size (joinF (fks fs)) e w' ∧ Below w.heap.size w w' := by
  have hlen : (fs.length : Int) ≤ 1000 := by omega
  have Hls := Lib.hid hls
  clear hl hls
  go_enter Try.func35, Try.ntmps35
  go_wp2
  go_loopw [4, 12] (fun s i wr => ∃ (k T : Nat), k ≤ fs.length ∧ i = .int .i64 (k : Int) ∧ s = .int .i64 (T : Int) ∧ T ≤ 65550 * k ∧ Hid (∀ f ∈ fs.take k, f.r.l.length ≤ 65535) ∧ Below w.heap.size w wr) (fun _ i _ => fs.length - (intOf i).toNat)
  case atStart => exact ⟨0, 0, by omega, rfl, rfl, by omega, by intro f hf; simp at hf, .refl _ _⟩
  case round =>
    obtain ⟨k, T, hk, rfl, rfl, hT, hall, hb⟩ := hrel
    by_cases hlt : k < fs.length
    · obtain ⟨ad, f, rfl, _, hc1, hc2, hx, hrow⟩ := (hr.below hb).at_ hlt
      by_cases hbig : 65535 < f.r.l.length
      · have hll : (65535 : Int) < (f.r.l.length : Int) := by omega
        have hv := joinF_no (l := fks fs) (f := (f.k, f.r.l)) (mem_of_get (fks_get hx)) hbig
        have Hv := Lib.hid hv
        clear hv hbig
        go_wp2
        go_ret2
        rw [Hv.out]
        exact ⟨⟨_, rfl, World.ownsRow_nil _ _ _ _⟩, hb.alloc hb.size _⟩
      · have hll : (f.r.l.length : Int) ≤ 65535 := by omega
        have hs10 := sz_10 (n := f.r.l.length) (by omega)
        have hfz : fsz f.r.l.length ≤ 65550 := by unfold fsz; omega
        have hfzI : ((fsz f.r.l.length : Nat) : Int) ≤ 65550 := by omega
        have Hsm := Lib.hid (show f.r.l.length ≤ 140737488351232 by omega)
        have hall' : Hid (∀ f ∈ fs.take (k + 1), f.r.l.length ≤ 65535) := by
          intro g hg
          rw [take_snoc hx, List.mem_append, List.mem_singleton] at hg
          rcases hg with hg | rfl
          · exact hall.out g hg
          · omega
        obtain ⟨Z, hZ⟩ : ∃ Z, Z = fsz f.r.l.length := ⟨_, rfl⟩
        rw [← hZ] at hfz hfzI
        have Hfz := Lib.hid hfz
        have HZ := Lib.hid hZ
        have hTI : (T : Int) ≤ 65550000 := by omega
        have HT := Lib.hid hT
        clear hbig hs10 hall hfz hZ hT
        go_wp2_with fail
        refine (frSize_any f _ Hsm.out).mono ?_
        rintro e w1 ⟨rfl, hb1⟩
        rw [← HZ.out]
        have hbb1 := (hb.alloc hb.size (.cells #[.int .u8 (f.k.toNat : Int), .slice f.r.A f.r.l.length f.r.c] 58)).trans (hb1.mono (by have := hb.size; simp; omega))
        go_wp2
        go_roundw
        case rel => exact ⟨k + 1, T + Z, by omega, by go_num, by go_num, by have := HT.out; have := Hfz.out; omega, hall', hbb1⟩
        case measure => simp [intOf]; omega
    · obtain rfl : k = fs.length := by omega
      have hok : ∀ f ∈ fks fs, f.2.length ≤ 65535 := by
        intro g hg
        unfold fks at hg
        rw [List.mem_map] at hg
        obtain ⟨f, hf, rfl⟩ := hg
        exact hall.out f (by rw [List.take_length]; exact hf)
      have hv := joinF_ok hok
      have Hok := Lib.hid hok
      have Hv := Lib.hid hv
      have hmk := run_make_row T (by omega) wr
      have hown0 := World.ownsRow_made wr (e := 5) (size := 1) (base := w.heap.size) (madeCells #[Value.int .u8 0] T) T hb.size (by simp only [maxLen]; omega) (by rw [made_size]; omega)
      have hb0 := hb.alloc hb.size (.cells (madeCells #[Value.int .u8 0] T) 5)
      clear hv hok hall
      go_wp2
      clear hmk
      go_loopw [7, 29] (fun v i wr => ∃ k : Nat, k ≤ fs.length ∧ i = .int .i64 (k : Int) ∧ wr.ownsRow w.heap.size 5 1 v (encFs ((fks fs).take k)).length (bs (encFs ((fks fs).take k))) ∧ Below w.heap.size w wr) (fun _ i _ => fs.length - (intOf i).toNat)
      case atStart => exact ⟨0, by omega, rfl, by simpa [encFs, bs] using hown0, hb0⟩
      case round =>
        clear hb hown0 hb0
        obtain ⟨k, hk, rfl, hown, hb⟩ := hrel
        by_cases hlt : k < fs.length
        · obtain ⟨ad, f, rfl, _, hc1, hc2, hx, hrow⟩ := (hr.below hb).at_ hlt
          have hx' := fks_get hx
          have Hsm := Lib.hid (show f.r.l.length ≤ 65535 from Hok.out _ (mem_of_get hx'))
          have Hle := Lib.hid (show (encFs ((fks fs).take k)).length ≤ 1099511627776 by have := encFs_le Hok.out k; omega)
          have hb1 := hb.alloc hb.size (.cells #[.int .u8 (f.k.toNat : Int), .slice f.r.A f.r.l.length f.r.c] 58)
          go_wp2_with fail
          refine (appendFrame_any w.heap.size _ (encFs ((fks fs).take k)) f _ Hle.out Hsm.out hb1.size (hown.alloc _) (Reads.alloc hrow hb.size _)).mono ?_
          rintro e w1 ⟨v1, rfl, hown1, hbx⟩
          go_wp2
          go_roundw
          case rel => exact ⟨k + 1, by omega, by go_num, by rw [encFs_snoc hx']; exact hown1, hb1.trans hbx⟩
          case measure => simp [intOf]; omega
        · obtain rfl : k = fs.length := by omega
          rw [← fks_len, List.take_length] at hown
          go_wp2
          go_ret2
          rw [Hv.out]
          exact ⟨⟨_, rfl, hown⟩, hb⟩
end Go.Proofs.Ytogoaihimepboaa
