/- Texts as lists of bytes: joined, held against one another. Conditions: none. Memory: a struct of eight cells, as a folder's block has it; readings that avoid blocks. Conditions: none. The library's contracts that the walks use, laid at this program: maps.Keys, slices.Sorted, slices.Sort. Conditions: none. Directories as lists: names in the order of their bytes, operations, what is done and undone; a map that holds such a list. Conditions: none. -/
import Derived.Test.YtbhmnmmockmibaaGreatKbMany
import Derived.Test.YtbhmnmmockmibaaGreatKbInM
import Derived.Test.YtbhmnmmockmibaaGreatKbFull
import Derived.Deep.CutRange
import Derived.Lib.SmallJoins
import Derived.Shelf.SlIterI.Nil
import Derived.Shelf.SortM.Plain
import Derived.Shelf.SortM.SortNone
import Derived.Test.YtbhmnmmockmibaaGreatProg
import Derived.Test.YtbhmnmmockmibaaGreatKbTail
import Derived.Maps.Ext
import Derived.Maps.RangeWalk
import Derived.Sort.KeysCollected
import Derived.Lib.Bytealg
namespace Go.Proofs.YtbhmnmmockmibaaGreat
open Go.RowKit Go.Lib
theorem txt_isEmpty (l : List UInt8) : (txt l).toList.isEmpty = l.isEmpty := by rw [ByteArray.toList_eq]; rfl
theorem txt_toList (s : ByteArray) : txt s.data.toList = s := by
  obtain ⟨⟨l⟩⟩ := s
  rfl
end Go.Proofs.YtbhmnmmockmibaaGreat

namespace Go.Proofs.YtbhmnmmockmibaaGreat
open Go.RowKit
section
variable {w w' : World} {X Y : Nat → Prop}
theorem RdX.both {size n : Nat} {A : Option Addr} {xs : List Value} (h : RdX w X size A n xs) : RdX w (fun b => X b ∨ w.heap.size ≤ b) size A n xs := by
  refine ⟨h.1, fun hn => ?_⟩
  obtain ⟨ad, e, hb, hx, hc⟩ := h.2 hn
  exact ⟨ad, e, hb, fun h => by rcases h with h | h; exact hx h; omega, hc⟩
end
theorem two_cells {w : World} {g : Nat} {x y : Value} {t : TypeId} {fr : Nat × Nat} (hg : w.heap[g]? = some (.cells #[x, y] t fr)) : w.cell? ⟨g, 0, none⟩ = some x ∧ w.cell? ⟨g, 1, none⟩ = some y := by
  rw [cell_of_row w g 0 _ _ _ hg, cell_of_row w g 1 _ _ _ hg]
  exact ⟨rfl, rfl⟩
/-- A folder's block, but for the directory's two cells. -/
structure Rs where
  m : Value
  n : Value
  tk : Value
  q : Value
  k : Value
  mp : Value
theorem d_cells {w : World} {g : Nat} {x y a b c d e f : Value} {t : TypeId} {fr : Nat × Nat} (hg : w.heap[g]? = some (.cells #[x, y, a, b, c, d, e, f] t fr)) : w.cell? ⟨g, 0, none⟩ = some x ∧ w.cell? ⟨g, 1, none⟩ = some y := by
  rw [cell_of_row w g 0 _ _ _ hg, cell_of_row w g 1 _ _ _ hg]
  exact ⟨rfl, rfl⟩
theorem f_cells {w : World} {g : Nat} {x y a b c d e f : Value} {t : TypeId} {fr : Nat × Nat} (hg : w.heap[g]? = some (.cells #[x, y, a, b, c, d, e, f] t fr)) : w.cell? ⟨g, 2, none⟩ = some a ∧ w.cell? ⟨g, 3, none⟩ = some b ∧ w.cell? ⟨g, 4, none⟩ = some c := by
  rw [cell_of_row w g 2 _ _ _ hg, cell_of_row w g 3 _ _ _ hg, cell_of_row w g 4 _ _ _ hg]
  exact ⟨rfl, rfl, rfl⟩
theorem d_frozen {w : World} {g i : Nat} {cs : Array Value} {t : TypeId} (hg : w.heap[g]? = some (.cells cs t (0, 0))) : w.frozen? ⟨g, i, none⟩ = false := by simp [World.frozen?, hg]
section
variable {w : World} {g : Nat} {x y a b c d e f : Value} {t : TypeId} (u : Value) (hg : w.heap[g]? = some (.cells #[x, y, a, b, c, d, e, f] t (0, 0)))
include hg
theorem d_set0 : (w.setCell ⟨g, 0, none⟩ u).heap[g]? = some (.cells #[u, y, a, b, c, d, e, f] t (0, 0)) := by rw [heap_setCell_same w g 0 _ t u hg]; rfl
theorem d_set1 : (w.setCell ⟨g, 1, none⟩ u).heap[g]? = some (.cells #[x, u, a, b, c, d, e, f] t (0, 0)) := by rw [heap_setCell_same w g 1 _ t u hg]; rfl
theorem f_set3 : (w.setCell ⟨g, 3, none⟩ u).heap[g]? = some (.cells #[x, y, a, u, c, d, e, f] t (0, 0)) := by rw [heap_setCell_same w g 3 _ t u hg]; rfl
theorem f_set4 : (w.setCell ⟨g, 4, none⟩ u).heap[g]? = some (.cells #[x, y, a, b, u, d, e, f] t (0, 0)) := by rw [heap_setCell_same w g 4 _ t u hg]; rfl
end
end Go.Proofs.YtbhmnmmockmibaaGreat

namespace Go.Proofs
open Go.Shelf
def Tryz.laysKeys_ren : Go.Shelf.Ren := ⟨fun | 7 => 96 | 10 => 118 | n => n, fun | 23 => 78 | 26 => 3 | 3 => 130 | 28 => 174 | 0 => 0 | 27 => 173 | 33 => 195 | 4 => 4 | n => n, fun | n => n⟩
theorem Tryz.laysKeys : Go.Proofs.SlLaysZI.n7 Tryz.prog Tryz.laysKeys_ren := {
  mixed := by kernel_rfl
  f7 := ⟨Tryz.f96.name, by decide, Tryz.func96.trans (congrArg some (by kernel_rfl))⟩
  f10 := ⟨Tryz.f118.name, by decide, Tryz.func118.trans (congrArg some (by kernel_rfl))⟩
  t0 := Tryz.underlying0
  a0 := Tryz.isAgg0
  z0 := Tryz.sizeOf0
  v0 := Tryz.zeroValue0
  t4 := Tryz.underlying4
  a4 := Tryz.isAgg4
  z4 := Tryz.sizeOf4
  v4 := Tryz.zeroValue4
  t23 := Tryz.underlying78
  a23 := Tryz.isAgg78
  z23 := Tryz.sizeOf78
  v23 := Tryz.zeroValue78
  t26 := Tryz.underlying3
  a26 := Tryz.isAgg3
  z26 := Tryz.sizeOf3
  v26 := Tryz.zeroValue3
  t27 := Tryz.underlying173
  a27 := Tryz.isAgg173
  z27 := Tryz.sizeOf173
  v27 := Tryz.zeroValue173
  t28 := Tryz.underlying174
  a28 := Tryz.isAgg174
  z28 := Tryz.sizeOf174
  v28 := Tryz.zeroValue174
  t33 := Tryz.underlying195
  a33 := Tryz.isAgg195
  z33 := Tryz.sizeOf195
  v33 := Tryz.zeroValue195 }
def Tryz.laysSorted_ren : Go.Shelf.Ren := ⟨fun | 6 => 95 | 8 => 116 | 9 => 117 | 11 => 137 | 13 => 112 | 12 => 138 | 23 => 134 | 24 => 135 | 14 => 145 | 15 => 146 | 16 => 147 | 17 => 148 | 18 => 149 | 19 => 150 | 20 => 151 | 21 => 152 | 22 => 153 | 25 => 158 | 26 => 141 | 27 => 142 | 28 => 159 | 29 => 160 | 30 => 161 | 31 => 163 | n => n, fun | 26 => 3 | 28 => 174 | 24 => 34 | 0 => 0 | 3 => 3 | 37 => 192 | 48 => 209 | 50 => 211 | 4 => 4 | 40 => 203 | 39 => 202 | 45 => 102 | 5 => 5 | 9 => 9 | 51 => 214 | 55 => 218 | 57 => 227 | 58 => 228 | 33 => 195 | n => n, fun | n => n⟩
theorem Tryz.laysSorted : Go.Proofs.SlLaysZI.n6 Tryz.prog Tryz.laysSorted_ren := {
  mixed := by kernel_rfl
  f6 := ⟨Tryz.f95.name, by decide, Tryz.func95.trans (congrArg some (by kernel_rfl))⟩
  f8 := ⟨Tryz.f116.name, by decide, Tryz.func116.trans (congrArg some (by kernel_rfl))⟩
  f11 := ⟨Tryz.f137.name, by decide, Tryz.func137.trans (congrArg some (by kernel_rfl))⟩
  t0 := Tryz.underlying0
  a0 := Tryz.isAgg0
  z0 := Tryz.sizeOf0
  v0 := Tryz.zeroValue0
  t24 := Tryz.underlying34
  a24 := Tryz.isAgg34
  z24 := Tryz.sizeOf34
  v24 := Tryz.zeroValue34
  t26 := Tryz.underlying3
  a26 := Tryz.isAgg3
  z26 := Tryz.sizeOf3
  v26 := Tryz.zeroValue3
  t28 := Tryz.underlying174
  a28 := Tryz.isAgg174
  z28 := Tryz.sizeOf174
  v28 := Tryz.zeroValue174
  i26 := by kernel_rfl }
def Tryz.laysSort_ren : Go.Shelf.Ren := ⟨fun | 5 => 117 | 8 => 112 | 7 => 138 | 19 => 134 | 20 => 135 | 10 => 145 | 11 => 146 | 12 => 147 | 13 => 148 | 14 => 149 | 15 => 150 | 16 => 151 | 17 => 152 | 18 => 153 | 30 => 158 | 31 => 141 | 32 => 142 | 33 => 159 | 34 => 160 | 35 => 161 | 40 => 163 | n => n, fun | 23 => 34 | 25 => 3 | 3 => 3 | 32 => 192 | 22 => 34 | 0 => 0 | 44 => 209 | 46 => 211 | 4 => 4 | 36 => 203 | 35 => 202 | 41 => 102 | 5 => 5 | 9 => 9 | 53 => 214 | 57 => 218 | 63 => 227 | 64 => 228 | n => n, fun | n => n⟩
theorem Tryz.laysSort : Go.Proofs.SlLaysM.n5 Tryz.prog Tryz.laysSort_ren := {
  mixed := by kernel_rfl
  f5 := ⟨Tryz.f117.name, by decide, Tryz.func117.trans (congrArg some (by kernel_rfl))⟩
  f7 := ⟨Tryz.f138.name, by decide, Tryz.func138.trans (congrArg some (by kernel_rfl))⟩
  f8 := Tryz.func112.trans (congrArg some (by kernel_rfl))
  f10 := ⟨Tryz.f145.name, by decide, Tryz.func145.trans (congrArg some (by kernel_rfl))⟩
  f11 := ⟨Tryz.f146.name, by decide, Tryz.func146.trans (congrArg some (by kernel_rfl))⟩
  f12 := ⟨Tryz.f147.name, by decide, Tryz.func147.trans (congrArg some (by kernel_rfl))⟩
  f13 := ⟨Tryz.f148.name, by decide, Tryz.func148.trans (congrArg some (by kernel_rfl))⟩
  f14 := ⟨Tryz.f149.name, by decide, Tryz.func149.trans (congrArg some (by kernel_rfl))⟩
  f15 := ⟨Tryz.f150.name, by decide, Tryz.func150.trans (congrArg some (by kernel_rfl))⟩
  f16 := ⟨Tryz.f151.name, by decide, Tryz.func151.trans (congrArg some (by kernel_rfl))⟩
  f17 := ⟨Tryz.f152.name, by decide, Tryz.func152.trans (congrArg some (by kernel_rfl))⟩
  f18 := ⟨Tryz.f153.name, by decide, Tryz.func153.trans (congrArg some (by kernel_rfl))⟩
  f19 := Tryz.func134.trans (congrArg some (by kernel_rfl))
  f20 := Tryz.func135.trans (congrArg some (by kernel_rfl))
  f30 := ⟨Tryz.f158.name, by decide, Tryz.func158.trans (congrArg some (by kernel_rfl))⟩
  f31 := Tryz.func141.trans (congrArg some (by kernel_rfl))
  f32 := Tryz.func142.trans (congrArg some (by kernel_rfl))
  f33 := ⟨Tryz.f159.name, by decide, Tryz.func159.trans (congrArg some (by kernel_rfl))⟩
  f34 := ⟨Tryz.f160.name, by decide, Tryz.func160.trans (congrArg some (by kernel_rfl))⟩
  f35 := ⟨Tryz.f161.name, by decide, Tryz.func161.trans (congrArg some (by kernel_rfl))⟩
  f40 := ⟨Tryz.f163.name, by decide, Tryz.func163.trans (congrArg some (by kernel_rfl))⟩
  t0 := Tryz.underlying0
  a0 := Tryz.isAgg0
  z0 := Tryz.sizeOf0
  v0 := Tryz.zeroValue0
  t3 := Tryz.underlying3
  a3 := Tryz.isAgg3
  z3 := Tryz.sizeOf3
  v3 := Tryz.zeroValue3
  t4 := Tryz.underlying4
  a4 := Tryz.isAgg4
  z4 := Tryz.sizeOf4
  v4 := Tryz.zeroValue4
  t5 := Tryz.underlying5
  a5 := Tryz.isAgg5
  z5 := Tryz.sizeOf5
  v5 := Tryz.zeroValue5
  t9 := Tryz.underlying9
  a9 := Tryz.isAgg9
  z9 := Tryz.sizeOf9
  v9 := Tryz.zeroValue9
  t22 := Tryz.underlying34
  a22 := Tryz.isAgg34
  z22 := Tryz.sizeOf34
  v22 := Tryz.zeroValue34
  t23 := Tryz.underlying34
  a23 := Tryz.isAgg34
  z23 := Tryz.sizeOf34
  v23 := Tryz.zeroValue34
  t25 := Tryz.underlying3
  a25 := Tryz.isAgg3
  z25 := Tryz.sizeOf3
  v25 := Tryz.zeroValue3
  t32 := Tryz.underlying192
  a32 := Tryz.isAgg192
  z32 := Tryz.sizeOf192
  v32 := Tryz.zeroValue192
  t35 := Tryz.underlying202
  a35 := Tryz.isAgg202
  z35 := Tryz.sizeOf202
  v35 := Tryz.zeroValue202
  t36 := Tryz.underlying203
  a36 := Tryz.isAgg203
  z36 := Tryz.sizeOf203
  v36 := Tryz.zeroValue203
  t41 := Tryz.underlying102
  a41 := Tryz.isAgg102
  z41 := Tryz.sizeOf102
  v41 := Tryz.zeroValue102
  t44 := Tryz.underlying209
  a44 := Tryz.isAgg209
  z44 := Tryz.sizeOf209
  v44 := Tryz.zeroValue209
  t46 := Tryz.underlying211
  a46 := Tryz.isAgg211
  z46 := Tryz.sizeOf211
  v46 := Tryz.zeroValue211
  t53 := Tryz.underlying214
  a53 := Tryz.isAgg214
  z53 := Tryz.sizeOf214
  v53 := Tryz.zeroValue214
  t57 := Tryz.underlying218
  a57 := Tryz.isAgg218
  z57 := Tryz.sizeOf218
  v57 := Tryz.zeroValue218
  t63 := Tryz.underlying227
  a63 := Tryz.isAgg227
  z63 := Tryz.sizeOf227
  v63 := Tryz.zeroValue227
  t64 := Tryz.underlying228
  a64 := Tryz.isAgg228
  z64 := Tryz.sizeOf228
  v64 := Tryz.zeroValue228 }
end Go.Proofs

namespace Go.Proofs.YtbhmnmmockmibaaGreat
open Go.RowKit Go.WideShapes
abbrev EnD := List UInt8 × Int
abbrev blt (a b : List UInt8) : Bool := bytesBefore a b
theorem blt_irrefl (a : List UInt8) : blt a a = false := WideAt.bytes_irrefl a
theorem blt_trans {a b c : List UInt8} (h : blt a b = true) (k : blt b c = true) : blt a c = true := WideShapes.bytes_trans a b c h k
theorem blt_total {a b : List UInt8} (h : a ≠ b) : blt a b = true ∨ blt b a = true := WideAt.bytes_total a b h
theorem blt_ne {a b : List UInt8} (h : blt a b = true) : a ≠ b := by rintro rfl; rw [blt_irrefl] at h; cases h
theorem blt_asymm {a b : List UInt8} (h : blt a b = true) : blt b a = false := by
  cases k : blt b a
  · rfl
  · have := blt_trans h k
    rw [blt_irrefl] at this
    cases this
theorem less_blt : ∀ (a b : List UInt8), Op.bytesLess a b = blt a b
  | [], [] => rfl
  | [], _ :: _ => rfl
  | _ :: _, [] => rfl
  | a :: x, b :: y => by
    unfold Op.bytesLess blt bytesBefore
    rw [less_blt x y]
/-- strings.Compare, by the order. -/
theorem cmp_lt : ∀ (a b : List UInt8), decide (Lib.compareBytes a b < 0) = blt a b
  | [], [] => rfl
  | [], _ :: _ => rfl
  | _ :: _, [] => rfl
  | a :: x, b :: y => by
    unfold Lib.compareBytes blt bytesBefore
    have ih := cmp_lt x y
    by_cases h1 : a < b
    · simp [h1]
    · by_cases h2 : b < a
      · have hne : (a == b) = false := by simp; rintro rfl; exact h1 h2
        simp [h1, h2, hne]
      · have he : a = b := by
          have := UInt8.not_lt.1 h1
          have := UInt8.not_lt.1 h2
          exact UInt8.le_antisymm this (by assumption)
        subst he
        simp only [h1, if_false, decide_false, Bool.false_or, beq_self_eq_true, Bool.true_and]
        exact ih
/-- In order, no name twice. -/
def Srt (m : List EnD) : Prop := m.Pairwise fun a b => blt a.1 b.1 = true
def insE (x : EnD) : List EnD → List EnD
  | [] => [x]
  | y :: r => if blt x.1 y.1 = true then x :: y :: r else y :: insE x r
def delE (m : List EnD) (k : List UInt8) : List EnD := m.filter fun e => !(e.1 == k)
def putE (m : List EnD) (x : EnD) : List EnD := insE x (delE m x.1)
def getE (m : List EnD) (k : List UInt8) : Option Int := (m.find? fun e => e.1 == k).map (·.2)
def hasE (m : List EnD) (k : List UInt8) : Bool := m.any fun e => e.1 == k
theorem mem_ins {x y : EnD} : ∀ {m : List EnD}, y ∈ insE x m ↔ y = x ∨ y ∈ m
  | [] => by simp [insE]
  | z :: r => by
    unfold insE
    split
    · simp
    · rw [List.mem_cons, mem_ins (m := r), List.mem_cons]
      constructor
      · rintro (h | h | h)
        · exact .inr (.inl h)
        · exact .inl h
        · exact .inr (.inr h)
      · rintro (h | h | h)
        · exact .inr (.inl h)
        · exact .inl h
        · exact .inr (.inr h)
theorem mem_del {y : EnD} {m : List EnD} {k : List UInt8} : y ∈ delE m k ↔ y ∈ m ∧ y.1 ≠ k := by
  unfold delE
  rw [List.mem_filter]
  simp
theorem hasE_iff {m : List EnD} {k : List UInt8} : hasE m k = true ↔ ∃ v, (k, v) ∈ m := by
  unfold hasE
  rw [List.any_eq_true]
  constructor
  · rintro ⟨⟨a, v⟩, h, e⟩
    have : a = k := by simpa using e
    subst this
    exact ⟨v, h⟩
  · rintro ⟨v, h⟩
    exact ⟨_, h, by simp⟩
theorem ins_len (x : EnD) : ∀ m : List EnD, (insE x m).length = m.length + 1
  | [] => rfl
  | y :: r => by
    unfold insE
    split
    · rfl
    · rw [List.length_cons, ins_len x r, List.length_cons]
theorem del_len (m : List EnD) (k : List UInt8) : (delE m k).length ≤ m.length := List.length_filter_le _ _
theorem Srt.ins {x : EnD} : ∀ {m : List EnD}, Srt m → hasE m x.1 = false → Srt (insE x m)
  | [], _, _ => List.pairwise_singleton _ _
  | y :: r, h, hx => by
    obtain ⟨h1, h2⟩ := List.pairwise_cons.1 h
    have hx' : hasE r x.1 = false := by
      unfold hasE at hx ⊢
      rw [List.any_cons, Bool.or_eq_false_iff] at hx
      exact hx.2
    have hne : y.1 ≠ x.1 := by
      intro e
      unfold hasE at hx
      rw [List.any_cons, e] at hx
      simp at hx
    unfold insE
    split
    · rename_i hb
      refine List.pairwise_cons.2 ⟨fun q hq => ?_, h⟩
      rcases List.mem_cons.1 hq with rfl | hq
      · exact hb
      · exact blt_trans hb (h1 q hq)
    · rename_i hb
      have hyx : blt y.1 x.1 = true := by
        rcases blt_total hne with h' | h'
        · exact h'
        · exact absurd h' hb
      refine List.pairwise_cons.2 ⟨fun q hq => ?_, Srt.ins h2 hx'⟩
      rcases mem_ins.1 hq with rfl | hq
      · exact hyx
      · exact h1 q hq
theorem Srt.del {m : List EnD} (h : Srt m) (k : List UInt8) : Srt (delE m k) := h.filter _
theorem has_del (m : List EnD) (k : List UInt8) : hasE (delE m k) k = false := by
  cases h : hasE (delE m k) k
  · rfl
  · obtain ⟨v, hv⟩ := hasE_iff.1 h
    exact absurd rfl (mem_del.1 hv).2
theorem Srt.put {m : List EnD} (h : Srt m) (x : EnD) : Srt (putE m x) := (h.del x.1).ins (has_del m x.1)
theorem del_none {m : List EnD} {k : List UInt8} (h : hasE m k = false) : delE m k = m := by
  unfold delE
  rw [List.filter_eq_self]
  intro e he
  cases hk : e.1 == k
  · rfl
  · unfold hasE at h
    rw [List.any_eq_false] at h
    exact absurd hk (h e he)
theorem put_new {m : List EnD} {x : EnD} (h : hasE m x.1 = false) : putE m x = insE x m := by
  unfold putE
  rw [del_none h]
theorem srt_ext {m l : List EnD} (hm : Srt m) (hl : Srt l) (h : ∀ x, x ∈ m ↔ x ∈ l) : m = l := by
  induction m generalizing l with
  | nil =>
    cases l with
    | nil => rfl
    | cons y s => have := (h y).2 (by simp); simp at this
  | cons x r ih =>
    cases l with
    | nil => have := (h x).1 (by simp); simp at this
    | cons y s =>
      obtain ⟨a1, a2⟩ := List.pairwise_cons.1 hm
      obtain ⟨b1, b2⟩ := List.pairwise_cons.1 hl
      have hxy : x = y := by
        rcases List.mem_cons.1 ((h x).1 (by simp)) with e | hx
        · exact e
        · rcases List.mem_cons.1 ((h y).2 (by simp)) with e | hy
          · exact e.symm
          · have := blt_trans (a1 y hy) (b1 x hx)
            rw [blt_irrefl] at this
            cases this
      subst hxy
      rw [ih a2 b2 fun z => ⟨fun hz => ?_, fun hz => ?_⟩]
      · rcases List.mem_cons.1 ((h z).1 (List.mem_cons_of_mem _ hz)) with e | hz'
        · have := a1 z hz
          rw [e, blt_irrefl] at this
          cases this
        · exact hz'
      · rcases List.mem_cons.1 ((h z).2 (List.mem_cons_of_mem _ hz)) with e | hz'
        · have := b1 z hz
          rw [e, blt_irrefl] at this
          cases this
        · exact hz'
theorem srt_one {m : List EnD} (h : Srt m) {k : List UInt8} {v v' : Int} (h1 : (k, v) ∈ m) (h2 : (k, v') ∈ m) : v = v' := by
  induction m with
  | nil => simp at h1
  | cons x r ih =>
    obtain ⟨a1, a2⟩ := List.pairwise_cons.1 h
    rcases List.mem_cons.1 h1 with e1 | h1'
    · rcases List.mem_cons.1 h2 with e2 | h2'
      · rw [← e1] at e2
        injection e2 with _ e2
        exact e2.symm
      · have := a1 _ h2'
        rw [← e1, blt_irrefl] at this
        cases this
    · rcases List.mem_cons.1 h2 with e2 | h2'
      · have := a1 _ h1'
        rw [← e2, blt_irrefl] at this
        cases this
      · exact ih a2 h1' h2'
theorem getE_some {m : List EnD} {k : List UInt8} {v : Int} (h : getE m k = some v) : (k, v) ∈ m := by
  unfold getE at h
  cases hf : m.find? fun e => e.1 == k with
  | none => rw [hf] at h; cases h
  | some p =>
    rw [hf] at h
    simp only [Option.map_some, Option.some.injEq] at h
    have h1 := List.mem_of_find?_eq_some hf
    have h2 : (p.1 == k) = true := List.find?_some (p := fun e : EnD => e.1 == k) hf
    have h3 : p.1 = k := by simpa using h2
    rw [← h, ← h3]
    exact h1
theorem getE_none {m : List EnD} {k : List UInt8} (h : getE m k = none) : hasE m k = false := by
  unfold getE at h
  rw [Option.map_eq_none_iff, List.find?_eq_none] at h
  unfold hasE
  rw [List.any_eq_false]
  exact h
theorem getE_has (m : List EnD) (k : List UInt8) : (getE m k).isSome = hasE m k := by
  cases h : getE m k with
  | none => exact (getE_none h).symm
  | some v => exact (hasE_iff.2 ⟨v, getE_some h⟩).symm
theorem getE_of {m : List EnD} (hm : Srt m) {k : List UInt8} {v : Int} (h : (k, v) ∈ m) : getE m k = some v := by
  cases hg : getE m k with
  | none => have := getE_none hg; rw [hasE_iff.2 ⟨v, h⟩] at this; cases this
  | some u => rw [srt_one hm (getE_some hg) h]
structure Pr where
  add : Bool
  k : List UInt8
  v : Int
def Pr.does (o : Pr) (m : List EnD) : List EnD := if o.add then putE m (o.k, o.v) else delE m o.k
def Pr.undoes (o : Pr) (m : List EnD) : List EnD := if o.add then delE m o.k else putE m (o.k, o.v)
/-- May it be done there? -/
def Pr.ok (o : Pr) (m : List EnD) : Prop := if o.add then hasE m o.k = false else (o.k, o.v) ∈ m
theorem Pr.srt (o : Pr) {m : List EnD} (h : Srt m) : Srt (o.does m) := by
  unfold Pr.does
  split
  · exact h.put _
  · exact h.del _
theorem Pr.back {o : Pr} {m : List EnD} (hm : Srt m) (h : o.ok m) : o.undoes (o.does m) = m := by
  unfold Pr.ok at h
  unfold Pr.undoes Pr.does
  cases ha : o.add with
  | true =>
    rw [ha] at h
    simp only [if_true] at h ⊢
    rw [put_new (x := (o.k, o.v)) h]
    refine srt_ext ((hm.ins h).del _) hm fun x => ?_
    rw [mem_del, mem_ins]
    constructor
    · rintro ⟨rfl | h1, h2⟩
      · exact absurd rfl h2
      · exact h1
    · intro hx
      refine ⟨.inr hx, fun e => ?_⟩
      have := hasE_iff.2 ⟨x.2, show (o.k, x.2) ∈ m by rw [← e]; exact hx⟩
      rw [h] at this
      cases this
  | false =>
    rw [ha] at h
    simp only [Bool.false_eq_true, if_false] at h ⊢
    rw [put_new (x := (o.k, o.v)) (has_del m o.k)]
    refine srt_ext ((hm.del _).ins (x := (o.k, o.v)) (has_del m o.k)) hm fun x => ?_
    rw [mem_ins, mem_del]
    constructor
    · rintro (rfl | h1)
      · exact h
      · exact h1.1
    · intro hx
      by_cases e : x.1 = o.k
      · left
        obtain ⟨a, b⟩ := x
        simp only at e
        subst e
        rw [srt_one hm hx h]
      · exact .inr ⟨hx, e⟩
def runs (m : List EnD) (ops : List Pr) : List EnD := ops.foldl (fun m o => o.does m) m
theorem runs_snoc (m : List EnD) (ops : List Pr) (o : Pr) : runs m (ops ++ [o]) = o.does (runs m ops) := by simp [runs, List.foldl_append]
theorem runs_srt : ∀ {ops : List Pr} {m : List EnD}, Srt m → Srt (runs m ops)
  | [], _, h => h
  | o :: ops, m, h => runs_srt (ops := ops) (m := o.does m) (o.srt h)
/-- Each might be done where it was. -/
def Oks (m : List EnD) (ops : List Pr) : Prop := ∀ (i : Nat) (o : Pr), ops[i]? = some o → o.ok (runs m (ops.take i))
theorem Oks.nil (m : List EnD) : Oks m [] := fun i o h => by simp at h
theorem Oks.snoc {m : List EnD} {ops : List Pr} {o : Pr} (h : Oks m ops) (ho : o.ok (runs m ops)) : Oks m (ops ++ [o]) := by
  intro i p hp
  by_cases hi : i < ops.length
  · rw [List.getElem?_append_left hi] at hp
    rw [List.take_append_of_le_length (by omega)]
    exact h i p hp
  · rw [List.getElem?_append_right (by omega)] at hp
    have hz : i - ops.length = 0 := by
      have := (List.getElem?_eq_some_iff.1 hp).1
      simp at this
      omega
    rw [hz] at hp
    simp only [List.getElem?_cons_zero, Option.some.injEq] at hp
    subst hp
    have hi' : i = ops.length := by omega
    subst hi'
    rw [List.take_append_of_le_length (Nat.le_refl _), List.take_length]
    exact ho
theorem Oks.take {m : List EnD} {ops : List Pr} (h : Oks m ops) (n : Nat) : Oks m (ops.take n) := by
  intro i o ho
  rw [List.getElem?_take] at ho
  split at ho
  · rw [List.take_take, Nat.min_eq_left (by omega)]
    exact h i o ho
  · cases ho
theorem runs_back {m : List EnD} {ops : List Pr} (hm : Srt m) (h : Oks m ops) {i : Nat} {o : Pr} (ho : ops[i]? = some o) : o.undoes (runs m (ops.take (i + 1))) = runs m (ops.take i) := by
  rw [List.take_add_one, ho]
  show o.undoes (runs m (ops.take i ++ [o])) = _
  rw [runs_snoc]
  exact Pr.back (runs_srt hm) (h i o ho)
structure St where
  dur : List EnD
  ops : List Pr
def St.now (s : St) : List EnD := runs s.dur s.ops
structure St.Ok (s : St) : Prop where
  srt : Srt s.dur
  oks : Oks s.dur s.ops
def St.new : St := ⟨[], []⟩
theorem St.new_ok : St.new.Ok := ⟨List.Pairwise.nil, Oks.nil _⟩
def St.addE (s : St) (k : List UInt8) (v : Int) : St := ⟨s.dur, s.ops ++ [⟨true, k, v⟩]⟩
def St.rem (s : St) (k : List UInt8) (v : Int) : St := ⟨s.dur, s.ops ++ [⟨false, k, v⟩]⟩
def St.sync (s : St) : St := ⟨s.now, []⟩
def stay (n : Nat) (keep : Int) : Nat := (min (max keep 0) (n : Int)).toNat
def St.fail (s : St) (keep : Int) : St := ⟨runs s.dur (s.ops.take (stay s.ops.length keep)), []⟩
theorem St.Ok.now {s : St} (h : s.Ok) : Srt s.now := runs_srt h.srt
theorem St.Ok.addE {s : St} (h : s.Ok) {k : List UInt8} (v : Int) (hk : hasE s.now k = false) : (s.addE k v).Ok := ⟨h.srt, h.oks.snoc (o := ⟨true, k, v⟩) hk⟩
theorem St.Ok.rem {s : St} (h : s.Ok) {k : List UInt8} {v : Int} (hk : getE s.now k = some v) : (s.rem k v).Ok := ⟨h.srt, h.oks.snoc (o := ⟨false, k, v⟩) (getE_some hk)⟩
theorem St.Ok.sync {s : St} (h : s.Ok) : s.sync.Ok := ⟨h.now, Oks.nil _⟩
theorem St.Ok.fail {s : St} (h : s.Ok) (keep : Int) : (s.fail keep).Ok := ⟨runs_srt h.srt, Oks.nil _⟩
theorem St.now_add {s : St} {k : List UInt8} {v : Int} (hk : hasE s.now k = false) : (s.addE k v).now = insE (k, v) s.now := by
  show runs s.dur (s.ops ++ [_]) = _
  rw [runs_snoc]
  show putE (runs s.dur s.ops) (k, v) = _
  exact put_new hk
theorem St.now_rem {s : St} {k : List UInt8} {v : Int} : (s.rem k v).now = delE s.now k := by
  show runs s.dur (s.ops ++ [_]) = _
  rw [runs_snoc]
  rfl
theorem St.now_sync {s : St} : s.sync.now = s.now := rfl
theorem stay_le (n : Nat) (keep : Int) : stay n keep ≤ n := by unfold stay; omega
section
variable {H : Type}
def enD (e : EnD) : Lit × DataW H := (.string e.1, .lit (.int .i64 e.2))
/-- What a map that holds these names reads as. -/
def mapD (m : List EnD) : DataW H := .map (m.map enD)
theorem insert_enD (x : EnD) : ∀ m : List EnD, DataW.insert (enD (H := H) x) (m.map enD) = (insE x m).map enD
  | [] => rfl
  | y :: r => by
    rw [List.map_cons]
    unfold DataW.insert insE
    have e : (enD (H := H) x).1.before (enD (H := H) y).1 = blt x.1 y.1 := rfl
    rw [e]
    cases h : blt x.1 y.1
    · simp only [Bool.false_eq_true, if_false, List.map_cons]
      rw [insert_enD x r]
    · simp only [if_true, List.map_cons]
theorem filter_enD (m : List EnD) (k : List UInt8) : ((m.map (enD (H := H))).filter fun p => !p.1.sameKey (.string k)) = (delE m k).map enD := by
  unfold delE
  rw [List.filter_map]
  congr 1
theorem mapD_put (m : List EnD) (x : EnD) : (mapD (H := H) m).put (.string x.1) (.lit (.int .i64 x.2)) = mapD (putE m x) := by
  show DataW.map (DataW.insert (enD x) ((m.map enD).filter fun p => !p.1.sameKey (.string x.1))) = _
  rw [filter_enD, insert_enD]
  rfl
theorem mapD_del (m : List EnD) (k : List UInt8) : (mapD (H := H) m).del (.string k) = mapD (delE m k) := by
  show DataW.map ((m.map enD).filter fun p => !p.1.sameKey (.string k)) = _
  rw [filter_enD]
  rfl
theorem mapD_has (m : List EnD) (k : List UInt8) : Maps.has (mapD (H := H) m) (.string k) = hasE m k := by
  show (m.map enD).any (fun p => p.1.sameKey (.string k)) = _
  rw [List.any_map]
  rfl
theorem mapD_size (m : List EnD) : Maps.size (mapD (H := H) m) = m.length := by
  show (m.map enD).length = _
  simp
theorem mapD_at (m : List EnD) (k : List UInt8) (z : Int) : (mapD (H := H) m).atKey (.string k) (.lit (.int .i64 z)) = .lit (.int .i64 ((getE m k).getD z)) := by
  unfold DataW.atKey mapD getE
  simp only [List.find?_map]
  have e : ((fun p : Lit × DataW H => p.1.sameKey (.string k)) ∘ enD) = fun e : EnD => e.1 == k := rfl
  rw [e]
  cases m.find? (fun e : EnD => e.1 == k) <;> rfl
end
end Go.Proofs.YtbhmnmmockmibaaGreat
