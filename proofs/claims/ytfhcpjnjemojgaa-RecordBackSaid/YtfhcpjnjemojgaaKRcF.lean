/- A record in a block of its own; what a call may have changed; the walks of the eraser's methods. Conditions: none. -/
import Derived.Test.YtfhcpjnjemojgaaKRcE
namespace Go.Proofs.Ytfhcpjnjemojgaa
open Go.RowKit Go.Lib

/-- Below B nothing has changed but these blocks. -/
structure But (B : Nat) (S : List Nat) (w w' : World) : Prop where
  os : w'.os = w.os
  tape : w'.tape = w.tape
  output : w'.output = w.output
  size : w.heap.size ≤ w'.heap.size
  block : ∀ k, k < B → k ∉ S → w'.heap[k]? = w.heap[k]?
theorem But.refl (B : Nat) (S : List Nat) (w : World) : But B S w w := ⟨rfl, rfl, rfl, Nat.le_refl _, fun _ _ _ => rfl⟩
theorem But.trans {B : Nat} {S : List Nat} {a b c : World} (h : But B S a b) (k : But B S b c) : But B S a c :=
  ⟨k.os.trans h.os, k.tape.trans h.tape, k.output.trans h.output, Nat.le_trans h.size k.size, fun i hi hn => (k.block i hi hn).trans (h.block i hi hn)⟩
theorem But.mono {B B' : Nat} {S S' : List Nat} {a b : World} (h : But B S a b) (hB : B' ≤ B) (hS : ∀ k ∈ S, k < B' → k ∈ S') : But B' S' a b :=
  ⟨h.os, h.tape, h.output, h.size, fun i hi hn => h.block i (by omega) (fun hm => hn (hS i hm hi))⟩
theorem But.below {B B' : Nat} {S : List Nat} {a b : World} (h : But B S a b) (hB : B' ≤ B) (hS : ∀ k ∈ S, B' ≤ k) : Below B' a b :=
  ⟨h.os, h.tape, h.output, h.size, fun i hi => h.block i (by omega) (fun hm => by have := hS i hm; omega)⟩
theorem But.of {B : Nat} {S : List Nat} {a b : World} (h : Below B a b) : But B S a b := ⟨h.os, h.tape, h.output, h.size, fun i hi _ => h.block i hi⟩
theorem But.alloc {B : Nat} {S : List Nat} {a b : World} (h : But B S a b) (hB : B ≤ b.heap.size) (o : Obj) : But B S a (b.alloc o) :=
  ⟨h.os, h.tape, h.output, by have := h.size; simp; omega, fun i hi hn => (heap_alloc_old b o (by omega)).trans (h.block i hi hn)⟩
theorem But.drew {B : Nat} {S : List Nat} {a b : World} (h : But B S a b) : But B S a b.drew := ⟨h.os, h.tape, h.output, h.size, h.block⟩
theorem But.setRow {B : Nat} {S : List Nat} {a b : World} (h : But B S a b) {g : Nat} (hg : g ∈ S ∨ B ≤ g) (cs : Array Value) : But B S a (b.setRow g cs) :=
  ⟨h.os, h.tape, h.output, by rw [size_setRow]; exact h.size, fun i hi hn => (setRow_other b g i cs (by rintro rfl; rcases hg with hg | hg; exact hn hg; omega)).trans (h.block i hi hn)⟩
/-- A record, in a block of its own. -/
def RecAt (x : Rc) (w : World) (g : Nat) : Prop := w.heap[g]? = some (.cells x.cells.toArray 24 (0, 0))
theorem RecAt.lt {x : Rc} {w : World} {g : Nat} (h : RecAt x w g) : g < w.heap.size := (Array.getElem?_eq_some_iff.1 h).1
theorem RecAt.cell {x : Rc} {w : World} {g : Nat} (h : RecAt x w g) (i : Nat) : w.cell? ⟨g, i, none⟩ = x.cells[i]? := by
  have := cell_of_row w g i _ _ _ h
  simpa using this
theorem cells_num (x : Rc) {j : Nat} (hj : j < 9) : x.cells[j + 1]? = some (.int .u64 (x.num j : Int)) := by
  match j, hj with
  | 0, _ | 1, _ | 2, _ | 3, _ | 4, _ | 5, _ | 6, _ | 7, _ | 8, _ => rfl
theorem cells_txt (x : Rc) {j : Nat} (hj : 9 ≤ j ∧ j ≤ 10) : x.cells[j + 1]? = some (.string (txt (x.tx j))) := by
  obtain rfl | rfl : j = 9 ∨ j = 10 := by omega
  · rfl
  · rfl
theorem RecAt.setN {x : Rc} {w : World} {g j : Nat} (h : RecAt x w g) (hj : j < 9) (m : Nat) : RecAt (x.setN j m) (w.setCell ⟨g, j + 1, none⟩ (.int .u64 (m : Int))) g := by
  rw [setCell_eq_setRow w g (j + 1) _ _ _ _ h]
  have := setRow_heap w g _ (x.cells.toArray.setIfInBounds (j + 1) (.int .u64 (m : Int))) _ _ h
  unfold RecAt
  rw [this]
  congr 2
  match j, hj with
  | 0, _ | 1, _ | 2, _ | 3, _ | 4, _ | 5, _ | 6, _ | 7, _ | 8, _ => rfl
theorem RecAt.setT {x : Rc} {w : World} {g j : Nat} (h : RecAt x w g) (hj : 9 ≤ j ∧ j ≤ 10) (l : List UInt8) : RecAt (x.setT j l) (w.setCell ⟨g, j + 1, none⟩ (.string (txt l))) g := by
  rw [setCell_eq_setRow w g (j + 1) _ _ _ _ h]
  have := setRow_heap w g _ (x.cells.toArray.setIfInBounds (j + 1) (.string (txt l))) _ _ h
  unfold RecAt
  rw [this]
  congr 2
  obtain rfl | rfl : j = 9 ∨ j = 10 := by omega
  · rfl
  · rfl
theorem but_setCell {B : Nat} {S : List Nat} {a b : World} (h : But B S a b) {p : Addr} (hg : p.block ∈ S ∨ B ≤ p.block) (u : Value) : But B S a (b.setCell p u) :=
  ⟨h.os, h.tape, h.output, by have := h.size; simpa [World.setCell] using this, fun i hi hn => (Below.heap_setCell b p u i (by rintro rfl; rcases hg with hg | hg; exact hn hg; omega)).trans (h.block i hi hn)⟩
theorem RecAt.alloc {x : Rc} {w : World} {g : Nat} (h : RecAt x w g) (o : Obj) : RecAt x (w.alloc o) g := (heap_alloc_old w o h.lt).trans h
theorem RecAt.frozen {x : Rc} {w : World} {g : Nat} (h : RecAt x w g) (i : Nat) : w.frozen? ⟨g, i, none⟩ = false := frozen_of_row w g i _ _ h
theorem but_store (w : World) (g i : Nat) (u : Value) (o : Obj) : But w.heap.size [g] w ((w.setCell ⟨g, i, none⟩ u).alloc o) :=
  (but_setCell (But.refl w.heap.size [g] w) (p := ⟨g, i, none⟩) (.inl (List.mem_singleton.2 rfl)) u).alloc (by simp [World.setCell]) o

theorem eraNum_any (x : Rc) {j : Nat} (hj : j < 9) (g : Nat) (w : World) (h : RecAt x w g) :
    Calls Try.prog 87 #[.agg #[], .pointer (some ⟨g, j + 1, none⟩)] w fun e w' => e = .returned (.int .i64 0) ∧ RecAt (x.setN j 0) w' g ∧ But w.heap.size [g] w w' := by
  have hc := (h.cell (j + 1)).trans (cells_num x hj)
  have hf := h.frozen (j + 1)
  have hlt := h.lt
  go_enter Try.func87, Try.ntmps87
  go_wp2
  go_ret
  exact ⟨rfl, (h.setN hj 0).alloc _, but_store _ _ _ _ _⟩
theorem empty_txt : (txt []).toList = [] := by rw [ByteArray.toList_eq]; rfl
theorem full_txt {l : List UInt8} (h : l ≠ []) : ¬ (txt l).toList = [] := by rw [ByteArray.toList_eq]; exact h
theorem eraTxt_any (x : Rc) {j : Nat} (hj : 9 ≤ j ∧ j ≤ 10) (g : Nat) (w : World) (h : RecAt x w g) :
    Calls Try.prog 88 #[.agg #[], .pointer (some ⟨g, j + 1, none⟩)] w fun e w' => e = .returned (.int .i64 ((eraP x j).2 : Nat)) ∧ RecAt (eraP x j).1 w' g ∧ But w.heap.size [g] w w' := by
  have hc := (h.cell (j + 1)).trans (cells_txt x hj)
  have hf := h.frozen (j + 1)
  have hlt := h.lt
  have hb := (But.refl w.heap.size [g] w).alloc (Nat.le_refl _) (.cells #[] 89)
  unfold eraP
  rw [if_neg (by omega)]
  by_cases h0 : x.tx j = []
  · rw [if_pos (.inl (by rw [h0]; rfl))]
    rw [h0] at hc
    have he := empty_txt
    have he' : (txt []).toList.isEmpty = true := by rw [he]; rfl
    go_enter Try.func88, Try.ntmps88
    go_wp2
    go_ret
    exact ⟨rfl, h.alloc _, hb⟩
  · have he := full_txt h0
    have he' : (txt (x.tx j)).toList.isEmpty = false := by
      rw [Bool.eq_false_iff]
      intro h1
      exact he (List.isEmpty_iff.1 h1)
    have hz := txt_size (x.tx j)
    by_cases h64 : 64 < (x.tx j).length
    · have hz' : 64 < ((txt (x.tx j)).size : Int) := by omega
      rw [if_pos (.inr h64)]
      generalize txt (x.tx j) = s at hc he he' hz' 
      clear hz
      go_enter Try.func88, Try.ntmps88
      go_wp2
      go_ret
      exact ⟨rfl, h.alloc _, hb⟩
    · have hz' : ((txt (x.tx j)).size : Int) ≤ 64 := by omega
      rw [if_neg (by rintro (h | h); exact h0 (List.eq_nil_of_length_eq_zero h); exact h64 h)]
      generalize txt (x.tx j) = s at hc he he' hz'
      clear hz
      go_enter Try.func88, Try.ntmps88
      go_wp2
      go_ret
      exact ⟨rfl, (h.setT hj []).alloc _, but_store _ _ _ _ _⟩
end Go.Proofs.Ytfhcpjnjemojgaa
