/- Texts as lists of bytes: joined, held against one another. Conditions: none. Memory: a struct of eight cells, as a folder's block has it; readings that avoid blocks. Conditions: none. -/
import Derived.Test.YtbhmnmmockmibaaGreatKpMany
import Derived.Test.YtbhmnmmockmibaaGreatKpInM
import Derived.Test.YtbhmnmmockmibaaGreatKpFull
import Derived.Deep.CutRange
import Derived.Lib.SmallJoins
namespace Go.Proofs.YtbhmnmmockmibaaGreat
open Go.RowKit Go.Lib
theorem txt_isEmpty (l : List UInt8) : (txt l).toList.isEmpty = l.isEmpty := by rw [ByteArray.toList_eq]; rfl
theorem txt_toList (s : ByteArray) : txt s.data.toList = s := by
  obtain ⟨⟨l⟩⟩ := s
  rfl
end Go.Proofs.YtbhmnmmockmibaaGreat

namespace Go.Proofs.YtbhmnmmockmibaaGreat
open Go.RowKit
section
variable {w w' : World} {X Y : Nat → Prop}
theorem RdX.both {size n : Nat} {A : Option Addr} {xs : List Value} (h : RdX w X size A n xs) : RdX w (fun b => X b ∨ w.heap.size ≤ b) size A n xs := by
  refine ⟨h.1, fun hn => ?_⟩
  obtain ⟨ad, e, hb, hx, hc⟩ := h.2 hn
  exact ⟨ad, e, hb, fun h => by rcases h with h | h; exact hx h; omega, hc⟩
end
theorem two_cells {w : World} {g : Nat} {x y : Value} {t : TypeId} {fr : Nat × Nat} (hg : w.heap[g]? = some (.cells #[x, y] t fr)) : w.cell? ⟨g, 0, none⟩ = some x ∧ w.cell? ⟨g, 1, none⟩ = some y := by
  rw [cell_of_row w g 0 _ _ _ hg, cell_of_row w g 1 _ _ _ hg]
  exact ⟨rfl, rfl⟩
structure Rs where
  m : Value
  n : Value
  tk : Value
  q : Value
  k : Value
  mp : Value
theorem d_cells {w : World} {g : Nat} {x y a b c d e f : Value} {t : TypeId} {fr : Nat × Nat} (hg : w.heap[g]? = some (.cells #[x, y, a, b, c, d, e, f] t fr)) : w.cell? ⟨g, 0, none⟩ = some x ∧ w.cell? ⟨g, 1, none⟩ = some y := by
  rw [cell_of_row w g 0 _ _ _ hg, cell_of_row w g 1 _ _ _ hg]
  exact ⟨rfl, rfl⟩
theorem f_cells {w : World} {g : Nat} {x y a b c d e f : Value} {t : TypeId} {fr : Nat × Nat} (hg : w.heap[g]? = some (.cells #[x, y, a, b, c, d, e, f] t fr)) : w.cell? ⟨g, 2, none⟩ = some a ∧ w.cell? ⟨g, 3, none⟩ = some b ∧ w.cell? ⟨g, 4, none⟩ = some c := by
  rw [cell_of_row w g 2 _ _ _ hg, cell_of_row w g 3 _ _ _ hg, cell_of_row w g 4 _ _ _ hg]
  exact ⟨rfl, rfl, rfl⟩
theorem d_frozen {w : World} {g i : Nat} {cs : Array Value} {t : TypeId} (hg : w.heap[g]? = some (.cells cs t (0, 0))) : w.frozen? ⟨g, i, none⟩ = false := by simp [World.frozen?, hg]
section
variable {w : World} {g : Nat} {x y a b c d e f : Value} {t : TypeId} (u : Value) (hg : w.heap[g]? = some (.cells #[x, y, a, b, c, d, e, f] t (0, 0)))
include hg
theorem d_set0 : (w.setCell ⟨g, 0, none⟩ u).heap[g]? = some (.cells #[u, y, a, b, c, d, e, f] t (0, 0)) := by rw [heap_setCell_same w g 0 _ t u hg]; rfl
theorem d_set1 : (w.setCell ⟨g, 1, none⟩ u).heap[g]? = some (.cells #[x, u, a, b, c, d, e, f] t (0, 0)) := by rw [heap_setCell_same w g 1 _ t u hg]; rfl
theorem f_set3 : (w.setCell ⟨g, 3, none⟩ u).heap[g]? = some (.cells #[x, y, a, u, c, d, e, f] t (0, 0)) := by rw [heap_setCell_same w g 3 _ t u hg]; rfl
theorem f_set4 : (w.setCell ⟨g, 4, none⟩ u).heap[g]? = some (.cells #[x, y, a, b, u, d, e, f] t (0, 0)) := by rw [heap_setCell_same w g 4 _ t u hg]; rfl
end
end Go.Proofs.YtbhmnmmockmibaaGreat
