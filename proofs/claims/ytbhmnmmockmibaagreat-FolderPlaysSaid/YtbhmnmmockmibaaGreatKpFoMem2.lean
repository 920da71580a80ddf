/- A struct of two cells. Conditions: none. -/
import Derived.Test.YtbhmnmmockmibaaGreatKpFoMem
namespace Go.Proofs.YtbhmnmmockmibaaGreat
open Go.RowKit
theorem two_frozen {w : World} {g i : Nat} {x y : Value} {t : TypeId} (hg : w.heap[g]? = some (.cells #[x, y] t (0, 0))) : w.frozen? ⟨g, i, none⟩ = false := by simp [World.frozen?, hg]
theorem two_set0 {w : World} {g : Nat} {x y : Value} {t : TypeId} (u : Value) (hg : w.heap[g]? = some (.cells #[x, y] t (0, 0))) : (w.setCell ⟨g, 0, none⟩ u).heap[g]? = some (.cells #[u, y] t (0, 0)) := by
  rw [heap_setCell_same w g 0 _ t u hg]
  rfl
theorem two_set1 {w : World} {g : Nat} {x y : Value} {t : TypeId} (u : Value) (hg : w.heap[g]? = some (.cells #[x, y] t (0, 0))) : (w.setCell ⟨g, 1, none⟩ u).heap[g]? = some (.cells #[x, u] t (0, 0)) := by
  rw [heap_setCell_same w g 1 _ t u hg]
  rfl
end Go.Proofs.YtbhmnmmockmibaaGreat
