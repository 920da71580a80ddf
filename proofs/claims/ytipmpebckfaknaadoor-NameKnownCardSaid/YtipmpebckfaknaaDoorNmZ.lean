/- How long a Name's text is. Conditions: parts that fit. -/
import Derived.Test.YtipmpebckfaknaaDoorNmY
namespace Go.Proofs.YtipmpebckfaknaaDoor
open Go.RowKit Go.Lib

theorem letterOf_le (k : Nat) : (letterOf k).length ≤ 1 := by
  unfold letterOf
  repeat' split
  all_goals simp
theorem putOf_le (x : Nm) (hx : x.Ok) : (putOf x).length ≤ 90 := by
  unfold putOf
  split
  · have h := put_le (L := letterOf x.k) (k := 4) hx (letterOf_le _) (Nat.le_refl _)
    rwa [List.take_of_length_le (nums_le x)] at h
  · simp
end Go.Proofs.YtipmpebckfaknaaDoor
