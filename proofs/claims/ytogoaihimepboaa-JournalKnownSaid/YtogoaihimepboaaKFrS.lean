/- The walks of sameAll and refs. Conditions: bodies of at most 2^47 - 4096 bytes; at most 2^40 frames. -/
import Derived.Test.YtogoaihimepboaaKFrK
import Derived.Deep.RegionHeld3
namespace Go.Proofs.Ytogoaihimepboaa
open Go.RowKit

theorem not_false_bool {b : Bool} (h : b = true) : (!b) = false := by rw [h]; rfl

end Go.Proofs.Ytogoaihimepboaa
