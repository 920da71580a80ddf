/- The walks of frame.One, and of the document's One. Conditions: bytes of at most 2^40. -/
import Derived.Test.YtogoaihimepboaaKFrR
namespace Go.Proofs.Ytogoaihimepboaa
open Go.RowKit

/-- One's answer: the frame, and the error. -/
def oneF (b : List UInt8) : Fk × Nat := if (takeF b 0).2.2 ≠ 0 then ((0, []), (takeF b 0).2.2) else if (takeF b 0).2.1 < b.length then ((0, []), 11) else ((takeF b 0).1, 0)
/-- One's answer as a value, in a world. -/
def OneVal (base : Nat) (r : Fk × Nat) (e : Ending) (w' : World) : Prop :=
  ∃ v, e = .returned (.tuple #[.agg #[.int .u8 (r.1.1.toNat : Int), v], .int .i64 (r.2 : Nat)]) ∧ w'.ownsRow base 5 1 v r.1.2.length (bs r.1.2)
theorem OneVal.no {base : Nat} {r : Fk × Nat} {w' : World} {e : Nat} (h : r = ((0, []), e)) : OneVal base r (.returned (.tuple #[.agg #[.int .u8 0, .slice none 0 0], .int .i64 (e : Nat)])) w' := by
  subst h
  exact ⟨_, rfl, World.ownsRow_nil _ _ _ _⟩
theorem takeF_next (b : List UInt8) (p : Int) (h : (takeF b p).2.2 = 0) : ∃ N : Nat, (takeF b p).2.1 = (N : Int) ∧ N ≤ b.length := by
  obtain ⟨q, rest, e1, e2, e3, e4, e5⟩ := takeF_ok h
  exact ⟨_, e4, e5⟩

end Go.Proofs.Ytogoaihimepboaa
