/- does's answer, read. Conditions: none. -/
import Derived.Test.YtdnbflhpgfgnnaaDrX
import Derived.Deep.RegionWith
namespace Go.Proofs.Ytdnbflhpgfgnnaa
open Go.RowKit

theorem ret_two_mid {fn : Func} {R : Ending → World → Prop} {p u z : Tmp} {ty : TypeId} (h : fn.results = #[.tmp u, .cell p ty, .tmp z]) (hty : TwoTy ty) {a : Act} {w : World} (g : Nat) (x y : Value) (t : TypeId) (fr : Nat × Nat)
    (hp : a.tmps.getD p undef = .pointer (some ⟨g, 0, none⟩)) (hg : w.heap[g]? = some (.cells #[x, y] t fr)) (hd : a.defers = []) (hR : R (.returned (.tuple #[a.tmps.getD u undef, .agg #[x, y], a.tmps.getD z undef])) w) : bodyPost Try.prog fn R .ret a w := by
  refine bodyPost_ret (v := .tuple #[a.tmps.getD u undef, .agg #[x, y], a.tmps.getD z undef]) ?_ hd hR
  have hp' : a.tmps[p]?.getD undef = .pointer (some ⟨g, 0, none⟩) := by simpa using hp
  simp [results, h, hp', asAddr, hty w g t x y fr hg]
theorem three_cell {w : World} {g : Nat} {x y z : Value} {T : TypeId} (h : w.heap[g]? = some (.cells #[x, y, z] T (0, 0))) : w.cell? ⟨g, 0, none⟩ = some x ∧ w.cell? ⟨g, 1, none⟩ = some y ∧ w.cell? ⟨g, 2, none⟩ = some z :=
  ⟨by rw [cell_of_row w g 0 _ _ _ h]; rfl, by rw [cell_of_row w g 1 _ _ _ h]; rfl, by rw [cell_of_row w g 2 _ _ _ h]; rfl⟩
theorem sz5 : Sz ([97, 110, 111, 116, 104, 101, 114, 32, 111, 110, 101], 3) := ⟨by decide, by decide⟩
/-- What does says. -/
def DoesQ (w0 : World) (N : Nat) (R : List Rd) (K0 : List (Nat × Obj × Nat)) (e : Ending) (w' : World) : Prop := ∃ g' u s' R', e = .returned (.tuple #[.pointer (some ⟨g', 0, none⟩), u, .bool true]) ∧ Dk w0 w' (N + 1) [(g', s')] R' K0 ∧ RvIn R' u s' ∧ ∀ r ∈ R, r ∈ R'
theorem DoesQ.intro {w0 w' : World} {N : Nat} {R : List Rd} {K0 : List (Nat × Obj × Nat)} {e : Ending} (g' : Nat) (u : Value) (s' : St) (R' : List Rd) (h1 : e = .returned (.tuple #[.pointer (some ⟨g', 0, none⟩), u, .bool true])) (h2 : Dk w0 w' (N + 1) [(g', s')] R' K0) (h3 : RvIn R' u s') (h4 : ∀ r ∈ R, r ∈ R') : DoesQ w0 N R K0 e w' := ⟨g', u, s', R', h1, h2, h3, h4⟩
end Go.Proofs.Ytdnbflhpgfgnnaa
