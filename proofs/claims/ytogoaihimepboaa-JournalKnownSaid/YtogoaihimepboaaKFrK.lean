/- The walks of the statements' own helpers over frames: few, same, sameAll, refs, Pick. Conditions: bodies of at most 2^47 - 4096 bytes. -/
import Derived.Test.YtogoaihimepboaaKFrAll
namespace Go.Proofs.Ytogoaihimepboaa
open Go.RowKit

/-- At most 10 frames, of at most 400 bytes each? -/
def Few (fs : List Fr) : Prop := fs.length ≤ 10 ∧ ∀ f ∈ fs, f.r.l.length ≤ 400
instance (fs : List Fr) : Decidable (Few fs) := inferInstanceAs (Decidable (_ ∧ _))

/-- Pick: a number brought from 0 up to n. -/
theorem pick_num {i : Int} {n : Nat} (hn : 0 < n) : (i.tmod n + n).tmod n = i % n := by
  have h0 : (0 : Int) < n := by omega
  have h1 : 0 ≤ i.tmod n + n := by
    have := Int.lt_tmod_of_pos i h0
    omega
  rw [Int.tmod_eq_emod_of_nonneg h1, Int.add_emod_right]
  rcases Int.lt_or_le i 0 with hi | hi
  · have := Int.tmod_eq_emod (a := i) (b := (n : Int))
    rw [this]
    split
    · simp
    · rw [Int.natAbs_natCast, Int.sub_emod_right, Int.emod_emod]
  · rw [Int.tmod_eq_emod_of_nonneg hi, Int.emod_emod]
theorem pick_any (i : Int) (n : Nat) (w : World) (h0 : 0 < n) (hn : n ≤ 1099511627776) (_ : -9223372036854775808 ≤ i ∧ i ≤ 9223372036854775807) :
    Calls Try.prog 29 #[.int .i64 i, .int .i64 (n : Int)] w fun e w' => e = .returned (.int .i64 (i % n)) ∧ w = w' := by
  have hnI : (n : Int) ≤ 1099511627776 := by omega
  have hn0 : (0 : Int) < (n : Int) := by omega
  have Hp := Lib.hid (pick_num (i := i) h0)
  have h1 := Int.lt_tmod_of_pos i hn0
  have h2 := Int.tmod_lt_of_pos i hn0
  have Hw := Lib.hid (show wrap64 (i.tmod (n : Int) + (n : Int)) = i.tmod (n : Int) + (n : Int) by unfold wrap64; omega)
  clear h1 h2
  go_enter Try.func29, Try.ntmps29
  go_wp2
  go_ret
  exact ⟨ret_int (by rw [Hw.out]; exact Hp.out), rfl⟩

/-- Two frames the same? -/
theorem same_box (f : Fr) (w : World) (t : TypeId) : (w.alloc (.cells #[.int .u8 (f.k.toNat : Int), .slice f.r.A f.r.l.length f.r.c] t)).heap[w.heap.size]? = some (.cells #[.int .u8 (f.k.toNat : Int), .slice f.r.A f.r.l.length f.r.c] t (0, 0)) := heap_alloc_new _ _
end Go.Proofs.Ytogoaihimepboaa
