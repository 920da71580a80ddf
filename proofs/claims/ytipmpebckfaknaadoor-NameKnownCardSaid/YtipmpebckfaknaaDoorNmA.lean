/- Names as values: what the document says of them; the walks of the small functions on them. Conditions: numbers below 2^64. -/
import Derived.Test.YtipmpebckfaknaaDoorBase
namespace Go.Proofs.YtipmpebckfaknaaDoor
open Go.RowKit

/-- A Name. -/
structure Nm where
  k : Nat
  d : Nat
  n : Nat
  p : Nat
  i : Nat
  c : Nat
  deriving DecidableEq, Inhabited
def Nm.cells (x : Nm) : List Value := [.int .u8 (x.k : Int), .int .u64 (x.d : Int), .int .u64 (x.n : Int), .int .u64 (x.p : Int), .int .u64 (x.i : Int), .int .u64 (x.c : Int)]
def Nm.v (x : Nm) : Value := .agg #[.int .u8 (x.k : Int), .int .u64 (x.d : Int), .int .u64 (x.n : Int), .int .u64 (x.p : Int), .int .u64 (x.i : Int), .int .u64 (x.c : Int)]
/-- Its parts fit. -/
structure Nm.Ok (x : Nm) : Prop where
  k : x.k < 256
  d : x.d < 18446744073709551616
  n : x.n < 18446744073709551616
  p : x.p < 18446744073709551616
  i : x.i < 18446744073709551616
  c : x.c < 18446744073709551616
def Nm.zero : Nm := ⟨0, 0, 0, 0, 0, 0⟩

theorem Nm.Ok.zero : Nm.Ok Nm.zero := ⟨by decide, by decide, by decide, by decide, by decide, by decide⟩
theorem Nm.v_inj {x y : Nm} (h : x.v = y.v) : x = y := by
  obtain ⟨k, d, n, p, i, c⟩ := x
  obtain ⟨k', d', n', p', i', c'⟩ := y
  simp only [Nm.v, Value.agg.injEq, Array.mk.injEq, List.cons.injEq, Value.int.injEq, true_and, and_true] at h
  obtain ⟨h1, h2, h3, h4, h5, h6⟩ := h
  simp only [Nm.mk.injEq]
  omega

/-! ### answers that lie in a block -/
/-- A variable of this type, of so many cells, reads as its cells. -/
def AggTy (ty : TypeId) (m : Nat) : Prop := ∀ (w : World) (g : Nat) (t : TypeId) (cs : Array Value) (fr : Nat × Nat), cs.size = m → w.heap[g]? = some (.cells cs t fr) → (loadVar ty ⟨g, 0, none⟩).run Tryd.prog w = .ok (.agg cs) w
theorem size_nm : (Tryd.prog.info? 24).map (·.size) = some 6 := by kernel_rfl
theorem size_rnm : (Tryd.prog.info? 25).map (·.size) = some 6 := by kernel_rfl
theorem size_four : (Tryd.prog.info? 53).map (·.size) = some 4 := by kernel_rfl
theorem nmTy : AggTy 24 6 := fun w g t cs fr hs hg => run_loadVar_row w g t _ cs fr _ hg Tryd.underlying24 rfl (by rw [hs]; exact size_nm)
theorem rnmTy : AggTy 25 6 := fun w g t cs fr hs hg => run_loadVar_row w g t _ cs fr _ hg Tryd.underlying25 rfl (by rw [hs]; exact size_rnm)
theorem fourTy : AggTy 53 4 := fun w g t cs fr hs hg => run_loadVar_row w g t _ cs fr _ hg Tryd.underlying53 rfl (by rw [hs]; exact size_four)
theorem ret_agg {fn : Func} {R : Ending → World → Prop} {p : Tmp} {ty : TypeId} {m : Nat} (h : fn.results = #[.cell p ty]) (hty : AggTy ty m) {a : Act} {w : World} (g : Nat) (cs : Array Value) (t : TypeId) (fr : Nat × Nat) (hm : cs.size = m)
    (hp : a.tmps.getD p undef = .pointer (some ⟨g, 0, none⟩)) (hg : w.heap[g]? = some (.cells cs t fr)) (hd : a.defers = []) (hR : R (.returned (.agg cs)) w) : bodyPost Tryd.prog fn R .ret a w := by
  refine bodyPost_ret (v := .agg cs) ?_ hd hR
  have hp' : a.tmps[p]?.getD undef = .pointer (some ⟨g, 0, none⟩) := by simpa using hp
  simp [results, h, hp', asAddr, hty w g t cs fr hm hg]
theorem ret_agg2 {fn : Func} {R : Ending → World → Prop} {p u : Tmp} {ty : TypeId} {m : Nat} (h : fn.results = #[.cell p ty, .tmp u]) (hty : AggTy ty m) {a : Act} {w : World} (g : Nat) (cs : Array Value) (t : TypeId) (fr : Nat × Nat) (hm : cs.size = m)
    (hp : a.tmps.getD p undef = .pointer (some ⟨g, 0, none⟩)) (hg : w.heap[g]? = some (.cells cs t fr)) (hd : a.defers = []) (hR : R (.returned (.tuple #[.agg cs, a.tmps.getD u undef])) w) : bodyPost Tryd.prog fn R .ret a w := by
  refine bodyPost_ret (v := .tuple #[.agg cs, a.tmps.getD u undef]) ?_ hd hR
  have hp' : a.tmps[p]?.getD undef = .pointer (some ⟨g, 0, none⟩) := by simpa using hp
  simp [results, h, hp', asAddr, hty w g t cs fr hm hg]
theorem heap_alloc_2 (w : World) (x y : Obj) : ((w.alloc x).alloc y).heap[w.heap.size + 1]? = some y := by
  have := heap_alloc_new (w.alloc x) y
  simpa using this
theorem below_new (w : World) (x : Obj) : Below w.heap.size w (w.alloc x) := (Below.refl _ w).alloc (Nat.le_refl _) x
theorem below_new2 (w : World) (x y : Obj) : Below w.heap.size w ((w.alloc x).alloc y) := (below_new w x).alloc (by simp) y

/-! ### the small functions -/
/-- ref: the same Name. -/
theorem ref_any (x : Nm) (w : World) : Calls Tryd.prog 9 #[x.v] w fun e w' => e = .returned x.v ∧ Below w.heap.size w w' := by
  obtain ⟨k, d, n, p, i, c⟩ := x
  unfold Nm.v
  simp only
  go_enter Tryd.func9, Tryd.ntmps9
  go_wp2
  exact ret_agg rfl rnmTy (w.heap.size + 1) _ _ (0, 0) rfl rfl (heap_alloc_2 _ _ _) rfl ⟨rfl, below_new2 _ _ _⟩

/-- The Name of a kind that tells of these numbers. -/
def madeOf (k a b c d : Nat) : Nm :=
  if k = 1 ∨ k = 2 then ⟨k, a, b, 0, 0, 0⟩ else if k = 3 then ⟨k, 0, 0, a, b, c⟩ else if k = 4 then ⟨k, a, 0, b, c, d⟩ else Nm.zero
def four (a b c d : Nat) : Value := .agg #[.int .u64 (a : Int), .int .u64 (b : Int), .int .u64 (c : Int), .int .u64 (d : Int)]
theorem madeOf_two {k a b c d : Nat} (h : k = 1 ∨ k = 2) : madeOf k a b c d = ⟨k, a, b, 0, 0, 0⟩ := if_pos h
theorem madeOf_3 {k a b c d : Nat} (h : k = 3) : madeOf k a b c d = ⟨k, 0, 0, a, b, c⟩ := by
  subst h; rfl
theorem madeOf_4 {k a b c d : Nat} (h : k = 4) : madeOf k a b c d = ⟨k, a, 0, b, c, d⟩ := by
  subst h; rfl
theorem madeOf_no {k a b c d : Nat} (h1 : k ≠ 1) (h2 : k ≠ 2) (h3 : k ≠ 3) (h4 : k ≠ 4) : madeOf k a b c d = Nm.zero := by
  unfold madeOf
  rw [if_neg (by omega), if_neg h3, if_neg h4]
theorem made_any (k a b c d : Nat) (w : World) : Calls Tryd.prog 25 #[.int .u8 (k : Int), four a b c d] w fun e w' => e = .returned (madeOf k a b c d).v ∧ Below w.heap.size w w' := by
  unfold four
  go_enter Tryd.func25, Tryd.ntmps25
  go_wp2
  all_goals
    refine ret_agg rfl nmTy (w.heap.size + 1) _ _ (0, 0) rfl rfl (heap_alloc_2 _ _ _) rfl ⟨?_, below_new2 _ _ _⟩
    simp only [beq_iff_eq, beq_eq_false_iff_ne, ne_eq] at *
    first
      | (rw [madeOf_two (by omega)]; rfl)
      | (rw [madeOf_3 (by omega)]; rfl)
      | (rw [madeOf_4 (by omega)]; rfl)
      | (rw [madeOf_no (by omega) (by omega) (by omega) (by omega)]; rfl)

/-- The numbers of which a Name's kind tells, behind them noughts. -/
def fourOf (x : Nm) : Value :=
  if x.k = 1 ∨ x.k = 2 then four x.d x.n 0 0 else if x.k = 3 then four x.p x.i x.c 0 else if x.k = 4 then four x.d x.p x.i x.c else four 0 0 0 0
theorem fourOf_no {x : Nm} (h1 : x.k ≠ 1) (h2 : x.k ≠ 2) (h3 : x.k ≠ 3) (h4 : x.k ≠ 4) : fourOf x = four 0 0 0 0 := by
  unfold fourOf
  rw [if_neg (by omega), if_neg h3, if_neg h4]
theorem numbers_any (x : Nm) (w : World) : Calls Tryd.prog 26 #[x.v] w fun e w' => e = .returned (fourOf x) ∧ Below w.heap.size w w' := by
  obtain ⟨k, d, n, p, i, c⟩ := x
  unfold Nm.v
  simp only
  go_enter Tryd.func26, Tryd.ntmps26
  go_wp2
  all_goals
    refine ret_agg rfl fourTy (w.heap.size + 1) _ _ (0, 0) rfl rfl (heap_alloc_2 _ _ _) rfl ⟨?_, below_new2 _ _ _⟩
    simp only [beq_iff_eq, beq_eq_false_iff_ne, ne_eq] at *
    first
      | (unfold fourOf; rw [if_pos (show k = 1 ∨ k = 2 by omega)]; rfl)
      | (obtain rfl : k = 3 := by omega
         rfl)
      | (obtain rfl : k = 4 := by omega
         rfl)
      | (rw [fourOf_no (by simp only; omega) (by simp only; omega) (by simp only; omega) (by simp only; omega)]; rfl)
end Go.Proofs.YtipmpebckfaknaaDoor
