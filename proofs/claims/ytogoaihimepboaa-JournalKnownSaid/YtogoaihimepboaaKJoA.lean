/- The walks of Of and Next, the project's and the document's. Conditions: bytes of at most 2^40 (Of: 2^47 - 4096). -/
import Derived.Test.YtogoaihimepboaaKJoMath
import Derived.Test.YtogoaihimepboaaKFrF
import Derived.Test.YtogoaihimepboaaKGc
namespace Go.Proofs.Ytogoaihimepboaa
open Go.RowKit

theorem size_rf1 : (Try.prog.info? 25).map (·.size) = some 2 := by kernel_rfl
theorem size_rf2 : (Try.prog.info? 34).map (·.size) = some 2 := by kernel_rfl
theorem rfTy1 : FrTy 25 := fun w g t x y fr hg => run_loadVar_row w g t _ #[x, y] fr _ hg Try.underlying25 rfl size_rf1
theorem rfTy2 : FrTy 34 := fun w g t x y fr hg => run_loadVar_row w g t _ #[x, y] fr _ hg Try.underlying34 rfl size_rf2
theorem ret_cell1 {fn : Func} {R : Ending → World → Prop} {p : Tmp} {ty : TypeId} (h : fn.results = #[.cell p ty]) (hty : FrTy ty) {a : Act} {w : World} (g : Nat) (x y : Value) (t : TypeId) (fr : Nat × Nat)
    (hp : a.tmps.getD p undef = .pointer (some ⟨g, 0, none⟩)) (hg : w.heap[g]? = some (.cells #[x, y] t fr)) (hd : a.defers = []) (hR : R (.returned (.agg #[x, y])) w) : bodyPost Try.prog fn R .ret a w := by
  refine bodyPost_ret (v := .agg #[x, y]) ?_ hd hR
  have hp' : a.tmps[p]?.getD undef = .pointer (some ⟨g, 0, none⟩) := by simpa using hp
  simp [results, h, hp', asAddr, hty w g t x y fr hg]

theorem two_new {w w' : World} {B g : Nat} {x y : Value} {t : TypeId} (u v : Value) (hg : w'.heap[g]? = some (.cells #[x, y] t (0, 0))) (hb : Below B w w') (hB : B ≤ g) :
    ((w'.setCell ⟨g, 0, none⟩ u).setCell ⟨g, 1, none⟩ v).heap[g]? = some (.cells #[u, v] t (0, 0)) ∧ Below B w ((w'.setCell ⟨g, 0, none⟩ u).setCell ⟨g, 1, none⟩ v) :=
  ⟨two_set1 _ (two_set0 _ hg), (hb.setCell (p := ⟨g, 0, none⟩) hB u).setCell (p := ⟨g, 1, none⟩) hB v⟩

/-- A reference, as a value. -/
def rfV (s m : Nat) : Value := .agg #[.int .u64 (s : Int), .int .u64 (m : Int)]
def ofV (l : List UInt8) : Value := rfV l.length (sum l).toNat
theorem sum_u32 (l : List UInt8) : (sum l).toNat ≤ 4294967295 := by have := (sum l).isLt; omega

set_option maxHeartbeats 1000000 in
set_option maxRecDepth 100000 in
theorem of_any (A : Option Addr) (c B n : Nat) (l : List UInt8) (w : World) (hn : l.length = n) (hl : n ≤ 140737488351232) (hB : B ≤ w.heap.size) (hr : RdB w B A l) :
    Calls Try.prog 27 #[.slice A n c] w fun e w' => e = .returned (ofV l) ∧ Below w.heap.size w w' := by
  have hlI : (n : Int) ≤ 140737488351232 := by omega
  have Hl := Lib.hid hl
  have hb1 := (Below.refl w.heap.size w).alloc (Nat.le_refl _) (.cells #[.int .u64 0, .int .u64 0] 25)
  have hr1 : Hid (RdB (w.alloc (.cells #[.int .u64 0, .int .u64 0] 25)) B A l) := Reads.alloc hr hB _
  obtain ⟨S, hS⟩ : ∃ S, (sum l).toNat = S := ⟨_, rfl⟩
  have hs := sum_u32 l
  rw [hS] at hs
  have hsI : (S : Int) ≤ 4294967295 := by omega
  have HS := Lib.hid hS
  have Hn := Lib.hid hn
  have HB := Lib.hid hB
  unfold ofV
  rw [HS.out, Hn.out]
  unfold rfV
  clear hl hr hS hs hn hB
  go_enter Try.func27, Try.ntmps27
  go_wp2_with fail
  refine (sumOne _ (w.heap.size + 1) (by simp) A c n B l Hn.out (by rw [Hn.out]; have := Hl.out; omega) (by have := HB.out; omega) hr1.out S (by rw [HS.out])).mono ?_
  rintro e w2 ⟨rfl, hb2, _⟩
  have hbx : Hid (w2.heap[w.heap.size]? = some (.cells #[.int .u64 0, .int .u64 0] 25 (0, 0))) := (hb2.block w.heap.size (by omega)).trans (heap_alloc_new w _)
  have hbb := hb1.trans (hb2.mono (by omega))
  have Hbx := hbx
  have Hbb := Lib.hid hbb
  clear hbx hb2 hbb hb1
  have hc0 := (two_cells Hbx.out).1
  have hc1 := (two_cells Hbx.out).2
  have hf0 := two_frozen (i := 0) Hbx.out
  have hf1 := two_frozen (i := 1) Hbx.out
  go_wp2
  obtain ⟨h1, h2⟩ := two_new (.int .u64 (n : Int)) (.int .u64 (S : Int)) Hbx.out Hbb.out (Nat.le_refl _)
  exact ret_cell1 rfl rfTy1 w.heap.size _ _ 25 (0, 0) rfl h1 rfl ⟨rfl, h2⟩

set_option maxHeartbeats 1000000 in
set_option maxRecDepth 100000 in
theorem refOf_any (A : Option Addr) (c B n : Nat) (l : List UInt8) (w : World) (hn : l.length = n) (hl : n ≤ 140737488351232) (hB : B ≤ w.heap.size) (hr : RdB w B A l) :
    Calls Try.prog 28 #[.slice A n c] w fun e w' => e = .returned (ofV l) ∧ Below w.heap.size w w' := by
  have hlI : (n : Int) ≤ 140737488351232 := by omega
  have Hl := Lib.hid hl
  have hb1 := (Below.refl w.heap.size w).alloc (Nat.le_refl _) (.cells #[.int .u64 0, .int .u64 0] 34)
  have hr1 : Hid (RdB (w.alloc (.cells #[.int .u64 0, .int .u64 0] 34)) B A l) := Reads.alloc hr hB _
  obtain ⟨S, hS⟩ : ∃ S, (sum l).toNat = S := ⟨_, rfl⟩
  have hs := sum_u32 l
  rw [hS] at hs
  have hsI : (S : Int) ≤ 4294967295 := by omega
  have HS := Lib.hid hS
  have Hn := Lib.hid hn
  have HB := Lib.hid hB
  unfold ofV
  rw [HS.out, Hn.out]
  unfold rfV
  clear hl hr hS hs hn hB
  go_enter Try.func28, Try.ntmps28
  go_wp2_with fail
  refine (refSumOne _ (w.heap.size + 1) (by simp) A c n B l Hn.out (by rw [Hn.out]; have := Hl.out; omega) (by have := HB.out; omega) hr1.out S (by rw [HS.out])).mono ?_
  rintro e w2 ⟨rfl, hb2, _⟩
  have hbx : Hid (w2.heap[w.heap.size]? = some (.cells #[.int .u64 0, .int .u64 0] 34 (0, 0))) := (hb2.block w.heap.size (by omega)).trans (heap_alloc_new w _)
  have hbb := hb1.trans (hb2.mono (by omega))
  have Hbx := hbx
  have Hbb := Lib.hid hbb
  clear hbx hb2 hbb hb1
  have hc0 := (two_cells Hbx.out).1
  have hc1 := (two_cells Hbx.out).2
  have hf0 := two_frozen (i := 0) Hbx.out
  have hf1 := two_frozen (i := 1) Hbx.out
  go_wp2
  obtain ⟨h1, h2⟩ := two_new (.int .u64 (n : Int)) (.int .u64 (S : Int)) Hbx.out Hbb.out (Nat.le_refl _)
  exact ret_cell1 rfl rfTy2 w.heap.size _ _ 34 (0, 0) rfl h1 rfl ⟨rfl, h2⟩

end Go.Proofs.Ytogoaihimepboaa
