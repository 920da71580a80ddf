/- What is used, behind each call; Pick. Conditions: none. -/
import Derived.Test.YtlehkgogcbdckaaInX
namespace Go.Proofs.Ytlehkgogcbdckaa
open Go.RowKit Go.Maps

theorem tmod7_bounds (z : Int) : -6 ≤ z.tmod 7 ∧ z.tmod 7 ≤ 6 ∧ (z.tmod 7 + 7) % 7 = z % 7 := by
  have h0 := Int.mul_tdiv_add_tmod z 7
  rcases Int.le_total 0 z with h | h
  · have := Int.tmod_eq_emod_of_nonneg (b := 7) h
    omega
  · have h1 : z.tmod 7 = -((-z).tmod 7) := by rw [Int.neg_tmod, Int.neg_neg]
    have := Int.tmod_eq_emod_of_nonneg (a := -z) (b := 7) (by omega)
    omega
set_option maxHeartbeats 1000000 in
theorem pick7_any (z : Int) (w : World) :
    Calls Try.prog 8 #[.int .i64 z, .int .i64 7] w fun e w' => e = .returned (.int .i64 (z % 7)) ∧ w' = w := by
  obtain ⟨h1, h2, h3⟩ := tmod7_bounds z
  have H3 := Lib.hid h3
  clear h3
  go_enter Try.func8, Try.ntmps8
  go_wp2
  go_ret
  exact ⟨congrArg (fun x => Ending.returned (.int .i64 x)) H3.out, rfl⟩
section
variable {fs : List Fi} {z q : Int} {l : List UInt8}
theorem used_more (f : Fi) (h : f.m = []) : usedF (fs ++ [f]) = usedF fs := by
  unfold usedF
  rw [sum_append]
  simp [sumF, h, contM]
theorem used_upd {n : Int} {m : List Pt} {f : Fi} (hs : fs.Pairwise fun a b => a.i < b.i) (h : findF fs z = some f) : usedF (updF fs z n m) + (contM f.m).length = usedF fs + (contM m).length := sum_upd (μ := fun f => (contM f.m).length) hs h
theorem used_sync (hs : fs.Pairwise fun a b => a.i < b.i) (h : (usedF fs : Int) ≤ q) : (usedF (doSync fs z).1 : Int) ≤ q := by
  unfold doSync
  cases hf : findF fs z with
  | none => exact h
  | some f =>
    have := used_upd (n := f.n) (m := syncM f.m) hs hf
    rw [contM_sync] at this
    show (usedF (updF fs z f.n (syncM f.m)) : Int) ≤ q
    omega
theorem used_link (hs : fs.Pairwise fun a b => a.i < b.i) (h : (usedF fs : Int) ≤ q) : (usedF (doLink fs z).1 : Int) ≤ q := by
  unfold doLink
  cases hf : findF fs z with
  | none => exact h
  | some f =>
    have := used_upd (n := wrap64 (f.n + 1)) (m := f.m) hs hf
    show (usedF (updF fs z (wrap64 (f.n + 1)) f.m) : Int) ≤ q
    omega
theorem used_leave (fs : List Fi) (z n : Int) : usedF (leaveF fs z n) ≤ usedF fs := by
  unfold leaveF
  split
  · exact sum_rest fs _
  · exact Nat.le_refl _
theorem used_drop (hs : fs.Pairwise fun a b => a.i < b.i) (h : (usedF fs : Int) ≤ q) : (usedF (doDrop fs z).1 : Int) ≤ q := by
  unfold doDrop
  cases hf : findF fs z with
  | none => exact h
  | some f =>
    have h1 := used_upd (n := wrap64 (f.n - 1)) (m := f.m) hs hf
    have h2 := used_leave (updF fs z (wrap64 (f.n - 1)) f.m) z (wrap64 (f.n - 1))
    show (usedF (leaveF (updF fs z (wrap64 (f.n - 1)) f.m) z (wrap64 (f.n - 1))) : Int) ≤ q
    omega
theorem used_app (hs : fs.Pairwise fun a b => a.i < b.i) (h : (usedF fs : Int) ≤ q) : (usedF (doApp q fs z l).1 : Int) ≤ q := by
  unfold doApp
  cases hf : findF fs z with
  | none => exact h
  | some f =>
    simp only
    split
    · exact h
    · have h1 := used_upd (n := f.n) (m := appM f.m l) hs hf
      rw [contM_app, List.length_append] at h1
      show (usedF (updF fs z f.n (appM f.m l)) : Int) ≤ q
      omega
theorem used_fail {names : List En} {keep : List Bool} (h : (usedF fs : Int) ≤ q) : (usedF (failT fs names keep) : Int) ≤ q := by
  have := failT_used names fs keep
  omega
end
/-- The first loop: behind k calls. -/
structure L1 (w : World) (t : Nat) (q : Int) (k : Nat) (made : Nat) (fs : List Fi) (wr : World) : Prop where
  ws : WS w No t q made fs k wr
  used : (usedF fs : Int) ≤ q
section
variable {w wr w' : World} {t k made : Nat} {q : Int} {fs fs' : List Fi}
theorem L1.sort (h : L1 w t q k made fs wr) : fs.Pairwise fun a b => a.i < b.i := (h.ws.ok none).sort
/-- A slice of bools that came in avoids what the call has made. -/
theorem told_in {B : Nat} {A : Option Addr} {l : List Bool} {Y : Nat → Prop} (hr : RdK w B A l) (hB : B ≤ w.heap.size) (hb : Below w.heap.size w wr) : KeX wr (Fr w Y) A l :=
  RdX.of (Reads.below hr (hb.mono hB)) (Nat.le_trans hB hb.size) fun b hb' h => by have := h.1; omega
end
end Go.Proofs.Ytlehkgogcbdckaa
