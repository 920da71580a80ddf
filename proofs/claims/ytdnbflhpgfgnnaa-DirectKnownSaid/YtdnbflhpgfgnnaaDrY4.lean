/- does: a call of both, number 4. Conditions: at most 900 operations; names of 80 bytes. -/
import Derived.Test.YtdnbflhpgfgnnaaDrYA
namespace Go.Proofs.Ytdnbflhpgfgnnaa
open Go.RowKit

section
variable {w0 w : World} {N g : Nat} {R : List Rd} {s : St} {v : Value} {K0 : List (Nat × Obj × Nat)}
set_option maxHeartbeats 8000000 in
set_option maxRecDepth 100000 in
theorem does4_any (h : Dk w0 w N [(g, s)] R K0) (hK0 : ∀ p ∈ K0, p.2.2 ≠ 99) (hv : RvIn R v s) (hN : N ≤ 900) (a : Ac) (hok : a.Ok) (hb : a.b.length ≤ 80) (h0 : a.k % 6 = 4) :
    Calls Try.prog 10 #[.pointer (some ⟨g, 0, none⟩), v, .agg #[.int .i64 a.k, .string (txt a.b), .int .i64 a.n]] w fun e w' => DoesQ w0 N R K0 e w' := by
  obtain ⟨A, n1, c1, A', n2, c2, rfl⟩ := hv.form
  obtain ⟨bx, hbx⟩ : ∃ b, Hid (w.heap.size = b) := ⟨_, rfl⟩
  obtain ⟨ba, hba⟩ : ∃ b, Hid (w.heap.size + 1 = b) := ⟨_, rfl⟩
  obtain ⟨bz, hbz⟩ : ∃ b, Hid (w.heap.size + 1 + 1 = b) := ⟨_, rfl⟩
  obtain ⟨W1, hW1⟩ : ∃ W, Hid (w.alloc (.cells #[.slice A n1 c1, .slice A' n2 c2] 30) = W) := ⟨_, rfl⟩
  obtain ⟨W2, hW2⟩ : ∃ W, Hid (W1.alloc (.cells #[.int .i64 a.k, .string (txt a.b), .int .i64 a.n] 34) = W) := ⟨_, rfl⟩
  obtain ⟨W, hW⟩ : ∃ W, Hid (W2.alloc (.cells #[.slice none 0 0, .slice none 0 0] 30) = W) := ⟨_, rfl⟩
  have hD := h.cons (w' := W1) w.heap.size (.cells #[.slice A n1 c1, .slice A' n2 c2] 30 (0, 0)) 0 (by rw [← hW1.out]; exact below_new _ _) (by rw [← hW1.out]; exact heap_alloc_new _ _) (Nat.le_refl _) (.inl rfl)
  have hs1 : W1.heap.size = w.heap.size + 1 := by rw [← hW1.out]; simp
  have hD := hD.cons (w' := W2) (w.heap.size + 1) (.cells #[.int .i64 a.k, .string (txt a.b), .int .i64 a.n] 34 (0, 0)) 0 (by rw [← hW2.out]; exact below_new _ _) (by rw [← hW2.out, ← hs1]; exact heap_alloc_new _ _) (by omega) (.inl rfl)
  have hs2 : W2.heap.size = w.heap.size + 1 + 1 := by rw [← hW2.out, World.size_alloc, hs1]
  have hD := hD.cons (w' := W) (w.heap.size + 1 + 1) (.cells #[.slice none 0 0, .slice none 0 0] 30 (0, 0)) 99 (by rw [← hW.out]; exact below_new _ _) (by rw [← hW.out, ← hs2]; exact heap_alloc_new _ _) (by omega) (.inr (by omega))
  rw [hbz.out, hba.out, hbx.out] at hD
  obtain ⟨K, hK⟩ : ∃ K, Hid (K = (bz, Obj.cells #[.slice none 0 0, .slice none 0 0] 30 (0, 0), 99) :: (ba, Obj.cells #[.int .i64 a.k, .string (txt a.b), .int .i64 a.n] 34 (0, 0), 0) :: (bx, Obj.cells #[.slice A n1 c1, .slice A' n2 c2] 30 (0, 0), 0) :: K0) := ⟨_, Lib.hid rfl⟩
  have hKz : Hid ((bz, Obj.cells #[.slice none 0 0, .slice none 0 0] 30 (0, 0), 99) ∈ K) := by rw [hK.out]; exact List.mem_cons_self
  have hKa : Hid ((ba, Obj.cells #[.int .i64 a.k, .string (txt a.b), .int .i64 a.n] 34 (0, 0), 0) ∈ K) := by rw [hK.out]; exact List.mem_cons_of_mem _ List.mem_cons_self
  have hKx : Hid ((bx, Obj.cells #[.slice A n1 c1, .slice A' n2 c2] 30 (0, 0), 0) ∈ K) := by rw [hK.out]; exact List.mem_cons_of_mem _ (List.mem_cons_of_mem _ List.mem_cons_self)
  rw [← hK.out] at hD
  have HD := Lib.hid hD
  have Hg := Lib.hid (h.ds.good (k := 0) rfl)
  have HN := Lib.hid hN
  have Hv := Lib.hid hv
  have Hsz := Lib.hid (Ac.sz hok hb)
  have Hb := Lib.hid hb
  have Hok := Lib.hid hok
  have hKs : Hid (∀ p ∈ K0, p ∈ K ∧ p.2.2 ≠ 99) := fun p hp => ⟨by rw [hK.out]; exact List.mem_cons_of_mem _ (List.mem_cons_of_mem _ (List.mem_cons_of_mem _ hp)), hK0 p hp⟩
  have hKs1 : Hid (∀ q, ∀ p ∈ K0, p ∈ q :: K ∧ p.2.2 ≠ 99) := fun q p hp => ⟨List.mem_cons_of_mem _ (hKs.out p hp).1, (hKs.out p hp).2⟩
  have hcx := two_cells (HD.out.at_ hKx.out)
  have hca := three_cell (HD.out.at_ hKa.out)
  have hmix : Try.prog.follows .mixedOrders = true := by kernel_rfl
  clear hD h hN hv hok hb hs1 hs2 hK0
  go_enter Try.func10, Try.ntmps10
  go_upto_region 1 with fail
  rw [hW1.out, hW2.out, hW.out, hbz.out, hba.out, hbx.out]
  have hn1 := Hok.out.nlo
  have hn2 := Hok.out.nhi
  go_wp2_with (first
    | (go_at_call 16; refine (pick6_any _ _).mono ?_; rintro e w1 ⟨rfl, rfl⟩; rw [h0])
    | (go_at_call 18; refine (fail_dk (k := 0) HD.out rfl (by have := HN.out; omega) a.n hn1 hn2).mono ?_; rintro e w1 ⟨rfl, hD1⟩; have HD1 := Lib.hid hD1; clear hD1; have hcx := two_cells (HD1.out.at_ hKx.out); have hca := three_cell (HD1.out.at_ hKa.out))
    | (go_at_call 28; refine (refFail_dk HD1.out Hv.out Hg.out (by have := HN.out; omega) a.n hn1 hn2).mono ?_; rintro e w2 ⟨u, R1, rfl, hD2, hv1, hr1⟩; obtain ⟨B, m1, d1, B', m2, d2, rfl⟩ := hv1.form; have HD2 := Lib.hid hD2; have Hv1 := Lib.hid hv1; have Hr1 := Lib.hid hr1; clear hD2 hv1 hr1; have hcz4 := two_cells (HD2.out.at_ hKz.out); have fz0 := two_frozen (i := 0) (HD2.out.at_ hKz.out); have fz1 := two_frozen (i := 1) (HD2.out.at_ hKz.out)))
  have g1 := HD2.out.fin (x' := .slice B m1 d1) (y' := .slice B' m2 d2) hKz.out (by omega) hKs.out
  have g2 := g1.at_ List.mem_cons_self
  exact ret_two_mid rfl twoDir bz _ _ _ (0, 0) rfl g2 rfl (DoesQ.intro g _ _ R1 rfl (Dk.weakK (g1.more (by omega)) fun _ hp => List.mem_cons_of_mem _ hp) (Hv1.out) (Hr1.out))
end
end Go.Proofs.Ytdnbflhpgfgnnaa
