/- does: a call of both, number 2. Conditions: at most 900 operations; names of 80 bytes. -/
import Derived.Test.YtdnbflhpgfgnnaaDrYA
namespace Go.Proofs.Ytdnbflhpgfgnnaa
open Go.RowKit

section
variable {w0 w : World} {N g : Nat} {R : List Rd} {s : St} {v : Value} {K0 : List (Nat × Obj × Nat)}
set_option maxHeartbeats 8000000 in
set_option maxRecDepth 100000 in
theorem does2_any (h : Dk w0 w N [(g, s)] R K0) (hK0 : ∀ p ∈ K0, p.2.2 ≠ 99) (hv : RvIn R v s) (hN : N ≤ 900) (a : Ac) (hok : a.Ok) (hb : a.b.length ≤ 80) (h0 : a.k % 6 = 2) :
    Calls Try.prog 10 #[.pointer (some ⟨g, 0, none⟩), v, .agg #[.int .i64 a.k, .string (txt a.b), .int .i64 a.n]] w fun e w' => DoesQ w0 N R K0 e w' := by
  obtain ⟨A, n1, c1, A', n2, c2, rfl⟩ := hv.form
  obtain ⟨bx, hbx⟩ : ∃ b, Hid (w.heap.size = b) := ⟨_, rfl⟩
  obtain ⟨ba, hba⟩ : ∃ b, Hid (w.heap.size + 1 = b) := ⟨_, rfl⟩
  obtain ⟨bz, hbz⟩ : ∃ b, Hid (w.heap.size + 1 + 1 = b) := ⟨_, rfl⟩
  obtain ⟨W1, hW1⟩ : ∃ W, Hid (w.alloc (.cells #[.slice A n1 c1, .slice A' n2 c2] 30) = W) := ⟨_, rfl⟩
  obtain ⟨W2, hW2⟩ : ∃ W, Hid (W1.alloc (.cells #[.int .i64 a.k, .string (txt a.b), .int .i64 a.n] 34) = W) := ⟨_, rfl⟩
  obtain ⟨W, hW⟩ : ∃ W, Hid (W2.alloc (.cells #[.slice none 0 0, .slice none 0 0] 30) = W) := ⟨_, rfl⟩
  have hD := h.cons (w' := W1) w.heap.size (.cells #[.slice A n1 c1, .slice A' n2 c2] 30 (0, 0)) 0 (by rw [← hW1.out]; exact below_new _ _) (by rw [← hW1.out]; exact heap_alloc_new _ _) (Nat.le_refl _) (.inl rfl)
  have hs1 : W1.heap.size = w.heap.size + 1 := by rw [← hW1.out]; simp
  have hD := hD.cons (w' := W2) (w.heap.size + 1) (.cells #[.int .i64 a.k, .string (txt a.b), .int .i64 a.n] 34 (0, 0)) 0 (by rw [← hW2.out]; exact below_new _ _) (by rw [← hW2.out, ← hs1]; exact heap_alloc_new _ _) (by omega) (.inl rfl)
  have hs2 : W2.heap.size = w.heap.size + 1 + 1 := by rw [← hW2.out, World.size_alloc, hs1]
  have hD := hD.cons (w' := W) (w.heap.size + 1 + 1) (.cells #[.slice none 0 0, .slice none 0 0] 30 (0, 0)) 99 (by rw [← hW.out]; exact below_new _ _) (by rw [← hW.out, ← hs2]; exact heap_alloc_new _ _) (by omega) (.inr (by omega))
  rw [hbz.out, hba.out, hbx.out] at hD
  obtain ⟨K, hK⟩ : ∃ K, Hid (K = (bz, Obj.cells #[.slice none 0 0, .slice none 0 0] 30 (0, 0), 99) :: (ba, Obj.cells #[.int .i64 a.k, .string (txt a.b), .int .i64 a.n] 34 (0, 0), 0) :: (bx, Obj.cells #[.slice A n1 c1, .slice A' n2 c2] 30 (0, 0), 0) :: K0) := ⟨_, Lib.hid rfl⟩
  have hKz : Hid ((bz, Obj.cells #[.slice none 0 0, .slice none 0 0] 30 (0, 0), 99) ∈ K) := by rw [hK.out]; exact List.mem_cons_self
  have hKa : Hid ((ba, Obj.cells #[.int .i64 a.k, .string (txt a.b), .int .i64 a.n] 34 (0, 0), 0) ∈ K) := by rw [hK.out]; exact List.mem_cons_of_mem _ List.mem_cons_self
  have hKx : Hid ((bx, Obj.cells #[.slice A n1 c1, .slice A' n2 c2] 30 (0, 0), 0) ∈ K) := by rw [hK.out]; exact List.mem_cons_of_mem _ (List.mem_cons_of_mem _ List.mem_cons_self)
  rw [← hK.out] at hD
  have HD := Lib.hid hD
  have Hg := Lib.hid (h.ds.good (k := 0) rfl)
  have HN := Lib.hid hN
  have Hv := Lib.hid hv
  have Hsz := Lib.hid (Ac.sz hok hb)
  have Hb := Lib.hid hb
  have Hok := Lib.hid hok
  have hKs : Hid (∀ p ∈ K0, p ∈ K ∧ p.2.2 ≠ 99) := fun p hp => ⟨by rw [hK.out]; exact List.mem_cons_of_mem _ (List.mem_cons_of_mem _ (List.mem_cons_of_mem _ hp)), hK0 p hp⟩
  have hKs1 : Hid (∀ q, ∀ p ∈ K0, p ∈ q :: K ∧ p.2.2 ≠ 99) := fun q p hp => ⟨List.mem_cons_of_mem _ (hKs.out p hp).1, (hKs.out p hp).2⟩
  have hcx := two_cells (HD.out.at_ hKx.out)
  have hca := three_cell (HD.out.at_ hKa.out)
  have hmix : Try.prog.follows .mixedOrders = true := by kernel_rfl
  clear hD h hN hv hok hb hs1 hs2 hK0
  go_enter Try.func10, Try.ntmps10
  go_upto_region 1 with fail
  rw [hW1.out, hW2.out, hW.out, hbz.out, hba.out, hbx.out]
  obtain ⟨z, hz⟩ : ∃ z, Hid ((getE s.now a.b).getD 0 = z) := ⟨_, rfl⟩
  obtain ⟨y, hy⟩ : ∃ y, Hid (hasE s.now a.b = y) := ⟨_, rfl⟩
  go_upto_region 12 with (first
    | (go_at_call 16; refine (pick6_any _ _).mono ?_; rintro e w1 ⟨rfl, rfl⟩; rw [h0])
    | (go_at_call 21; refine (get_dk (k := 0) HD.out rfl a.b (by have := Hb.out; omega)).mono ?_; rintro e w1 ⟨rfl, rfl⟩; rw [hz.out, hy.out])
    | (go_at_call 26; refine (refGet_dk HD.out Hv.out Hg.out (by have := HN.out; omega) a.b).mono ?_; rintro e w2 ⟨rfl, hD1⟩; rw [hz.out, hy.out]; have HD1 := Lib.hid hD1; clear hD1))
  have hcx4 := two_cells (HD1.out.at_ hKx.out)
  have hcz4 := two_cells (HD1.out.at_ hKz.out)
  have fz0 := two_frozen (i := 0) (HD1.out.at_ hKz.out)
  have fz1 := two_frozen (i := 1) (HD1.out.at_ hKz.out)
  have HDd := Lib.hid ((HD1.out.below (w' := w2.drew) (Below.refl _ _).drew))
  go_region_with (fail)
  all_goals
    go_wp2
    have g1 := HDd.out.fin (x' := .slice A n1 c1) (y' := .slice A' n2 c2) hKz.out (by omega) hKs.out
    have g2 := g1.at_ List.mem_cons_self
    exact ret_two_mid rfl twoDir bz _ _ _ (0, 0) rfl g2 rfl (DoesQ.intro g _ _ R rfl (Dk.weakK (g1.more (by omega)) fun _ hp => List.mem_cons_of_mem _ hp) (Hv.out) (fun _ h => h))
end
end Go.Proofs.Ytdnbflhpgfgnnaa
