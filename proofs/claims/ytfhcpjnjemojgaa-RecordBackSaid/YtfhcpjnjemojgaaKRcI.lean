/- Going through a record's parts: the walk of walk, for whoever visits. Conditions: none. -/
import Derived.Test.YtfhcpjnjemojgaaKRcH
import Derived.Laws.OwnMore
namespace Go.Proofs.Ytfhcpjnjemojgaa
open Go.RowKit

theorem Try.infoPart : (Try.prog.info? 87).map (fun i => (i.zero, i.size, i.bytes)) = some (some (.int .i64 0), 1, 8) := by kernel_rfl
theorem pcs_len (ps : List Nat) : (pcs ps).length = ps.length := by simp [pcs]
theorem pcs_append (a b : List Nat) : pcs (a ++ b) = pcs a ++ pcs b := by simp [pcs]
theorem pcs_get {ps : List Nat} {i j : Nat} (h : ps[i]? = some j) : (pcs ps)[i]? = some (.int .i64 (j : Int)) := by simp [pcs, h]
theorem pcs_one (ps : List Nat) : ∀ u ∈ pcs ps, u.oneCell' = true := by
  intro u hu
  simp only [pcs, List.mem_map] at hu
  obtain ⟨c, _, rfl⟩ := hu
  rfl
theorem allP_len (k : Nat) : (allP k).length = 3 + (parts k).length := by simp [allP]; omega
theorem addr_add0 (g k : Nat) : (⟨g, 0, none⟩ : Addr).add k = ⟨g, k, none⟩ := by unfold Addr.add; split <;> simp_all

/-- A kind's parts behind whose it is. -/
theorem push_parts {w : World} {ops : Array Oper} {rest : List Oper} {o : Oper} {a : Act} {Q : Exit → Act → World → Prop} (s x : Operand) {m c : Nat} {A : Option Addr} {ps : List Nat} (hr : Reads w w.heap.size 1 A m (pcs ps)) (hm : m ≤ 4)
    (hgd : o.guard = none) (ho : o.op = .call { callee := .builtin .append, args := #[s, x], argTypes := #[56, 56] })
    (hs : a.eval s = .slice (some ⟨w.heap.size, 0, none⟩) 3 3) (hx : a.eval x = .slice A m c)
    (h : ∀ g c1 w', Below w.heap.size w w' → w.heap.size ≤ g → g < w'.heap.size → (∀ (i j : Nat), (0 :: 1 :: 2 :: ps)[i]? = some j → w'.cell? ⟨g, i, none⟩ = some (.int .i64 (j : Int))) → wpList Try.prog ops Q rest (a.put o.dst (.slice (some ⟨g, 0, none⟩) (3 + m) c1)) w') :
    wpList Try.prog ops Q (o :: rest) a (w.alloc (.cells #[.int .i64 0, .int .i64 1, .int .i64 2] 87)) := by
  obtain ⟨i0, hi0, hz0, hz1, hz2⟩ := info_parts Try.infoPart
  have hown := World.ownsRow_lit w (e := 87) (size := 1) (base := w.heap.size) #[.int .i64 0, .int .i64 1, .int .i64 2] 3 (Nat.le_refl _) (by simp [maxLen]) rfl
  refine wpList_append_any _ hgd s x _ ho w.heap.size 87 i0 _ 1 8 Try.underlying56 hi0 hz0 hz1 hz2 rfl (by omega) _ _ _ hs hown (w.heap.size + 1) A m c (pcs ps) hx ?_ (pcs_one _) (by simp only [maxLen]; omega) (by omega) (by simp) ?_
  · exact (Reads.alloc hr (Nat.le_refl _) _).more (by omega)
  · intro v1 w1 h1 h2 _
    have hb := (below_new w (.cells #[.int .i64 0, .int .i64 1, .int .i64 2] 87)).trans (grown_below hown h2 (by simp))
    obtain ⟨g, cap, rfl, _, hlt⟩ := h1.form (by omega)
    refine h g cap w1 hb (h1.lt g rfl).1 hlt fun i j hj => ?_
    have := h1.cells (g := g) rfl i (.int .i64 (j : Int)) (show (pcs [0, 1, 2] ++ pcs ps)[i]? = _ by rw [← pcs_append]; exact pcs_get hj)
    rwa [addr_add0] at this
set_option maxHeartbeats 2000000 in
set_option maxRecDepth 100000 in
theorem walk_any {S : Type} (f : S → Nat → S × Nat) (I : World → S → World → Prop) {T : TypeId} {rv : Value} (g : Nat) (A : Option Addr) (c k : Nat) (s0 : S) (w : World) (hp : PartsAt w A (parts k))
    (hstart : ∀ w0, Below w.heap.size w w0 → I w0 s0 w0)
    (hkeep : ∀ w0 s w1, Below w.heap.size w w0 → I w0 s w1 → ∀ b, w.heap.size ≤ b → b < w0.heap.size → w1.heap[b]? = w0.heap[b]?)
    (hstep : ∀ (w0 : World) (n : Nat) (w1 : World) (j : Nat), Below w.heap.size w w0 → (allP k)[n]? = some j → I w0 (runS f s0 ((allP k).take n)).1 w1 → Calls Try.prog 42 #[.iface T rv, .pointer (some ⟨g, 0, none⟩), .int .i64 (j : Int)] w1 fun e w2 => e = .returned (.int .i64 ((f (runS f s0 ((allP k).take n)).1 j).2 : Nat)) ∧ I w0 (f (runS f s0 ((allP k).take n)).1 j).1 w2) :
    Calls Try.prog 32 #[.iface T rv, .pointer (some ⟨g, 0, none⟩), .slice A (parts k).length c] w fun e w' => ∃ w0, Below w.heap.size w w0 ∧ e = .returned (.int .i64 ((runS f s0 (allP k)).2 : Nat)) ∧ I w0 (runS f s0 (allP k)).1 w' := by
  obtain ⟨m, hm⟩ : ∃ m, m = (parts k).length := ⟨_, rfl⟩
  have hm4 : m ≤ 4 := by rw [hm]; exact parts_len k
  have hr := hp.reads
  rw [← hm] at hr ⊢
  have hl : (allP k).length = 3 + m := by rw [allP_len, hm]
  have hlit : pcs (allP k) = pcs [0, 1, 2] ++ pcs (parts k) := by rw [← pcs_append]; rfl
  have Hm := Lib.hid hm
  have Hl := Lib.hid hl
  have Hr := Lib.hid hr
  have Hlit := Lib.hid hlit
  have Hm4 := Lib.hid hm4
  have Hstart := Lib.hid hstart
  have Hkeep := Lib.hid hkeep
  have Hstep := Lib.hid hstep
  clear hm hl hr hlit hp hm4 hstart hkeep hstep
  go_enter Try.func32, Try.ntmps32
  go_wp2_with (at_builtin; refine push_parts (.tmp 10) (.tmp 11) Hr.out Hm4.out rfl rfl rfl rfl ?_; intro q c1 w0 hb0 hq hq' hcell)
  have Hcell := Lib.hid hcell
  have Hb0 := Lib.hid hb0
  clear hcell hb0
  go_loopw [14] (fun i wr => ∃ n : Nat, n ≤ 3 + m ∧ i = .int .i64 (n : Int) ∧ Hid ((runS f s0 ((allP k).take n)).2 = 0) ∧ Hid (I w0 (runS f s0 ((allP k).take n)).1 wr)) (fun i _ => 3 + m - (intOf i).toNat)
  case atStart => exact ⟨0, by omega, rfl, by exact rfl, Hstart.out _ Hb0.out⟩
  case round =>
    obtain ⟨n, hn, rfl, hok, hI⟩ := hrel
    by_cases hlt : n < 3 + m
    · obtain ⟨j, hget⟩ : ∃ j, (allP k)[n]? = some j := ⟨_, List.getElem?_eq_getElem (by rw [Hl.out]; exact hlt)⟩
      have hc0 := Hcell.out n j hget
      have hc : wr.cell? ⟨q, n, none⟩ = some (.int .i64 (j : Int)) := (World.cell?_of_block (Hkeep.out _ _ _ Hb0.out hI.out q hq hq')).trans hc0
      have hcall := Hstep.out _ _ _ _ Hb0.out hget hI.out
      have htake : (allP k).take (n + 1) = (allP k).take n ++ [j] := take_snoc (Lib.hid hget)
      have hstep' := runS_snoc f ((allP k).take n) s0 j hok.out
      rw [← htake] at hstep'
      obtain ⟨E, hE⟩ : ∃ E, Hid (E = (f (runS f s0 ((allP k).take n)).1 j).2) := ⟨_, rfl⟩
      rw [← hE.out] at hcall
      have Hcall := Lib.hid hcall
      have Hs := Lib.hid hstep'
      have Htake := Lib.hid htake
      have hn7 : (n : Int) < 7 := by have := Hm4.out; omega
      clear hget hc0 hcall hstep' htake
      by_cases hz : E = 0
      · have hE' : Hid ((f (runS f s0 ((allP k).take n)).1 j).2 = 0) := hE.out.symm.trans hz
        subst hz
        go_wp2_with (go_at_call 42; refine Hcall.out.mono ?_; rintro e w2 ⟨rfl, hI2⟩)
        go_roundw
        case rel => exact ⟨n + 1, by omega, by go_num, by show _ = 0; rw [Hs.out]; exact hE'.out, by show I _ _ _; rw [Hs.out]; exact hI2⟩
        case measure => simp [intOf]; omega
      · have hz1 : ((E : Int) != 0) = true := by rw [bne_iff_ne]; omega
        have hz2 : (E != 0) = true := by rw [bne_iff_ne]; omega
        have hfin : Hid (runS f s0 (allP k) = f (runS f s0 ((allP k).take n)).1 j) := by
          show _ = _
          have h1 := runS_stop f ((allP k).take (n + 1)) ((allP k).drop (n + 1)) s0 (by rw [Hs.out, ← hE.out]; exact hz)
          rw [List.take_append_drop] at h1
          rw [h1, Hs.out]
        clear hz
        go_wp2_with (go_at_call 42; refine Hcall.out.mono ?_; rintro e w2 ⟨rfl, hI2⟩)
        go_ret
        refine ⟨w0, Hb0.out, ?_, ?_⟩
        · rw [hfin.out, ← hE.out]; rfl
        · rw [hfin.out]; exact hI2
    · obtain rfl : n = 3 + m := by omega
      rw [← Hl.out, List.take_length] at hok hI
      go_wp2
      go_ret
      exact ⟨w0, Hb0.out, by rw [hok.out]; rfl, hI.out⟩
end Go.Proofs.Ytfhcpjnjemojgaa
