/- is: a directory is the reference's. Conditions: at most 1000 operations. -/
import Derived.Test.YtdnbflhpgfgnnaaDrU
import Derived.Deep.RegionWith
namespace Go.Proofs.Ytdnbflhpgfgnnaa
open Go.RowKit

/-- The cells of an entry in a row. -/
theorem zero_en {w : World} {gl k : Nat} {cs : Array Value} {T : TypeId} (h : w.heap[gl]? = some (.cells cs T (0, 0))) (hk : k + 1 < cs.size) :
    ∃ x0 x1, w.cell? ⟨gl, k, none⟩ = some x0 ∧ w.frozen? ⟨gl, k, none⟩ = false ∧ w.cell? ⟨gl, k + 1, none⟩ = some x1 ∧ w.frozen? ⟨gl, k + 1, none⟩ = false ∧
      ∀ u v, ∃ cs', ((w.setCell ⟨gl, k, none⟩ u).setCell ⟨gl, k + 1, none⟩ v).heap[gl]? = some (.cells cs' T (0, 0)) ∧ cs'.size = cs.size := by
  refine ⟨_, _, (cell_of_row w gl _ _ _ _ h).trans (Array.getElem?_eq_getElem (by omega)), by simp [World.frozen?, h], (cell_of_row w gl _ _ _ _ h).trans (Array.getElem?_eq_getElem (by omega)), by simp [World.frozen?, h], fun u v => ?_⟩
  have h1 := heap_setCell_same w gl k cs T u h
  have h2 := heap_setCell_same _ gl (k + 1) _ T v h1
  exact ⟨_, h2, by simp⟩
/-- The block of a list of n entries, that lies beyond W. -/
def BlkE (W : World) (n : Nat) (B : Option Addr) (w : World) : Prop := n = 0 ∨ ∃ gl, B = some ⟨gl, 0, none⟩ ∧ W.heap.size ≤ gl ∧ ∃ cs, w.heap[gl]? = some (.cells cs 66 (0, 0)) ∧ n * 2 ≤ cs.size
section
variable {X : Nat → Prop} {v : Value} {s : St} {N g i : Nat} {c : Nat → Nat} {w : World}
set_option maxHeartbeats 4000000 in
set_option maxRecDepth 100000 in
theorem is_any (hd : DirAt w c i g s) (h : RefV w X v s) (hg : Good s N) (hN : N ≤ 1000) :
    Calls Try.prog 11 #[.pointer (some ⟨g, 0, none⟩), v] w fun e w' => e = .returned (.bool true) ∧ Below w.heap.size w w' := by
  obtain ⟨A, c1, A', c2, rfl, h1, h2⟩ := id h.v
  have hb0 := below_new w (.cells #[.slice A s.dur.length c1, .slice A' s.ops.length c2] 30)
  have hcx0 := heap_alloc_new w (.cells #[.slice A s.dur.length c1, .slice A' s.ops.length c2] 30)
  obtain ⟨W, hW⟩ : ∃ W, Hid (w.alloc (.cells #[.slice A s.dur.length c1, .slice A' s.ops.length c2] 30) = W) := ⟨_, rfl⟩
  obtain ⟨bx, hbx⟩ : ∃ bx, Hid (w.heap.size = bx) := ⟨_, rfl⟩
  rw [hW.out] at hb0 hcx0
  rw [hbx.out] at hcx0
  have hbW := Lib.hid hb0
  have HD := Lib.hid (hd.below hb0)
  have HR := Lib.hid (h.below hb0)
  have hno : Hid (s.ops.length ≤ 1000) := by have := hg.n; show _ ≤ _; omega
  have hnl : Hid (s.now.length ≤ 1000) := by have := hg.now.1; show _ ≤ _; omega
  obtain ⟨q1, hq1⟩ : ∃ p, Hid (s.dur.length = p) := ⟨_, rfl⟩
  obtain ⟨q2, hq2⟩ : ∃ p, Hid (s.ops.length = p) := ⟨_, rfl⟩
  obtain ⟨n, hn⟩ : ∃ p, Hid (s.now.length = p) := ⟨_, rfl⟩
  rw [hq1.out, hq2.out] at hcx0 HR hW ⊢
  rw [hq2.out] at hno
  rw [hn.out] at hnl
  have hq2I : (q2 : Int) ≤ 1000 := by have := hno.out; omega
  have hnI : (n : Int) ≤ 1000 := by have := hnl.out; omega
  have Hg := Lib.hid hg
  have HN := Lib.hid hN
  have Hcx := Lib.hid hcx0
  clear hd h h1 h2 hg hN hb0 hcx0
  have hmix : Try.prog.follows .mixedOrders = true := by kernel_rfl
  go_enter Try.func11, Try.ntmps11
  go_upto_region 1 with fail
  rw [hW.out, hbx.out]
  go_upto_region 2 with (go_at_call 14; refine (list_any HD.out Hg.out HN.out).mono ?_; rintro e w1 ⟨vl, rfl, hown, hb1⟩; rcases own_form hown with ⟨B, d, rfl, hown2⟩; have Hown := Lib.hid hown; have Hb1 := Lib.hid hb1; clear hown hown2 hb1; rw [hn.out] at Hown ⊢)
  have hlt1 : ∀ g o, W.heap[g]? = some o → w1.heap[g]? = some o := fun g o hh => (Hb1.out.block g (Array.getElem?_eq_some_iff.1 hh).1).trans hh
  have hcx := two_cells (hlt1 _ _ Hcx.out)
  have HD1 := Lib.hid (HD.out.below Hb1.out)
  have HR1 := Lib.hid (HR.out.below Hb1.out)
  have hl1 : Hid (EnX w1 (fun _ => False) B s.now) := by
    have ho := Hown.out
    rw [← hn.out] at ho
    exact own_avoid ho fun _ (e : False) => e.elim
  have HRd : Hid (RefV w1.drew X (.agg #[.slice A q1 c1, .slice A' q2 c2]) s) := HR1.out.below ((Below.refl _ _).drew)
  have hlw : Hid (∀ w2, Below w1.drew.heap.size w1.drew w2 → w2.heap[bx]? = some (.cells #[.slice A q1 c1, .slice A' q2 c2] 30 (0, 0)) ∧ EnX w2 (fun _ => False) B s.now ∧ DirAt w2 c i g s) := by
    intro w2 hb
    have h0 := hlt1 _ _ Hcx.out
    have hb' : Below w1.heap.size w1 w2 := ⟨hb.os, hb.tape, hb.output, hb.size, hb.block⟩
    exact ⟨(hb.block bx (Array.getElem?_eq_some_iff.1 h0).1).trans h0, RdX.below hl1.out hb', HD1.out.below hb'⟩
  clear hlt1
  have hblk : Hid (n = 0 ∨ ∃ gl, B = some ⟨gl, 0, none⟩ ∧ W.heap.size ≤ gl ∧ ∃ cs, w1.heap[gl]? = some (.cells cs 66 (0, 0)) ∧ n * 2 ≤ cs.size) := by
    rcases Hown.out.form with ⟨_, h⟩ | ⟨gl, cap, rest, h, hb, hrow, _⟩
    · exact .inl (by rw [← hn.out, h]; rfl)
    · injection h with h3 _ _
      refine .inr ⟨gl, h3, hb, _, hrow, ?_⟩
      rw [List.size_toArray, List.length_append, ecells_len, hn.out]
      omega
  go_region_with (first
    | (go_at_call 27; refine (refList_any HRd.out Hg.out HN.out).mono ?_; rintro e w2 ⟨B2, n2, d2, rfl, hn2, hE, hb2⟩; have HE := Lib.hid (RdX.mono (Y := fun _ => False) hE fun _ _ (e : False) => e.elim); have Hn2 := Lib.hid hn2; have hn2k : n2 ≤ 1000 := (by rw [hn2, hn.out]; exact hnl.out); have Hb2 := Lib.hid hb2; have hcx := two_cells (hlw.out _ hb2).1; clear hE hn2 hb2)
    | (go_at_call 23; refine (same_any (a := s.now) (b := s.now) hn.out Hn2.out.symm (by have := hnl.out; omega) (by omega) (hlw.out _ Hb2.out).2.1 HE.out).mono ?_; rintro e w3 ⟨rfl, hb3⟩; rw [show decide (s.now = s.now) = true from decide_eq_true rfl]; have Hb3 := Lib.hid (Hb2.out.trans (hb3.mono Hb2.out.size)); have hcx := two_cells (hlw.out _ Hb3.out).1; clear hb3)
    | (go_at_call 15; refine (pending_any (hlw.out _ Hb3.out).2.2).mono ?_; rintro e w4 ⟨rfl, rfl⟩; rw [hq2.out]))
  all_goals
    have hw14 : Below w1.heap.size w1 w4 := ⟨Hb3.out.os, Hb3.out.tape, Hb3.out.output, Hb3.out.size, Hb3.out.block⟩
    have hwr : Hid (Below w.heap.size w w4) := hbW.out.trans ((Hb1.out.trans (hw14.mono Hb1.out.size)).mono hbW.out.size)
    have hblk4 : Hid (BlkE W n B w4) := by
      rcases hblk.out with h0 | ⟨gl, h1, hgl, cs, hcs, hsz⟩
      · exact .inl h0
      · exact .inr ⟨gl, h1, hgl, cs, (hw14.block gl (Array.getElem?_eq_some_iff.1 hcs).1).trans hcs, hsz⟩
    clear hblk hw14
    go_wp2
    go_loopw [7] (fun iv wr => ∃ j : Nat, j ≤ n ∧ iv = .int .i64 (j : Int) ∧ Hid (Below w.heap.size w wr) ∧ Hid (BlkE W n B wr)) (fun iv _ => n - (intOf iv).toNat)
    case atStart => exact ⟨0, Nat.zero_le _, rfl, hwr, hblk4⟩
    case round =>
      clear hwr hblk4
      obtain ⟨j, hj, rfl, hbr, hbk⟩ := hrel
      by_cases hlt : j < n
      · obtain ⟨gl, hB, hgl, cs, hcs, hsz⟩ := hbk.out.resolve_left (by omega)
        subst hB
        obtain ⟨x0, x1, f1, f2, f3, f4, f5⟩ := zero_en (k := j * 2) hcs (by omega)
        have hjn : (j : Int) < (n : Int) := by omega
        obtain ⟨cs', g1, g2⟩ := f5 (.string ByteArray.empty) (.int .i64 0)
        have G1 := Lib.hid g1
        have Hcs := Lib.hid hcs
        clear f5 hcs g1
        go_wp2
        go_roundw
        case rel =>
          refine ⟨j + 1, by omega, by go_num, ?_, .inr ⟨gl, rfl, hgl, cs', G1.out, by omega⟩⟩
          have hp : w.heap.size ≤ gl := Nat.le_trans hbW.out.size hgl
          exact (hbr.out.setCell (p := ⟨gl, j * 2, none⟩) hp _).setCell (p := ⟨gl, j * 2 + 1, none⟩) hp _
        case measure => simp [intOf]; omega
      · obtain rfl : j = n := by omega
        have hd2 : decide ((j : Int) < (j : Int)) = false := by simp
        go_wp2
        go_ret
        exact ⟨rfl, hbr.out⟩
end
end Go.Proofs.Ytdnbflhpgfgnnaa
