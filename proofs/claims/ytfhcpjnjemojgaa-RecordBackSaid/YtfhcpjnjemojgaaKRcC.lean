/- The walk of what makes the table of kinds, a look into it, a kind's name by the code. Conditions: none. -/
import Derived.Test.YtfhcpjnjemojgaaKRcB
namespace Go.Proofs.Ytfhcpjnjemojgaa
open Go.RowKit Go.Lib

theorem enter_forms (w : World) (args : Array Value) : (callFunc 30 args).run Try.prog w = .ok (.enter 30 args) w := by kernel_rfl
set_option maxHeartbeats 4000000 in
set_option maxRecDepth 100000 in
theorem forms_any (w : World) : Calls Try.prog 30 #[] w fun e w' => ∃ v, e = .returned v ∧ Below w.heap.size w w' ∧ FormsAt w' v := by
  go_enter Try.func30, Try.ntmps30
  go_upto_region 1 with fail
  refine wp_region_lit (wpList_run rfl (exec_makeMap rfl) ?_)
  have h0 := FInv.start w
  have H0 := Lib.hid h0
  clear h0
  obtain ⟨w0, hw0⟩ : ∃ w0, w0 = w.alloc (.map #[] 0) := ⟨_, rfl⟩
  rw [← hw0] at H0 ⊢
  clear hw0
  refine wpList_run (v := .slice (some ⟨w0.heap.size, 0, none⟩) 2 2) (w' := w0.alloc (.cells (pcs [3, 4]).toArray 87)) rfl (by kernel_rfl) ?_
  refine wpList_run (v := .agg #[.string (txt [103, 114, 97, 110, 116]), .slice (some ⟨w0.heap.size, 0, none⟩) 2 2]) (w' := w0.alloc (.cells (pcs [3, 4]).toArray 87)) rfl (by kernel_rfl) ?_
  refine wpList_insert (n := 1) rfl (H0.out.alloc (.cells (pcs [3, 4]).toArray 87)) rfl rfl rfl (by kernel_rfl) (v := .agg #[.string (txt [103, 114, 97, 110, 116]), .slice (some ⟨w0.heap.size, 0, none⟩) 2 2]) (by kernel_rfl) (formV_new (ps := [3, 4]) rfl rfl rfl (partsAt_new w0 [3, 4])) ?_
  intro w1 h1
  have H1 := Lib.hid h1
  clear h1 H0
  refine wpList_run (v := .slice (some ⟨w1.heap.size, 0, none⟩) 2 2) (w' := w1.alloc (.cells (pcs [3, 4]).toArray 87)) rfl (by kernel_rfl) ?_
  refine wpList_run (v := .agg #[.string (txt [114, 101, 110, 101, 119]), .slice (some ⟨w1.heap.size, 0, none⟩) 2 2]) (w' := w1.alloc (.cells (pcs [3, 4]).toArray 87)) rfl (by kernel_rfl) ?_
  refine wpList_insert (n := 2) rfl (H1.out.alloc (.cells (pcs [3, 4]).toArray 87)) rfl rfl rfl (by kernel_rfl) (v := .agg #[.string (txt [114, 101, 110, 101, 119]), .slice (some ⟨w1.heap.size, 0, none⟩) 2 2]) (by kernel_rfl) (formV_new (ps := [3, 4]) rfl rfl rfl (partsAt_new w1 [3, 4])) ?_
  intro w2 h2
  have H2 := Lib.hid h2
  clear h2 H1
  refine wpList_run (v := .slice (some ⟨w2.heap.size, 0, none⟩) 1 1) (w' := w2.alloc (.cells (pcs [3]).toArray 87)) rfl (by kernel_rfl) ?_
  refine wpList_run (v := .agg #[.string (txt [114, 101, 108, 101, 97, 115, 101]), .slice (some ⟨w2.heap.size, 0, none⟩) 1 1]) (w' := w2.alloc (.cells (pcs [3]).toArray 87)) rfl (by kernel_rfl) ?_
  refine wpList_insert (n := 3) rfl (H2.out.alloc (.cells (pcs [3]).toArray 87)) rfl rfl rfl (by kernel_rfl) (v := .agg #[.string (txt [114, 101, 108, 101, 97, 115, 101]), .slice (some ⟨w2.heap.size, 0, none⟩) 1 1]) (by kernel_rfl) (formV_new (ps := [3]) rfl rfl rfl (partsAt_new w2 [3])) ?_
  intro w3 h3
  have H3 := Lib.hid h3
  clear h3 H2
  refine wpList_run (v := .slice (some ⟨w3.heap.size, 0, none⟩) 4 4) (w' := w3.alloc (.cells (pcs [3, 5, 7, 8]).toArray 87)) rfl (by kernel_rfl) ?_
  refine wpList_run (v := .agg #[.string (txt [99, 111, 109, 109, 105, 116]), .slice (some ⟨w3.heap.size, 0, none⟩) 4 4]) (w' := w3.alloc (.cells (pcs [3, 5, 7, 8]).toArray 87)) rfl (by kernel_rfl) ?_
  refine wpList_insert (n := 4) rfl (H3.out.alloc (.cells (pcs [3, 5, 7, 8]).toArray 87)) rfl rfl rfl (by kernel_rfl) (v := .agg #[.string (txt [99, 111, 109, 109, 105, 116]), .slice (some ⟨w3.heap.size, 0, none⟩) 4 4]) (by kernel_rfl) (formV_new (ps := [3, 5, 7, 8]) rfl rfl rfl (partsAt_new w3 [3, 5, 7, 8])) ?_
  intro w4 h4
  have H4 := Lib.hid h4
  clear h4 H3
  refine wpList_run (v := .slice (some ⟨w4.heap.size, 0, none⟩) 2 2) (w' := w4.alloc (.cells (pcs [5, 4]).toArray 87)) rfl (by kernel_rfl) ?_
  refine wpList_run (v := .agg #[.string (txt [112, 105, 110]), .slice (some ⟨w4.heap.size, 0, none⟩) 2 2]) (w' := w4.alloc (.cells (pcs [5, 4]).toArray 87)) rfl (by kernel_rfl) ?_
  refine wpList_insert (n := 5) rfl (H4.out.alloc (.cells (pcs [5, 4]).toArray 87)) rfl rfl rfl (by kernel_rfl) (v := .agg #[.string (txt [112, 105, 110]), .slice (some ⟨w4.heap.size, 0, none⟩) 2 2]) (by kernel_rfl) (formV_new (ps := [5, 4]) rfl rfl rfl (partsAt_new w4 [5, 4])) ?_
  intro w5 h5
  have H5 := Lib.hid h5
  clear h5 H4
  refine wpList_run (v := .slice (some ⟨w5.heap.size, 0, none⟩) 1 1) (w' := w5.alloc (.cells (pcs [5]).toArray 87)) rfl (by kernel_rfl) ?_
  refine wpList_run (v := .agg #[.string (txt [117, 110, 112, 105, 110]), .slice (some ⟨w5.heap.size, 0, none⟩) 1 1]) (w' := w5.alloc (.cells (pcs [5]).toArray 87)) rfl (by kernel_rfl) ?_
  refine wpList_insert (n := 6) rfl (H5.out.alloc (.cells (pcs [5]).toArray 87)) rfl rfl rfl (by kernel_rfl) (v := .agg #[.string (txt [117, 110, 112, 105, 110]), .slice (some ⟨w5.heap.size, 0, none⟩) 1 1]) (by kernel_rfl) (formV_new (ps := [5]) rfl rfl rfl (partsAt_new w5 [5])) ?_
  intro w6 h6
  have H6 := Lib.hid h6
  clear h6 H5
  refine wpList_run (v := .agg #[.string (txt [115, 101, 97, 108]), .slice none 0 0]) (w' := w6) rfl (by kernel_rfl) ?_
  refine wpList_insert (n := 7) rfl H6.out rfl rfl rfl (by kernel_rfl) (v := .agg #[.string (txt [115, 101, 97, 108]), .slice none 0 0]) (by kernel_rfl) (formV_new (A := none) (ps := []) rfl rfl rfl (.inl rfl)) ?_
  intro w7 h7
  have H7 := Lib.hid h7
  clear h7 H6
  refine wpList_run (v := .slice (some ⟨w7.heap.size, 0, none⟩) 1 1) (w' := w7.alloc (.cells (pcs [6]).toArray 87)) rfl (by kernel_rfl) ?_
  refine wpList_run (v := .agg #[.string (txt [99, 111, 109, 112, 97, 99, 116]), .slice (some ⟨w7.heap.size, 0, none⟩) 1 1]) (w' := w7.alloc (.cells (pcs [6]).toArray 87)) rfl (by kernel_rfl) ?_
  refine wpList_insert (n := 8) rfl (H7.out.alloc (.cells (pcs [6]).toArray 87)) rfl rfl rfl (by kernel_rfl) (v := .agg #[.string (txt [99, 111, 109, 112, 97, 99, 116]), .slice (some ⟨w7.heap.size, 0, none⟩) 1 1]) (by kernel_rfl) (formV_new (ps := [6]) rfl rfl rfl (partsAt_new w7 [6])) ?_
  intro w8 h8
  have H8 := Lib.hid h8
  clear h8 H7
  refine wpList_run (v := .slice (some ⟨w8.heap.size, 0, none⟩) 1 1) (w' := w8.alloc (.cells (pcs [9]).toArray 87)) rfl (by kernel_rfl) ?_
  refine wpList_run (v := .agg #[.string (txt [98, 105, 110, 100]), .slice (some ⟨w8.heap.size, 0, none⟩) 1 1]) (w' := w8.alloc (.cells (pcs [9]).toArray 87)) rfl (by kernel_rfl) ?_
  refine wpList_insert (n := 9) rfl (H8.out.alloc (.cells (pcs [9]).toArray 87)) rfl rfl rfl (by kernel_rfl) (v := .agg #[.string (txt [98, 105, 110, 100]), .slice (some ⟨w8.heap.size, 0, none⟩) 1 1]) (by kernel_rfl) (formV_new (ps := [9]) rfl rfl rfl (partsAt_new w8 [9])) ?_
  intro w9 h9
  have H9 := Lib.hid h9
  clear h9 H8
  refine wpList_run (v := .slice (some ⟨w9.heap.size, 0, none⟩) 1 1) (w' := w9.alloc (.cells (pcs [9]).toArray 87)) rfl (by kernel_rfl) ?_
  refine wpList_run (v := .agg #[.string (txt [117, 110, 98, 105, 110, 100]), .slice (some ⟨w9.heap.size, 0, none⟩) 1 1]) (w' := w9.alloc (.cells (pcs [9]).toArray 87)) rfl (by kernel_rfl) ?_
  refine wpList_insert (n := 10) rfl (H9.out.alloc (.cells (pcs [9]).toArray 87)) rfl rfl rfl (by kernel_rfl) (v := .agg #[.string (txt [117, 110, 98, 105, 110, 100]), .slice (some ⟨w9.heap.size, 0, none⟩) 1 1]) (by kernel_rfl) (formV_new (ps := [9]) rfl rfl rfl (partsAt_new w9 [9])) ?_
  intro w10 h10
  have H10 := Lib.hid h10
  clear h10 H9
  refine wpList_run (v := .slice (some ⟨w10.heap.size, 0, none⟩) 2 2) (w' := w10.alloc (.cells (pcs [9, 10]).toArray 87)) rfl (by kernel_rfl) ?_
  refine wpList_run (v := .agg #[.string (txt [114, 101, 110, 97, 109, 101]), .slice (some ⟨w10.heap.size, 0, none⟩) 2 2]) (w' := w10.alloc (.cells (pcs [9, 10]).toArray 87)) rfl (by kernel_rfl) ?_
  refine wpList_insert (n := 11) rfl (H10.out.alloc (.cells (pcs [9, 10]).toArray 87)) rfl rfl rfl (by kernel_rfl) (v := .agg #[.string (txt [114, 101, 110, 97, 109, 101]), .slice (some ⟨w10.heap.size, 0, none⟩) 2 2]) (by kernel_rfl) (formV_new (ps := [9, 10]) rfl rfl rfl (partsAt_new w10 [9, 10])) ?_
  intro w11 h11
  have H11 := Lib.hid h11
  clear h11 H10
  refine wpList_run (v := .map (some w.heap.size)) (w' := w11) rfl (by kernel_rfl) (wpList_run (v := .map (some w.heap.size)) (w' := w11) rfl (by kernel_rfl) ?_)
  go_frame
  go_wp2_with fail
  go_ret
  obtain ⟨hb, _, es, c, he, h1, h2⟩ := H11.out
  exact ⟨_, rfl, hb, w.heap.size, es, c, rfl, he, h1, h2⟩
/-- A look into the table. -/
theorem look_forms {w : World} {v : Value} (h : FormsAt w v) (k : Nat) (c : Bool) : ∃ fv, FormV w k fv ∧ (Instr.lookup 60 v (.int .u8 (k : Int)) c).run Try.prog w = .ok (if c then .tuple #[fv, .bool (isK k)] else fv) w := by
  obtain ⟨m, es, cl, rfl, he, h1, h2⟩ := h
  rcases run_find (w := w) (es := es.toList) (fun x hx => by obtain ⟨k, e, _⟩ := h1 x hx; exact ⟨k, e⟩) k with ⟨hr, hno⟩ | ⟨j, x, hx, hr, e⟩
  · have hk : isK k = false := by
      unfold isK
      rw [decide_eq_false_iff_not]
      intro hk
      obtain ⟨x, hx, e⟩ := h2 k hk.1 hk.2
      exact hno x hx e
    refine ⟨.agg #[.string (txt []), .slice none 0 0], ⟨none, 0, by rw [wordOf_no hk, parts_no hk]; rfl, by rw [parts_no hk]; exact Nat.le_refl _, .inl (parts_no hk)⟩, ?_⟩
    have hz : (zeroValue 58).run Try.prog w = .ok (.agg #[.string (txt []), .slice none 0 0]) w := by kernel_rfl
    rw [hk]
    simp [Instr.lookup, run_underlying Try.underlying60, MapKept.run_getObj_map he, run_check, hr, hz, Result.andThen]
  · obtain ⟨k', e', l1, l2, hf⟩ := h1 x hx
    rw [e] at e'
    simp only [Value.int.injEq, true_and] at e'
    obtain rfl : k = k' := by omega
    refine ⟨x.val, hf, ?_⟩
    have hk : isK k = true := by
      unfold isK
      rw [decide_eq_true_eq]
      exact ⟨l1, l2⟩
    rw [hk]
    simp [Instr.lookup, run_underlying Try.underlying60, MapKept.run_getObj_map he, run_check, hr, Result.andThen]
theorem run_field0 (w : World) (s : List UInt8) (A : Option Addr) (n c : Nat) : (Instr.field 58 (.agg #[.string (txt s), .slice A n c]) 0).run Try.prog w = .ok (.string (txt s)) w := by kernel_rfl
set_option maxHeartbeats 400000 in
set_option maxRecDepth 100000 in
theorem word_any (k : Nat) (w : World) : Calls Try.prog 16 #[.int .u8 (k : Int)] w fun e w' => e = .returned (.string (txt (wordOf k))) ∧ Below w.heap.size w w' := by
  go_enter Try.func16, Try.ntmps16
  go_wp2_with fail
  refine (forms_any w).mono ?_
  rintro e w1 ⟨v, rfl, hb, hv⟩
  obtain ⟨fv, ⟨A, c, rfl, _, _⟩, hrun⟩ := look_forms hv k false
  simp only [Bool.false_eq_true, if_false] at hrun
  clear hv
  obtain ⟨s, hs⟩ : ∃ s, Hid (s = wordOf k) := ⟨_, rfl⟩
  rw [← hs.out] at hrun
  have hfd := run_field0 w1 s A (parts k).length c
  generalize (parts k).length = n at hrun hfd
  go_wp2
  go_ret
  exact ⟨by rw [hs.out]; rfl, hb⟩
end Go.Proofs.Ytfhcpjnjemojgaa
