/- The walk of Do, of the kinds 4, 5, 6. Conditions: none. The walk of Do, of the kinds 7, 8. Conditions: none. The walk of Do, of any other kind. Conditions: none. Do, whatever is called; Pending, Volatile, Used. Conditions: at most 880 calls; names of at most 1000 bytes, 60 bytes written. -/
import Derived.Test.YtbhmnmmockmibaaGreatKpFoK1
namespace Go.Proofs.YtbhmnmmockmibaaGreat
open Go.RowKit Go.Maps
section
variable {w0 w w' W : World} {Y Y' : Nat → Prop} {F N M B R L : Nat} {s s' : Fo} {k nm tt by_ : Value}
set_option maxHeartbeats 4000000 in
set_option maxRecDepth 100000 in
theorem fdo4_any {n t : List UInt8} {Ab : Option Addr} {nl cb : Nat} {out : Nat → OutF} (h : FS w0 Y F s N w)
    (hcall : ∀ B R L W4, Below w.heap.size w W4 → HC w0 (YL Y B R L) F s N 36 (.agg #[.int .u8 4, .string (txt n), .string (txt t), .slice Ab nl cb]) out W4) :
    Calls Tryz.prog 13 #[.pointer (some ⟨F, 0, none⟩), .agg #[.int .u8 4, .string (txt n), .string (txt t), .slice Ab nl cb]] w fun e w' => ∃ g, Dn w0 w Y F (N + 2) (out g) e w' := by
  obtain ⟨W, hW⟩ : ∃ W, Hid ((w.alloc (.cells #[.int .u8 4, .string (txt n), .string (txt t), .slice Ab nl cb] 40)).alloc (.cells #[.int .i64 0, .slice none 0 0, .slice none 0 0] 51) = W) := ⟨_, rfl⟩
  obtain ⟨B, hb⟩ : ∃ B, Hid (w.heap.size = B) := ⟨_, rfl⟩
  obtain ⟨R, hR⟩ : ∃ R, Hid (w.heap.size + 1 = R) := ⟨_, rfl⟩
  obtain ⟨L, hL⟩ : ∃ L, Hid (W.heap.size = L) := ⟨_, rfl⟩
  obtain ⟨W4, hW4⟩ : ∃ W4, Hid ((W.alloc (.cells #[.nilFunc, .nilFunc, .nilFunc, .nilFunc, .nilFunc, .nilFunc, .nilFunc, .nilFunc, .nilFunc] 101)).setRow L doFns = W4) := ⟨_, rfl⟩
  have hcb := Lib.hid (Cb.of hW.out hb.out hR.out)
  have hc : Hid (Cl w W W4 B R L (.int .u8 4) (.string (txt n)) (.string (txt t)) (.slice Ab nl cb)) := by
    rw [← hW4.out]
    have hg := heap_alloc_new W (.cells #[.nilFunc, .nilFunc, .nilFunc, .nilFunc, .nilFunc, .nilFunc, .nilFunc, .nilFunc, .nilFunc] 101)
    rw [hL.out] at hg
    exact ⟨hcb.out, setRow_heap _ _ _ _ _ _ hg, below_setRow (below_new _ _) (by rw [hL.out]; exact Nat.le_refl _) _, hL.out, by rw [size_setRow]; simp⟩
  have h4 := Lib.hid (hc.out.enter h)
  have hcl := Lib.hid (hcall B R L W4 (hcb.out.below.trans (hc.out.below.mono hcb.out.below.size)))
  obtain ⟨c0, c1, c2, c3⟩ := quad_cell (hc.out.at_ (Touch.refl (Fr w0 (YL Y B R L)) _)).1
  have l0 : W4.cell? ⟨L, 4, none⟩ = some (.func (.func 36) #[] #[]) := by rw [cell_of_row _ L 4 _ _ _ hc.out.arr]; rfl
  have r0 := tri_cell (hc.out.at_ (Touch.refl (Fr w0 (YL Y B R L)) _)).2.1
  have rf := fun i => d_frozen (i := i) (hc.out.at_ (Touch.refl (Fr w0 (YL Y B R L)) _)).2.1
  clear h hcall
  have hgL : (W.alloc (.cells #[.nilFunc, .nilFunc, .nilFunc, .nilFunc, .nilFunc, .nilFunc, .nilFunc, .nilFunc, .nilFunc] 101)).heap[L]? = some (.cells #[.nilFunc, .nilFunc, .nilFunc, .nilFunc, .nilFunc, .nilFunc, .nilFunc, .nilFunc, .nilFunc] 101 (0, 0)) := by rw [← hL.out]; exact heap_alloc_new _ _
  have hq := run_eqFn 36
  go_enter Tryz.func13, Tryz.ntmps13
  go_upto_region 1 with fail
  rw [hW.out, hR.out, hb.out]
  go_upto_region 4 with (rw [hL.out]; refine wpList_store_row rfl 101 (.tmp 5) (.tmp 9) rfl L _ rfl rfl _ _ hgL size_arr rfl doFns_one ?_; rw [show (W.alloc (.cells #[.nilFunc, .nilFunc, .nilFunc, .nilFunc, .nilFunc, .nilFunc, .nilFunc, .nilFunc, .nilFunc] 101)).setRow L #[.nilFunc, .func (.func 33) #[] #[], .func (.func 34) #[] #[], .func (.func 35) #[] #[], .func (.func 36) #[] #[], .func (.func 37) #[] #[], .func (.func 38) #[] #[], .func (.func 39) #[] #[], .func (.func 40) #[] #[]] = W4 from hW4.out]; clear hgL)
  go_upto_region 6 with fail
  obtain ⟨W5, hW5⟩ : ∃ W5, Hid (W4.drew = W5) := ⟨_, rfl⟩
  have hb5 : Hid (Below W4.heap.size W4 W5) := by rw [← hW5.out]; exact (Below.refl _ _).drew
  have h5 := Lib.hid (h4.out.quiet hb5.out)
  have hcl5 := Lib.hid (hcl.out W5 hb5.out h5.out.1)
  go_region_held3 (fun wx => wx.cell? ⟨B, 0, none⟩ = some (.int .u8 4) ∧ wx.cell? ⟨B, 1, none⟩ = some (.string (txt n)) ∧ wx.cell? ⟨B, 2, none⟩ = some (.string (txt t)) ∧ wx.cell? ⟨B, 3, none⟩ = some (.slice Ab nl cb) ∧ wx.cell? ⟨L, 4, none⟩ = some (.func (.func 36) #[] #[])) (first | exact ⟨c0, c1, c2, c3, l0⟩ | exact kk6.out | exact kk7.out _ _ _) (first | (go_at_call 36; rw [hW5.out]; refine hcl5.out.mono ?_; rintro e w6 ⟨g, v, rfl, hr6, hf6, ht6⟩; obtain ⟨A6, n6, d6, A7, n7, d7, rfl, hr7⟩ := hr6; have Hr := Lib.hid hr7; have Hf6 := Lib.hid hf6; have Ht6 := Lib.hid ht6; have Ht7 := Lib.hid (h5.out.2.trans ht6); clear hr7 hf6 ht6; have k6 := hc.out.at_ Ht7.out; have s0 := tri_cell k6.2.1; have sf := fun i => d_frozen (i := i) k6.2.1; have kk6 := Lib.hid (hc.out.cells Ht7.out (i := 4) rfl); have kk7 := Lib.hid (fun x y z => hc.out.cells2 Ht7.out (i := 4) rfl x y z); clear k6))
  go_wp2
  refine ret_res rfl R _ _ _ _ (0, 0) rfl (tri_set _ _ _ (hc.out.at_ Ht7.out).2.1) rfl ?_
  exact ⟨g, hc.out.done h5.out.2 Ht6.out Hf6.out _ _ _ ⟨A6, n6, d6, A7, n7, d7, rfl, Hr.out⟩⟩
set_option maxHeartbeats 4000000 in
set_option maxRecDepth 100000 in
theorem fdo5_any {n t : List UInt8} {Ab : Option Addr} {nl cb : Nat} {out : Nat → OutF} (h : FS w0 Y F s N w)
    (hcall : ∀ B R L W4, Below w.heap.size w W4 → HC w0 (YL Y B R L) F s N 37 (.agg #[.int .u8 5, .string (txt n), .string (txt t), .slice Ab nl cb]) out W4) :
    Calls Tryz.prog 13 #[.pointer (some ⟨F, 0, none⟩), .agg #[.int .u8 5, .string (txt n), .string (txt t), .slice Ab nl cb]] w fun e w' => ∃ g, Dn w0 w Y F (N + 2) (out g) e w' := by
  obtain ⟨W, hW⟩ : ∃ W, Hid ((w.alloc (.cells #[.int .u8 5, .string (txt n), .string (txt t), .slice Ab nl cb] 40)).alloc (.cells #[.int .i64 0, .slice none 0 0, .slice none 0 0] 51) = W) := ⟨_, rfl⟩
  obtain ⟨B, hb⟩ : ∃ B, Hid (w.heap.size = B) := ⟨_, rfl⟩
  obtain ⟨R, hR⟩ : ∃ R, Hid (w.heap.size + 1 = R) := ⟨_, rfl⟩
  obtain ⟨L, hL⟩ : ∃ L, Hid (W.heap.size = L) := ⟨_, rfl⟩
  obtain ⟨W4, hW4⟩ : ∃ W4, Hid ((W.alloc (.cells #[.nilFunc, .nilFunc, .nilFunc, .nilFunc, .nilFunc, .nilFunc, .nilFunc, .nilFunc, .nilFunc] 101)).setRow L doFns = W4) := ⟨_, rfl⟩
  have hcb := Lib.hid (Cb.of hW.out hb.out hR.out)
  have hc : Hid (Cl w W W4 B R L (.int .u8 5) (.string (txt n)) (.string (txt t)) (.slice Ab nl cb)) := by
    rw [← hW4.out]
    have hg := heap_alloc_new W (.cells #[.nilFunc, .nilFunc, .nilFunc, .nilFunc, .nilFunc, .nilFunc, .nilFunc, .nilFunc, .nilFunc] 101)
    rw [hL.out] at hg
    exact ⟨hcb.out, setRow_heap _ _ _ _ _ _ hg, below_setRow (below_new _ _) (by rw [hL.out]; exact Nat.le_refl _) _, hL.out, by rw [size_setRow]; simp⟩
  have h4 := Lib.hid (hc.out.enter h)
  have hcl := Lib.hid (hcall B R L W4 (hcb.out.below.trans (hc.out.below.mono hcb.out.below.size)))
  obtain ⟨c0, c1, c2, c3⟩ := quad_cell (hc.out.at_ (Touch.refl (Fr w0 (YL Y B R L)) _)).1
  have l0 : W4.cell? ⟨L, 5, none⟩ = some (.func (.func 37) #[] #[]) := by rw [cell_of_row _ L 5 _ _ _ hc.out.arr]; rfl
  have r0 := tri_cell (hc.out.at_ (Touch.refl (Fr w0 (YL Y B R L)) _)).2.1
  have rf := fun i => d_frozen (i := i) (hc.out.at_ (Touch.refl (Fr w0 (YL Y B R L)) _)).2.1
  clear h hcall
  have hgL : (W.alloc (.cells #[.nilFunc, .nilFunc, .nilFunc, .nilFunc, .nilFunc, .nilFunc, .nilFunc, .nilFunc, .nilFunc] 101)).heap[L]? = some (.cells #[.nilFunc, .nilFunc, .nilFunc, .nilFunc, .nilFunc, .nilFunc, .nilFunc, .nilFunc, .nilFunc] 101 (0, 0)) := by rw [← hL.out]; exact heap_alloc_new _ _
  have hq := run_eqFn 37
  go_enter Tryz.func13, Tryz.ntmps13
  go_upto_region 1 with fail
  rw [hW.out, hR.out, hb.out]
  go_upto_region 4 with (rw [hL.out]; refine wpList_store_row rfl 101 (.tmp 5) (.tmp 9) rfl L _ rfl rfl _ _ hgL size_arr rfl doFns_one ?_; rw [show (W.alloc (.cells #[.nilFunc, .nilFunc, .nilFunc, .nilFunc, .nilFunc, .nilFunc, .nilFunc, .nilFunc, .nilFunc] 101)).setRow L #[.nilFunc, .func (.func 33) #[] #[], .func (.func 34) #[] #[], .func (.func 35) #[] #[], .func (.func 36) #[] #[], .func (.func 37) #[] #[], .func (.func 38) #[] #[], .func (.func 39) #[] #[], .func (.func 40) #[] #[]] = W4 from hW4.out]; clear hgL)
  go_upto_region 6 with fail
  obtain ⟨W5, hW5⟩ : ∃ W5, Hid (W4.drew = W5) := ⟨_, rfl⟩
  have hb5 : Hid (Below W4.heap.size W4 W5) := by rw [← hW5.out]; exact (Below.refl _ _).drew
  have h5 := Lib.hid (h4.out.quiet hb5.out)
  have hcl5 := Lib.hid (hcl.out W5 hb5.out h5.out.1)
  go_region_held3 (fun wx => wx.cell? ⟨B, 0, none⟩ = some (.int .u8 5) ∧ wx.cell? ⟨B, 1, none⟩ = some (.string (txt n)) ∧ wx.cell? ⟨B, 2, none⟩ = some (.string (txt t)) ∧ wx.cell? ⟨B, 3, none⟩ = some (.slice Ab nl cb) ∧ wx.cell? ⟨L, 5, none⟩ = some (.func (.func 37) #[] #[])) (first | exact ⟨c0, c1, c2, c3, l0⟩ | exact kk6.out | exact kk7.out _ _ _) (first | (go_at_call 37; rw [hW5.out]; refine hcl5.out.mono ?_; rintro e w6 ⟨g, v, rfl, hr6, hf6, ht6⟩; obtain ⟨A6, n6, d6, A7, n7, d7, rfl, hr7⟩ := hr6; have Hr := Lib.hid hr7; have Hf6 := Lib.hid hf6; have Ht6 := Lib.hid ht6; have Ht7 := Lib.hid (h5.out.2.trans ht6); clear hr7 hf6 ht6; have k6 := hc.out.at_ Ht7.out; have s0 := tri_cell k6.2.1; have sf := fun i => d_frozen (i := i) k6.2.1; have kk6 := Lib.hid (hc.out.cells Ht7.out (i := 5) rfl); have kk7 := Lib.hid (fun x y z => hc.out.cells2 Ht7.out (i := 5) rfl x y z); clear k6))
  go_wp2
  refine ret_res rfl R _ _ _ _ (0, 0) rfl (tri_set _ _ _ (hc.out.at_ Ht7.out).2.1) rfl ?_
  exact ⟨g, hc.out.done h5.out.2 Ht6.out Hf6.out _ _ _ ⟨A6, n6, d6, A7, n7, d7, rfl, Hr.out⟩⟩
set_option maxHeartbeats 4000000 in
set_option maxRecDepth 100000 in
theorem fdo6_any {n t : List UInt8} {Ab : Option Addr} {nl cb : Nat} {out : Nat → OutF} (h : FS w0 Y F s N w)
    (hcall : ∀ B R L W4, Below w.heap.size w W4 → HC w0 (YL Y B R L) F s N 38 (.agg #[.int .u8 6, .string (txt n), .string (txt t), .slice Ab nl cb]) out W4) :
    Calls Tryz.prog 13 #[.pointer (some ⟨F, 0, none⟩), .agg #[.int .u8 6, .string (txt n), .string (txt t), .slice Ab nl cb]] w fun e w' => ∃ g, Dn w0 w Y F (N + 2) (out g) e w' := by
  obtain ⟨W, hW⟩ : ∃ W, Hid ((w.alloc (.cells #[.int .u8 6, .string (txt n), .string (txt t), .slice Ab nl cb] 40)).alloc (.cells #[.int .i64 0, .slice none 0 0, .slice none 0 0] 51) = W) := ⟨_, rfl⟩
  obtain ⟨B, hb⟩ : ∃ B, Hid (w.heap.size = B) := ⟨_, rfl⟩
  obtain ⟨R, hR⟩ : ∃ R, Hid (w.heap.size + 1 = R) := ⟨_, rfl⟩
  obtain ⟨L, hL⟩ : ∃ L, Hid (W.heap.size = L) := ⟨_, rfl⟩
  obtain ⟨W4, hW4⟩ : ∃ W4, Hid ((W.alloc (.cells #[.nilFunc, .nilFunc, .nilFunc, .nilFunc, .nilFunc, .nilFunc, .nilFunc, .nilFunc, .nilFunc] 101)).setRow L doFns = W4) := ⟨_, rfl⟩
  have hcb := Lib.hid (Cb.of hW.out hb.out hR.out)
  have hc : Hid (Cl w W W4 B R L (.int .u8 6) (.string (txt n)) (.string (txt t)) (.slice Ab nl cb)) := by
    rw [← hW4.out]
    have hg := heap_alloc_new W (.cells #[.nilFunc, .nilFunc, .nilFunc, .nilFunc, .nilFunc, .nilFunc, .nilFunc, .nilFunc, .nilFunc] 101)
    rw [hL.out] at hg
    exact ⟨hcb.out, setRow_heap _ _ _ _ _ _ hg, below_setRow (below_new _ _) (by rw [hL.out]; exact Nat.le_refl _) _, hL.out, by rw [size_setRow]; simp⟩
  have h4 := Lib.hid (hc.out.enter h)
  have hcl := Lib.hid (hcall B R L W4 (hcb.out.below.trans (hc.out.below.mono hcb.out.below.size)))
  obtain ⟨c0, c1, c2, c3⟩ := quad_cell (hc.out.at_ (Touch.refl (Fr w0 (YL Y B R L)) _)).1
  have l0 : W4.cell? ⟨L, 6, none⟩ = some (.func (.func 38) #[] #[]) := by rw [cell_of_row _ L 6 _ _ _ hc.out.arr]; rfl
  have r0 := tri_cell (hc.out.at_ (Touch.refl (Fr w0 (YL Y B R L)) _)).2.1
  have rf := fun i => d_frozen (i := i) (hc.out.at_ (Touch.refl (Fr w0 (YL Y B R L)) _)).2.1
  clear h hcall
  have hgL : (W.alloc (.cells #[.nilFunc, .nilFunc, .nilFunc, .nilFunc, .nilFunc, .nilFunc, .nilFunc, .nilFunc, .nilFunc] 101)).heap[L]? = some (.cells #[.nilFunc, .nilFunc, .nilFunc, .nilFunc, .nilFunc, .nilFunc, .nilFunc, .nilFunc, .nilFunc] 101 (0, 0)) := by rw [← hL.out]; exact heap_alloc_new _ _
  have hq := run_eqFn 38
  go_enter Tryz.func13, Tryz.ntmps13
  go_upto_region 1 with fail
  rw [hW.out, hR.out, hb.out]
  go_upto_region 4 with (rw [hL.out]; refine wpList_store_row rfl 101 (.tmp 5) (.tmp 9) rfl L _ rfl rfl _ _ hgL size_arr rfl doFns_one ?_; rw [show (W.alloc (.cells #[.nilFunc, .nilFunc, .nilFunc, .nilFunc, .nilFunc, .nilFunc, .nilFunc, .nilFunc, .nilFunc] 101)).setRow L #[.nilFunc, .func (.func 33) #[] #[], .func (.func 34) #[] #[], .func (.func 35) #[] #[], .func (.func 36) #[] #[], .func (.func 37) #[] #[], .func (.func 38) #[] #[], .func (.func 39) #[] #[], .func (.func 40) #[] #[]] = W4 from hW4.out]; clear hgL)
  go_upto_region 6 with fail
  obtain ⟨W5, hW5⟩ : ∃ W5, Hid (W4.drew = W5) := ⟨_, rfl⟩
  have hb5 : Hid (Below W4.heap.size W4 W5) := by rw [← hW5.out]; exact (Below.refl _ _).drew
  have h5 := Lib.hid (h4.out.quiet hb5.out)
  have hcl5 := Lib.hid (hcl.out W5 hb5.out h5.out.1)
  go_region_held3 (fun wx => wx.cell? ⟨B, 0, none⟩ = some (.int .u8 6) ∧ wx.cell? ⟨B, 1, none⟩ = some (.string (txt n)) ∧ wx.cell? ⟨B, 2, none⟩ = some (.string (txt t)) ∧ wx.cell? ⟨B, 3, none⟩ = some (.slice Ab nl cb) ∧ wx.cell? ⟨L, 6, none⟩ = some (.func (.func 38) #[] #[])) (first | exact ⟨c0, c1, c2, c3, l0⟩ | exact kk6.out | exact kk7.out _ _ _) (first | (go_at_call 38; rw [hW5.out]; refine hcl5.out.mono ?_; rintro e w6 ⟨g, v, rfl, hr6, hf6, ht6⟩; obtain ⟨A6, n6, d6, A7, n7, d7, rfl, hr7⟩ := hr6; have Hr := Lib.hid hr7; have Hf6 := Lib.hid hf6; have Ht6 := Lib.hid ht6; have Ht7 := Lib.hid (h5.out.2.trans ht6); clear hr7 hf6 ht6; have k6 := hc.out.at_ Ht7.out; have s0 := tri_cell k6.2.1; have sf := fun i => d_frozen (i := i) k6.2.1; have kk6 := Lib.hid (hc.out.cells Ht7.out (i := 6) rfl); have kk7 := Lib.hid (fun x y z => hc.out.cells2 Ht7.out (i := 6) rfl x y z); clear k6))
  go_wp2
  refine ret_res rfl R _ _ _ _ (0, 0) rfl (tri_set _ _ _ (hc.out.at_ Ht7.out).2.1) rfl ?_
  exact ⟨g, hc.out.done h5.out.2 Ht6.out Hf6.out _ _ _ ⟨A6, n6, d6, A7, n7, d7, rfl, Hr.out⟩⟩
end
end Go.Proofs.YtbhmnmmockmibaaGreat

namespace Go.Proofs.YtbhmnmmockmibaaGreat
open Go.RowKit Go.Maps
section
variable {w0 w w' W : World} {Y Y' : Nat → Prop} {F N M B R L : Nat} {s s' : Fo} {k nm tt by_ : Value}
set_option maxHeartbeats 4000000 in
set_option maxRecDepth 100000 in
theorem fdo7_any {n t : List UInt8} {Ab : Option Addr} {nl cb : Nat} {out : Nat → OutF} (h : FS w0 Y F s N w)
    (hcall : ∀ B R L W4, Below w.heap.size w W4 → HC w0 (YL Y B R L) F s N 39 (.agg #[.int .u8 7, .string (txt n), .string (txt t), .slice Ab nl cb]) out W4) :
    Calls Tryz.prog 13 #[.pointer (some ⟨F, 0, none⟩), .agg #[.int .u8 7, .string (txt n), .string (txt t), .slice Ab nl cb]] w fun e w' => ∃ g, Dn w0 w Y F (N + 2) (out g) e w' := by
  obtain ⟨W, hW⟩ : ∃ W, Hid ((w.alloc (.cells #[.int .u8 7, .string (txt n), .string (txt t), .slice Ab nl cb] 40)).alloc (.cells #[.int .i64 0, .slice none 0 0, .slice none 0 0] 51) = W) := ⟨_, rfl⟩
  obtain ⟨B, hb⟩ : ∃ B, Hid (w.heap.size = B) := ⟨_, rfl⟩
  obtain ⟨R, hR⟩ : ∃ R, Hid (w.heap.size + 1 = R) := ⟨_, rfl⟩
  obtain ⟨L, hL⟩ : ∃ L, Hid (W.heap.size = L) := ⟨_, rfl⟩
  obtain ⟨W4, hW4⟩ : ∃ W4, Hid ((W.alloc (.cells #[.nilFunc, .nilFunc, .nilFunc, .nilFunc, .nilFunc, .nilFunc, .nilFunc, .nilFunc, .nilFunc] 101)).setRow L doFns = W4) := ⟨_, rfl⟩
  have hcb := Lib.hid (Cb.of hW.out hb.out hR.out)
  have hc : Hid (Cl w W W4 B R L (.int .u8 7) (.string (txt n)) (.string (txt t)) (.slice Ab nl cb)) := by
    rw [← hW4.out]
    have hg := heap_alloc_new W (.cells #[.nilFunc, .nilFunc, .nilFunc, .nilFunc, .nilFunc, .nilFunc, .nilFunc, .nilFunc, .nilFunc] 101)
    rw [hL.out] at hg
    exact ⟨hcb.out, setRow_heap _ _ _ _ _ _ hg, below_setRow (below_new _ _) (by rw [hL.out]; exact Nat.le_refl _) _, hL.out, by rw [size_setRow]; simp⟩
  have h4 := Lib.hid (hc.out.enter h)
  have hcl := Lib.hid (hcall B R L W4 (hcb.out.below.trans (hc.out.below.mono hcb.out.below.size)))
  obtain ⟨c0, c1, c2, c3⟩ := quad_cell (hc.out.at_ (Touch.refl (Fr w0 (YL Y B R L)) _)).1
  have l0 : W4.cell? ⟨L, 7, none⟩ = some (.func (.func 39) #[] #[]) := by rw [cell_of_row _ L 7 _ _ _ hc.out.arr]; rfl
  have r0 := tri_cell (hc.out.at_ (Touch.refl (Fr w0 (YL Y B R L)) _)).2.1
  have rf := fun i => d_frozen (i := i) (hc.out.at_ (Touch.refl (Fr w0 (YL Y B R L)) _)).2.1
  clear h hcall
  have hgL : (W.alloc (.cells #[.nilFunc, .nilFunc, .nilFunc, .nilFunc, .nilFunc, .nilFunc, .nilFunc, .nilFunc, .nilFunc] 101)).heap[L]? = some (.cells #[.nilFunc, .nilFunc, .nilFunc, .nilFunc, .nilFunc, .nilFunc, .nilFunc, .nilFunc, .nilFunc] 101 (0, 0)) := by rw [← hL.out]; exact heap_alloc_new _ _
  have hq := run_eqFn 39
  go_enter Tryz.func13, Tryz.ntmps13
  go_upto_region 1 with fail
  rw [hW.out, hR.out, hb.out]
  go_upto_region 4 with (rw [hL.out]; refine wpList_store_row rfl 101 (.tmp 5) (.tmp 9) rfl L _ rfl rfl _ _ hgL size_arr rfl doFns_one ?_; rw [show (W.alloc (.cells #[.nilFunc, .nilFunc, .nilFunc, .nilFunc, .nilFunc, .nilFunc, .nilFunc, .nilFunc, .nilFunc] 101)).setRow L #[.nilFunc, .func (.func 33) #[] #[], .func (.func 34) #[] #[], .func (.func 35) #[] #[], .func (.func 36) #[] #[], .func (.func 37) #[] #[], .func (.func 38) #[] #[], .func (.func 39) #[] #[], .func (.func 40) #[] #[]] = W4 from hW4.out]; clear hgL)
  go_upto_region 6 with fail
  obtain ⟨W5, hW5⟩ : ∃ W5, Hid (W4.drew = W5) := ⟨_, rfl⟩
  have hb5 : Hid (Below W4.heap.size W4 W5) := by rw [← hW5.out]; exact (Below.refl _ _).drew
  have h5 := Lib.hid (h4.out.quiet hb5.out)
  have hcl5 := Lib.hid (hcl.out W5 hb5.out h5.out.1)
  go_region_held3 (fun wx => wx.cell? ⟨B, 0, none⟩ = some (.int .u8 7) ∧ wx.cell? ⟨B, 1, none⟩ = some (.string (txt n)) ∧ wx.cell? ⟨B, 2, none⟩ = some (.string (txt t)) ∧ wx.cell? ⟨B, 3, none⟩ = some (.slice Ab nl cb) ∧ wx.cell? ⟨L, 7, none⟩ = some (.func (.func 39) #[] #[])) (first | exact ⟨c0, c1, c2, c3, l0⟩ | exact kk6.out | exact kk7.out _ _ _) (first | (go_at_call 39; rw [hW5.out]; refine hcl5.out.mono ?_; rintro e w6 ⟨g, v, rfl, hr6, hf6, ht6⟩; obtain ⟨A6, n6, d6, A7, n7, d7, rfl, hr7⟩ := hr6; have Hr := Lib.hid hr7; have Hf6 := Lib.hid hf6; have Ht6 := Lib.hid ht6; have Ht7 := Lib.hid (h5.out.2.trans ht6); clear hr7 hf6 ht6; have k6 := hc.out.at_ Ht7.out; have s0 := tri_cell k6.2.1; have sf := fun i => d_frozen (i := i) k6.2.1; have kk6 := Lib.hid (hc.out.cells Ht7.out (i := 7) rfl); have kk7 := Lib.hid (fun x y z => hc.out.cells2 Ht7.out (i := 7) rfl x y z); clear k6))
  go_wp2
  refine ret_res rfl R _ _ _ _ (0, 0) rfl (tri_set _ _ _ (hc.out.at_ Ht7.out).2.1) rfl ?_
  exact ⟨g, hc.out.done h5.out.2 Ht6.out Hf6.out _ _ _ ⟨A6, n6, d6, A7, n7, d7, rfl, Hr.out⟩⟩
set_option maxHeartbeats 4000000 in
set_option maxRecDepth 100000 in
theorem fdo8_any {n t : List UInt8} {Ab : Option Addr} {nl cb : Nat} {out : Nat → OutF} (h : FS w0 Y F s N w)
    (hcall : ∀ B R L W4, Below w.heap.size w W4 → HC w0 (YL Y B R L) F s N 40 (.agg #[.int .u8 8, .string (txt n), .string (txt t), .slice Ab nl cb]) out W4) :
    Calls Tryz.prog 13 #[.pointer (some ⟨F, 0, none⟩), .agg #[.int .u8 8, .string (txt n), .string (txt t), .slice Ab nl cb]] w fun e w' => ∃ g, Dn w0 w Y F (N + 2) (out g) e w' := by
  obtain ⟨W, hW⟩ : ∃ W, Hid ((w.alloc (.cells #[.int .u8 8, .string (txt n), .string (txt t), .slice Ab nl cb] 40)).alloc (.cells #[.int .i64 0, .slice none 0 0, .slice none 0 0] 51) = W) := ⟨_, rfl⟩
  obtain ⟨B, hb⟩ : ∃ B, Hid (w.heap.size = B) := ⟨_, rfl⟩
  obtain ⟨R, hR⟩ : ∃ R, Hid (w.heap.size + 1 = R) := ⟨_, rfl⟩
  obtain ⟨L, hL⟩ : ∃ L, Hid (W.heap.size = L) := ⟨_, rfl⟩
  obtain ⟨W4, hW4⟩ : ∃ W4, Hid ((W.alloc (.cells #[.nilFunc, .nilFunc, .nilFunc, .nilFunc, .nilFunc, .nilFunc, .nilFunc, .nilFunc, .nilFunc] 101)).setRow L doFns = W4) := ⟨_, rfl⟩
  have hcb := Lib.hid (Cb.of hW.out hb.out hR.out)
  have hc : Hid (Cl w W W4 B R L (.int .u8 8) (.string (txt n)) (.string (txt t)) (.slice Ab nl cb)) := by
    rw [← hW4.out]
    have hg := heap_alloc_new W (.cells #[.nilFunc, .nilFunc, .nilFunc, .nilFunc, .nilFunc, .nilFunc, .nilFunc, .nilFunc, .nilFunc] 101)
    rw [hL.out] at hg
    exact ⟨hcb.out, setRow_heap _ _ _ _ _ _ hg, below_setRow (below_new _ _) (by rw [hL.out]; exact Nat.le_refl _) _, hL.out, by rw [size_setRow]; simp⟩
  have h4 := Lib.hid (hc.out.enter h)
  have hcl := Lib.hid (hcall B R L W4 (hcb.out.below.trans (hc.out.below.mono hcb.out.below.size)))
  obtain ⟨c0, c1, c2, c3⟩ := quad_cell (hc.out.at_ (Touch.refl (Fr w0 (YL Y B R L)) _)).1
  have l0 : W4.cell? ⟨L, 8, none⟩ = some (.func (.func 40) #[] #[]) := by rw [cell_of_row _ L 8 _ _ _ hc.out.arr]; rfl
  have r0 := tri_cell (hc.out.at_ (Touch.refl (Fr w0 (YL Y B R L)) _)).2.1
  have rf := fun i => d_frozen (i := i) (hc.out.at_ (Touch.refl (Fr w0 (YL Y B R L)) _)).2.1
  clear h hcall
  have hgL : (W.alloc (.cells #[.nilFunc, .nilFunc, .nilFunc, .nilFunc, .nilFunc, .nilFunc, .nilFunc, .nilFunc, .nilFunc] 101)).heap[L]? = some (.cells #[.nilFunc, .nilFunc, .nilFunc, .nilFunc, .nilFunc, .nilFunc, .nilFunc, .nilFunc, .nilFunc] 101 (0, 0)) := by rw [← hL.out]; exact heap_alloc_new _ _
  have hq := run_eqFn 40
  go_enter Tryz.func13, Tryz.ntmps13
  go_upto_region 1 with fail
  rw [hW.out, hR.out, hb.out]
  go_upto_region 4 with (rw [hL.out]; refine wpList_store_row rfl 101 (.tmp 5) (.tmp 9) rfl L _ rfl rfl _ _ hgL size_arr rfl doFns_one ?_; rw [show (W.alloc (.cells #[.nilFunc, .nilFunc, .nilFunc, .nilFunc, .nilFunc, .nilFunc, .nilFunc, .nilFunc, .nilFunc] 101)).setRow L #[.nilFunc, .func (.func 33) #[] #[], .func (.func 34) #[] #[], .func (.func 35) #[] #[], .func (.func 36) #[] #[], .func (.func 37) #[] #[], .func (.func 38) #[] #[], .func (.func 39) #[] #[], .func (.func 40) #[] #[]] = W4 from hW4.out]; clear hgL)
  go_upto_region 6 with fail
  obtain ⟨W5, hW5⟩ : ∃ W5, Hid (W4.drew = W5) := ⟨_, rfl⟩
  have hb5 : Hid (Below W4.heap.size W4 W5) := by rw [← hW5.out]; exact (Below.refl _ _).drew
  have h5 := Lib.hid (h4.out.quiet hb5.out)
  have hcl5 := Lib.hid (hcl.out W5 hb5.out h5.out.1)
  go_region_held3 (fun wx => wx.cell? ⟨B, 0, none⟩ = some (.int .u8 8) ∧ wx.cell? ⟨B, 1, none⟩ = some (.string (txt n)) ∧ wx.cell? ⟨B, 2, none⟩ = some (.string (txt t)) ∧ wx.cell? ⟨B, 3, none⟩ = some (.slice Ab nl cb) ∧ wx.cell? ⟨L, 8, none⟩ = some (.func (.func 40) #[] #[])) (first | exact ⟨c0, c1, c2, c3, l0⟩ | exact kk6.out | exact kk7.out _ _ _) (first | (go_at_call 40; rw [hW5.out]; refine hcl5.out.mono ?_; rintro e w6 ⟨g, v, rfl, hr6, hf6, ht6⟩; obtain ⟨A6, n6, d6, A7, n7, d7, rfl, hr7⟩ := hr6; have Hr := Lib.hid hr7; have Hf6 := Lib.hid hf6; have Ht6 := Lib.hid ht6; have Ht7 := Lib.hid (h5.out.2.trans ht6); clear hr7 hf6 ht6; have k6 := hc.out.at_ Ht7.out; have s0 := tri_cell k6.2.1; have sf := fun i => d_frozen (i := i) k6.2.1; have kk6 := Lib.hid (hc.out.cells Ht7.out (i := 8) rfl); have kk7 := Lib.hid (fun x y z => hc.out.cells2 Ht7.out (i := 8) rfl x y z); clear k6))
  go_wp2
  refine ret_res rfl R _ _ _ _ (0, 0) rfl (tri_set _ _ _ (hc.out.at_ Ht7.out).2.1) rfl ?_
  exact ⟨g, hc.out.done h5.out.2 Ht6.out Hf6.out _ _ _ ⟨A6, n6, d6, A7, n7, d7, rfl, Hr.out⟩⟩
end
end Go.Proofs.YtbhmnmmockmibaaGreat

namespace Go.Proofs.YtbhmnmmockmibaaGreat
open Go.RowKit Go.Maps
section
variable {w0 w w' W : World} {Y Y' : Nat → Prop} {F N M B R L : Nat} {s s' : Fo} {k nm tt by_ : Value}
set_option maxHeartbeats 4000000 in
set_option maxRecDepth 100000 in
theorem fdo0_any {n t : List UInt8} {Ab : Option Addr} {nl cb : Nat} (h : FS w0 Y F s N w) :
    Calls Tryz.prog 13 #[.pointer (some ⟨F, 0, none⟩), .agg #[.int .u8 0, .string (txt n), .string (txt t), .slice Ab nl cb]] w fun e w' => Dn w0 w Y F N (s, 2, [], []) e w' := by
  obtain ⟨W, hW⟩ : ∃ W, Hid ((w.alloc (.cells #[.int .u8 0, .string (txt n), .string (txt t), .slice Ab nl cb] 40)).alloc (.cells #[.int .i64 0, .slice none 0 0, .slice none 0 0] 51) = W) := ⟨_, rfl⟩
  obtain ⟨B, hb⟩ : ∃ B, Hid (w.heap.size = B) := ⟨_, rfl⟩
  obtain ⟨R, hR⟩ : ∃ R, Hid (w.heap.size + 1 = R) := ⟨_, rfl⟩
  obtain ⟨L, hL⟩ : ∃ L, Hid (W.heap.size = L) := ⟨_, rfl⟩
  obtain ⟨W4, hW4⟩ : ∃ W4, Hid ((W.alloc (.cells #[.nilFunc, .nilFunc, .nilFunc, .nilFunc, .nilFunc, .nilFunc, .nilFunc, .nilFunc, .nilFunc] 101)).setRow L doFns = W4) := ⟨_, rfl⟩
  have hcb := Lib.hid (Cb.of hW.out hb.out hR.out)
  have hc : Hid (Cl w W W4 B R L (.int .u8 0) (.string (txt n)) (.string (txt t)) (.slice Ab nl cb)) := by
    rw [← hW4.out]
    have hg := heap_alloc_new W (.cells #[.nilFunc, .nilFunc, .nilFunc, .nilFunc, .nilFunc, .nilFunc, .nilFunc, .nilFunc, .nilFunc] 101)
    rw [hL.out] at hg
    exact ⟨hcb.out, setRow_heap _ _ _ _ _ _ hg, below_setRow (below_new _ _) (by rw [hL.out]; exact Nat.le_refl _) _, hL.out, by rw [size_setRow]; simp⟩
  have h4 := Lib.hid (hc.out.enter h)
  obtain ⟨c0, c1, c2, c3⟩ := quad_cell (hc.out.at_ (Touch.refl (Fr w0 (YL Y B R L)) _)).1
  have l0 : W4.cell? ⟨L, 0, none⟩ = some .nilFunc := by rw [cell_of_row _ L 0 _ _ _ hc.out.arr]; rfl
  have r0 := tri_cell (hc.out.at_ (Touch.refl (Fr w0 (YL Y B R L)) _)).2.1
  have rf := fun i => d_frozen (i := i) (hc.out.at_ (Touch.refl (Fr w0 (YL Y B R L)) _)).2.1
  clear h
  have hgL : (W.alloc (.cells #[.nilFunc, .nilFunc, .nilFunc, .nilFunc, .nilFunc, .nilFunc, .nilFunc, .nilFunc, .nilFunc] 101)).heap[L]? = some (.cells #[.nilFunc, .nilFunc, .nilFunc, .nilFunc, .nilFunc, .nilFunc, .nilFunc, .nilFunc, .nilFunc] 101 (0, 0)) := by rw [← hL.out]; exact heap_alloc_new _ _
  have hq := run_eqFnN
  go_enter Tryz.func13, Tryz.ntmps13
  go_upto_region 1 with fail
  rw [hW.out, hR.out, hb.out]
  go_upto_region 4 with (rw [hL.out]; refine wpList_store_row rfl 101 (.tmp 5) (.tmp 9) rfl L _ rfl rfl _ _ hgL size_arr rfl doFns_one ?_; rw [show (W.alloc (.cells #[.nilFunc, .nilFunc, .nilFunc, .nilFunc, .nilFunc, .nilFunc, .nilFunc, .nilFunc, .nilFunc] 101)).setRow L #[.nilFunc, .func (.func 33) #[] #[], .func (.func 34) #[] #[], .func (.func 35) #[] #[], .func (.func 36) #[] #[], .func (.func 37) #[] #[], .func (.func 38) #[] #[], .func (.func 39) #[] #[], .func (.func 40) #[] #[]] = W4 from hW4.out]; clear hgL)
  go_wp2
  refine ret_res rfl R _ _ _ _ (0, 0) rfl (tri_set _ _ _ (hc.out.at_ (Touch.refl (Fr w0 (YL Y B R L)) _)).2.1) rfl ?_
  exact hc.out.done (Touch.refl _ _) (Touch.refl _ _) h4.out _ _ _ (ReV.err _ _ 2)
set_option maxHeartbeats 4000000 in
set_option maxRecDepth 100000 in
theorem fdo9_any {n t : List UInt8} {Ab : Option Addr} {nl cb kk : Nat} (hk1 : 9 ≤ kk) (hk2 : kk ≤ 255) (h : FS w0 Y F s N w) :
    Calls Tryz.prog 13 #[.pointer (some ⟨F, 0, none⟩), .agg #[.int .u8 (kk : Int), .string (txt n), .string (txt t), .slice Ab nl cb]] w fun e w' => Dn w0 w Y F N (s, 2, [], []) e w' := by
  obtain ⟨W, hW⟩ : ∃ W, Hid ((w.alloc (.cells #[.int .u8 (kk : Int), .string (txt n), .string (txt t), .slice Ab nl cb] 40)).alloc (.cells #[.int .i64 0, .slice none 0 0, .slice none 0 0] 51) = W) := ⟨_, rfl⟩
  obtain ⟨B, hb⟩ : ∃ B, Hid (w.heap.size = B) := ⟨_, rfl⟩
  obtain ⟨R, hR⟩ : ∃ R, Hid (w.heap.size + 1 = R) := ⟨_, rfl⟩
  obtain ⟨L, hL⟩ : ∃ L, Hid (W.heap.size = L) := ⟨_, rfl⟩
  obtain ⟨W4, hW4⟩ : ∃ W4, Hid ((W.alloc (.cells #[.nilFunc, .nilFunc, .nilFunc, .nilFunc, .nilFunc, .nilFunc, .nilFunc, .nilFunc, .nilFunc] 101)).setRow L doFns = W4) := ⟨_, rfl⟩
  have hcb := Lib.hid (Cb.of hW.out hb.out hR.out)
  have hc : Hid (Cl w W W4 B R L (.int .u8 (kk : Int)) (.string (txt n)) (.string (txt t)) (.slice Ab nl cb)) := by
    rw [← hW4.out]
    have hg := heap_alloc_new W (.cells #[.nilFunc, .nilFunc, .nilFunc, .nilFunc, .nilFunc, .nilFunc, .nilFunc, .nilFunc, .nilFunc] 101)
    rw [hL.out] at hg
    exact ⟨hcb.out, setRow_heap _ _ _ _ _ _ hg, below_setRow (below_new _ _) (by rw [hL.out]; exact Nat.le_refl _) _, hL.out, by rw [size_setRow]; simp⟩
  have h4 := Lib.hid (hc.out.enter h)
  obtain ⟨c0, c1, c2, c3⟩ := quad_cell (hc.out.at_ (Touch.refl (Fr w0 (YL Y B R L)) _)).1
  have r0 := tri_cell (hc.out.at_ (Touch.refl (Fr w0 (YL Y B R L)) _)).2.1
  have rf := fun i => d_frozen (i := i) (hc.out.at_ (Touch.refl (Fr w0 (YL Y B R L)) _)).2.1
  clear h
  have hgL : (W.alloc (.cells #[.nilFunc, .nilFunc, .nilFunc, .nilFunc, .nilFunc, .nilFunc, .nilFunc, .nilFunc, .nilFunc] 101)).heap[L]? = some (.cells #[.nilFunc, .nilFunc, .nilFunc, .nilFunc, .nilFunc, .nilFunc, .nilFunc, .nilFunc, .nilFunc] 101 (0, 0)) := by rw [← hL.out]; exact heap_alloc_new _ _
  have hk1' : (9 : Int) ≤ (kk : Int) := by omega
  have hk2' : (kk : Int) ≤ 255 := by omega
  go_enter Tryz.func13, Tryz.ntmps13
  go_upto_region 1 with fail
  rw [hW.out, hR.out, hb.out]
  go_upto_region 4 with (rw [hL.out]; refine wpList_store_row rfl 101 (.tmp 5) (.tmp 9) rfl L _ rfl rfl _ _ hgL size_arr rfl doFns_one ?_; rw [show (W.alloc (.cells #[.nilFunc, .nilFunc, .nilFunc, .nilFunc, .nilFunc, .nilFunc, .nilFunc, .nilFunc, .nilFunc] 101)).setRow L #[.nilFunc, .func (.func 33) #[] #[], .func (.func 34) #[] #[], .func (.func 35) #[] #[], .func (.func 36) #[] #[], .func (.func 37) #[] #[], .func (.func 38) #[] #[], .func (.func 39) #[] #[], .func (.func 40) #[] #[]] = W4 from hW4.out]; clear hgL)
  go_wp2
  refine ret_res rfl R _ _ _ _ (0, 0) rfl (tri_set _ _ _ (hc.out.at_ (Touch.refl (Fr w0 (YL Y B R L)) _)).2.1) rfl ?_
  exact hc.out.done (Touch.refl _ _) (Touch.refl _ _) h4.out _ _ _ (ReV.err _ _ 2)
end
end Go.Proofs.YtbhmnmmockmibaaGreat

namespace Go.Proofs.YtbhmnmmockmibaaGreat
open Go.RowKit Go.Maps
def Fo.doC (s : Fo) (g : Nat) (k : Nat) (n t l : List UInt8) : OutF := match k with
  | 1 => s.doCreate g n
  | 2 => s.doWrite n l
  | 3 => s.doFsync n
  | 4 => (s.sync, 0, [], [])
  | 5 => s.doLink n t
  | 6 => ((s.doTake n).1, (s.doTake n).2, [], [])
  | 7 => (s, 0, s.d.now.map Prod.fst, [])
  | 8 => s.doRead n
  | _ => (s, 2, [], [])
section
variable {w0 w w' W : World} {Y Y' : Nat → Prop} {F N M B R L : Nat} {s s' : Fo} {k nm tt by_ : Value}
theorem fdo_any (h : FS w0 Y F s N w) (hN : N ≤ 880) {kk : Nat} (hk : kk ≤ 255) {n t : List UInt8} (hn : n.length ≤ 1000) (ht : t.length ≤ 1000) {Ab : Option Addr} {cb nl Bb : Nat} {l : List UInt8} (hnl : l.length = nl) (hl : nl ≤ 60) (hB : Bb ≤ w.heap.size) (hr : RdB w Bb Ab l) (hpos : ∀ e ∈ s.d.now, 0 ≤ e.2) :
    Calls Tryz.prog 13 #[.pointer (some ⟨F, 0, none⟩), .agg #[.int .u8 (kk : Int), .string (txt n), .string (txt t), .slice Ab nl cb]] w fun e w' => ∃ g, Dn w0 w Y F (N + 2) (s.doC g kk n t l) e w' := by
  have hbs : ∃ A n c, (Value.slice Ab nl cb) = .slice A n c := ⟨_, _, _, rfl⟩
  match kk, hk with
  | 0, _ => exact (fdo0_any h).mono fun e w' hd => ⟨0, hd.mono (by omega)⟩
  | 1, _ => exact fdo1_any h fun B R L W4 hb W5 hb5 h5 => (fcreate_any h5 (by omega) _ n t hn _ hbs).mono fun e w' hd => hd
  | 2, _ => exact fdo2_any h fun B R L W4 hb W5 hb5 h5 => (fwrite_any h5 (by omega) _ n t hn hnl hl (Nat.le_trans hB (Nat.le_trans hb.size hb5.size)) (Reads.below (Reads.below hr (hb.mono hB)) (hb5.mono (Nat.le_trans hB hb.size)))).mono fun e w' hd => ⟨0, hd.mono (by omega)⟩
  | 3, _ => exact fdo3_any h fun B R L W4 hb W5 hb5 h5 => (ffsync_any h5 (by omega) _ n t hn _ hbs).mono fun e w' hd => ⟨0, hd.mono (by omega)⟩
  | 4, _ => exact fdo4_any h fun B R L W4 hb W5 hb5 h5 => (ffsyncDir_any h5 (by omega) _ n t _ hbs).mono fun e w' hd => ⟨0, hd.mono (by omega)⟩
  | 5, _ => exact fdo5_any h fun B R L W4 hb W5 hb5 h5 => (flink_any h5 (by omega) _ n t hn ht _ hbs hpos).mono fun e w' hd => ⟨0, hd.mono (by omega)⟩
  | 6, _ => exact fdo6_any h fun B R L W4 hb W5 hb5 h5 => (funlink_any h5 (by omega) _ n t hn _ hbs).mono fun e w' hd => ⟨0, hd.mono (by omega)⟩
  | 7, _ => exact fdo7_any h fun B R L W4 hb W5 hb5 h5 => (freaddir_any h5 (by omega) _ n t _ hbs).mono fun e w' hd => ⟨0, hd.mono (by omega)⟩
  | 8, _ => exact fdo8_any h fun B R L W4 hb W5 hb5 h5 => (fread_any h5 (by omega) _ n t hn _ hbs).mono fun e w' hd => ⟨0, hd.mono (by omega)⟩
  | j + 9, hj => exact (fdo9_any (by omega) hj h).mono fun e w' hd => ⟨0, hd.mono (by omega)⟩
theorem fpend_any (h : FS w0 Y F s N w) : Calls Tryz.prog 19 #[.pointer (some ⟨F, 0, none⟩)] w fun e w' => e = .returned (.int .i64 (s.d.ops.length : Int)) ∧ Below w.heap.size w w' := by
  have hp := Lib.hid h.dpend
  clear h
  go_enter Tryz.func19, Tryz.ntmps19
  go_wp2_with (go_at_call 57; refine hp.out.mono ?_; rintro e w1 ⟨rfl, rfl⟩)
  go_ret
  exact ⟨rfl, .refl _ _⟩
theorem fvol_any (h : FS w0 Y F s N w) (hN : N ≤ 900) : Calls Tryz.prog 20 #[.pointer (some ⟨F, 0, none⟩)] w fun e w' => e = .returned (.int .i64 (volF s.fs : Nat)) ∧ Below w.heap.size w w' := by
  have hp := Lib.hid (h.tvol hN)
  clear h
  go_enter Tryz.func20, Tryz.ntmps20
  go_wp2_with (go_at_call 58; refine hp.out.mono ?_; rintro e w1 ⟨rfl, hb⟩)
  go_ret
  exact ⟨rfl, hb⟩
theorem fused_any (h : FS w0 Y F s N w) (hN : N ≤ 900) : Calls Tryz.prog 23 #[.pointer (some ⟨F, 0, none⟩)] w fun e w' => e = .returned (.int .i64 (usedF s.fs : Nat)) ∧ Below w.heap.size w w' := by
  have hp := Lib.hid (h.tused hN)
  clear h
  go_enter Tryz.func23, Tryz.ntmps23
  go_wp2_with (go_at_call 59; refine hp.out.mono ?_; rintro e w1 ⟨rfl, hb⟩)
  go_ret
  exact ⟨rfl, hb⟩
end
end Go.Proofs.YtbhmnmmockmibaaGreat
