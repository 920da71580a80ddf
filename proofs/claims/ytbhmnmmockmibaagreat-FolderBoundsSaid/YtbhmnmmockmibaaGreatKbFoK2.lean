/- The walk of Do, of the kinds 1, 2, 3. Conditions: none. The walk of Do, of the kinds 4, 5, 6. Conditions: none. -/
import Derived.Test.YtbhmnmmockmibaaGreatKbFoK
namespace Go.Proofs.YtbhmnmmockmibaaGreat
open Go.RowKit Go.Maps
section
variable {w0 w w' W : World} {Y Y' : Nat → Prop} {F N M B R L : Nat} {s s' : Fo} {k nm tt by_ : Value}
set_option maxHeartbeats 4000000 in
set_option maxRecDepth 100000 in
theorem fdo1_any {n t : List UInt8} {Ab : Option Addr} {nl cb : Nat} {out : Nat → OutF} (h : FS w0 Y F s N w)
    (hcall : ∀ B R L W4, Below w.heap.size w W4 → HC w0 (YL Y B R L) F s N 33 (.agg #[.int .u8 1, .string (txt n), .string (txt t), .slice Ab nl cb]) out W4) :
    Calls Tryz.prog 13 #[.pointer (some ⟨F, 0, none⟩), .agg #[.int .u8 1, .string (txt n), .string (txt t), .slice Ab nl cb]] w fun e w' => ∃ g, Dn w0 w Y F (N + 2) (out g) e w' := by
  obtain ⟨W, hW⟩ : ∃ W, Hid ((w.alloc (.cells #[.int .u8 1, .string (txt n), .string (txt t), .slice Ab nl cb] 40)).alloc (.cells #[.int .i64 0, .slice none 0 0, .slice none 0 0] 51) = W) := ⟨_, rfl⟩
  obtain ⟨B, hb⟩ : ∃ B, Hid (w.heap.size = B) := ⟨_, rfl⟩
  obtain ⟨R, hR⟩ : ∃ R, Hid (w.heap.size + 1 = R) := ⟨_, rfl⟩
  obtain ⟨L, hL⟩ : ∃ L, Hid (W.heap.size = L) := ⟨_, rfl⟩
  obtain ⟨W4, hW4⟩ : ∃ W4, Hid ((W.alloc (.cells #[.nilFunc, .nilFunc, .nilFunc, .nilFunc, .nilFunc, .nilFunc, .nilFunc, .nilFunc, .nilFunc] 101)).setRow L doFns = W4) := ⟨_, rfl⟩
  have hcb := Lib.hid (Cb.of hW.out hb.out hR.out)
  have hc : Hid (Cl w W W4 B R L (.int .u8 1) (.string (txt n)) (.string (txt t)) (.slice Ab nl cb)) := by
    rw [← hW4.out]
    have hg := heap_alloc_new W (.cells #[.nilFunc, .nilFunc, .nilFunc, .nilFunc, .nilFunc, .nilFunc, .nilFunc, .nilFunc, .nilFunc] 101)
    rw [hL.out] at hg
    exact ⟨hcb.out, setRow_heap _ _ _ _ _ _ hg, below_setRow (below_new _ _) (by rw [hL.out]; exact Nat.le_refl _) _, hL.out, by rw [size_setRow]; simp⟩
  have h4 := Lib.hid (hc.out.enter h)
  have hcl := Lib.hid (hcall B R L W4 (hcb.out.below.trans (hc.out.below.mono hcb.out.below.size)))
  obtain ⟨c0, c1, c2, c3⟩ := quad_cell (hc.out.at_ (Touch.refl (Fr w0 (YL Y B R L)) _)).1
  have l0 : W4.cell? ⟨L, 1, none⟩ = some (.func (.func 33) #[] #[]) := by rw [cell_of_row _ L 1 _ _ _ hc.out.arr]; rfl
  have r0 := tri_cell (hc.out.at_ (Touch.refl (Fr w0 (YL Y B R L)) _)).2.1
  have rf := fun i => d_frozen (i := i) (hc.out.at_ (Touch.refl (Fr w0 (YL Y B R L)) _)).2.1
  clear h hcall
  have hgL : (W.alloc (.cells #[.nilFunc, .nilFunc, .nilFunc, .nilFunc, .nilFunc, .nilFunc, .nilFunc, .nilFunc, .nilFunc] 101)).heap[L]? = some (.cells #[.nilFunc, .nilFunc, .nilFunc, .nilFunc, .nilFunc, .nilFunc, .nilFunc, .nilFunc, .nilFunc] 101 (0, 0)) := by rw [← hL.out]; exact heap_alloc_new _ _
  have hq := run_eqFn 33
  go_enter Tryz.func13, Tryz.ntmps13
  go_upto_region 1 with fail
  rw [hW.out, hR.out, hb.out]
  go_upto_region 4 with (rw [hL.out]; refine wpList_store_row rfl 101 (.tmp 5) (.tmp 9) rfl L _ rfl rfl _ _ hgL size_arr rfl doFns_one ?_; rw [show (W.alloc (.cells #[.nilFunc, .nilFunc, .nilFunc, .nilFunc, .nilFunc, .nilFunc, .nilFunc, .nilFunc, .nilFunc] 101)).setRow L #[.nilFunc, .func (.func 33) #[] #[], .func (.func 34) #[] #[], .func (.func 35) #[] #[], .func (.func 36) #[] #[], .func (.func 37) #[] #[], .func (.func 38) #[] #[], .func (.func 39) #[] #[], .func (.func 40) #[] #[]] = W4 from hW4.out]; clear hgL)
  go_upto_region 6 with fail
  obtain ⟨W5, hW5⟩ : ∃ W5, Hid (W4.drew = W5) := ⟨_, rfl⟩
  have hb5 : Hid (Below W4.heap.size W4 W5) := by rw [← hW5.out]; exact (Below.refl _ _).drew
  have h5 := Lib.hid (h4.out.quiet hb5.out)
  have hcl5 := Lib.hid (hcl.out W5 hb5.out h5.out.1)
  go_region_held3 (fun wx => wx.cell? ⟨B, 0, none⟩ = some (.int .u8 1) ∧ wx.cell? ⟨B, 1, none⟩ = some (.string (txt n)) ∧ wx.cell? ⟨B, 2, none⟩ = some (.string (txt t)) ∧ wx.cell? ⟨B, 3, none⟩ = some (.slice Ab nl cb) ∧ wx.cell? ⟨L, 1, none⟩ = some (.func (.func 33) #[] #[])) (first | exact ⟨c0, c1, c2, c3, l0⟩ | exact kk6.out | exact kk7.out _ _ _) (first | (go_at_call 33; rw [hW5.out]; refine hcl5.out.mono ?_; rintro e w6 ⟨g, v, rfl, hr6, hf6, ht6⟩; obtain ⟨A6, n6, d6, A7, n7, d7, rfl, hr7⟩ := hr6; have Hr := Lib.hid hr7; have Hf6 := Lib.hid hf6; have Ht6 := Lib.hid ht6; have Ht7 := Lib.hid (h5.out.2.trans ht6); clear hr7 hf6 ht6; have k6 := hc.out.at_ Ht7.out; have s0 := tri_cell k6.2.1; have sf := fun i => d_frozen (i := i) k6.2.1; have kk6 := Lib.hid (hc.out.cells Ht7.out (i := 1) rfl); have kk7 := Lib.hid (fun x y z => hc.out.cells2 Ht7.out (i := 1) rfl x y z); clear k6))
  go_wp2
  refine ret_res rfl R _ _ _ _ (0, 0) rfl (tri_set _ _ _ (hc.out.at_ Ht7.out).2.1) rfl ?_
  exact ⟨g, hc.out.done h5.out.2 Ht6.out Hf6.out _ _ _ ⟨A6, n6, d6, A7, n7, d7, rfl, Hr.out⟩⟩
set_option maxHeartbeats 4000000 in
set_option maxRecDepth 100000 in
theorem fdo2_any {n t : List UInt8} {Ab : Option Addr} {nl cb : Nat} {out : Nat → OutF} (h : FS w0 Y F s N w)
    (hcall : ∀ B R L W4, Below w.heap.size w W4 → HC w0 (YL Y B R L) F s N 34 (.agg #[.int .u8 2, .string (txt n), .string (txt t), .slice Ab nl cb]) out W4) :
    Calls Tryz.prog 13 #[.pointer (some ⟨F, 0, none⟩), .agg #[.int .u8 2, .string (txt n), .string (txt t), .slice Ab nl cb]] w fun e w' => ∃ g, Dn w0 w Y F (N + 2) (out g) e w' := by
  obtain ⟨W, hW⟩ : ∃ W, Hid ((w.alloc (.cells #[.int .u8 2, .string (txt n), .string (txt t), .slice Ab nl cb] 40)).alloc (.cells #[.int .i64 0, .slice none 0 0, .slice none 0 0] 51) = W) := ⟨_, rfl⟩
  obtain ⟨B, hb⟩ : ∃ B, Hid (w.heap.size = B) := ⟨_, rfl⟩
  obtain ⟨R, hR⟩ : ∃ R, Hid (w.heap.size + 1 = R) := ⟨_, rfl⟩
  obtain ⟨L, hL⟩ : ∃ L, Hid (W.heap.size = L) := ⟨_, rfl⟩
  obtain ⟨W4, hW4⟩ : ∃ W4, Hid ((W.alloc (.cells #[.nilFunc, .nilFunc, .nilFunc, .nilFunc, .nilFunc, .nilFunc, .nilFunc, .nilFunc, .nilFunc] 101)).setRow L doFns = W4) := ⟨_, rfl⟩
  have hcb := Lib.hid (Cb.of hW.out hb.out hR.out)
  have hc : Hid (Cl w W W4 B R L (.int .u8 2) (.string (txt n)) (.string (txt t)) (.slice Ab nl cb)) := by
    rw [← hW4.out]
    have hg := heap_alloc_new W (.cells #[.nilFunc, .nilFunc, .nilFunc, .nilFunc, .nilFunc, .nilFunc, .nilFunc, .nilFunc, .nilFunc] 101)
    rw [hL.out] at hg
    exact ⟨hcb.out, setRow_heap _ _ _ _ _ _ hg, below_setRow (below_new _ _) (by rw [hL.out]; exact Nat.le_refl _) _, hL.out, by rw [size_setRow]; simp⟩
  have h4 := Lib.hid (hc.out.enter h)
  have hcl := Lib.hid (hcall B R L W4 (hcb.out.below.trans (hc.out.below.mono hcb.out.below.size)))
  obtain ⟨c0, c1, c2, c3⟩ := quad_cell (hc.out.at_ (Touch.refl (Fr w0 (YL Y B R L)) _)).1
  have l0 : W4.cell? ⟨L, 2, none⟩ = some (.func (.func 34) #[] #[]) := by rw [cell_of_row _ L 2 _ _ _ hc.out.arr]; rfl
  have r0 := tri_cell (hc.out.at_ (Touch.refl (Fr w0 (YL Y B R L)) _)).2.1
  have rf := fun i => d_frozen (i := i) (hc.out.at_ (Touch.refl (Fr w0 (YL Y B R L)) _)).2.1
  clear h hcall
  have hgL : (W.alloc (.cells #[.nilFunc, .nilFunc, .nilFunc, .nilFunc, .nilFunc, .nilFunc, .nilFunc, .nilFunc, .nilFunc] 101)).heap[L]? = some (.cells #[.nilFunc, .nilFunc, .nilFunc, .nilFunc, .nilFunc, .nilFunc, .nilFunc, .nilFunc, .nilFunc] 101 (0, 0)) := by rw [← hL.out]; exact heap_alloc_new _ _
  have hq := run_eqFn 34
  go_enter Tryz.func13, Tryz.ntmps13
  go_upto_region 1 with fail
  rw [hW.out, hR.out, hb.out]
  go_upto_region 4 with (rw [hL.out]; refine wpList_store_row rfl 101 (.tmp 5) (.tmp 9) rfl L _ rfl rfl _ _ hgL size_arr rfl doFns_one ?_; rw [show (W.alloc (.cells #[.nilFunc, .nilFunc, .nilFunc, .nilFunc, .nilFunc, .nilFunc, .nilFunc, .nilFunc, .nilFunc] 101)).setRow L #[.nilFunc, .func (.func 33) #[] #[], .func (.func 34) #[] #[], .func (.func 35) #[] #[], .func (.func 36) #[] #[], .func (.func 37) #[] #[], .func (.func 38) #[] #[], .func (.func 39) #[] #[], .func (.func 40) #[] #[]] = W4 from hW4.out]; clear hgL)
  go_upto_region 6 with fail
  obtain ⟨W5, hW5⟩ : ∃ W5, Hid (W4.drew = W5) := ⟨_, rfl⟩
  have hb5 : Hid (Below W4.heap.size W4 W5) := by rw [← hW5.out]; exact (Below.refl _ _).drew
  have h5 := Lib.hid (h4.out.quiet hb5.out)
  have hcl5 := Lib.hid (hcl.out W5 hb5.out h5.out.1)
  go_region_held3 (fun wx => wx.cell? ⟨B, 0, none⟩ = some (.int .u8 2) ∧ wx.cell? ⟨B, 1, none⟩ = some (.string (txt n)) ∧ wx.cell? ⟨B, 2, none⟩ = some (.string (txt t)) ∧ wx.cell? ⟨B, 3, none⟩ = some (.slice Ab nl cb) ∧ wx.cell? ⟨L, 2, none⟩ = some (.func (.func 34) #[] #[])) (first | exact ⟨c0, c1, c2, c3, l0⟩ | exact kk6.out | exact kk7.out _ _ _) (first | (go_at_call 34; rw [hW5.out]; refine hcl5.out.mono ?_; rintro e w6 ⟨g, v, rfl, hr6, hf6, ht6⟩; obtain ⟨A6, n6, d6, A7, n7, d7, rfl, hr7⟩ := hr6; have Hr := Lib.hid hr7; have Hf6 := Lib.hid hf6; have Ht6 := Lib.hid ht6; have Ht7 := Lib.hid (h5.out.2.trans ht6); clear hr7 hf6 ht6; have k6 := hc.out.at_ Ht7.out; have s0 := tri_cell k6.2.1; have sf := fun i => d_frozen (i := i) k6.2.1; have kk6 := Lib.hid (hc.out.cells Ht7.out (i := 2) rfl); have kk7 := Lib.hid (fun x y z => hc.out.cells2 Ht7.out (i := 2) rfl x y z); clear k6))
  go_wp2
  refine ret_res rfl R _ _ _ _ (0, 0) rfl (tri_set _ _ _ (hc.out.at_ Ht7.out).2.1) rfl ?_
  exact ⟨g, hc.out.done h5.out.2 Ht6.out Hf6.out _ _ _ ⟨A6, n6, d6, A7, n7, d7, rfl, Hr.out⟩⟩
set_option maxHeartbeats 4000000 in
set_option maxRecDepth 100000 in
theorem fdo3_any {n t : List UInt8} {Ab : Option Addr} {nl cb : Nat} {out : Nat → OutF} (h : FS w0 Y F s N w)
    (hcall : ∀ B R L W4, Below w.heap.size w W4 → HC w0 (YL Y B R L) F s N 35 (.agg #[.int .u8 3, .string (txt n), .string (txt t), .slice Ab nl cb]) out W4) :
    Calls Tryz.prog 13 #[.pointer (some ⟨F, 0, none⟩), .agg #[.int .u8 3, .string (txt n), .string (txt t), .slice Ab nl cb]] w fun e w' => ∃ g, Dn w0 w Y F (N + 2) (out g) e w' := by
  obtain ⟨W, hW⟩ : ∃ W, Hid ((w.alloc (.cells #[.int .u8 3, .string (txt n), .string (txt t), .slice Ab nl cb] 40)).alloc (.cells #[.int .i64 0, .slice none 0 0, .slice none 0 0] 51) = W) := ⟨_, rfl⟩
  obtain ⟨B, hb⟩ : ∃ B, Hid (w.heap.size = B) := ⟨_, rfl⟩
  obtain ⟨R, hR⟩ : ∃ R, Hid (w.heap.size + 1 = R) := ⟨_, rfl⟩
  obtain ⟨L, hL⟩ : ∃ L, Hid (W.heap.size = L) := ⟨_, rfl⟩
  obtain ⟨W4, hW4⟩ : ∃ W4, Hid ((W.alloc (.cells #[.nilFunc, .nilFunc, .nilFunc, .nilFunc, .nilFunc, .nilFunc, .nilFunc, .nilFunc, .nilFunc] 101)).setRow L doFns = W4) := ⟨_, rfl⟩
  have hcb := Lib.hid (Cb.of hW.out hb.out hR.out)
  have hc : Hid (Cl w W W4 B R L (.int .u8 3) (.string (txt n)) (.string (txt t)) (.slice Ab nl cb)) := by
    rw [← hW4.out]
    have hg := heap_alloc_new W (.cells #[.nilFunc, .nilFunc, .nilFunc, .nilFunc, .nilFunc, .nilFunc, .nilFunc, .nilFunc, .nilFunc] 101)
    rw [hL.out] at hg
    exact ⟨hcb.out, setRow_heap _ _ _ _ _ _ hg, below_setRow (below_new _ _) (by rw [hL.out]; exact Nat.le_refl _) _, hL.out, by rw [size_setRow]; simp⟩
  have h4 := Lib.hid (hc.out.enter h)
  have hcl := Lib.hid (hcall B R L W4 (hcb.out.below.trans (hc.out.below.mono hcb.out.below.size)))
  obtain ⟨c0, c1, c2, c3⟩ := quad_cell (hc.out.at_ (Touch.refl (Fr w0 (YL Y B R L)) _)).1
  have l0 : W4.cell? ⟨L, 3, none⟩ = some (.func (.func 35) #[] #[]) := by rw [cell_of_row _ L 3 _ _ _ hc.out.arr]; rfl
  have r0 := tri_cell (hc.out.at_ (Touch.refl (Fr w0 (YL Y B R L)) _)).2.1
  have rf := fun i => d_frozen (i := i) (hc.out.at_ (Touch.refl (Fr w0 (YL Y B R L)) _)).2.1
  clear h hcall
  have hgL : (W.alloc (.cells #[.nilFunc, .nilFunc, .nilFunc, .nilFunc, .nilFunc, .nilFunc, .nilFunc, .nilFunc, .nilFunc] 101)).heap[L]? = some (.cells #[.nilFunc, .nilFunc, .nilFunc, .nilFunc, .nilFunc, .nilFunc, .nilFunc, .nilFunc, .nilFunc] 101 (0, 0)) := by rw [← hL.out]; exact heap_alloc_new _ _
  have hq := run_eqFn 35
  go_enter Tryz.func13, Tryz.ntmps13
  go_upto_region 1 with fail
  rw [hW.out, hR.out, hb.out]
  go_upto_region 4 with (rw [hL.out]; refine wpList_store_row rfl 101 (.tmp 5) (.tmp 9) rfl L _ rfl rfl _ _ hgL size_arr rfl doFns_one ?_; rw [show (W.alloc (.cells #[.nilFunc, .nilFunc, .nilFunc, .nilFunc, .nilFunc, .nilFunc, .nilFunc, .nilFunc, .nilFunc] 101)).setRow L #[.nilFunc, .func (.func 33) #[] #[], .func (.func 34) #[] #[], .func (.func 35) #[] #[], .func (.func 36) #[] #[], .func (.func 37) #[] #[], .func (.func 38) #[] #[], .func (.func 39) #[] #[], .func (.func 40) #[] #[]] = W4 from hW4.out]; clear hgL)
  go_upto_region 6 with fail
  obtain ⟨W5, hW5⟩ : ∃ W5, Hid (W4.drew = W5) := ⟨_, rfl⟩
  have hb5 : Hid (Below W4.heap.size W4 W5) := by rw [← hW5.out]; exact (Below.refl _ _).drew
  have h5 := Lib.hid (h4.out.quiet hb5.out)
  have hcl5 := Lib.hid (hcl.out W5 hb5.out h5.out.1)
  go_region_held3 (fun wx => wx.cell? ⟨B, 0, none⟩ = some (.int .u8 3) ∧ wx.cell? ⟨B, 1, none⟩ = some (.string (txt n)) ∧ wx.cell? ⟨B, 2, none⟩ = some (.string (txt t)) ∧ wx.cell? ⟨B, 3, none⟩ = some (.slice Ab nl cb) ∧ wx.cell? ⟨L, 3, none⟩ = some (.func (.func 35) #[] #[])) (first | exact ⟨c0, c1, c2, c3, l0⟩ | exact kk6.out | exact kk7.out _ _ _) (first | (go_at_call 35; rw [hW5.out]; refine hcl5.out.mono ?_; rintro e w6 ⟨g, v, rfl, hr6, hf6, ht6⟩; obtain ⟨A6, n6, d6, A7, n7, d7, rfl, hr7⟩ := hr6; have Hr := Lib.hid hr7; have Hf6 := Lib.hid hf6; have Ht6 := Lib.hid ht6; have Ht7 := Lib.hid (h5.out.2.trans ht6); clear hr7 hf6 ht6; have k6 := hc.out.at_ Ht7.out; have s0 := tri_cell k6.2.1; have sf := fun i => d_frozen (i := i) k6.2.1; have kk6 := Lib.hid (hc.out.cells Ht7.out (i := 3) rfl); have kk7 := Lib.hid (fun x y z => hc.out.cells2 Ht7.out (i := 3) rfl x y z); clear k6))
  go_wp2
  refine ret_res rfl R _ _ _ _ (0, 0) rfl (tri_set _ _ _ (hc.out.at_ Ht7.out).2.1) rfl ?_
  exact ⟨g, hc.out.done h5.out.2 Ht6.out Hf6.out _ _ _ ⟨A6, n6, d6, A7, n7, d7, rfl, Hr.out⟩⟩
end
end Go.Proofs.YtbhmnmmockmibaaGreat

namespace Go.Proofs.YtbhmnmmockmibaaGreat
open Go.RowKit Go.Maps
section
variable {w0 w w' W : World} {Y Y' : Nat → Prop} {F N M B R L : Nat} {s s' : Fo} {k nm tt by_ : Value}
set_option maxHeartbeats 4000000 in
set_option maxRecDepth 100000 in
theorem fdo4_any {n t : List UInt8} {Ab : Option Addr} {nl cb : Nat} {out : Nat → OutF} (h : FS w0 Y F s N w)
    (hcall : ∀ B R L W4, Below w.heap.size w W4 → HC w0 (YL Y B R L) F s N 36 (.agg #[.int .u8 4, .string (txt n), .string (txt t), .slice Ab nl cb]) out W4) :
    Calls Tryz.prog 13 #[.pointer (some ⟨F, 0, none⟩), .agg #[.int .u8 4, .string (txt n), .string (txt t), .slice Ab nl cb]] w fun e w' => ∃ g, Dn w0 w Y F (N + 2) (out g) e w' := by
  obtain ⟨W, hW⟩ : ∃ W, Hid ((w.alloc (.cells #[.int .u8 4, .string (txt n), .string (txt t), .slice Ab nl cb] 40)).alloc (.cells #[.int .i64 0, .slice none 0 0, .slice none 0 0] 51) = W) := ⟨_, rfl⟩
  obtain ⟨B, hb⟩ : ∃ B, Hid (w.heap.size = B) := ⟨_, rfl⟩
  obtain ⟨R, hR⟩ : ∃ R, Hid (w.heap.size + 1 = R) := ⟨_, rfl⟩
  obtain ⟨L, hL⟩ : ∃ L, Hid (W.heap.size = L) := ⟨_, rfl⟩
  obtain ⟨W4, hW4⟩ : ∃ W4, Hid ((W.alloc (.cells #[.nilFunc, .nilFunc, .nilFunc, .nilFunc, .nilFunc, .nilFunc, .nilFunc, .nilFunc, .nilFunc] 101)).setRow L doFns = W4) := ⟨_, rfl⟩
  have hcb := Lib.hid (Cb.of hW.out hb.out hR.out)
  have hc : Hid (Cl w W W4 B R L (.int .u8 4) (.string (txt n)) (.string (txt t)) (.slice Ab nl cb)) := by
    rw [← hW4.out]
    have hg := heap_alloc_new W (.cells #[.nilFunc, .nilFunc, .nilFunc, .nilFunc, .nilFunc, .nilFunc, .nilFunc, .nilFunc, .nilFunc] 101)
    rw [hL.out] at hg
    exact ⟨hcb.out, setRow_heap _ _ _ _ _ _ hg, below_setRow (below_new _ _) (by rw [hL.out]; exact Nat.le_refl _) _, hL.out, by rw [size_setRow]; simp⟩
  have h4 := Lib.hid (hc.out.enter h)
  have hcl := Lib.hid (hcall B R L W4 (hcb.out.below.trans (hc.out.below.mono hcb.out.below.size)))
  obtain ⟨c0, c1, c2, c3⟩ := quad_cell (hc.out.at_ (Touch.refl (Fr w0 (YL Y B R L)) _)).1
  have l0 : W4.cell? ⟨L, 4, none⟩ = some (.func (.func 36) #[] #[]) := by rw [cell_of_row _ L 4 _ _ _ hc.out.arr]; rfl
  have r0 := tri_cell (hc.out.at_ (Touch.refl (Fr w0 (YL Y B R L)) _)).2.1
  have rf := fun i => d_frozen (i := i) (hc.out.at_ (Touch.refl (Fr w0 (YL Y B R L)) _)).2.1
  clear h hcall
  have hgL : (W.alloc (.cells #[.nilFunc, .nilFunc, .nilFunc, .nilFunc, .nilFunc, .nilFunc, .nilFunc, .nilFunc, .nilFunc] 101)).heap[L]? = some (.cells #[.nilFunc, .nilFunc, .nilFunc, .nilFunc, .nilFunc, .nilFunc, .nilFunc, .nilFunc, .nilFunc] 101 (0, 0)) := by rw [← hL.out]; exact heap_alloc_new _ _
  have hq := run_eqFn 36
  go_enter Tryz.func13, Tryz.ntmps13
  go_upto_region 1 with fail
  rw [hW.out, hR.out, hb.out]
  go_upto_region 4 with (rw [hL.out]; refine wpList_store_row rfl 101 (.tmp 5) (.tmp 9) rfl L _ rfl rfl _ _ hgL size_arr rfl doFns_one ?_; rw [show (W.alloc (.cells #[.nilFunc, .nilFunc, .nilFunc, .nilFunc, .nilFunc, .nilFunc, .nilFunc, .nilFunc, .nilFunc] 101)).setRow L #[.nilFunc, .func (.func 33) #[] #[], .func (.func 34) #[] #[], .func (.func 35) #[] #[], .func (.func 36) #[] #[], .func (.func 37) #[] #[], .func (.func 38) #[] #[], .func (.func 39) #[] #[], .func (.func 40) #[] #[]] = W4 from hW4.out]; clear hgL)
  go_upto_region 6 with fail
  obtain ⟨W5, hW5⟩ : ∃ W5, Hid (W4.drew = W5) := ⟨_, rfl⟩
  have hb5 : Hid (Below W4.heap.size W4 W5) := by rw [← hW5.out]; exact (Below.refl _ _).drew
  have h5 := Lib.hid (h4.out.quiet hb5.out)
  have hcl5 := Lib.hid (hcl.out W5 hb5.out h5.out.1)
  go_region_held3 (fun wx => wx.cell? ⟨B, 0, none⟩ = some (.int .u8 4) ∧ wx.cell? ⟨B, 1, none⟩ = some (.string (txt n)) ∧ wx.cell? ⟨B, 2, none⟩ = some (.string (txt t)) ∧ wx.cell? ⟨B, 3, none⟩ = some (.slice Ab nl cb) ∧ wx.cell? ⟨L, 4, none⟩ = some (.func (.func 36) #[] #[])) (first | exact ⟨c0, c1, c2, c3, l0⟩ | exact kk6.out | exact kk7.out _ _ _) (first | (go_at_call 36; rw [hW5.out]; refine hcl5.out.mono ?_; rintro e w6 ⟨g, v, rfl, hr6, hf6, ht6⟩; obtain ⟨A6, n6, d6, A7, n7, d7, rfl, hr7⟩ := hr6; have Hr := Lib.hid hr7; have Hf6 := Lib.hid hf6; have Ht6 := Lib.hid ht6; have Ht7 := Lib.hid (h5.out.2.trans ht6); clear hr7 hf6 ht6; have k6 := hc.out.at_ Ht7.out; have s0 := tri_cell k6.2.1; have sf := fun i => d_frozen (i := i) k6.2.1; have kk6 := Lib.hid (hc.out.cells Ht7.out (i := 4) rfl); have kk7 := Lib.hid (fun x y z => hc.out.cells2 Ht7.out (i := 4) rfl x y z); clear k6))
  go_wp2
  refine ret_res rfl R _ _ _ _ (0, 0) rfl (tri_set _ _ _ (hc.out.at_ Ht7.out).2.1) rfl ?_
  exact ⟨g, hc.out.done h5.out.2 Ht6.out Hf6.out _ _ _ ⟨A6, n6, d6, A7, n7, d7, rfl, Hr.out⟩⟩
set_option maxHeartbeats 4000000 in
set_option maxRecDepth 100000 in
theorem fdo5_any {n t : List UInt8} {Ab : Option Addr} {nl cb : Nat} {out : Nat → OutF} (h : FS w0 Y F s N w)
    (hcall : ∀ B R L W4, Below w.heap.size w W4 → HC w0 (YL Y B R L) F s N 37 (.agg #[.int .u8 5, .string (txt n), .string (txt t), .slice Ab nl cb]) out W4) :
    Calls Tryz.prog 13 #[.pointer (some ⟨F, 0, none⟩), .agg #[.int .u8 5, .string (txt n), .string (txt t), .slice Ab nl cb]] w fun e w' => ∃ g, Dn w0 w Y F (N + 2) (out g) e w' := by
  obtain ⟨W, hW⟩ : ∃ W, Hid ((w.alloc (.cells #[.int .u8 5, .string (txt n), .string (txt t), .slice Ab nl cb] 40)).alloc (.cells #[.int .i64 0, .slice none 0 0, .slice none 0 0] 51) = W) := ⟨_, rfl⟩
  obtain ⟨B, hb⟩ : ∃ B, Hid (w.heap.size = B) := ⟨_, rfl⟩
  obtain ⟨R, hR⟩ : ∃ R, Hid (w.heap.size + 1 = R) := ⟨_, rfl⟩
  obtain ⟨L, hL⟩ : ∃ L, Hid (W.heap.size = L) := ⟨_, rfl⟩
  obtain ⟨W4, hW4⟩ : ∃ W4, Hid ((W.alloc (.cells #[.nilFunc, .nilFunc, .nilFunc, .nilFunc, .nilFunc, .nilFunc, .nilFunc, .nilFunc, .nilFunc] 101)).setRow L doFns = W4) := ⟨_, rfl⟩
  have hcb := Lib.hid (Cb.of hW.out hb.out hR.out)
  have hc : Hid (Cl w W W4 B R L (.int .u8 5) (.string (txt n)) (.string (txt t)) (.slice Ab nl cb)) := by
    rw [← hW4.out]
    have hg := heap_alloc_new W (.cells #[.nilFunc, .nilFunc, .nilFunc, .nilFunc, .nilFunc, .nilFunc, .nilFunc, .nilFunc, .nilFunc] 101)
    rw [hL.out] at hg
    exact ⟨hcb.out, setRow_heap _ _ _ _ _ _ hg, below_setRow (below_new _ _) (by rw [hL.out]; exact Nat.le_refl _) _, hL.out, by rw [size_setRow]; simp⟩
  have h4 := Lib.hid (hc.out.enter h)
  have hcl := Lib.hid (hcall B R L W4 (hcb.out.below.trans (hc.out.below.mono hcb.out.below.size)))
  obtain ⟨c0, c1, c2, c3⟩ := quad_cell (hc.out.at_ (Touch.refl (Fr w0 (YL Y B R L)) _)).1
  have l0 : W4.cell? ⟨L, 5, none⟩ = some (.func (.func 37) #[] #[]) := by rw [cell_of_row _ L 5 _ _ _ hc.out.arr]; rfl
  have r0 := tri_cell (hc.out.at_ (Touch.refl (Fr w0 (YL Y B R L)) _)).2.1
  have rf := fun i => d_frozen (i := i) (hc.out.at_ (Touch.refl (Fr w0 (YL Y B R L)) _)).2.1
  clear h hcall
  have hgL : (W.alloc (.cells #[.nilFunc, .nilFunc, .nilFunc, .nilFunc, .nilFunc, .nilFunc, .nilFunc, .nilFunc, .nilFunc] 101)).heap[L]? = some (.cells #[.nilFunc, .nilFunc, .nilFunc, .nilFunc, .nilFunc, .nilFunc, .nilFunc, .nilFunc, .nilFunc] 101 (0, 0)) := by rw [← hL.out]; exact heap_alloc_new _ _
  have hq := run_eqFn 37
  go_enter Tryz.func13, Tryz.ntmps13
  go_upto_region 1 with fail
  rw [hW.out, hR.out, hb.out]
  go_upto_region 4 with (rw [hL.out]; refine wpList_store_row rfl 101 (.tmp 5) (.tmp 9) rfl L _ rfl rfl _ _ hgL size_arr rfl doFns_one ?_; rw [show (W.alloc (.cells #[.nilFunc, .nilFunc, .nilFunc, .nilFunc, .nilFunc, .nilFunc, .nilFunc, .nilFunc, .nilFunc] 101)).setRow L #[.nilFunc, .func (.func 33) #[] #[], .func (.func 34) #[] #[], .func (.func 35) #[] #[], .func (.func 36) #[] #[], .func (.func 37) #[] #[], .func (.func 38) #[] #[], .func (.func 39) #[] #[], .func (.func 40) #[] #[]] = W4 from hW4.out]; clear hgL)
  go_upto_region 6 with fail
  obtain ⟨W5, hW5⟩ : ∃ W5, Hid (W4.drew = W5) := ⟨_, rfl⟩
  have hb5 : Hid (Below W4.heap.size W4 W5) := by rw [← hW5.out]; exact (Below.refl _ _).drew
  have h5 := Lib.hid (h4.out.quiet hb5.out)
  have hcl5 := Lib.hid (hcl.out W5 hb5.out h5.out.1)
  go_region_held3 (fun wx => wx.cell? ⟨B, 0, none⟩ = some (.int .u8 5) ∧ wx.cell? ⟨B, 1, none⟩ = some (.string (txt n)) ∧ wx.cell? ⟨B, 2, none⟩ = some (.string (txt t)) ∧ wx.cell? ⟨B, 3, none⟩ = some (.slice Ab nl cb) ∧ wx.cell? ⟨L, 5, none⟩ = some (.func (.func 37) #[] #[])) (first | exact ⟨c0, c1, c2, c3, l0⟩ | exact kk6.out | exact kk7.out _ _ _) (first | (go_at_call 37; rw [hW5.out]; refine hcl5.out.mono ?_; rintro e w6 ⟨g, v, rfl, hr6, hf6, ht6⟩; obtain ⟨A6, n6, d6, A7, n7, d7, rfl, hr7⟩ := hr6; have Hr := Lib.hid hr7; have Hf6 := Lib.hid hf6; have Ht6 := Lib.hid ht6; have Ht7 := Lib.hid (h5.out.2.trans ht6); clear hr7 hf6 ht6; have k6 := hc.out.at_ Ht7.out; have s0 := tri_cell k6.2.1; have sf := fun i => d_frozen (i := i) k6.2.1; have kk6 := Lib.hid (hc.out.cells Ht7.out (i := 5) rfl); have kk7 := Lib.hid (fun x y z => hc.out.cells2 Ht7.out (i := 5) rfl x y z); clear k6))
  go_wp2
  refine ret_res rfl R _ _ _ _ (0, 0) rfl (tri_set _ _ _ (hc.out.at_ Ht7.out).2.1) rfl ?_
  exact ⟨g, hc.out.done h5.out.2 Ht6.out Hf6.out _ _ _ ⟨A6, n6, d6, A7, n7, d7, rfl, Hr.out⟩⟩
set_option maxHeartbeats 4000000 in
set_option maxRecDepth 100000 in
theorem fdo6_any {n t : List UInt8} {Ab : Option Addr} {nl cb : Nat} {out : Nat → OutF} (h : FS w0 Y F s N w)
    (hcall : ∀ B R L W4, Below w.heap.size w W4 → HC w0 (YL Y B R L) F s N 38 (.agg #[.int .u8 6, .string (txt n), .string (txt t), .slice Ab nl cb]) out W4) :
    Calls Tryz.prog 13 #[.pointer (some ⟨F, 0, none⟩), .agg #[.int .u8 6, .string (txt n), .string (txt t), .slice Ab nl cb]] w fun e w' => ∃ g, Dn w0 w Y F (N + 2) (out g) e w' := by
  obtain ⟨W, hW⟩ : ∃ W, Hid ((w.alloc (.cells #[.int .u8 6, .string (txt n), .string (txt t), .slice Ab nl cb] 40)).alloc (.cells #[.int .i64 0, .slice none 0 0, .slice none 0 0] 51) = W) := ⟨_, rfl⟩
  obtain ⟨B, hb⟩ : ∃ B, Hid (w.heap.size = B) := ⟨_, rfl⟩
  obtain ⟨R, hR⟩ : ∃ R, Hid (w.heap.size + 1 = R) := ⟨_, rfl⟩
  obtain ⟨L, hL⟩ : ∃ L, Hid (W.heap.size = L) := ⟨_, rfl⟩
  obtain ⟨W4, hW4⟩ : ∃ W4, Hid ((W.alloc (.cells #[.nilFunc, .nilFunc, .nilFunc, .nilFunc, .nilFunc, .nilFunc, .nilFunc, .nilFunc, .nilFunc] 101)).setRow L doFns = W4) := ⟨_, rfl⟩
  have hcb := Lib.hid (Cb.of hW.out hb.out hR.out)
  have hc : Hid (Cl w W W4 B R L (.int .u8 6) (.string (txt n)) (.string (txt t)) (.slice Ab nl cb)) := by
    rw [← hW4.out]
    have hg := heap_alloc_new W (.cells #[.nilFunc, .nilFunc, .nilFunc, .nilFunc, .nilFunc, .nilFunc, .nilFunc, .nilFunc, .nilFunc] 101)
    rw [hL.out] at hg
    exact ⟨hcb.out, setRow_heap _ _ _ _ _ _ hg, below_setRow (below_new _ _) (by rw [hL.out]; exact Nat.le_refl _) _, hL.out, by rw [size_setRow]; simp⟩
  have h4 := Lib.hid (hc.out.enter h)
  have hcl := Lib.hid (hcall B R L W4 (hcb.out.below.trans (hc.out.below.mono hcb.out.below.size)))
  obtain ⟨c0, c1, c2, c3⟩ := quad_cell (hc.out.at_ (Touch.refl (Fr w0 (YL Y B R L)) _)).1
  have l0 : W4.cell? ⟨L, 6, none⟩ = some (.func (.func 38) #[] #[]) := by rw [cell_of_row _ L 6 _ _ _ hc.out.arr]; rfl
  have r0 := tri_cell (hc.out.at_ (Touch.refl (Fr w0 (YL Y B R L)) _)).2.1
  have rf := fun i => d_frozen (i := i) (hc.out.at_ (Touch.refl (Fr w0 (YL Y B R L)) _)).2.1
  clear h hcall
  have hgL : (W.alloc (.cells #[.nilFunc, .nilFunc, .nilFunc, .nilFunc, .nilFunc, .nilFunc, .nilFunc, .nilFunc, .nilFunc] 101)).heap[L]? = some (.cells #[.nilFunc, .nilFunc, .nilFunc, .nilFunc, .nilFunc, .nilFunc, .nilFunc, .nilFunc, .nilFunc] 101 (0, 0)) := by rw [← hL.out]; exact heap_alloc_new _ _
  have hq := run_eqFn 38
  go_enter Tryz.func13, Tryz.ntmps13
  go_upto_region 1 with fail
  rw [hW.out, hR.out, hb.out]
  go_upto_region 4 with (rw [hL.out]; refine wpList_store_row rfl 101 (.tmp 5) (.tmp 9) rfl L _ rfl rfl _ _ hgL size_arr rfl doFns_one ?_; rw [show (W.alloc (.cells #[.nilFunc, .nilFunc, .nilFunc, .nilFunc, .nilFunc, .nilFunc, .nilFunc, .nilFunc, .nilFunc] 101)).setRow L #[.nilFunc, .func (.func 33) #[] #[], .func (.func 34) #[] #[], .func (.func 35) #[] #[], .func (.func 36) #[] #[], .func (.func 37) #[] #[], .func (.func 38) #[] #[], .func (.func 39) #[] #[], .func (.func 40) #[] #[]] = W4 from hW4.out]; clear hgL)
  go_upto_region 6 with fail
  obtain ⟨W5, hW5⟩ : ∃ W5, Hid (W4.drew = W5) := ⟨_, rfl⟩
  have hb5 : Hid (Below W4.heap.size W4 W5) := by rw [← hW5.out]; exact (Below.refl _ _).drew
  have h5 := Lib.hid (h4.out.quiet hb5.out)
  have hcl5 := Lib.hid (hcl.out W5 hb5.out h5.out.1)
  go_region_held3 (fun wx => wx.cell? ⟨B, 0, none⟩ = some (.int .u8 6) ∧ wx.cell? ⟨B, 1, none⟩ = some (.string (txt n)) ∧ wx.cell? ⟨B, 2, none⟩ = some (.string (txt t)) ∧ wx.cell? ⟨B, 3, none⟩ = some (.slice Ab nl cb) ∧ wx.cell? ⟨L, 6, none⟩ = some (.func (.func 38) #[] #[])) (first | exact ⟨c0, c1, c2, c3, l0⟩ | exact kk6.out | exact kk7.out _ _ _) (first | (go_at_call 38; rw [hW5.out]; refine hcl5.out.mono ?_; rintro e w6 ⟨g, v, rfl, hr6, hf6, ht6⟩; obtain ⟨A6, n6, d6, A7, n7, d7, rfl, hr7⟩ := hr6; have Hr := Lib.hid hr7; have Hf6 := Lib.hid hf6; have Ht6 := Lib.hid ht6; have Ht7 := Lib.hid (h5.out.2.trans ht6); clear hr7 hf6 ht6; have k6 := hc.out.at_ Ht7.out; have s0 := tri_cell k6.2.1; have sf := fun i => d_frozen (i := i) k6.2.1; have kk6 := Lib.hid (hc.out.cells Ht7.out (i := 6) rfl); have kk7 := Lib.hid (fun x y z => hc.out.cells2 Ht7.out (i := 6) rfl x y z); clear k6))
  go_wp2
  refine ret_res rfl R _ _ _ _ (0, 0) rfl (tri_set _ _ _ (hc.out.at_ Ht7.out).2.1) rfl ?_
  exact ⟨g, hc.out.done h5.out.2 Ht6.out Hf6.out _ _ _ ⟨A6, n6, d6, A7, n7, d7, rfl, Hr.out⟩⟩
end
end Go.Proofs.YtbhmnmmockmibaaGreat
