/- The walk of Do, of the kinds 7, 8. Conditions: none. The walk of Do, of any other kind. Conditions: none. Do, whatever is called; Pending, Volatile, Used. Conditions: at most 880 calls; names of at most 1000 bytes, 60 bytes written. The walk of the directory's failure: how many names each file has then. Conditions: at most 900 calls. -/
import Derived.Test.YtbhmnmmockmibaaGreatKkFoK
import Derived.Test.YtbhmnmmockmibaaGreatKkFoK2
import Derived.Test.YtbhmnmmockmibaaGreatKkFoD
import Derived.Test.YtbhmnmmockmibaaGreatKkFtS
namespace Go.Proofs.YtbhmnmmockmibaaGreat
open Go.RowKit Go.Maps
section
variable {w0 w w' W : World} {Y Y' : Nat → Prop} {F N M B R L : Nat} {s s' : Fo} {k nm tt by_ : Value}
set_option maxHeartbeats 4000000 in
set_option maxRecDepth 100000 in
theorem fdo7_any {n t : List UInt8} {Ab : Option Addr} {nl cb : Nat} {out : Nat → OutF} (h : FS w0 Y F s N w)
    (hcall : ∀ B R L W4, Below w.heap.size w W4 → HC w0 (YL Y B R L) F s N 39 (.agg #[.int .u8 7, .string (txt n), .string (txt t), .slice Ab nl cb]) out W4) :
    Calls Tryz.prog 13 #[.pointer (some ⟨F, 0, none⟩), .agg #[.int .u8 7, .string (txt n), .string (txt t), .slice Ab nl cb]] w fun e w' => ∃ g, Dn w0 w Y F (N + 2) (out g) e w' := by
  obtain ⟨W, hW⟩ : ∃ W, Hid ((w.alloc (.cells #[.int .u8 7, .string (txt n), .string (txt t), .slice Ab nl cb] 40)).alloc (.cells #[.int .i64 0, .slice none 0 0, .slice none 0 0] 51) = W) := ⟨_, rfl⟩
  obtain ⟨B, hb⟩ : ∃ B, Hid (w.heap.size = B) := ⟨_, rfl⟩
  obtain ⟨R, hR⟩ : ∃ R, Hid (w.heap.size + 1 = R) := ⟨_, rfl⟩
  obtain ⟨L, hL⟩ : ∃ L, Hid (W.heap.size = L) := ⟨_, rfl⟩
  obtain ⟨W4, hW4⟩ : ∃ W4, Hid ((W.alloc (.cells #[.nilFunc, .nilFunc, .nilFunc, .nilFunc, .nilFunc, .nilFunc, .nilFunc, .nilFunc, .nilFunc] 101)).setRow L doFns = W4) := ⟨_, rfl⟩
  have hcb := Lib.hid (Cb.of hW.out hb.out hR.out)
  have hc : Hid (Cl w W W4 B R L (.int .u8 7) (.string (txt n)) (.string (txt t)) (.slice Ab nl cb)) := by
    rw [← hW4.out]
    have hg := heap_alloc_new W (.cells #[.nilFunc, .nilFunc, .nilFunc, .nilFunc, .nilFunc, .nilFunc, .nilFunc, .nilFunc, .nilFunc] 101)
    rw [hL.out] at hg
    exact ⟨hcb.out, setRow_heap _ _ _ _ _ _ hg, below_setRow (below_new _ _) (by rw [hL.out]; exact Nat.le_refl _) _, hL.out, by rw [size_setRow]; simp⟩
  have h4 := Lib.hid (hc.out.enter h)
  have hcl := Lib.hid (hcall B R L W4 (hcb.out.below.trans (hc.out.below.mono hcb.out.below.size)))
  obtain ⟨c0, c1, c2, c3⟩ := quad_cell (hc.out.at_ (Touch.refl (Fr w0 (YL Y B R L)) _)).1
  have l0 : W4.cell? ⟨L, 7, none⟩ = some (.func (.func 39) #[] #[]) := by rw [cell_of_row _ L 7 _ _ _ hc.out.arr]; rfl
  have r0 := tri_cell (hc.out.at_ (Touch.refl (Fr w0 (YL Y B R L)) _)).2.1
  have rf := fun i => d_frozen (i := i) (hc.out.at_ (Touch.refl (Fr w0 (YL Y B R L)) _)).2.1
  clear h hcall
  have hgL : (W.alloc (.cells #[.nilFunc, .nilFunc, .nilFunc, .nilFunc, .nilFunc, .nilFunc, .nilFunc, .nilFunc, .nilFunc] 101)).heap[L]? = some (.cells #[.nilFunc, .nilFunc, .nilFunc, .nilFunc, .nilFunc, .nilFunc, .nilFunc, .nilFunc, .nilFunc] 101 (0, 0)) := by rw [← hL.out]; exact heap_alloc_new _ _
  have hq := run_eqFn 39
  go_enter Tryz.func13, Tryz.ntmps13
  go_upto_region 1 with fail
  rw [hW.out, hR.out, hb.out]
  go_upto_region 4 with (rw [hL.out]; refine wpList_store_row rfl 101 (.tmp 5) (.tmp 9) rfl L _ rfl rfl _ _ hgL size_arr rfl doFns_one ?_; rw [show (W.alloc (.cells #[.nilFunc, .nilFunc, .nilFunc, .nilFunc, .nilFunc, .nilFunc, .nilFunc, .nilFunc, .nilFunc] 101)).setRow L #[.nilFunc, .func (.func 33) #[] #[], .func (.func 34) #[] #[], .func (.func 35) #[] #[], .func (.func 36) #[] #[], .func (.func 37) #[] #[], .func (.func 38) #[] #[], .func (.func 39) #[] #[], .func (.func 40) #[] #[]] = W4 from hW4.out]; clear hgL)
  go_upto_region 6 with fail
  obtain ⟨W5, hW5⟩ : ∃ W5, Hid (W4.drew = W5) := ⟨_, rfl⟩
  have hb5 : Hid (Below W4.heap.size W4 W5) := by rw [← hW5.out]; exact (Below.refl _ _).drew
  have h5 := Lib.hid (h4.out.quiet hb5.out)
  have hcl5 := Lib.hid (hcl.out W5 hb5.out h5.out.1)
  go_region_held3 (fun wx => wx.cell? ⟨B, 0, none⟩ = some (.int .u8 7) ∧ wx.cell? ⟨B, 1, none⟩ = some (.string (txt n)) ∧ wx.cell? ⟨B, 2, none⟩ = some (.string (txt t)) ∧ wx.cell? ⟨B, 3, none⟩ = some (.slice Ab nl cb) ∧ wx.cell? ⟨L, 7, none⟩ = some (.func (.func 39) #[] #[])) (first | exact ⟨c0, c1, c2, c3, l0⟩ | exact kk6.out | exact kk7.out _ _ _) (first | (go_at_call 39; rw [hW5.out]; refine hcl5.out.mono ?_; rintro e w6 ⟨g, v, rfl, hr6, hf6, ht6⟩; obtain ⟨A6, n6, d6, A7, n7, d7, rfl, hr7⟩ := hr6; have Hr := Lib.hid hr7; have Hf6 := Lib.hid hf6; have Ht6 := Lib.hid ht6; have Ht7 := Lib.hid (h5.out.2.trans ht6); clear hr7 hf6 ht6; have k6 := hc.out.at_ Ht7.out; have s0 := tri_cell k6.2.1; have sf := fun i => d_frozen (i := i) k6.2.1; have kk6 := Lib.hid (hc.out.cells Ht7.out (i := 7) rfl); have kk7 := Lib.hid (fun x y z => hc.out.cells2 Ht7.out (i := 7) rfl x y z); clear k6))
  go_wp2
  refine ret_res rfl R _ _ _ _ (0, 0) rfl (tri_set _ _ _ (hc.out.at_ Ht7.out).2.1) rfl ?_
  exact ⟨g, hc.out.done h5.out.2 Ht6.out Hf6.out _ _ _ ⟨A6, n6, d6, A7, n7, d7, rfl, Hr.out⟩⟩
set_option maxHeartbeats 4000000 in
set_option maxRecDepth 100000 in
theorem fdo8_any {n t : List UInt8} {Ab : Option Addr} {nl cb : Nat} {out : Nat → OutF} (h : FS w0 Y F s N w)
    (hcall : ∀ B R L W4, Below w.heap.size w W4 → HC w0 (YL Y B R L) F s N 40 (.agg #[.int .u8 8, .string (txt n), .string (txt t), .slice Ab nl cb]) out W4) :
    Calls Tryz.prog 13 #[.pointer (some ⟨F, 0, none⟩), .agg #[.int .u8 8, .string (txt n), .string (txt t), .slice Ab nl cb]] w fun e w' => ∃ g, Dn w0 w Y F (N + 2) (out g) e w' := by
  obtain ⟨W, hW⟩ : ∃ W, Hid ((w.alloc (.cells #[.int .u8 8, .string (txt n), .string (txt t), .slice Ab nl cb] 40)).alloc (.cells #[.int .i64 0, .slice none 0 0, .slice none 0 0] 51) = W) := ⟨_, rfl⟩
  obtain ⟨B, hb⟩ : ∃ B, Hid (w.heap.size = B) := ⟨_, rfl⟩
  obtain ⟨R, hR⟩ : ∃ R, Hid (w.heap.size + 1 = R) := ⟨_, rfl⟩
  obtain ⟨L, hL⟩ : ∃ L, Hid (W.heap.size = L) := ⟨_, rfl⟩
  obtain ⟨W4, hW4⟩ : ∃ W4, Hid ((W.alloc (.cells #[.nilFunc, .nilFunc, .nilFunc, .nilFunc, .nilFunc, .nilFunc, .nilFunc, .nilFunc, .nilFunc] 101)).setRow L doFns = W4) := ⟨_, rfl⟩
  have hcb := Lib.hid (Cb.of hW.out hb.out hR.out)
  have hc : Hid (Cl w W W4 B R L (.int .u8 8) (.string (txt n)) (.string (txt t)) (.slice Ab nl cb)) := by
    rw [← hW4.out]
    have hg := heap_alloc_new W (.cells #[.nilFunc, .nilFunc, .nilFunc, .nilFunc, .nilFunc, .nilFunc, .nilFunc, .nilFunc, .nilFunc] 101)
    rw [hL.out] at hg
    exact ⟨hcb.out, setRow_heap _ _ _ _ _ _ hg, below_setRow (below_new _ _) (by rw [hL.out]; exact Nat.le_refl _) _, hL.out, by rw [size_setRow]; simp⟩
  have h4 := Lib.hid (hc.out.enter h)
  have hcl := Lib.hid (hcall B R L W4 (hcb.out.below.trans (hc.out.below.mono hcb.out.below.size)))
  obtain ⟨c0, c1, c2, c3⟩ := quad_cell (hc.out.at_ (Touch.refl (Fr w0 (YL Y B R L)) _)).1
  have l0 : W4.cell? ⟨L, 8, none⟩ = some (.func (.func 40) #[] #[]) := by rw [cell_of_row _ L 8 _ _ _ hc.out.arr]; rfl
  have r0 := tri_cell (hc.out.at_ (Touch.refl (Fr w0 (YL Y B R L)) _)).2.1
  have rf := fun i => d_frozen (i := i) (hc.out.at_ (Touch.refl (Fr w0 (YL Y B R L)) _)).2.1
  clear h hcall
  have hgL : (W.alloc (.cells #[.nilFunc, .nilFunc, .nilFunc, .nilFunc, .nilFunc, .nilFunc, .nilFunc, .nilFunc, .nilFunc] 101)).heap[L]? = some (.cells #[.nilFunc, .nilFunc, .nilFunc, .nilFunc, .nilFunc, .nilFunc, .nilFunc, .nilFunc, .nilFunc] 101 (0, 0)) := by rw [← hL.out]; exact heap_alloc_new _ _
  have hq := run_eqFn 40
  go_enter Tryz.func13, Tryz.ntmps13
  go_upto_region 1 with fail
  rw [hW.out, hR.out, hb.out]
  go_upto_region 4 with (rw [hL.out]; refine wpList_store_row rfl 101 (.tmp 5) (.tmp 9) rfl L _ rfl rfl _ _ hgL size_arr rfl doFns_one ?_; rw [show (W.alloc (.cells #[.nilFunc, .nilFunc, .nilFunc, .nilFunc, .nilFunc, .nilFunc, .nilFunc, .nilFunc, .nilFunc] 101)).setRow L #[.nilFunc, .func (.func 33) #[] #[], .func (.func 34) #[] #[], .func (.func 35) #[] #[], .func (.func 36) #[] #[], .func (.func 37) #[] #[], .func (.func 38) #[] #[], .func (.func 39) #[] #[], .func (.func 40) #[] #[]] = W4 from hW4.out]; clear hgL)
  go_upto_region 6 with fail
  obtain ⟨W5, hW5⟩ : ∃ W5, Hid (W4.drew = W5) := ⟨_, rfl⟩
  have hb5 : Hid (Below W4.heap.size W4 W5) := by rw [← hW5.out]; exact (Below.refl _ _).drew
  have h5 := Lib.hid (h4.out.quiet hb5.out)
  have hcl5 := Lib.hid (hcl.out W5 hb5.out h5.out.1)
  go_region_held3 (fun wx => wx.cell? ⟨B, 0, none⟩ = some (.int .u8 8) ∧ wx.cell? ⟨B, 1, none⟩ = some (.string (txt n)) ∧ wx.cell? ⟨B, 2, none⟩ = some (.string (txt t)) ∧ wx.cell? ⟨B, 3, none⟩ = some (.slice Ab nl cb) ∧ wx.cell? ⟨L, 8, none⟩ = some (.func (.func 40) #[] #[])) (first | exact ⟨c0, c1, c2, c3, l0⟩ | exact kk6.out | exact kk7.out _ _ _) (first | (go_at_call 40; rw [hW5.out]; refine hcl5.out.mono ?_; rintro e w6 ⟨g, v, rfl, hr6, hf6, ht6⟩; obtain ⟨A6, n6, d6, A7, n7, d7, rfl, hr7⟩ := hr6; have Hr := Lib.hid hr7; have Hf6 := Lib.hid hf6; have Ht6 := Lib.hid ht6; have Ht7 := Lib.hid (h5.out.2.trans ht6); clear hr7 hf6 ht6; have k6 := hc.out.at_ Ht7.out; have s0 := tri_cell k6.2.1; have sf := fun i => d_frozen (i := i) k6.2.1; have kk6 := Lib.hid (hc.out.cells Ht7.out (i := 8) rfl); have kk7 := Lib.hid (fun x y z => hc.out.cells2 Ht7.out (i := 8) rfl x y z); clear k6))
  go_wp2
  refine ret_res rfl R _ _ _ _ (0, 0) rfl (tri_set _ _ _ (hc.out.at_ Ht7.out).2.1) rfl ?_
  exact ⟨g, hc.out.done h5.out.2 Ht6.out Hf6.out _ _ _ ⟨A6, n6, d6, A7, n7, d7, rfl, Hr.out⟩⟩
end
end Go.Proofs.YtbhmnmmockmibaaGreat

namespace Go.Proofs.YtbhmnmmockmibaaGreat
open Go.RowKit Go.Maps
section
variable {w0 w w' W : World} {Y Y' : Nat → Prop} {F N M B R L : Nat} {s s' : Fo} {k nm tt by_ : Value}
set_option maxHeartbeats 4000000 in
set_option maxRecDepth 100000 in
theorem fdo0_any {n t : List UInt8} {Ab : Option Addr} {nl cb : Nat} (h : FS w0 Y F s N w) :
    Calls Tryz.prog 13 #[.pointer (some ⟨F, 0, none⟩), .agg #[.int .u8 0, .string (txt n), .string (txt t), .slice Ab nl cb]] w fun e w' => Dn w0 w Y F N (s, 2, [], []) e w' := by
  obtain ⟨W, hW⟩ : ∃ W, Hid ((w.alloc (.cells #[.int .u8 0, .string (txt n), .string (txt t), .slice Ab nl cb] 40)).alloc (.cells #[.int .i64 0, .slice none 0 0, .slice none 0 0] 51) = W) := ⟨_, rfl⟩
  obtain ⟨B, hb⟩ : ∃ B, Hid (w.heap.size = B) := ⟨_, rfl⟩
  obtain ⟨R, hR⟩ : ∃ R, Hid (w.heap.size + 1 = R) := ⟨_, rfl⟩
  obtain ⟨L, hL⟩ : ∃ L, Hid (W.heap.size = L) := ⟨_, rfl⟩
  obtain ⟨W4, hW4⟩ : ∃ W4, Hid ((W.alloc (.cells #[.nilFunc, .nilFunc, .nilFunc, .nilFunc, .nilFunc, .nilFunc, .nilFunc, .nilFunc, .nilFunc] 101)).setRow L doFns = W4) := ⟨_, rfl⟩
  have hcb := Lib.hid (Cb.of hW.out hb.out hR.out)
  have hc : Hid (Cl w W W4 B R L (.int .u8 0) (.string (txt n)) (.string (txt t)) (.slice Ab nl cb)) := by
    rw [← hW4.out]
    have hg := heap_alloc_new W (.cells #[.nilFunc, .nilFunc, .nilFunc, .nilFunc, .nilFunc, .nilFunc, .nilFunc, .nilFunc, .nilFunc] 101)
    rw [hL.out] at hg
    exact ⟨hcb.out, setRow_heap _ _ _ _ _ _ hg, below_setRow (below_new _ _) (by rw [hL.out]; exact Nat.le_refl _) _, hL.out, by rw [size_setRow]; simp⟩
  have h4 := Lib.hid (hc.out.enter h)
  obtain ⟨c0, c1, c2, c3⟩ := quad_cell (hc.out.at_ (Touch.refl (Fr w0 (YL Y B R L)) _)).1
  have l0 : W4.cell? ⟨L, 0, none⟩ = some .nilFunc := by rw [cell_of_row _ L 0 _ _ _ hc.out.arr]; rfl
  have r0 := tri_cell (hc.out.at_ (Touch.refl (Fr w0 (YL Y B R L)) _)).2.1
  have rf := fun i => d_frozen (i := i) (hc.out.at_ (Touch.refl (Fr w0 (YL Y B R L)) _)).2.1
  clear h
  have hgL : (W.alloc (.cells #[.nilFunc, .nilFunc, .nilFunc, .nilFunc, .nilFunc, .nilFunc, .nilFunc, .nilFunc, .nilFunc] 101)).heap[L]? = some (.cells #[.nilFunc, .nilFunc, .nilFunc, .nilFunc, .nilFunc, .nilFunc, .nilFunc, .nilFunc, .nilFunc] 101 (0, 0)) := by rw [← hL.out]; exact heap_alloc_new _ _
  have hq := run_eqFnN
  go_enter Tryz.func13, Tryz.ntmps13
  go_upto_region 1 with fail
  rw [hW.out, hR.out, hb.out]
  go_upto_region 4 with (rw [hL.out]; refine wpList_store_row rfl 101 (.tmp 5) (.tmp 9) rfl L _ rfl rfl _ _ hgL size_arr rfl doFns_one ?_; rw [show (W.alloc (.cells #[.nilFunc, .nilFunc, .nilFunc, .nilFunc, .nilFunc, .nilFunc, .nilFunc, .nilFunc, .nilFunc] 101)).setRow L #[.nilFunc, .func (.func 33) #[] #[], .func (.func 34) #[] #[], .func (.func 35) #[] #[], .func (.func 36) #[] #[], .func (.func 37) #[] #[], .func (.func 38) #[] #[], .func (.func 39) #[] #[], .func (.func 40) #[] #[]] = W4 from hW4.out]; clear hgL)
  go_wp2
  refine ret_res rfl R _ _ _ _ (0, 0) rfl (tri_set _ _ _ (hc.out.at_ (Touch.refl (Fr w0 (YL Y B R L)) _)).2.1) rfl ?_
  exact hc.out.done (Touch.refl _ _) (Touch.refl _ _) h4.out _ _ _ (ReV.err _ _ 2)
set_option maxHeartbeats 4000000 in
set_option maxRecDepth 100000 in
theorem fdo9_any {n t : List UInt8} {Ab : Option Addr} {nl cb kk : Nat} (hk1 : 9 ≤ kk) (hk2 : kk ≤ 255) (h : FS w0 Y F s N w) :
    Calls Tryz.prog 13 #[.pointer (some ⟨F, 0, none⟩), .agg #[.int .u8 (kk : Int), .string (txt n), .string (txt t), .slice Ab nl cb]] w fun e w' => Dn w0 w Y F N (s, 2, [], []) e w' := by
  obtain ⟨W, hW⟩ : ∃ W, Hid ((w.alloc (.cells #[.int .u8 (kk : Int), .string (txt n), .string (txt t), .slice Ab nl cb] 40)).alloc (.cells #[.int .i64 0, .slice none 0 0, .slice none 0 0] 51) = W) := ⟨_, rfl⟩
  obtain ⟨B, hb⟩ : ∃ B, Hid (w.heap.size = B) := ⟨_, rfl⟩
  obtain ⟨R, hR⟩ : ∃ R, Hid (w.heap.size + 1 = R) := ⟨_, rfl⟩
  obtain ⟨L, hL⟩ : ∃ L, Hid (W.heap.size = L) := ⟨_, rfl⟩
  obtain ⟨W4, hW4⟩ : ∃ W4, Hid ((W.alloc (.cells #[.nilFunc, .nilFunc, .nilFunc, .nilFunc, .nilFunc, .nilFunc, .nilFunc, .nilFunc, .nilFunc] 101)).setRow L doFns = W4) := ⟨_, rfl⟩
  have hcb := Lib.hid (Cb.of hW.out hb.out hR.out)
  have hc : Hid (Cl w W W4 B R L (.int .u8 (kk : Int)) (.string (txt n)) (.string (txt t)) (.slice Ab nl cb)) := by
    rw [← hW4.out]
    have hg := heap_alloc_new W (.cells #[.nilFunc, .nilFunc, .nilFunc, .nilFunc, .nilFunc, .nilFunc, .nilFunc, .nilFunc, .nilFunc] 101)
    rw [hL.out] at hg
    exact ⟨hcb.out, setRow_heap _ _ _ _ _ _ hg, below_setRow (below_new _ _) (by rw [hL.out]; exact Nat.le_refl _) _, hL.out, by rw [size_setRow]; simp⟩
  have h4 := Lib.hid (hc.out.enter h)
  obtain ⟨c0, c1, c2, c3⟩ := quad_cell (hc.out.at_ (Touch.refl (Fr w0 (YL Y B R L)) _)).1
  have r0 := tri_cell (hc.out.at_ (Touch.refl (Fr w0 (YL Y B R L)) _)).2.1
  have rf := fun i => d_frozen (i := i) (hc.out.at_ (Touch.refl (Fr w0 (YL Y B R L)) _)).2.1
  clear h
  have hgL : (W.alloc (.cells #[.nilFunc, .nilFunc, .nilFunc, .nilFunc, .nilFunc, .nilFunc, .nilFunc, .nilFunc, .nilFunc] 101)).heap[L]? = some (.cells #[.nilFunc, .nilFunc, .nilFunc, .nilFunc, .nilFunc, .nilFunc, .nilFunc, .nilFunc, .nilFunc] 101 (0, 0)) := by rw [← hL.out]; exact heap_alloc_new _ _
  have hk1' : (9 : Int) ≤ (kk : Int) := by omega
  have hk2' : (kk : Int) ≤ 255 := by omega
  go_enter Tryz.func13, Tryz.ntmps13
  go_upto_region 1 with fail
  rw [hW.out, hR.out, hb.out]
  go_upto_region 4 with (rw [hL.out]; refine wpList_store_row rfl 101 (.tmp 5) (.tmp 9) rfl L _ rfl rfl _ _ hgL size_arr rfl doFns_one ?_; rw [show (W.alloc (.cells #[.nilFunc, .nilFunc, .nilFunc, .nilFunc, .nilFunc, .nilFunc, .nilFunc, .nilFunc, .nilFunc] 101)).setRow L #[.nilFunc, .func (.func 33) #[] #[], .func (.func 34) #[] #[], .func (.func 35) #[] #[], .func (.func 36) #[] #[], .func (.func 37) #[] #[], .func (.func 38) #[] #[], .func (.func 39) #[] #[], .func (.func 40) #[] #[]] = W4 from hW4.out]; clear hgL)
  go_wp2
  refine ret_res rfl R _ _ _ _ (0, 0) rfl (tri_set _ _ _ (hc.out.at_ (Touch.refl (Fr w0 (YL Y B R L)) _)).2.1) rfl ?_
  exact hc.out.done (Touch.refl _ _) (Touch.refl _ _) h4.out _ _ _ (ReV.err _ _ 2)
end
end Go.Proofs.YtbhmnmmockmibaaGreat

namespace Go.Proofs.YtbhmnmmockmibaaGreat
open Go.RowKit Go.Maps
/-- What a call does; g: the block of the file that it makes. -/
def Fo.doC (s : Fo) (g : Nat) (k : Nat) (n t l : List UInt8) : OutF := match k with
  | 1 => s.doCreate g n
  | 2 => s.doWrite n l
  | 3 => s.doFsync n
  | 4 => (s.sync, 0, [], [])
  | 5 => s.doLink n t
  | 6 => ((s.doTake n).1, (s.doTake n).2, [], [])
  | 7 => (s, 0, s.d.now.map Prod.fst, [])
  | 8 => s.doRead n
  | _ => (s, 2, [], [])
section
variable {w0 w w' W : World} {Y Y' : Nat → Prop} {F N M B R L : Nat} {s s' : Fo} {k nm tt by_ : Value}
theorem fdo_any (h : FS w0 Y F s N w) (hN : N ≤ 880) {kk : Nat} (hk : kk ≤ 255) {n t : List UInt8} (hn : n.length ≤ 1000) (ht : t.length ≤ 1000) {Ab : Option Addr} {cb nl Bb : Nat} {l : List UInt8} (hnl : l.length = nl) (hl : nl ≤ 60) (hB : Bb ≤ w.heap.size) (hr : RdB w Bb Ab l) (hpos : ∀ e ∈ s.d.now, 0 ≤ e.2) :
    Calls Tryz.prog 13 #[.pointer (some ⟨F, 0, none⟩), .agg #[.int .u8 (kk : Int), .string (txt n), .string (txt t), .slice Ab nl cb]] w fun e w' => ∃ g, Dn w0 w Y F (N + 2) (s.doC g kk n t l) e w' := by
  have hbs : ∃ A n c, (Value.slice Ab nl cb) = .slice A n c := ⟨_, _, _, rfl⟩
  match kk, hk with
  | 0, _ => exact (fdo0_any h).mono fun e w' hd => ⟨0, hd.mono (by omega)⟩
  | 1, _ => exact fdo1_any h fun B R L W4 hb W5 hb5 h5 => (fcreate_any h5 (by omega) _ n t hn _ hbs).mono fun e w' hd => hd
  | 2, _ => exact fdo2_any h fun B R L W4 hb W5 hb5 h5 => (fwrite_any h5 (by omega) _ n t hn hnl hl (Nat.le_trans hB (Nat.le_trans hb.size hb5.size)) (Reads.below (Reads.below hr (hb.mono hB)) (hb5.mono (Nat.le_trans hB hb.size)))).mono fun e w' hd => ⟨0, hd.mono (by omega)⟩
  | 3, _ => exact fdo3_any h fun B R L W4 hb W5 hb5 h5 => (ffsync_any h5 (by omega) _ n t hn _ hbs).mono fun e w' hd => ⟨0, hd.mono (by omega)⟩
  | 4, _ => exact fdo4_any h fun B R L W4 hb W5 hb5 h5 => (ffsyncDir_any h5 (by omega) _ n t _ hbs).mono fun e w' hd => ⟨0, hd.mono (by omega)⟩
  | 5, _ => exact fdo5_any h fun B R L W4 hb W5 hb5 h5 => (flink_any h5 (by omega) _ n t hn ht _ hbs hpos).mono fun e w' hd => ⟨0, hd.mono (by omega)⟩
  | 6, _ => exact fdo6_any h fun B R L W4 hb W5 hb5 h5 => (funlink_any h5 (by omega) _ n t hn _ hbs).mono fun e w' hd => ⟨0, hd.mono (by omega)⟩
  | 7, _ => exact fdo7_any h fun B R L W4 hb W5 hb5 h5 => (freaddir_any h5 (by omega) _ n t _ hbs).mono fun e w' hd => ⟨0, hd.mono (by omega)⟩
  | 8, _ => exact fdo8_any h fun B R L W4 hb W5 hb5 h5 => (fread_any h5 (by omega) _ n t hn _ hbs).mono fun e w' hd => ⟨0, hd.mono (by omega)⟩
  | j + 9, hj => exact (fdo9_any (by omega) hj h).mono fun e w' hd => ⟨0, hd.mono (by omega)⟩
theorem fpend_any (h : FS w0 Y F s N w) : Calls Tryz.prog 19 #[.pointer (some ⟨F, 0, none⟩)] w fun e w' => e = .returned (.int .i64 (s.d.ops.length : Int)) ∧ Below w.heap.size w w' := by
  have hp := Lib.hid h.dpend
  clear h
  go_enter Tryz.func19, Tryz.ntmps19
  go_wp2_with (go_at_call 57; refine hp.out.mono ?_; rintro e w1 ⟨rfl, rfl⟩)
  go_ret
  exact ⟨rfl, .refl _ _⟩
theorem fvol_any (h : FS w0 Y F s N w) (hN : N ≤ 900) : Calls Tryz.prog 20 #[.pointer (some ⟨F, 0, none⟩)] w fun e w' => e = .returned (.int .i64 (volF s.fs : Nat)) ∧ Below w.heap.size w w' := by
  have hp := Lib.hid (h.tvol hN)
  clear h
  go_enter Tryz.func20, Tryz.ntmps20
  go_wp2_with (go_at_call 58; refine hp.out.mono ?_; rintro e w1 ⟨rfl, hb⟩)
  go_ret
  exact ⟨rfl, hb⟩
end
end Go.Proofs.YtbhmnmmockmibaaGreat

namespace Go.Proofs.YtbhmnmmockmibaaGreat
open Go.RowKit Go.Maps
/-- A map that counts. -/
def CntM (w : World) (b : Nat) (l : List Int) : Prop := ∃ n D, n ≤ l.length ∧ w.ownsMap (H := Unit) Tryz.prog 3 (plainElem Tryz.prog 3) b n D ∧ IsMap D ∧ ∀ z, D.atKey (.int .i64 z) (.lit (.int .i64 0)) = .lit (.int .i64 (l.count z : Nat))
section
variable {w0 w w' W : World} {Y Y' X : Nat → Prop} {F N M B R L : Nat} {s s' : Fo} {b : Nat} {l : List Int} {z : Int}
theorem CntM.keep (h : CntM w b l) (ht : Touch X w w') (hx : ¬ X b) : CntM w' b l := by
  obtain ⟨n, D, h1, h2, h3, h4⟩ := h
  exact ⟨n, D, h1, owns_touch h2 ht hx, h3, h4⟩
theorem CntM.made (w : World) : CntM (w.alloc (.map #[] 0)) w.heap.size [] := ⟨0, .map [], Nat.le_refl _, World.ownsMap_made w Tryz.prog 3 (plainElem Tryz.prog 3), isMap_empty, fun _ => rfl⟩
theorem CntM.lt (h : CntM w b l) : b < w.heap.size := by
  obtain ⟨n, D, h1, h2, _⟩ := h
  exact h2.lt
set_option maxRecDepth 100000 in
theorem CntM.look (h : CntM w b l) (hz : -9223372036854775808 ≤ z ∧ z ≤ 9223372036854775807) : (Instr.lookup 86 (.map (some b)) (.int .i64 z) false).run Tryz.prog w = .ok (.int .i64 (l.count z : Nat)) w := by
  obtain ⟨n, D, h1, h2, h3, h4⟩ := h
  obtain ⟨c, hrun, hat, _⟩ := h2.lookup_int keyI Tryz.underlying86 Tryz.underlying3 (Tryz.zeroValue3 w) (key_i hz)
  rw [h4] at hat
  injection hat with hat
  injection hat with _ hat
  rw [hat]
  exact hrun
theorem cnt_snoc (l : List Int) (z y : Int) : ((l ++ [z]).count y : Nat) = l.count y + if z = y then 1 else 0 := by
  rw [List.count_append, List.count_singleton]
  by_cases h : z = y <;> simp [h]
set_option maxRecDepth 100000 in
theorem CntM.more (h : CntM w b l) (hz : -9223372036854775808 ≤ z ∧ z ≤ 9223372036854775807) (hl : l.length ≤ 1000) : ∃ w', (Instr.mapUpdate 86 (.map (some b)) (.int .i64 z) (.int .i64 ((l.count z : Nat) + 1))).run Tryz.prog w = .ok () w' ∧ CntM w' b (l ++ [z]) ∧ Touch (fun k => k = b) w w' := by
  obtain ⟨n, D, h1, h2, h3, h4⟩ := h
  have hc : l.count z ≤ 1000 := Nat.le_trans List.count_le_length hl
  have hc2 : -9223372036854775808 ≤ ((l.count z : Nat) : Int) + 1 ∧ ((l.count z : Nat) : Int) + 1 ≤ 9223372036854775807 := by omega
  obtain ⟨w3, hrun, hown3, hg3⟩ := h2.update keyI Tryz.underlying86 (by simp only [maxLen]; omega) (key_i hz) (plainElem_int Tryz.underlying3 (a := ((l.count z : Nat) : Int) + 1) (by simp only [Lit.wf, Bool.and_eq_true, decide_eq_true_eq]; exact hc2))
  refine ⟨w3, hrun, ⟨_, _, ?_, hown3, h3.put _ _, fun y => ?_⟩, Touch.grown hg3 fun k e => by injection e with e; exact e.symm⟩
  · rw [List.length_append, List.length_singleton]; omega
  · rw [cnt_snoc]
    by_cases hy : y = z
    · subst hy
      rw [atKey_put_same h3 (by simp [WideAt.IsKeyLit])]
      simp
    · rw [atKey_put_other (fun e => by injection e with _ e; exact hy e), h4, if_neg (fun e => hy e.symm)]
      rfl
def Fo.failN (s : Fo) (ops : Int) : Fo := { s with d := s.d.fail ops, many := ((s.d.fail ops).now.length : Int), tk := [] }
theorem snd_snoc {m : List EnD} {j : Nat} {e : EnD} (h : m[j]? = some e) : (m.take (j + 1)).map Prod.snd = (m.take j).map Prod.snd ++ [e.2] := by
  obtain ⟨hj, e'⟩ := List.getElem?_eq_some_iff.1 h
  rw [List.take_succ_eq_append_getElem hj, List.map_append, e']
  rfl
set_option maxHeartbeats 4000000 in
set_option maxRecDepth 100000 in
theorem FS.nfail (h : FS w0 Y F s N w) (hN : N ≤ 900) (ops : Int) (hk1 : -9223372036854775808 ≤ ops) (hk2 : ops ≤ 9223372036854775807) :
    Calls Tryz.prog 27 #[.pointer (some ⟨F, 0, none⟩), .int .i64 ops] w fun e w' => ∃ b, e = .returned (.map (some b)) ∧ CntM w' b ((s.d.fail ops).now.map Prod.snd) ∧ FS w0 (fun k => Y k ∨ k = b) F (s.failN ops) N w' ∧ Touch (Fr w0 Y) w w' := by
  obtain ⟨c, nm, pd, tk, mp, h0⟩ := h.ex
  have htop := h0.top
  have c4 := (f_cells htop).2.2
  have fz := fun i => d_frozen (i := i) htop
  obtain ⟨W1, hW1⟩ : ∃ W1, Hid (w.setCell ⟨F, 4, none⟩ (.slice none 0 0) = W1) := ⟨_, rfl⟩
  obtain ⟨c1, h1, ht1, _⟩ := h0.ownS (many := s.many) (l := []) (tk' := .slice none 0 0) ((Touch.cell1 w F 4 (.slice none 0 0)).mono fun _ _ e => .inl e) (f_set4 _ htop) (World.ownsRow_nil _ _ _ _) (.inl rfl)
  rw [hW1.out] at h1 ht1
  obtain ⟨m, hm⟩ : ∃ m, Hid ((s.d.fail ops).now = m) := ⟨_, rfl⟩
  have hgood := h.ok.d.fail ops
  have hml : Hid (m.length ≤ 900) := by rw [← hm.out]; exact Nat.le_trans hgood.now.1 hN
  have hmv : Hid (∀ e ∈ m, -9223372036854775808 ≤ e.2 ∧ e.2 ≤ 9223372036854775807) := by rw [← hm.out]; exact fun e he => (hgood.now.2 e he).v
  have hfail := Lib.hid (fail_anyD h1.dir (by decide) h.ok.d (by omega) ops hk1 hk2)
  have Hpre : Hid (∀ w2, Did W1 c1 1 F (Fo.zz { s with tk := [] } (.slice none 0 0) mp) (s.d.fail ops) w2 →
      (Calls Tryz.prog 55 #[.pointer (some ⟨F, 0, none⟩)] w2 fun e w' => ∃ v, e = .returned v ∧ OwnEnD 120 w2.heap.size w' v m ∧ Below w2.heap.size w2 w') ∧
      ∀ w3, Below w2.heap.size w2 w3 → w3.cell? ⟨F, 3, none⟩ = some (.int .i64 s.many) ∧ w3.frozen? ⟨F, 3, none⟩ = false ∧ FS w0 Y F (s.failN ops) N (w3.setCell ⟨F, 3, none⟩ (.int .i64 (m.length : Int))) ∧ Touch (Fr w0 Y) w (w3.setCell ⟨F, 3, none⟩ (.int .i64 (m.length : Int))) ∧ F < w2.heap.size) := by
    intro w2 hd
    obtain ⟨c2, nm2, pd2, h2, ht2, _⟩ := h1.dirS hd
    rw [← hm.out]
    refine ⟨list_anyD h2.dir hgood (by omega), fun w3 hb => ?_⟩
    have h3 := h2.quiet hb
    have top3 := h3.top
    have t3 := Touch.cell1 w3 F 3 (.int .i64 ((s.d.fail ops).now.length : Int))
    obtain ⟨c4, h4, ht4, _⟩ := h3.ownS (many := ((s.d.fail ops).now.length : Int)) (l := []) (tk' := .slice none 0 0) (t3.mono fun _ _ e => .inl e) (f_set3 _ top3) (World.ownsRow_nil _ _ _ _) (.inl rfl)
    exact ⟨(f_cells top3).2.1, d_frozen top3, ⟨⟨c4, nm2, pd2, _, mp, h4⟩, hgood, h.ok.t, h.ok.most, rfl, Nat.zero_le _, by simp [Fo.failN]⟩, ht1.trans (ht2.trans ((Touch.of hb).trans ht4)), h2.lt⟩
  obtain ⟨len, hln⟩ : ∃ l, Hid (m.length = l) := ⟨_, rfl⟩
  have hlenI : (len : Int) ≤ 900 := by have := hml.out; have := hln.out; omega
  rw [hln.out] at Hpre
  rw [hm.out]
  have hmk := fun w => run_makeMap (P := Tryz.prog) 86 w
  clear h h0 htop h1 ht1 hgood hk1 hk2
  go_enter Tryz.func27, Tryz.ntmps27
  go_upto_region 2 with fail
  rw [hW1.out]
  clear c4 fz
  go_upto_region 4 with (first
    | (go_at_call 60; refine hfail.out.mono ?_; rintro e w2 ⟨rfl, hd⟩; have HP := Lib.hid (Hpre.out _ hd); clear hd)
    | (go_at_call 55; refine HP.out.1.mono ?_; rintro e w3 ⟨u, rfl, ho, hb3⟩; have HQ := Lib.hid (HP.out.2 _ hb3); obtain ⟨A, cap, rfl, hcap, hcm, hrd⟩ := own_form ho; have Ho := Lib.hid ho; have Hrd := Lib.hid hrd; clear ho hrd hb3 hcap hcm; rw [hln.out]))
  obtain ⟨c3, z3, hF, hT, hFl⟩ := HQ.out
  have HF := Lib.hid hF
  have HT := Lib.hid hT
  have HFl := Lib.hid hFl
  clear hF hT hFl
  obtain ⟨W5, hW5⟩ : ∃ W5, Hid (w3.setCell ⟨F, 3, none⟩ (.int .i64 (len : Int)) = W5) := ⟨_, rfl⟩
  go_upto_region 5 with fail
  rw [hW5.out]
  clear c3 z3
  obtain ⟨b, hb⟩ : ∃ b, Hid (W5.heap.size = b) := ⟨_, rfl⟩
  obtain ⟨W6, hW6⟩ : ∃ W6, Hid (W5.alloc (.map #[] 0) = W6) := ⟨_, rfl⟩
  go_upto_region 6 with fail
  rw [hW6.out, hb.out]
  clear hmk
  have hs5 : W5.heap.size = w3.heap.size := by rw [← hW5.out]; simp [World.setCell]
  have hc0 : Hid (CntM W6 b []) := by rw [← hW6.out, ← hb.out]; exact CntM.made W5
  have hb6 : Hid (Below W5.heap.size W5 W6) := by rw [← hW6.out]; exact below_new _ _
  have h6 : Hid (FS w0 (fun k => Y k ∨ k = b) F (s.failN ops) N W6) := by
    have h5 := HF.out
    rw [hW5.out] at h5
    refine h5.more hb6.out fun k hk => hk.imp id fun e => ?_
    rw [e, ← hb.out, ← hW6.out]
    simp
  have ht6 : Hid (Touch (Fr w0 Y) w W6) := by
    have h5 := HT.out
    rw [hW5.out] at h5
    exact h5.trans (.of hb6.out)
  have hlist : Hid (EnXD W6 (fun k => k = b) A m) := by
    have h3 : EnXD w3 (fun k => k = F ∨ k = b) A m := by
      refine ⟨Hrd.out.1, fun hn => ?_⟩
      obtain ⟨ad, e, hbl, hcc⟩ := Hrd.out.2 hn
      refine ⟨ad, e, hbl, ?_, hcc⟩
      rintro (e1 | e1)
      · have h7 := (Ho.out.lt ad.block (by rw [e]; rfl)).1
        have := HFl.out
        omega
      · have := hb.out; omega
    have h5 : EnXD W5 (fun k => k = F ∨ k = b) A m := by rw [← hW5.out]; exact h3.keep ((Touch.cell1 w3 F 3 _).mono fun _ _ e => .inl e)
    exact (h5.below hb6.out).mono fun k _ e => .inr e
  go_wp2
  go_loopw [29] (fun i wr => ∃ (j : Nat), j ≤ len ∧ i = .int .i64 (j : Int) ∧ Hid (CntM wr b ((m.take j).map Prod.snd)) ∧ Hid (Touch (fun k => k = b) W6 wr)) (fun i _ => len - (intOf i).toNat)
  case atStart => exact ⟨0, by omega, rfl, hc0.out, Touch.refl _ _⟩
  case round =>
    obtain ⟨j, hj, rfl, hcn, htr⟩ := hrel
    by_cases hlt : j < len
    · obtain ⟨ad, e, rfl, _, _, d0, d1, hx⟩ := EnXD.at_ (hlist.out.keep htr.out) (k := j) (by rw [hln.out]; exact hlt)
      have Hx := Lib.hid hx.out
      clear hx
      obtain ⟨ek, ez⟩ := e
      obtain ⟨Wa, hWa⟩ : ∃ Wa, Hid (wr.alloc (.cells #[.string (txt ek), .int .i64 ez] 120) = Wa) := ⟨_, rfl⟩
      obtain ⟨g, hg⟩ : ∃ g, Hid (wr.heap.size = g) := ⟨_, rfl⟩
      have e1 : Wa.cell? ⟨g, 1, none⟩ = some (.int .i64 ez) := by rw [← hWa.out, ← hg.out]; exact (two_cells (heap_alloc_new wr _)).2
      have hba : Hid (Below wr.heap.size wr Wa) := by rw [← hWa.out]; exact below_new _ _
      have hca : Hid (CntM Wa b ((m.take j).map Prod.snd)) := hcn.out.keep (Touch.of (X := fun _ => False) hba.out) fun e => e
      have hzb := hmv.out _ (List.mem_of_getElem? Hx.out)
      have hlk := hca.out.look hzb
      obtain ⟨w7, hup, hcn7, ht7⟩ := hca.out.more hzb (by rw [List.length_map, List.length_take]; have := hml.out; omega)
      have hcnt : List.count ez ((m.take j).map Prod.snd) ≤ 900 := Nat.le_trans List.count_le_length (by rw [List.length_map, List.length_take]; have := hml.out; omega)
      obtain ⟨q, hq⟩ : ∃ q : Nat, Hid (List.count ez ((m.take j).map Prod.snd) = q) := ⟨_, rfl⟩
      simp only at hlk hup hcnt
      rw [hq.out] at hlk hup hcnt
      have hqI : (q : Int) ≤ 900 := by omega
      have Hcn7 := Lib.hid hcn7
      have Ht7 := Lib.hid ht7
      have Hzb := Lib.hid hzb
      clear hcn7 ht7 hcnt hzb
      go_upto_region 9 with fail
      rw [hWa.out, hg.out]
      go_wp2
      go_roundw
      case rel => exact ⟨j + 1, by omega, by go_num, by rw [snd_snoc Hx.out]; exact Hcn7.out, (htr.out.trans (.of hba.out)).trans Ht7.out⟩
      case measure => simp [intOf]; omega
    · obtain rfl : j = len := by omega
      have hfull : m.take j = m := by rw [← hln.out, List.take_length]
      rw [hfull] at hcn
      have hfin := Lib.hid (h6.out.write (htr.out.mono fun k _ e => .inr e))
      go_wp2
      go_ret
      refine ⟨b, rfl, hcn.out, hfin.out, ht6.out.then_ htr.out fun k hk e => ?_⟩
      have h8 := HT.out.size
      rw [hW5.out] at h8
      have := hb.out
      omega
end
end Go.Proofs.YtbhmnmmockmibaaGreat
