/- Names held against each other, as the code does. Conditions: none. -/
import Derived.Test.YtipmpebckfaknaaDoorNmD
import Derived.Deep.CutRange
namespace Go.Proofs.YtipmpebckfaknaaDoor
open Go.RowKit

theorem enter_cmp8 (w : World) (args : Array Value) : (callFunc 31 args).run Tryd.prog w = .ok (.enter 31 args) w := by kernel_rfl
theorem enter_cmp64 (w : World) (args : Array Value) : (callFunc 32 args).run Tryd.prog w = .ok (.enter 32 args) w := by kernel_rfl
theorem enter_cmpOr (w : World) (args : Array Value) : (callFunc 30 args).run Tryd.prog w = .ok (.enter 30 args) w := by kernel_rfl
theorem grew_alloc (w : World) (x : Obj) : Grew w (w.alloc x) := ⟨below_new w x, Nat.le_refl _⟩
theorem cmp_q {f : FuncId} {args : Array Value} {w : World} {v : Value} (h : Calls Tryd.prog f args w fun e w' => e = .returned v ∧ w = w') : Calls Tryd.prog f args w fun e w' => ∃ u, e = .returned u ∧ Grew w w' ∧ u = v := by
  refine h.mono ?_
  rintro e w' ⟨rfl, rfl⟩
  exact ⟨_, rfl, Grew.refl _, rfl⟩
section
variable {b : Act} {w : World} {o : Oper}
theorem exec_build6I {x0 x1 x2 x3 x4 x5 : Operand} {v0 v1 v2 v3 v4 v5 : Int} (ho : o.op = .buildSlice 73 6 #[(0, x0), (1, x1), (2, x2), (3, x3), (4, x4), (5, x5)])
    (h0 : b.eval x0 = .int .i64 v0) (h1 : b.eval x1 = .int .i64 v1) (h2 : b.eval x2 = .int .i64 v2) (h3 : b.eval x3 = .int .i64 v3) (h4 : b.eval x4 = .int .i64 v4) (h5 : b.eval x5 = .int .i64 v5) :
    (execOp b.eval o).run Tryd.prog w = .ok (.value (.slice (some ⟨w.heap.size, 0, none⟩) 6 6)) (w.alloc (.cells ([v0, v1, v2, v3, v4, v5].map (Value.int .i64)).toArray 3)) := by
  unfold execOp
  simp only [ho, List.map_toArray, List.map_cons, List.map_nil, h0, h1, h2, h3, h4, h5]
  go_simp
theorem reads6 (w : World) (l : List Int) (hl : l.length = 6 := by rfl) : Reads (w.alloc (.cells (l.map (Value.int .i64)).toArray 3)) (w.alloc (.cells (l.map (Value.int .i64)).toArray 3)).heap.size 1 (some ⟨w.heap.size, 0, none⟩) 6 (l.map (Value.int .i64)) := by
  have := reads_new w 3 (l.map (Value.int .i64))
  rw [List.length_map, hl] at this
  have h2 : (w.alloc (.cells (l.map (Value.int .i64)).toArray 3)).heap.size = w.heap.size + 1 := by simp
  rw [h2]
  exact this
end
/-- What Compare's long row lays, operation by operation. -/
def CmpF (x y : Nm) (g h : Nat) : Nat → Value → World → Prop
  | 0, v, _ => v = .pointer (some ⟨g, 0, none⟩)
  | 1, v, _ => v = .int .u8 (x.k : Int)
  | 2, v, _ => v = .pointer (some ⟨h, 0, none⟩)
  | 3, v, _ => v = .int .u8 (y.k : Int)
  | 4, v, _ => v = .int .i64 (c3 x.k y.k)
  | 5, v, _ => v = .pointer (some ⟨g, 1, none⟩)
  | 6, v, _ => v = .int .u64 (x.d : Int)
  | 7, v, _ => v = .pointer (some ⟨h, 1, none⟩)
  | 8, v, _ => v = .int .u64 (y.d : Int)
  | 9, v, _ => v = .int .i64 (c3 x.d y.d)
  | 10, v, _ => v = .pointer (some ⟨g, 2, none⟩)
  | 11, v, _ => v = .int .u64 (x.n : Int)
  | 12, v, _ => v = .pointer (some ⟨h, 2, none⟩)
  | 13, v, _ => v = .int .u64 (y.n : Int)
  | 14, v, _ => v = .int .i64 (c3 x.n y.n)
  | 15, v, _ => v = .pointer (some ⟨g, 3, none⟩)
  | 16, v, _ => v = .int .u64 (x.p : Int)
  | 17, v, _ => v = .pointer (some ⟨h, 3, none⟩)
  | 18, v, _ => v = .int .u64 (y.p : Int)
  | 19, v, _ => v = .int .i64 (c3 x.p y.p)
  | 20, v, _ => v = .pointer (some ⟨g, 4, none⟩)
  | 21, v, _ => v = .int .u64 (x.i : Int)
  | 22, v, _ => v = .pointer (some ⟨h, 4, none⟩)
  | 23, v, _ => v = .int .u64 (y.i : Int)
  | 24, v, _ => v = .int .i64 (c3 x.i y.i)
  | 25, v, _ => v = .pointer (some ⟨g, 5, none⟩)
  | 26, v, _ => v = .int .u64 (x.c : Int)
  | 27, v, _ => v = .pointer (some ⟨h, 5, none⟩)
  | 28, v, _ => v = .int .u64 (y.c : Int)
  | 29, v, _ => v = .int .i64 (c3 x.c y.c)
  | 30, v, w => ∃ A c, v = .slice A 6 c ∧ Reads w w.heap.size 1 A 6 ([c3 x.k y.k, c3 x.d y.d, c3 x.n y.n, c3 x.p y.p, c3 x.i y.i, c3 x.c y.c].map (Value.int .i64))
  | 31, v, _ => v = .int .i64 (cmpOf x y)
  | 32, v, _ => v = .int .i64 (cmpOf x y)
  | _, _, _ => True
theorem CmpF.keep {x y : Nm} {g h : Nat} (j : Nat) (u : Value) (w w' : World) (hb : Grew w w') (hfact : CmpF x y g h j u w) : CmpF x y g h j u w' :=
  match j, hfact with
  | 0, h => h
  | 1, h => h
  | 2, h => h
  | 3, h => h
  | 4, h => h
  | 5, h => h
  | 6, h => h
  | 7, h => h
  | 8, h => h
  | 9, h => h
  | 10, h => h
  | 11, h => h
  | 12, h => h
  | 13, h => h
  | 14, h => h
  | 15, h => h
  | 16, h => h
  | 17, h => h
  | 18, h => h
  | 19, h => h
  | 20, h => h
  | 21, h => h
  | 22, h => h
  | 23, h => h
  | 24, h => h
  | 25, h => h
  | 26, h => h
  | 27, h => h
  | 28, h => h
  | 29, h => h
  | 30, h => let ⟨A, c, e, hR⟩ := h; ⟨A, c, e, Reads.more (Reads.below hR hb.1) hb.1.size⟩
  | 31, h => h
  | 32, h => h
  | _ + 33, h => h
def CmpC (W : World) (x y : Nm) (g h : Nat) (w : World) : Prop := Grew W w ∧ BoxNm x w ⟨g, 0, none⟩ ∧ BoxNm y w ⟨h, 0, none⟩
theorem CmpC.keep {W : World} {x y : Nm} {g h : Nat} (w w' : World) (hb : Grew w w') (hc : CmpC W x y g h w) : CmpC W x y g h w' := ⟨hc.1.trans hb, hc.2.1.keep hb.1, hc.2.2.keep hb.1⟩

set_option maxHeartbeats 2000000 in
set_option maxRecDepth 100000 in
theorem compare_any (x y : Nm) (w : World) : Calls Tryd.prog 14 #[x.v, y.v] w fun e w' => e = .returned (.int .i64 (cmpOf x y)) ∧ Grew w w' := by
  by_cases hxy : x = y
  · subst hxy
    rw [cmpOf_self]
    obtain ⟨k, d, n, p, i, c⟩ := x
    unfold Nm.v
    simp only
    go_enter Tryd.func14, Tryd.ntmps14
    go_wp2
    go_ret
    exact ⟨rfl, (grew_alloc _ _).trans (grew_alloc _ _)⟩
  · have hb1 := boxNm_new x w 24
    have hb2 := boxNm_new y (w.alloc (.cells x.cells.toArray 24)) 24
    obtain ⟨W, hW⟩ : ∃ W, Hid (W = (w.alloc (.cells #[.int .u8 (x.k : Int), .int .u64 (x.d : Int), .int .u64 (x.n : Int), .int .u64 (x.p : Int), .int .u64 (x.i : Int), .int .u64 (x.c : Int)] 24)).alloc (.cells #[.int .u8 (y.k : Int), .int .u64 (y.d : Int), .int .u64 (y.n : Int), .int .u64 (y.p : Int), .int .u64 (y.i : Int), .int .u64 (y.c : Int)] 24)) := ⟨_, rfl⟩
    have hb1' := hb1.keep (below_new _ (.cells y.cells.toArray 24))
    have hW' : W = (w.alloc (.cells x.cells.toArray 24)).alloc (.cells y.cells.toArray 24) := hW.out
    rw [← hW'] at hb2 hb1'
    have hz : (w.alloc (.cells x.cells.toArray 24)).heap.size = w.heap.size + 1 := by simp
    rw [hz] at hb2
    have hG : Grew w W := by rw [hW']; exact (grew_alloc _ _).trans (grew_alloc _ _)
    have HB1 := Lib.hid hb1'
    have HB2 := Lib.hid hb2
    have HG := Lib.hid hG
    clear hb1 hb2 hb1' hz hG hW'
    unfold Nm.v
    go_enter Tryd.func14, Tryd.ntmps14
    go_upto_region 1 with fail
    rw [← hW.out]
    refine wp_region_lit (wpList_run rfl (exec_loadN rfl rfl HB1.out) (wpList_run rfl (exec_loadN rfl rfl HB2.out) (wpList_run rfl (exec_eqN (m := x) (n := y) rfl rfl rfl) ?_)))
    rw [decide_eq_false hxy]
    go_wp2_with fail
    refine wp_region_facts (n := 40) (CmpF x y w.heap.size (w.heap.size + 1)) (CmpC W x y w.heap.size (w.heap.size + 1)) (by kernel_rfl) (by kernel_rfl) rfl ?_ ?_ ?_
    · exact ⟨⟨(Below.refl _ _).drew, Nat.le_succ _⟩, HB1.out.keep (Below.refl _ _).drew, HB2.out.keep (Below.refl _ _).drew⟩
    · skip
      refine OpsOk.cons _ _ (OpOk.runR _ _ Grew CmpF.keep CmpC.keep fun b v hs hc hg => ⟨rfl, _, _, exec_fieldN 0 (by decide) rfl (hs 2 (by kernel_rfl)), Grew.refl _, rfl⟩) ?_
      refine OpsOk.cons _ _ (OpOk.runR _ _ Grew CmpF.keep CmpC.keep fun b v hs hc hg => ⟨rfl, _, _, exec_load8 rfl (dep hg 0 rfl rfl rfl rfl) (hc.2.1).c0, Grew.refl _, rfl⟩) ?_
      refine OpsOk.cons _ _ (OpOk.runR _ _ Grew CmpF.keep CmpC.keep fun b v hs hc hg => ⟨rfl, _, _, exec_fieldN 0 (by decide) rfl (hs 3 (by kernel_rfl)), Grew.refl _, rfl⟩) ?_
      refine OpsOk.cons _ _ (OpOk.runR _ _ Grew CmpF.keep CmpC.keep fun b v hs hc hg => ⟨rfl, _, _, exec_load8 rfl (dep hg 0 rfl rfl rfl rfl) (hc.2.2).c0, Grew.refl _, rfl⟩) ?_
      refine OpsOk.cons _ _ (OpOk.callR _ _ Grew CmpF.keep CmpC.keep fun b v hs hc hg => ⟨rfl, _, _, exec_call2 (enter_cmp8 _) rfl (dep hg 0 rfl rfl rfl rfl) (dep hg 1 rfl rfl rfl rfl), cmp_q (cmp8_any x.k y.k v)⟩) ?_
      refine OpsOk.cons _ _ (OpOk.runR _ _ Grew CmpF.keep CmpC.keep fun b v hs hc hg => ⟨rfl, _, _, exec_fieldN 1 (by decide) rfl (hs 2 (by kernel_rfl)), Grew.refl _, rfl⟩) ?_
      refine OpsOk.cons _ _ (OpOk.runR _ _ Grew CmpF.keep CmpC.keep fun b v hs hc hg => ⟨rfl, _, _, exec_load64 rfl (dep hg 0 rfl rfl rfl rfl) (hc.2.1).c1, Grew.refl _, rfl⟩) ?_
      refine OpsOk.cons _ _ (OpOk.runR _ _ Grew CmpF.keep CmpC.keep fun b v hs hc hg => ⟨rfl, _, _, exec_fieldN 1 (by decide) rfl (hs 3 (by kernel_rfl)), Grew.refl _, rfl⟩) ?_
      refine OpsOk.cons _ _ (OpOk.runR _ _ Grew CmpF.keep CmpC.keep fun b v hs hc hg => ⟨rfl, _, _, exec_load64 rfl (dep hg 0 rfl rfl rfl rfl) (hc.2.2).c1, Grew.refl _, rfl⟩) ?_
      refine OpsOk.cons _ _ (OpOk.callR _ _ Grew CmpF.keep CmpC.keep fun b v hs hc hg => ⟨rfl, _, _, exec_call2 (enter_cmp64 _) rfl (dep hg 0 rfl rfl rfl rfl) (dep hg 1 rfl rfl rfl rfl), cmp_q (cmp64_any x.d y.d v)⟩) ?_
      refine OpsOk.cons _ _ (OpOk.runR _ _ Grew CmpF.keep CmpC.keep fun b v hs hc hg => ⟨rfl, _, _, exec_fieldN 2 (by decide) rfl (hs 2 (by kernel_rfl)), Grew.refl _, rfl⟩) ?_
      refine OpsOk.cons _ _ (OpOk.runR _ _ Grew CmpF.keep CmpC.keep fun b v hs hc hg => ⟨rfl, _, _, exec_load64 rfl (dep hg 0 rfl rfl rfl rfl) (hc.2.1).c2, Grew.refl _, rfl⟩) ?_
      refine OpsOk.cons _ _ (OpOk.runR _ _ Grew CmpF.keep CmpC.keep fun b v hs hc hg => ⟨rfl, _, _, exec_fieldN 2 (by decide) rfl (hs 3 (by kernel_rfl)), Grew.refl _, rfl⟩) ?_
      refine OpsOk.cons _ _ (OpOk.runR _ _ Grew CmpF.keep CmpC.keep fun b v hs hc hg => ⟨rfl, _, _, exec_load64 rfl (dep hg 0 rfl rfl rfl rfl) (hc.2.2).c2, Grew.refl _, rfl⟩) ?_
      refine OpsOk.cons _ _ (OpOk.callR _ _ Grew CmpF.keep CmpC.keep fun b v hs hc hg => ⟨rfl, _, _, exec_call2 (enter_cmp64 _) rfl (dep hg 0 rfl rfl rfl rfl) (dep hg 1 rfl rfl rfl rfl), cmp_q (cmp64_any x.n y.n v)⟩) ?_
      refine OpsOk.cons _ _ (OpOk.runR _ _ Grew CmpF.keep CmpC.keep fun b v hs hc hg => ⟨rfl, _, _, exec_fieldN 3 (by decide) rfl (hs 2 (by kernel_rfl)), Grew.refl _, rfl⟩) ?_
      refine OpsOk.cons _ _ (OpOk.runR _ _ Grew CmpF.keep CmpC.keep fun b v hs hc hg => ⟨rfl, _, _, exec_load64 rfl (dep hg 0 rfl rfl rfl rfl) (hc.2.1).c3, Grew.refl _, rfl⟩) ?_
      refine OpsOk.cons _ _ (OpOk.runR _ _ Grew CmpF.keep CmpC.keep fun b v hs hc hg => ⟨rfl, _, _, exec_fieldN 3 (by decide) rfl (hs 3 (by kernel_rfl)), Grew.refl _, rfl⟩) ?_
      refine OpsOk.cons _ _ (OpOk.runR _ _ Grew CmpF.keep CmpC.keep fun b v hs hc hg => ⟨rfl, _, _, exec_load64 rfl (dep hg 0 rfl rfl rfl rfl) (hc.2.2).c3, Grew.refl _, rfl⟩) ?_
      refine OpsOk.cons _ _ (OpOk.callR _ _ Grew CmpF.keep CmpC.keep fun b v hs hc hg => ⟨rfl, _, _, exec_call2 (enter_cmp64 _) rfl (dep hg 0 rfl rfl rfl rfl) (dep hg 1 rfl rfl rfl rfl), cmp_q (cmp64_any x.p y.p v)⟩) ?_
      refine OpsOk.cons _ _ (OpOk.runR _ _ Grew CmpF.keep CmpC.keep fun b v hs hc hg => ⟨rfl, _, _, exec_fieldN 4 (by decide) rfl (hs 2 (by kernel_rfl)), Grew.refl _, rfl⟩) ?_
      refine OpsOk.cons _ _ (OpOk.runR _ _ Grew CmpF.keep CmpC.keep fun b v hs hc hg => ⟨rfl, _, _, exec_load64 rfl (dep hg 0 rfl rfl rfl rfl) (hc.2.1).c4, Grew.refl _, rfl⟩) ?_
      refine OpsOk.cons _ _ (OpOk.runR _ _ Grew CmpF.keep CmpC.keep fun b v hs hc hg => ⟨rfl, _, _, exec_fieldN 4 (by decide) rfl (hs 3 (by kernel_rfl)), Grew.refl _, rfl⟩) ?_
      refine OpsOk.cons _ _ (OpOk.runR _ _ Grew CmpF.keep CmpC.keep fun b v hs hc hg => ⟨rfl, _, _, exec_load64 rfl (dep hg 0 rfl rfl rfl rfl) (hc.2.2).c4, Grew.refl _, rfl⟩) ?_
      refine OpsOk.cons _ _ (OpOk.callR _ _ Grew CmpF.keep CmpC.keep fun b v hs hc hg => ⟨rfl, _, _, exec_call2 (enter_cmp64 _) rfl (dep hg 0 rfl rfl rfl rfl) (dep hg 1 rfl rfl rfl rfl), cmp_q (cmp64_any x.i y.i v)⟩) ?_
      refine OpsOk.cons _ _ (OpOk.runR _ _ Grew CmpF.keep CmpC.keep fun b v hs hc hg => ⟨rfl, _, _, exec_fieldN 5 (by decide) rfl (hs 2 (by kernel_rfl)), Grew.refl _, rfl⟩) ?_
      refine OpsOk.cons _ _ (OpOk.runR _ _ Grew CmpF.keep CmpC.keep fun b v hs hc hg => ⟨rfl, _, _, exec_load64 rfl (dep hg 0 rfl rfl rfl rfl) (hc.2.1).c5, Grew.refl _, rfl⟩) ?_
      refine OpsOk.cons _ _ (OpOk.runR _ _ Grew CmpF.keep CmpC.keep fun b v hs hc hg => ⟨rfl, _, _, exec_fieldN 5 (by decide) rfl (hs 3 (by kernel_rfl)), Grew.refl _, rfl⟩) ?_
      refine OpsOk.cons _ _ (OpOk.runR _ _ Grew CmpF.keep CmpC.keep fun b v hs hc hg => ⟨rfl, _, _, exec_load64 rfl (dep hg 0 rfl rfl rfl rfl) (hc.2.2).c5, Grew.refl _, rfl⟩) ?_
      refine OpsOk.cons _ _ (OpOk.callR _ _ Grew CmpF.keep CmpC.keep fun b v hs hc hg => ⟨rfl, _, _, exec_call2 (enter_cmp64 _) rfl (dep hg 0 rfl rfl rfl rfl) (dep hg 1 rfl rfl rfl rfl), cmp_q (cmp64_any x.c y.c v)⟩) ?_
      refine OpsOk.cons _ _ (OpOk.runR _ _ Grew CmpF.keep CmpC.keep fun b v hs hc hg => ⟨rfl, _, _, exec_build6I rfl (dep hg 0 rfl rfl rfl rfl) (dep hg 1 rfl rfl rfl rfl) (dep hg 2 rfl rfl rfl rfl) (dep hg 3 rfl rfl rfl rfl) (dep hg 4 rfl rfl rfl rfl) (dep hg 5 rfl rfl rfl rfl), grew_alloc _ _, ⟨_, 6, rfl, reads6 _ _⟩⟩) ?_
      refine OpsOk.cons _ _ (OpOk.callR _ _ Grew CmpF.keep CmpC.keep fun b v hs hc hg => by
        obtain ⟨A, c, e, hR⟩ := (dep hg 0 rfl rfl rfl rfl : CmpF _ _ _ _ 30 _ _)
        exact ⟨rfl, _, _, exec_call1 (enter_cmpOr _) rfl e, cmp_q (cmpOr_any A 6 c v.heap.size [c3 x.k y.k, c3 x.d y.d, c3 x.n y.n, c3 x.p y.p, c3 x.i y.i, c3 x.c y.c] rfl v hR (by decide))⟩) ?_
      refine OpsOk.cons _ _ (OpOk.runR _ _ Grew CmpF.keep CmpC.keep fun b v hs hc hg => ⟨rfl, _, _, exec_assign rfl (dep hg 0 rfl rfl rfl rfl), Grew.refl _, rfl⟩) ?_
      exact OpsOk.nil _ _
    · intro b' w' hsz hd hs hc hall
      have h4' : b'.tmps[4]?.getD undef = .int .i64 (cmpOf x y) := by
        have : b'.tmps.getD 4 undef = .int .i64 (cmpOf x y) := hall 32 _ _ rfl rfl
        rwa [Array.getD_eq_getD_getElem?] at this
      clear hall hs
      go_wp2
      exact bodyPost_ret (v := .int .i64 (cmpOf x y)) (by simp [results, Tryd.results14, h4', go_sem]) hd ⟨rfl, HG.out.trans hc.1⟩
end Go.Proofs.YtipmpebckfaknaaDoor
