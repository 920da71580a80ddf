/- NamePuts: the walk. Conditions: parts that fit. -/
import Derived.Test.YtipmpebckfaknaaDoorNmY
import Derived.Test.YtipmpebckfaknaaDoorTwo
namespace Go.Proofs.YtipmpebckfaknaaDoor
open Go.RowKit Go.Lib

theorem exec_allocR {b : Act} {w : World} {o : Oper} (ho : o.op = .alloc 25) : (execOp b.eval o).run Tryd.prog w = .ok (.value (.pointer (some ⟨w.heap.size, 0, none⟩))) (w.alloc (.cells zeros6 25)) := by
  unfold execOp
  simp only [ho]
  go_simp
  rfl
def NpF (x y : Nm) (B : Nat) : Nat → Value → World → Prop
  | 0, v, _ => v = x.v
  | 1, v, _ => v = x.v
  | 2, v, _ => v = y.v
  | 3, v, _ => v = y.v
  | 4, v, w => ∃ r, v = .pointer (some ⟨r, 0, none⟩) ∧ w.heap[r]? = some (.cells zeros6 25 (0, 0)) ∧ B ≤ r
  | 5, v, w => ∃ r, v = .pointer (some ⟨r, 0, none⟩) ∧ w.heap[r]? = some (.cells zeros6 25 (0, 0)) ∧ B ≤ r
  | _, _, _ => True
theorem NpF.keep {x y : Nm} {B : Nat} (j : Nat) (u : Value) (w w' : World) (hb : Below w.heap.size w w') (hfact : NpF x y B j u w) : NpF x y B j u w' :=
  match j, hfact with
  | 0, h => h
  | 1, h => h
  | 2, h => h
  | 3, h => h
  | 4, h => let ⟨r, e, hr, hB⟩ := h; ⟨r, e, (hb.block r (Array.getElem?_eq_some_iff.1 hr).1).trans hr, hB⟩
  | 5, h => let ⟨r, e, hr, hB⟩ := h; ⟨r, e, (hb.block r (Array.getElem?_eq_some_iff.1 hr).1).trans hr, hB⟩
  | _ + 6, h => h
def NpC (W : World) (x y : Nm) (g h : Nat) (w : World) : Prop := Below W.heap.size W w ∧ BoxNm x w ⟨g, 0, none⟩ ∧ BoxNm y w ⟨h, 0, none⟩
theorem NpC.keep {W : World} {x y : Nm} {g h : Nat} (w w' : World) (hb : Below w.heap.size w w') (hc : NpC W x y g h w) : NpC W x y g h w' := ⟨hc.1.trans (hb.mono hc.1.size), hc.2.1.keep hb, hc.2.2.keep hb⟩
def NqF (x y : Nm) : Nat → Value → World → Prop
  | 0, v, _ => v = x.v
  | 1, v, _ => v = .bool (mayOf x)
  | 2, v, _ => v = x.v
  | 3, v, _ => v = .bool (mayOf x)
  | 4, v, _ => v = .bool true
  | 5, v, _ => v = .bool true
  | 6, v, _ => v = x.v
  | 7, v, _ => v = .string (txt (putOf x))
  | 8, v, _ => v = x.v
  | 9, v, _ => v = .string (txt (putOf x))
  | 10, v, _ => v = .bool true
  | 11, v, _ => v = .bool true
  | 12, v, _ => v = .bool true
  | 13, v, _ => v = x.v
  | 14, v, _ => v = y.v
  | 15, v, _ => v = .int .i64 (cmpOf x y)
  | 16, v, _ => v = x.v
  | 17, v, _ => v = y.v
  | 18, v, _ => v = .int .i64 (cmpOf x y)
  | 19, v, _ => v = .bool true
  | 20, v, _ => v = .bool true
  | 21, v, _ => v = .bool true
  | 22, v, _ => v = x.v
  | 23, v, _ => v = x.v
  | 24, v, _ => v = .int .i64 (cmpOf x x)
  | 25, v, _ => v = .bool true
  | 26, v, _ => v = .bool true
  | 27, v, _ => v = .bool true
  | 28, v, _ => v = .bool true
  | 29, v, _ => v = .bool true
  | 30, v, _ => v = .bool true
  | _, _, _ => True
theorem NqF.keep {x y : Nm} (j : Nat) (u : Value) (w w' : World) (_hb : Below w.heap.size w w') (hfact : NqF x y j u w) : NqF x y j u w' :=
  match j, hfact with
  | 0, h => h
  | 1, h => h
  | 2, h => h
  | 3, h => h
  | 4, h => h
  | 5, h => h
  | 6, h => h
  | 7, h => h
  | 8, h => h
  | 9, h => h
  | 10, h => h
  | 11, h => h
  | 12, h => h
  | 13, h => h
  | 14, h => h
  | 15, h => h
  | 16, h => h
  | 17, h => h
  | 18, h => h
  | 19, h => h
  | 20, h => h
  | 21, h => h
  | 22, h => h
  | 23, h => h
  | 24, h => h
  | 25, h => h
  | 26, h => h
  | 27, h => h
  | 28, h => h
  | 29, h => h
  | 30, h => h
  | _ + 31, h => h
def NqC (W : World) (x y : Nm) (g h p q : Nat) (w : World) : Prop := Below W.heap.size W w ∧ BoxNm x w ⟨g, 0, none⟩ ∧ BoxNm y w ⟨h, 0, none⟩ ∧ BoxNm x w ⟨p, 0, none⟩ ∧ BoxNm y w ⟨q, 0, none⟩ ∧ Env w
theorem NqC.keep {W : World} {x y : Nm} {g h p q : Nat} (w w' : World) (hb : Below w.heap.size w w') (hc : NqC W x y g h p q w) : NqC W x y g h p q w' := ⟨hc.1.trans (hb.mono hc.1.size), hc.2.1.keep hb, hc.2.2.1.keep hb, hc.2.2.2.1.keep hb, hc.2.2.2.2.1.keep hb, hc.2.2.2.2.2.on hb⟩

set_option maxHeartbeats 4000000 in
set_option maxRecDepth 100000 in
theorem putsLaw_any (x y : Nm) (ox : x.Ok) (oy : y.Ok) (w : World) (hE : Env w) : Calls Tryd.prog 3 #[x.v, y.v] w fun e w' => e = .returned (.bool true) ∧ Below w.heap.size w w' := by
  have HE := Lib.hid hE
  clear hE
  obtain ⟨W0, hW0⟩ : ∃ W, Hid (W = w.alloc (.cells #[.int .u8 (x.k : Int), .int .u64 (x.d : Int), .int .u64 (x.n : Int), .int .u64 (x.p : Int), .int .u64 (x.i : Int), .int .u64 (x.c : Int)] 24)) := ⟨_, rfl⟩
  have HG0 : Hid (Below w.heap.size w W0) := by rw [hW0.out]; exact below_new _ _
  have hs0 : Hid (W0.heap.size = w.heap.size + 1) := by rw [hW0.out]; simp [Hid]
  have hbx0 : BoxNm x W0 ⟨w.heap.size, 0, none⟩ := by rw [hW0.out]; exact boxNm_new x w _
  obtain ⟨W, hW⟩ : ∃ W, Hid (W = W0.alloc (.cells #[.int .u8 (y.k : Int), .int .u64 (y.d : Int), .int .u64 (y.n : Int), .int .u64 (y.p : Int), .int .u64 (y.i : Int), .int .u64 (y.c : Int)] 24)) := ⟨_, rfl⟩
  have h01 : Below W0.heap.size W0 W := by rw [hW.out]; exact below_new _ _
  have HY : Hid (BoxNm y W ⟨w.heap.size + 1, 0, none⟩) := by rw [← hs0.out, hW.out]; exact boxNm_new y W0 _
  have HX : Hid (BoxNm x W ⟨w.heap.size, 0, none⟩) := hbx0.keep h01
  have HG : Hid (Below w.heap.size w W) := HG0.out.trans (h01.mono HG0.out.size)
  clear hbx0 h01
  unfold Nm.v
  go_enter Tryd.func3, Tryd.ntmps3
  go_upto_region 1 with fail
  rw [← hW0.out, ← hW.out]
  go_cut [5, 6] from 5 to 10 (fun s5 s6 wx => ∃ p q, s5 = .pointer (some ⟨p, 0, none⟩) ∧ s6 = .pointer (some ⟨q, 0, none⟩) ∧ BoxNm x wx ⟨p, 0, none⟩ ∧ BoxNm y wx ⟨q, 0, none⟩ ∧ Below W.heap.size W wx)
  case first =>
    rename_i J K1 hJ hK
    refine wp_region_two (n := 41) (m := 6) (NpF x y W.heap.size) (NpC W x y w.heap.size (w.heap.size + 1)) (by kernel_rfl) (by kernel_rfl) rfl rfl (by decide) (by kernel_rfl) ?_ (p := 4) (q := 5) (dp := 5) (dq := 6) rfl rfl (by decide) (by decide) (by decide) ?_ ?_ ?_ ?_
    · exact ⟨(Below.refl _ _).drew, HX.out.keep (Below.refl _ _).drew, HY.out.keep (Below.refl _ _).drew⟩
    · rintro i o (rfl | rfl) ho b v
      · simp only [List.getElem?_cons_succ, List.getElem?_cons_zero, Option.some.injEq] at ho
        subst ho
        exact ⟨_, exec_allocR rfl⟩
      · simp only [List.getElem?_cons_succ, List.getElem?_cons_zero, Option.some.injEq] at ho
        subst ho
        exact ⟨_, exec_allocR rfl⟩
    · rintro i u v (rfl | rfl) ⟨r, rfl, hr, _⟩ he
      · have h1 := (Array.getElem?_eq_some_iff.1 hr).1
        simp only [Value.pointer.injEq, Option.some.injEq, Addr.mk.injEq] at he
        omega
      · have h1 := (Array.getElem?_eq_some_iff.1 hr).1
        simp only [Value.pointer.injEq, Option.some.injEq, Addr.mk.injEq] at he
        omega
    · skip
      refine OpsOk.cons _ _ (OpOk.run _ _ NpF.keep NpC.keep fun b v hs hc hg => ⟨rfl, _, _, exec_loadN rfl (hs 2 (by kernel_rfl)) hc.2.1, .refl _ _, rfl⟩) ?_
      refine OpsOk.cons _ _ (OpOk.call _ _ NpF.keep NpC.keep fun b v hs hc hg => ⟨rfl, _, _, exec_call1 (enter_ref _) rfl (dep hg 0 rfl rfl rfl rfl), ans_q (ref_any x v)⟩) ?_
      refine OpsOk.cons _ _ (OpOk.run _ _ NpF.keep NpC.keep fun b v hs hc hg => ⟨rfl, _, _, exec_loadN rfl (hs 3 (by kernel_rfl)) hc.2.2, .refl _ _, rfl⟩) ?_
      refine OpsOk.cons _ _ (OpOk.call _ _ NpF.keep NpC.keep fun b v hs hc hg => ⟨rfl, _, _, exec_call1 (enter_ref _) rfl (dep hg 0 rfl rfl rfl rfl), ans_q (ref_any y v)⟩) ?_
      refine OpsOk.cons _ _ (OpOk.run _ _ NpF.keep NpC.keep fun b v hs hc hg => ⟨rfl, _, _, exec_allocR rfl, below_new _ _, ⟨_, rfl, heap_alloc_new v _, hc.1.size⟩⟩) ?_
      refine OpsOk.cons _ _ (OpOk.run _ _ NpF.keep NpC.keep fun b v hs hc hg => ⟨rfl, _, _, exec_allocR rfl, below_new _ _, ⟨_, rfl, heap_alloc_new v _, hc.1.size⟩⟩) ?_
      exact OpsOk.nil _ _
    · intro b' w' hsz hd hs hc hall hne
      obtain ⟨p, e5, hp, hBp⟩ := (hall 4 _ _ (by decide) rfl rfl : NpF _ _ _ 4 _ _)
      obtain ⟨q, e6, hq, hBq⟩ := (hall 5 _ _ (by decide) rfl rfl : NpF _ _ _ 5 _ _)
      have e8 : b'.tmps.getD 8 undef = x.v := hall 1 _ _ (by decide) rfl rfl
      have e10 : b'.tmps.getD 10 undef = y.v := hall 3 _ _ (by decide) rfl rfl
      have hpq : p ≠ q := by
        rintro rfl
        exact hne (e5.trans e6.symm)
      have hq2 : ∀ cs, (w'.setRow p cs).heap[q]? = some (.cells zeros6 25 (0, 0)) := fun cs => by
        rw [setRow_other w' p q cs hpq.symm]
        exact hq
      have hp2 : ∀ (v : World) (cs : Array Value), v.heap[p]? = some (.cells x.cells.toArray 25 (0, 0)) → (v.setRow q cs).heap[p]? = some (.cells x.cells.toArray 25 (0, 0)) := fun v cs h => by
        rw [setRow_other v q p cs hpq]
        exact h
      refine wpList_store_row rfl 25 (.tmp 5) (.tmp 8) rfl p x.cells.toArray e5 e8 _ _ hp size_rnm rfl (six_one _ _ _ _ _ _) ?_
      refine wpList_store_row rfl 25 (.tmp 6) (.tmp 10) rfl q y.cells.toArray e6 e10 _ _ (hq2 _) size_rnm rfl (six_one _ _ _ _ _ _) ?_
      refine hK _ _ (Met.intro (hJ _ _ ?_))
      exact ⟨b'.tmps.getD 5 undef, b'.tmps.getD 6 undef, b'.tmps.getD 7 undef, b'.tmps.getD 8 undef, b'.tmps.getD 9 undef, b'.tmps.getD 10 undef, ⟨p, q, e5, e6, boxNm_of (hp2 _ _ (setRow_heap _ _ _ _ _ _ hp)), boxNm_of (setRow_heap _ _ _ _ _ _ (hq2 _)), below_setRow' (below_setRow' hc.1 hBp _) hBq _⟩, (act_known hsz hd hs).trans (by kernel_rfl)⟩
  obtain ⟨p, q, rfl, rfl, hxp, hyq, hb⟩ := hcut
  have HX2 : Hid (BoxNm x wc ⟨w.heap.size, 0, none⟩) := HX.out.keep hb
  have HY2 : Hid (BoxNm y wc ⟨w.heap.size + 1, 0, none⟩) := HY.out.keep hb
  have HP := Lib.hid hxp
  have HQ := Lib.hid hyq
  have HB : Hid (Below w.heap.size w wc) := HG.out.trans (hb.mono HG.out.size)
  clear hxp hyq hb HX HY
  go_upto_region 2 with fail
  refine wp_region_facts (n := 41) (NqF x y) (NqC wc x y w.heap.size (w.heap.size + 1) p q) (by kernel_rfl) (by kernel_rfl) rfl ?_ ?_ ?_
  · exact ⟨(Below.refl _ _).drew, HX2.out.keep (Below.refl _ _).drew, HY2.out.keep (Below.refl _ _).drew, HP.out.keep (Below.refl _ _).drew, HQ.out.keep (Below.refl _ _).drew, (HE.out.on HB.out).on (Below.refl _ _).drew⟩
  · skip
    refine OpsOk.cons _ _ (OpOk.run _ _ NqF.keep NqC.keep fun b v hs hc hg => ⟨rfl, _, _, exec_loadN rfl (hs 2 (by kernel_rfl)) hc.2.1, .refl _ _, rfl⟩) ?_
    refine OpsOk.cons _ _ (OpOk.call _ _ NqF.keep NqC.keep fun b v hs hc hg => ⟨rfl, _, _, exec_call1 (enter_may _) rfl (dep hg 0 rfl rfl rfl rfl), ans_q (may_any x v)⟩) ?_
    refine OpsOk.cons _ _ (OpOk.run _ _ NqF.keep NqC.keep fun b v hs hc hg => ⟨rfl, _, _, exec_loadR rfl (hs 5 (by kernel_rfl)) hc.2.2.2.1, .refl _ _, rfl⟩) ?_
    refine OpsOk.cons _ _ (OpOk.call _ _ NqF.keep NqC.keep fun b v hs hc hg => ⟨rfl, _, _, exec_call1 (enter_rmay _) rfl (dep hg 0 rfl rfl rfl rfl), ans_q (rmay_any x v)⟩) ?_
    refine OpsOk.cons _ _ (OpOk.run _ _ NqF.keep NqC.keep fun b v hs hc hg => ⟨rfl, _, _, exec_eqB rfl (dep hg 0 rfl rfl rfl rfl) (dep hg 1 rfl rfl rfl rfl), .refl _ _, by rw [beq_self_eq_true]; rfl⟩) ?_
    refine OpsOk.cons _ _ (OpOk.run _ _ NqF.keep NqC.keep fun b v hs hc hg => ⟨rfl, _, _, exec_move rfl (dep hg 0 rfl rfl rfl rfl), .refl _ _, rfl⟩) ?_
    refine OpsOk.cons _ _ (OpOk.run _ _ NqF.keep NqC.keep fun b v hs hc hg => ⟨wanted_of rfl rfl rfl (dep hg 0 rfl rfl rfl rfl), _, _, exec_loadN rfl (hs 2 (by kernel_rfl)) hc.2.1, .refl _ _, rfl⟩) ?_
    refine OpsOk.cons _ _ (OpOk.call _ _ NqF.keep NqC.keep fun b v hs hc hg => ⟨wanted_of rfl rfl rfl (dep hg 1 rfl rfl rfl rfl), _, _, exec_call1 (enter_put _) rfl (dep hg 0 rfl rfl rfl rfl), ans_q (put_any x ox v hc.2.2.2.2.2)⟩) ?_
    refine OpsOk.cons _ _ (OpOk.run _ _ NqF.keep NqC.keep fun b v hs hc hg => ⟨wanted_of rfl rfl rfl (dep hg 0 rfl rfl rfl rfl), _, _, exec_loadR rfl (hs 5 (by kernel_rfl)) hc.2.2.2.1, .refl _ _, rfl⟩) ?_
    refine OpsOk.cons _ _ (OpOk.call _ _ NqF.keep NqC.keep fun b v hs hc hg => ⟨wanted_of rfl rfl rfl (dep hg 2 rfl rfl rfl rfl), _, _, exec_call1 (enter_rput _) rfl (dep hg 0 rfl rfl rfl rfl), ans_q (rput_any x ox v)⟩) ?_
    refine OpsOk.cons _ _ (OpOk.run _ _ NqF.keep NqC.keep fun b v hs hc hg => ⟨wanted_of rfl rfl rfl (dep hg 2 rfl rfl rfl rfl), _, _, exec_eqT rfl (dep hg 0 rfl rfl rfl rfl) (dep hg 1 rfl rfl rfl rfl), .refl _ _, by rw [decide_eq_true rfl]; rfl⟩) ?_
    refine OpsOk.cons _ _ (OpOk.run _ _ NqF.keep NqC.keep fun b v hs hc hg => ⟨rfl, _, _, exec_pick rfl (dep hg 0 rfl rfl rfl rfl) (dep hg 1 rfl rfl rfl rfl), .refl _ _, rfl⟩) ?_
    refine OpsOk.cons _ _ (OpOk.run _ _ NqF.keep NqC.keep fun b v hs hc hg => ⟨rfl, _, _, exec_move rfl (dep hg 0 rfl rfl rfl rfl), .refl _ _, rfl⟩) ?_
    refine OpsOk.cons _ _ (OpOk.run _ _ NqF.keep NqC.keep fun b v hs hc hg => ⟨wanted_of rfl rfl rfl (dep hg 0 rfl rfl rfl rfl), _, _, exec_loadN rfl (hs 2 (by kernel_rfl)) hc.2.1, .refl _ _, rfl⟩) ?_
    refine OpsOk.cons _ _ (OpOk.run _ _ NqF.keep NqC.keep fun b v hs hc hg => ⟨wanted_of rfl rfl rfl (dep hg 0 rfl rfl rfl rfl), _, _, exec_loadN rfl (hs 3 (by kernel_rfl)) hc.2.2.1, .refl _ _, rfl⟩) ?_
    refine OpsOk.cons _ _ (OpOk.call _ _ NqF.keep NqC.keep fun b v hs hc hg => ⟨wanted_of rfl rfl rfl (dep hg 2 rfl rfl rfl rfl), _, _, exec_call2 (enter_compare _) rfl (dep hg 0 rfl rfl rfl rfl) (dep hg 1 rfl rfl rfl rfl), ans_q (compare_q x y v)⟩) ?_
    refine OpsOk.cons _ _ (OpOk.run _ _ NqF.keep NqC.keep fun b v hs hc hg => ⟨wanted_of rfl rfl rfl (dep hg 0 rfl rfl rfl rfl), _, _, exec_loadR rfl (hs 5 (by kernel_rfl)) hc.2.2.2.1, .refl _ _, rfl⟩) ?_
    refine OpsOk.cons _ _ (OpOk.run _ _ NqF.keep NqC.keep fun b v hs hc hg => ⟨wanted_of rfl rfl rfl (dep hg 0 rfl rfl rfl rfl), _, _, exec_loadR rfl (hs 6 (by kernel_rfl)) hc.2.2.2.2.1, .refl _ _, rfl⟩) ?_
    refine OpsOk.cons _ _ (OpOk.call _ _ NqF.keep NqC.keep fun b v hs hc hg => ⟨wanted_of rfl rfl rfl (dep hg 3 rfl rfl rfl rfl), _, _, exec_call2 (enter_rcompare _) rfl (dep hg 0 rfl rfl rfl rfl) (dep hg 1 rfl rfl rfl rfl), ans_q (rcompare_any x y ox.k oy.k v)⟩) ?_
    refine OpsOk.cons _ _ (OpOk.run _ _ NqF.keep NqC.keep fun b v hs hc hg => ⟨wanted_of rfl rfl rfl (dep hg 2 rfl rfl rfl rfl), _, _, exec_eqI rfl (dep hg 0 rfl rfl rfl rfl) (dep hg 1 rfl rfl rfl rfl), .refl _ _, by rw [beq_self_eq_true]; rfl⟩) ?_
    refine OpsOk.cons _ _ (OpOk.run _ _ NqF.keep NqC.keep fun b v hs hc hg => ⟨rfl, _, _, exec_pick rfl (dep hg 0 rfl rfl rfl rfl) (dep hg 1 rfl rfl rfl rfl), .refl _ _, rfl⟩) ?_
    refine OpsOk.cons _ _ (OpOk.run _ _ NqF.keep NqC.keep fun b v hs hc hg => ⟨rfl, _, _, exec_move rfl (dep hg 0 rfl rfl rfl rfl), .refl _ _, rfl⟩) ?_
    refine OpsOk.cons _ _ (OpOk.run _ _ NqF.keep NqC.keep fun b v hs hc hg => ⟨wanted_of rfl rfl rfl (dep hg 0 rfl rfl rfl rfl), _, _, exec_loadN rfl (hs 2 (by kernel_rfl)) hc.2.1, .refl _ _, rfl⟩) ?_
    refine OpsOk.cons _ _ (OpOk.run _ _ NqF.keep NqC.keep fun b v hs hc hg => ⟨wanted_of rfl rfl rfl (dep hg 0 rfl rfl rfl rfl), _, _, exec_loadN rfl (hs 2 (by kernel_rfl)) hc.2.1, .refl _ _, rfl⟩) ?_
    refine OpsOk.cons _ _ (OpOk.call _ _ NqF.keep NqC.keep fun b v hs hc hg => ⟨wanted_of rfl rfl rfl (dep hg 2 rfl rfl rfl rfl), _, _, exec_call2 (enter_compare _) rfl (dep hg 0 rfl rfl rfl rfl) (dep hg 1 rfl rfl rfl rfl), ans_q (compare_q x x v)⟩) ?_
    refine OpsOk.cons _ _ (OpOk.run _ _ NqF.keep NqC.keep fun b v hs hc hg => ⟨wanted_of rfl rfl rfl (dep hg 1 rfl rfl rfl rfl), _, _, exec_eqI rfl (dep hg 0 rfl rfl rfl rfl) rfl, .refl _ _, by rw [cmpOf_self]; rfl⟩) ?_
    refine OpsOk.cons _ _ (OpOk.run _ _ NqF.keep NqC.keep fun b v hs hc hg => ⟨rfl, _, _, exec_pick rfl (dep hg 0 rfl rfl rfl rfl) (dep hg 1 rfl rfl rfl rfl), .refl _ _, rfl⟩) ?_
    refine OpsOk.cons _ _ (OpOk.run _ _ NqF.keep NqC.keep fun b v hs hc hg => ⟨rfl, _, _, exec_move rfl (dep hg 0 rfl rfl rfl rfl), .refl _ _, rfl⟩) ?_
    refine OpsOk.cons _ _ (OpOk.call _ _ NqF.keep NqC.keep fun b v hs hc hg => ⟨wanted_of rfl rfl rfl (dep hg 0 rfl rfl rfl rfl), _, _, exec_call0 (enter_works _) rfl, ans_q (works_any v hc.2.2.2.2.2)⟩) ?_
    refine OpsOk.cons _ _ (OpOk.run _ _ NqF.keep NqC.keep fun b v hs hc hg => ⟨rfl, _, _, exec_pick rfl (dep hg 0 rfl rfl rfl rfl) (dep hg 1 rfl rfl rfl rfl), .refl _ _, rfl⟩) ?_
    refine OpsOk.cons _ _ (OpOk.run _ _ NqF.keep NqC.keep fun b v hs hc hg => ⟨rfl, _, _, exec_assign rfl (dep hg 0 rfl rfl rfl rfl), .refl _ _, rfl⟩) ?_
    exact OpsOk.nil _ _
  · intro b' w' hsz hd hs hc hall
    have h4' : b'.tmps[4]?.getD undef = .bool true := by
      have : b'.tmps.getD 4 undef = .bool true := hall 30 _ _ rfl rfl
      rwa [Array.getD_eq_getD_getElem?] at this
    clear hall hs
    go_wp2
    exact bodyPost_ret (v := .bool true) (by simp [results, Tryd.results3, h4', go_sem]) hd ⟨rfl, HB.out.trans (hc.1.mono HB.out.size)⟩
end Go.Proofs.YtipmpebckfaknaaDoor
