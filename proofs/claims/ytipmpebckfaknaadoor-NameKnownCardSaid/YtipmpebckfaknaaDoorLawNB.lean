/- NameBack: the walk. Conditions: parts that fit. -/
import Derived.Test.YtipmpebckfaknaaDoorNmZ
import Derived.Test.YtipmpebckfaknaaDoorNmO
import Derived.Test.YtipmpebckfaknaaDoorSkip
namespace Go.Proofs.YtipmpebckfaknaaDoor
open Go.RowKit Go.Lib

theorem may_yes (x : Nm) (h : mayOf x = true) (w : World) : Calls Tryd.prog 10 #[x.v] w fun e w' => e = .returned (.bool true) ∧ Below w.heap.size w w' := by
  rw [← h]
  exact may_any x w
theorem may_no (x : Nm) (h : mayOf x = false) (w : World) : Calls Tryd.prog 10 #[x.v] w fun e w' => e = .returned (.bool false) ∧ Below w.heap.size w w' := by
  rw [← h]
  exact may_any x w
theorem put_none (x : Nm) (h : mayOf x = false) (hx : x.Ok) (w : World) (hE : Env w) : Calls Tryd.prog 12 #[x.v] w fun e w' => e = .returned (.string (txt [])) ∧ Below w.heap.size w w' := by
  have hp : putOf x = [] := by
    unfold putOf
    rw [if_neg (by rw [h]; exact Bool.false_ne_true)]
  rw [← hp]
  exact put_any x hx w hE
theorem exec_neg {b : Act} {w : World} {o : Oper} {x : Operand} {i : Int} (hi : i = -1 ∨ i = 0 ∨ i = 1) (ho : o.op = .unOp .neg 3 x) (h : b.eval x = .int .i64 i) : (execOp b.eval o).run Tryd.prog w = .ok (.value (.int .i64 (-i))) w := by
  unfold execOp
  simp only [ho, h]
  rcases hi with rfl | rfl | rfl <;> rfl
def NbF (x y : Nm) : Nat → Value → World → Prop
  | 0, v, _ => v = y.v
  | 1, v, _ => v = .bool true
  | 2, v, _ => v = .bool false
  | 3, v, _ => v = .bool false
  | 4, v, _ => v = x.v
  | 5, v, _ => v = .string (txt (putOf x))
  | 6, v, _ => v = y.v
  | 7, v, _ => v = .string (txt (putOf y))
  | 8, v, _ => v = .bool (decide (putOf x = putOf y))
  | 9, v, _ => v = x.v
  | 10, v, _ => v = y.v
  | 11, v, _ => v = .bool (decide (x = y))
  | 12, v, _ => v = .bool true
  | 13, v, _ => v = .bool true
  | 14, v, _ => v = x.v
  | 15, v, _ => v = y.v
  | 16, v, _ => v = .int .i64 (cmpOf x y)
  | 17, v, _ => v = .bool (cmpOf x y == 0)
  | 18, v, _ => v = x.v
  | 19, v, _ => v = y.v
  | 20, v, _ => v = .bool (decide (x = y))
  | 21, v, _ => v = .bool true
  | 22, v, _ => v = .bool true
  | 23, v, _ => v = .bool true
  | 24, v, _ => v = x.v
  | 25, v, _ => v = y.v
  | 26, v, _ => v = .int .i64 (cmpOf x y)
  | 27, v, _ => v = y.v
  | 28, v, _ => v = x.v
  | 29, v, _ => v = .int .i64 (cmpOf y x)
  | 30, v, _ => v = .int .i64 (-(cmpOf y x))
  | 31, v, _ => v = .bool true
  | 32, v, _ => v = .bool true
  | 33, v, _ => v = .bool true
  | 34, v, _ => v = .bool true
  | 35, v, _ => v = .bool true
  | 36, v, _ => v = .bool true
  | 37, v, _ => v = .bool true
  | _, _, _ => True
theorem NbF.keep {x y : Nm} (j : Nat) (u : Value) (w w' : World) (_hb : Below w.heap.size w w') (hfact : NbF x y j u w) : NbF x y j u w' :=
  match j, hfact with
  | 0, h => h
  | 1, h => h
  | 2, h => h
  | 3, h => h
  | 4, h => h
  | 5, h => h
  | 6, h => h
  | 7, h => h
  | 8, h => h
  | 9, h => h
  | 10, h => h
  | 11, h => h
  | 12, h => h
  | 13, h => h
  | 14, h => h
  | 15, h => h
  | 16, h => h
  | 17, h => h
  | 18, h => h
  | 19, h => h
  | 20, h => h
  | 21, h => h
  | 22, h => h
  | 23, h => h
  | 24, h => h
  | 25, h => h
  | 26, h => h
  | 27, h => h
  | 28, h => h
  | 29, h => h
  | 30, h => h
  | 31, h => h
  | 32, h => h
  | 33, h => h
  | 34, h => h
  | 35, h => h
  | 36, h => h
  | 37, h => h
  | _ + 38, h => h
def NbG (y : Nm) : Nat → Value → World → Prop
  | 0, v, _ => v = y.v
  | 1, v, _ => v = .bool false
  | 2, v, _ => v = .bool true
  | 3, v, _ => v = .bool true
  | 4, v, _ => v = undef
  | 5, v, _ => v = undef
  | 6, v, _ => v = undef
  | 7, v, _ => v = undef
  | 8, v, _ => v = undef
  | 9, v, _ => v = undef
  | 10, v, _ => v = undef
  | 11, v, _ => v = undef
  | 12, v, _ => v = undef
  | 13, v, _ => v = undef
  | 14, v, _ => v = undef
  | 15, v, _ => v = undef
  | 16, v, _ => v = undef
  | 17, v, _ => v = undef
  | 18, v, _ => v = undef
  | 19, v, _ => v = undef
  | 20, v, _ => v = undef
  | 21, v, _ => v = undef
  | 22, v, _ => v = undef
  | 23, v, _ => v = undef
  | 24, v, _ => v = undef
  | 25, v, _ => v = undef
  | 26, v, _ => v = undef
  | 27, v, _ => v = undef
  | 28, v, _ => v = undef
  | 29, v, _ => v = undef
  | 30, v, _ => v = undef
  | 31, v, _ => v = undef
  | 32, v, _ => v = undef
  | 33, v, _ => v = .bool true
  | 34, v, _ => v = .bool true
  | 35, v, _ => v = .bool true
  | 36, v, _ => v = .bool true
  | 37, v, _ => v = .bool true
  | _, _, _ => True
theorem NbG.keep {y : Nm} (j : Nat) (u : Value) (w w' : World) (_hb : Below w.heap.size w w') (hfact : NbG y j u w) : NbG y j u w' :=
  match j, hfact with
  | 0, h => h
  | 1, h => h
  | 2, h => h
  | 3, h => h
  | 4, h => h
  | 5, h => h
  | 6, h => h
  | 7, h => h
  | 8, h => h
  | 9, h => h
  | 10, h => h
  | 11, h => h
  | 12, h => h
  | 13, h => h
  | 14, h => h
  | 15, h => h
  | 16, h => h
  | 17, h => h
  | 18, h => h
  | 19, h => h
  | 20, h => h
  | 21, h => h
  | 22, h => h
  | 23, h => h
  | 24, h => h
  | 25, h => h
  | 26, h => h
  | 27, h => h
  | 28, h => h
  | 29, h => h
  | 30, h => h
  | 31, h => h
  | 32, h => h
  | 33, h => h
  | 34, h => h
  | 35, h => h
  | 36, h => h
  | 37, h => h
  | _ + 38, h => h
def NbC (W : World) (x y : Nm) (g h : Nat) (w : World) : Prop := Below W.heap.size W w ∧ BoxNm x w ⟨g, 0, none⟩ ∧ BoxNm y w ⟨h, 0, none⟩ ∧ Env w
theorem NbC.keep {W : World} {x y : Nm} {g h : Nat} (w w' : World) (hb : Below w.heap.size w w') (hc : NbC W x y g h w) : NbC W x y g h w' := ⟨hc.1.trans (hb.mono hc.1.size), hc.2.1.keep hb, hc.2.2.1.keep hb, hc.2.2.2.on hb⟩

set_option maxHeartbeats 4000000 in
set_option maxRecDepth 100000 in
theorem backLaw_any (x y : Nm) (ox : x.Ok) (oy : y.Ok) (s : List UInt8) (w : World) (hE : Env w) (hs63 : s.length ≤ 9223372036854775807) : Calls Tryd.prog 7 #[x.v, y.v, .string (txt s)] w fun e w' => e = .returned (.bool true) ∧ Below w.heap.size w w' := by
  have HE := Lib.hid hE
  have Hs63 := Lib.hid hs63
  have Ox := Lib.hid ox
  have Oy := Lib.hid oy
  clear hE hs63 ox oy
  obtain ⟨W0, hW0⟩ : ∃ W, Hid (W = w.alloc (.cells #[.int .u8 (x.k : Int), .int .u64 (x.d : Int), .int .u64 (x.n : Int), .int .u64 (x.p : Int), .int .u64 (x.i : Int), .int .u64 (x.c : Int)] 24)) := ⟨_, rfl⟩
  have HG0 : Hid (Below w.heap.size w W0) := by rw [hW0.out]; exact below_new _ _
  have hs0 : Hid (W0.heap.size = w.heap.size + 1) := by rw [hW0.out]; simp [Hid]
  have hbx0 : BoxNm x W0 ⟨w.heap.size, 0, none⟩ := by rw [hW0.out]; exact boxNm_new x w _
  obtain ⟨W, hW⟩ : ∃ W, Hid (W = W0.alloc (.cells #[.int .u8 (y.k : Int), .int .u64 (y.d : Int), .int .u64 (y.n : Int), .int .u64 (y.p : Int), .int .u64 (y.i : Int), .int .u64 (y.c : Int)] 24)) := ⟨_, rfl⟩
  have h01 : Below W0.heap.size W0 W := by rw [hW.out]; exact below_new _ _
  have HY : Hid (BoxNm y W ⟨w.heap.size + 1, 0, none⟩) := by rw [← hs0.out, hW.out]; exact boxNm_new y W0 _
  have HX : Hid (BoxNm x W ⟨w.heap.size, 0, none⟩) := hbx0.keep h01
  have HG : Hid (Below w.heap.size w W) := HG0.out.trans (h01.mono HG0.out.size)
  clear hbx0 h01
  by_cases hl : 120 < (txt s).size
  · have HW : Hid (Env W) := HE.out.on HG.out
    unfold Nm.v
    go_enter Tryd.func7, Tryd.ntmps7
    go_upto_region 1 with fail
    rw [← hW0.out, ← hW.out]
    go_wp2_with (go_at_call 16; refine (works_any _ HW.out).mono ?_; rintro e w' ⟨rfl, hb⟩)
    go_ret
    exact ⟨rfl, HG.out.trans (hb.mono HG.out.size)⟩
  · have Hlen : Hid (s.length < 4294967281) := by
      rw [txt_size] at hl
      show _ < _
      omega
    have HEW : Hid (Env W) := HE.out.on HG.out
    unfold Nm.v
    go_enter Tryd.func7, Tryd.ntmps7
    go_upto_region 1 with fail
    rw [← hW0.out, ← hW.out]
    cases hp : parseOf s with
    | none =>
      have Hp := Lib.hid hp
      clear hp
      go_upto_region 4 with (go_at_call 17; refine (parse_no s Hp.out _ HEW.out Hlen.out).mono ?_; rintro e w5 ⟨rfl, hb5⟩)
      obtain ⟨W3, hW3⟩ : ∃ W, Hid (W = w5.alloc (.cells #[.int .u8 0, .int .u64 0, .int .u64 0, .int .u64 0, .int .u64 0, .int .u64 0] 24)) := ⟨_, rfl⟩
      rw [← hW3.out]
      have h35 : Below W.heap.size W W3 := by rw [hW3.out]; exact hb5.alloc hb5.size _
      have HXW3 := Lib.hid (HX.out.keep h35)
      have HYW3 := Lib.hid (HY.out.keep h35)
      have HEW3 := Lib.hid (HEW.out.on h35)
      have HBW3 := Lib.hid (HG.out.trans (h35.mono HG.out.size))
      clear h35 hb5
      go_upto_region 6 with fail
      have xb := HXW3.out
      have x0 : W3.cell? ⟨w.heap.size, 0, none⟩ = some (.int .u8 (x.k : Int)) := xb.c0
      have x1 : W3.cell? ⟨w.heap.size, 1, none⟩ = some (.int .u64 (x.d : Int)) := xb.c1
      have x2 : W3.cell? ⟨w.heap.size, 2, none⟩ = some (.int .u64 (x.n : Int)) := xb.c2
      have x3 : W3.cell? ⟨w.heap.size, 3, none⟩ = some (.int .u64 (x.p : Int)) := xb.c3
      have x4 : W3.cell? ⟨w.heap.size, 4, none⟩ = some (.int .u64 (x.i : Int)) := xb.c4
      have x5 : W3.cell? ⟨w.heap.size, 5, none⟩ = some (.int .u64 (x.c : Int)) := xb.c5
      clear xb
      cases hmx : mayOf x with
      | false =>
        have Hmx := Lib.hid hmx
        clear hmx
        have hbe : (txt []).toList = [] := by rw [ByteArray.toList_eq]; rfl
        go_wp2_with (first
          | (go_at_call 10; refine (may_no x Hmx.out _).mono ?_; rintro e v1 ⟨rfl, hv1⟩
             have yb := HXW3.out.keep hv1
             have y0 : v1.cell? ⟨w.heap.size, 0, none⟩ = some (.int .u8 (x.k : Int)) := yb.c0
             have y1 : v1.cell? ⟨w.heap.size, 1, none⟩ = some (.int .u64 (x.d : Int)) := yb.c1
             have y2 : v1.cell? ⟨w.heap.size, 2, none⟩ = some (.int .u64 (x.n : Int)) := yb.c2
             have y3 : v1.cell? ⟨w.heap.size, 3, none⟩ = some (.int .u64 (x.p : Int)) := yb.c3
             have y4 : v1.cell? ⟨w.heap.size, 4, none⟩ = some (.int .u64 (x.i : Int)) := yb.c4
             have y5 : v1.cell? ⟨w.heap.size, 5, none⟩ = some (.int .u64 (x.c : Int)) := yb.c5
             clear yb)
          | (go_at_call 12; refine (put_none x Hmx.out Ox.out _ (HEW3.out.on hv1)).mono ?_; rintro e v2 ⟨rfl, hv2⟩)
          | (go_at_call 16; refine (works_any _ ((HEW3.out.on hv1).on hv2)).mono ?_; rintro e v3 ⟨rfl, hv3⟩))
        go_ret
        exact ⟨rfl, HBW3.out.trans (((hv1.trans (hv2.mono hv1.size)).trans (hv3.mono (Nat.le_trans hv1.size hv2.size))).mono HBW3.out.size)⟩
      | true =>
        have Hmx := Lib.hid hmx
        clear hmx
        have Hlx : Hid ((putOf x).length < 4294967281) := by
          have := putOf_le x Ox.out
          show _ < _
          omega
        go_upto_region 9 with (first
          | (go_at_call 10; refine (may_yes x Hmx.out _).mono ?_; rintro e v1 ⟨rfl, hv1⟩
             have yb := HXW3.out.keep hv1
             have y0 : v1.cell? ⟨w.heap.size, 0, none⟩ = some (.int .u8 (x.k : Int)) := yb.c0
             have y1 : v1.cell? ⟨w.heap.size, 1, none⟩ = some (.int .u64 (x.d : Int)) := yb.c1
             have y2 : v1.cell? ⟨w.heap.size, 2, none⟩ = some (.int .u64 (x.n : Int)) := yb.c2
             have y3 : v1.cell? ⟨w.heap.size, 3, none⟩ = some (.int .u64 (x.p : Int)) := yb.c3
             have y4 : v1.cell? ⟨w.heap.size, 4, none⟩ = some (.int .u64 (x.i : Int)) := yb.c4
             have y5 : v1.cell? ⟨w.heap.size, 5, none⟩ = some (.int .u64 (x.c : Int)) := yb.c5
             clear yb)
          | (go_at_call 12; refine (put_any x Ox.out _ (HEW3.out.on hv1)).mono ?_; rintro e v2 ⟨rfl, hv2⟩)
          | (go_at_call 17; refine (parse_yes (putOf x) x (parse_put Hmx.out Ox.out) _ ((HEW3.out.on hv1).on hv2) Hlx.out).mono ?_; rintro e v3 ⟨rfl, hv3⟩))
        obtain ⟨W9, hW9⟩ : ∃ W, Hid (W = v3.alloc (.cells #[.int .u8 (x.k : Int), .int .u64 (x.d : Int), .int .u64 (x.n : Int), .int .u64 (x.p : Int), .int .u64 (x.i : Int), .int .u64 (x.c : Int)] 24)) := ⟨_, rfl⟩
        rw [← hW9.out]
        have h39 : Below W3.heap.size W3 W9 := by
          have h3 := (hv1.trans (hv2.mono hv1.size)).trans (hv3.mono (Nat.le_trans hv1.size hv2.size))
          rw [hW9.out]
          exact h3.alloc h3.size _
        have HX9 := Lib.hid (HXW3.out.keep h39)
        have HY9 := Lib.hid (HYW3.out.keep h39)
        have HE9 := Lib.hid (HEW3.out.on h39)
        have HB9 := Lib.hid (HBW3.out.trans (h39.mono HBW3.out.size))
        have HM9 : Hid (BoxNm x W9 ⟨v3.heap.size, 0, none⟩) := by rw [hW9.out]; exact boxNm_new x v3 _
        clear h39 hv1 hv2 hv3
        clear x0 x1 x2 x3 x4 x5
        clear y0 y1 y2 y3 y4 y5
        have xb := HX9.out
        have x0 : W9.cell? ⟨w.heap.size, 0, none⟩ = some (.int .u8 (x.k : Int)) := xb.c0
        have x1 : W9.cell? ⟨w.heap.size, 1, none⟩ = some (.int .u64 (x.d : Int)) := xb.c1
        have x2 : W9.cell? ⟨w.heap.size, 2, none⟩ = some (.int .u64 (x.n : Int)) := xb.c2
        have x3 : W9.cell? ⟨w.heap.size, 3, none⟩ = some (.int .u64 (x.p : Int)) := xb.c3
        have x4 : W9.cell? ⟨w.heap.size, 4, none⟩ = some (.int .u64 (x.i : Int)) := xb.c4
        have x5 : W9.cell? ⟨w.heap.size, 5, none⟩ = some (.int .u64 (x.c : Int)) := xb.c5
        clear xb
        have mb := HM9.out
        have m0 : W9.cell? ⟨v3.heap.size, 0, none⟩ = some (.int .u8 (x.k : Int)) := mb.c0
        have m1 : W9.cell? ⟨v3.heap.size, 1, none⟩ = some (.int .u64 (x.d : Int)) := mb.c1
        have m2 : W9.cell? ⟨v3.heap.size, 2, none⟩ = some (.int .u64 (x.n : Int)) := mb.c2
        have m3 : W9.cell? ⟨v3.heap.size, 3, none⟩ = some (.int .u64 (x.p : Int)) := mb.c3
        have m4 : W9.cell? ⟨v3.heap.size, 4, none⟩ = some (.int .u64 (x.i : Int)) := mb.c4
        have m5 : W9.cell? ⟨v3.heap.size, 5, none⟩ = some (.int .u64 (x.c : Int)) := mb.c5
        clear mb
        go_upto_region 11 with fail
        cases hmy : mayOf y with
        | false =>
          have Hmy := Lib.hid hmy
          clear hmy
          refine wp_region_skips (n := 91) (NbG y) (NbC W9 x y w.heap.size (w.heap.size + 1)) (by kernel_rfl) (by kernel_rfl) rfl ?_ ?_ ?_
          · exact ⟨(Below.refl _ _).drew, HX9.out.keep (Below.refl _ _).drew, HY9.out.keep (Below.refl _ _).drew, HE9.out.on (Below.refl _ _).drew⟩
          · skip
            refine OksOp.cons _ _ (OkOp.of _ _ (OpOk.run _ _ NbG.keep NbC.keep fun b v hs hc hg => ⟨rfl, _, _, exec_loadN rfl (hs 4 (by kernel_rfl)) hc.2.2.1, .refl _ _, rfl⟩)) ?_
            refine OksOp.cons _ _ (OkOp.of _ _ (OpOk.call _ _ NbG.keep NbC.keep fun b v hs hc hg => ⟨rfl, _, _, exec_call1 (enter_may _) rfl (dep hg 0 rfl rfl rfl rfl), ans_q (may_no y Hmy.out v)⟩)) ?_
            refine OksOp.cons _ _ (OkOp.of _ _ (OpOk.run _ _ NbG.keep NbC.keep fun b v hs hc hg => ⟨rfl, _, _, exec_not rfl (dep hg 0 rfl rfl rfl rfl), .refl _ _, rfl⟩)) ?_
            refine OksOp.cons _ _ (OkOp.of _ _ (OpOk.run _ _ NbG.keep NbC.keep fun b v hs hc hg => ⟨rfl, _, _, exec_move rfl (dep hg 0 rfl rfl rfl rfl), .refl _ _, rfl⟩)) ?_
            refine OksOp.cons _ _ (OkOp.skip _ _ fun b v hs hc hg => ⟨unwanted_of rfl rfl rfl (dep hg 0 rfl rfl rfl rfl), rfl⟩) ?_
            refine OksOp.cons _ _ (OkOp.skip _ _ fun b v hs hc hg => ⟨unwanted_of rfl rfl rfl (dep hg 1 rfl rfl rfl rfl), rfl⟩) ?_
            refine OksOp.cons _ _ (OkOp.skip _ _ fun b v hs hc hg => ⟨unwanted_of rfl rfl rfl (dep hg 0 rfl rfl rfl rfl), rfl⟩) ?_
            refine OksOp.cons _ _ (OkOp.skip _ _ fun b v hs hc hg => ⟨unwanted_of rfl rfl rfl (dep hg 2 rfl rfl rfl rfl), rfl⟩) ?_
            refine OksOp.cons _ _ (OkOp.skip _ _ fun b v hs hc hg => ⟨unwanted_of rfl rfl rfl (dep hg 2 rfl rfl rfl rfl), rfl⟩) ?_
            refine OksOp.cons _ _ (OkOp.skip _ _ fun b v hs hc hg => ⟨unwanted_of rfl rfl rfl (dep hg 0 rfl rfl rfl rfl), rfl⟩) ?_
            refine OksOp.cons _ _ (OkOp.skip _ _ fun b v hs hc hg => ⟨unwanted_of rfl rfl rfl (dep hg 0 rfl rfl rfl rfl), rfl⟩) ?_
            refine OksOp.cons _ _ (OkOp.skip _ _ fun b v hs hc hg => ⟨unwanted_of rfl rfl rfl (dep hg 2 rfl rfl rfl rfl), rfl⟩) ?_
            refine OksOp.cons _ _ (OkOp.skip _ _ fun b v hs hc hg => ⟨unwanted_of rfl rfl rfl (dep hg 2 rfl rfl rfl rfl), rfl⟩) ?_
            refine OksOp.cons _ _ (OkOp.skip _ _ fun b v hs hc hg => ⟨unwanted_of rfl rfl rfl (dep hg 2 rfl rfl rfl rfl), rfl⟩) ?_
            refine OksOp.cons _ _ (OkOp.skip _ _ fun b v hs hc hg => ⟨unwanted_un rfl rfl rfl (dep hg 0 rfl rfl rfl rfl), rfl⟩) ?_
            refine OksOp.cons _ _ (OkOp.skip _ _ fun b v hs hc hg => ⟨unwanted_un rfl rfl rfl (dep hg 0 rfl rfl rfl rfl), rfl⟩) ?_
            refine OksOp.cons _ _ (OkOp.skip _ _ fun b v hs hc hg => ⟨unwanted_un rfl rfl rfl (dep hg 2 rfl rfl rfl rfl), rfl⟩) ?_
            refine OksOp.cons _ _ (OkOp.skip _ _ fun b v hs hc hg => ⟨unwanted_un rfl rfl rfl (dep hg 1 rfl rfl rfl rfl), rfl⟩) ?_
            refine OksOp.cons _ _ (OkOp.skip _ _ fun b v hs hc hg => ⟨unwanted_un rfl rfl rfl (dep hg 0 rfl rfl rfl rfl), rfl⟩) ?_
            refine OksOp.cons _ _ (OkOp.skip _ _ fun b v hs hc hg => ⟨unwanted_un rfl rfl rfl (dep hg 0 rfl rfl rfl rfl), rfl⟩) ?_
            refine OksOp.cons _ _ (OkOp.skip _ _ fun b v hs hc hg => ⟨unwanted_un rfl rfl rfl (dep hg 2 rfl rfl rfl rfl), rfl⟩) ?_
            refine OksOp.cons _ _ (OkOp.skip _ _ fun b v hs hc hg => ⟨unwanted_un rfl rfl rfl (dep hg 2 rfl rfl rfl rfl), rfl⟩) ?_
            refine OksOp.cons _ _ (OkOp.skip _ _ fun b v hs hc hg => ⟨unwanted_of rfl rfl rfl (dep hg 2 rfl rfl rfl rfl), rfl⟩) ?_
            refine OksOp.cons _ _ (OkOp.skip _ _ fun b v hs hc hg => ⟨unwanted_of rfl rfl rfl (dep hg 2 rfl rfl rfl rfl), rfl⟩) ?_
            refine OksOp.cons _ _ (OkOp.skip _ _ fun b v hs hc hg => ⟨unwanted_un rfl rfl rfl (dep hg 0 rfl rfl rfl rfl), rfl⟩) ?_
            refine OksOp.cons _ _ (OkOp.skip _ _ fun b v hs hc hg => ⟨unwanted_un rfl rfl rfl (dep hg 0 rfl rfl rfl rfl), rfl⟩) ?_
            refine OksOp.cons _ _ (OkOp.skip _ _ fun b v hs hc hg => ⟨unwanted_un rfl rfl rfl (dep hg 2 rfl rfl rfl rfl), rfl⟩) ?_
            refine OksOp.cons _ _ (OkOp.skip _ _ fun b v hs hc hg => ⟨unwanted_un rfl rfl rfl (dep hg 0 rfl rfl rfl rfl), rfl⟩) ?_
            refine OksOp.cons _ _ (OkOp.skip _ _ fun b v hs hc hg => ⟨unwanted_un rfl rfl rfl (dep hg 0 rfl rfl rfl rfl), rfl⟩) ?_
            refine OksOp.cons _ _ (OkOp.skip _ _ fun b v hs hc hg => ⟨unwanted_un rfl rfl rfl (dep hg 3 rfl rfl rfl rfl), rfl⟩) ?_
            refine OksOp.cons _ _ (OkOp.skip _ _ fun b v hs hc hg => ⟨unwanted_un rfl rfl rfl (dep hg 1 rfl rfl rfl rfl), rfl⟩) ?_
            refine OksOp.cons _ _ (OkOp.skip _ _ fun b v hs hc hg => ⟨unwanted_un rfl rfl rfl (dep hg 2 rfl rfl rfl rfl), rfl⟩) ?_
            refine OksOp.cons _ _ (OkOp.skip _ _ fun b v hs hc hg => ⟨unwanted_of rfl rfl rfl (dep hg 2 rfl rfl rfl rfl), rfl⟩) ?_
            refine OksOp.cons _ _ (OkOp.of _ _ (OpOk.run _ _ NbG.keep NbC.keep fun b v hs hc hg => ⟨rfl, _, _, exec_pick rfl (dep hg 0 rfl rfl rfl rfl) rfl, .refl _ _, rfl⟩)) ?_
            refine OksOp.cons _ _ (OkOp.of _ _ (OpOk.run _ _ NbG.keep NbC.keep fun b v hs hc hg => ⟨rfl, _, _, exec_move rfl (dep hg 0 rfl rfl rfl rfl), .refl _ _, rfl⟩)) ?_
            refine OksOp.cons _ _ (OkOp.of _ _ (OpOk.call _ _ NbG.keep NbC.keep fun b v hs hc hg => ⟨wanted_of rfl rfl rfl (dep hg 0 rfl rfl rfl rfl), _, _, exec_call0 (enter_works _) rfl, ans_q (works_any v hc.2.2.2)⟩)) ?_
            refine OksOp.cons _ _ (OkOp.of _ _ (OpOk.run _ _ NbG.keep NbC.keep fun b v hs hc hg => ⟨rfl, _, _, exec_pick rfl (dep hg 0 rfl rfl rfl rfl) (dep hg 1 rfl rfl rfl rfl), .refl _ _, rfl⟩)) ?_
            refine OksOp.cons _ _ (OkOp.of _ _ (OpOk.run _ _ NbG.keep NbC.keep fun b v hs hc hg => ⟨rfl, _, _, exec_assign rfl (dep hg 0 rfl rfl rfl rfl), .refl _ _, rfl⟩)) ?_
            exact OksOp.nil _ _
          · intro b' w' hsz hd hs hc hall
            have h4' : b'.tmps[6]?.getD undef = .bool true := by
              have : b'.tmps.getD 6 undef = .bool true := hall 37 _ _ rfl rfl
              rwa [Array.getD_eq_getD_getElem?] at this
            clear hall hs
            go_wp2
            exact bodyPost_ret (v := .bool true) (by simp [results, Tryd.results7, h4', go_sem]) hd ⟨rfl, HB9.out.trans (hc.1.mono HB9.out.size)⟩
        | true =>
          have Hmy := Lib.hid hmy
          clear hmy
          have Hpq : Hid (decide (putOf x = putOf y) = decide (x = y)) := decide_eq_decide.2 ⟨fun h => put_inj Hmx.out Ox.out Hmy.out Oy.out h, fun h => by rw [h]⟩
          have Hcz : Hid ((cmpOf x y == 0) = decide (x = y)) := by
            show (cmpOf x y == 0) = decide (x = y)
            rw [Bool.eq_iff_iff]
            simp only [beq_iff_eq, decide_eq_true_eq]
            exact cmpOf_zero x y
          have Hng : Hid (cmpOf x y = -(cmpOf y x)) := cmpOf_neg y x
          refine wp_region_skips (n := 91) (NbF x y) (NbC W9 x y w.heap.size (w.heap.size + 1)) (by kernel_rfl) (by kernel_rfl) rfl ?_ ?_ ?_
          · exact ⟨(Below.refl _ _).drew, HX9.out.keep (Below.refl _ _).drew, HY9.out.keep (Below.refl _ _).drew, HE9.out.on (Below.refl _ _).drew⟩
          · skip
            refine OksOp.cons _ _ (OkOp.of _ _ (OpOk.run _ _ NbF.keep NbC.keep fun b v hs hc hg => ⟨rfl, _, _, exec_loadN rfl (hs 4 (by kernel_rfl)) hc.2.2.1, .refl _ _, rfl⟩)) ?_
            refine OksOp.cons _ _ (OkOp.of _ _ (OpOk.call _ _ NbF.keep NbC.keep fun b v hs hc hg => ⟨rfl, _, _, exec_call1 (enter_may _) rfl (dep hg 0 rfl rfl rfl rfl), ans_q (may_yes y Hmy.out v)⟩)) ?_
            refine OksOp.cons _ _ (OkOp.of _ _ (OpOk.run _ _ NbF.keep NbC.keep fun b v hs hc hg => ⟨rfl, _, _, exec_not rfl (dep hg 0 rfl rfl rfl rfl), .refl _ _, rfl⟩)) ?_
            refine OksOp.cons _ _ (OkOp.of _ _ (OpOk.run _ _ NbF.keep NbC.keep fun b v hs hc hg => ⟨rfl, _, _, exec_move rfl (dep hg 0 rfl rfl rfl rfl), .refl _ _, rfl⟩)) ?_
            refine OksOp.cons _ _ (OkOp.of _ _ (OpOk.run _ _ NbF.keep NbC.keep fun b v hs hc hg => ⟨wanted_of rfl rfl rfl (dep hg 0 rfl rfl rfl rfl), _, _, exec_loadN rfl (hs 3 (by kernel_rfl)) hc.2.1, .refl _ _, rfl⟩)) ?_
            refine OksOp.cons _ _ (OkOp.of _ _ (OpOk.call _ _ NbF.keep NbC.keep fun b v hs hc hg => ⟨wanted_of rfl rfl rfl (dep hg 1 rfl rfl rfl rfl), _, _, exec_call1 (enter_put _) rfl (dep hg 0 rfl rfl rfl rfl), ans_q (put_any x Ox.out v hc.2.2.2)⟩)) ?_
            refine OksOp.cons _ _ (OkOp.of _ _ (OpOk.run _ _ NbF.keep NbC.keep fun b v hs hc hg => ⟨wanted_of rfl rfl rfl (dep hg 0 rfl rfl rfl rfl), _, _, exec_loadN rfl (hs 4 (by kernel_rfl)) hc.2.2.1, .refl _ _, rfl⟩)) ?_
            refine OksOp.cons _ _ (OkOp.of _ _ (OpOk.call _ _ NbF.keep NbC.keep fun b v hs hc hg => ⟨wanted_of rfl rfl rfl (dep hg 2 rfl rfl rfl rfl), _, _, exec_call1 (enter_put _) rfl (dep hg 0 rfl rfl rfl rfl), ans_q (put_any y Oy.out v hc.2.2.2)⟩)) ?_
            refine OksOp.cons _ _ (OkOp.of _ _ (OpOk.run _ _ NbF.keep NbC.keep fun b v hs hc hg => ⟨wanted_of rfl rfl rfl (dep hg 2 rfl rfl rfl rfl), _, _, exec_eqT rfl (dep hg 0 rfl rfl rfl rfl) (dep hg 1 rfl rfl rfl rfl), .refl _ _, rfl⟩)) ?_
            refine OksOp.cons _ _ (OkOp.of _ _ (OpOk.run _ _ NbF.keep NbC.keep fun b v hs hc hg => ⟨wanted_of rfl rfl rfl (dep hg 0 rfl rfl rfl rfl), _, _, exec_loadN rfl (hs 3 (by kernel_rfl)) hc.2.1, .refl _ _, rfl⟩)) ?_
            refine OksOp.cons _ _ (OkOp.of _ _ (OpOk.run _ _ NbF.keep NbC.keep fun b v hs hc hg => ⟨wanted_of rfl rfl rfl (dep hg 0 rfl rfl rfl rfl), _, _, exec_loadN rfl (hs 4 (by kernel_rfl)) hc.2.2.1, .refl _ _, rfl⟩)) ?_
            refine OksOp.cons _ _ (OkOp.of _ _ (OpOk.run _ _ NbF.keep NbC.keep fun b v hs hc hg => ⟨wanted_of rfl rfl rfl (dep hg 2 rfl rfl rfl rfl), _, _, exec_eqN rfl (dep hg 0 rfl rfl rfl rfl) (dep hg 1 rfl rfl rfl rfl), .refl _ _, rfl⟩)) ?_
            refine OksOp.cons _ _ (OkOp.of _ _ (OpOk.run _ _ NbF.keep NbC.keep fun b v hs hc hg => ⟨wanted_of rfl rfl rfl (dep hg 2 rfl rfl rfl rfl), _, _, exec_eqB rfl (dep hg 0 rfl rfl rfl rfl) (dep hg 1 rfl rfl rfl rfl), .refl _ _, by rw [Hpq.out, beq_self_eq_true]; rfl⟩)) ?_
            refine OksOp.cons _ _ (OkOp.of _ _ (OpOk.run _ _ NbF.keep NbC.keep fun b v hs hc hg => ⟨wanted_of rfl rfl rfl (dep hg 2 rfl rfl rfl rfl), _, _, exec_move rfl (dep hg 0 rfl rfl rfl rfl), .refl _ _, rfl⟩)) ?_
            refine OksOp.cons _ _ (OkOp.of _ _ (OpOk.run _ _ NbF.keep NbC.keep fun b v hs hc hg => ⟨wanted_of rfl rfl rfl (dep hg 0 rfl rfl rfl rfl), _, _, exec_loadN rfl (hs 3 (by kernel_rfl)) hc.2.1, .refl _ _, rfl⟩)) ?_
            refine OksOp.cons _ _ (OkOp.of _ _ (OpOk.run _ _ NbF.keep NbC.keep fun b v hs hc hg => ⟨wanted_of rfl rfl rfl (dep hg 0 rfl rfl rfl rfl), _, _, exec_loadN rfl (hs 4 (by kernel_rfl)) hc.2.2.1, .refl _ _, rfl⟩)) ?_
            refine OksOp.cons _ _ (OkOp.of _ _ (OpOk.call _ _ NbF.keep NbC.keep fun b v hs hc hg => ⟨wanted_of rfl rfl rfl (dep hg 2 rfl rfl rfl rfl), _, _, exec_call2 (enter_compare _) rfl (dep hg 0 rfl rfl rfl rfl) (dep hg 1 rfl rfl rfl rfl), ans_q (compare_q x y v)⟩)) ?_
            refine OksOp.cons _ _ (OkOp.of _ _ (OpOk.run _ _ NbF.keep NbC.keep fun b v hs hc hg => ⟨wanted_of rfl rfl rfl (dep hg 1 rfl rfl rfl rfl), _, _, exec_eqI rfl (dep hg 0 rfl rfl rfl rfl) rfl, .refl _ _, rfl⟩)) ?_
            refine OksOp.cons _ _ (OkOp.of _ _ (OpOk.run _ _ NbF.keep NbC.keep fun b v hs hc hg => ⟨wanted_of rfl rfl rfl (dep hg 0 rfl rfl rfl rfl), _, _, exec_loadN rfl (hs 3 (by kernel_rfl)) hc.2.1, .refl _ _, rfl⟩)) ?_
            refine OksOp.cons _ _ (OkOp.of _ _ (OpOk.run _ _ NbF.keep NbC.keep fun b v hs hc hg => ⟨wanted_of rfl rfl rfl (dep hg 0 rfl rfl rfl rfl), _, _, exec_loadN rfl (hs 4 (by kernel_rfl)) hc.2.2.1, .refl _ _, rfl⟩)) ?_
            refine OksOp.cons _ _ (OkOp.of _ _ (OpOk.run _ _ NbF.keep NbC.keep fun b v hs hc hg => ⟨wanted_of rfl rfl rfl (dep hg 2 rfl rfl rfl rfl), _, _, exec_eqN rfl (dep hg 0 rfl rfl rfl rfl) (dep hg 1 rfl rfl rfl rfl), .refl _ _, rfl⟩)) ?_
            refine OksOp.cons _ _ (OkOp.of _ _ (OpOk.run _ _ NbF.keep NbC.keep fun b v hs hc hg => ⟨wanted_of rfl rfl rfl (dep hg 2 rfl rfl rfl rfl), _, _, exec_eqB rfl (dep hg 0 rfl rfl rfl rfl) (dep hg 1 rfl rfl rfl rfl), .refl _ _, by rw [Hcz.out, beq_self_eq_true]; rfl⟩)) ?_
            refine OksOp.cons _ _ (OkOp.of _ _ (OpOk.run _ _ NbF.keep NbC.keep fun b v hs hc hg => ⟨wanted_of rfl rfl rfl (dep hg 2 rfl rfl rfl rfl), _, _, exec_pick rfl (dep hg 0 rfl rfl rfl rfl) (dep hg 1 rfl rfl rfl rfl), .refl _ _, rfl⟩)) ?_
            refine OksOp.cons _ _ (OkOp.of _ _ (OpOk.run _ _ NbF.keep NbC.keep fun b v hs hc hg => ⟨wanted_of rfl rfl rfl (dep hg 2 rfl rfl rfl rfl), _, _, exec_move rfl (dep hg 0 rfl rfl rfl rfl), .refl _ _, rfl⟩)) ?_
            refine OksOp.cons _ _ (OkOp.of _ _ (OpOk.run _ _ NbF.keep NbC.keep fun b v hs hc hg => ⟨wanted_of rfl rfl rfl (dep hg 0 rfl rfl rfl rfl), _, _, exec_loadN rfl (hs 3 (by kernel_rfl)) hc.2.1, .refl _ _, rfl⟩)) ?_
            refine OksOp.cons _ _ (OkOp.of _ _ (OpOk.run _ _ NbF.keep NbC.keep fun b v hs hc hg => ⟨wanted_of rfl rfl rfl (dep hg 0 rfl rfl rfl rfl), _, _, exec_loadN rfl (hs 4 (by kernel_rfl)) hc.2.2.1, .refl _ _, rfl⟩)) ?_
            refine OksOp.cons _ _ (OkOp.of _ _ (OpOk.call _ _ NbF.keep NbC.keep fun b v hs hc hg => ⟨wanted_of rfl rfl rfl (dep hg 2 rfl rfl rfl rfl), _, _, exec_call2 (enter_compare _) rfl (dep hg 0 rfl rfl rfl rfl) (dep hg 1 rfl rfl rfl rfl), ans_q (compare_q x y v)⟩)) ?_
            refine OksOp.cons _ _ (OkOp.of _ _ (OpOk.run _ _ NbF.keep NbC.keep fun b v hs hc hg => ⟨wanted_of rfl rfl rfl (dep hg 0 rfl rfl rfl rfl), _, _, exec_loadN rfl (hs 4 (by kernel_rfl)) hc.2.2.1, .refl _ _, rfl⟩)) ?_
            refine OksOp.cons _ _ (OkOp.of _ _ (OpOk.run _ _ NbF.keep NbC.keep fun b v hs hc hg => ⟨wanted_of rfl rfl rfl (dep hg 0 rfl rfl rfl rfl), _, _, exec_loadN rfl (hs 3 (by kernel_rfl)) hc.2.1, .refl _ _, rfl⟩)) ?_
            refine OksOp.cons _ _ (OkOp.of _ _ (OpOk.call _ _ NbF.keep NbC.keep fun b v hs hc hg => ⟨wanted_of rfl rfl rfl (dep hg 3 rfl rfl rfl rfl), _, _, exec_call2 (enter_compare _) rfl (dep hg 0 rfl rfl rfl rfl) (dep hg 1 rfl rfl rfl rfl), ans_q (compare_q y x v)⟩)) ?_
            refine OksOp.cons _ _ (OkOp.of _ _ (OpOk.run _ _ NbF.keep NbC.keep fun b v hs hc hg => ⟨wanted_of rfl rfl rfl (dep hg 1 rfl rfl rfl rfl), _, _, exec_neg (cmpOf_range y x) rfl (dep hg 0 rfl rfl rfl rfl), .refl _ _, rfl⟩)) ?_
            refine OksOp.cons _ _ (OkOp.of _ _ (OpOk.run _ _ NbF.keep NbC.keep fun b v hs hc hg => ⟨wanted_of rfl rfl rfl (dep hg 2 rfl rfl rfl rfl), _, _, exec_eqI rfl (dep hg 0 rfl rfl rfl rfl) (dep hg 1 rfl rfl rfl rfl), .refl _ _, by rw [Hng.out, beq_self_eq_true]; rfl⟩)) ?_
            refine OksOp.cons _ _ (OkOp.of _ _ (OpOk.run _ _ NbF.keep NbC.keep fun b v hs hc hg => ⟨wanted_of rfl rfl rfl (dep hg 2 rfl rfl rfl rfl), _, _, exec_pick rfl (dep hg 0 rfl rfl rfl rfl) (dep hg 1 rfl rfl rfl rfl), .refl _ _, rfl⟩)) ?_
            refine OksOp.cons _ _ (OkOp.of _ _ (OpOk.run _ _ NbF.keep NbC.keep fun b v hs hc hg => ⟨rfl, _, _, exec_pick rfl (dep hg 0 rfl rfl rfl rfl) (dep hg 1 rfl rfl rfl rfl), .refl _ _, rfl⟩)) ?_
            refine OksOp.cons _ _ (OkOp.of _ _ (OpOk.run _ _ NbF.keep NbC.keep fun b v hs hc hg => ⟨rfl, _, _, exec_move rfl (dep hg 0 rfl rfl rfl rfl), .refl _ _, rfl⟩)) ?_
            refine OksOp.cons _ _ (OkOp.of _ _ (OpOk.call _ _ NbF.keep NbC.keep fun b v hs hc hg => ⟨wanted_of rfl rfl rfl (dep hg 0 rfl rfl rfl rfl), _, _, exec_call0 (enter_works _) rfl, ans_q (works_any v hc.2.2.2)⟩)) ?_
            refine OksOp.cons _ _ (OkOp.of _ _ (OpOk.run _ _ NbF.keep NbC.keep fun b v hs hc hg => ⟨rfl, _, _, exec_pick rfl (dep hg 0 rfl rfl rfl rfl) (dep hg 1 rfl rfl rfl rfl), .refl _ _, rfl⟩)) ?_
            refine OksOp.cons _ _ (OkOp.of _ _ (OpOk.run _ _ NbF.keep NbC.keep fun b v hs hc hg => ⟨rfl, _, _, exec_assign rfl (dep hg 0 rfl rfl rfl rfl), .refl _ _, rfl⟩)) ?_
            exact OksOp.nil _ _
          · intro b' w' hsz hd hs hc hall
            have h4' : b'.tmps[6]?.getD undef = .bool true := by
              have : b'.tmps.getD 6 undef = .bool true := hall 37 _ _ rfl rfl
              rwa [Array.getD_eq_getD_getElem?] at this
            clear hall hs
            go_wp2
            exact bodyPost_ret (v := .bool true) (by simp [results, Tryd.results7, h4', go_sem]) hd ⟨rfl, HB9.out.trans (hc.1.mono HB9.out.size)⟩
    | some n =>
      obtain ⟨hmn, rfl, on⟩ := put_parse hp
      have Hp := Lib.hid hp
      have Hmn := Lib.hid hmn
      have On := Lib.hid on
      clear hp hmn on
      go_upto_region 4 with (go_at_call 17; refine (parse_yes (putOf n) n Hp.out _ HEW.out Hlen.out).mono ?_; rintro e w5 ⟨rfl, hb5⟩)
      obtain ⟨W3, hW3⟩ : ∃ W, Hid (W = w5.alloc (.cells #[.int .u8 (n.k : Int), .int .u64 (n.d : Int), .int .u64 (n.n : Int), .int .u64 (n.p : Int), .int .u64 (n.i : Int), .int .u64 (n.c : Int)] 24)) := ⟨_, rfl⟩
      rw [← hW3.out]
      have h35 : Below W.heap.size W W3 := by rw [hW3.out]; exact hb5.alloc hb5.size _
      have HN3 : Hid (BoxNm n W3 ⟨w5.heap.size, 0, none⟩) := by rw [hW3.out]; exact boxNm_new n w5 _
      have HXA := Lib.hid (HX.out.keep h35)
      have HYA := Lib.hid (HY.out.keep h35)
      have HEA := Lib.hid (HEW.out.on h35)
      have HBA := Lib.hid (HG.out.trans (h35.mono HG.out.size))
      clear h35 hb5
      have hbeq : ((txt (putOf n)).toList == (txt (putOf n)).toList) = true := beq_self_eq_true _
      have nb := HN3.out
      have n0 : W3.cell? ⟨w5.heap.size, 0, none⟩ = some (.int .u8 (n.k : Int)) := nb.c0
      have n1 : W3.cell? ⟨w5.heap.size, 1, none⟩ = some (.int .u64 (n.d : Int)) := nb.c1
      have n2 : W3.cell? ⟨w5.heap.size, 2, none⟩ = some (.int .u64 (n.n : Int)) := nb.c2
      have n3 : W3.cell? ⟨w5.heap.size, 3, none⟩ = some (.int .u64 (n.p : Int)) := nb.c3
      have n4 : W3.cell? ⟨w5.heap.size, 4, none⟩ = some (.int .u64 (n.i : Int)) := nb.c4
      have n5 : W3.cell? ⟨w5.heap.size, 5, none⟩ = some (.int .u64 (n.c : Int)) := nb.c5
      clear nb
      go_upto_region 6 with (first
        | (go_at_call 12; refine (put_any n On.out _ HEA.out).mono ?_; rintro e v6 ⟨rfl, hv6⟩
           have qb := HN3.out.keep hv6
           have q0 : v6.cell? ⟨w5.heap.size, 0, none⟩ = some (.int .u8 (n.k : Int)) := qb.c0
           have q1 : v6.cell? ⟨w5.heap.size, 1, none⟩ = some (.int .u64 (n.d : Int)) := qb.c1
           have q2 : v6.cell? ⟨w5.heap.size, 2, none⟩ = some (.int .u64 (n.n : Int)) := qb.c2
           have q3 : v6.cell? ⟨w5.heap.size, 3, none⟩ = some (.int .u64 (n.p : Int)) := qb.c3
           have q4 : v6.cell? ⟨w5.heap.size, 4, none⟩ = some (.int .u64 (n.i : Int)) := qb.c4
           have q5 : v6.cell? ⟨w5.heap.size, 5, none⟩ = some (.int .u64 (n.c : Int)) := qb.c5
           clear qb)
        | (go_at_call 10; refine (may_yes n Hmn.out _).mono ?_; rintro e W4 ⟨rfl, hv7⟩))
      have h67 := hv6.trans (hv7.mono hv6.size)
      have HXW4 := Lib.hid (HXA.out.keep h67)
      have HYW4 := Lib.hid (HYA.out.keep h67)
      have HEW4 := Lib.hid (HEA.out.on h67)
      have HBW4 := Lib.hid (HBA.out.trans (h67.mono HBA.out.size))
      clear h67 hv6 hv7
      clear n0 n1 n2 n3 n4 n5
      clear q0 q1 q2 q3 q4 q5
      have xb := HXW4.out
      have x0 : W4.cell? ⟨w.heap.size, 0, none⟩ = some (.int .u8 (x.k : Int)) := xb.c0
      have x1 : W4.cell? ⟨w.heap.size, 1, none⟩ = some (.int .u64 (x.d : Int)) := xb.c1
      have x2 : W4.cell? ⟨w.heap.size, 2, none⟩ = some (.int .u64 (x.n : Int)) := xb.c2
      have x3 : W4.cell? ⟨w.heap.size, 3, none⟩ = some (.int .u64 (x.p : Int)) := xb.c3
      have x4 : W4.cell? ⟨w.heap.size, 4, none⟩ = some (.int .u64 (x.i : Int)) := xb.c4
      have x5 : W4.cell? ⟨w.heap.size, 5, none⟩ = some (.int .u64 (x.c : Int)) := xb.c5
      clear xb
      cases hmx : mayOf x with
      | false =>
        have Hmx := Lib.hid hmx
        clear hmx
        have hbe : (txt []).toList = [] := by rw [ByteArray.toList_eq]; rfl
        go_wp2_with (first
          | (go_at_call 10; refine (may_no x Hmx.out _).mono ?_; rintro e v1 ⟨rfl, hv1⟩
             have yb := HXW4.out.keep hv1
             have y0 : v1.cell? ⟨w.heap.size, 0, none⟩ = some (.int .u8 (x.k : Int)) := yb.c0
             have y1 : v1.cell? ⟨w.heap.size, 1, none⟩ = some (.int .u64 (x.d : Int)) := yb.c1
             have y2 : v1.cell? ⟨w.heap.size, 2, none⟩ = some (.int .u64 (x.n : Int)) := yb.c2
             have y3 : v1.cell? ⟨w.heap.size, 3, none⟩ = some (.int .u64 (x.p : Int)) := yb.c3
             have y4 : v1.cell? ⟨w.heap.size, 4, none⟩ = some (.int .u64 (x.i : Int)) := yb.c4
             have y5 : v1.cell? ⟨w.heap.size, 5, none⟩ = some (.int .u64 (x.c : Int)) := yb.c5
             clear yb)
          | (go_at_call 12; refine (put_none x Hmx.out Ox.out _ (HEW4.out.on hv1)).mono ?_; rintro e v2 ⟨rfl, hv2⟩)
          | (go_at_call 16; refine (works_any _ ((HEW4.out.on hv1).on hv2)).mono ?_; rintro e v3 ⟨rfl, hv3⟩))
        go_ret
        exact ⟨rfl, HBW4.out.trans (((hv1.trans (hv2.mono hv1.size)).trans (hv3.mono (Nat.le_trans hv1.size hv2.size))).mono HBW4.out.size)⟩
      | true =>
        have Hmx := Lib.hid hmx
        clear hmx
        have Hlx : Hid ((putOf x).length < 4294967281) := by
          have := putOf_le x Ox.out
          show _ < _
          omega
        go_upto_region 9 with (first
          | (go_at_call 10; refine (may_yes x Hmx.out _).mono ?_; rintro e v1 ⟨rfl, hv1⟩
             have yb := HXW4.out.keep hv1
             have y0 : v1.cell? ⟨w.heap.size, 0, none⟩ = some (.int .u8 (x.k : Int)) := yb.c0
             have y1 : v1.cell? ⟨w.heap.size, 1, none⟩ = some (.int .u64 (x.d : Int)) := yb.c1
             have y2 : v1.cell? ⟨w.heap.size, 2, none⟩ = some (.int .u64 (x.n : Int)) := yb.c2
             have y3 : v1.cell? ⟨w.heap.size, 3, none⟩ = some (.int .u64 (x.p : Int)) := yb.c3
             have y4 : v1.cell? ⟨w.heap.size, 4, none⟩ = some (.int .u64 (x.i : Int)) := yb.c4
             have y5 : v1.cell? ⟨w.heap.size, 5, none⟩ = some (.int .u64 (x.c : Int)) := yb.c5
             clear yb)
          | (go_at_call 12; refine (put_any x Ox.out _ (HEW4.out.on hv1)).mono ?_; rintro e v2 ⟨rfl, hv2⟩)
          | (go_at_call 17; refine (parse_yes (putOf x) x (parse_put Hmx.out Ox.out) _ ((HEW4.out.on hv1).on hv2) Hlx.out).mono ?_; rintro e v3 ⟨rfl, hv3⟩))
        obtain ⟨W9, hW9⟩ : ∃ W, Hid (W = v3.alloc (.cells #[.int .u8 (x.k : Int), .int .u64 (x.d : Int), .int .u64 (x.n : Int), .int .u64 (x.p : Int), .int .u64 (x.i : Int), .int .u64 (x.c : Int)] 24)) := ⟨_, rfl⟩
        rw [← hW9.out]
        have h39 : Below W4.heap.size W4 W9 := by
          have h3 := (hv1.trans (hv2.mono hv1.size)).trans (hv3.mono (Nat.le_trans hv1.size hv2.size))
          rw [hW9.out]
          exact h3.alloc h3.size _
        have HX9 := Lib.hid (HXW4.out.keep h39)
        have HY9 := Lib.hid (HYW4.out.keep h39)
        have HE9 := Lib.hid (HEW4.out.on h39)
        have HB9 := Lib.hid (HBW4.out.trans (h39.mono HBW4.out.size))
        have HM9 : Hid (BoxNm x W9 ⟨v3.heap.size, 0, none⟩) := by rw [hW9.out]; exact boxNm_new x v3 _
        clear h39 hv1 hv2 hv3
        clear x0 x1 x2 x3 x4 x5
        clear y0 y1 y2 y3 y4 y5
        have xb := HX9.out
        have x0 : W9.cell? ⟨w.heap.size, 0, none⟩ = some (.int .u8 (x.k : Int)) := xb.c0
        have x1 : W9.cell? ⟨w.heap.size, 1, none⟩ = some (.int .u64 (x.d : Int)) := xb.c1
        have x2 : W9.cell? ⟨w.heap.size, 2, none⟩ = some (.int .u64 (x.n : Int)) := xb.c2
        have x3 : W9.cell? ⟨w.heap.size, 3, none⟩ = some (.int .u64 (x.p : Int)) := xb.c3
        have x4 : W9.cell? ⟨w.heap.size, 4, none⟩ = some (.int .u64 (x.i : Int)) := xb.c4
        have x5 : W9.cell? ⟨w.heap.size, 5, none⟩ = some (.int .u64 (x.c : Int)) := xb.c5
        clear xb
        have mb := HM9.out
        have m0 : W9.cell? ⟨v3.heap.size, 0, none⟩ = some (.int .u8 (x.k : Int)) := mb.c0
        have m1 : W9.cell? ⟨v3.heap.size, 1, none⟩ = some (.int .u64 (x.d : Int)) := mb.c1
        have m2 : W9.cell? ⟨v3.heap.size, 2, none⟩ = some (.int .u64 (x.n : Int)) := mb.c2
        have m3 : W9.cell? ⟨v3.heap.size, 3, none⟩ = some (.int .u64 (x.p : Int)) := mb.c3
        have m4 : W9.cell? ⟨v3.heap.size, 4, none⟩ = some (.int .u64 (x.i : Int)) := mb.c4
        have m5 : W9.cell? ⟨v3.heap.size, 5, none⟩ = some (.int .u64 (x.c : Int)) := mb.c5
        clear mb
        go_upto_region 11 with fail
        cases hmy : mayOf y with
        | false =>
          have Hmy := Lib.hid hmy
          clear hmy
          refine wp_region_skips (n := 91) (NbG y) (NbC W9 x y w.heap.size (w.heap.size + 1)) (by kernel_rfl) (by kernel_rfl) rfl ?_ ?_ ?_
          · exact ⟨(Below.refl _ _).drew, HX9.out.keep (Below.refl _ _).drew, HY9.out.keep (Below.refl _ _).drew, HE9.out.on (Below.refl _ _).drew⟩
          · skip
            refine OksOp.cons _ _ (OkOp.of _ _ (OpOk.run _ _ NbG.keep NbC.keep fun b v hs hc hg => ⟨rfl, _, _, exec_loadN rfl (hs 4 (by kernel_rfl)) hc.2.2.1, .refl _ _, rfl⟩)) ?_
            refine OksOp.cons _ _ (OkOp.of _ _ (OpOk.call _ _ NbG.keep NbC.keep fun b v hs hc hg => ⟨rfl, _, _, exec_call1 (enter_may _) rfl (dep hg 0 rfl rfl rfl rfl), ans_q (may_no y Hmy.out v)⟩)) ?_
            refine OksOp.cons _ _ (OkOp.of _ _ (OpOk.run _ _ NbG.keep NbC.keep fun b v hs hc hg => ⟨rfl, _, _, exec_not rfl (dep hg 0 rfl rfl rfl rfl), .refl _ _, rfl⟩)) ?_
            refine OksOp.cons _ _ (OkOp.of _ _ (OpOk.run _ _ NbG.keep NbC.keep fun b v hs hc hg => ⟨rfl, _, _, exec_move rfl (dep hg 0 rfl rfl rfl rfl), .refl _ _, rfl⟩)) ?_
            refine OksOp.cons _ _ (OkOp.skip _ _ fun b v hs hc hg => ⟨unwanted_of rfl rfl rfl (dep hg 0 rfl rfl rfl rfl), rfl⟩) ?_
            refine OksOp.cons _ _ (OkOp.skip _ _ fun b v hs hc hg => ⟨unwanted_of rfl rfl rfl (dep hg 1 rfl rfl rfl rfl), rfl⟩) ?_
            refine OksOp.cons _ _ (OkOp.skip _ _ fun b v hs hc hg => ⟨unwanted_of rfl rfl rfl (dep hg 0 rfl rfl rfl rfl), rfl⟩) ?_
            refine OksOp.cons _ _ (OkOp.skip _ _ fun b v hs hc hg => ⟨unwanted_of rfl rfl rfl (dep hg 2 rfl rfl rfl rfl), rfl⟩) ?_
            refine OksOp.cons _ _ (OkOp.skip _ _ fun b v hs hc hg => ⟨unwanted_of rfl rfl rfl (dep hg 2 rfl rfl rfl rfl), rfl⟩) ?_
            refine OksOp.cons _ _ (OkOp.skip _ _ fun b v hs hc hg => ⟨unwanted_of rfl rfl rfl (dep hg 0 rfl rfl rfl rfl), rfl⟩) ?_
            refine OksOp.cons _ _ (OkOp.skip _ _ fun b v hs hc hg => ⟨unwanted_of rfl rfl rfl (dep hg 0 rfl rfl rfl rfl), rfl⟩) ?_
            refine OksOp.cons _ _ (OkOp.skip _ _ fun b v hs hc hg => ⟨unwanted_of rfl rfl rfl (dep hg 2 rfl rfl rfl rfl), rfl⟩) ?_
            refine OksOp.cons _ _ (OkOp.skip _ _ fun b v hs hc hg => ⟨unwanted_of rfl rfl rfl (dep hg 2 rfl rfl rfl rfl), rfl⟩) ?_
            refine OksOp.cons _ _ (OkOp.skip _ _ fun b v hs hc hg => ⟨unwanted_of rfl rfl rfl (dep hg 2 rfl rfl rfl rfl), rfl⟩) ?_
            refine OksOp.cons _ _ (OkOp.skip _ _ fun b v hs hc hg => ⟨unwanted_un rfl rfl rfl (dep hg 0 rfl rfl rfl rfl), rfl⟩) ?_
            refine OksOp.cons _ _ (OkOp.skip _ _ fun b v hs hc hg => ⟨unwanted_un rfl rfl rfl (dep hg 0 rfl rfl rfl rfl), rfl⟩) ?_
            refine OksOp.cons _ _ (OkOp.skip _ _ fun b v hs hc hg => ⟨unwanted_un rfl rfl rfl (dep hg 2 rfl rfl rfl rfl), rfl⟩) ?_
            refine OksOp.cons _ _ (OkOp.skip _ _ fun b v hs hc hg => ⟨unwanted_un rfl rfl rfl (dep hg 1 rfl rfl rfl rfl), rfl⟩) ?_
            refine OksOp.cons _ _ (OkOp.skip _ _ fun b v hs hc hg => ⟨unwanted_un rfl rfl rfl (dep hg 0 rfl rfl rfl rfl), rfl⟩) ?_
            refine OksOp.cons _ _ (OkOp.skip _ _ fun b v hs hc hg => ⟨unwanted_un rfl rfl rfl (dep hg 0 rfl rfl rfl rfl), rfl⟩) ?_
            refine OksOp.cons _ _ (OkOp.skip _ _ fun b v hs hc hg => ⟨unwanted_un rfl rfl rfl (dep hg 2 rfl rfl rfl rfl), rfl⟩) ?_
            refine OksOp.cons _ _ (OkOp.skip _ _ fun b v hs hc hg => ⟨unwanted_un rfl rfl rfl (dep hg 2 rfl rfl rfl rfl), rfl⟩) ?_
            refine OksOp.cons _ _ (OkOp.skip _ _ fun b v hs hc hg => ⟨unwanted_of rfl rfl rfl (dep hg 2 rfl rfl rfl rfl), rfl⟩) ?_
            refine OksOp.cons _ _ (OkOp.skip _ _ fun b v hs hc hg => ⟨unwanted_of rfl rfl rfl (dep hg 2 rfl rfl rfl rfl), rfl⟩) ?_
            refine OksOp.cons _ _ (OkOp.skip _ _ fun b v hs hc hg => ⟨unwanted_un rfl rfl rfl (dep hg 0 rfl rfl rfl rfl), rfl⟩) ?_
            refine OksOp.cons _ _ (OkOp.skip _ _ fun b v hs hc hg => ⟨unwanted_un rfl rfl rfl (dep hg 0 rfl rfl rfl rfl), rfl⟩) ?_
            refine OksOp.cons _ _ (OkOp.skip _ _ fun b v hs hc hg => ⟨unwanted_un rfl rfl rfl (dep hg 2 rfl rfl rfl rfl), rfl⟩) ?_
            refine OksOp.cons _ _ (OkOp.skip _ _ fun b v hs hc hg => ⟨unwanted_un rfl rfl rfl (dep hg 0 rfl rfl rfl rfl), rfl⟩) ?_
            refine OksOp.cons _ _ (OkOp.skip _ _ fun b v hs hc hg => ⟨unwanted_un rfl rfl rfl (dep hg 0 rfl rfl rfl rfl), rfl⟩) ?_
            refine OksOp.cons _ _ (OkOp.skip _ _ fun b v hs hc hg => ⟨unwanted_un rfl rfl rfl (dep hg 3 rfl rfl rfl rfl), rfl⟩) ?_
            refine OksOp.cons _ _ (OkOp.skip _ _ fun b v hs hc hg => ⟨unwanted_un rfl rfl rfl (dep hg 1 rfl rfl rfl rfl), rfl⟩) ?_
            refine OksOp.cons _ _ (OkOp.skip _ _ fun b v hs hc hg => ⟨unwanted_un rfl rfl rfl (dep hg 2 rfl rfl rfl rfl), rfl⟩) ?_
            refine OksOp.cons _ _ (OkOp.skip _ _ fun b v hs hc hg => ⟨unwanted_of rfl rfl rfl (dep hg 2 rfl rfl rfl rfl), rfl⟩) ?_
            refine OksOp.cons _ _ (OkOp.of _ _ (OpOk.run _ _ NbG.keep NbC.keep fun b v hs hc hg => ⟨rfl, _, _, exec_pick rfl (dep hg 0 rfl rfl rfl rfl) rfl, .refl _ _, rfl⟩)) ?_
            refine OksOp.cons _ _ (OkOp.of _ _ (OpOk.run _ _ NbG.keep NbC.keep fun b v hs hc hg => ⟨rfl, _, _, exec_move rfl (dep hg 0 rfl rfl rfl rfl), .refl _ _, rfl⟩)) ?_
            refine OksOp.cons _ _ (OkOp.of _ _ (OpOk.call _ _ NbG.keep NbC.keep fun b v hs hc hg => ⟨wanted_of rfl rfl rfl (dep hg 0 rfl rfl rfl rfl), _, _, exec_call0 (enter_works _) rfl, ans_q (works_any v hc.2.2.2)⟩)) ?_
            refine OksOp.cons _ _ (OkOp.of _ _ (OpOk.run _ _ NbG.keep NbC.keep fun b v hs hc hg => ⟨rfl, _, _, exec_pick rfl (dep hg 0 rfl rfl rfl rfl) (dep hg 1 rfl rfl rfl rfl), .refl _ _, rfl⟩)) ?_
            refine OksOp.cons _ _ (OkOp.of _ _ (OpOk.run _ _ NbG.keep NbC.keep fun b v hs hc hg => ⟨rfl, _, _, exec_assign rfl (dep hg 0 rfl rfl rfl rfl), .refl _ _, rfl⟩)) ?_
            exact OksOp.nil _ _
          · intro b' w' hsz hd hs hc hall
            have h4' : b'.tmps[6]?.getD undef = .bool true := by
              have : b'.tmps.getD 6 undef = .bool true := hall 37 _ _ rfl rfl
              rwa [Array.getD_eq_getD_getElem?] at this
            clear hall hs
            go_wp2
            exact bodyPost_ret (v := .bool true) (by simp [results, Tryd.results7, h4', go_sem]) hd ⟨rfl, HB9.out.trans (hc.1.mono HB9.out.size)⟩
        | true =>
          have Hmy := Lib.hid hmy
          clear hmy
          have Hpq : Hid (decide (putOf x = putOf y) = decide (x = y)) := decide_eq_decide.2 ⟨fun h => put_inj Hmx.out Ox.out Hmy.out Oy.out h, fun h => by rw [h]⟩
          have Hcz : Hid ((cmpOf x y == 0) = decide (x = y)) := by
            show (cmpOf x y == 0) = decide (x = y)
            rw [Bool.eq_iff_iff]
            simp only [beq_iff_eq, decide_eq_true_eq]
            exact cmpOf_zero x y
          have Hng : Hid (cmpOf x y = -(cmpOf y x)) := cmpOf_neg y x
          refine wp_region_skips (n := 91) (NbF x y) (NbC W9 x y w.heap.size (w.heap.size + 1)) (by kernel_rfl) (by kernel_rfl) rfl ?_ ?_ ?_
          · exact ⟨(Below.refl _ _).drew, HX9.out.keep (Below.refl _ _).drew, HY9.out.keep (Below.refl _ _).drew, HE9.out.on (Below.refl _ _).drew⟩
          · skip
            refine OksOp.cons _ _ (OkOp.of _ _ (OpOk.run _ _ NbF.keep NbC.keep fun b v hs hc hg => ⟨rfl, _, _, exec_loadN rfl (hs 4 (by kernel_rfl)) hc.2.2.1, .refl _ _, rfl⟩)) ?_
            refine OksOp.cons _ _ (OkOp.of _ _ (OpOk.call _ _ NbF.keep NbC.keep fun b v hs hc hg => ⟨rfl, _, _, exec_call1 (enter_may _) rfl (dep hg 0 rfl rfl rfl rfl), ans_q (may_yes y Hmy.out v)⟩)) ?_
            refine OksOp.cons _ _ (OkOp.of _ _ (OpOk.run _ _ NbF.keep NbC.keep fun b v hs hc hg => ⟨rfl, _, _, exec_not rfl (dep hg 0 rfl rfl rfl rfl), .refl _ _, rfl⟩)) ?_
            refine OksOp.cons _ _ (OkOp.of _ _ (OpOk.run _ _ NbF.keep NbC.keep fun b v hs hc hg => ⟨rfl, _, _, exec_move rfl (dep hg 0 rfl rfl rfl rfl), .refl _ _, rfl⟩)) ?_
            refine OksOp.cons _ _ (OkOp.of _ _ (OpOk.run _ _ NbF.keep NbC.keep fun b v hs hc hg => ⟨wanted_of rfl rfl rfl (dep hg 0 rfl rfl rfl rfl), _, _, exec_loadN rfl (hs 3 (by kernel_rfl)) hc.2.1, .refl _ _, rfl⟩)) ?_
            refine OksOp.cons _ _ (OkOp.of _ _ (OpOk.call _ _ NbF.keep NbC.keep fun b v hs hc hg => ⟨wanted_of rfl rfl rfl (dep hg 1 rfl rfl rfl rfl), _, _, exec_call1 (enter_put _) rfl (dep hg 0 rfl rfl rfl rfl), ans_q (put_any x Ox.out v hc.2.2.2)⟩)) ?_
            refine OksOp.cons _ _ (OkOp.of _ _ (OpOk.run _ _ NbF.keep NbC.keep fun b v hs hc hg => ⟨wanted_of rfl rfl rfl (dep hg 0 rfl rfl rfl rfl), _, _, exec_loadN rfl (hs 4 (by kernel_rfl)) hc.2.2.1, .refl _ _, rfl⟩)) ?_
            refine OksOp.cons _ _ (OkOp.of _ _ (OpOk.call _ _ NbF.keep NbC.keep fun b v hs hc hg => ⟨wanted_of rfl rfl rfl (dep hg 2 rfl rfl rfl rfl), _, _, exec_call1 (enter_put _) rfl (dep hg 0 rfl rfl rfl rfl), ans_q (put_any y Oy.out v hc.2.2.2)⟩)) ?_
            refine OksOp.cons _ _ (OkOp.of _ _ (OpOk.run _ _ NbF.keep NbC.keep fun b v hs hc hg => ⟨wanted_of rfl rfl rfl (dep hg 2 rfl rfl rfl rfl), _, _, exec_eqT rfl (dep hg 0 rfl rfl rfl rfl) (dep hg 1 rfl rfl rfl rfl), .refl _ _, rfl⟩)) ?_
            refine OksOp.cons _ _ (OkOp.of _ _ (OpOk.run _ _ NbF.keep NbC.keep fun b v hs hc hg => ⟨wanted_of rfl rfl rfl (dep hg 0 rfl rfl rfl rfl), _, _, exec_loadN rfl (hs 3 (by kernel_rfl)) hc.2.1, .refl _ _, rfl⟩)) ?_
            refine OksOp.cons _ _ (OkOp.of _ _ (OpOk.run _ _ NbF.keep NbC.keep fun b v hs hc hg => ⟨wanted_of rfl rfl rfl (dep hg 0 rfl rfl rfl rfl), _, _, exec_loadN rfl (hs 4 (by kernel_rfl)) hc.2.2.1, .refl _ _, rfl⟩)) ?_
            refine OksOp.cons _ _ (OkOp.of _ _ (OpOk.run _ _ NbF.keep NbC.keep fun b v hs hc hg => ⟨wanted_of rfl rfl rfl (dep hg 2 rfl rfl rfl rfl), _, _, exec_eqN rfl (dep hg 0 rfl rfl rfl rfl) (dep hg 1 rfl rfl rfl rfl), .refl _ _, rfl⟩)) ?_
            refine OksOp.cons _ _ (OkOp.of _ _ (OpOk.run _ _ NbF.keep NbC.keep fun b v hs hc hg => ⟨wanted_of rfl rfl rfl (dep hg 2 rfl rfl rfl rfl), _, _, exec_eqB rfl (dep hg 0 rfl rfl rfl rfl) (dep hg 1 rfl rfl rfl rfl), .refl _ _, by rw [Hpq.out, beq_self_eq_true]; rfl⟩)) ?_
            refine OksOp.cons _ _ (OkOp.of _ _ (OpOk.run _ _ NbF.keep NbC.keep fun b v hs hc hg => ⟨wanted_of rfl rfl rfl (dep hg 2 rfl rfl rfl rfl), _, _, exec_move rfl (dep hg 0 rfl rfl rfl rfl), .refl _ _, rfl⟩)) ?_
            refine OksOp.cons _ _ (OkOp.of _ _ (OpOk.run _ _ NbF.keep NbC.keep fun b v hs hc hg => ⟨wanted_of rfl rfl rfl (dep hg 0 rfl rfl rfl rfl), _, _, exec_loadN rfl (hs 3 (by kernel_rfl)) hc.2.1, .refl _ _, rfl⟩)) ?_
            refine OksOp.cons _ _ (OkOp.of _ _ (OpOk.run _ _ NbF.keep NbC.keep fun b v hs hc hg => ⟨wanted_of rfl rfl rfl (dep hg 0 rfl rfl rfl rfl), _, _, exec_loadN rfl (hs 4 (by kernel_rfl)) hc.2.2.1, .refl _ _, rfl⟩)) ?_
            refine OksOp.cons _ _ (OkOp.of _ _ (OpOk.call _ _ NbF.keep NbC.keep fun b v hs hc hg => ⟨wanted_of rfl rfl rfl (dep hg 2 rfl rfl rfl rfl), _, _, exec_call2 (enter_compare _) rfl (dep hg 0 rfl rfl rfl rfl) (dep hg 1 rfl rfl rfl rfl), ans_q (compare_q x y v)⟩)) ?_
            refine OksOp.cons _ _ (OkOp.of _ _ (OpOk.run _ _ NbF.keep NbC.keep fun b v hs hc hg => ⟨wanted_of rfl rfl rfl (dep hg 1 rfl rfl rfl rfl), _, _, exec_eqI rfl (dep hg 0 rfl rfl rfl rfl) rfl, .refl _ _, rfl⟩)) ?_
            refine OksOp.cons _ _ (OkOp.of _ _ (OpOk.run _ _ NbF.keep NbC.keep fun b v hs hc hg => ⟨wanted_of rfl rfl rfl (dep hg 0 rfl rfl rfl rfl), _, _, exec_loadN rfl (hs 3 (by kernel_rfl)) hc.2.1, .refl _ _, rfl⟩)) ?_
            refine OksOp.cons _ _ (OkOp.of _ _ (OpOk.run _ _ NbF.keep NbC.keep fun b v hs hc hg => ⟨wanted_of rfl rfl rfl (dep hg 0 rfl rfl rfl rfl), _, _, exec_loadN rfl (hs 4 (by kernel_rfl)) hc.2.2.1, .refl _ _, rfl⟩)) ?_
            refine OksOp.cons _ _ (OkOp.of _ _ (OpOk.run _ _ NbF.keep NbC.keep fun b v hs hc hg => ⟨wanted_of rfl rfl rfl (dep hg 2 rfl rfl rfl rfl), _, _, exec_eqN rfl (dep hg 0 rfl rfl rfl rfl) (dep hg 1 rfl rfl rfl rfl), .refl _ _, rfl⟩)) ?_
            refine OksOp.cons _ _ (OkOp.of _ _ (OpOk.run _ _ NbF.keep NbC.keep fun b v hs hc hg => ⟨wanted_of rfl rfl rfl (dep hg 2 rfl rfl rfl rfl), _, _, exec_eqB rfl (dep hg 0 rfl rfl rfl rfl) (dep hg 1 rfl rfl rfl rfl), .refl _ _, by rw [Hcz.out, beq_self_eq_true]; rfl⟩)) ?_
            refine OksOp.cons _ _ (OkOp.of _ _ (OpOk.run _ _ NbF.keep NbC.keep fun b v hs hc hg => ⟨wanted_of rfl rfl rfl (dep hg 2 rfl rfl rfl rfl), _, _, exec_pick rfl (dep hg 0 rfl rfl rfl rfl) (dep hg 1 rfl rfl rfl rfl), .refl _ _, rfl⟩)) ?_
            refine OksOp.cons _ _ (OkOp.of _ _ (OpOk.run _ _ NbF.keep NbC.keep fun b v hs hc hg => ⟨wanted_of rfl rfl rfl (dep hg 2 rfl rfl rfl rfl), _, _, exec_move rfl (dep hg 0 rfl rfl rfl rfl), .refl _ _, rfl⟩)) ?_
            refine OksOp.cons _ _ (OkOp.of _ _ (OpOk.run _ _ NbF.keep NbC.keep fun b v hs hc hg => ⟨wanted_of rfl rfl rfl (dep hg 0 rfl rfl rfl rfl), _, _, exec_loadN rfl (hs 3 (by kernel_rfl)) hc.2.1, .refl _ _, rfl⟩)) ?_
            refine OksOp.cons _ _ (OkOp.of _ _ (OpOk.run _ _ NbF.keep NbC.keep fun b v hs hc hg => ⟨wanted_of rfl rfl rfl (dep hg 0 rfl rfl rfl rfl), _, _, exec_loadN rfl (hs 4 (by kernel_rfl)) hc.2.2.1, .refl _ _, rfl⟩)) ?_
            refine OksOp.cons _ _ (OkOp.of _ _ (OpOk.call _ _ NbF.keep NbC.keep fun b v hs hc hg => ⟨wanted_of rfl rfl rfl (dep hg 2 rfl rfl rfl rfl), _, _, exec_call2 (enter_compare _) rfl (dep hg 0 rfl rfl rfl rfl) (dep hg 1 rfl rfl rfl rfl), ans_q (compare_q x y v)⟩)) ?_
            refine OksOp.cons _ _ (OkOp.of _ _ (OpOk.run _ _ NbF.keep NbC.keep fun b v hs hc hg => ⟨wanted_of rfl rfl rfl (dep hg 0 rfl rfl rfl rfl), _, _, exec_loadN rfl (hs 4 (by kernel_rfl)) hc.2.2.1, .refl _ _, rfl⟩)) ?_
            refine OksOp.cons _ _ (OkOp.of _ _ (OpOk.run _ _ NbF.keep NbC.keep fun b v hs hc hg => ⟨wanted_of rfl rfl rfl (dep hg 0 rfl rfl rfl rfl), _, _, exec_loadN rfl (hs 3 (by kernel_rfl)) hc.2.1, .refl _ _, rfl⟩)) ?_
            refine OksOp.cons _ _ (OkOp.of _ _ (OpOk.call _ _ NbF.keep NbC.keep fun b v hs hc hg => ⟨wanted_of rfl rfl rfl (dep hg 3 rfl rfl rfl rfl), _, _, exec_call2 (enter_compare _) rfl (dep hg 0 rfl rfl rfl rfl) (dep hg 1 rfl rfl rfl rfl), ans_q (compare_q y x v)⟩)) ?_
            refine OksOp.cons _ _ (OkOp.of _ _ (OpOk.run _ _ NbF.keep NbC.keep fun b v hs hc hg => ⟨wanted_of rfl rfl rfl (dep hg 1 rfl rfl rfl rfl), _, _, exec_neg (cmpOf_range y x) rfl (dep hg 0 rfl rfl rfl rfl), .refl _ _, rfl⟩)) ?_
            refine OksOp.cons _ _ (OkOp.of _ _ (OpOk.run _ _ NbF.keep NbC.keep fun b v hs hc hg => ⟨wanted_of rfl rfl rfl (dep hg 2 rfl rfl rfl rfl), _, _, exec_eqI rfl (dep hg 0 rfl rfl rfl rfl) (dep hg 1 rfl rfl rfl rfl), .refl _ _, by rw [Hng.out, beq_self_eq_true]; rfl⟩)) ?_
            refine OksOp.cons _ _ (OkOp.of _ _ (OpOk.run _ _ NbF.keep NbC.keep fun b v hs hc hg => ⟨wanted_of rfl rfl rfl (dep hg 2 rfl rfl rfl rfl), _, _, exec_pick rfl (dep hg 0 rfl rfl rfl rfl) (dep hg 1 rfl rfl rfl rfl), .refl _ _, rfl⟩)) ?_
            refine OksOp.cons _ _ (OkOp.of _ _ (OpOk.run _ _ NbF.keep NbC.keep fun b v hs hc hg => ⟨rfl, _, _, exec_pick rfl (dep hg 0 rfl rfl rfl rfl) (dep hg 1 rfl rfl rfl rfl), .refl _ _, rfl⟩)) ?_
            refine OksOp.cons _ _ (OkOp.of _ _ (OpOk.run _ _ NbF.keep NbC.keep fun b v hs hc hg => ⟨rfl, _, _, exec_move rfl (dep hg 0 rfl rfl rfl rfl), .refl _ _, rfl⟩)) ?_
            refine OksOp.cons _ _ (OkOp.of _ _ (OpOk.call _ _ NbF.keep NbC.keep fun b v hs hc hg => ⟨wanted_of rfl rfl rfl (dep hg 0 rfl rfl rfl rfl), _, _, exec_call0 (enter_works _) rfl, ans_q (works_any v hc.2.2.2)⟩)) ?_
            refine OksOp.cons _ _ (OkOp.of _ _ (OpOk.run _ _ NbF.keep NbC.keep fun b v hs hc hg => ⟨rfl, _, _, exec_pick rfl (dep hg 0 rfl rfl rfl rfl) (dep hg 1 rfl rfl rfl rfl), .refl _ _, rfl⟩)) ?_
            refine OksOp.cons _ _ (OkOp.of _ _ (OpOk.run _ _ NbF.keep NbC.keep fun b v hs hc hg => ⟨rfl, _, _, exec_assign rfl (dep hg 0 rfl rfl rfl rfl), .refl _ _, rfl⟩)) ?_
            exact OksOp.nil _ _
          · intro b' w' hsz hd hs hc hall
            have h4' : b'.tmps[6]?.getD undef = .bool true := by
              have : b'.tmps.getD 6 undef = .bool true := hall 37 _ _ rfl rfl
              rwa [Array.getD_eq_getD_getElem?] at this
            clear hall hs
            go_wp2
            exact bodyPost_ret (v := .bool true) (by simp [results, Tryd.results7, h4', go_sem]) hd ⟨rfl, HB9.out.trans (hc.1.mono HB9.out.size)⟩
end Go.Proofs.YtipmpebckfaknaaDoor
