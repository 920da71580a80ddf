/- Names held against each other, as the reference does. Conditions: kinds below 256. -/
import Derived.Test.YtipmpebckfaknaaDoorNmE
namespace Go.Proofs.YtipmpebckfaknaaDoor
open Go.RowKit

def parts (x : Nm) : List Nat := [x.k, x.d, x.n, x.p, x.i, x.c]
theorem cmpOf_parts (x y : Nm) : cmpOf x y = firstNZ (List.zipWith c3 (parts x) (parts y)) := rfl
section
variable {b : Act} {w : World} {o : Oper}
theorem exec_build6U {x0 x1 x2 x3 x4 x5 : Operand} {v0 v1 v2 v3 v4 v5 : Nat} (ho : o.op = .buildSlice 51 6 #[(0, x0), (1, x1), (2, x2), (3, x3), (4, x4), (5, x5)])
    (h0 : b.eval x0 = .int .u64 (v0 : Int)) (h1 : b.eval x1 = .int .u64 (v1 : Int)) (h2 : b.eval x2 = .int .u64 (v2 : Int)) (h3 : b.eval x3 = .int .u64 (v3 : Int)) (h4 : b.eval x4 = .int .u64 (v4 : Int)) (h5 : b.eval x5 = .int .u64 (v5 : Int)) :
    (execOp b.eval o).run Tryd.prog w = .ok (.value (.slice (some ⟨w.heap.size, 0, none⟩) 6 6)) (w.alloc (.cells (us [v0, v1, v2, v3, v4, v5]).toArray 22)) := by
  unfold execOp
  simp only [ho, List.map_toArray, List.map_cons, List.map_nil, h0, h1, h2, h3, h4, h5]
  go_simp
  rfl
end
theorem readsU (w : World) (l : List Nat) : Reads (w.alloc (.cells (us l).toArray 22)) (w.alloc (.cells (us l).toArray 22)).heap.size 1 (some ⟨w.heap.size, 0, none⟩) l.length (us l) := by
  have := reads_new w 22 (us l)
  rw [us_len] at this
  have h2 : (w.alloc (.cells (us l).toArray 22)).heap.size = w.heap.size + 1 := by simp
  rw [h2]
  exact this
/-- What the reference's Compare lays, operation by operation. -/
def RCmpF (x y : Nm) (g h : Nat) : Nat → Value → World → Prop
  | 0, v, _ => v = .pointer (some ⟨g, 0, none⟩)
  | 1, v, _ => v = .int .u8 (x.k : Int)
  | 2, v, _ => v = .int .u64 (x.k : Int)
  | 3, v, _ => v = .pointer (some ⟨g, 1, none⟩)
  | 4, v, _ => v = .int .u64 (x.d : Int)
  | 5, v, _ => v = .pointer (some ⟨g, 2, none⟩)
  | 6, v, _ => v = .int .u64 (x.n : Int)
  | 7, v, _ => v = .pointer (some ⟨g, 3, none⟩)
  | 8, v, _ => v = .int .u64 (x.p : Int)
  | 9, v, _ => v = .pointer (some ⟨g, 4, none⟩)
  | 10, v, _ => v = .int .u64 (x.i : Int)
  | 11, v, _ => v = .pointer (some ⟨g, 5, none⟩)
  | 12, v, _ => v = .int .u64 (x.c : Int)
  | 13, v, w => ∃ A c, v = .slice A 6 c ∧ RdU w w.heap.size A (parts x)
  | 14, v, _ => v = .pointer (some ⟨h, 0, none⟩)
  | 15, v, _ => v = .int .u8 (y.k : Int)
  | 16, v, _ => v = .int .u64 (y.k : Int)
  | 17, v, _ => v = .pointer (some ⟨h, 1, none⟩)
  | 18, v, _ => v = .int .u64 (y.d : Int)
  | 19, v, _ => v = .pointer (some ⟨h, 2, none⟩)
  | 20, v, _ => v = .int .u64 (y.n : Int)
  | 21, v, _ => v = .pointer (some ⟨h, 3, none⟩)
  | 22, v, _ => v = .int .u64 (y.p : Int)
  | 23, v, _ => v = .pointer (some ⟨h, 4, none⟩)
  | 24, v, _ => v = .int .u64 (y.i : Int)
  | 25, v, _ => v = .pointer (some ⟨h, 5, none⟩)
  | 26, v, _ => v = .int .u64 (y.c : Int)
  | 27, v, w => ∃ A c, v = .slice A 6 c ∧ RdU w w.heap.size A (parts y)
  | 28, v, w => ∃ A c, v = .slice A 6 c ∧ RdU w w.heap.size A (parts x)
  | 29, v, w => ∃ A c, v = .slice A 6 c ∧ RdU w w.heap.size A (parts y)
  | _, _, _ => True
theorem RCmpF.keep {x y : Nm} {g h : Nat} (j : Nat) (u : Value) (w w' : World) (hb : Below w.heap.size w w') (hfact : RCmpF x y g h j u w) : RCmpF x y g h j u w' :=
  match j, hfact with
  | 0, h => h
  | 1, h => h
  | 2, h => h
  | 3, h => h
  | 4, h => h
  | 5, h => h
  | 6, h => h
  | 7, h => h
  | 8, h => h
  | 9, h => h
  | 10, h => h
  | 11, h => h
  | 12, h => h
  | 13, h => let ⟨A, c, e, hR⟩ := h; ⟨A, c, e, Reads.more (Reads.below hR hb) hb.size⟩
  | 14, h => h
  | 15, h => h
  | 16, h => h
  | 17, h => h
  | 18, h => h
  | 19, h => h
  | 20, h => h
  | 21, h => h
  | 22, h => h
  | 23, h => h
  | 24, h => h
  | 25, h => h
  | 26, h => h
  | 27, h => let ⟨A, c, e, hR⟩ := h; ⟨A, c, e, Reads.more (Reads.below hR hb) hb.size⟩
  | 28, h => let ⟨A, c, e, hR⟩ := h; ⟨A, c, e, Reads.more (Reads.below hR hb) hb.size⟩
  | 29, h => let ⟨A, c, e, hR⟩ := h; ⟨A, c, e, Reads.more (Reads.below hR hb) hb.size⟩
  | _ + 30, h => h
def RCmpC (W : World) (x y : Nm) (g h : Nat) (w : World) : Prop := Below W.heap.size W w ∧ BoxNm x w ⟨g, 0, none⟩ ∧ BoxNm y w ⟨h, 0, none⟩
theorem RCmpC.keep {W : World} {x y : Nm} {g h : Nat} (w w' : World) (hb : Below w.heap.size w w') (hc : RCmpC W x y g h w) : RCmpC W x y g h w' := ⟨hc.1.trans (hb.mono hc.1.size), hc.2.1.keep hb, hc.2.2.keep hb⟩
theorem drewN_two (w : World) (a b : Nat) : (w.drewN a).drewN b = w.drewN (a + b) := by simp [World.drewN, Nat.add_assoc]
theorem zip_get {x y : Nm} {k a b : Nat} (h : Hid ((parts x)[k]? = some a)) (h' : Hid ((parts y)[k]? = some b)) : (List.zipWith c3 (parts x) (parts y))[k]? = some (c3 a b) := by
  rw [List.getElem?_zipWith, h.out, h'.out]

set_option maxHeartbeats 2000000 in
set_option maxRecDepth 100000 in
theorem rcompare_any (x y : Nm) (hx : x.k < 256) (hy : y.k < 256) (w : World) : Calls Tryd.prog 15 #[x.v, y.v] w fun e w' => e = .returned (.int .i64 (cmpOf x y)) ∧ Below w.heap.size w w' := by
  have Hx := Lib.hid hx
  have Hy := Lib.hid hy
  clear hx hy
  have hb1 := boxNm_new x w 25
  have hb2 := boxNm_new y (w.alloc (.cells x.cells.toArray 25)) 25
  obtain ⟨W, hW⟩ : ∃ W, Hid (W = (w.alloc (.cells #[.int .u8 (x.k : Int), .int .u64 (x.d : Int), .int .u64 (x.n : Int), .int .u64 (x.p : Int), .int .u64 (x.i : Int), .int .u64 (x.c : Int)] 25)).alloc (.cells #[.int .u8 (y.k : Int), .int .u64 (y.d : Int), .int .u64 (y.n : Int), .int .u64 (y.p : Int), .int .u64 (y.i : Int), .int .u64 (y.c : Int)] 25)) := ⟨_, rfl⟩
  have hb1' := hb1.keep (below_new _ (.cells y.cells.toArray 25))
  have hW' : W = (w.alloc (.cells x.cells.toArray 25)).alloc (.cells y.cells.toArray 25) := hW.out
  rw [← hW'] at hb2 hb1'
  have hz : (w.alloc (.cells x.cells.toArray 25)).heap.size = w.heap.size + 1 := by simp
  rw [hz] at hb2
  have hG : Below w.heap.size w W := by rw [hW']; exact below_new2 _ _ _
  have HB1 := Lib.hid hb1'
  have HB2 := Lib.hid hb2
  have HG := Lib.hid hG
  clear hb1 hb2 hb1' hz hG hW'
  unfold Nm.v
  go_enter Tryd.func15, Tryd.ntmps15
  go_upto_region 1 with fail
  rw [← hW.out]
  go_cut [5, 6] from 5 to 35 (fun s t wx => ∃ A c A' c', s = .slice A 6 c ∧ t = .slice A' 6 c' ∧ RdU wx wx.heap.size A (parts x) ∧ RdU wx wx.heap.size A' (parts y) ∧ Below W.heap.size W wx)
  case first =>
    rename_i J K1 hJ hK
    refine wp_region_facts (n := 58) (RCmpF x y w.heap.size (w.heap.size + 1)) (RCmpC W x y w.heap.size (w.heap.size + 1)) (by kernel_rfl) (by kernel_rfl) rfl ?_ ?_ ?_
    · exact ⟨(Below.refl _ _).drew, HB1.out.keep (Below.refl _ _).drew, HB2.out.keep (Below.refl _ _).drew⟩
    · skip
      refine OpsOk.cons _ _ (OpOk.run _ _ RCmpF.keep RCmpC.keep fun b v hs hc hg => ⟨rfl, _, _, exec_fieldR 0 (by decide) rfl (hs 2 (by kernel_rfl)), .refl _ _, rfl⟩) ?_
      refine OpsOk.cons _ _ (OpOk.run _ _ RCmpF.keep RCmpC.keep fun b v hs hc hg => ⟨rfl, _, _, exec_load8 rfl (dep hg 0 rfl rfl rfl rfl) (hc.2.1).c0, .refl _ _, rfl⟩) ?_
      refine OpsOk.cons _ _ (OpOk.run _ _ RCmpF.keep RCmpC.keep fun b v hs hc hg => ⟨rfl, _, _, exec_conv8 Hx.out rfl (dep hg 0 rfl rfl rfl rfl), .refl _ _, rfl⟩) ?_
      refine OpsOk.cons _ _ (OpOk.run _ _ RCmpF.keep RCmpC.keep fun b v hs hc hg => ⟨rfl, _, _, exec_fieldR 1 (by decide) rfl (hs 2 (by kernel_rfl)), .refl _ _, rfl⟩) ?_
      refine OpsOk.cons _ _ (OpOk.run _ _ RCmpF.keep RCmpC.keep fun b v hs hc hg => ⟨rfl, _, _, exec_load64 rfl (dep hg 0 rfl rfl rfl rfl) (hc.2.1).c1, .refl _ _, rfl⟩) ?_
      refine OpsOk.cons _ _ (OpOk.run _ _ RCmpF.keep RCmpC.keep fun b v hs hc hg => ⟨rfl, _, _, exec_fieldR 2 (by decide) rfl (hs 2 (by kernel_rfl)), .refl _ _, rfl⟩) ?_
      refine OpsOk.cons _ _ (OpOk.run _ _ RCmpF.keep RCmpC.keep fun b v hs hc hg => ⟨rfl, _, _, exec_load64 rfl (dep hg 0 rfl rfl rfl rfl) (hc.2.1).c2, .refl _ _, rfl⟩) ?_
      refine OpsOk.cons _ _ (OpOk.run _ _ RCmpF.keep RCmpC.keep fun b v hs hc hg => ⟨rfl, _, _, exec_fieldR 3 (by decide) rfl (hs 2 (by kernel_rfl)), .refl _ _, rfl⟩) ?_
      refine OpsOk.cons _ _ (OpOk.run _ _ RCmpF.keep RCmpC.keep fun b v hs hc hg => ⟨rfl, _, _, exec_load64 rfl (dep hg 0 rfl rfl rfl rfl) (hc.2.1).c3, .refl _ _, rfl⟩) ?_
      refine OpsOk.cons _ _ (OpOk.run _ _ RCmpF.keep RCmpC.keep fun b v hs hc hg => ⟨rfl, _, _, exec_fieldR 4 (by decide) rfl (hs 2 (by kernel_rfl)), .refl _ _, rfl⟩) ?_
      refine OpsOk.cons _ _ (OpOk.run _ _ RCmpF.keep RCmpC.keep fun b v hs hc hg => ⟨rfl, _, _, exec_load64 rfl (dep hg 0 rfl rfl rfl rfl) (hc.2.1).c4, .refl _ _, rfl⟩) ?_
      refine OpsOk.cons _ _ (OpOk.run _ _ RCmpF.keep RCmpC.keep fun b v hs hc hg => ⟨rfl, _, _, exec_fieldR 5 (by decide) rfl (hs 2 (by kernel_rfl)), .refl _ _, rfl⟩) ?_
      refine OpsOk.cons _ _ (OpOk.run _ _ RCmpF.keep RCmpC.keep fun b v hs hc hg => ⟨rfl, _, _, exec_load64 rfl (dep hg 0 rfl rfl rfl rfl) (hc.2.1).c5, .refl _ _, rfl⟩) ?_
      refine OpsOk.cons _ _ (OpOk.run _ _ RCmpF.keep RCmpC.keep fun b v hs hc hg => ⟨rfl, _, _, exec_build6U rfl (dep hg 0 rfl rfl rfl rfl) (dep hg 1 rfl rfl rfl rfl) (dep hg 2 rfl rfl rfl rfl) (dep hg 3 rfl rfl rfl rfl) (dep hg 4 rfl rfl rfl rfl) (dep hg 5 rfl rfl rfl rfl), below_new _ _, ⟨_, 6, rfl, readsU _ (parts x)⟩⟩) ?_
      refine OpsOk.cons _ _ (OpOk.run _ _ RCmpF.keep RCmpC.keep fun b v hs hc hg => ⟨rfl, _, _, exec_fieldR 0 (by decide) rfl (hs 3 (by kernel_rfl)), .refl _ _, rfl⟩) ?_
      refine OpsOk.cons _ _ (OpOk.run _ _ RCmpF.keep RCmpC.keep fun b v hs hc hg => ⟨rfl, _, _, exec_load8 rfl (dep hg 0 rfl rfl rfl rfl) (hc.2.2).c0, .refl _ _, rfl⟩) ?_
      refine OpsOk.cons _ _ (OpOk.run _ _ RCmpF.keep RCmpC.keep fun b v hs hc hg => ⟨rfl, _, _, exec_conv8 Hy.out rfl (dep hg 0 rfl rfl rfl rfl), .refl _ _, rfl⟩) ?_
      refine OpsOk.cons _ _ (OpOk.run _ _ RCmpF.keep RCmpC.keep fun b v hs hc hg => ⟨rfl, _, _, exec_fieldR 1 (by decide) rfl (hs 3 (by kernel_rfl)), .refl _ _, rfl⟩) ?_
      refine OpsOk.cons _ _ (OpOk.run _ _ RCmpF.keep RCmpC.keep fun b v hs hc hg => ⟨rfl, _, _, exec_load64 rfl (dep hg 0 rfl rfl rfl rfl) (hc.2.2).c1, .refl _ _, rfl⟩) ?_
      refine OpsOk.cons _ _ (OpOk.run _ _ RCmpF.keep RCmpC.keep fun b v hs hc hg => ⟨rfl, _, _, exec_fieldR 2 (by decide) rfl (hs 3 (by kernel_rfl)), .refl _ _, rfl⟩) ?_
      refine OpsOk.cons _ _ (OpOk.run _ _ RCmpF.keep RCmpC.keep fun b v hs hc hg => ⟨rfl, _, _, exec_load64 rfl (dep hg 0 rfl rfl rfl rfl) (hc.2.2).c2, .refl _ _, rfl⟩) ?_
      refine OpsOk.cons _ _ (OpOk.run _ _ RCmpF.keep RCmpC.keep fun b v hs hc hg => ⟨rfl, _, _, exec_fieldR 3 (by decide) rfl (hs 3 (by kernel_rfl)), .refl _ _, rfl⟩) ?_
      refine OpsOk.cons _ _ (OpOk.run _ _ RCmpF.keep RCmpC.keep fun b v hs hc hg => ⟨rfl, _, _, exec_load64 rfl (dep hg 0 rfl rfl rfl rfl) (hc.2.2).c3, .refl _ _, rfl⟩) ?_
      refine OpsOk.cons _ _ (OpOk.run _ _ RCmpF.keep RCmpC.keep fun b v hs hc hg => ⟨rfl, _, _, exec_fieldR 4 (by decide) rfl (hs 3 (by kernel_rfl)), .refl _ _, rfl⟩) ?_
      refine OpsOk.cons _ _ (OpOk.run _ _ RCmpF.keep RCmpC.keep fun b v hs hc hg => ⟨rfl, _, _, exec_load64 rfl (dep hg 0 rfl rfl rfl rfl) (hc.2.2).c4, .refl _ _, rfl⟩) ?_
      refine OpsOk.cons _ _ (OpOk.run _ _ RCmpF.keep RCmpC.keep fun b v hs hc hg => ⟨rfl, _, _, exec_fieldR 5 (by decide) rfl (hs 3 (by kernel_rfl)), .refl _ _, rfl⟩) ?_
      refine OpsOk.cons _ _ (OpOk.run _ _ RCmpF.keep RCmpC.keep fun b v hs hc hg => ⟨rfl, _, _, exec_load64 rfl (dep hg 0 rfl rfl rfl rfl) (hc.2.2).c5, .refl _ _, rfl⟩) ?_
      refine OpsOk.cons _ _ (OpOk.run _ _ RCmpF.keep RCmpC.keep fun b v hs hc hg => ⟨rfl, _, _, exec_build6U rfl (dep hg 0 rfl rfl rfl rfl) (dep hg 1 rfl rfl rfl rfl) (dep hg 2 rfl rfl rfl rfl) (dep hg 3 rfl rfl rfl rfl) (dep hg 4 rfl rfl rfl rfl) (dep hg 5 rfl rfl rfl rfl), below_new _ _, ⟨_, 6, rfl, readsU _ (parts y)⟩⟩) ?_
      refine OpsOk.cons _ _ (OpOk.run _ _ RCmpF.keep RCmpC.keep fun b v hs hc hg => by
        obtain ⟨A, c, e, hR⟩ := (dep hg 0 rfl rfl rfl rfl : RCmpF _ _ _ _ 13 _ _)
        exact ⟨rfl, _, _, exec_assign rfl e, .refl _ _, ⟨A, c, rfl, hR⟩⟩) ?_
      refine OpsOk.cons _ _ (OpOk.run _ _ RCmpF.keep RCmpC.keep fun b v hs hc hg => by
        obtain ⟨A, c, e, hR⟩ := (dep hg 0 rfl rfl rfl rfl : RCmpF _ _ _ _ 27 _ _)
        exact ⟨rfl, _, _, exec_assign rfl e, .refl _ _, ⟨A, c, rfl, hR⟩⟩) ?_
      exact OpsOk.nil _ _
    · intro b' w' hsz hd hs hc hall
      refine hK _ _ (Met.intro (hJ _ _ ?_))
      obtain ⟨A, c, e1, hR1⟩ := (hall 28 _ _ rfl rfl : RCmpF _ _ _ _ 28 _ _)
      obtain ⟨A', c', e2, hR2⟩ := (hall 29 _ _ rfl rfl : RCmpF _ _ _ _ 29 _ _)
      exact ⟨b'.tmps.getD 5 undef, b'.tmps.getD 6 undef, undef, b'.tmps.getD 8 undef, b'.tmps.getD 9 undef, b'.tmps.getD 10 undef, b'.tmps.getD 11 undef, b'.tmps.getD 12 undef, b'.tmps.getD 13 undef, b'.tmps.getD 14 undef, b'.tmps.getD 15 undef, b'.tmps.getD 16 undef, b'.tmps.getD 17 undef, b'.tmps.getD 18 undef, b'.tmps.getD 19 undef, b'.tmps.getD 20 undef, b'.tmps.getD 21 undef, b'.tmps.getD 22 undef, b'.tmps.getD 23 undef, b'.tmps.getD 24 undef, b'.tmps.getD 25 undef, b'.tmps.getD 26 undef, b'.tmps.getD 27 undef, b'.tmps.getD 28 undef, b'.tmps.getD 29 undef, b'.tmps.getD 30 undef, b'.tmps.getD 31 undef, b'.tmps.getD 32 undef, b'.tmps.getD 33 undef, b'.tmps.getD 34 undef, b'.tmps.getD 35 undef, ⟨A, c, A', c', e1, e2, hR1, hR2, hc.1⟩, (act_known hsz hd hs).trans (by kernel_rfl)⟩
  obtain ⟨A, c, A', c', rfl, rfl, hR1, hR2, hbw⟩ := hcut
  have hG := HG.out.trans (hbw.mono HG.out.size)
  have HG' := Lib.hid hG
  clear hG hbw
  go_wp2_with fail
  go_loopw [7] (fun i wr => ∃ k : Nat, k ≤ 6 ∧ i = .int .i64 (k : Int) ∧ Hid (cmpOf x y = firstNZ ((List.zipWith c3 (parts x) (parts y)).drop k)) ∧ ∃ q, wr = wc.drewN q) (fun i _ => 6 - (Lib.intOf i).toNat)
  case atStart => exact ⟨0, Nat.zero_le _, rfl, by exact rfl, 0, rfl⟩
  case round =>
    obtain ⟨k, hk, rfl, Hk, q, rfl⟩ := hrel
    by_cases hlt : k < 6
    · obtain ⟨ad, a, rfl, hab, hca, Ha⟩ := RdU.at_ hR1 (k := k) hlt
      obtain ⟨ad', b, rfl, hbb, hcb, Hb⟩ := RdU.at_ hR2 (k := k) hlt
      have hz := zip_get Ha Hb
      have Hs : Hid (cmpOf x y = if c3 a b = 0 then firstNZ ((List.zipWith c3 (parts x) (parts y)).drop (k + 1)) else c3 a b) := by rw [Hk.out, firstNZ_step hz]; exact rfl
      clear hz
      rcases Nat.lt_trichotomy a b with h | h | h
      · have Hc : Hid (cmpOf x y = -1) := by rw [Hs.out, c3, if_pos h]; exact rfl
        have hd : decide ((a : Int) < (b : Int)) = true := by rw [decide_eq_true_iff]; omega
        go_wp2_with fail
        go_quiet (fail)
        go_wp2
        go_ret
        exact ⟨by rw [Hc.out]; rfl, by first | exact below_drewN (below_drewN HG'.out _) _ | exact below_drewN (below_drewN (below_drewN HG'.out _) _) _⟩
      · subst h
        have Hc : Hid (cmpOf x y = firstNZ ((List.zipWith c3 (parts x) (parts y)).drop (k + 1))) := by rw [Hs.out, c3_self, if_pos rfl]; exact rfl
        have hd : decide ((a : Int) < (a : Int)) = false := by rw [decide_eq_false_iff_not]; omega
        go_wp2_with fail
        go_quiet (fail)
        go_wp2_with fail
        go_quiet (fail)
        go_wp2
        go_roundw
        case rel => exact ⟨k + 1, by omega, by go_num, Hc, _, rfl⟩
        case measure => simp [Lib.intOf]; omega
      · have Hc : Hid (cmpOf x y = 1) := by rw [Hs.out, c3, if_neg (show ¬ a < b by omega), if_pos h]; exact rfl
        have hd : decide ((a : Int) < (b : Int)) = false := by rw [decide_eq_false_iff_not]; omega
        have hd' : decide ((b : Int) < (a : Int)) = true := by rw [decide_eq_true_iff]; omega
        go_wp2_with fail
        go_quiet (fail)
        go_wp2_with fail
        go_quiet (fail)
        go_wp2
        go_ret
        exact ⟨by rw [Hc.out]; rfl, by first | exact below_drewN (below_drewN HG'.out _) _ | exact below_drewN (below_drewN (below_drewN HG'.out _) _) _⟩
    · obtain rfl : k = 6 := by omega
      go_wp2
      go_ret
      exact ⟨by rw [Hk.out]; rfl, below_drewN HG'.out _⟩
end Go.Proofs.YtipmpebckfaknaaDoor
