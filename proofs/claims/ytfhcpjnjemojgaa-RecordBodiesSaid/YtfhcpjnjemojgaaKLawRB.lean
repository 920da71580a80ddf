/- The walk of RecordBodies: whatever the kind and the body, it returns true. Conditions: none. -/
import Derived.Test.YtfhcpjnjemojgaaKLawRR
namespace Go.Proofs.Ytfhcpjnjemojgaa
open Go.RowKit

def RbF (x : Rc) (E : Nat) : Nat → Value → World → Prop
  | 0, v, _ => v = x.v
  | 1, v, _ => v = x.v
  | 2, v, _ => v = x.v
  | 3, v, _ => v = .bool true
  | 4, v, _ => v = .bool true
  | 5, v, _ => v = .int .i64 (E : Int)
  | 6, v, _ => v = .int .i64 (E : Int)
  | 7, v, _ => v = .bool true
  | 8, v, _ => v = .bool true
  | 9, v, _ => v = .bool true
  | 10, v, _ => v = .bool true
  | 11, v, _ => v = .bool true
  | 12, v, _ => v = .bool true
  | _, _, _ => True
theorem RbF.keep {x : Rc} {E : Nat} (i : Nat) (u : Value) (w w' : World) (_hb : Below w.heap.size w w') (h : RbF x E i u w) : RbF x E i u w' :=
  match i, h with
  | 0, h | 1, h | 2, h | 3, h | 4, h | 5, h | 6, h | 7, h | 8, h | 9, h | 10, h | 11, h | 12, h => h
  | _ + 13, h => h
def RbC (W : World) (x : Rc) (g h : Nat) (w : World) : Prop := Below W.heap.size W w ∧ RecAt x w g ∧ RRec x w h
theorem RbC.keep {W : World} {x : Rc} {g h : Nat} (w w' : World) (hb : Below w.heap.size w w') (hc : RbC W x g h w) : RbC W x g h w' :=
  ⟨hc.1.trans (hb.mono hc.1.size), hc.2.1.below hb hc.2.1.lt, hc.2.2.keep hb⟩
theorem encFr_small {k : UInt8} {l : List UInt8} (h : l.length ≤ 300) : (encFr k l).length ≤ 400 := by
  rw [encFr_len]
  unfold fsz
  have := sz_10 (n := l.length) (by omega)
  omega

set_option maxHeartbeats 4000000 in
set_option maxRecDepth 100000 in
theorem recBodies_any (k : Nat) (hk : k < 256) (A : Option Addr) (c : Nat) (l : List UInt8) (w : World) (hm : l.length ≤ 9223372036854775807) (hr : RdB w w.heap.size A l) : Calls Try.prog 5 #[.int .u8 (k : Int), .slice A l.length c] w fun e w' => e = .returned (.bool true) ∧ Below w.heap.size w w' := by
  have Hm := Lib.hid hm
  clear hm
  go_enter Try.func5, Try.ntmps5
  by_cases hl : 300 < l.length
  · have hl' : (300 : Int) < (l.length : Int) := by omega
    have hm' : (l.length : Int) ≤ 9223372036854775807 := by have := Hm.out; omega
    go_wp2_with (go_at_call 9; refine (works6_any _).mono ?_; rintro e w' ⟨rfl, hb⟩)
    go_ret
    exact ⟨rfl, hb⟩
  have hl' : (l.length : Int) ≤ 300 := by omega
  have Hl := Lib.hid (show l.length ≤ 300 by omega)
  have HP0 := Lib.hid (frRPut_k (c := c) rfl hk (by omega) (Nat.le_refl _) hr)
  obtain ⟨m, hm⟩ : ∃ m, Hid (m = encFr (UInt8.ofNat k) l) := ⟨_, rfl⟩
  have Hml : Hid (m.length ≤ 400) := by rw [hm.out]; exact Lib.hid (encFr_small Hl.out)
  rw [← hm.out] at HP0
  clear hl hr
  go_upto_region 4 with (go_at_call 20; refine HP0.out.mono ?_; rintro e w2 ⟨⟨v2, rfl, hown2⟩, hb2⟩; simp only; obtain ⟨A2, c2, rfl, hc2, _, hr2⟩ := own_form hown2)
  simp only at hc2 hr2
  obtain ⟨x, E, hx⟩ : ∃ x E, parseM m = (x, E) := ⟨_, _, rfl⟩
  have Hx := Lib.hid hx
  have hP := parse_any A2 c2 w2.heap.size m w2 (by have := Hml.out; omega) hc2 (Nat.le_refl _) hr2
  rw [Hx.out] at hP
  have HP := Lib.hid hP
  have HB2 := Lib.hid hb2
  have HC2 := Lib.hid hc2
  have hR2 : Hid (RdB w2 w2.heap.size A2 m) := Lib.hid hr2
  clear hP hown2 hr2 hb2 hc2 hx
  go_upto_region 5 with (go_at_call 18; refine HP.out.mono ?_; rintro e w3 ⟨rfl, hb3⟩; simp only; unfold Rc.v)
  obtain ⟨W3, hW3⟩ : ∃ W3, Hid (W3 = w3.alloc (.cells x.cells.toArray 24)) := ⟨_, rfl⟩
  have HW3 := Lib.hid (show w3.alloc (.cells #[.int .u8 (x.k : Int), .int .u64 (x.p : Int), .int .u64 (x.i : Int), .int .u64 (x.q : Int), .int .u64 (x.e : Int), .int .u64 (x.u : Int), .int .u64 (x.r : Int), .int .u64 (x.c : Int), .int .u64 (x.z : Int), .int .u64 (x.s : Int), .string (txt x.n), .string (txt x.t)] 24) = W3 from hW3.out.symm)
  rw [HW3.out]
  have hX3 := Lib.hid (show RecAt x W3 w3.heap.size by rw [hW3.out]; exact recAt_new _ _)
  have h23 : Below w2.heap.size w2 W3 := by rw [hW3.out]; exact hb3.alloc hb3.size _
  have HB3 := Lib.hid (HB2.out.trans (h23.mono HB2.out.size))
  have hR23 := Lib.hid (hR2.out.below h23)
  have Hs3 := Lib.hid h23.size
  clear hb3 h23
  have hP2 := refParse_any A2 c2 w2.heap.size m W3 (by have := Hml.out; omega) HC2.out Hs3.out hR23.out
  rw [Hx.out] at hP2
  have HP2 := Lib.hid hP2
  clear hP2
  go_upto_region 6 with (go_at_call 19; refine HP2.out.mono ?_; rintro e w4 ⟨rfl, hb4⟩; simp only; unfold Rc.v)
  obtain ⟨W4, hW4⟩ : ∃ W4, Hid (W4 = w4.alloc (.cells x.cells.toArray 31)) := ⟨_, rfl⟩
  have HW4 := Lib.hid (show w4.alloc (.cells #[.int .u8 (x.k : Int), .int .u64 (x.p : Int), .int .u64 (x.i : Int), .int .u64 (x.q : Int), .int .u64 (x.e : Int), .int .u64 (x.u : Int), .int .u64 (x.r : Int), .int .u64 (x.c : Int), .int .u64 (x.z : Int), .int .u64 (x.s : Int), .string (txt x.n), .string (txt x.t)] 31) = W4 from hW4.out.symm)
  rw [HW4.out]
  have hX4 := Lib.hid (show RRec x W4 w4.heap.size by rw [hW4.out]; exact rrec_new _ _)
  have h34 : Below W3.heap.size W3 W4 := by rw [hW4.out]; exact hb4.alloc hb4.size _
  have HB4 := Lib.hid (HB3.out.trans (h34.mono HB3.out.size))
  have hX34 := Lib.hid (hX3.out.below h34 hX3.out.lt)
  clear hb4 h34
  refine wp_region_facts (n := 44) (RbF x E) (RbC W4 x w3.heap.size w4.heap.size) (by kernel_rfl) (by kernel_rfl) rfl ?_ ?_ ?_
  · exact ⟨(Below.refl _ _).drew, hX34.out, hX4.out⟩
  · skip
    refine OpsOk.cons _ _ (OpOk.run _ _ RbF.keep RbC.keep fun b v hs hc hg => ⟨rfl, _, _, exec_loadRec rfl (hs 7 (by kernel_rfl)) hc.2.1.cells12, .refl _ _, rfl⟩) ?_
    refine OpsOk.cons _ _ (OpOk.call _ _ RbF.keep RbC.keep fun b v hs hc hg => ⟨rfl, _, _, exec_call1 (enter_recRef _) rfl (dep hg 0 rfl rfl rfl rfl), ans_v (ref_any x v)⟩) ?_
    refine OpsOk.cons _ _ (OpOk.run _ _ RbF.keep RbC.keep fun b v hs hc hg => ⟨rfl, _, _, exec_loadRRec rfl (hs 9 (by kernel_rfl)) hc.2.2.cells12, .refl _ _, rfl⟩) ?_
    refine OpsOk.cons _ _ (OpOk.run _ _ RbF.keep RbC.keep fun b v hs hc hg => ⟨rfl, _, _, exec_eqRRec rfl (dep hg 0 rfl rfl rfl rfl) (dep hg 1 rfl rfl rfl rfl), .refl _ _, by rw [decide_eq_true rfl]; rfl⟩) ?_
    refine OpsOk.cons _ _ (OpOk.run _ _ RbF.keep RbC.keep fun b v hs hc hg => ⟨rfl, _, _, exec_move rfl (dep hg 0 rfl rfl rfl rfl), .refl _ _, rfl⟩) ?_
    refine OpsOk.cons _ _ (OpOk.run _ _ RbF.keep RbC.keep fun b v hs hc hg => ⟨wanted_of rfl rfl rfl (dep hg 0 rfl rfl rfl rfl), _, _, exec_move rfl (hs 8 (by kernel_rfl)), .refl _ _, rfl⟩) ?_
    refine OpsOk.cons _ _ (OpOk.run _ _ RbF.keep RbC.keep fun b v hs hc hg => ⟨wanted_of rfl rfl rfl (dep hg 0 rfl rfl rfl rfl), _, _, exec_move rfl (hs 10 (by kernel_rfl)), .refl _ _, rfl⟩) ?_
    refine OpsOk.cons _ _ (OpOk.run _ _ RbF.keep RbC.keep fun b v hs hc hg => ⟨wanted_of rfl rfl rfl (dep hg 2 rfl rfl rfl rfl), _, _, exec_eqE rfl (dep hg 0 rfl rfl rfl rfl) (dep hg 1 rfl rfl rfl rfl), .refl _ _, by rw [decide_eq_true rfl]; rfl⟩) ?_
    refine OpsOk.cons _ _ (OpOk.run _ _ RbF.keep RbC.keep fun b v hs hc hg => ⟨rfl, _, _, exec_pick rfl (dep hg 0 rfl rfl rfl rfl) (dep hg 1 rfl rfl rfl rfl), .refl _ _, rfl⟩) ?_
    refine OpsOk.cons _ _ (OpOk.run _ _ RbF.keep RbC.keep fun b v hs hc hg => ⟨rfl, _, _, exec_move rfl (dep hg 0 rfl rfl rfl rfl), .refl _ _, rfl⟩) ?_
    refine OpsOk.cons _ _ (OpOk.call _ _ RbF.keep RbC.keep fun b v hs hc hg => ⟨wanted_of rfl rfl rfl (dep hg 1 rfl rfl rfl rfl), _, _, exec_call0 (enter_works6 _) rfl, ans_v (works6_any v)⟩) ?_
    refine OpsOk.cons _ _ (OpOk.run _ _ RbF.keep RbC.keep fun b v hs hc hg => ⟨rfl, _, _, exec_pick rfl (dep hg 0 rfl rfl rfl rfl) (dep hg 1 rfl rfl rfl rfl), .refl _ _, rfl⟩) ?_
    refine OpsOk.cons _ _ (OpOk.run _ _ RbF.keep RbC.keep fun b v hs hc hg => ⟨rfl, _, _, exec_assign rfl (dep hg 0 rfl rfl rfl rfl), .refl _ _, rfl⟩) ?_
    exact OpsOk.nil _ _
  · intro b' w' hsz hd hs hc hall
    have h4' : b'.tmps[4]?.getD undef = .bool true := by
      have : b'.tmps.getD 4 undef = .bool true := hall 12 _ _ rfl rfl
      rwa [Array.getD_eq_getD_getElem?] at this
    clear hall hs
    go_wp2
    exact bodyPost_ret (v := .bool true) (by simp [results, Try.results5, h4', go_sem]) hd ⟨rfl, HB4.out.trans (hc.1.mono HB4.out.size)⟩
end Go.Proofs.Ytfhcpjnjemojgaa
