/- The walk of RecordReads: whatever the bytes, it returns true. Conditions: none. -/
import Derived.Test.YtfhcpjnjemojgaaKRcS
import Derived.Test.YtfhcpjnjemojgaaKRcT
namespace Go.Proofs.Ytfhcpjnjemojgaa
open Go.RowKit

theorem enter_recRef (w : World) (args : Array Value) : (callFunc 11 args).run Try.prog w = .ok (.enter 11 args) w := by kernel_rfl
theorem enter_works6 (w : World) (args : Array Value) : (callFunc 9 args).run Try.prog w = .ok (.enter 9 args) w := by kernel_rfl
theorem enter_sameB6 (w : World) (args : Array Value) : (callFunc 13 args).run Try.prog w = .ok (.enter 13 args) w := by kernel_rfl
theorem sameT_any {A A' : Option Addr} {c c' B B' n n' : Nat} {l m : List UInt8} {w : World} (hn : l.length = n) (hn' : m.length = n') (he : l = m) (hl : n ≤ 140737488351232) (hr : RdB w B A l) (hm : RdB w B' A' m) :
    Calls Try.prog 13 #[.slice A n c, .slice A' n' c'] w fun e w' => e = .returned (.bool true) ∧ Below w.heap.size w w' := by
  have h := sameN_any (c := c) (c' := c') hn hn' hl hr hm
  rw [decide_eq_true he] at h
  exact h
def RrF (x : Rc) (E : Nat) (S S2 : Value) : Nat → Value → World → Prop
  | 0, v, _ => v = x.v
  | 1, v, _ => v = x.v
  | 2, v, _ => v = x.v
  | 3, v, _ => v = .bool true
  | 4, v, _ => v = .bool true
  | 5, v, _ => v = .int .i64 (E : Int)
  | 6, v, _ => v = .int .i64 (E : Int)
  | 7, v, _ => v = .bool true
  | 8, v, _ => v = .bool true
  | 9, v, _ => v = .bool true
  | 10, v, _ => v = S
  | 11, v, _ => v = S2
  | 12, v, _ => v = .bool true
  | 13, v, _ => v = .bool true
  | 14, v, _ => v = .bool true
  | 15, v, _ => v = .bool true
  | 16, v, _ => v = .bool true
  | 17, v, _ => v = .bool true
  | _, _, _ => True
theorem RrF.keep {x : Rc} {E : Nat} {S S2 : Value} (i : Nat) (u : Value) (w w' : World) (_hb : Below w.heap.size w w') (h : RrF x E S S2 i u w) : RrF x E S S2 i u w' :=
  match i, h with
  | 0, h | 1, h | 2, h | 3, h | 4, h | 5, h | 6, h | 7, h | 8, h | 9, h | 10, h | 11, h | 12, h | 13, h | 14, h | 15, h | 16, h | 17, h => h
  | _ + 18, h => h
def RrC (W : World) (x : Rc) (g h : Nat) (A A' : Option Addr) (B B' : Nat) (l : List UInt8) (w : World) : Prop := Below W.heap.size W w ∧ RecAt x w g ∧ RRec x w h ∧ (B ≤ w.heap.size ∧ RdB w B A l) ∧ B' ≤ w.heap.size ∧ RdB w B' A' l
theorem RrC.keep {W : World} {x : Rc} {g h : Nat} {A A' : Option Addr} {B B' : Nat} {l : List UInt8} (w w' : World) (hb : Below w.heap.size w w') (hc : RrC W x g h A A' B B' l w) : RrC W x g h A A' B B' l w' :=
  ⟨hc.1.trans (hb.mono hc.1.size), hc.2.1.below hb hc.2.1.lt, hc.2.2.1.keep hb, ⟨Nat.le_trans hc.2.2.2.1.1 hb.size, hc.2.2.2.1.2.below (hb.mono hc.2.2.2.1.1)⟩, Nat.le_trans hc.2.2.2.2.1 hb.size, hc.2.2.2.2.2.below (hb.mono hc.2.2.2.2.1)⟩

set_option maxHeartbeats 4000000 in
set_option maxRecDepth 100000 in
theorem recReads_any (A : Option Addr) (c : Nat) (l : List UInt8) (w : World) (hm : l.length ≤ 9223372036854775807) (hcap : l.length ≤ c) (hr : RdB w w.heap.size A l) : Calls Try.prog 4 #[.slice A l.length c] w fun e w' => e = .returned (.bool true) ∧ Below w.heap.size w w' := by
  have Hm := Lib.hid hm
  clear hm
  go_enter Try.func4, Try.ntmps4
  by_cases hl : 400 < l.length
  · have hl' : (400 : Int) < (l.length : Int) := by omega
    have hm' : (l.length : Int) ≤ 9223372036854775807 := by have := Hm.out; omega
    go_wp2_with (go_at_call 9; refine (works6_any _).mono ?_; rintro e w' ⟨rfl, hb⟩)
    go_ret
    exact ⟨rfl, hb⟩
  have hl' : (l.length : Int) ≤ 400 := by omega
  have Hl := Lib.hid (show l.length ≤ 400 by omega)
  have Hcap := Lib.hid hcap
  obtain ⟨x, E, hx⟩ : ∃ x E, parseM l = (x, E) := ⟨_, _, rfl⟩
  have Hx := Lib.hid hx
  clear hl hcap hx
  go_upto_region 5 with (at_builtin; refine push_row (.tmp 12) (.tmp 13) (l := []) (m := l) (World.ownsRow_nil _ _ _ _) (Nat.le_refl _) hr (by have := Hl.out; simp; omega) rfl rfl rfl rfl ?_; intro v2 w2 hown2 hb2 hbs2 hg2)
  rw [List.nil_append] at hown2
  obtain ⟨A2, c2, rfl, hc2, _, hr2⟩ := own_form hown2
  have hP := parse_any A c w.heap.size l w2 (by have := Hl.out; omega) Hcap.out hb2.size (Reads.below hr hb2)
  have hR1 := Lib.hid (Reads.below hr hb2)
  have hR2 : Hid (RdB w2 w2.heap.size A2 l) := Lib.hid hr2
  rw [Hx.out] at hP
  have HP := Lib.hid hP
  have HB2 := Lib.hid hb2
  have HC2 := Lib.hid hc2
  clear hP hown2 hg2 hbs2 hr2 hb2 hc2 hr
  go_upto_region 6 with (go_at_call 18; refine HP.out.mono ?_; rintro e w3 ⟨rfl, hb3⟩; simp only; unfold Rc.v)
  obtain ⟨W3, hW3⟩ : ∃ W3, Hid (W3 = w3.alloc (.cells x.cells.toArray 24)) := ⟨_, rfl⟩
  have HW3 := Lib.hid (show w3.alloc (.cells #[.int .u8 (x.k : Int), .int .u64 (x.p : Int), .int .u64 (x.i : Int), .int .u64 (x.q : Int), .int .u64 (x.e : Int), .int .u64 (x.u : Int), .int .u64 (x.r : Int), .int .u64 (x.c : Int), .int .u64 (x.z : Int), .int .u64 (x.s : Int), .string (txt x.n), .string (txt x.t)] 24) = W3 from hW3.out.symm)
  rw [HW3.out]
  have hX3 := Lib.hid (show RecAt x W3 w3.heap.size by rw [hW3.out]; exact recAt_new _ _)
  have h23 : Below w2.heap.size w2 W3 := by rw [hW3.out]; exact hb3.alloc hb3.size _
  have HB3 := Lib.hid (HB2.out.trans (h23.mono HB2.out.size))
  have hR13 := Lib.hid (hR1.out.below (h23.mono HB2.out.size))
  have hR23 := Lib.hid (hR2.out.below h23)
  have Hs3 := Lib.hid h23.size
  clear hb3 h23
  have hP2 := refParse_any A2 c2 w2.heap.size l W3 (by have := Hl.out; omega) HC2.out Hs3.out hR23.out
  rw [Hx.out] at hP2
  have HP2 := Lib.hid hP2
  clear hP2
  go_upto_region 7 with (go_at_call 19; refine HP2.out.mono ?_; rintro e w4 ⟨rfl, hb4⟩; simp only; unfold Rc.v)
  obtain ⟨W4, hW4⟩ : ∃ W4, Hid (W4 = w4.alloc (.cells x.cells.toArray 31)) := ⟨_, rfl⟩
  have HW4 := Lib.hid (show w4.alloc (.cells #[.int .u8 (x.k : Int), .int .u64 (x.p : Int), .int .u64 (x.i : Int), .int .u64 (x.q : Int), .int .u64 (x.e : Int), .int .u64 (x.u : Int), .int .u64 (x.r : Int), .int .u64 (x.c : Int), .int .u64 (x.z : Int), .int .u64 (x.s : Int), .string (txt x.n), .string (txt x.t)] 31) = W4 from hW4.out.symm)
  rw [HW4.out]
  have hX4 := Lib.hid (show RRec x W4 w4.heap.size by rw [hW4.out]; exact rrec_new _ _)
  have h34 : Below W3.heap.size W3 W4 := by rw [hW4.out]; exact hb4.alloc hb4.size _
  have HB4 := Lib.hid (HB3.out.trans (h34.mono HB3.out.size))
  have hX34 := Lib.hid (hX3.out.below h34 hX3.out.lt)
  have hR14 := Lib.hid (hR13.out.below (h34.mono HB3.out.size))
  have hR24 := Lib.hid (hR23.out.below (h34.mono Hs3.out))
  have hs4 := Lib.hid (Nat.le_trans Hs3.out h34.size)
  clear hb4 h34
  refine wp_region_facts (n := 42) (RrF x E (.slice A l.length c) (.slice A2 l.length c2)) (RrC W4 x w3.heap.size w4.heap.size A A2 w.heap.size w2.heap.size l) (by kernel_rfl) (by kernel_rfl) rfl ?_ ?_ ?_
  · exact ⟨(Below.refl _ _).drew, hX34.out, hX4.out, ⟨HB4.out.size, hR14.out⟩, hs4.out, hR24.out⟩
  · skip
    refine OpsOk.cons _ _ (OpOk.run _ _ RrF.keep RrC.keep fun b v hs hc hg => ⟨rfl, _, _, exec_loadRec rfl (hs 4 (by kernel_rfl)) hc.2.1.cells12, .refl _ _, rfl⟩) ?_
    refine OpsOk.cons _ _ (OpOk.call _ _ RrF.keep RrC.keep fun b v hs hc hg => ⟨rfl, _, _, exec_call1 (enter_recRef _) rfl (dep hg 0 rfl rfl rfl rfl), ans_v (ref_any x v)⟩) ?_
    refine OpsOk.cons _ _ (OpOk.run _ _ RrF.keep RrC.keep fun b v hs hc hg => ⟨rfl, _, _, exec_loadRRec rfl (hs 6 (by kernel_rfl)) hc.2.2.1.cells12, .refl _ _, rfl⟩) ?_
    refine OpsOk.cons _ _ (OpOk.run _ _ RrF.keep RrC.keep fun b v hs hc hg => ⟨rfl, _, _, exec_eqRRec rfl (dep hg 0 rfl rfl rfl rfl) (dep hg 1 rfl rfl rfl rfl), .refl _ _, by rw [decide_eq_true rfl]; rfl⟩) ?_
    refine OpsOk.cons _ _ (OpOk.run _ _ RrF.keep RrC.keep fun b v hs hc hg => ⟨rfl, _, _, exec_move rfl (dep hg 0 rfl rfl rfl rfl), .refl _ _, rfl⟩) ?_
    refine OpsOk.cons _ _ (OpOk.run _ _ RrF.keep RrC.keep fun b v hs hc hg => ⟨wanted_of rfl rfl rfl (dep hg 0 rfl rfl rfl rfl), _, _, exec_move rfl (hs 5 (by kernel_rfl)), .refl _ _, rfl⟩) ?_
    refine OpsOk.cons _ _ (OpOk.run _ _ RrF.keep RrC.keep fun b v hs hc hg => ⟨wanted_of rfl rfl rfl (dep hg 0 rfl rfl rfl rfl), _, _, exec_move rfl (hs 7 (by kernel_rfl)), .refl _ _, rfl⟩) ?_
    refine OpsOk.cons _ _ (OpOk.run _ _ RrF.keep RrC.keep fun b v hs hc hg => ⟨wanted_of rfl rfl rfl (dep hg 2 rfl rfl rfl rfl), _, _, exec_eqE rfl (dep hg 0 rfl rfl rfl rfl) (dep hg 1 rfl rfl rfl rfl), .refl _ _, by rw [decide_eq_true rfl]; rfl⟩) ?_
    refine OpsOk.cons _ _ (OpOk.run _ _ RrF.keep RrC.keep fun b v hs hc hg => ⟨rfl, _, _, exec_pick rfl (dep hg 0 rfl rfl rfl rfl) (dep hg 1 rfl rfl rfl rfl), .refl _ _, rfl⟩) ?_
    refine OpsOk.cons _ _ (OpOk.run _ _ RrF.keep RrC.keep fun b v hs hc hg => ⟨rfl, _, _, exec_move rfl (dep hg 0 rfl rfl rfl rfl), .refl _ _, rfl⟩) ?_
    refine OpsOk.cons _ _ (OpOk.run _ _ RrF.keep RrC.keep fun b v hs hc hg => ⟨wanted_of rfl rfl rfl (dep hg 0 rfl rfl rfl rfl), _, _, exec_move rfl (hs 0 (by kernel_rfl)), .refl _ _, rfl⟩) ?_
    refine OpsOk.cons _ _ (OpOk.run _ _ RrF.keep RrC.keep fun b v hs hc hg => ⟨wanted_of rfl rfl rfl (dep hg 0 rfl rfl rfl rfl), _, _, exec_move rfl (hs 3 (by kernel_rfl)), .refl _ _, rfl⟩) ?_
    refine OpsOk.cons _ _ (OpOk.call _ _ RrF.keep RrC.keep fun b v hs hc hg => ⟨wanted_of rfl rfl rfl (dep hg 3 rfl rfl rfl rfl), _, _, exec_call2 (enter_sameB6 _) rfl (dep hg 0 rfl rfl rfl rfl) (dep hg 1 rfl rfl rfl rfl), ans_v (sameT_any rfl rfl rfl (by have := Hl.out; omega) hc.2.2.2.1.2 hc.2.2.2.2.2)⟩) ?_
    refine OpsOk.cons _ _ (OpOk.run _ _ RrF.keep RrC.keep fun b v hs hc hg => ⟨rfl, _, _, exec_pick rfl (dep hg 0 rfl rfl rfl rfl) (dep hg 1 rfl rfl rfl rfl), .refl _ _, rfl⟩) ?_
    refine OpsOk.cons _ _ (OpOk.run _ _ RrF.keep RrC.keep fun b v hs hc hg => ⟨rfl, _, _, exec_move rfl (dep hg 0 rfl rfl rfl rfl), .refl _ _, rfl⟩) ?_
    refine OpsOk.cons _ _ (OpOk.call _ _ RrF.keep RrC.keep fun b v hs hc hg => ⟨wanted_of rfl rfl rfl (dep hg 1 rfl rfl rfl rfl), _, _, exec_call0 (enter_works6 _) rfl, ans_v (works6_any v)⟩) ?_
    refine OpsOk.cons _ _ (OpOk.run _ _ RrF.keep RrC.keep fun b v hs hc hg => ⟨rfl, _, _, exec_pick rfl (dep hg 0 rfl rfl rfl rfl) (dep hg 1 rfl rfl rfl rfl), .refl _ _, rfl⟩) ?_
    refine OpsOk.cons _ _ (OpOk.run _ _ RrF.keep RrC.keep fun b v hs hc hg => ⟨rfl, _, _, exec_assign rfl (dep hg 0 rfl rfl rfl rfl), .refl _ _, rfl⟩) ?_
    exact OpsOk.nil _ _
  · intro b' w' hsz hd hs hc hall
    have h4' : b'.tmps[2]?.getD undef = .bool true := by
      have : b'.tmps.getD 2 undef = .bool true := hall 17 _ _ rfl rfl
      rwa [Array.getD_eq_getD_getElem?] at this
    clear hall hs
    go_wp2
    exact bodyPost_ret (v := .bool true) (by simp [results, Try.results4, h4', go_sem]) hd ⟨rfl, HB4.out.trans (hc.1.mono HB4.out.size)⟩
end Go.Proofs.Ytfhcpjnjemojgaa
