/- NameReads: the walk. Conditions: none. -/
import Derived.Test.YtipmpebckfaknaaDoorNmY
namespace Go.Proofs.YtipmpebckfaknaaDoor
open Go.RowKit Go.Lib

def NrF (x : Nm) (b : Bool) : Nat → Value → World → Prop
  | 0, v, _ => v = .bool b
  | 1, v, _ => v = .bool b
  | 2, v, _ => v = .bool true
  | 3, v, _ => v = .bool true
  | 4, v, _ => v = x.v
  | 5, v, _ => v = x.v
  | 6, v, _ => v = x.v
  | 7, v, _ => v = .bool true
  | 8, v, _ => v = .bool true
  | 9, v, _ => v = .bool true
  | 10, v, _ => v = .bool true
  | 11, v, _ => v = .bool true
  | 12, v, _ => v = .bool true
  | _, _, _ => True
theorem NrF.keep {x : Nm} {b : Bool} (j : Nat) (u : Value) (w w' : World) (_hb : Below w.heap.size w w') (hfact : NrF x b j u w) : NrF x b j u w' :=
  match j, hfact with
  | 0, h => h
  | 1, h => h
  | 2, h => h
  | 3, h => h
  | 4, h => h
  | 5, h => h
  | 6, h => h
  | 7, h => h
  | 8, h => h
  | 9, h => h
  | 10, h => h
  | 11, h => h
  | 12, h => h
  | _ + 13, h => h
def NrC (W : World) (x : Nm) (g h : Nat) (w : World) : Prop := Below W.heap.size W w ∧ BoxNm x w ⟨g, 0, none⟩ ∧ BoxNm x w ⟨h, 0, none⟩ ∧ Env w
theorem NrC.keep {W : World} {x : Nm} {g h : Nat} (w w' : World) (hb : Below w.heap.size w w') (hc : NrC W x g h w) : NrC W x g h w' := ⟨hc.1.trans (hb.mono hc.1.size), hc.2.1.keep hb, hc.2.2.1.keep hb, hc.2.2.2.on hb⟩

set_option maxHeartbeats 4000000 in
set_option maxRecDepth 100000 in
theorem readsLaw_any (s : List UInt8) (w : World) (hE : Env w) (hs63 : s.length ≤ 9223372036854775807) : Calls Tryd.prog 4 #[.string (txt s)] w fun e w' => e = .returned (.bool true) ∧ Below w.heap.size w w' := by
  have HE := Lib.hid hE
  have Hs63 := Lib.hid hs63
  clear hE hs63
  by_cases hl : 120 < (txt s).size
  · have HW := Lib.hid (works_any w HE.out)
    go_enter Tryd.func4, Tryd.ntmps4
    go_wp2_with (go_at_call 16; refine HW.out.mono ?_; rintro e w' ⟨rfl, hb⟩)
    go_ret
    exact ⟨rfl, hb⟩
  · obtain ⟨x, b, _, _, hp1, hp2⟩ := parse_both s (by rw [txt_size] at hl; omega)
    have Hp1 := Lib.hid hp1
    have Hp2 := Lib.hid hp2
    clear hp1 hp2
    go_enter Tryd.func4, Tryd.ntmps4
    go_upto_region 4 with (go_at_call 17; refine (Hp1.out _ HE.out).mono ?_; rintro e w1 ⟨rfl, hb1⟩)
    obtain ⟨W1, hW1⟩ : ∃ W, Hid (W = w1.alloc (.cells #[.int .u8 (x.k : Int), .int .u64 (x.d : Int), .int .u64 (x.n : Int), .int .u64 (x.p : Int), .int .u64 (x.i : Int), .int .u64 (x.c : Int)] 24)) := ⟨_, rfl⟩
    rw [← hW1.out]
    have HX1 : Hid (BoxNm x W1 ⟨w1.heap.size, 0, none⟩) := by rw [hW1.out]; exact boxNm_new x w1 _
    have HB1 : Hid (Below w.heap.size w W1) := by rw [hW1.out]; exact hb1.alloc hb1.size _
    clear hb1
    go_upto_region 5 with (go_at_call 18; refine (Hp2.out _).mono ?_; rintro e w2 ⟨rfl, hb2⟩)
    obtain ⟨W2, hW2⟩ : ∃ W, Hid (W = w2.alloc (.cells #[.int .u8 (x.k : Int), .int .u64 (x.d : Int), .int .u64 (x.n : Int), .int .u64 (x.p : Int), .int .u64 (x.i : Int), .int .u64 (x.c : Int)] 25)) := ⟨_, rfl⟩
    rw [← hW2.out]
    have HX2 : Hid (BoxNm x W2 ⟨w2.heap.size, 0, none⟩) := by rw [hW2.out]; exact boxNm_new x w2 _
    have h12 : Below W1.heap.size W1 W2 := by rw [hW2.out]; exact hb2.alloc hb2.size _
    have HX1' := Lib.hid (HX1.out.keep h12)
    have HB2 := Lib.hid (HB1.out.trans (h12.mono HB1.out.size))
    clear h12 hb2
    refine wp_region_facts (n := 33) (NrF x b) (NrC W2 x w1.heap.size w2.heap.size) (by kernel_rfl) (by kernel_rfl) rfl ?_ ?_ ?_
    · exact ⟨(Below.refl _ _).drew, HX1'.out.keep (Below.refl _ _).drew, HX2.out.keep (Below.refl _ _).drew, (HE.out.on HB2.out).on (Below.refl _ _).drew⟩
    · skip
      refine OpsOk.cons _ _ (OpOk.run _ _ NrF.keep NrC.keep fun b v hs hc hg => ⟨rfl, _, _, exec_move rfl (hs 4 (by kernel_rfl)), .refl _ _, rfl⟩) ?_
      refine OpsOk.cons _ _ (OpOk.run _ _ NrF.keep NrC.keep fun b v hs hc hg => ⟨rfl, _, _, exec_move rfl (hs 6 (by kernel_rfl)), .refl _ _, rfl⟩) ?_
      refine OpsOk.cons _ _ (OpOk.run _ _ NrF.keep NrC.keep fun b v hs hc hg => ⟨rfl, _, _, exec_eqB rfl (dep hg 0 rfl rfl rfl rfl) (dep hg 1 rfl rfl rfl rfl), .refl _ _, by rw [beq_self_eq_true]; rfl⟩) ?_
      refine OpsOk.cons _ _ (OpOk.run _ _ NrF.keep NrC.keep fun b v hs hc hg => ⟨rfl, _, _, exec_move rfl (dep hg 0 rfl rfl rfl rfl), .refl _ _, rfl⟩) ?_
      refine OpsOk.cons _ _ (OpOk.run _ _ NrF.keep NrC.keep fun b v hs hc hg => ⟨wanted_of rfl rfl rfl (dep hg 0 rfl rfl rfl rfl), _, _, exec_loadN rfl (hs 3 (by kernel_rfl)) hc.2.1, .refl _ _, rfl⟩) ?_
      refine OpsOk.cons _ _ (OpOk.call _ _ NrF.keep NrC.keep fun b v hs hc hg => ⟨wanted_of rfl rfl rfl (dep hg 1 rfl rfl rfl rfl), _, _, exec_call1 (enter_ref _) rfl (dep hg 0 rfl rfl rfl rfl), ans_q (ref_any x v)⟩) ?_
      refine OpsOk.cons _ _ (OpOk.run _ _ NrF.keep NrC.keep fun b v hs hc hg => ⟨wanted_of rfl rfl rfl (dep hg 0 rfl rfl rfl rfl), _, _, exec_loadR rfl (hs 5 (by kernel_rfl)) hc.2.2.1, .refl _ _, rfl⟩) ?_
      refine OpsOk.cons _ _ (OpOk.run _ _ NrF.keep NrC.keep fun b v hs hc hg => ⟨wanted_of rfl rfl rfl (dep hg 2 rfl rfl rfl rfl), _, _, exec_eqR rfl (dep hg 0 rfl rfl rfl rfl) (dep hg 1 rfl rfl rfl rfl), .refl _ _, by rw [decide_eq_true rfl]; rfl⟩) ?_
      refine OpsOk.cons _ _ (OpOk.run _ _ NrF.keep NrC.keep fun b v hs hc hg => ⟨rfl, _, _, exec_pick rfl (dep hg 0 rfl rfl rfl rfl) (dep hg 1 rfl rfl rfl rfl), .refl _ _, rfl⟩) ?_
      refine OpsOk.cons _ _ (OpOk.run _ _ NrF.keep NrC.keep fun b v hs hc hg => ⟨rfl, _, _, exec_move rfl (dep hg 0 rfl rfl rfl rfl), .refl _ _, rfl⟩) ?_
      refine OpsOk.cons _ _ (OpOk.call _ _ NrF.keep NrC.keep fun b v hs hc hg => ⟨wanted_of rfl rfl rfl (dep hg 0 rfl rfl rfl rfl), _, _, exec_call0 (enter_works _) rfl, ans_q (works_any v hc.2.2.2)⟩) ?_
      refine OpsOk.cons _ _ (OpOk.run _ _ NrF.keep NrC.keep fun b v hs hc hg => ⟨rfl, _, _, exec_pick rfl (dep hg 0 rfl rfl rfl rfl) (dep hg 1 rfl rfl rfl rfl), .refl _ _, rfl⟩) ?_
      refine OpsOk.cons _ _ (OpOk.run _ _ NrF.keep NrC.keep fun b v hs hc hg => ⟨rfl, _, _, exec_assign rfl (dep hg 0 rfl rfl rfl rfl), .refl _ _, rfl⟩) ?_
      exact OpsOk.nil _ _
    · intro b' w' hsz hd hs hc hall
      have h4' : b'.tmps[2]?.getD undef = .bool true := by
        have : b'.tmps.getD 2 undef = .bool true := hall 12 _ _ rfl rfl
        rwa [Array.getD_eq_getD_getElem?] at this
      clear hall hs
      go_wp2
      exact bodyPost_ret (v := .bool true) (by simp [results, Tryd.results4, h4', go_sem]) hd ⟨rfl, HB2.out.trans (hc.1.mono HB2.out.size)⟩
end Go.Proofs.YtipmpebckfaknaaDoor
