/- Whether there may be such a Name, by the code and by the reference. Conditions: none. -/
import Derived.Test.YtipmpebckfaknaaDoorNmP2
import Derived.Test.YtipmpebckfaknaaDoorNmB
import Derived.Deep.CutRange
namespace Go.Proofs.YtipmpebckfaknaaDoor
open Go.RowKit Go.Lib

/-- A Name, without what its kind doesn't tell of. -/
def normOf (x : Nm) : Nm := if x.k = 1 ∨ x.k = 2 then ⟨x.k, x.d, x.n, 0, 0, 0⟩ else if x.k = 3 then ⟨x.k, 0, 0, x.p, x.i, x.c⟩ else if x.k = 4 then ⟨x.k, x.d, 0, x.p, x.i, x.c⟩ else Nm.zero
theorem mayOf_norm (x : Nm) : mayOf x = decide ((normOf x).k ≠ 0 ∧ normOf x = x) := by
  obtain ⟨k, d, n, p, i, c⟩ := x
  unfold mayOf normOf
  simp only
  by_cases h : k = 1 ∨ k = 2
  · rw [if_pos h, if_pos h]
    have hk : k ≠ 0 := by omega
    by_cases hp : p = 0 <;> by_cases hi : i = 0 <;> by_cases hc : c = 0 <;> simp [hk, hp, hi, hc] <;> omega
  · rw [if_neg h, if_neg h]
    by_cases h3 : k = 3
    · rw [if_pos h3, if_pos h3]
      have hk : k ≠ 0 := by omega
      by_cases hd : d = 0 <;> by_cases hn : n = 0 <;> simp [hk, hd, hn] <;> omega
    · rw [if_neg h3, if_neg h3]
      by_cases h4 : k = 4
      · rw [if_pos h4, if_pos h4]
        have hk : k ≠ 0 := by omega
        by_cases hn : n = 0 <;> simp [hk, hn] <;> omega
      · rw [if_neg h4, if_neg h4]
        simp [Nm.zero]
theorem ans_q {f : FuncId} {args : Array Value} {w : World} {v : Value} (h : Calls Tryd.prog f args w fun e w' => e = .returned v ∧ Below w.heap.size w w') : Calls Tryd.prog f args w fun e w' => ∃ u, e = .returned u ∧ Below w.heap.size w w' ∧ u = v := by
  refine h.mono ?_
  rintro e w' ⟨rfl, hb⟩
  exact ⟨_, rfl, hb, rfl⟩
theorem made_norm (x : Nm) (w : World) : Calls Tryd.prog 25 #[.int .u8 (x.k : Int), fourOf x] w fun e w' => e = .returned (normOf x).v ∧ Below w.heap.size w w' := by
  unfold fourOf
  split
  · rename_i h
    have := made_any x.k x.d x.n 0 0 w
    rw [madeOf_two h] at this
    unfold normOf
    rw [if_pos h]
    exact this
  · rename_i h
    split
    · rename_i h3
      have := made_any x.k x.p x.i x.c 0 w
      rw [madeOf_3 h3] at this
      unfold normOf
      rw [if_neg h, if_pos h3]
      exact this
    · rename_i h3
      split
      · rename_i h4
        have := made_any x.k x.d x.p x.i x.c w
        rw [madeOf_4 h4] at this
        unfold normOf
        rw [if_neg h, if_neg h3, if_pos h4]
        exact this
      · rename_i h4
        have := made_any x.k 0 0 0 0 w
        rw [madeOf_no (by omega) (by omega) h3 h4] at this
        unfold normOf
        rw [if_neg h, if_neg h3, if_neg h4]
        exact this
theorem enter_numbers (w : World) (args : Array Value) : (callFunc 26 args).run Tryd.prog w = .ok (.enter 26 args) w := by kernel_rfl
theorem enter_made (w : World) (args : Array Value) : (callFunc 25 args).run Tryd.prog w = .ok (.enter 25 args) w := by kernel_rfl
theorem exec_allocN {b : Act} {w : World} {o : Oper} (ho : o.op = .alloc 24) : (execOp b.eval o).run Tryd.prog w = .ok (.value (.pointer (some ⟨w.heap.size, 0, none⟩))) (w.alloc (.cells zeros6 24)) := by
  unfold execOp
  simp only [ho]
  go_simp
  rfl
def MayF (x : Nm) (g B : Nat) : Nat → Value → World → Prop
  | 0, v, _ => v = .pointer (some ⟨g, 0, none⟩)
  | 1, v, _ => v = .int .u8 (x.k : Int)
  | 2, v, _ => v = x.v
  | 3, v, _ => v = fourOf x
  | 4, v, _ => v = (normOf x).v
  | 5, v, w => ∃ r, v = .pointer (some ⟨r, 0, none⟩) ∧ w.heap[r]? = some (.cells zeros6 24 (0, 0)) ∧ B ≤ r
  | _, _, _ => True
theorem MayF.keep {x : Nm} {g B : Nat} (j : Nat) (u : Value) (w w' : World) (hb : Below w.heap.size w w') (hfact : MayF x g B j u w) : MayF x g B j u w' :=
  match j, hfact with
  | 0, h => h
  | 1, h => h
  | 2, h => h
  | 3, h => h
  | 4, h => h
  | 5, h => let ⟨r, e, hr, hB⟩ := h; ⟨r, e, (hb.block r (Array.getElem?_eq_some_iff.1 hr).1).trans hr, hB⟩
  | _ + 6, h => h
def MayC (W : World) (x : Nm) (g : Nat) (w : World) : Prop := Below W.heap.size W w ∧ BoxNm x w ⟨g, 0, none⟩
theorem MayC.keep {W : World} {x : Nm} {g : Nat} (w w' : World) (hb : Below w.heap.size w w') (hc : MayC W x g w) : MayC W x g w' := ⟨hc.1.trans (hb.mono hc.1.size), hc.2.keep hb⟩

set_option maxHeartbeats 4000000 in
set_option maxRecDepth 100000 in
theorem may_any (x : Nm) (w : World) : Calls Tryd.prog 10 #[x.v] w fun e w' => e = .returned (.bool (mayOf x)) ∧ Below w.heap.size w w' := by
  obtain ⟨W, hW⟩ : ∃ W, Hid (W = w.alloc (.cells #[.int .u8 (x.k : Int), .int .u64 (x.d : Int), .int .u64 (x.n : Int), .int .u64 (x.p : Int), .int .u64 (x.i : Int), .int .u64 (x.c : Int)] 24)) := ⟨_, rfl⟩
  have HB : Hid (BoxNm x W ⟨w.heap.size, 0, none⟩) := by rw [hW.out]; exact boxNm_new x w _
  have HG : Hid (Below w.heap.size w W) := by rw [hW.out]; exact below_new _ _
  unfold Nm.v
  go_enter Tryd.func10, Tryd.ntmps10
  go_upto_region 1 with fail
  rw [← hW.out]
  go_cut [3] from 3 to 8 (fun s wx => ∃ r, s = .pointer (some ⟨r, 0, none⟩) ∧ wx.heap[r]? = some (.cells (normOf x).cells.toArray 24 (0, 0)) ∧ W.heap.size ≤ r ∧ Below W.heap.size W wx)
  case first =>
    rename_i J K1 hJ hK
    refine wp_region_tail (n := 17) (m := 6) (MayF x w.heap.size W.heap.size) (MayC W x w.heap.size) (by kernel_rfl) (by kernel_rfl) rfl rfl (by decide) (by kernel_rfl) ?_ ?_ ?_
    · exact ⟨(Below.refl _ _).drew, HB.out.keep (Below.refl _ _).drew⟩
    · skip
      refine OpsOk.cons _ _ (OpOk.run _ _ MayF.keep MayC.keep fun b v hs hc hg => ⟨rfl, _, _, exec_fieldN 0 (by decide) rfl (hs 1 (by kernel_rfl)), .refl _ _, rfl⟩) ?_
      refine OpsOk.cons _ _ (OpOk.run _ _ MayF.keep MayC.keep fun b v hs hc hg => ⟨rfl, _, _, exec_load8 rfl (dep hg 0 rfl rfl rfl rfl) (hc.2).c0, .refl _ _, rfl⟩) ?_
      refine OpsOk.cons _ _ (OpOk.run _ _ MayF.keep MayC.keep fun b v hs hc hg => ⟨rfl, _, _, exec_loadN rfl (hs 1 (by kernel_rfl)) hc.2, .refl _ _, rfl⟩) ?_
      refine OpsOk.cons _ _ (OpOk.call _ _ MayF.keep MayC.keep fun b v hs hc hg => ⟨rfl, _, _, exec_call1 (enter_numbers _) rfl (dep hg 0 rfl rfl rfl rfl), ans_q (numbers_any x v)⟩) ?_
      refine OpsOk.cons _ _ (OpOk.call _ _ MayF.keep MayC.keep fun b v hs hc hg => ⟨rfl, _, _, exec_call2 (enter_made _) rfl (dep hg 0 rfl rfl rfl rfl) (dep hg 1 rfl rfl rfl rfl), ans_q (made_norm x v)⟩) ?_
      refine OpsOk.cons _ _ (OpOk.run _ _ MayF.keep MayC.keep fun b v hs hc hg => ⟨rfl, _, _, exec_allocN rfl, below_new _ _, ⟨_, rfl, heap_alloc_new v _, hc.1.size⟩⟩) ?_
      exact OpsOk.nil _ _
    · intro b' w' hsz hd hs hc hall
      obtain ⟨r, e3, hr, hB⟩ := (hall 5 _ _ (by decide) rfl rfl : MayF _ _ _ 5 _ _)
      have e8 : b'.tmps.getD 8 undef = (normOf x).v := hall 4 _ _ (by decide) rfl rfl
      refine wpList_store_row rfl 24 (.tmp 3) (.tmp 8) rfl r (normOf x).cells.toArray e3 e8 _ _ hr size_nm rfl (six_one _ _ _ _ _ _) ?_
      refine hK _ _ (Met.intro (hJ _ _ ?_))
      exact ⟨b'.tmps.getD 3 undef, b'.tmps.getD 4 undef, b'.tmps.getD 5 undef, b'.tmps.getD 6 undef, b'.tmps.getD 7 undef, b'.tmps.getD 8 undef, ⟨r, e3, setRow_heap _ _ _ _ _ _ hr, hB, below_setRow' hc.1 hB _⟩, (act_known hsz hd hs).trans (by kernel_rfl)⟩
  obtain ⟨r, rfl, hr, hB, hb⟩ := hcut
  have hm := boxNm_of hr
  have hx := HB.out.below hb (by rw [hW.out]; simp)
  have x0 := hx.c0
  have x1 : wc.cell? ⟨w.heap.size, 1, none⟩ = _ := hx.c1
  have x2 : wc.cell? ⟨w.heap.size, 2, none⟩ = _ := hx.c2
  have x3 : wc.cell? ⟨w.heap.size, 3, none⟩ = _ := hx.c3
  have x4 : wc.cell? ⟨w.heap.size, 4, none⟩ = _ := hx.c4
  have x5 : wc.cell? ⟨w.heap.size, 5, none⟩ = _ := hx.c5
  have m0 := hm.c0
  have m1 : wc.cell? ⟨r, 1, none⟩ = _ := hm.c1
  have m2 : wc.cell? ⟨r, 2, none⟩ = _ := hm.c2
  have m3 : wc.cell? ⟨r, 3, none⟩ = _ := hm.c3
  have m4 : wc.cell? ⟨r, 4, none⟩ = _ := hm.c4
  have m5 : wc.cell? ⟨r, 5, none⟩ = _ := hm.c5
  have HGb := Lib.hid (HG.out.trans (hb.mono HG.out.size))
  have hmay := mayOf_norm x
  obtain ⟨m, hmm⟩ : ∃ m, m = normOf x := ⟨_, rfl⟩
  rw [← hmm] at m0 m1 m2 m3 m4 m5 hmay
  have Hmay := Lib.hid hmay
  clear hmm hm hx hr hb hB hmay HB HG
  obtain ⟨mk, md, mn, mp, mi, mc⟩ := m
  simp only at m0 m1 m2 m3 m4 m5
  go_wp2
  all_goals
    go_ret
    refine ⟨?_, HGb.out⟩
    rw [Hmay.out]
    first
      | exact ret_bool (decide_eq_false (by
          rintro ⟨h0, h1⟩
          have q0 : mk = x.k := congrArg Nm.k h1
          have q1 : md = x.d := congrArg Nm.d h1
          have q2 : mn = x.n := congrArg Nm.n h1
          have q3 : mp = x.p := congrArg Nm.p h1
          have q4 : mi = x.i := congrArg Nm.i h1
          have q5 : mc = x.c := congrArg Nm.c h1
          omega)).symm
      | (have hk : ¬ mk = 0 := by assumption
         have e : (Nm.mk mk md mn mp mi mc) = x := by
           cases x
           simp only [Nm.mk.injEq] at *
           omega
         have ek : mk = x.k := by rw [← e]
         exact ret_bool (by rw [decide_eq_true ⟨hk, e⟩, bne_iff_ne]; omega))
end Go.Proofs.YtipmpebckfaknaaDoor
