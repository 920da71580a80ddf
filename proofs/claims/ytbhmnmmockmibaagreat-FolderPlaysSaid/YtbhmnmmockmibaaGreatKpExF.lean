/- The walk of the reference's put. Conditions: files of at most 1000 parts of 100000 bytes. -/
import Derived.Test.YtbhmnmmockmibaaGreatKpExE
namespace Go.Proofs.YtbhmnmmockmibaaGreat
open Go.RowKit
def XV (X : Nat → Prop) (s n : Nat) : Nat → Prop := fun b => X b ∨ (s ≤ b ∧ b < s + n)
theorem PsX.vars {w w' : World} {X : Nat → Prop} {A : Option Addr} {ps : List Pa} (h : PsX w X A ps) (hb : Below w.heap.size w w') (n : Nat) : PsX w' (XV X w.heap.size n) A ps :=
  PsX.below (h.mono fun b hlt hy => hy.elim id fun hy => by omega) hb
def BelC (W : World) (w : World) : Prop := Below W.heap.size W w
theorem BelC.keep {W : World} (w w' : World) (hb : Below w.heap.size w w') (h : BelC W w) : BelC W w' := Below.trans h (hb.mono h.size)
theorem psNew_reads (w : World) (t : TypeId) (ps : List Pa) : Reads (w.alloc (.cells (pcells ps).toArray t)) (w.alloc (.cells (pcells ps).toArray t)).heap.size 2 (some ⟨w.heap.size, 0, none⟩) ps.length (pcells ps) := by
  refine ⟨pcells_len ps, fun _ => ⟨_, rfl, by simp, fun j u hu => ?_⟩⟩
  have hadd : (⟨w.heap.size, 0, none⟩ : Addr).add j = ⟨w.heap.size, j, none⟩ := by unfold Addr.add; split <;> simp_all
  rw [hadd, cell_of_row (w.alloc (.cells (pcells ps).toArray t)) w.heap.size j (pcells ps).toArray t (0, 0) (heap_alloc_new w _)]
  simpa using hu
theorem rownX {W w : World} {X : Nat → Prop} (A : Option Addr) (c B : Nat) (l : List UInt8) (hX : ∀ b, X b → b < W.heap.size) (hl : l.length ≤ 100000) (hc : Below W.heap.size W w) (hr : RdB w B A l) :
    Calls Tryz.prog 121 #[.slice A l.length c] w fun e w' => ∃ v, e = .returned v ∧ Below w.heap.size w w' ∧ ∃ A c, v = .slice A l.length c ∧ BsX w' X A l := by
  refine (rown_any A c B l w (by omega) hr).mono ?_
  rintro e w' ⟨v, rfl, hown, hb⟩
  obtain ⟨A', c', rfl, _, _, _⟩ := own_form hown
  exact ⟨_, rfl, hb, A', c', rfl, own_avoid hown fun b hb' => Nat.lt_of_lt_of_le (hX b hb') hc.size⟩
def PutF (X : Nat → Prop) (Ab : Option Addr) (cb : Nat) (l : List UInt8) (d : Bool) (A1 : Option Addr) (n c1 g2 : Nat) : Nat → Value → World → Prop
  | 0, v, _ => v = .pointer (some ⟨g2, 0, none⟩)
  | 1, v, _ => v = .slice A1 n c1
  | 2, v, _ => v = .slice Ab l.length cb
  | 3, v, w => ∃ A c, v = .slice A l.length c ∧ BsX w X A l
  | 4, v, _ => v = .bool d
  | 5, v, w => ∃ A c, v = (Pa.mk ⟨A, c, l⟩ d).v ∧ BsX w X A l
  | 6, v, w => ∃ p : Pa, p.r.l = l ∧ p.d = d ∧ BsX w X p.r.A p.r.l ∧ ∃ A, v = .slice A 1 1 ∧ Reads w w.heap.size 2 A 1 (pcells [p])
  | _, _, _ => True
theorem PutF.keep {X : Nat → Prop} {Ab : Option Addr} {cb : Nat} {l : List UInt8} {d : Bool} {A1 : Option Addr} {n c1 g2 : Nat} (j : Nat) (u : Value) (w w' : World) (hb : Below w.heap.size w w') (hfact : PutF X Ab cb l d A1 n c1 g2 j u w) : PutF X Ab cb l d A1 n c1 g2 j u w' :=
  match j, hfact with
  | 0, h => h
  | 1, h => h
  | 2, h => h
  | 3, h => by obtain ⟨A, c, e, h⟩ := h; exact ⟨A, c, e, h.below hb⟩
  | 4, h => h
  | 5, h => by obtain ⟨A, c, e, h⟩ := h; exact ⟨A, c, e, h.below hb⟩
  | 6, h => by obtain ⟨p, e1, e2, h, A, e3, h2⟩ := h; exact ⟨p, e1, e2, h.below hb, A, e3, (Reads.below h2 hb).more hb.size⟩
  | _ + 7, h => h
set_option maxHeartbeats 1000000 in
set_option maxRecDepth 100000 in
theorem put_any {X : Nat → Prop} {A Ab : Option Addr} {c cb B : Nat} {ps : List Pa} {l : List UInt8} {d : Bool} {w : World} (hX : ∀ b, X b → b < w.heap.size) (hs : SmM (says ps)) (hl : l.length ≤ 100000) (hr : PsX w X A ps) (hB : B ≤ w.heap.size) (hb : RdB w B Ab l) :
    Calls Tryz.prog 103 #[.agg #[.slice A ps.length c], .slice Ab l.length cb, .bool d] w fun e w' => ∃ v, e = .returned (.agg #[v]) ∧ Below w.heap.size w w' ∧ FileV w' X v (says ps ++ fullM [(l, d)]) := by
  have hlen : (ps.length : Int) ≤ 1000 := by have := hs.n; rw [says_len] at this; omega
  have Hs := Lib.hid hs
  have HX := Lib.hid hX
  obtain ⟨g1, h1⟩ : ∃ g, Hid (w.heap.size + 1 = g) := ⟨_, rfl⟩
  obtain ⟨g2, h2⟩ : ∃ g, Hid (w.heap.size + 1 + 1 = g) := ⟨_, rfl⟩
  obtain ⟨W, hW⟩ : ∃ W, Hid (((w.alloc (.cells #[.slice A ps.length c] 137)).alloc (.cells #[.slice none 0 0] 137)).alloc (.cells #[.slice none 0 0] 137) = W) := ⟨_, rfl⟩
  have hbW : Hid (Below w.heap.size w W) := by rw [← hW.out]; exact ((below_new _ _).alloc (by simp) _).alloc (by simp; omega) _
  have hsW : Hid (W.heap.size = w.heap.size + 3) := by rw [← hW.out]; show _ = _; simp
  have f0 : Hid (W.heap[w.heap.size]? = some (.cells #[.slice A ps.length c] 137 (0, 0))) := by
    rw [← hW.out]; show _ = _
    rw [heap_alloc_old _ _ (by simp; omega), heap_alloc_old _ _ (by simp)]
    exact heap_alloc_new _ _
  have f1 : Hid (W.heap[g1]? = some (.cells #[.slice none 0 0] 137 (0, 0))) := by
    rw [← hW.out, ← h1.out]; show _ = _
    rw [heap_alloc_old _ _ (by simp)]
    have := heap_alloc_new (w.alloc (.cells #[.slice A ps.length c] 137)) (.cells #[.slice none 0 0] 137)
    simpa using this
  have f2 : Hid (W.heap[g2]? = some (.cells #[.slice none 0 0] 137 (0, 0))) := by
    rw [← hW.out, ← h2.out]; show _ = _
    have := heap_alloc_new ((w.alloc (.cells #[.slice A ps.length c] 137)).alloc (.cells #[.slice none 0 0] 137)) (.cells #[.slice none 0 0] 137)
    simpa using this
  have hrW : Hid (PsX W (XV X w.heap.size 3) A ps) := hr.vars hbW.out 3
  have HXV : Hid (∀ b, XV X w.heap.size 3 b → b < W.heap.size) := by
    intro b hb
    rw [hsW.out]
    rcases hb with hb | hb
    · have := hX b hb; omega
    · omega
  have hnx : Hid (∀ v : Value, v.ownBlock = none → ∀ b, XB (XV X w.heap.size 3) v b → XV X w.heap.size 3 b) := by
    intro v hv b hb
    rcases hb with hb | hb
    · exact hb
    · rw [hv] at hb; cases hb
  have c0 := box_cell f0.out
  have c2 := box_cell f2.out
  clear hX hs hr
  go_enter Tryz.func103, Tryz.ntmps103
  go_upto_region 2 with fail
  rw [hW.out, h2.out, h1.out]
  go_upto_region 3 with
    (at_builtin
     refine push_ps ptSl2 (.tmp 9) (.tmp 11) (own := []) (new := ps) rfl (OwnP.nil _ _ _ _) (Nat.le_refl _) hrW.out.top.reads (fun p hp => (hrW.out.row p hp).mono (fun b _ hb => hnx.out _ rfl b hb)) (by simp; have := Hs.out.n; rw [says_len] at this; omega) rfl rfl rfl rfl ?_
     intro v1 w1 hown1 hb1 hz1 hg1 _
     obtain ⟨A1, c1, rfl, hc1, hr1⟩ := hown1.reads HXV.out
     have k1 := Lib.hid ((hb1.block g1 (Array.getElem?_eq_some_iff.1 f1.out).1).trans f1.out)
     have k2 := Lib.hid ((hb1.block g2 (Array.getElem?_eq_some_iff.1 f2.out).1).trans f2.out)
     have c3 := box_cell k2.out
     have z3 := box_frozen k2.out
     simp only [List.nil_append] at hown1 hr1 hc1)
  obtain ⟨W2, hW2⟩ : ∃ W2, Hid (w1.setCell ⟨g2, 0, none⟩ (.slice A1 ps.length c1) = W2) := ⟨_, rfl⟩
  rw [hW2.out]
  obtain ⟨n, hn⟩ : ∃ n, Hid (ps.length = n) := ⟨_, rfl⟩
  have hg2l : Hid (g2 < W.heap.size) := by rw [hsW.out, ← h2.out]; show _ < _; omega
  have hg12 : Hid (g1 ≠ g2) := by rw [← h1.out, ← h2.out]; show _ ≠ _; omega
  have hX1 : Hid (XV X w.heap.size 3 g1) := Or.inr (by rw [← h1.out]; exact ⟨by omega, by omega⟩)
  have hX2 : Hid (XV X w.heap.size 3 g2) := Or.inr (by rw [← h2.out]; exact ⟨by omega, by omega⟩)
  have ht2 : Hid (Touch (fun k => k = g2) w1 W2) := by
    rw [← hW2.out]
    exact Touch.cell1 _ _ _ _
  have hown2 : Hid (OwnP 187 W.heap.size (XV X w.heap.size 3) W2 (.slice A1 ps.length c1) ps) := hown1.touch HXV.out (ht2.out.mono fun b _ e => by rw [e]; exact hX2.out)
  have q1 : Hid (W2.heap[g1]? = some (.cells #[.slice none 0 0] 137 (0, 0))) := by
    rw [← hW2.out]; show _ = _
    rw [heap_setCell_other _ _ _ _ hg12.out]
    exact k1.out
  have q2 : Hid (W2.heap[g2]? = some (.cells #[.slice A1 ps.length c1] 137 (0, 0))) := by
    rw [← hW2.out]
    exact box_set _ k2.out
  have hlow : Hid (w.heap.size ≤ g2) := by rw [← h2.out]; show _ ≤ _; omega
  have hb2 : Hid (Below w.heap.size w W2) := hbW.out.trans ((hb1.mono hbW.out.size).trans (ht2.out.below (Nat.le_trans hbW.out.size hz1) (fun b hb => by rw [hb]; exact hlow.out)))
  have hz2 : Hid (W.heap.size ≤ W2.heap.size) := Nat.le_trans hz1 ht2.out.size
  have hbB2 : Hid (RdB W2 B Ab l) := Reads.below hb (hb2.out.mono hB)
  have hB2 : Hid (B ≤ W2.heap.size) := by show _ ≤ _; have := hb2.out.size; omega
  have Hl := Lib.hid hl
  have HB := Lib.hid hB
  rw [hn.out] at hown2 q2
  have hc1' := Lib.hid hc1
  clear hown1 hr1 hc1 c0 c2 c3 z3 hb1 hz1 hg1 k1 k2
  rw [hn.out] at hlen ⊢
  have c1' := box_cell q1.out
  have z1' := box_frozen q1.out
  have c2' := box_cell q2.out
  by_cases hl0 : l = []
  · have Hl0 := Lib.hid hl0
    have hll : l.length = 0 := by rw [hl0]; rfl
    have hll' : ((l.length : Nat) : Int) = 0 := by rw [hll]; rfl
    clear hl0 hl
    go_wp2
    have r1 := box_set (.slice A1 n c1) q1.out
    refine ret_file2 rfl rfl r1 rfl ?_
    have ht3 : Touch (fun k => k = g1) W2 (W2.setCell ⟨g1, 0, none⟩ (.slice A1 n c1)) := Touch.cell1 _ _ _ _
    refine ⟨_, rfl, hb2.out.trans (ht3.below hb2.out.size (fun b hb => by rw [hb, ← h1.out]; omega)), ?_⟩
    have hf := (hown2.out.touch HXV.out (ht3.mono fun b _ e => by rw [e]; exact hX1.out)).file (m := says ps ++ fullM [(l, d)]) HXV.out (by rw [Hl0.out, fullM_none rfl, List.append_nil])
    exact hf.mono fun b _ hb => Or.inl hb
  · have hlp : (0 : Int) < (l.length : Int) := by have := List.length_pos_iff.2 hl0; omega
    have hlp' : 0 < l.length := List.length_pos_iff.2 hl0
    have Hl0 := Lib.hid hl0
    clear hl0 hl
    go_upto_region 4 with fail
    have hXO : Hid (∀ b, XB (XV X w.heap.size 3) (.slice A1 n c1) b → b < W2.heap.size) := by
      intro b hb
      rcases hb with hb | hb
      · exact Nat.lt_of_lt_of_le (HXV.out b hb) hz2.out
      · exact (hown2.out.head.lt b hb).2
    have hg2 : Hid (g2 < W2.heap.size) := Nat.lt_of_lt_of_le hg2l.out hz2.out
    have c4 : Hid (W2.cell? ⟨g2, 0, none⟩ = some (.slice A1 n c1)) := c2'
    have hl : Hid (l.length ≤ 100000) := Hl.out
    go_cut [] from 17 to 25 (fun wx => ∃ v, wx.heap[g2]? = some (.cells #[v] 137 (0, 0)) ∧ wx.heap[g1]? = some (.cells #[.slice none 0 0] 137 (0, 0)) ∧ Below w.heap.size w wx ∧ ∃ ps', says ps' = says ps ++ [(l, d)] ∧ OwnP 187 W.heap.size (XV X w.heap.size 3) wx v ps')
    case first =>
      rename_i J K1 hJ hK
      refine wp_region_tailP (n := 27) (m := 7) (PutF (XB (XV X w.heap.size 3) (.slice A1 n c1)) Ab cb l d A1 n c1 g2) (BelC W2) (by kernel_rfl) (by kernel_rfl) rfl rfl (by decide) (by kernel_rfl) (by kernel_rfl) ?_ ?_ ?_
      · exact (Below.refl _ _).drew
      rotate_left
      · intro b' w' hsz hd hs hc hall
        obtain ⟨p, hpl, hpd, hpr, Ap, e6, hrp⟩ : PutF (XB (XV X w.heap.size 3) (.slice A1 n c1)) Ab cb l d A1 n c1 g2 6 (b'.tmps.getD 23 undef) w' := hall 6 _ _ (by decide) rfl rfl
        have e1 : b'.tmps.getD 18 undef = .slice A1 n c1 := hall 1 _ _ (by decide) rfl rfl
        have e7 : b'.tmps.getD 7 undef = .pointer (some ⟨g2, 0, none⟩) := hs 7 (by kernel_rfl)
        have hbz : W.heap.size ≤ w'.heap.size := Nat.le_trans hz2.out hc.size
        refine push_ps ptSl2 (.tmp 18) (.tmp 23) (own := ps) (new := [p]) rfl (hown2.out.keep hc) hbz hrp (fun q hq => by rw [List.mem_singleton] at hq; rw [hq]; exact hpr) (by simp only [List.length_cons, List.length_nil]; have := Hs.out.n; rw [says_len] at this; omega) rfl rfl e1 e6 ?_
        intro v7 w7 hown7 hb7 hz7 hg7 _
        obtain ⟨A7, c7, rfl, _, _⟩ := hown7.reads HXV.out
        have j1 := (hb7.block g1 (by rw [hsW.out, ← h1.out]; omega)).trans ((hc.block g1 (Nat.lt_of_lt_of_le (by rw [hsW.out, ← h1.out]; omega) hz2.out)).trans q1.out)
        have j2 := (hb7.block g2 hg2l.out).trans ((hc.block g2 hg2.out).trans q2.out)
        refine wpList_op rfl (exec_fieldF (x := .tmp 7) rfl ((eval_put_ne (by decide)).trans e7)) ?_
        refine wpList_storeR (.tmp 25) (.tmp 24) rfl rfl (eval_put_eq (size_put hsz) (by decide)) ((eval_put_ne (by decide)).trans (eval_put_eq hsz (by decide))) j2 ?_
        refine hK _ _ (Met.intro (hJ _ _ ?_))
        have ht8 : Touch (fun k => k = g2) w7 (w7.setCell ⟨g2, 0, none⟩ (.slice A7 (ps ++ [p]).length c7)) := Touch.cell1 _ _ _ _
        refine ⟨b'.tmps.getD 17 undef, b'.tmps.getD 18 undef, b'.tmps.getD 19 undef, b'.tmps.getD 20 undef, b'.tmps.getD 21 undef, b'.tmps.getD 22 undef, b'.tmps.getD 23 undef, .slice A7 (ps ++ [p]).length c7, .pointer (some ⟨g2, 0, none⟩), ⟨_, box_set _ j2, ?_, ?_, ps ++ [p], ?_, hown7.touch HXV.out (ht8.mono fun b _ e => by rw [e]; exact hX2.out)⟩, (congrArg (fun a : Act => (a.put (some 24) _).put (some 25) _) (act_known hsz hd hs)).trans (by kernel_rfl)⟩
        · rw [heap_setCell_other _ _ _ _ hg12.out]
          exact j1
        · exact (hb2.out.trans (hc.mono hb2.out.size)).trans ((hb7.mono hbW.out.size).trans (ht8.below (Nat.le_trans hbW.out.size (Nat.le_trans hbz hz7)) fun b hb => by rw [hb]; exact hlow.out))
        · rw [says_append]
          show says ps ++ [(p.r.l, p.d)] = _
          rw [hpl, hpd]
      refine OpsOk.cons _ _ (OpOk.run _ _ PutF.keep BelC.keep fun b v hs hc hg => ⟨rfl, _, _, exec_fieldF rfl (hs 7 (by kernel_rfl)), .refl _ _, rfl⟩) ?_
      refine OpsOk.cons _ _ (OpOk.run _ _ PutF.keep BelC.keep fun b v hs hc hg => ⟨rfl, _, _, exec_loadRs rfl (dep hg 0 rfl rfl rfl rfl) ((hc.cell (p := ⟨g2, 0, none⟩) hg2.out).trans c4.out), .refl _ _, rfl⟩) ?_
      refine OpsOk.cons _ _ (OpOk.run _ _ PutF.keep BelC.keep fun b v hs hc hg => ⟨rfl, _, _, exec_move rfl (hs 1 (by kernel_rfl)), .refl _ _, rfl⟩) ?_
      refine OpsOk.cons _ _ (OpOk.call _ _ PutF.keep BelC.keep fun b v hs hc hg => ⟨rfl, _, _, exec_call1 (enter_rown _) rfl (dep hg 0 rfl rfl rfl rfl), (rownX Ab cb B l (hXO.out) hl.out hc (Reads.below hbB2.out (hc.mono hB2.out)))⟩) ?_
      refine OpsOk.cons _ _ (OpOk.run _ _ PutF.keep BelC.keep fun b v hs hc hg => ⟨rfl, _, _, exec_move rfl (hs 2 (by kernel_rfl)), .refl _ _, rfl⟩) ?_
      refine OpsOk.cons _ _ (OpOk.run _ _ PutF.keep BelC.keep fun b v hs hc hg => by
          obtain ⟨A3, c3, e3, h3⟩ : PutF (XB (XV X w.heap.size 3) (.slice A1 n c1)) Ab cb l d A1 n c1 g2 3 (b.tmps.getD 20 undef) v := dep hg 0 rfl rfl rfl rfl
          exact ⟨rfl, _, _, exec_buildR rfl e3 (dep hg 1 rfl rfl rfl rfl), .refl _ _, A3, c3, rfl, h3⟩) ?_
      refine OpsOk.cons _ _ (OpOk.run _ _ PutF.keep BelC.keep fun b v hs hc hg => by
          obtain ⟨A3, c3, e3, h3⟩ : PutF (XB (XV X w.heap.size 3) (.slice A1 n c1)) Ab cb l d A1 n c1 g2 5 (b.tmps.getD 22 undef) v := dep hg 0 rfl rfl rfl rfl
          exact ⟨rfl, _, _, exec_listR (p := ⟨⟨A3, c3, l⟩, d⟩) rfl e3, below_new _ _, ⟨⟨A3, c3, l⟩, d⟩, rfl, rfl, h3.below (below_new _ _), _, rfl, psNew_reads _ _ _⟩) ?_
      exact OpsOk.nil _ _

    obtain ⟨v, j2, j1, hbc, ps', hps', hownc⟩ := hcut
    obtain ⟨A3, c3, rfl, hc3, _⟩ := hownc.reads HXV.out
    have c1' := box_cell j1
    have z1' := box_frozen j1
    have c2' := box_cell j2
    have Hj1 := Lib.hid j1
    have Hps := Lib.hid hps'
    have Hbc := Lib.hid hbc
    have Hoc := Lib.hid hownc
    clear j1 j2 hps' hbc hownc hc3
    go_wp2
    have r1 := box_set (.slice A3 ps'.length c3) Hj1.out
    refine ret_file2 rfl rfl r1 rfl ?_
    have ht3 : Touch (fun k => k = g1) wc (wc.setCell ⟨g1, 0, none⟩ (.slice A3 ps'.length c3)) := Touch.cell1 _ _ _ _
    refine ⟨_, rfl, Hbc.out.trans (ht3.below Hbc.out.size (fun b hb => by rw [hb, ← h1.out]; omega)), ?_⟩
    have hf := (Hoc.out.touch HXV.out (ht3.mono fun b _ e => by rw [e]; exact hX1.out)).file (m := says ps ++ fullM [(l, d)]) HXV.out (by rw [fullM_one Hl0.out]; exact Hps.out)
    exact hf.mono fun b _ hb => Or.inl hb
end Go.Proofs.YtbhmnmmockmibaaGreat
