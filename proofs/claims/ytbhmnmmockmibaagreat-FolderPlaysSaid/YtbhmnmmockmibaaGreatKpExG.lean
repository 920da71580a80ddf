/- The walks of the reference's Of, Append and Sync. Conditions: files of at most 990 parts of 100000 bytes. -/
import Derived.Test.YtbhmnmmockmibaaGreatKpExF
namespace Go.Proofs.YtbhmnmmockmibaaGreat
open Go.RowKit
theorem wp_last {P : Program} {co : Code} {id : Nat} {K : Act → World → Prop} {Q' : Exit → Act → World → Prop} {a : Act} {w : World} (h : co.wp P (Exit.then K (Exit.inBlock id (Exit.then K Q'))) a w) : co.wp P (Exit.inBlock id (Exit.then K Q')) a w :=
  wp_mono h (fun e a w h => by cases e <;> exact h)
theorem putX {W w : World} {X : Nat → Prop} {v : Value} {m : List Pt} {Ab : Option Addr} {cb B : Nat} {l : List UInt8} {d : Bool} (hX : ∀ b, X b → b < W.heap.size) (hm : SmM m) (hl : l.length ≤ 100000) (hv : FileV W X v m) (hB : B ≤ W.heap.size) (hb : RdB W B Ab l) (hc : Below W.heap.size W w) :
    Calls Tryz.prog 103 #[.agg #[v], .slice Ab l.length cb, .bool d] w fun e w' => ∃ u, e = .returned u ∧ Below w.heap.size w w' ∧ ∃ v', u = .agg #[v'] ∧ FileV w' X v' (m ++ fullM [(l, d)]) := by
  obtain ⟨A, c, ps, rfl, hc', hp, rfl⟩ := hv
  refine (put_any (fun b hb => Nat.lt_of_lt_of_le (hX b hb) hc.size) hm hl (hp.below hc) (Nat.le_trans hB hc.size) (Reads.below hb (hc.mono hB))).mono ?_
  rintro e w' ⟨v, rfl, hb', hf⟩
  exact ⟨_, rfl, hb', v, rfl, hf⟩
structure Out (g : Nat) (X : Nat → Prop) (W w : World) (m : List Pt) : Prop where
  v : ∃ v, w.heap[g]? = some (.cells #[v] 137 (0, 0)) ∧ FileV w X v m
  touch : Touch (fun k => k = g) W w
theorem Out.set {g : Nat} {X : Nat → Prop} {W w w' : World} {m' : List Pt} {v v' : Value} (hx : X g) (h : Touch (fun k => k = g) W w) (hg : g < w.heap.size) (hc : Below w.heap.size w w') (hv : w.heap[g]? = some (.cells #[v] 137 (0, 0))) (hf : FileV w' X v' m') : Out g X W (w'.setCell ⟨g, 0, none⟩ v') m' :=
  ⟨⟨v', box_set _ ((hc.block g hg).trans hv), hf.keep ((Touch.cell1 _ _ _ _).mono fun b _ e => by rw [e]; exact hx)⟩, h.trans ((Touch.of hc).trans (Touch.cell1 _ _ _ _))⟩
def XW (W : World) : Nat → Prop := fun b => b < W.heap.size
def OfF (X : Nat → Prop) (m' : List Pt) (Av : Option Addr) (nv cv : Nat) (ad : Addr) (n c k : Nat) (Ar : Option Addr) (nr cr : Nat) : Nat → Value → World → Prop
  | 0, v, _ => v = .agg #[.slice Av nv cv]
  | 1, v, _ => v = .slice (some ad) n c
  | 2, v, _ => v = .int .i64 (k : Int)
  | 3, v, _ => v = .pointer (some (ad.add k))
  | 4, v, _ => v = .slice Ar nr cr
  | 5, v, w => ∃ v', v = .agg #[v'] ∧ FileV w X v' m'
  | _, _, _ => True
theorem OfF.keep {X : Nat → Prop} {m' : List Pt} {Av : Option Addr} {nv cv : Nat} {ad : Addr} {n c k : Nat} {Ar : Option Addr} {nr cr : Nat} (j : Nat) (u : Value) (w w' : World) (hb : Below w.heap.size w w') (hfact : OfF X m' Av nv cv ad n c k Ar nr cr j u w) : OfF X m' Av nv cv ad n c k Ar nr cr j u w' :=
  match j, hfact with
  | 0, h => h
  | 1, h => h
  | 2, h => h
  | 3, h => h
  | 4, h => h
  | 5, h => by obtain ⟨v', e, h⟩ := h; exact ⟨v', e, h.below hb⟩
  | _ + 6, h => h
theorem syncM_append (a b : List Pt) : syncM (a ++ b) = syncM a ++ syncM b := by simp [syncM, fullM_append]
theorem syncM_snoc (m : List Pt) (l : List UInt8) (d : Bool) : syncM (m ++ [(l, d)]) = syncM m ++ fullM [(l, true)] := by
  rw [syncM_append]
  congr 1
  unfold syncM
  by_cases h : l = []
  · rw [fullM_none h, fullM_none h]; rfl
  · rw [fullM_one h, fullM_one h]; rfl
theorem SmM.sync {m : List Pt} (h : SmM m) : SmM (syncM m) := by
  have hf := h.full
  refine ⟨by unfold syncM; rw [List.length_map]; exact hf.n, fun p hp => ?_⟩
  unfold syncM at hp
  rw [List.mem_map] at hp
  obtain ⟨q, hq, rfl⟩ := hp
  exact hf.l q hq
theorem SmM.take {m : List Pt} (h : SmM m) (k : Nat) : SmM (m.take k) := ⟨by rw [List.length_take]; have := h.n; omega, fun p hp => h.l p (List.mem_of_mem_take hp)⟩
def SyF (X : Nat → Prop) (m' : List Pt) (Av : Option Addr) (nv cv gb : Nat) (ad : Addr) (n c k : Nat) (Ar : Option Addr) (nr cr : Nat) : Nat → Value → World → Prop
  | 0, v, _ => v = .agg #[.slice Av nv cv]
  | 1, v, _ => v = .pointer (some ⟨gb, 0, none⟩)
  | 2, v, _ => v = .slice (some ad) n c
  | 3, v, _ => v = .int .i64 (k : Int)
  | 4, v, _ => v = .pointer (some (ad.add (k * 2)))
  | 5, v, _ => v = .pointer (some (ad.add (k * 2)))
  | 6, v, _ => v = .slice Ar nr cr
  | 7, v, w => ∃ v', v = .agg #[v'] ∧ FileV w X v' m'
  | _, _, _ => True
theorem SyF.keep {X : Nat → Prop} {m' : List Pt} {Av : Option Addr} {nv cv gb : Nat} {ad : Addr} {n c k : Nat} {Ar : Option Addr} {nr cr : Nat} (j : Nat) (u : Value) (w w' : World) (hb : Below w.heap.size w w') (hfact : SyF X m' Av nv cv gb ad n c k Ar nr cr j u w) : SyF X m' Av nv cv gb ad n c k Ar nr cr j u w' :=
  match j, hfact with
  | 0, h => h
  | 1, h => h
  | 2, h => h
  | 3, h => h
  | 4, h => h
  | 5, h => h
  | 6, h => h
  | 7, h => by obtain ⟨v', e, h⟩ := h; exact ⟨v', e, h.below hb⟩
  | _ + 8, h => h
set_option maxHeartbeats 2000000 in
set_option maxRecDepth 100000 in
theorem rsync_any {X : Nat → Prop} {A : Option Addr} {c : Nat} {ps : List Pa} {w : World} (hs : SmM (says ps)) (hr : PsX w X A ps) :
    Calls Tryz.prog 85 #[.agg #[.slice A ps.length c]] w fun e w' => ∃ v, e = .returned (.agg #[v]) ∧ Below w.heap.size w w' ∧ FileV w' (XW w) v (syncM (says ps)) := by
  have hlen : (ps.length : Int) ≤ 1000 := by have := hs.n; rw [says_len] at this; omega
  obtain ⟨gb, hb0⟩ : ∃ g, Hid (w.heap.size = g) := ⟨_, rfl⟩
  obtain ⟨g1, h1⟩ : ∃ g, Hid (w.heap.size + 1 = g) := ⟨_, rfl⟩
  obtain ⟨g2, h2⟩ : ∃ g, Hid (w.heap.size + 1 + 1 = g) := ⟨_, rfl⟩
  obtain ⟨W, hW⟩ : ∃ W, Hid (((w.alloc (.cells #[.slice A ps.length c] 137)).alloc (.cells #[.slice none 0 0] 137)).alloc (.cells #[.slice none 0 0] 137) = W) := ⟨_, rfl⟩
  have hbW : Hid (Below w.heap.size w W) := by rw [← hW.out]; exact ((below_new _ _).alloc (by simp) _).alloc (by simp; omega) _
  have hsW : Hid (W.heap.size = w.heap.size + 3) := by rw [← hW.out]; show _ = _; simp
  have fb : Hid (W.heap[gb]? = some (.cells #[.slice A ps.length c] 137 (0, 0))) := by
    rw [← hW.out, ← hb0.out]; show _ = _
    rw [heap_alloc_old _ _ (by simp; omega), heap_alloc_old _ _ (by simp)]
    exact heap_alloc_new _ _
  have f1 : Hid (W.heap[g1]? = some (.cells #[.slice none 0 0] 137 (0, 0))) := by
    rw [← hW.out, ← h1.out]; show _ = _
    rw [heap_alloc_old _ _ (by simp)]
    have := heap_alloc_new (w.alloc (.cells #[.slice A ps.length c] 137)) (.cells #[.slice none 0 0] 137)
    simpa using this
  have f2 : Hid (W.heap[g2]? = some (.cells #[.slice none 0 0] 137 (0, 0))) := by
    rw [← hW.out, ← h2.out]; show _ = _
    have := heap_alloc_new ((w.alloc (.cells #[.slice A ps.length c] 137)).alloc (.cells #[.slice none 0 0] 137)) (.cells #[.slice none 0 0] 137)
    simpa using this
  have gbl : Hid (gb < W.heap.size) := by rw [hsW.out, ← hb0.out]; show _ < _; omega
  have g1l : Hid (g1 < W.heap.size) := by rw [hsW.out, ← h1.out]; show _ < _; omega
  have g2l : Hid (g2 < W.heap.size) := by rw [hsW.out, ← h2.out]; show _ < _; omega
  have gb2 : Hid (gb ≠ g2) := by rw [← hb0.out, ← h2.out]; show _ ≠ _; omega
  have g12 : Hid (g1 ≠ g2) := by rw [← h1.out, ← h2.out]; show _ ≠ _; omega
  have g1w : Hid (w.heap.size ≤ g1) := by rw [← h1.out]; show _ ≤ _; omega
  have g2w : Hid (w.heap.size ≤ g2) := by rw [← h2.out]; show _ ≤ _; omega
  have hX2 : Hid (XV X w.heap.size 3 g2) := Or.inr (by rw [← h2.out]; exact ⟨by omega, by omega⟩)
  have hrW : Hid (PsX W (XV X w.heap.size 3) A ps) := hr.vars hbW.out 3
  have Hs := Lib.hid hs

  have hstart : Out g2 (XW W) W W (syncM (says (ps.take 0))) := ⟨⟨_, f2.out, FileV.nil _ _⟩, .refl _ _⟩
  clear hs hr
  go_enter Tryz.func85, Tryz.ntmps85
  go_upto_region 2 with fail
  rw [hW.out, h2.out, h1.out, hb0.out]
  go_wp2
  go_loopw [4] (fun i wr => ∃ k : Nat, k ≤ ps.length ∧ i = .int .i64 (k : Int) ∧ Out g2 (XW W) W wr (syncM (says (ps.take k)))) (fun i _ => ps.length - (intOf i).toNat)
  case atStart => exact ⟨0, by omega, rfl, hstart⟩
  case round =>
    clear hstart
    obtain ⟨k, hk, rfl, ⟨⟨v, hv, hf⟩, ht⟩⟩ := hrel
    have hbr : Below w.heap.size W wr := ht.below hbW.out.size (fun b hb => by rw [hb]; exact g2w.out)
    have cb := Lib.hid (box_cell ((ht.block gb gbl.out gb2.out).trans fb.out))
    by_cases hlt : k < ps.length
    · obtain ⟨ad, p, rfl, hab, _, hca, hcd, hx, hrow⟩ := (hrW.out.keep (ht.mono fun b _ e => by rw [e]; exact hX2.out)).at_ hlt
      obtain ⟨Av, cv, pv, rfl, hcv, _, _⟩ := id hf
      obtain ⟨nv, hnv⟩ : ∃ nv, Hid (pv.length = nv) := ⟨_, rfl⟩
      rw [hnv.out] at hv hf
      have hgl : Hid (g2 < wr.heap.size) := Nat.lt_of_lt_of_le g2l.out ht.size
      have hbl : Hid (gb < wr.heap.size) := Nat.lt_of_lt_of_le gbl.out ht.size
      have cg := Lib.hid (box_cell hv)
      have hadl : Hid ((ad.add (k * 2)).block < wr.heap.size) := by rw [block_of_add]; exact hab
      have ca := Lib.hid hca
      have cd := Lib.hid hcd
      have hkl := Lib.hid hlt
      have HXW : Hid (∀ b, XW W b → b < wr.heap.size) := fun b hb => Nat.lt_of_lt_of_le hb ht.size
      have Hm : Hid (SmM (syncM (says (ps.take k)))) := by rw [says_take]; exact (Hs.out.take k).sync
      have Hl := Lib.hid (Hs.out.at_ hx)
      have Hv := Lib.hid hf
      have Hrow := Lib.hid hrow.reads
      have Ht := Lib.hid ht
      have Hvv := Lib.hid hv
      obtain ⟨m', hm'⟩ : ∃ m', Hid (syncM (says (ps.take k)) ++ fullM [(p.r.l, true)] = m') := ⟨_, rfl⟩
      obtain ⟨nr, hnr⟩ : ∃ nr, Hid (p.r.l.length = nr) := ⟨_, rfl⟩
      have hput : ∀ w0, Below wr.heap.size wr w0 → Calls Tryz.prog 103 #[.agg #[.slice Av nv cv], .slice p.r.A nr p.r.c, .bool true] w0 fun e w' => ∃ u, e = .returned u ∧ Below w0.heap.size w0 w' ∧ ∃ v', u = .agg #[v'] ∧ FileV w' (XW W) v' m' := by
        intro w0 hc
        rw [← hnr.out, ← hm'.out]
        exact putX HXW.out Hm.out Hl.out Hv.out (Nat.le_refl _) Hrow.out hc
      have hcb := cb.out
      rw [hnr.out] at ca
      clear hv hf hca hcd hrow ht hbr
      go_upto_region 5 with fail
      refine wp_last ?_
      go_cut [] from 12 to 19 (fun wx => Out g2 (XW W) W wx m')
      case first =>
        rename_i J K1 hJ hK
        refine wp_region_tailP (n := 21) (m := 8) (SyF (XW W) m' Av nv cv gb ad ps.length c k p.r.A nr p.r.c) (BelC wr) (by kernel_rfl) (by kernel_rfl) rfl rfl (by decide) (by kernel_rfl) (by kernel_rfl) ?_ ?_ ?_
        · exact (Below.refl _ _).drew
        rotate_left
        · intro b' w' hsz hd hs hc hall
          obtain ⟨v', e5, hf5⟩ : SyF (XW W) m' Av nv cv gb ad ps.length c k p.r.A nr p.r.c 7 (b'.tmps.getD 19 undef) w' := hall 7 _ _ (by decide) rfl rfl
          have e3 : b'.tmps.getD 3 undef = .pointer (some ⟨g2, 0, none⟩) := hs 3 (by kernel_rfl)
          obtain ⟨A5, c5, p5, rfl, _, _, _⟩ := id hf5
          refine wpList_storeF (.tmp 3) (.tmp 19) rfl rfl e3 e5 ((hc.block g2 hgl.out).trans Hvv.out) ?_
          refine hK _ _ (Met.intro (hJ _ _ ?_))
          exact ⟨b'.tmps.getD 12 undef, b'.tmps.getD 13 undef, b'.tmps.getD 14 undef, b'.tmps.getD 15 undef, b'.tmps.getD 16 undef, b'.tmps.getD 17 undef, b'.tmps.getD 18 undef, b'.tmps.getD 19 undef, Out.set g2l.out Ht.out hgl.out hc Hvv.out hf5, (act_known hsz hd hs).trans (by kernel_rfl)⟩
        refine OpsOk.cons _ _ (OpOk.run _ _ SyF.keep BelC.keep fun b v hs hc hg => ⟨rfl, _, _, exec_loadFile rfl (hs 3 (by kernel_rfl)) ((hc.cell (p := ⟨g2, 0, none⟩) hgl.out).trans cg.out), .refl _ _, rfl⟩) ?_
        refine OpsOk.cons _ _ (OpOk.run _ _ SyF.keep BelC.keep fun b v hs hc hg => ⟨rfl, _, _, exec_fieldF rfl (hs 1 (by kernel_rfl)), .refl _ _, rfl⟩) ?_
        refine OpsOk.cons _ _ (OpOk.run _ _ SyF.keep BelC.keep fun b v hs hc hg => ⟨rfl, _, _, exec_loadRs rfl (dep hg 0 rfl rfl rfl rfl) ((hc.cell (p := ⟨gb, 0, none⟩) hbl.out).trans cb.out), .refl _ _, rfl⟩) ?_
        refine OpsOk.cons _ _ (OpOk.run _ _ SyF.keep BelC.keep fun b v hs hc hg => ⟨rfl, _, _, exec_move rfl (hs 4 (by kernel_rfl)), .refl _ _, rfl⟩) ?_
        refine OpsOk.cons _ _ (OpOk.run _ _ SyF.keep BelC.keep fun b v hs hc hg => ⟨rfl, _, _, exec_atR (k := k) rfl (dep hg 0 rfl rfl rfl rfl) (dep hg 1 rfl rfl rfl rfl) hkl.out, .refl _ _, rfl⟩) ?_
        refine OpsOk.cons _ _ (OpOk.run _ _ SyF.keep BelC.keep fun b v hs hc hg => ⟨rfl, _, _, exec_fieldR0 rfl (dep hg 0 rfl rfl rfl rfl), .refl _ _, rfl⟩) ?_
        refine OpsOk.cons _ _ (OpOk.run _ _ SyF.keep BelC.keep fun b v hs hc hg => ⟨rfl, _, _, exec_loadB rfl (dep hg 0 rfl rfl rfl rfl) ((hc.cell (p := ad.add (k * 2)) hadl.out).trans ca.out), .refl _ _, rfl⟩) ?_
        refine OpsOk.cons _ _ (OpOk.call _ _ SyF.keep BelC.keep fun b v hs hc hg => ⟨rfl, _, _, exec_call3 (enter_put _) rfl (dep hg 0 rfl rfl rfl rfl) (dep hg 1 rfl rfl rfl rfl) rfl, hput _ hc⟩) ?_
        exact OpsOk.nil _ _

      have Hc := Lib.hid hcut
      clear hcut hcb
      go_wp2
      go_roundw
      case rel => exact ⟨k + 1, by omega, by go_num, by rw [says_snoc hx, syncM_snoc, hm'.out]; exact Hc.out⟩
      case measure => simp [intOf]; omega
    · obtain rfl : k = ps.length := by omega
      rw [List.take_length] at hf
      have hcb := cb.out
      have j0 := (ht.block g1 g1l.out g12.out).trans f1.out
      obtain ⟨Av, cv, pv, rfl, hcv, _, _⟩ := id hf
      have c1' := box_cell hv
      have c0' := box_cell j0
      have z0' := box_frozen j0
      have J0 := Lib.hid j0
      have Hf := Lib.hid hf
      have Hbr := Lib.hid hbr
      clear hv j0 hf ht hcv hbr
      go_wp2
      refine ret_file2 rfl rfl (box_set _ J0.out) rfl ?_
      have ht3 : Touch (fun k => k = g1) wr (wr.setCell ⟨g1, 0, none⟩ (.slice Av pv.length cv)) := Touch.cell1 _ _ _ _
      exact ⟨_, rfl, hbW.out.trans (Hbr.out.trans (ht3.below (Nat.le_trans hbW.out.size Hbr.out.size) fun b hb => by rw [hb]; exact g1w.out)), (Hf.out.keep (ht3.mono fun b _ e => by rw [e]; exact g1l.out)).mono fun b _ hb => Nat.lt_of_lt_of_le hb hbW.out.size⟩
def ApF (X : Nat → Prop) (m' : List Pt) (Av : Option Addr) (nv cv gb : Nat) (ad : Addr) (n c k : Nat) (Ar : Option Addr) (nr cr : Nat) (d : Bool) : Nat → Value → World → Prop
  | 0, v, _ => v = .agg #[.slice Av nv cv]
  | 1, v, _ => v = .pointer (some ⟨gb, 0, none⟩)
  | 2, v, _ => v = .slice (some ad) n c
  | 3, v, _ => v = .int .i64 (k : Int)
  | 4, v, _ => v = .pointer (some (ad.add (k * 2)))
  | 5, v, _ => v = .pointer (some (ad.add (k * 2)))
  | 6, v, _ => v = .slice Ar nr cr
  | 7, v, _ => v = .pointer (some ⟨gb, 0, none⟩)
  | 8, v, _ => v = .slice (some ad) n c
  | 9, v, _ => v = .int .i64 (k : Int)
  | 10, v, _ => v = .pointer (some (ad.add (k * 2)))
  | 11, v, _ => v = .pointer (some ⟨((ad.add (k * 2))).block, ((ad.add (k * 2))).off + 1, none⟩)
  | 12, v, _ => v = .bool d
  | 13, v, w => ∃ v', v = .agg #[v'] ∧ FileV w X v' m'
  | _, _, _ => True
theorem ApF.keep {X : Nat → Prop} {m' : List Pt} {Av : Option Addr} {nv cv gb : Nat} {ad : Addr} {n c k : Nat} {Ar : Option Addr} {nr cr : Nat} {d : Bool} (j : Nat) (u : Value) (w w' : World) (hb : Below w.heap.size w w') (hfact : ApF X m' Av nv cv gb ad n c k Ar nr cr d j u w) : ApF X m' Av nv cv gb ad n c k Ar nr cr d j u w' :=
  match j, hfact with
  | 0, h => h
  | 1, h => h
  | 2, h => h
  | 3, h => h
  | 4, h => h
  | 5, h => h
  | 6, h => h
  | 7, h => h
  | 8, h => h
  | 9, h => h
  | 10, h => h
  | 11, h => h
  | 12, h => h
  | 13, h => by obtain ⟨v', e, h⟩ := h; exact ⟨v', e, h.below hb⟩
  | _ + 14, h => h
set_option maxHeartbeats 2000000 in
set_option maxRecDepth 100000 in
theorem rapp_any {X : Nat → Prop} {A Ab : Option Addr} {c cb0 B : Nat} {ps : List Pa} {l : List UInt8} {w : World} (hs : SmM (says ps)) (hr : PsX w X A ps) (hl0 : l.length ≤ 100000) (hB : B ≤ w.heap.size) (hb : RdB w B Ab l) :
    Calls Tryz.prog 83 #[.agg #[.slice A ps.length c], .slice Ab l.length cb0] w fun e w' => ∃ v, e = .returned (.agg #[v]) ∧ Below w.heap.size w w' ∧ FileV w' (XW w) v (appM (says ps) l) := by
  have hlen : (ps.length : Int) ≤ 1000 := by have := hs.n; rw [says_len] at this; omega
  obtain ⟨gb, hb0⟩ : ∃ g, Hid (w.heap.size = g) := ⟨_, rfl⟩
  obtain ⟨g1, h1⟩ : ∃ g, Hid (w.heap.size + 1 = g) := ⟨_, rfl⟩
  obtain ⟨g2, h2⟩ : ∃ g, Hid (w.heap.size + 1 + 1 = g) := ⟨_, rfl⟩
  obtain ⟨W, hW⟩ : ∃ W, Hid (((w.alloc (.cells #[.slice A ps.length c] 137)).alloc (.cells #[.slice none 0 0] 137)).alloc (.cells #[.slice none 0 0] 137) = W) := ⟨_, rfl⟩
  have hbW : Hid (Below w.heap.size w W) := by rw [← hW.out]; exact ((below_new _ _).alloc (by simp) _).alloc (by simp; omega) _
  have hsW : Hid (W.heap.size = w.heap.size + 3) := by rw [← hW.out]; show _ = _; simp
  have fb : Hid (W.heap[gb]? = some (.cells #[.slice A ps.length c] 137 (0, 0))) := by
    rw [← hW.out, ← hb0.out]; show _ = _
    rw [heap_alloc_old _ _ (by simp; omega), heap_alloc_old _ _ (by simp)]
    exact heap_alloc_new _ _
  have f1 : Hid (W.heap[g1]? = some (.cells #[.slice none 0 0] 137 (0, 0))) := by
    rw [← hW.out, ← h1.out]; show _ = _
    rw [heap_alloc_old _ _ (by simp)]
    have := heap_alloc_new (w.alloc (.cells #[.slice A ps.length c] 137)) (.cells #[.slice none 0 0] 137)
    simpa using this
  have f2 : Hid (W.heap[g2]? = some (.cells #[.slice none 0 0] 137 (0, 0))) := by
    rw [← hW.out, ← h2.out]; show _ = _
    have := heap_alloc_new ((w.alloc (.cells #[.slice A ps.length c] 137)).alloc (.cells #[.slice none 0 0] 137)) (.cells #[.slice none 0 0] 137)
    simpa using this
  have gbl : Hid (gb < W.heap.size) := by rw [hsW.out, ← hb0.out]; show _ < _; omega
  have g1l : Hid (g1 < W.heap.size) := by rw [hsW.out, ← h1.out]; show _ < _; omega
  have g2l : Hid (g2 < W.heap.size) := by rw [hsW.out, ← h2.out]; show _ < _; omega
  have gb2 : Hid (gb ≠ g2) := by rw [← hb0.out, ← h2.out]; show _ ≠ _; omega
  have g12 : Hid (g1 ≠ g2) := by rw [← h1.out, ← h2.out]; show _ ≠ _; omega
  have g1w : Hid (w.heap.size ≤ g1) := by rw [← h1.out]; show _ ≤ _; omega
  have g2w : Hid (w.heap.size ≤ g2) := by rw [← h2.out]; show _ ≤ _; omega
  have hX2 : Hid (XV X w.heap.size 3 g2) := Or.inr (by rw [← h2.out]; exact ⟨by omega, by omega⟩)
  have hrW : Hid (PsX W (XV X w.heap.size 3) A ps) := hr.vars hbW.out 3
  have Hs := Lib.hid hs
  have Hl0 := Lib.hid hl0
  have hB0 := Lib.hid hB
  have hb0' : Hid (RdB W B Ab l) := Reads.below hb (hbW.out.mono hB)
  clear hl0 hB hb
  have hstart : Out g2 (XW W) W W (fullM (says (ps.take 0))) := ⟨⟨_, f2.out, FileV.nil _ _⟩, .refl _ _⟩
  clear hs hr
  go_enter Tryz.func83, Tryz.ntmps83
  go_upto_region 2 with fail
  rw [hW.out, h2.out, h1.out, hb0.out]
  go_wp2
  go_loopw [6] (fun i wr => ∃ k : Nat, k ≤ ps.length ∧ i = .int .i64 (k : Int) ∧ Out g2 (XW W) W wr (fullM (says (ps.take k)))) (fun i _ => ps.length - (intOf i).toNat)
  case atStart => exact ⟨0, by omega, rfl, hstart⟩
  case round =>
    clear hstart
    obtain ⟨k, hk, rfl, ⟨⟨v, hv, hf⟩, ht⟩⟩ := hrel
    have hbr : Below w.heap.size W wr := ht.below hbW.out.size (fun b hb => by rw [hb]; exact g2w.out)
    have cb := Lib.hid (box_cell ((ht.block gb gbl.out gb2.out).trans fb.out))
    by_cases hlt : k < ps.length
    · obtain ⟨ad, p, rfl, hab, _, hca, hcd, hx, hrow⟩ := (hrW.out.keep (ht.mono fun b _ e => by rw [e]; exact hX2.out)).at_ hlt
      obtain ⟨Av, cv, pv, rfl, hcv, _, _⟩ := id hf
      obtain ⟨nv, hnv⟩ : ∃ nv, Hid (pv.length = nv) := ⟨_, rfl⟩
      rw [hnv.out] at hv hf
      have hgl : Hid (g2 < wr.heap.size) := Nat.lt_of_lt_of_le g2l.out ht.size
      have hbl : Hid (gb < wr.heap.size) := Nat.lt_of_lt_of_le gbl.out ht.size
      have cg := Lib.hid (box_cell hv)
      have hadl : Hid ((ad.add (k * 2)).block < wr.heap.size) := by rw [block_of_add]; exact hab
      have ca := Lib.hid hca
      have cd := Lib.hid hcd
      have hkl := Lib.hid hlt
      have HXW : Hid (∀ b, XW W b → b < wr.heap.size) := fun b hb => Nat.lt_of_lt_of_le hb ht.size
      have Hm : Hid (SmM (fullM (says (ps.take k)))) := by rw [says_take]; exact (Hs.out.take k).full
      have Hl := Lib.hid (Hs.out.at_ hx)
      have Hv := Lib.hid hf
      have Hrow := Lib.hid hrow.reads
      have Ht := Lib.hid ht
      have Hvv := Lib.hid hv
      obtain ⟨m', hm'⟩ : ∃ m', Hid (fullM (says (ps.take k)) ++ fullM [(p.r.l, p.d)] = m') := ⟨_, rfl⟩
      obtain ⟨nr, hnr⟩ : ∃ nr, Hid (p.r.l.length = nr) := ⟨_, rfl⟩
      have hput : ∀ w0, Below wr.heap.size wr w0 → Calls Tryz.prog 103 #[.agg #[.slice Av nv cv], .slice p.r.A nr p.r.c, .bool p.d] w0 fun e w' => ∃ u, e = .returned u ∧ Below w0.heap.size w0 w' ∧ ∃ v', u = .agg #[v'] ∧ FileV w' (XW W) v' m' := by
        intro w0 hc
        rw [← hnr.out, ← hm'.out]
        exact putX HXW.out Hm.out Hl.out Hv.out (Nat.le_refl _) Hrow.out hc
      have hcb := cb.out
      rw [hnr.out] at ca
      clear hv hf hca hcd hrow ht hbr
      go_upto_region 5 with fail
      refine wp_last ?_
      go_cut [] from 14 to 27 (fun wx => Out g2 (XW W) W wx m')
      case first =>
        rename_i J K1 hJ hK
        refine wp_region_tailP (n := 31) (m := 14) (ApF (XW W) m' Av nv cv gb ad ps.length c k p.r.A nr p.r.c p.d) (BelC wr) (by kernel_rfl) (by kernel_rfl) rfl rfl (by decide) (by kernel_rfl) (by kernel_rfl) ?_ ?_ ?_
        · exact (Below.refl _ _).drew
        rotate_left
        · intro b' w' hsz hd hs hc hall
          obtain ⟨v', e5, hf5⟩ : ApF (XW W) m' Av nv cv gb ad ps.length c k p.r.A nr p.r.c p.d 13 (b'.tmps.getD 27 undef) w' := hall 13 _ _ (by decide) rfl rfl
          have e3 : b'.tmps.getD 5 undef = .pointer (some ⟨g2, 0, none⟩) := hs 5 (by kernel_rfl)
          obtain ⟨A5, c5, p5, rfl, _, _, _⟩ := id hf5
          refine wpList_storeF (.tmp 5) (.tmp 27) rfl rfl e3 e5 ((hc.block g2 hgl.out).trans Hvv.out) ?_
          refine hK _ _ (Met.intro (hJ _ _ ?_))
          exact ⟨b'.tmps.getD 14 undef, b'.tmps.getD 15 undef, b'.tmps.getD 16 undef, b'.tmps.getD 17 undef, b'.tmps.getD 18 undef, b'.tmps.getD 19 undef, b'.tmps.getD 20 undef, b'.tmps.getD 21 undef, b'.tmps.getD 22 undef, b'.tmps.getD 23 undef, b'.tmps.getD 24 undef, b'.tmps.getD 25 undef, b'.tmps.getD 26 undef, b'.tmps.getD 27 undef, Out.set g2l.out Ht.out hgl.out hc Hvv.out hf5, (act_known hsz hd hs).trans (by kernel_rfl)⟩
        refine OpsOk.cons _ _ (OpOk.run _ _ ApF.keep BelC.keep fun b v hs hc hg => ⟨rfl, _, _, exec_loadFile rfl (hs 5 (by kernel_rfl)) ((hc.cell (p := ⟨g2, 0, none⟩) hgl.out).trans cg.out), .refl _ _, rfl⟩) ?_
        refine OpsOk.cons _ _ (OpOk.run _ _ ApF.keep BelC.keep fun b v hs hc hg => ⟨rfl, _, _, exec_fieldF rfl (hs 2 (by kernel_rfl)), .refl _ _, rfl⟩) ?_
        refine OpsOk.cons _ _ (OpOk.run _ _ ApF.keep BelC.keep fun b v hs hc hg => ⟨rfl, _, _, exec_loadRs rfl (dep hg 0 rfl rfl rfl rfl) ((hc.cell (p := ⟨gb, 0, none⟩) hbl.out).trans cb.out), .refl _ _, rfl⟩) ?_
        refine OpsOk.cons _ _ (OpOk.run _ _ ApF.keep BelC.keep fun b v hs hc hg => ⟨rfl, _, _, exec_move rfl (hs 6 (by kernel_rfl)), .refl _ _, rfl⟩) ?_
        refine OpsOk.cons _ _ (OpOk.run _ _ ApF.keep BelC.keep fun b v hs hc hg => ⟨rfl, _, _, exec_atR (k := k) rfl (dep hg 0 rfl rfl rfl rfl) (dep hg 1 rfl rfl rfl rfl) hkl.out, .refl _ _, rfl⟩) ?_
        refine OpsOk.cons _ _ (OpOk.run _ _ ApF.keep BelC.keep fun b v hs hc hg => ⟨rfl, _, _, exec_fieldR0 rfl (dep hg 0 rfl rfl rfl rfl), .refl _ _, rfl⟩) ?_
        refine OpsOk.cons _ _ (OpOk.run _ _ ApF.keep BelC.keep fun b v hs hc hg => ⟨rfl, _, _, exec_loadB rfl (dep hg 0 rfl rfl rfl rfl) ((hc.cell (p := ad.add (k * 2)) hadl.out).trans ca.out), .refl _ _, rfl⟩) ?_
        refine OpsOk.cons _ _ (OpOk.run _ _ ApF.keep BelC.keep fun b v hs hc hg => ⟨rfl, _, _, exec_fieldF rfl (hs 2 (by kernel_rfl)), .refl _ _, rfl⟩) ?_
        refine OpsOk.cons _ _ (OpOk.run _ _ ApF.keep BelC.keep fun b v hs hc hg => ⟨rfl, _, _, exec_loadRs rfl (dep hg 0 rfl rfl rfl rfl) ((hc.cell (p := ⟨gb, 0, none⟩) hbl.out).trans cb.out), .refl _ _, rfl⟩) ?_
        refine OpsOk.cons _ _ (OpOk.run _ _ ApF.keep BelC.keep fun b v hs hc hg => ⟨rfl, _, _, exec_move rfl (hs 6 (by kernel_rfl)), .refl _ _, rfl⟩) ?_
        refine OpsOk.cons _ _ (OpOk.run _ _ ApF.keep BelC.keep fun b v hs hc hg => ⟨rfl, _, _, exec_atR (k := k) rfl (dep hg 0 rfl rfl rfl rfl) (dep hg 1 rfl rfl rfl rfl) hkl.out, .refl _ _, rfl⟩) ?_
        refine OpsOk.cons _ _ (OpOk.run _ _ ApF.keep BelC.keep fun b v hs hc hg => ⟨rfl, _, _, exec_fieldR1 rfl (dep hg 0 rfl rfl rfl rfl), .refl _ _, rfl⟩) ?_
        refine OpsOk.cons _ _ (OpOk.run _ _ ApF.keep BelC.keep fun b v hs hc hg => ⟨rfl, _, _, exec_loadT rfl (dep hg 0 rfl rfl rfl rfl) ((hc.cell (p := ⟨(ad.add (k * 2)).block, (ad.add (k * 2)).off + 1, none⟩) hadl.out).trans cd.out), .refl _ _, rfl⟩) ?_
        refine OpsOk.cons _ _ (OpOk.call _ _ ApF.keep BelC.keep fun b v hs hc hg => ⟨rfl, _, _, exec_call3 (enter_put _) rfl (dep hg 0 rfl rfl rfl rfl) (dep hg 1 rfl rfl rfl rfl) (dep hg 2 rfl rfl rfl rfl), hput _ hc⟩) ?_
        exact OpsOk.nil _ _

      have Hc := Lib.hid hcut
      clear hcut hcb
      go_wp2
      go_roundw
      case rel => exact ⟨k + 1, by omega, by go_num, by rw [says_snoc hx, fullM_append, hm'.out]; exact Hc.out⟩
      case measure => simp [intOf]; omega
    · obtain rfl : k = ps.length := by omega
      rw [List.take_length] at hf
      have hcb := cb.out
      have j0 := (ht.block g1 g1l.out g12.out).trans f1.out
      obtain ⟨Av, cv, pv, rfl, hcv, _, _⟩ := id hf
      obtain ⟨nv, hnv⟩ : ∃ nv, Hid (pv.length = nv) := ⟨_, rfl⟩
      rw [hnv.out] at hv hf
      have c1' := box_cell hv
      have J0 := Lib.hid j0
      have Hf := Lib.hid hf
      have Hbr := Lib.hid hbr
      have Hts := Lib.hid ht.size
      have hput := putX (cb := cb0) (d := false) (w := wr) (fun b hb => Nat.lt_of_lt_of_le (show b < W.heap.size from hb) ht.size) Hs.out.full Hl0.out hf (Nat.le_trans hB0.out (Nat.le_trans hbW.out.size ht.size)) (Reads.below hb0'.out (hbr.mono hB0.out)) (Below.refl _ _)
      have Hput := Lib.hid hput
      clear hput hv j0 hf ht hcv hbr
      go_wp2_with fail
      refine Hput.out.mono ?_
      rintro e w2 ⟨u, rfl, hb2, v2, rfl, hf2⟩
      obtain ⟨A2, c2, p2, rfl, _, _, _⟩ := id hf2
      have j1 := (hb2.block g1 (Nat.lt_of_lt_of_le g1l.out Hts.out)).trans J0.out
      have c0' := box_cell j1
      have z0' := box_frozen j1
      have J1 := Lib.hid j1
      have Hf2 := Lib.hid hf2
      have Hb2 := Lib.hid hb2
      clear j1 hf2 hb2
      go_wp2
      refine ret_file2 rfl rfl (box_set _ J1.out) rfl ?_
      have ht3 : Touch (fun k => k = g1) w2 (w2.setCell ⟨g1, 0, none⟩ (.slice A2 p2.length c2)) := Touch.cell1 _ _ _ _
      have hww := Hbr.out.trans (Hb2.out.mono (Nat.le_trans hbW.out.size Hts.out))
      exact ⟨_, rfl, hbW.out.trans (hww.trans (ht3.below (Nat.le_trans hbW.out.size (Nat.le_trans Hts.out Hb2.out.size)) fun b hb => by rw [hb]; exact g1w.out)), by rw [appM, fullM_append]; exact (Hf2.out.keep (ht3.mono fun b _ e => by rw [e]; exact g1l.out)).mono fun b _ hb => Nat.lt_of_lt_of_le hb hbW.out.size⟩
end Go.Proofs.YtbhmnmmockmibaaGreat
