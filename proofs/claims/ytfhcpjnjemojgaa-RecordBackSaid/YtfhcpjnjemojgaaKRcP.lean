/- The walk of Parse. Conditions: at most 2^19 bytes. -/
import Derived.Test.YtfhcpjnjemojgaaKRcO
namespace Go.Proofs.Ytfhcpjnjemojgaa
open Go.RowKit

theorem oneF_len {b : List UInt8} : (oneF b).1.2.length ≤ 65535 := by
  unfold oneF
  split
  · simp
  · rename_i h
    split
    · simp
    · have h0 : (takeF b 0).2.2 = 0 := by omega
      obtain ⟨_, _, _, _, h1, _⟩ := takeF_ok h0
      exact h1
set_option maxHeartbeats 8000000 in
set_option maxRecDepth 100000 in
theorem parse_any (A0 : Option Addr) (c0 B : Nat) (b : List UInt8) (w : World) (hl : b.length ≤ 1000000) (hcap : b.length ≤ c0) (hB : B ≤ w.heap.size) (hr : RdB w B A0 b) :
    Calls Try.prog 18 #[.slice A0 b.length c0] w fun e w' => e = .returned (.tuple #[(parseM b).1.v, .int .i64 ((parseM b).2 : Nat)]) ∧ Below w.heap.size w w' := by
  obtain ⟨W0, hW0⟩ : ∃ W0, Hid (W0 = w.alloc (.cells (Rc.zero 0).cells.toArray 24)) := ⟨_, rfl⟩
  have hb0 := Lib.hid (show Below w.heap.size w W0 by rw [hW0.out]; exact below_new _ _)
  have hx0 := Lib.hid (show RecAt (Rc.zero 0) W0 w.heap.size by rw [hW0.out]; exact recAt_new _ w)
  have hsz0 := Lib.hid (show W0.heap.size = w.heap.size + 1 by rw [hW0.out]; simp)
  have HW0 := Lib.hid (show w.alloc (.cells #[.int .u8 0, .int .u64 0, .int .u64 0, .int .u64 0, .int .u64 0, .int .u64 0, .int .u64 0, .int .u64 0, .int .u64 0, .int .u64 0, .string ⟨#[]⟩, .string ⟨#[]⟩] 24) = W0 from hW0.out.symm)
  have hr0 : RdB W0 B A0 b := hr.below (hb0.out.mono hB)
  obtain ⟨f, E, hone⟩ : ∃ f E, oneF b = (f, E) := ⟨_, _, rfl⟩
  obtain ⟨fk, fl⟩ := f
  have hcall := frOne_any A0 c0 B b W0 (by omega) hcap (by rw [hsz0.out]; omega) hr0
  rw [hone] at hcall
  have Hcall := Lib.hid hcall
  have Hone := Lib.hid hone
  clear hr hr0 hcall hone hl hcap hB
  go_enter Try.func18, Try.ntmps18
  go_upto_region 1 with fail
  rw [HW0.out]
  by_cases hE : E = 0
  rotate_left
  · have hE1 : ((E : Int) != 0) = true := by rw [bne_iff_ne]; omega
    have hE2 : (E != 0) = true := by rw [bne_iff_ne]; exact hE
    go_wp2_with (first
      | (go_at_call 35; refine Hcall.out.mono ?_; rintro e w1 ⟨⟨v, rfl, hown⟩, hb1⟩; obtain ⟨A2, c2, rfl, _, _, _⟩ := own_form hown; simp only; have hg := (hx0.out.below hb1 hx0.out.lt).alloc (.cells #[.int .u8 (fk.toNat : Int), .slice A2 fl.length c2] 69))
      | (refine wpList_storeRec (x := Rc.zero 0) (.tmp 2) (.tmp 17) rfl rfl rfl rfl hg ?_; intro w3 hx3 hb3))
    refine ret_rec rfl w.heap.size (Rc.zero 0) rfl hx3 rfl ⟨by rw [parseM_one Hone.out hE]; rfl, ?_⟩
    exact ((hb0.out.trans (hb1.mono (by rw [hsz0.out]; omega))).alloc (Nat.le_trans hb0.out.size hb1.size) _).trans (hb3 _ (Nat.le_refl _))
  subst hE
  go_upto_region 4 with (go_at_call 35; refine Hcall.out.mono ?_; rintro e w1 ⟨⟨v, rfl, hown⟩, hb1⟩; obtain ⟨A2, c2, rfl, hcap2, _, hr2⟩ := own_form hown; simp only)
  obtain ⟨n, hn⟩ : ∃ n, Hid (n = fl.length) := ⟨_, rfl⟩
  rw [← hn.out]
  obtain ⟨kk, hkk⟩ : ∃ kk, Hid (kk = fk.toNat) := ⟨_, rfl⟩
  rw [← hkk.out]
  have hk256 : kk < 256 := by rw [hkk.out]; exact fk.toNat_lt
  obtain ⟨W2, hW2⟩ : ∃ W2, Hid (W2 = w1.alloc (.cells #[.int .u8 (kk : Int), .slice A2 n c2] 69)) := ⟨_, rfl⟩
  rw [← hW2.out]
  obtain ⟨q0, hq0⟩ : ∃ q0, Hid (q0 = w1.heap.size) := ⟨_, rfl⟩
  have hfr : W2.heap[q0]? = some (.cells #[.int .u8 (kk : Int), .slice A2 n c2] 69 (0, 0)) := by rw [hW2.out, hq0.out]; exact heap_alloc_new _ _
  have hb2 := Lib.hid (show Below w.heap.size w W2 by rw [hW2.out]; exact (hb0.out.trans (hb1.mono (by rw [hsz0.out]; omega))).alloc (Nat.le_trans hb0.out.size hb1.size) _)
  have hx2 := Lib.hid (show RecAt (Rc.zero 0) W2 w.heap.size by rw [hW2.out]; exact (hx0.out.below hb1 hx0.out.lt).alloc _)
  have hrd2 := Lib.hid (show RdB W2 q0 A2 fl by rw [hW2.out, hq0.out]; exact Reads.alloc hr2 (Nat.le_refl _) _)
  have hfrH := Lib.hid hfr
  have hqlt := Lib.hid (Array.getElem?_eq_some_iff.1 hfr).1
  have hr0q := Lib.hid (show w.heap.size < q0 by rw [hq0.out]; exact Nat.lt_of_lt_of_le hx0.out.lt hb1.size)
  have Hcap2 := Lib.hid hcap2
  have Hlen := Lib.hid (show fl.length ≤ 1000000000 from (by have := oneF_len (b := b); rw [Hone.out] at this; simp only at this; omega))
  rw [← hq0.out]
  clear hfr hcap2 hr2 hown hb1
  go_cut [6, 7] from 19 to 25 (fun s u wx => u = .bool (isK kk) ∧ Below W2.heap.size W2 wx ∧ FormBox kk s wx)
  case first =>
    rename_i J K1 hJ hK
    refine wp_region_ph (n := 60) (LookF W2 ⟨q0, 0, none⟩ kk) (Ph 8 9 6 6 (fun w' => Below W2.heap.size W2 w') (fun v w' => Below W2.heap.size W2 w' ∧ FormBox kk v w') (fun v _ w' => Below W2.heap.size W2 w' ∧ FormBox kk v w')) (by kernel_rfl) (by kernel_rfl) rfl ?_ ?_ ?_
    · intro L hL
      exact Ph.start hL (Below.refl _ _).drew
    · have hA : ∀ u u' : World, Below u.heap.size u u' → Below W2.heap.size W2 u → Below W2.heap.size W2 u' := fun u u' hb h => h.trans (hb.mono h.size)
      refine OpsPh.cons _ _ (OpPh.preC (by decide) (by decide) (fun L hcl hn => have h8 : L.getD 8 false = false := notyet hcl (ho := rfl) (he := (rfl : _[2]? = _)) rfl hn; ⟨h8, notyet hcl (ho := rfl) (he := (rfl : _[1]? = _)) rfl h8⟩) LookF.keep hA fun b v hs hv hg => ⟨rfl, _, _, exec_call0 (enter_forms _) rfl, forms_any v⟩) ?_
      refine OpsPh.cons _ _ (OpPh.free (by decide) (by decide) rfl (by decide) fun b v hs hg => ⟨rfl, _, exec_fieldFr0 rfl (hs 4 (by kernel_rfl)), rfl⟩) ?_
      refine OpsPh.cons _ _ (OpPh.pre (by decide) (by decide) (fun L hcl hn => have h8 : L.getD 8 false = false := notyet hcl (ho := rfl) (he := (rfl : _[5]? = _)) rfl hn; ⟨h8, notyet hcl (ho := rfl) (he := (rfl : _[1]? = _)) rfl h8⟩) LookF.keep hA fun b v hs hv hg => ⟨rfl, _, _, exec_load8 rfl (dep hg 0 rfl rfl rfl rfl) ((hv.cell (p := ⟨q0, 0, none⟩) hqlt.out).trans (cell_of_row W2 q0 0 _ _ _ hfrH.out)), .refl _ _, rfl⟩) ?_
      refine OpsPh.cons _ _ (OpPh.free (by decide) (by decide) rfl (by decide) fun b v hs hg => (by
        obtain ⟨fv, hf, hr⟩ := look_forms (dep hg 0 rfl rfl rfl rfl : LookF _ _ _ 0 _ _) kk true
        exact ⟨rfl, _, exec_look rfl rfl (dep hg 1 rfl rfl rfl rfl) hr, fv, rfl, hf⟩)) ?_
      refine OpsPh.cons _ _ (OpPh.free (by decide) (by decide) rfl (by decide) fun b v hs hg => (by
        obtain ⟨fv, e, hf⟩ := (dep hg 0 rfl rfl rfl rfl : LookF _ _ _ 3 _ _)
        exact ⟨rfl, _, exec_move rfl e, fv, rfl, hf⟩)) ?_
      refine OpsPh.cons _ _ (OpPh.free (by decide) (by decide) rfl (by decide) fun b v hs hg => (by
        obtain ⟨fv, e, hf⟩ := (dep hg 0 rfl rfl rfl rfl : LookF _ _ _ 4 _ _)
        exact ⟨rfl, _, exec_ext 0 rfl e rfl, hf⟩)) ?_
      refine OpsPh.cons _ _ (OpPh.free (by decide) (by decide) rfl (by decide) fun b v hs hg => (by
        obtain ⟨fv, e, hf⟩ := (dep hg 0 rfl rfl rfl rfl : LookF _ _ _ 4 _ _)
        exact ⟨rfl, _, exec_ext 1 rfl e rfl, rfl⟩)) ?_
      refine OpsPh.cons _ _ (OpPh.pre (by decide) (by decide) (fun L hcl hn => have h8 : L.getD 8 false = false := notyet hcl (ho := rfl) (he := (rfl : _[0]? = _)) rfl hn; ⟨h8, notyet hcl (ho := rfl) (he := (rfl : _[1]? = _)) rfl h8⟩) LookF.keep hA fun b v hs hv hg => ⟨rfl, _, _, exec_allocForm rfl, below_new _ _, v.heap.size, rfl, hv.size, _, rfl, heap_alloc_new _ _⟩) ?_
      refine OpsPh.cons _ _ (OpPh.mid (by decide) (fun L hcl h8 => notyet hcl (ho := rfl) (he := (rfl : _[1]? = _)) rfl h8) fun b v hs hsz hv hg => ⟨rfl, ?_⟩) ?_
      · obtain ⟨q, e, hql, cs, hcs, hq⟩ := (dep hg 0 rfl rfl rfl rfl : LookF _ _ _ 7 _ _)
        obtain ⟨A, c, e5, _, hp⟩ := (dep hg 1 rfl rfl rfl rfl : LookF _ _ _ 5 _ _)
        refine wp_store_row 58 (.tmp 6) (.tmp 24) rfl q #[.string (txt (wordOf kk)), .slice A (parts kk).length c] e e5 _ cs hq size_form hcs (pair_one rfl rfl) ?_
        have hb' : Below W2.heap.size W2 (v.setRow q #[.string (txt (wordOf kk)), .slice A (parts kk).length c]) := ⟨hv.os, hv.tape, hv.output, by rw [size_setRow]; exact hv.size, fun i hi => (setRow_other v q i _ (by omega)).trans (hv.block i hi)⟩
        exact ⟨undef, rfl, ⟨hb', q, e, A, c, setRow_heap _ _ _ _ _ _ hq, hp.keep (keep_setForm hq)⟩, fun h => by simp at h, fun j u hj h => h.store hq rfl⟩
      refine OpsPh.cons _ _ (OpPh.last (k := 1) rfl rfl rfl fun b v hs hsz hv hg => ⟨rfl, ?_⟩) (OpsPh.nil _ _)
      refine wp_valued (exec_assign rfl (dep hg 0 rfl rfl rfl rfl)) ⟨_, rfl, ?_, fun _ => rfl, fun j u hj h => h⟩
      rw [getD_put _ _ _ _ (by rw [hsz]; decide), if_neg (by decide)]
      exact hv
    · intro L b' w' hL hsz hd hs hC hall
      have h := hC.end_ (hL 9 (by decide))
      have h9 : b'.tmps.getD 7 undef = .bool (isK kk) := (hall 9 _ _ rfl rfl : LookF _ _ _ 9 _ _)
      refine hK _ _ (Met.intro (hJ _ _ ?_))
      exact ⟨b'.tmps.getD 6 undef, b'.tmps.getD 7 undef, b'.tmps.getD 19 undef, b'.tmps.getD 20 undef, b'.tmps.getD 21 undef, b'.tmps.getD 22 undef, b'.tmps.getD 23 undef, b'.tmps.getD 24 undef, b'.tmps.getD 25 undef, ⟨h9, h⟩, (act_known hsz hd hs).trans (by kernel_rfl)⟩
  obtain ⟨rfl, hbc, qf, rfl, A, c, hqf, hp⟩ := hcut
  obtain ⟨wa, rfl⟩ : ∃ wa : World, wa = wc := ⟨_, rfl⟩
  have hxa := Lib.hid (hx2.out.below hbc hx2.out.lt)
  have hba := Lib.hid (hb2.out.trans (hbc.mono hb2.out.size))
  have hfra := Lib.hid ((hbc.block q0 hqlt.out).trans hfrH.out)
  have hrda := Lib.hid (hrd2.out.below (hbc.mono (Nat.le_of_lt hqlt.out)))
  have Hqf := Lib.hid hqf
  have Hp := Lib.hid hp
  have hq0a := Lib.hid (show q0 < wa.heap.size from Nat.lt_of_lt_of_le hqlt.out hbc.size)
  clear hbc hqf hp
  cases hk : isK kk
  · go_wp2_with (refine wpList_storeRec (x := Rc.zero 0) (.tmp 2) (.tmp 28) rfl rfl rfl rfl hxa.out ?_; intro w3 hx3 hb3)
    refine ret_rec rfl w.heap.size (Rc.zero 0) rfl hx3 rfl ⟨by rw [parseM_kind Hone.out (by rw [← hkk.out]; exact hk)]; rfl, ?_⟩
    exact hba.out.trans (hb3 _ (Nat.le_refl _))
  go_upto_region 7 with fail
  go_cut [8, 9] from 29 to 34 (fun s u wx => Below wa.heap.size wa wx ∧ (∃ p, s = .pointer (some ⟨p, 0, none⟩) ∧ RecAt (Rc.zero kk) wx p ∧ wa.heap.size ≤ p) ∧ ∃ q, u = .pointer (some ⟨q, 0, none⟩) ∧ wx.heap[q]? = some (.cells #[.slice A2 n c2, .int .i64 0] 75 (0, 0)) ∧ wa.heap.size ≤ q)
  case first =>
    rename_i J K1 hJ hK
    refine wp_region_ph (n := 60) (MakeF wa q0 kk (.slice A2 n c2)) (Ph 8 9 8 9 (fun w' => Below wa.heap.size wa w') (fun v w' => Below wa.heap.size wa w' ∧ ∃ p, v = .pointer (some ⟨p, 0, none⟩) ∧ RecAt (Rc.zero kk) w' p ∧ wa.heap.size ≤ p)
      (fun v u w' => Below wa.heap.size wa w' ∧ (∃ p, v = .pointer (some ⟨p, 0, none⟩) ∧ RecAt (Rc.zero kk) w' p ∧ wa.heap.size ≤ p) ∧ ∃ q, u = .pointer (some ⟨q, 0, none⟩) ∧ w'.heap[q]? = some (.cells #[.slice A2 n c2, .int .i64 0] 75 (0, 0)) ∧ wa.heap.size ≤ q)) (by kernel_rfl) (by kernel_rfl) rfl ?_ ?_ ?_
    · intro L hL
      exact Ph.start hL (Below.refl _ _).drew
    · have hA : ∀ u u' : World, Below u.heap.size u u' → Below wa.heap.size wa u → Below wa.heap.size wa u' := fun u u' hb h => h.trans (hb.mono h.size)
      refine OpsPh.cons _ _ (OpPh.free (by decide) (by decide) rfl (by decide) fun b v hs hg => ⟨rfl, _, exec_fieldFr0 rfl (hs 4 (by kernel_rfl)), rfl⟩) ?_
      refine OpsPh.cons _ _ (OpPh.pre (by decide) (by decide) (fun L hcl hn => have h8 : L.getD 8 false = false := notyet hcl (ho := rfl) (he := (rfl : _[3]? = _)) rfl hn; ⟨h8, notyet hcl (ho := rfl) (he := (rfl : _[2]? = _)) rfl h8⟩) MakeF.keep hA fun b v hs hv hg => ⟨rfl, _, _, exec_load8 rfl (dep hg 0 rfl rfl rfl rfl) ((hv.cell (p := ⟨q0, 0, none⟩) hq0a.out).trans (cell_of_row wa q0 0 _ _ _ hfra.out)), .refl _ _, rfl⟩) ?_
      refine OpsPh.cons _ _ (OpPh.free (by decide) (by decide) rfl (by decide) fun b v hs hg => ⟨rfl, _, exec_buildK rfl (dep hg 0 rfl rfl rfl rfl), rfl⟩) ?_
      refine OpsPh.cons _ _ (OpPh.free (by decide) (by decide) rfl (by decide) fun b v hs hg => ⟨rfl, _, exec_fieldFr1 rfl (hs 4 (by kernel_rfl)), rfl⟩) ?_
      refine OpsPh.cons _ _ (OpPh.calm (by decide) (by decide) rfl (by decide) (fun L hcl hn => notyet hcl (ho := rfl) (he := (rfl : _[7]? = _)) rfl hn) (fun w' => Below wa.heap.size wa w') (fun _ h => h) (fun _ _ h => h.1) fun b v hs hv hg => ⟨rfl, _, exec_loadB rfl (dep hg 0 rfl rfl rfl rfl) ((hv.cell (p := ⟨q0, 1, none⟩) hq0a.out).trans (cell_of_row wa q0 1 _ _ _ hfra.out)), rfl⟩) ?_
      refine OpsPh.cons _ _ (OpPh.free (by decide) (by decide) rfl (by decide) fun b v hs hg => ⟨rfl, _, exec_buildRdr rfl (dep hg 0 rfl rfl rfl rfl), rfl⟩) ?_
      refine OpsPh.cons _ _ (OpPh.pre (by decide) (by decide) (fun L hcl hn => have h8 : L.getD 8 false = false := notyet hcl (ho := rfl) (he := (rfl : _[0]? = _)) rfl hn; ⟨h8, notyet hcl (ho := rfl) (he := (rfl : _[2]? = _)) rfl h8⟩) MakeF.keep hA fun b v hs hv hg => ⟨rfl, _, _, exec_allocRec rfl, below_new _ _, v.heap.size, rfl, hv.size, _, rfl, heap_alloc_new _ _⟩) ?_
      refine OpsPh.cons _ _ (OpPh.pre (by decide) (by decide) (fun L hcl hn => have h8 : L.getD 8 false = false := notyet hcl (ho := rfl) (he := (rfl : _[9]? = _)) rfl hn; ⟨h8, notyet hcl (ho := rfl) (he := (rfl : _[2]? = _)) rfl h8⟩) MakeF.keep hA fun b v hs hv hg => ⟨rfl, _, _, exec_allocRdr rfl, below_new _ _, v.heap.size, rfl, hv.size, _, rfl, heap_alloc_new _ _⟩) ?_
      refine OpsPh.cons _ _ (OpPh.mid (by decide) (fun L hcl h8 => notyet hcl (ho := rfl) (he := (rfl : _[2]? = _)) rfl h8) fun b v hs hsz hv hg => ⟨rfl, ?_⟩) ?_
      · obtain ⟨q, e, hql, cs, hcs, hq⟩ := (dep hg 0 rfl rfl rfl rfl : MakeF _ _ _ _ 6 _ _)
        have e2 : b.tmps.getD 31 undef = (Rc.zero kk).v := dep hg 1 rfl rfl rfl rfl
        refine wp_store_row 24 (.tmp 8) (.tmp 31) rfl q (Rc.zero kk).cells.toArray e e2 _ cs hq size_rec hcs (rc_one _) ?_
        have hb' : Below wa.heap.size wa (v.setRow q (Rc.zero kk).cells.toArray) := ⟨hv.os, hv.tape, hv.output, by rw [size_setRow]; exact hv.size, fun i hi => (setRow_other v q i _ (by omega)).trans (hv.block i hi)⟩
        exact ⟨undef, rfl, ⟨hb', q, e, setRow_heap _ _ _ _ _ _ hq, hql⟩, fun h => by simp at h, fun j u hj h => h.store hq hcs.symm⟩
      refine OpsPh.cons _ _ (OpPh.last (k := 2) rfl rfl rfl fun b v hs hsz hv hg => ⟨rfl, ?_⟩) (OpsPh.nil _ _)
      obtain ⟨q, e, hql, cs, hcs, hq⟩ := (dep hg 0 rfl rfl rfl rfl : MakeF _ _ _ _ 7 _ _)
      have e5 : b.tmps.getD 34 undef = .agg #[.slice A2 n c2, .int .i64 0] := dep hg 1 rfl rfl rfl rfl
      obtain ⟨hv, p, ep, hpr, hpl⟩ := hv
      refine wp_store_row 75 (.tmp 9) (.tmp 34) rfl q #[.slice A2 n c2, .int .i64 0] e e5 _ cs hq size_rdr hcs (pair_one rfl rfl) ?_
      have hpq : p ≠ q := by
        rintro rfl
        unfold RecAt at hpr
        rw [hpr] at hq
        simp at hq
      have hb' : Below wa.heap.size wa (v.setRow q #[.slice A2 n c2, .int .i64 0]) := ⟨hv.os, hv.tape, hv.output, by rw [size_setRow]; exact hv.size, fun i hi => (setRow_other v q i _ (by omega)).trans (hv.block i hi)⟩
      exact ⟨undef, rfl, ⟨hb', ⟨p, ep, (setRow_other v q p _ hpq).trans hpr, hpl⟩, q, e, setRow_heap _ _ _ _ _ _ hq, hql⟩, fun h => by simp at h, fun j u hj h => h.store hq hcs.symm⟩
    · intro L b' w' hL hsz hd hs hC hall
      have h := hC.end_ (hL 9 (by decide))
      refine hK _ _ (Met.intro (hJ _ _ ?_))
      exact ⟨b'.tmps.getD 8 undef, b'.tmps.getD 9 undef, b'.tmps.getD 29 undef, b'.tmps.getD 30 undef, b'.tmps.getD 31 undef, b'.tmps.getD 32 undef, b'.tmps.getD 33 undef, b'.tmps.getD 34 undef, h, (act_known hsz hd hs).trans (by kernel_rfl)⟩
  obtain ⟨hbd, ⟨p, rfl, hxp, hpl⟩, q, rfl, hqr, hql⟩ := hcut
  obtain ⟨wd, rfl⟩ : ∃ wd : World, wd = wc := ⟨_, rfl⟩
  have hrdr : RdrAt fl A2 c2 q0 0 q wd := ⟨by rw [← hn.out]; exact hqr, Hcap2.out, hrda.out.below (hbd.mono (Nat.le_of_lt hq0a.out)), by have := hq0a.out; omega⟩
  have hpd : PartsAt wd A (parts kk) := Hp.out.below hbd
  have hcw := walkRd_any (Rc.zero kk) kk fl A2 c2 q0 0 p q A c wd hxp hrdr (by have := hq0a.out; omega) Hlen.out hpd
  obtain ⟨s, E2, hrun⟩ : ∃ s E2, runS (rdP fl) (Rc.zero kk, 0) (allP kk) = (s, E2) := ⟨_, _, rfl⟩
  obtain ⟨y, P⟩ := s
  have hyk := runS_rdP_k fl (allP kk) (Rc.zero kk, 0)
  rw [hrun] at hcw hyk
  simp only at hcw hyk
  have hyk' : y.k = kk := hyk
  have Hcw := Lib.hid hcw
  have Hrun := Lib.hid (show runS (rdP fl) (Rc.zero fk.toNat, 0) (allP fk.toNat) = ((y, P), E2) by rw [← hkk.out]; exact hrun)
  have Hk := Lib.hid (show isK fk.toNat = true by rw [← hkk.out]; exact hk)
  have qf1 : wd.cell? ⟨qf, 1, none⟩ = some (.slice A (parts kk).length c) := (hbd.cell (p := ⟨qf, 1, none⟩) (Array.getElem?_eq_some_iff.1 Hqf.out).1).trans (cell_of_row wa qf 1 _ _ _ Hqf.out)
  have hqfl := Lib.hid (show qf < wa.heap.size from (Array.getElem?_eq_some_iff.1 Hqf.out).1)
  have Hbd := Lib.hid hbd
  have Hyk := Lib.hid hyk'
  have Hpl := Lib.hid hpl
  have Hql := Lib.hid hql
  have Hpd := Lib.hid hpd
  have Hplt := Lib.hid hxp.lt
  have Hqlt := Lib.hid (Array.getElem?_eq_some_iff.1 hqr).1
  clear hcw hrun hyk hyk' hrdr hpd hqr hxp hbd hpl hql hk
  go_upto_region 9 with (go_at_call 32; refine Hcw.out.mono ?_; rintro e w5 ⟨rfl, hy5, hq5, hbut⟩)
  have hb5 : Below wa.heap.size wa w5 := Hbd.out.trans (hbut.below Hbd.out.size (by have := Hpl.out; have := Hql.out; simp; omega))
  have hx5 := Lib.hid (hxa.out.below hb5 hxa.out.lt)
  have hbw5 := Lib.hid (hba.out.trans (hb5.mono hba.out.size))
  have Hb5 := Lib.hid hb5
  have Hy5 := Lib.hid hy5
  have hqrow := hq5.at_
  rw [← hn.out] at hqrow
  have d0 : w5.cell? ⟨q, 0, none⟩ = some (.slice A2 n c2) := cell_of_row w5 q 0 _ _ _ hqrow
  have d1 : w5.cell? ⟨q, 1, none⟩ = some (.int .i64 P) := cell_of_row w5 q 1 _ _ _ hqrow
  have hp5 := Lib.hid (Hp.out.below hb5)
  have g1 : w5.cell? ⟨qf, 1, none⟩ = some (.slice A (parts kk).length c) := (hb5.cell (p := ⟨qf, 1, none⟩) hqfl.out).trans (cell_of_row wa qf 1 _ _ _ Hqf.out)
  clear hb5 hy5 hq5 hbut hqrow qf1
  by_cases hE2 : E2 = 0
  rotate_left
  · have e1 : ((E2 : Int) != 0) = true := by rw [bne_iff_ne]; omega
    have e2 : (E2 != 0) = true := by rw [bne_iff_ne]; exact hE2
    go_wp2_with (refine wpList_storeRec (x := Rc.zero 0) (.tmp 2) (.tmp 42) rfl rfl rfl rfl hx5.out ?_; intro w6 hx6 hb6)
    refine ret_rec rfl w.heap.size (Rc.zero 0) rfl hx6 rfl ⟨by rw [parseM_part Hone.out Hk.out Hrun.out hE2]; rfl, ?_⟩
    exact hbw5.out.trans (hb6 _ (Nat.le_refl _))
  subst hE2
  by_cases hlong : P < (n : Int)
  · go_wp2_with (refine wpList_storeRec (x := Rc.zero 0) (.tmp 2) (.tmp 51) rfl rfl rfl rfl hx5.out ?_; intro w6 hx6 hb6)
    refine ret_rec rfl w.heap.size (Rc.zero 0) rfl hx6 rfl ⟨by rw [parseM_long Hone.out Hk.out Hrun.out (by rw [← hn.out]; exact hlong)]; rfl, ?_⟩
    exact hbw5.out.trans (hb6 _ (Nat.le_refl _))
  have hcr := right_any y A c w5 (by rw [Hyk.out]; exact hp5.out)
  rw [Hyk.out] at hcr
  have hrM : rightM y = rightP y := by rw [rightM_eq, Hyk.out, show isK kk = true by rw [hkk.out]; exact Hk.out, Bool.true_and]
  have Hcr := Lib.hid hcr
  have HrM := Lib.hid hrM
  have Hlong := Lib.hid (show ¬ P < (fl.length : Int) by rw [← hn.out]; exact hlong)
  have hlong' : (n : Int) ≤ P := by omega
  have y0 : w5.cell? ⟨p, 0, none⟩ = _ := Hy5.out.cell 0
  have y1 : w5.cell? ⟨p, 1, none⟩ = _ := Hy5.out.cell 1
  have y2 : w5.cell? ⟨p, 2, none⟩ = _ := Hy5.out.cell 2
  have y3 : w5.cell? ⟨p, 3, none⟩ = _ := Hy5.out.cell 3
  have y4 : w5.cell? ⟨p, 4, none⟩ = _ := Hy5.out.cell 4
  have y5 : w5.cell? ⟨p, 5, none⟩ = _ := Hy5.out.cell 5
  have y6 : w5.cell? ⟨p, 6, none⟩ = _ := Hy5.out.cell 6
  have y7 : w5.cell? ⟨p, 7, none⟩ = _ := Hy5.out.cell 7
  have y8 : w5.cell? ⟨p, 8, none⟩ = _ := Hy5.out.cell 8
  have y9 : w5.cell? ⟨p, 9, none⟩ = _ := Hy5.out.cell 9
  have y10 : w5.cell? ⟨p, 10, none⟩ = _ := Hy5.out.cell 10
  have y11 : w5.cell? ⟨p, 11, none⟩ = _ := Hy5.out.cell 11
  simp only [Rc.cells, List.getElem?_cons_zero, List.getElem?_cons_succ] at y0 y1 y2 y3 y4 y5 y6 y7 y8 y9 y10 y11
  clear hcr hrM hlong
  cases hrp : rightP y
  · rw [hrp] at Hcr HrM
    go_wp2_with (first
      | (go_at_call 31; refine Hcr.out.mono ?_; rintro e w6 ⟨rfl, hb6⟩; have hx6 := hx5.out.below hb6 hx5.out.lt)
      | (refine wpList_storeRec (x := Rc.zero 0) (.tmp 2) (.tmp 58) rfl rfl rfl rfl hx6 ?_; intro w7 hx7 hb7))
    refine ret_rec rfl w.heap.size (Rc.zero 0) rfl hx7 rfl ⟨by rw [parseM_wrong Hone.out Hk.out Hrun.out (by have := Hlong.out; omega) HrM.out]; rfl, ?_⟩
    exact (hbw5.out.trans (hb6.mono hbw5.out.size)).trans (hb7 _ (Nat.le_refl _))
  · rw [hrp] at Hcr HrM
    go_upto_region 15 with (go_at_call 31; refine Hcr.out.mono ?_; rintro e w6 ⟨rfl, hb6⟩)
    have hx6 := hx5.out.below hb6 hx5.out.lt
    have hy6 := Hy5.out.below hb6 Hy5.out.lt
    refine wp_region_lit (wpList_run (v := y.v) (w' := w6) rfl (exec_loadRec (x := .tmp 8) (g := p) rfl (by kernel_rfl) hy6.cells12) ?_)
    go_frame
    refine wpList_storeRec (x := y) (.tmp 2) (.tmp 59) rfl rfl rfl rfl hx6 ?_
    intro w7 hx7 hb7
    refine wpList_run (v := .int .i64 0) (w' := w7) rfl (by kernel_rfl) ?_
    go_frame
    go_wp2_with fail
    refine ret_rec rfl w.heap.size y rfl hx7 rfl ⟨by rw [parseM_right Hone.out Hk.out Hrun.out (by have := Hlong.out; omega) HrM.out]; rfl, ?_⟩
    exact (hbw5.out.trans (hb6.mono hbw5.out.size)).trans (hb7 _ (Nat.le_refl _))
end Go.Proofs.Ytfhcpjnjemojgaa
