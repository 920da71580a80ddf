/- The walk of the reference's link. Conditions: at most 880 calls; names of at most 1000 bytes. The walk of the reference's syncDir. Conditions: at most 880 calls. -/
import Derived.Test.YtbhmnmmockmibaaGreatKkFqD
import Derived.Deep.RegionHeld3
import Derived.Test.YtbhmnmmockmibaaGreatKkFoK
import Derived.Deep.RegionWith
namespace Go.Proofs.YtbhmnmmockmibaaGreat
open Go.RowKit
section
variable {w W w1 w2 w3 : World} {X Y : Nat → Prop} {g0 g1 g2 g3 N : Nat} {p : Rp} {s : Fo}
set_option maxHeartbeats 8000000 in
set_option maxRecDepth 100000 in
theorem rlink_any {v k : Value} {n t : List UInt8} {Ab : Option Addr} {nl cb : Nat} (hr : RefF w X v s) (hok : s.Ok N) (hN : N ≤ 880) (ht : t.length ≤ 1000) (hpos : ∀ e ∈ s.d.now, 0 ≤ e.2) :
    Calls Tryz.prog 44 #[v, .agg #[k, .string (txt n), .string (txt t), .slice Ab nl cb]] w fun e w' => ∃ u, e = .returned (.tuple #[u, .agg #[.int .i64 (s.doLink n t).2.1, .slice none 0 0, .slice none 0 0]]) ∧ Below w.heap.size w w' ∧ RefF w' (AX w X) u (s.doLink n t).1 := by
  obtain ⟨B0, hB0⟩ : ∃ B, Hid (w.heap.size = B) := ⟨_, rfl⟩
  obtain ⟨B1, hB1⟩ : ∃ B, Hid (w.heap.size + 1 = B) := ⟨_, rfl⟩
  obtain ⟨B2, hB2⟩ : ∃ B, Hid (w.heap.size + 1 + 1 = B) := ⟨_, rfl⟩
  obtain ⟨B3, hB3⟩ : ∃ B, Hid (w.heap.size + 1 + 1 + 1 = B) := ⟨_, rfl⟩
  obtain ⟨cs, hcs⟩ : ∃ cs, v = .agg cs := by obtain ⟨p, e, _⟩ := hr; exact ⟨_, e⟩
  obtain ⟨W, hW⟩ : ∃ W, Hid ((((w.alloc (.cells cs 36)).alloc (.cells #[k, .string (txt n), .string (txt t), .slice Ab nl cb] 46)).alloc (.cells zrf 36)).alloc (.cells #[.int .i64 0, .slice none 0 0, .slice none 0 0] 53) = W) := ⟨_, rfl⟩
  obtain ⟨p, ep, hC0⟩ := RfC.start (W := W) (cc := #[k, .string (txt n), .string (txt t), .slice Ab nl cb]) hr (fun cs' e => by rw [hcs] at e; injection e with e; rw [← e]; exact hW.out)
  rw [hB3.out, hB2.out, hB1.out, hB0.out] at hC0
  have hC := Lib.hid hC0
  rw [hcs] at ep
  injection ep with ep
  subst ep
  subst hcs
  have HWW : Hid ((((w.alloc (.cells (p.cs s) 36)).alloc (.cells #[k, .string (txt n), .string (txt t), .slice Ab nl cb] 46)).alloc (.cells #[.slice none 0 0, .slice none 0 0, .slice none 0 0, .int .i64 0, .int .i64 0, .int .i64 0, .slice none 0 0] 36)).alloc (.cells #[.int .i64 0, .slice none 0 0, .slice none 0 0] 53) = W) := hW.out
  clear hr hC0
  obtain ⟨c0, c1, c2, c3, c4, c5, c6⟩ := hC.out.b.cells
  obtain ⟨a0, a1, a2, a3⟩ := quad_cell hC.out.call
  have hget := Lib.hid (hC.out.get hok (by omega) n)
  have hget2 := Lib.hid (fun wx (hx : RfC w W wx X B0 B1 B2 B3 #[k, .string (txt n), .string (txt t), .slice Ab nl cb] p s) => hx.get hok (by omega) t)
  have hlist := Lib.hid (fun wx (hx : RfC w W wx X B0 B1 B2 B3 #[k, .string (txt n), .string (txt t), .slice Ab nl cb] p s) => hx.list hok (by omega))
  obtain ⟨z2, hz2⟩ : ∃ z, Hid ((getE s.d.now t).getD 0 = z) := ⟨_, rfl⟩
  rw [hz2.out] at hget2
  have tk1 := Lib.hid True.intro
  have tk2 := Lib.hid True.intro
  unfold Fo.doLink
  cases hg : getE s.d.now n with
  | none =>
    rw [getE_none hg, hg] at hget
    simp only [Option.getD_none] at hget
    clear hg hlist
    obtain ⟨bt, hbt⟩ : ∃ b, Hid (hasE s.d.now t = b) := ⟨_, rfl⟩
    rw [hbt.out] at hget2
    go_enter Tryz.func44, Tryz.ntmps44
    go_upto_region 1 with fail
    rw [hB3.out, hB2.out, hB1.out, hB0.out, HWW.out]
    go_wp2_with (first
      | (go_at_call 41; clear tk1; refine hget.out.mono ?_; rintro e w1 ⟨rfl, hb1⟩; have hC1 := Lib.hid (hC.out.below hb1); clear hb1; obtain ⟨d0, d1, d2, d3, d4, d5, d6⟩ := hC1.out.b.cells; obtain ⟨b0, b1, b2, b3⟩ := quad_cell hC1.out.call; clear c0 c1 c2 c3 c4 c5 c6 a0 a1 a2 a3)
      | (go_at_call 41; clear tk2; refine hget2.out _ hC1.out |>.mono ?_; rintro e w3 ⟨rfl, hb3⟩; have hC3 := Lib.hid (hC1.out.below hb3); clear hb3 d0 d1 d2 d3 d4 d5 d6 b0 b1 b2 b3; obtain ⟨d0, d1, d2, d3, d4, d5, d6⟩ := hC3.out.b.cells; obtain ⟨b0, b1, b2, b3⟩ := quad_cell hC3.out.call)
      | (refine wpList_load_row rfl 36 (.tmp 2) rfl B0 rfl _ _ _ _ hC3.out.b.box Tryz.underlying36 rfl size_rf ?_)
      | (go_at_call 45; refine (rfails_any (p.sev s) _ _).mono ?_; rintro e w2 ⟨rfl, hb2⟩; have hC2 := Lib.hid (hC3.out.below hb2); clear hb2; obtain ⟨W9, hW9, s9, f9, hfin⟩ := hC2.out.last)
      | (refine wpList_store_row rfl 36 (.tmp 4) (.tmp 31) rfl B2 _ rfl rfl _ _ hC2.out.r1 size_rf rfl (p.sev s).one ?_; rw [hW9.out]))
    obtain ⟨h1, h2, h3, h4, _⟩ := hfin.out (.int .i64 80) (.slice none 0 0) (.slice none 0 0)
    refine ret_rfr rfl B2 B3 (p.cs s) _ rfl rfl _ _ (0, 0) (0, 0) rfl rfl h1 h2 rfl ?_
    exact ⟨_, rfl, h4, h3⟩
  | some vv =>
    have hhas : hasE s.d.now n = true := by rw [← getE_has, hg]; rfl
    rw [hhas, hg] at hget
    simp only [Option.getD_some] at hget
    have Hv := Lib.hid (hok.d.now.2 _ (getE_some hg)).v
    have Hv0 := Lib.hid (hpos _ (getE_some hg))
    clear hg hhas hpos
    simp only
    by_cases hne : t = []
    · have e0 : s.may t = 2 := by unfold Fo.may; rw [if_pos hne]
      rw [e0, if_neg (by decide)]
      have he1 : (txt t).toList.isEmpty = true := by rw [txt_isEmpty, hne]; rfl
      have he2 : (txt t).toList = [] := List.isEmpty_iff.1 he1
      obtain ⟨bt, hbt⟩ : ∃ b, Hid (hasE s.d.now t = b) := ⟨_, rfl⟩
      rw [hbt.out] at hget2
      clear hne e0 hlist
      go_enter Tryz.func44, Tryz.ntmps44
      go_upto_region 1 with fail
      rw [hB3.out, hB2.out, hB1.out, hB0.out, HWW.out]
      go_wp2_with (first
        | (go_at_call 41; clear tk1; refine hget.out.mono ?_; rintro e w1 ⟨rfl, hb1⟩; have hC1 := Lib.hid (hC.out.below hb1); clear hb1; obtain ⟨d0, d1, d2, d3, d4, d5, d6⟩ := hC1.out.b.cells; obtain ⟨b0, b1, b2, b3⟩ := quad_cell hC1.out.call; clear c0 c1 c2 c3 c4 c5 c6 a0 a1 a2 a3)
        | (go_at_call 41; clear tk2; refine hget2.out _ hC1.out |>.mono ?_; rintro e w3 ⟨rfl, hb3⟩; have hC3 := Lib.hid (hC1.out.below hb3); clear hb3 d0 d1 d2 d3 d4 d5 d6 b0 b1 b2 b3; obtain ⟨d0, d1, d2, d3, d4, d5, d6⟩ := hC3.out.b.cells; obtain ⟨b0, b1, b2, b3⟩ := quad_cell hC3.out.call)
        | (refine wpList_load_row rfl 36 (.tmp 2) rfl B0 rfl _ _ _ _ hC3.out.b.box Tryz.underlying36 rfl size_rf ?_)
        | (go_at_call 45; refine (rfails_any (p.sev s) _ _).mono ?_; rintro e w2 ⟨rfl, hb2⟩; have hC2 := Lib.hid (hC3.out.below hb2); clear hb2; obtain ⟨W9, hW9, s9, f9, hfin⟩ := hC2.out.last)
        | (refine wpList_store_row rfl 36 (.tmp 4) (.tmp 39) rfl B2 _ rfl rfl _ _ hC2.out.r1 size_rf rfl (p.sev s).one ?_; rw [hW9.out]))
      obtain ⟨h1, h2, h3, h4, _⟩ := hfin.out (.int .i64 2) (.slice none 0 0) (.slice none 0 0)
      refine ret_rfr rfl B2 B3 (p.cs s) _ rfl rfl _ _ (0, 0) (0, 0) rfl rfl h1 h2 rfl ?_
      exact ⟨_, rfl, h4, h3⟩
    · have he1 : (txt t).toList.isEmpty = false := by
        rw [txt_isEmpty]
        cases t with
        | nil => exact absurd rfl hne
        | cons _ _ => rfl
      have he2 : ¬ (txt t).toList = [] := fun e => by rw [e] at he1; cases he1
      have Hne := Lib.hid hne
      clear hne
      by_cases hh : hasE s.d.now t = true
      · have e0 : s.may t = 81 := by unfold Fo.may; rw [if_neg Hne.out, if_pos hh]
        rw [e0, if_neg (by decide)]
        rw [hh] at hget2
        clear e0 hh hlist
        go_enter Tryz.func44, Tryz.ntmps44
        go_upto_region 1 with fail
        rw [hB3.out, hB2.out, hB1.out, hB0.out, HWW.out]
        go_wp2_with (first
          | (go_at_call 41; clear tk1; refine hget.out.mono ?_; rintro e w1 ⟨rfl, hb1⟩; have hC1 := Lib.hid (hC.out.below hb1); clear hb1; obtain ⟨d0, d1, d2, d3, d4, d5, d6⟩ := hC1.out.b.cells; obtain ⟨b0, b1, b2, b3⟩ := quad_cell hC1.out.call; clear c0 c1 c2 c3 c4 c5 c6 a0 a1 a2 a3)
          | (go_at_call 41; clear tk2; refine hget2.out _ hC1.out |>.mono ?_; rintro e w3 ⟨rfl, hb3⟩; have hC3 := Lib.hid (hC1.out.below hb3); clear hb3 d0 d1 d2 d3 d4 d5 d6 b0 b1 b2 b3; obtain ⟨d0, d1, d2, d3, d4, d5, d6⟩ := hC3.out.b.cells; obtain ⟨b0, b1, b2, b3⟩ := quad_cell hC3.out.call)
          | (refine wpList_load_row rfl 36 (.tmp 2) rfl B0 rfl _ _ _ _ hC3.out.b.box Tryz.underlying36 rfl size_rf ?_)
          | (go_at_call 45; refine (rfails_any (p.sev s) _ _).mono ?_; rintro e w2 ⟨rfl, hb2⟩; have hC2 := Lib.hid (hC3.out.below hb2); clear hb2; obtain ⟨W9, hW9, s9, f9, hfin⟩ := hC2.out.last)
          | (refine wpList_store_row rfl 36 (.tmp 4) (.tmp 45) rfl B2 _ rfl rfl _ _ hC2.out.r1 size_rf rfl (p.sev s).one ?_; rw [hW9.out]))
        obtain ⟨h1, h2, h3, h4, _⟩ := hfin.out (.int .i64 81) (.slice none 0 0) (.slice none 0 0)
        refine ret_rfr rfl B2 B3 (p.cs s) _ rfl rfl _ _ (0, 0) (0, 0) rfl rfl h1 h2 rfl ?_
        exact ⟨_, rfl, h4, h3⟩
      · have hh' : hasE s.d.now t = false := by simpa using hh
        rw [hh'] at hget2
        have Hno := Lib.hid hh'
        have hmany := hok.many
        obtain ⟨most, hm⟩ : ∃ m, Hid (s.most = m) := ⟨_, rfl⟩
        obtain ⟨mn, hmn⟩ : ∃ m, Hid (s.d.now.length = m) := ⟨_, rfl⟩
        by_cases hge : s.most ≤ s.many
        · have e0 : s.may t = 90 := by unfold Fo.may; rw [if_neg Hne.out, if_neg hh, if_pos hge]
          rw [e0, if_neg (by decide)]
          rw [hmany] at hge
          clear e0 hh hh' hmany
          have hd : decide (most ≤ (mn : Int)) = true := by rw [← hm.out, ← hmn.out]; exact decide_eq_true hge
          go_enter Tryz.func44, Tryz.ntmps44
          go_upto_region 1 with fail
          rw [hB3.out, hB2.out, hB1.out, hB0.out, HWW.out]
          go_upto_region 9 with (first | (go_at_call 41; clear tk1; refine hget.out.mono ?_; rintro e w1 ⟨rfl, hb1⟩; have hC1 := Lib.hid (hC.out.below hb1); clear hb1; obtain ⟨d0, d1, d2, d3, d4, d5, d6⟩ := hC1.out.b.cells; obtain ⟨b0, b1, b2, b3⟩ := quad_cell hC1.out.call; clear c0 c1 c2 c3 c4 c5 c6 a0 a1 a2 a3) | (go_at_call 41; clear tk2; refine hget2.out _ hC1.out |>.mono ?_; rintro e w3 ⟨rfl, hb3⟩; have hC3 := Lib.hid (hC1.out.below hb3); clear hb3 d0 d1 d2 d3 d4 d5 d6 b0 b1 b2 b3; obtain ⟨d0, d1, d2, d3, d4, d5, d6⟩ := hC3.out.b.cells; obtain ⟨b0, b1, b2, b3⟩ := quad_cell hC3.out.call))
          rw [hm.out] at d5
          go_region_held3 (fun wx => wx.cell? ⟨B0, 0, none⟩ = some (.slice p.D p.nD p.cD) ∧ wx.cell? ⟨B0, 1, none⟩ = some (.slice p.O p.nO p.cO) ∧ wx.cell? ⟨B0, 5, none⟩ = some (.int .i64 most)) (first | exact ⟨d0, d1, d5⟩ | exact ⟨e0', e1', e5'⟩) (first | (go_at_call 31; refine (hlist.out _ (hC3.out.below (Below.refl _ _).drew)).mono ?_; rintro e w5 ⟨A5, n5, c5, rfl, hn5, _, hb5⟩; have hC5 := Lib.hid ((hC3.out.below (Below.refl _ _).drew).below hb5); have hq5 : n5 = mn := hn5.trans hmn.out; subst hq5; clear hb5 hn5; obtain ⟨e0', e1', e2', e3', e4', e5', e6'⟩ := hC5.out.b.cells; rw [hm.out] at e5'))
          go_wp2_with (first
            | (refine wpList_load_row rfl 36 (.tmp 2) rfl B0 rfl _ _ _ _ hC5.out.b.box Tryz.underlying36 rfl size_rf ?_)
            | (go_at_call 45; refine (rfails_any (p.sev s) _ _).mono ?_; rintro e w2 ⟨rfl, hb2⟩; have hC2 := Lib.hid (hC5.out.below hb2); clear hb2; obtain ⟨W9, hW9, s9, f9, hfin⟩ := hC2.out.last)
            | (refine wpList_store_row rfl 36 (.tmp 4) (.tmp 57) rfl B2 _ rfl rfl _ _ hC2.out.r1 size_rf rfl (p.sev s).one ?_; rw [hW9.out]))
          obtain ⟨h1, h2, h3, h4, _⟩ := hfin.out (.int .i64 90) (.slice none 0 0) (.slice none 0 0)
          refine ret_rfr rfl B2 B3 (p.cs s) _ rfl rfl _ _ (0, 0) (0, 0) rfl rfl h1 h2 rfl ?_
          exact ⟨_, rfl, h4, h3⟩
        · have e0 : s.may t = 0 := by unfold Fo.may; rw [if_neg Hne.out, if_neg hh, if_neg hge]
          rw [e0, if_pos rfl]
          rw [hmany] at hge
          clear e0 hh hh' hmany
          have hd : decide (most ≤ (mn : Int)) = false := by rw [← hm.out, ← hmn.out]; exact decide_eq_false hge
          clear hge
          go_enter Tryz.func44, Tryz.ntmps44
          go_upto_region 1 with fail
          rw [hB3.out, hB2.out, hB1.out, hB0.out, HWW.out]
          go_upto_region 9 with (first | (go_at_call 41; clear tk1; refine hget.out.mono ?_; rintro e w1 ⟨rfl, hb1⟩; have hC1 := Lib.hid (hC.out.below hb1); clear hb1; obtain ⟨d0, d1, d2, d3, d4, d5, d6⟩ := hC1.out.b.cells; obtain ⟨b0, b1, b2, b3⟩ := quad_cell hC1.out.call; clear c0 c1 c2 c3 c4 c5 c6 a0 a1 a2 a3) | (go_at_call 41; clear tk2; refine hget2.out _ hC1.out |>.mono ?_; rintro e w3 ⟨rfl, hb3⟩; have hC3 := Lib.hid (hC1.out.below hb3); clear hb3 d0 d1 d2 d3 d4 d5 d6 b0 b1 b2 b3; obtain ⟨d0, d1, d2, d3, d4, d5, d6⟩ := hC3.out.b.cells; obtain ⟨b0, b1, b2, b3⟩ := quad_cell hC3.out.call))
          rw [hm.out] at d5
          go_region_held3 (fun wx => wx.cell? ⟨B0, 0, none⟩ = some (.slice p.D p.nD p.cD) ∧ wx.cell? ⟨B0, 1, none⟩ = some (.slice p.O p.nO p.cO) ∧ wx.cell? ⟨B0, 5, none⟩ = some (.int .i64 most)) (first | exact ⟨d0, d1, d5⟩ | exact ⟨e0', e1', e5'⟩) (first | (go_at_call 31; refine (hlist.out _ (hC3.out.below (Below.refl _ _).drew)).mono ?_; rintro e w5 ⟨A5, n5, c5, rfl, hn5, _, hb5⟩; have hC5 := Lib.hid ((hC3.out.below (Below.refl _ _).drew).below hb5); have hq5 : n5 = mn := hn5.trans hmn.out; subst hq5; clear hb5 hn5; obtain ⟨e0', e1', e2', e3', e4', e5', e6'⟩ := hC5.out.b.cells; rw [hm.out] at e5'))
          go_upto_region 12 with (first | (go_at_call 79; refine (hC5.out.link hok (by omega) vv).mono ?_; rintro e w8 ⟨u, rfl, A8, n8, k8, rfl, hC8, hD8⟩; have HC8 := Lib.hid hC8; have HD8 := Lib.hid hD8; clear hC8 hD8; obtain ⟨m0, m1, m2, m3, m4, m5, m6⟩ := HC8.out.b.cells; have mf := HC8.out.b.fz))
          obtain ⟨W9, hW9⟩ : ∃ W', Hid ((((w8.setCell ⟨B0, 2, none⟩ (.slice A8 n8 k8)).setCell ⟨B0, 3, none⟩ (.int .i64 s.q)).setCell ⟨B0, 4, none⟩ (.int .i64 (s.made : Int))) = W') := ⟨_, rfl⟩
          have hD9 := HD8.out
          rw [show tset w8 B0 A8 n8 k8 s.q (s.made : Int) = W9 from hW9.out] at hD9
          rw [hW9.out]
          have HD9 := Lib.hid hD9
          clear hD9 m0 m1 m2 m3 m4 m5 m6 mf d0 d1 d2 d3 d4 d5 d6 b0 b1 b2 b3
          obtain ⟨x0, x1, x2, x3, x4, x5, x6⟩ := HD9.out.b.cells
          obtain ⟨y0, y1, y2, y3⟩ := quad_cell HD9.out.call
          have hok2 := Lib.hid (hok.doLink vv)
          have had := Lib.hid (HD9.out.add hok2.out (by omega) t vv ⟨ht, Hv.out⟩ Hne.out Hv0.out Hno.out)
          go_upto_region 13 with (first | (go_at_call 80; refine had.out.mono ?_; rintro e w10 ⟨u, rfl, A10, n10, k10, O10, j10, l10, rfl, hC10, hD10⟩; have HC10 := Lib.hid hC10; have HD10 := Lib.hid hD10; clear hC10 hD10; obtain ⟨m0, m1, m2, m3, m4, m5, m6⟩ := HC10.out.b.cells; have mf := HC10.out.b.fz))
          obtain ⟨W11, hW11⟩ : ∃ W', Hid (((w10.setCell ⟨B0, 0, none⟩ (.slice A10 n10 k10)).setCell ⟨B0, 1, none⟩ (.slice O10 j10 l10)) = W') := ⟨_, rfl⟩
          have hD11 := HD10.out
          rw [show dset w10 B0 A10 O10 n10 k10 j10 l10 = W11 from hW11.out] at hD11
          rw [hW11.out]
          have HD11 := Lib.hid hD11
          clear hD11 m0 m1 m2 m3 m4 m5 m6 mf x0 x1 x2 x3 x4 x5 x6 y0 y1 y2 y3
          obtain ⟨x0, x1, x2, x3, x4, x5, x6⟩ := HD11.out.b.cells
          clear x0 x1 x2 x3 x4 x5 x6
          obtain ⟨cs, W12, hsv, hbx, hr1, hW12, s12, f12, hfin⟩ := HD11.out.last2
          go_wp2_with (first
            | (refine wpList_load_row rfl 36 (.tmp 2) rfl B0 rfl _ _ _ _ hbx.out Tryz.underlying36 rfl (by rw [hsv.out.n]; exact size_rf) ?_)
            | (refine wpList_store_row rfl 36 (.tmp 4) (.tmp 77) rfl B2 _ rfl rfl _ _ hr1.out (by rw [hsv.out.n]; exact size_rf) (by rw [hsv.out.n]; rfl) hsv.out.one ?_; rw [hW12.out]))
          obtain ⟨h1, h2, h3, h4, _⟩ := hfin.out (.int .i64 0) (.slice none 0 0) (.slice none 0 0)
          refine ret_rfr rfl B2 B3 cs _ hsv.out.n rfl _ _ (0, 0) (0, 0) rfl rfl h1 h2 rfl ?_
          exact ⟨_, rfl, h4, h3.many _⟩
end
end Go.Proofs.YtbhmnmmockmibaaGreat

namespace Go.Proofs.YtbhmnmmockmibaaGreat
open Go.RowKit
section
variable {w W w1 w2 w3 : World} {X Y : Nat → Prop} {g0 N : Nat} {p : Rp} {s : Fo}
theorem RfB.drop (h : RfB w W w1 X g0 p s) (hok : s.Ok N) (hN : N ≤ 890) (z : Int) :
    Calls Tryz.prog 81 #[p.tv s, .int .i64 z] w1 fun e w2 => ∃ A n c, e = .returned (.tuple #[.agg #[.slice A n c, .int .i64 s.q, .int .i64 (s.made : Int)], .int .i64 (doDrop s.fs z).2]) ∧ Below w1.heap.size w1 w2 ∧ RfB w W w2 X g0 p s ∧ RfB w W (tset w2 g0 A n c s.q (s.made : Int)) X g0 { p with T := A, nT := n, cT := c } { s with fs := (doDrop s.fs z).1 } := by
  refine (rdropT_any (z := z) (hok.rl (by omega)) hok.nm h.pt.t).mono ?_
  rintro e w2 ⟨u, er, rfl, hb, hT⟩
  obtain ⟨e1, e2⟩ := tie_drop (P := fun M => RefT w2 (AX w1 (AY w W X)) u M s.q (s.made : Int)) hok.srt hT
  obtain ⟨A, c, es, rfl, h1, h2⟩ := id e2
  exact ⟨A, es.length, c, by rw [e1], hb, h.below hb, (h.below hb).setT e2 h.ge⟩
theorem RfB.list (h : RfB w W w1 X g0 p s) (hok : s.Ok N) (hN : N ≤ 890) :
    Calls Tryz.prog 31 #[p.dv] w1 fun e w2 => ∃ A n c, e = .returned (.slice A n c) ∧ n = s.d.now.length ∧ EnXD w2 (AY w W X) A s.d.now ∧ Below w1.heap.size w1 w2 :=
  (refList_any h.pt.d hok.d (by omega)).mono fun e w2 ⟨A, n, c, e1, e2, e3, e4⟩ => ⟨A, n, c, e1, e2, e3.mono fun b _ (e : AY w W X b) => ⟨Nat.lt_of_lt_of_le e.1 h.ge, e⟩, e4⟩
theorem Fo.Ok.drops (h : s.Ok N) : ∀ l : List Int, ({ s with fs := dropsF s.fs l } : Fo).Ok N := by
  have h1 : ∀ (s : Fo) (z : Int), s.Ok N → ({ s with fs := (doDrop s.fs z).1 } : Fo).Ok N := by
    intro s z h
    unfold doDrop
    cases hf : findF s.fs z with
    | none => exact h
    | some f => exact h.fs (Nat.le_refl _) fun pp mp => (h.t pp mp).drop hf
  intro l
  induction l generalizing s with
  | nil => exact h
  | cons z l ih => exact ih (h1 s z h)
set_option maxHeartbeats 8000000 in
set_option maxRecDepth 100000 in
theorem rsyncDir_any {v : Value} (hr : RefF w X v s) (hok : s.Ok N) (hN : N ≤ 880) :
    Calls Tryz.prog 43 #[v] w fun e w' => ∃ u, e = .returned u ∧ Below w.heap.size w w' ∧ RefF w' (AX w X) u s.sync := by
  obtain ⟨B0, hB0⟩ : ∃ B, Hid (w.heap.size = B) := ⟨_, rfl⟩
  obtain ⟨B1, hB1⟩ : ∃ B, Hid (w.heap.size + 1 = B) := ⟨_, rfl⟩
  obtain ⟨cs, hcs⟩ : ∃ cs, v = .agg cs := by obtain ⟨p, e, _⟩ := hr; exact ⟨_, e⟩
  obtain ⟨W, hW⟩ : ∃ W, Hid ((w.alloc (.cells cs 36)).alloc (.cells zrf 36) = W) := ⟨_, rfl⟩
  have htwo := two_heap w (.cells cs 36) (.cells zrf 36)
  rw [hW.out] at htwo
  obtain ⟨hs, e0, e1⟩ := htwo
  have hbW : Hid (Below w.heap.size w W) := by rw [← hW.out]; exact (below_new _ _).alloc (by simp) _
  obtain ⟨p, ep, hC0⟩ := RfB.start (g := w.heap.size) hr hbW.out (by omega) fun p e => by rw [hcs] at e; injection e with e; rw [← e]; exact e0
  rw [hB0.out] at hC0 e0
  rw [hB1.out] at e1
  have hR1 := Lib.hid e1
  have hC := Lib.hid hC0
  have hWs := Lib.hid hs
  rw [hcs] at ep
  injection ep with ep
  subst ep
  subst hcs
  have HWW : Hid ((w.alloc (.cells (p.cs s) 36)).alloc (.cells #[.slice none 0 0, .slice none 0 0, .slice none 0 0, .int .i64 0, .int .i64 0, .int .i64 0, .slice none 0 0] 36) = W) := hW.out
  clear hr hC0 e0 e1 hs
  have hnum := Lib.hid hok.num
  obtain ⟨len, hln⟩ : ∃ l, Hid (s.tk.length = l) := ⟨_, rfl⟩
  have hlenI : (len : Int) ≤ 900 := by have := hok.tk; have := hln.out; omega
  go_enter Tryz.func43, Tryz.ntmps43
  go_upto_region 1 with fail
  rw [hB1.out, hB0.out, HWW.out]
  go_wp2
  go_loopw [3] (fun i wr => ∃ (j : Nat) (pj : Rp), j ≤ len ∧ i = .int .i64 (j : Int) ∧ Hid (RfB w W wr X B0 pj { s with fs := dropsF s.fs (s.tk.take j) }) ∧ Hid (wr.heap[B1]? = some (.cells zrf 36 (0, 0)))) (fun i _ => len - (intOf i).toNat)
  case atStart => exact ⟨0, p, by omega, rfl, hC.out, hR1.out⟩
  case round =>
    obtain ⟨j, pj, hj, rfl, hcj, hrj⟩ := hrel
    obtain ⟨c0, c1, c2, c3, c4, c5, c6⟩ := hcj.out.cells
    simp only at c3 c4 c5 c6
    rw [hln.out] at c6
    have cf := hcj.out.fz
    by_cases hlt : j < len
    · obtain ⟨ad, eA, hbl, hax, hcell⟩ := hcj.out.pt.g.2 (by rw [hln.out]; omega)
      rw [eA] at c6
      have hz : s.tk[j]? = some (s.tk[j]'(by rw [hln.out]; exact hlt)) := List.getElem?_eq_getElem _
      obtain ⟨z, hzz⟩ : ∃ z, s.tk[j]'(by rw [hln.out]; exact hlt) = z := ⟨_, rfl⟩
      rw [hzz] at hz
      have r0 := hcell j (.int .i64 z) (by rw [List.getElem?_map, hz]; rfl)
      have hzb := hnum.out z (List.mem_of_getElem? hz)
      have hdr := Lib.hid (fun wx (hb : Below wr.heap.size wr wx) => (hcj.out.below hb).drop (hok.drops (s.tk.take j)) (by omega) z)
      have Hz := Lib.hid hz
      clear hz hzz hcell
      go_upto_region 4 with fail
      go_region_with (first | (go_at_call 81; refine (hdr.out _ (below_drewN (Below.refl _ _) _)).mono ?_; rintro e w5 ⟨A5, n5, k5, rfl, hb5, hC5, hD5⟩; have HD5 := Lib.hid hD5; have Hb5 := Lib.hid hb5; obtain ⟨m0, m1, m2, m3, m4, m5, m6⟩ := hC5.cells; have mf := hC5.fz; simp only at m3 m4; clear hD5 hb5 hC5))
      all_goals
        (obtain ⟨W7, hW7⟩ : ∃ W', Hid (((w5.setCell ⟨B0, 2, none⟩ (.slice A5 n5 k5)).setCell ⟨B0, 3, none⟩ (.int .i64 s.q)).setCell ⟨B0, 4, none⟩ (.int .i64 (s.made : Int)) = W') := ⟨_, rfl⟩
         have hD7 := HD5.out
         rw [show tset w5 B0 A5 n5 k5 s.q (s.made : Int) = W7 from hW7.out] at hD7
         have hr7 : Hid (W7.heap[B1]? = some (.cells zrf 36 (0, 0))) := by
           rw [← hW7.out]
           have ht := ((Touch.cell1 w5 B0 2 (.slice A5 n5 k5)).trans (Touch.cell1 _ B0 3 (.int .i64 s.q))).trans (Touch.cell1 _ B0 4 (.int .i64 (s.made : Int)))
           exact ht.heap (show ¬ B1 = B0 by have := hB0.out; have := hB1.out; omega) ((Hb5.out.block _ (Array.getElem?_eq_some_iff.1 hrj.out).1).trans hrj.out)
         rw [hW7.out]
         have HD7 := Lib.hid hD7
         have HD7b : Hid (RfB w W W7 X B0 { pj with T := A5, nT := n5, cT := k5 } { s with fs := dropsF s.fs (s.tk.take (j + 1)) }) := by rw [dropsF_snoc _ Hz.out]; exact HD7.out
         clear hD7 m0 m1 m2 m3 m4 m5 m6 mf c0 c1 c2 c3 c4 c5 c6 cf r0
         go_wp2
         go_roundw
         case rel => exact ⟨j + 1, _, by omega, by go_num, HD7b, hr7⟩
         case measure => simp [intOf]; omega)
    · obtain rfl : j = len := by omega
      have hfull : s.tk.take j = s.tk := by rw [← hln.out, List.take_length]
      rw [hfull] at hcj
      go_upto_region 6 with fail
      obtain ⟨W5, hW5⟩ : ∃ W', Hid (wr.setCell ⟨B0, 6, none⟩ (.slice none 0 0) = W') := ⟨_, rfl⟩
      have hD5 := hcj.out.setG (A := none) (c := 0) (l := []) RdX.none_
      rw [show wr.setCell ⟨B0, 6, none⟩ (.slice none ([] : List Int).length 0) = W5 from hW5.out] at hD5
      have hr5 : Hid (W5.heap[B1]? = some (.cells zrf 36 (0, 0))) := by
        rw [← hW5.out]
        exact (Touch.cell1 wr B0 6 (.slice none 0 0)).heap (show ¬ B1 = B0 by have := hB0.out; have := hB1.out; omega) hrj.out
      rw [hW5.out]
      have HD5 := Lib.hid hD5
      clear hD5 c0 c1 c2 c3 c4 c5 c6 cf
      obtain ⟨x0, x1, x2, x3, x4, x5, x6⟩ := HD5.out.cells
      have hok5 : Hid (({ s with fs := dropsF s.fs s.tk, tk := [] } : Fo).Ok N) := by
        have h5 := hok.drops s.tk
        exact ⟨h5.d, h5.t, h5.most, h5.many, Nat.zero_le _, by simp⟩
      go_upto_region 7 with (first | (go_at_call 31; refine (HD5.out.list hok5.out (by omega)).mono ?_; rintro e w6 ⟨A6, n6, k6, rfl, hn6, hl6, hb6⟩; have HC6 := Lib.hid (HD5.out.below hb6); have Hl6 := Lib.hid hl6; have Hb6 := Lib.hid hb6; have Hn6 := Lib.hid hn6; clear hb6 hl6 hn6; obtain ⟨m0, m1, m2, m3, m4, m5, m6⟩ := HC6.out.cells; have mf := HC6.out.fz))
      obtain ⟨W8, hW8⟩ : ∃ W', Hid ((w6.setCell ⟨B0, 0, none⟩ (.slice A6 n6 k6)).setCell ⟨B0, 1, none⟩ (.slice none 0 0) = W') := ⟨_, rfl⟩
      have hD8 := HC6.out.setD (w3 := w6) (A := A6) (n := n6) (c := k6) (A' := none) (n' := 0) (c' := 0) (d := s.d.sync) ⟨A6, k6, none, 0, by rw [Hn6.out]; rfl, Hl6.out.mono fun b _ e => e.2, RdX.none_⟩ HC6.out.ge
      rw [hW8.out] at hD8
      have hr8 : Hid (W8.heap[B1]? = some (.cells zrf 36 (0, 0))) := by
        rw [← hW8.out]
        exact ((Touch.cell1 w6 B0 0 (.slice A6 n6 k6)).trans (Touch.cell1 _ B0 1 (.slice none 0 0))).heap (show ¬ B1 = B0 by have := hB0.out; have := hB1.out; omega) ((Hb6.out.block _ (Array.getElem?_eq_some_iff.1 hr5.out).1).trans hr5.out)
      rw [hW8.out]
      have HD8 := Lib.hid hD8
      clear hD8 m0 m1 m2 m3 m4 m5 m6 mf x0 x1 x2 x3 x4 x5 x6
      obtain ⟨p8, hp8⟩ : ∃ q : Rp, Hid (RfB w W W8 X B0 q s.sync) := ⟨_, HD8⟩
      clear HD8
      obtain ⟨cs, hcs⟩ : ∃ cs, Hid (p8.cs s.sync = cs) := ⟨_, rfl⟩
      have hbx := hp8.out.box
      have hsv := p8.sev s.sync
      rw [hcs.out] at hbx hsv
      have Hbx := Lib.hid hbx
      have Hsv := Lib.hid hsv
      clear hbx hsv
      go_wp2_with (first
        | (refine wpList_load_row rfl 36 (.tmp 1) rfl B0 rfl _ _ _ _ Hbx.out Tryz.underlying36 rfl (by rw [Hsv.out.n]; exact size_rf) ?_)
        | (refine wpList_store_row rfl 36 (.tmp 2) (.tmp 29) rfl B1 _ rfl rfl _ _ hr8.out (by rw [Hsv.out.n]; exact size_rf) (by rw [Hsv.out.n]; rfl) Hsv.out.one ?_))
      refine ret_rf rfl B1 cs Hsv.out.n _ (0, 0) rfl (setRow_heap _ _ _ _ _ _ hr8.out) rfl ?_
      have hfin := hp8.out.touch ((Touch.row1 W8 B1 cs).mono fun b _ e => by
        have := hB0.out
        have := hB1.out
        have := hWs.out
        rw [e]
        omega)
      refine ⟨_, rfl, hfin.bel, ?_⟩
      rw [← hcs.out]
      rw [← hcs.out] at hfin
      exact hfin.fin
end
end Go.Proofs.YtbhmnmmockmibaaGreat
