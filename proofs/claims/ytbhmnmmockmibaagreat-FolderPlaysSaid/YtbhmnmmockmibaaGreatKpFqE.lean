/- The walk of the reference's create. Conditions: at most 880 calls; names of at most 1000 bytes. The walk of the reference's link. Conditions: at most 880 calls; names of at most 1000 bytes. -/
import Derived.Test.YtbhmnmmockmibaaGreatKpFqC
import Derived.Deep.RegionHeld3
namespace Go.Proofs.YtbhmnmmockmibaaGreat
open Go.RowKit
section
variable {w W w1 w2 w3 : World} {X Y : Nat → Prop} {g0 g1 g2 g3 N : Nat} {p : Rp} {s : Fo}
set_option maxHeartbeats 8000000 in
set_option maxRecDepth 100000 in
theorem rcreate_any {v k : Value} {n t : List UInt8} {Ab : Option Addr} {nl cb : Nat} (hr : RefF w X v s) (hok : s.Ok N) (hN : N ≤ 880) (hn : n.length ≤ 1000) (gg : Nat) :
    Calls Tryz.prog 42 #[v, .agg #[k, .string (txt n), .string (txt t), .slice Ab nl cb]] w fun e w' => ∃ u, e = .returned (.tuple #[u, .agg #[.int .i64 (s.doCreate gg n).2.1, .slice none 0 0, .slice none 0 0]]) ∧ Below w.heap.size w w' ∧ RefF w' (AX w X) u (s.doCreate gg n).1 := by
  obtain ⟨B0, hB0⟩ : ∃ B, Hid (w.heap.size = B) := ⟨_, rfl⟩
  obtain ⟨B1, hB1⟩ : ∃ B, Hid (w.heap.size + 1 = B) := ⟨_, rfl⟩
  obtain ⟨B2, hB2⟩ : ∃ B, Hid (w.heap.size + 1 + 1 = B) := ⟨_, rfl⟩
  obtain ⟨B3, hB3⟩ : ∃ B, Hid (w.heap.size + 1 + 1 + 1 = B) := ⟨_, rfl⟩
  obtain ⟨cs, hcs⟩ : ∃ cs, v = .agg cs := by obtain ⟨p, e, _⟩ := hr; exact ⟨_, e⟩
  obtain ⟨W, hW⟩ : ∃ W, Hid ((((w.alloc (.cells cs 36)).alloc (.cells #[k, .string (txt n), .string (txt t), .slice Ab nl cb] 46)).alloc (.cells zrf 36)).alloc (.cells #[.int .i64 0, .slice none 0 0, .slice none 0 0] 53) = W) := ⟨_, rfl⟩
  obtain ⟨p, ep, hC0⟩ := RfC.start (W := W) (cc := #[k, .string (txt n), .string (txt t), .slice Ab nl cb]) hr (fun cs' e => by rw [hcs] at e; injection e with e; rw [← e]; exact hW.out)
  rw [hB3.out, hB2.out, hB1.out, hB0.out] at hC0
  have hC := Lib.hid hC0
  rw [hcs] at ep
  injection ep with ep
  subst ep
  subst hcs
  have HWW : Hid ((((w.alloc (.cells (p.cs s) 36)).alloc (.cells #[k, .string (txt n), .string (txt t), .slice Ab nl cb] 46)).alloc (.cells #[.slice none 0 0, .slice none 0 0, .slice none 0 0, .int .i64 0, .int .i64 0, .int .i64 0, .slice none 0 0] 36)).alloc (.cells #[.int .i64 0, .slice none 0 0, .slice none 0 0] 53) = W) := hW.out
  clear hr hC0
  obtain ⟨c0, c1, c2, c3, c4, c5, c6⟩ := hC.out.b.cells
  obtain ⟨a0, a1, a2, a3⟩ := quad_cell hC.out.call
  have hget := Lib.hid (hC.out.get hok (by omega) n)
  by_cases hne : n = []
  · have e0 : s.doCreate gg n = (s, 2, [], []) := by unfold Fo.doCreate Fo.may; rw [if_pos hne, if_neg (by decide)]
    rw [e0]
    have he1 : (txt n).toList.isEmpty = true := by rw [txt_isEmpty, hne]; rfl
    have he2 : (txt n).toList = [] := List.isEmpty_iff.1 he1
    clear hne e0
    go_enter Tryz.func42, Tryz.ntmps42
    go_upto_region 1 with fail
    rw [hB3.out, hB2.out, hB1.out, hB0.out, HWW.out]
    go_wp2_with (first
      | (go_at_call 41; refine hget.out.mono ?_; rintro e w1 ⟨rfl, hb1⟩; have hC1 := Lib.hid (hC.out.below hb1); clear hb1; obtain ⟨d0, d1, d2, d3, d4, d5, d6⟩ := hC1.out.b.cells; obtain ⟨b0, b1, b2, b3⟩ := quad_cell hC1.out.call; clear c0 c1 c2 c3 c4 c5 c6 a0 a1 a2 a3)
      | (refine wpList_load_row rfl 36 (.tmp 2) rfl B0 rfl _ _ _ _ hC1.out.b.box Tryz.underlying36 rfl size_rf ?_)
      | (go_at_call 45; refine (rfails_any (p.sev s) _ _).mono ?_; rintro e w2 ⟨rfl, hb2⟩; have hC2 := Lib.hid (hC1.out.below hb2); clear hb2; obtain ⟨W9, hW9, s9, f9, hfin⟩ := hC2.out.last)
      | (refine wpList_store_row rfl 36 (.tmp 4) (.tmp 23) rfl B2 _ rfl rfl _ _ hC2.out.r1 size_rf rfl (p.sev s).one ?_; rw [hW9.out]))
    obtain ⟨h1, h2, h3, h4, _⟩ := hfin.out (.int .i64 2) (.slice none 0 0) (.slice none 0 0)
    refine ret_rfr rfl B2 B3 (p.cs s) _ rfl rfl _ _ (0, 0) (0, 0) rfl rfl h1 h2 rfl ?_
    exact ⟨_, rfl, h4, h3⟩
  · have he1 : (txt n).toList.isEmpty = false := by
      rw [txt_isEmpty]
      cases n with
      | nil => exact absurd rfl hne
      | cons _ _ => rfl
    have he2 : ¬ (txt n).toList = [] := fun e => by rw [e] at he1; cases he1
    have Hne := Lib.hid hne
    clear hne
    by_cases hh : hasE s.d.now n = true
    · have e0 : s.doCreate gg n = (s, 81, [], []) := by unfold Fo.doCreate Fo.may; rw [if_neg Hne.out, if_pos hh, if_neg (by decide)]
      rw [e0]
      rw [hh] at hget
      clear e0 hh
      go_enter Tryz.func42, Tryz.ntmps42
      go_upto_region 1 with fail
      rw [hB3.out, hB2.out, hB1.out, hB0.out, HWW.out]
      go_wp2_with (first
        | (go_at_call 41; refine hget.out.mono ?_; rintro e w1 ⟨rfl, hb1⟩; have hC1 := Lib.hid (hC.out.below hb1); clear hb1; obtain ⟨d0, d1, d2, d3, d4, d5, d6⟩ := hC1.out.b.cells; obtain ⟨b0, b1, b2, b3⟩ := quad_cell hC1.out.call; clear c0 c1 c2 c3 c4 c5 c6 a0 a1 a2 a3)
        | (refine wpList_load_row rfl 36 (.tmp 2) rfl B0 rfl _ _ _ _ hC1.out.b.box Tryz.underlying36 rfl size_rf ?_)
        | (go_at_call 45; refine (rfails_any (p.sev s) _ _).mono ?_; rintro e w2 ⟨rfl, hb2⟩; have hC2 := Lib.hid (hC1.out.below hb2); clear hb2; obtain ⟨W9, hW9, s9, f9, hfin⟩ := hC2.out.last)
        | (refine wpList_store_row rfl 36 (.tmp 4) (.tmp 29) rfl B2 _ rfl rfl _ _ hC2.out.r1 size_rf rfl (p.sev s).one ?_; rw [hW9.out]))
      obtain ⟨h1, h2, h3, h4, _⟩ := hfin.out (.int .i64 81) (.slice none 0 0) (.slice none 0 0)
      refine ret_rfr rfl B2 B3 (p.cs s) _ rfl rfl _ _ (0, 0) (0, 0) rfl rfl h1 h2 rfl ?_
      exact ⟨_, rfl, h4, h3⟩
    · have hh' : hasE s.d.now n = false := by simpa using hh
      rw [hh'] at hget
      have Hno := Lib.hid hh'
      have hlist := Lib.hid (fun wx (hx : RfC w W wx X B0 B1 B2 B3 #[k, .string (txt n), .string (txt t), .slice Ab nl cb] p s) => hx.list hok (by omega))
      have hmany := hok.many
      by_cases hge : s.most ≤ s.many
      · have e0 : s.doCreate gg n = (s, 90, [], []) := by unfold Fo.doCreate Fo.may; rw [if_neg Hne.out, if_neg hh, if_pos hge, if_neg (by decide)]
        rw [e0]
        rw [hmany] at hge
        clear e0 hh hh' hmany
        obtain ⟨most, hm⟩ : ∃ m, Hid (s.most = m) := ⟨_, rfl⟩
        obtain ⟨mn, hmn⟩ : ∃ m, Hid (s.d.now.length = m) := ⟨_, rfl⟩
        have hd : decide (most ≤ (mn : Int)) = true := by rw [← hm.out, ← hmn.out]; exact decide_eq_true hge
        go_enter Tryz.func42, Tryz.ntmps42
        go_upto_region 1 with fail
        rw [hB3.out, hB2.out, hB1.out, hB0.out, HWW.out]
        go_upto_region 6 with (first | (go_at_call 41; refine hget.out.mono ?_; rintro e w1 ⟨rfl, hb1⟩; have hC1 := Lib.hid (hC.out.below hb1); clear hb1; obtain ⟨d0, d1, d2, d3, d4, d5, d6⟩ := hC1.out.b.cells; obtain ⟨b0, b1, b2, b3⟩ := quad_cell hC1.out.call; clear c0 c1 c2 c3 c4 c5 c6 a0 a1 a2 a3))
        rw [hm.out] at d5
        go_region_held3 (fun wx => wx.cell? ⟨B0, 0, none⟩ = some (.slice p.D p.nD p.cD) ∧ wx.cell? ⟨B0, 1, none⟩ = some (.slice p.O p.nO p.cO) ∧ wx.cell? ⟨B0, 5, none⟩ = some (.int .i64 most)) (first | exact ⟨d0, d1, d5⟩ | exact ⟨e0', e1', e5'⟩) (first | (go_at_call 31; refine (hlist.out _ (hC1.out.below (Below.refl _ _).drew)).mono ?_; rintro e w5 ⟨A5, n5, c5, rfl, hn5, _, hb5⟩; have hC5 := Lib.hid ((hC1.out.below (Below.refl _ _).drew).below hb5); have hq5 : n5 = mn := hn5.trans hmn.out; subst hq5; clear hb5 hn5; obtain ⟨e0', e1', e2', e3', e4', e5', e6'⟩ := hC5.out.b.cells; rw [hm.out] at e5'))
        go_wp2_with (first
          | (refine wpList_load_row rfl 36 (.tmp 2) rfl B0 rfl _ _ _ _ hC5.out.b.box Tryz.underlying36 rfl size_rf ?_)
          | (go_at_call 45; refine (rfails_any (p.sev s) _ _).mono ?_; rintro e w2 ⟨rfl, hb2⟩; have hC2 := Lib.hid (hC5.out.below hb2); clear hb2; obtain ⟨W9, hW9, s9, f9, hfin⟩ := hC2.out.last)
          | (refine wpList_store_row rfl 36 (.tmp 4) (.tmp 41) rfl B2 _ rfl rfl _ _ hC2.out.r1 size_rf rfl (p.sev s).one ?_; rw [hW9.out]))
        obtain ⟨h1, h2, h3, h4, _⟩ := hfin.out (.int .i64 90) (.slice none 0 0) (.slice none 0 0)
        refine ret_rfr rfl B2 B3 (p.cs s) _ rfl rfl _ _ (0, 0) (0, 0) rfl rfl h1 h2 rfl ?_
        exact ⟨_, rfl, h4, h3⟩
      · have e0 : s.doCreate gg n = (s.create gg n, 0, [], []) := by unfold Fo.doCreate Fo.may; rw [if_neg Hne.out, if_neg hh, if_neg hge, if_pos rfl]
        rw [e0]
        rw [hmany] at hge
        clear e0 hh hh' hmany
        obtain ⟨md, hmd⟩ : ∃ m, Hid (s.made + 1 = m) := ⟨_, rfl⟩
        obtain ⟨most, hm⟩ : ∃ m, Hid (s.most = m) := ⟨_, rfl⟩
        obtain ⟨mn, hmn⟩ : ∃ m, Hid (s.d.now.length = m) := ⟨_, rfl⟩
        have hd : decide (most ≤ (mn : Int)) = false := by rw [← hm.out, ← hmn.out]; exact decide_eq_false hge
        clear hge
        go_enter Tryz.func42, Tryz.ntmps42
        go_upto_region 1 with fail
        rw [hB3.out, hB2.out, hB1.out, hB0.out, HWW.out]
        go_upto_region 6 with (first | (go_at_call 41; refine hget.out.mono ?_; rintro e w1 ⟨rfl, hb1⟩; have hC1 := Lib.hid (hC.out.below hb1); clear hb1; obtain ⟨d0, d1, d2, d3, d4, d5, d6⟩ := hC1.out.b.cells; obtain ⟨b0, b1, b2, b3⟩ := quad_cell hC1.out.call; clear c0 c1 c2 c3 c4 c5 c6 a0 a1 a2 a3))
        rw [hm.out] at d5
        go_region_held3 (fun wx => wx.cell? ⟨B0, 0, none⟩ = some (.slice p.D p.nD p.cD) ∧ wx.cell? ⟨B0, 1, none⟩ = some (.slice p.O p.nO p.cO) ∧ wx.cell? ⟨B0, 5, none⟩ = some (.int .i64 most)) (first | exact ⟨d0, d1, d5⟩ | exact ⟨e0', e1', e5'⟩) (first | (go_at_call 31; refine (hlist.out _ (hC1.out.below (Below.refl _ _).drew)).mono ?_; rintro e w5 ⟨A5, n5, c5, rfl, hn5, _, hb5⟩; have hC5 := Lib.hid ((hC1.out.below (Below.refl _ _).drew).below hb5); have hq5 : n5 = mn := hn5.trans hmn.out; subst hq5; clear hb5 hn5; obtain ⟨e0', e1', e2', e3', e4', e5', e6'⟩ := hC5.out.b.cells; rw [hm.out] at e5'))
        go_upto_region 9 with (first | (go_at_call 78; refine (hC5.out.make hok (by omega) gg hmd.out).mono ?_; rintro e w6 ⟨u, rfl, A6, n6, k6, rfl, hC6, hD6⟩; have HC6 := Lib.hid hC6; have HD6 := Lib.hid hD6; clear hC6 hD6; obtain ⟨m0, m1, m2, m3, m4, m5, m6⟩ := HC6.out.b.cells; have mf := HC6.out.b.fz))
        obtain ⟨W7, hW7⟩ : ∃ W', Hid ((((w6.setCell ⟨B0, 2, none⟩ (.slice A6 n6 k6)).setCell ⟨B0, 3, none⟩ (.int .i64 s.q)).setCell ⟨B0, 4, none⟩ (.int .i64 (md : Int))) = W') := ⟨_, rfl⟩
        have hD7 := HD6.out
        rw [show tset w6 B0 A6 n6 k6 s.q (md : Int) = W7 from hW7.out] at hD7
        rw [hW7.out]
        have HD7 := Lib.hid hD7
        clear hD7 m0 m1 m2 m3 m4 m5 m6 mf d0 d1 d2 d3 d4 d5 d6 b0 b1 b2 b3
        obtain ⟨x0, x1, x2, x3, x4, x5, x6⟩ := HD7.out.b.cells
        have hok1 := Lib.hid (hok.make gg hmd.out)
        have hlk := Lib.hid (HD7.out.link hok1.out (by omega) (md : Int))
        go_upto_region 11 with (first | (go_at_call 79; refine hlk.out.mono ?_; rintro e w8 ⟨u, rfl, A8, n8, k8, rfl, hC8, hD8⟩; have HC8 := Lib.hid hC8; have HD8 := Lib.hid hD8; clear hC8 hD8; obtain ⟨m0, m1, m2, m3, m4, m5, m6⟩ := HC8.out.b.cells; have mf := HC8.out.b.fz))
        obtain ⟨W9, hW9⟩ : ∃ W', Hid ((((w8.setCell ⟨B0, 2, none⟩ (.slice A8 n8 k8)).setCell ⟨B0, 3, none⟩ (.int .i64 s.q)).setCell ⟨B0, 4, none⟩ (.int .i64 (md : Int))) = W') := ⟨_, rfl⟩
        have hD9 := HD8.out
        rw [show tset w8 B0 A8 n8 k8 s.q (md : Int) = W9 from hW9.out] at hD9
        rw [hW9.out]
        have HD9 := Lib.hid hD9
        clear hD9 m0 m1 m2 m3 m4 m5 m6 mf x0 x1 x2 x3 x4 x5 x6
        obtain ⟨x0, x1, x2, x3, x4, x5, x6⟩ := HD9.out.b.cells
        obtain ⟨y0, y1, y2, y3⟩ := quad_cell HD9.out.call
        have hok2 := Lib.hid (hok1.out.doLink (md : Int))
        have had := Lib.hid (HD9.out.add hok2.out (by omega) n (md : Int) ⟨hn, by show _ ≤ (md : Int) ∧ (md : Int) ≤ _; have := hok.made; have := hmd.out; omega⟩ Hne.out (by omega) Hno.out)
        go_upto_region 12 with (first | (go_at_call 80; refine had.out.mono ?_; rintro e w10 ⟨u, rfl, A10, n10, k10, O10, j10, l10, rfl, hC10, hD10⟩; have HC10 := Lib.hid hC10; have HD10 := Lib.hid hD10; clear hC10 hD10; obtain ⟨m0, m1, m2, m3, m4, m5, m6⟩ := HC10.out.b.cells; have mf := HC10.out.b.fz))
        obtain ⟨W11, hW11⟩ : ∃ W', Hid (((w10.setCell ⟨B0, 0, none⟩ (.slice A10 n10 k10)).setCell ⟨B0, 1, none⟩ (.slice O10 j10 l10)) = W') := ⟨_, rfl⟩
        have hD11 := HD10.out
        rw [show dset w10 B0 A10 O10 n10 k10 j10 l10 = W11 from hW11.out] at hD11
        rw [hW11.out]
        have HD11 := Lib.hid hD11
        clear hD11 m0 m1 m2 m3 m4 m5 m6 mf x0 x1 x2 x3 x4 x5 x6 y0 y1 y2 y3
        obtain ⟨x0, x1, x2, x3, x4, x5, x6⟩ := HD11.out.b.cells
        clear x0 x1 x2 x3 x4 x5 x6
        obtain ⟨cs, W12, hsv, hbx, hr1, hW12, s12, f12, hfin⟩ := HD11.out.last2
        go_wp2_with (first
          | (refine wpList_load_row rfl 36 (.tmp 2) rfl B0 rfl _ _ _ _ hbx.out Tryz.underlying36 rfl (by rw [hsv.out.n]; exact size_rf) ?_)
          | (refine wpList_store_row rfl 36 (.tmp 4) (.tmp 68) rfl B2 _ rfl rfl _ _ hr1.out (by rw [hsv.out.n]; exact size_rf) (by rw [hsv.out.n]; rfl) hsv.out.one ?_; rw [hW12.out]))
        obtain ⟨h1, h2, h3, h4, _⟩ := hfin.out (.int .i64 0) (.slice none 0 0) (.slice none 0 0)
        refine ret_rfr rfl B2 B3 cs _ hsv.out.n rfl _ _ (0, 0) (0, 0) rfl rfl h1 h2 rfl ?_
        refine ⟨_, rfl, h4, ?_⟩
        have he : (s.made : Int) + 1 = (md : Int) := by have := hmd.out; omega
        have hcr : s.create gg n = { s with d := s.d.addE n (md : Int), many := s.many + 1, made := md, fs := (doLink (s.fs ++ [⟨(md : Int), gg, 0, []⟩]) (md : Int)).1 } := by
          unfold Fo.create
          rw [he, hmd.out]
        rw [hcr]
        exact h3.many _
end
end Go.Proofs.YtbhmnmmockmibaaGreat

namespace Go.Proofs.YtbhmnmmockmibaaGreat
open Go.RowKit
section
variable {w W w1 w2 w3 : World} {X Y : Nat → Prop} {g0 g1 g2 g3 N : Nat} {p : Rp} {s : Fo}
set_option maxHeartbeats 8000000 in
set_option maxRecDepth 100000 in
theorem rlink_any {v k : Value} {n t : List UInt8} {Ab : Option Addr} {nl cb : Nat} (hr : RefF w X v s) (hok : s.Ok N) (hN : N ≤ 880) (ht : t.length ≤ 1000) (hpos : ∀ e ∈ s.d.now, 0 ≤ e.2) :
    Calls Tryz.prog 44 #[v, .agg #[k, .string (txt n), .string (txt t), .slice Ab nl cb]] w fun e w' => ∃ u, e = .returned (.tuple #[u, .agg #[.int .i64 (s.doLink n t).2.1, .slice none 0 0, .slice none 0 0]]) ∧ Below w.heap.size w w' ∧ RefF w' (AX w X) u (s.doLink n t).1 := by
  obtain ⟨B0, hB0⟩ : ∃ B, Hid (w.heap.size = B) := ⟨_, rfl⟩
  obtain ⟨B1, hB1⟩ : ∃ B, Hid (w.heap.size + 1 = B) := ⟨_, rfl⟩
  obtain ⟨B2, hB2⟩ : ∃ B, Hid (w.heap.size + 1 + 1 = B) := ⟨_, rfl⟩
  obtain ⟨B3, hB3⟩ : ∃ B, Hid (w.heap.size + 1 + 1 + 1 = B) := ⟨_, rfl⟩
  obtain ⟨cs, hcs⟩ : ∃ cs, v = .agg cs := by obtain ⟨p, e, _⟩ := hr; exact ⟨_, e⟩
  obtain ⟨W, hW⟩ : ∃ W, Hid ((((w.alloc (.cells cs 36)).alloc (.cells #[k, .string (txt n), .string (txt t), .slice Ab nl cb] 46)).alloc (.cells zrf 36)).alloc (.cells #[.int .i64 0, .slice none 0 0, .slice none 0 0] 53) = W) := ⟨_, rfl⟩
  obtain ⟨p, ep, hC0⟩ := RfC.start (W := W) (cc := #[k, .string (txt n), .string (txt t), .slice Ab nl cb]) hr (fun cs' e => by rw [hcs] at e; injection e with e; rw [← e]; exact hW.out)
  rw [hB3.out, hB2.out, hB1.out, hB0.out] at hC0
  have hC := Lib.hid hC0
  rw [hcs] at ep
  injection ep with ep
  subst ep
  subst hcs
  have HWW : Hid ((((w.alloc (.cells (p.cs s) 36)).alloc (.cells #[k, .string (txt n), .string (txt t), .slice Ab nl cb] 46)).alloc (.cells #[.slice none 0 0, .slice none 0 0, .slice none 0 0, .int .i64 0, .int .i64 0, .int .i64 0, .slice none 0 0] 36)).alloc (.cells #[.int .i64 0, .slice none 0 0, .slice none 0 0] 53) = W) := hW.out
  clear hr hC0
  obtain ⟨c0, c1, c2, c3, c4, c5, c6⟩ := hC.out.b.cells
  obtain ⟨a0, a1, a2, a3⟩ := quad_cell hC.out.call
  have hget := Lib.hid (hC.out.get hok (by omega) n)
  have hget2 := Lib.hid (fun wx (hx : RfC w W wx X B0 B1 B2 B3 #[k, .string (txt n), .string (txt t), .slice Ab nl cb] p s) => hx.get hok (by omega) t)
  have hlist := Lib.hid (fun wx (hx : RfC w W wx X B0 B1 B2 B3 #[k, .string (txt n), .string (txt t), .slice Ab nl cb] p s) => hx.list hok (by omega))
  obtain ⟨z2, hz2⟩ : ∃ z, Hid ((getE s.d.now t).getD 0 = z) := ⟨_, rfl⟩
  rw [hz2.out] at hget2
  have tk1 := Lib.hid True.intro
  have tk2 := Lib.hid True.intro
  unfold Fo.doLink
  cases hg : getE s.d.now n with
  | none =>
    rw [getE_none hg, hg] at hget
    simp only [Option.getD_none] at hget
    clear hg hlist
    obtain ⟨bt, hbt⟩ : ∃ b, Hid (hasE s.d.now t = b) := ⟨_, rfl⟩
    rw [hbt.out] at hget2
    go_enter Tryz.func44, Tryz.ntmps44
    go_upto_region 1 with fail
    rw [hB3.out, hB2.out, hB1.out, hB0.out, HWW.out]
    go_wp2_with (first
      | (go_at_call 41; clear tk1; refine hget.out.mono ?_; rintro e w1 ⟨rfl, hb1⟩; have hC1 := Lib.hid (hC.out.below hb1); clear hb1; obtain ⟨d0, d1, d2, d3, d4, d5, d6⟩ := hC1.out.b.cells; obtain ⟨b0, b1, b2, b3⟩ := quad_cell hC1.out.call; clear c0 c1 c2 c3 c4 c5 c6 a0 a1 a2 a3)
      | (go_at_call 41; clear tk2; refine hget2.out _ hC1.out |>.mono ?_; rintro e w3 ⟨rfl, hb3⟩; have hC3 := Lib.hid (hC1.out.below hb3); clear hb3 d0 d1 d2 d3 d4 d5 d6 b0 b1 b2 b3; obtain ⟨d0, d1, d2, d3, d4, d5, d6⟩ := hC3.out.b.cells; obtain ⟨b0, b1, b2, b3⟩ := quad_cell hC3.out.call)
      | (refine wpList_load_row rfl 36 (.tmp 2) rfl B0 rfl _ _ _ _ hC3.out.b.box Tryz.underlying36 rfl size_rf ?_)
      | (go_at_call 45; refine (rfails_any (p.sev s) _ _).mono ?_; rintro e w2 ⟨rfl, hb2⟩; have hC2 := Lib.hid (hC3.out.below hb2); clear hb2; obtain ⟨W9, hW9, s9, f9, hfin⟩ := hC2.out.last)
      | (refine wpList_store_row rfl 36 (.tmp 4) (.tmp 31) rfl B2 _ rfl rfl _ _ hC2.out.r1 size_rf rfl (p.sev s).one ?_; rw [hW9.out]))
    obtain ⟨h1, h2, h3, h4, _⟩ := hfin.out (.int .i64 80) (.slice none 0 0) (.slice none 0 0)
    refine ret_rfr rfl B2 B3 (p.cs s) _ rfl rfl _ _ (0, 0) (0, 0) rfl rfl h1 h2 rfl ?_
    exact ⟨_, rfl, h4, h3⟩
  | some vv =>
    have hhas : hasE s.d.now n = true := by rw [← getE_has, hg]; rfl
    rw [hhas, hg] at hget
    simp only [Option.getD_some] at hget
    have Hv := Lib.hid (hok.d.now.2 _ (getE_some hg)).v
    have Hv0 := Lib.hid (hpos _ (getE_some hg))
    clear hg hhas hpos
    simp only
    by_cases hne : t = []
    · have e0 : s.may t = 2 := by unfold Fo.may; rw [if_pos hne]
      rw [e0, if_neg (by decide)]
      have he1 : (txt t).toList.isEmpty = true := by rw [txt_isEmpty, hne]; rfl
      have he2 : (txt t).toList = [] := List.isEmpty_iff.1 he1
      obtain ⟨bt, hbt⟩ : ∃ b, Hid (hasE s.d.now t = b) := ⟨_, rfl⟩
      rw [hbt.out] at hget2
      clear hne e0 hlist
      go_enter Tryz.func44, Tryz.ntmps44
      go_upto_region 1 with fail
      rw [hB3.out, hB2.out, hB1.out, hB0.out, HWW.out]
      go_wp2_with (first
        | (go_at_call 41; clear tk1; refine hget.out.mono ?_; rintro e w1 ⟨rfl, hb1⟩; have hC1 := Lib.hid (hC.out.below hb1); clear hb1; obtain ⟨d0, d1, d2, d3, d4, d5, d6⟩ := hC1.out.b.cells; obtain ⟨b0, b1, b2, b3⟩ := quad_cell hC1.out.call; clear c0 c1 c2 c3 c4 c5 c6 a0 a1 a2 a3)
        | (go_at_call 41; clear tk2; refine hget2.out _ hC1.out |>.mono ?_; rintro e w3 ⟨rfl, hb3⟩; have hC3 := Lib.hid (hC1.out.below hb3); clear hb3 d0 d1 d2 d3 d4 d5 d6 b0 b1 b2 b3; obtain ⟨d0, d1, d2, d3, d4, d5, d6⟩ := hC3.out.b.cells; obtain ⟨b0, b1, b2, b3⟩ := quad_cell hC3.out.call)
        | (refine wpList_load_row rfl 36 (.tmp 2) rfl B0 rfl _ _ _ _ hC3.out.b.box Tryz.underlying36 rfl size_rf ?_)
        | (go_at_call 45; refine (rfails_any (p.sev s) _ _).mono ?_; rintro e w2 ⟨rfl, hb2⟩; have hC2 := Lib.hid (hC3.out.below hb2); clear hb2; obtain ⟨W9, hW9, s9, f9, hfin⟩ := hC2.out.last)
        | (refine wpList_store_row rfl 36 (.tmp 4) (.tmp 39) rfl B2 _ rfl rfl _ _ hC2.out.r1 size_rf rfl (p.sev s).one ?_; rw [hW9.out]))
      obtain ⟨h1, h2, h3, h4, _⟩ := hfin.out (.int .i64 2) (.slice none 0 0) (.slice none 0 0)
      refine ret_rfr rfl B2 B3 (p.cs s) _ rfl rfl _ _ (0, 0) (0, 0) rfl rfl h1 h2 rfl ?_
      exact ⟨_, rfl, h4, h3⟩
    · have he1 : (txt t).toList.isEmpty = false := by
        rw [txt_isEmpty]
        cases t with
        | nil => exact absurd rfl hne
        | cons _ _ => rfl
      have he2 : ¬ (txt t).toList = [] := fun e => by rw [e] at he1; cases he1
      have Hne := Lib.hid hne
      clear hne
      by_cases hh : hasE s.d.now t = true
      · have e0 : s.may t = 81 := by unfold Fo.may; rw [if_neg Hne.out, if_pos hh]
        rw [e0, if_neg (by decide)]
        rw [hh] at hget2
        clear e0 hh hlist
        go_enter Tryz.func44, Tryz.ntmps44
        go_upto_region 1 with fail
        rw [hB3.out, hB2.out, hB1.out, hB0.out, HWW.out]
        go_wp2_with (first
          | (go_at_call 41; clear tk1; refine hget.out.mono ?_; rintro e w1 ⟨rfl, hb1⟩; have hC1 := Lib.hid (hC.out.below hb1); clear hb1; obtain ⟨d0, d1, d2, d3, d4, d5, d6⟩ := hC1.out.b.cells; obtain ⟨b0, b1, b2, b3⟩ := quad_cell hC1.out.call; clear c0 c1 c2 c3 c4 c5 c6 a0 a1 a2 a3)
          | (go_at_call 41; clear tk2; refine hget2.out _ hC1.out |>.mono ?_; rintro e w3 ⟨rfl, hb3⟩; have hC3 := Lib.hid (hC1.out.below hb3); clear hb3 d0 d1 d2 d3 d4 d5 d6 b0 b1 b2 b3; obtain ⟨d0, d1, d2, d3, d4, d5, d6⟩ := hC3.out.b.cells; obtain ⟨b0, b1, b2, b3⟩ := quad_cell hC3.out.call)
          | (refine wpList_load_row rfl 36 (.tmp 2) rfl B0 rfl _ _ _ _ hC3.out.b.box Tryz.underlying36 rfl size_rf ?_)
          | (go_at_call 45; refine (rfails_any (p.sev s) _ _).mono ?_; rintro e w2 ⟨rfl, hb2⟩; have hC2 := Lib.hid (hC3.out.below hb2); clear hb2; obtain ⟨W9, hW9, s9, f9, hfin⟩ := hC2.out.last)
          | (refine wpList_store_row rfl 36 (.tmp 4) (.tmp 45) rfl B2 _ rfl rfl _ _ hC2.out.r1 size_rf rfl (p.sev s).one ?_; rw [hW9.out]))
        obtain ⟨h1, h2, h3, h4, _⟩ := hfin.out (.int .i64 81) (.slice none 0 0) (.slice none 0 0)
        refine ret_rfr rfl B2 B3 (p.cs s) _ rfl rfl _ _ (0, 0) (0, 0) rfl rfl h1 h2 rfl ?_
        exact ⟨_, rfl, h4, h3⟩
      · have hh' : hasE s.d.now t = false := by simpa using hh
        rw [hh'] at hget2
        have Hno := Lib.hid hh'
        have hmany := hok.many
        obtain ⟨most, hm⟩ : ∃ m, Hid (s.most = m) := ⟨_, rfl⟩
        obtain ⟨mn, hmn⟩ : ∃ m, Hid (s.d.now.length = m) := ⟨_, rfl⟩
        by_cases hge : s.most ≤ s.many
        · have e0 : s.may t = 90 := by unfold Fo.may; rw [if_neg Hne.out, if_neg hh, if_pos hge]
          rw [e0, if_neg (by decide)]
          rw [hmany] at hge
          clear e0 hh hh' hmany
          have hd : decide (most ≤ (mn : Int)) = true := by rw [← hm.out, ← hmn.out]; exact decide_eq_true hge
          go_enter Tryz.func44, Tryz.ntmps44
          go_upto_region 1 with fail
          rw [hB3.out, hB2.out, hB1.out, hB0.out, HWW.out]
          go_upto_region 9 with (first | (go_at_call 41; clear tk1; refine hget.out.mono ?_; rintro e w1 ⟨rfl, hb1⟩; have hC1 := Lib.hid (hC.out.below hb1); clear hb1; obtain ⟨d0, d1, d2, d3, d4, d5, d6⟩ := hC1.out.b.cells; obtain ⟨b0, b1, b2, b3⟩ := quad_cell hC1.out.call; clear c0 c1 c2 c3 c4 c5 c6 a0 a1 a2 a3) | (go_at_call 41; clear tk2; refine hget2.out _ hC1.out |>.mono ?_; rintro e w3 ⟨rfl, hb3⟩; have hC3 := Lib.hid (hC1.out.below hb3); clear hb3 d0 d1 d2 d3 d4 d5 d6 b0 b1 b2 b3; obtain ⟨d0, d1, d2, d3, d4, d5, d6⟩ := hC3.out.b.cells; obtain ⟨b0, b1, b2, b3⟩ := quad_cell hC3.out.call))
          rw [hm.out] at d5
          go_region_held3 (fun wx => wx.cell? ⟨B0, 0, none⟩ = some (.slice p.D p.nD p.cD) ∧ wx.cell? ⟨B0, 1, none⟩ = some (.slice p.O p.nO p.cO) ∧ wx.cell? ⟨B0, 5, none⟩ = some (.int .i64 most)) (first | exact ⟨d0, d1, d5⟩ | exact ⟨e0', e1', e5'⟩) (first | (go_at_call 31; refine (hlist.out _ (hC3.out.below (Below.refl _ _).drew)).mono ?_; rintro e w5 ⟨A5, n5, c5, rfl, hn5, _, hb5⟩; have hC5 := Lib.hid ((hC3.out.below (Below.refl _ _).drew).below hb5); have hq5 : n5 = mn := hn5.trans hmn.out; subst hq5; clear hb5 hn5; obtain ⟨e0', e1', e2', e3', e4', e5', e6'⟩ := hC5.out.b.cells; rw [hm.out] at e5'))
          go_wp2_with (first
            | (refine wpList_load_row rfl 36 (.tmp 2) rfl B0 rfl _ _ _ _ hC5.out.b.box Tryz.underlying36 rfl size_rf ?_)
            | (go_at_call 45; refine (rfails_any (p.sev s) _ _).mono ?_; rintro e w2 ⟨rfl, hb2⟩; have hC2 := Lib.hid (hC5.out.below hb2); clear hb2; obtain ⟨W9, hW9, s9, f9, hfin⟩ := hC2.out.last)
            | (refine wpList_store_row rfl 36 (.tmp 4) (.tmp 57) rfl B2 _ rfl rfl _ _ hC2.out.r1 size_rf rfl (p.sev s).one ?_; rw [hW9.out]))
          obtain ⟨h1, h2, h3, h4, _⟩ := hfin.out (.int .i64 90) (.slice none 0 0) (.slice none 0 0)
          refine ret_rfr rfl B2 B3 (p.cs s) _ rfl rfl _ _ (0, 0) (0, 0) rfl rfl h1 h2 rfl ?_
          exact ⟨_, rfl, h4, h3⟩
        · have e0 : s.may t = 0 := by unfold Fo.may; rw [if_neg Hne.out, if_neg hh, if_neg hge]
          rw [e0, if_pos rfl]
          rw [hmany] at hge
          clear e0 hh hh' hmany
          have hd : decide (most ≤ (mn : Int)) = false := by rw [← hm.out, ← hmn.out]; exact decide_eq_false hge
          clear hge
          go_enter Tryz.func44, Tryz.ntmps44
          go_upto_region 1 with fail
          rw [hB3.out, hB2.out, hB1.out, hB0.out, HWW.out]
          go_upto_region 9 with (first | (go_at_call 41; clear tk1; refine hget.out.mono ?_; rintro e w1 ⟨rfl, hb1⟩; have hC1 := Lib.hid (hC.out.below hb1); clear hb1; obtain ⟨d0, d1, d2, d3, d4, d5, d6⟩ := hC1.out.b.cells; obtain ⟨b0, b1, b2, b3⟩ := quad_cell hC1.out.call; clear c0 c1 c2 c3 c4 c5 c6 a0 a1 a2 a3) | (go_at_call 41; clear tk2; refine hget2.out _ hC1.out |>.mono ?_; rintro e w3 ⟨rfl, hb3⟩; have hC3 := Lib.hid (hC1.out.below hb3); clear hb3 d0 d1 d2 d3 d4 d5 d6 b0 b1 b2 b3; obtain ⟨d0, d1, d2, d3, d4, d5, d6⟩ := hC3.out.b.cells; obtain ⟨b0, b1, b2, b3⟩ := quad_cell hC3.out.call))
          rw [hm.out] at d5
          go_region_held3 (fun wx => wx.cell? ⟨B0, 0, none⟩ = some (.slice p.D p.nD p.cD) ∧ wx.cell? ⟨B0, 1, none⟩ = some (.slice p.O p.nO p.cO) ∧ wx.cell? ⟨B0, 5, none⟩ = some (.int .i64 most)) (first | exact ⟨d0, d1, d5⟩ | exact ⟨e0', e1', e5'⟩) (first | (go_at_call 31; refine (hlist.out _ (hC3.out.below (Below.refl _ _).drew)).mono ?_; rintro e w5 ⟨A5, n5, c5, rfl, hn5, _, hb5⟩; have hC5 := Lib.hid ((hC3.out.below (Below.refl _ _).drew).below hb5); have hq5 : n5 = mn := hn5.trans hmn.out; subst hq5; clear hb5 hn5; obtain ⟨e0', e1', e2', e3', e4', e5', e6'⟩ := hC5.out.b.cells; rw [hm.out] at e5'))
          go_upto_region 12 with (first | (go_at_call 79; refine (hC5.out.link hok (by omega) vv).mono ?_; rintro e w8 ⟨u, rfl, A8, n8, k8, rfl, hC8, hD8⟩; have HC8 := Lib.hid hC8; have HD8 := Lib.hid hD8; clear hC8 hD8; obtain ⟨m0, m1, m2, m3, m4, m5, m6⟩ := HC8.out.b.cells; have mf := HC8.out.b.fz))
          obtain ⟨W9, hW9⟩ : ∃ W', Hid ((((w8.setCell ⟨B0, 2, none⟩ (.slice A8 n8 k8)).setCell ⟨B0, 3, none⟩ (.int .i64 s.q)).setCell ⟨B0, 4, none⟩ (.int .i64 (s.made : Int))) = W') := ⟨_, rfl⟩
          have hD9 := HD8.out
          rw [show tset w8 B0 A8 n8 k8 s.q (s.made : Int) = W9 from hW9.out] at hD9
          rw [hW9.out]
          have HD9 := Lib.hid hD9
          clear hD9 m0 m1 m2 m3 m4 m5 m6 mf d0 d1 d2 d3 d4 d5 d6 b0 b1 b2 b3
          obtain ⟨x0, x1, x2, x3, x4, x5, x6⟩ := HD9.out.b.cells
          obtain ⟨y0, y1, y2, y3⟩ := quad_cell HD9.out.call
          have hok2 := Lib.hid (hok.doLink vv)
          have had := Lib.hid (HD9.out.add hok2.out (by omega) t vv ⟨ht, Hv.out⟩ Hne.out Hv0.out Hno.out)
          go_upto_region 13 with (first | (go_at_call 80; refine had.out.mono ?_; rintro e w10 ⟨u, rfl, A10, n10, k10, O10, j10, l10, rfl, hC10, hD10⟩; have HC10 := Lib.hid hC10; have HD10 := Lib.hid hD10; clear hC10 hD10; obtain ⟨m0, m1, m2, m3, m4, m5, m6⟩ := HC10.out.b.cells; have mf := HC10.out.b.fz))
          obtain ⟨W11, hW11⟩ : ∃ W', Hid (((w10.setCell ⟨B0, 0, none⟩ (.slice A10 n10 k10)).setCell ⟨B0, 1, none⟩ (.slice O10 j10 l10)) = W') := ⟨_, rfl⟩
          have hD11 := HD10.out
          rw [show dset w10 B0 A10 O10 n10 k10 j10 l10 = W11 from hW11.out] at hD11
          rw [hW11.out]
          have HD11 := Lib.hid hD11
          clear hD11 m0 m1 m2 m3 m4 m5 m6 mf x0 x1 x2 x3 x4 x5 x6 y0 y1 y2 y3
          obtain ⟨x0, x1, x2, x3, x4, x5, x6⟩ := HD11.out.b.cells
          clear x0 x1 x2 x3 x4 x5 x6
          obtain ⟨cs, W12, hsv, hbx, hr1, hW12, s12, f12, hfin⟩ := HD11.out.last2
          go_wp2_with (first
            | (refine wpList_load_row rfl 36 (.tmp 2) rfl B0 rfl _ _ _ _ hbx.out Tryz.underlying36 rfl (by rw [hsv.out.n]; exact size_rf) ?_)
            | (refine wpList_store_row rfl 36 (.tmp 4) (.tmp 77) rfl B2 _ rfl rfl _ _ hr1.out (by rw [hsv.out.n]; exact size_rf) (by rw [hsv.out.n]; rfl) hsv.out.one ?_; rw [hW12.out]))
          obtain ⟨h1, h2, h3, h4, _⟩ := hfin.out (.int .i64 0) (.slice none 0 0) (.slice none 0 0)
          refine ret_rfr rfl B2 B3 cs _ hsv.out.n rfl _ _ (0, 0) (0, 0) rfl rfl h1 h2 rfl ?_
          exact ⟨_, rfl, h4, h3.many _⟩
end
end Go.Proofs.YtbhmnmmockmibaaGreat
