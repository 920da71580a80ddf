/- InodeKeeps's walk. Conditions: none. -/
import Derived.Test.YtlehkgogcbdckaaInZb
namespace Go.Proofs.Ytlehkgogcbdckaa
open Go.RowKit Go.Maps

set_option maxHeartbeats 16000000 in
set_option maxRecDepth 100000 in
theorem keeps_any {A Ak : Option Addr} {c ck B n nk : Nat} {l : List Ac} {keep : List Bool} {quota : Int} {w : World} (hq1 : -9223372036854775808 ≤ quota) (hq2 : quota ≤ 9223372036854775807) (hn : l.length = n) (hl : n ≤ 9223372036854775807) (hB : B ≤ w.heap.size) (hr : RdAc w B A l)
    (hnk : keep.length = nk) (hkl : nk ≤ 9223372036854775807) (hkc : nk ≤ ck) (hk : RdK w B Ak keep) :
    Calls Try.prog 3 #[.int .i64 quota, .slice A n c, .slice Ak nk ck] w fun e w' => e = .returned (.bool true) ∧ Below w.heap.size w w' := by
  have Hfew := Lib.hid (few_any (c := c) (t := 40) hn (by omega) hl hr)
  have Hworks := Lib.hid (works_any w)
  have hnkI : (nk : Int) ≤ 9223372036854775807 := by omega
  have Hnew := Lib.hid (WS.new (w0 := w) (w := w) quota hq1 hq2 (.refl _ _))
  obtain ⟨q, hq⟩ : ∃ q, Hid (max quota 0 = q) := ⟨_, rfl⟩
  have hq0 : 0 ≤ q := by rw [← hq.out]; omega
  have hqM : q ≤ 9223372036854775807 := by rw [← hq.out]; omega
  obtain ⟨t, ht⟩ : ∃ t, Hid (w.heap.size = t) := ⟨_, rfl⟩
  rw [ht.out, hq.out] at Hnew
  have Hn := Lib.hid hn
  have HB := Lib.hid hB
  have Hr := Lib.hid hr
  have Hnk := Lib.hid hnk
  have Hkc := Lib.hid hkc
  have Hk := Lib.hid hk
  have Hl := Lib.hid hl
  have hif : (if quota < 0 then (0 : Int) else quota) = q := by rw [← hq.out]; split <;> omega
  have hmx : ∀ (ts : Array TypeId) (ty : TypeId) (w : World), (Builtin.max_ ts ty #[.int .i64 quota, .int .i64 0]).run Try.prog w = .ok (.int .i64 q) w := fun ts ty w => by rw [run_max_int2, ← hif]
  clear hif
  clear hn hl hB hr hnk hkl hkc hk hq1 hq2
  go_enter Try.func3, Try.ntmps3
  by_cases hbig : 60 < nk
  · have hbigI : (60 : Int) < (nk : Int) := by omega
    go_wp2_with (first
      | (go_at_call 5; refine Hfew.out.mono ?_; rintro e w1 ⟨b, rfl, _, rfl⟩; cases b)
      | (go_at_call 6; refine Hworks.out.mono ?_; rintro e w1 ⟨rfl, hb⟩))
    all_goals
      go_ret
      exact ⟨rfl, hb⟩
  have hsmI : (nk : Int) ≤ 60 := by omega
  have hsmd : decide ((60 : Int) < (nk : Int)) = false := by rw [decide_eq_false_iff_not]; omega
  go_wp2_with (first
    | (go_at_call 5; refine Hfew.out.mono ?_; rintro e w1 ⟨b, rfl, hbt, rfl⟩; cases b)
    | (go_at_call 6; refine Hworks.out.mono ?_; rintro e w1 ⟨rfl, hb⟩)
    | (go_at_call 7; refine Hnew.out.mono ?_; rintro e w2 ⟨rfl, h1⟩))
  · go_ret
    exact ⟨rfl, hb⟩
  have hsmA := Lib.hid (show SmA l 40 by simpa using hbt)
  have hnI : (n : Int) ≤ 40 := by have := hsmA.out.1; rw [Hn.out] at this; omega
  have hst0 : Hid (L1 _ t q 0 0 [] w2) := ⟨h1, by show ((0 : Nat) : Int) ≤ q; omega⟩
  clear hbt h1 Hnew Hfew
  go_loopw [8, 9] (fun lv iv wr => ∃ (k made : Nat) (fs : List Fi), k ≤ n ∧ iv = .int .i64 (k : Int) ∧ lv = .int .i64 (made : Int) ∧ Hid (L1 w1 t q k made fs wr)) (fun _ i _ => n - (Go.Lib.intOf i).toNat)
  case atStart => exact ⟨0, 0, [], by omega, rfl, rfl, hst0⟩
  case round =>
    clear hst0
    obtain ⟨k, made, fs, hk, rfl, rfl, hst⟩ := hrel
    by_cases hlt : k < n
    · have hw := hst.out.ws.below
      obtain ⟨ad, a, rfl, hab, hcs0, hx, hrow, hnums, htold, hok⟩ := Hr.out.at_ (k := k) (by rw [Hn.out]; exact hlt)
      have ha := hsmA.out.2 a (List.mem_of_getElem? hx.out)
      have HD := Lib.hid (fun wx (hb : Below w1.heap.size w1 wx) => hcs0.below (by rw [block_of_add]; exact Nat.lt_of_lt_of_le hab HB.out) hb)
      obtain ⟨d0, d1, d2, d3, d4⟩ := HD.out wr hw
      have hkI : (k : Int) < (n : Int) := by omega
      have hkN : k ≤ 900 := by omega
      have hzb := hok.i
      have Hpick := Lib.hid (fun w => pick7_any a.k w)
      obtain ⟨p, hp⟩ : ∃ p, Hid (a.k % 7 = p) := ⟨_, rfl⟩
      have hp0 : 0 ≤ p := by rw [← hp.out]; omega
      have hp7 : p < 7 := by rw [← hp.out]; omega
      have hmadeI : (made : Int) ≤ 40 := by have := (hst.out.ws.ok none).made; have : made ≤ k := this; omega
      rw [hp.out] at Hpick
      obtain ⟨z, hz⟩ : ∃ z, Hid (a.i = z) := ⟨_, rfl⟩
      rw [hz.out] at d1 hzb
      have Hzb := Lib.hid hzb
      have Hst := Lib.hid hst
      have Hrow := Lib.hid hrow
      have Hnums := Lib.hid hnums
      have Htold := Lib.hid htold
      have Hok := Lib.hid hok
      have Ha := Lib.hid ha
      have Hkk := Lib.hid hk
      have Hw := Lib.hid hw
      clear hw hzb hst hab hrow hnums htold hok ha hk hcs0
      by_cases h0 : p = 0
      · subst h0
        have Hmk := Lib.hid (Hst.out.out.ws.make (by omega))
        have hle : decide ((made : Int) + 1 ≤ (made : Int)) = false := by rw [decide_eq_false_iff_not]; omega
        go_upto_region 27 with (first
          | (go_at_call 8; refine (Hpick.out _).mono ?_; rintro e w3 ⟨rfl, rfl⟩)
          | (go_at_call 9; refine Hmk.out.mono ?_; rintro e w4 ⟨rfl, g, h4, _⟩; have H4 := Lib.hid h4; clear h4))
        have hus : Hid ((usedF (fs ++ [(⟨(made : Int) + 1, g, 0, []⟩ : Fi)]) : Int) ≤ q) := by rw [used_more _ rfl]; exact Hst.out.out.used
        have Hu := Lib.hid (H4.out.used (by omega))
        obtain ⟨U, hU⟩ : ∃ U, Hid (usedF (fs ++ [(⟨(made : Int) + 1, g, 0, []⟩ : Fi)]) = U) := ⟨_, rfl⟩
        have hUq : (U : Int) ≤ q := by rw [← hU.out]; exact hus.out
        have hUd : decide (q < (U : Int)) = false := by rw [decide_eq_false_iff_not]; omega
        rw [hU.out] at Hu
        go_wp2_with (go_at_call 14; refine Hu.out.mono ?_; rintro e wz ⟨rfl, hz5, _⟩; have HZ := Lib.hid hz5; clear hz5)
        go_roundw
        case rel => exact ⟨k + 1, made + 1, _, by omega, by go_num, by go_num, HZ.out.mono (by omega), hus.out⟩
        case measure => simp [Go.Lib.intOf]; omega
      by_cases h3 : p = 3
      · subst h3
        have Hmk := Lib.hid (Hst.out.out.ws.sync (by omega) (z := z) Hzb.out)
        go_upto_region 27 with (first
          | (go_at_call 8; refine (Hpick.out _).mono ?_; rintro e w3 ⟨rfl, rfl⟩)
          | (go_at_call 10; refine Hmk.out.mono ?_; rintro e w4 ⟨rfl, h4, _⟩; have H4 := Lib.hid h4; clear h4))
        have hus : Hid ((usedF (doSync fs z).1 : Int) ≤ q) := used_sync Hst.out.out.sort Hst.out.out.used
        have Hu := Lib.hid (H4.out.used (by omega))
        obtain ⟨U, hU⟩ : ∃ U, Hid (usedF ((doSync fs z).1) = U) := ⟨_, rfl⟩
        have hUq : (U : Int) ≤ q := by rw [← hU.out]; exact hus.out
        have hUd : decide (q < (U : Int)) = false := by rw [decide_eq_false_iff_not]; omega
        rw [hU.out] at Hu
        go_wp2_with (go_at_call 14; refine Hu.out.mono ?_; rintro e wz ⟨rfl, hz5, _⟩; have HZ := Lib.hid hz5; clear hz5)
        go_roundw
        case rel => exact ⟨k + 1, made, _, by omega, by go_num, by go_num, HZ.out.mono (by omega), hus.out⟩
        case measure => simp [Go.Lib.intOf]; omega
      by_cases h4 : p = 4
      · subst h4
        have Hmk := Lib.hid (Hst.out.out.ws.link (z := z) Hzb.out)
        go_upto_region 27 with (first
          | (go_at_call 8; refine (Hpick.out _).mono ?_; rintro e w3 ⟨rfl, rfl⟩)
          | (go_at_call 11; refine Hmk.out.mono ?_; rintro e w4 ⟨rfl, h4, _⟩; have H4 := Lib.hid h4; clear h4))
        have hus : Hid ((usedF (doLink fs z).1 : Int) ≤ q) := used_link Hst.out.out.sort Hst.out.out.used
        have Hu := Lib.hid (H4.out.used (by omega))
        obtain ⟨U, hU⟩ : ∃ U, Hid (usedF ((doLink fs z).1) = U) := ⟨_, rfl⟩
        have hUq : (U : Int) ≤ q := by rw [← hU.out]; exact hus.out
        have hUd : decide (q < (U : Int)) = false := by rw [decide_eq_false_iff_not]; omega
        rw [hU.out] at Hu
        go_wp2_with (go_at_call 14; refine Hu.out.mono ?_; rintro e wz ⟨rfl, hz5, _⟩; have HZ := Lib.hid hz5; clear hz5)
        go_roundw
        case rel => exact ⟨k + 1, made, _, by omega, by go_num, by go_num, HZ.out.mono (by omega), hus.out⟩
        case measure => simp [Go.Lib.intOf]; omega
      by_cases h5 : p = 5
      · subst h5
        have Hmk := Lib.hid (Hst.out.out.ws.drop (z := z) Hzb.out)
        go_upto_region 27 with (first
          | (go_at_call 8; refine (Hpick.out _).mono ?_; rintro e w3 ⟨rfl, rfl⟩)
          | (go_at_call 12; refine Hmk.out.mono ?_; rintro e w4 ⟨rfl, h4, _⟩; have H4 := Lib.hid h4; clear h4))
        have hus : Hid ((usedF (doDrop fs z).1 : Int) ≤ q) := used_drop Hst.out.out.sort Hst.out.out.used
        have Hu := Lib.hid (H4.out.used (by omega))
        obtain ⟨U, hU⟩ : ∃ U, Hid (usedF ((doDrop fs z).1) = U) := ⟨_, rfl⟩
        have hUq : (U : Int) ≤ q := by rw [← hU.out]; exact hus.out
        have hUd : decide (q < (U : Int)) = false := by rw [decide_eq_false_iff_not]; omega
        rw [hU.out] at Hu
        go_wp2_with (go_at_call 14; refine Hu.out.mono ?_; rintro e wz ⟨rfl, hz5, _⟩; have HZ := Lib.hid hz5; clear hz5)
        go_roundw
        case rel => exact ⟨k + 1, made, _, by omega, by go_num, by go_num, HZ.out.mono (by omega), hus.out⟩
        case measure => simp [Go.Lib.intOf]; omega
      by_cases h6 : p = 6
      · subst h6
        obtain ⟨nn, hnn⟩ : ∃ nn, Hid (a.ns.l.length = nn) := ⟨_, rfl⟩
        obtain ⟨kn, hkn⟩ : ∃ kn, Hid (a.q.l.length = kn) := ⟨_, rfl⟩
        have hnn20 : Hid (nn ≤ 20) := by rw [← hnn.out]; exact Ha.out.2.1
        have hkn30 : Hid (kn ≤ 30) := by rw [← hkn.out]; exact Ha.out.2.2
        have Hnm := Lib.hid (names_any (A := a.ns.A) (c := a.ns.c) (l := a.ns.l) (w := wr) (by have := Ha.out.2.1; omega) (Nat.le_trans HB.out Hw.out.size) (Reads.below Hnums.out (Hw.out.mono HB.out)))
        rw [hnn.out] at Hnm d3
        go_upto_region 23 with (first
          | (go_at_call 8; refine (Hpick.out _).mono ?_; rintro e w3 ⟨rfl, rfl⟩)
          | (go_at_call 13; refine Hnm.out.mono ?_; rintro e w4 ⟨va, vb, rfl, hnm⟩; have HNM := Lib.hid hnm; clear hnm))
        have H4 := Lib.hid ((Hst.out.out.ws.quiet HNM.out.below).1.used (by omega))
        clear d0 d1 d2 d3 d4
        go_upto_region 24 with (go_at_call 14; refine H4.out.mono ?_; rintro e w5 ⟨rfl, h5, ht5, hb5⟩)
        obtain ⟨d0, d1, d2, d3, d4⟩ := HD.out w5 h5.below
        have HO5 := Lib.hid (own_below HNM.out.a hb5 (Nat.le_refl _))
        obtain ⟨Av, cv, rfl, _, _, hrv⟩ := own_form HO5.out
        obtain ⟨np, hnp⟩ : ∃ np, Hid ((pairs a.ns.l).length = np) := ⟨_, rfl⟩
        have Hfit : Hid (FitE (pairs a.ns.l)) := pairs_fit Hok.out.nf
        have hrx : Hid (EnX w5 (fun _ => False) Av (pairs a.ns.l)) := RdX.of hrv (Nat.le_refl _) fun _ _ h => h
        have Hfl := Lib.hid (h5.fail (cap := cv) (ck := a.q.c) (by omega) hrx.out hnp.out (by rw [← hnp.out, pairs_len, hnn.out]; have := hnn20.out; omega) Hfit.out (told_in Htold.out HB.out h5.below) hkn.out (by rw [← hkn.out]; exact Hok.out.qc) (by have := hkn30.out; omega))
        rw [hkn.out] at d4
        have H5 := Lib.hid h5
        rw [hnp.out]
        clear h5 ht5 hb5 hrv d0 d1 d2 d3
        go_upto_region 25 with (go_at_call 15; refine Hfl.out.mono ?_; rintro e w6 ⟨rfl, h6, _⟩; have H6 := Lib.hid h6; clear h6)
        obtain ⟨U1, hU1⟩ : ∃ U1, Hid (usedF fs = U1) := ⟨_, rfl⟩
        obtain ⟨U2, hU2⟩ : ∃ U2, Hid (usedF (failT fs (pairs a.ns.l) a.q.l) = U2) := ⟨_, rfl⟩
        have Hu6 := Lib.hid (H6.out.used (by omega))
        rw [hU2.out] at Hu6
        rw [hU1.out]
        have hless : U2 ≤ U1 := by rw [← hU1.out, ← hU2.out]; exact failT_used _ _ _
        have hlessI : (U2 : Int) ≤ (U1 : Int) := by omega
        have hlessd : decide ((U1 : Int) < (U2 : Int)) = false := by rw [decide_eq_false_iff_not]; omega
        have hus : Hid ((usedF (failT fs (pairs a.ns.l) a.q.l) : Int) ≤ q) := used_fail Hst.out.out.used
        clear d4
        have tk1 := Lib.hid True.intro
        go_upto_region 27 with (first
          | (go_at_call 14; clear tk1; refine Hu6.out.mono ?_; rintro e w7 ⟨rfl, h7, _⟩; have H7 := Lib.hid h7; have Hv7 := Lib.hid (h7.vol (by omega)); rw [failT_vol] at Hv7; clear h7)
          | (go_at_call 16; refine Hv7.out.mono ?_; rintro e w8 ⟨rfl, h8, _⟩; have H8 := Lib.hid h8; clear h8))
        have Hu := Lib.hid (H8.out.used (by omega))
        obtain ⟨U, hU⟩ : ∃ U, Hid (usedF (failT fs (pairs a.ns.l) a.q.l) = U) := ⟨_, rfl⟩
        have hUq : (U : Int) ≤ q := by rw [← hU.out]; exact hus.out
        have hUd : decide (q < (U : Int)) = false := by rw [decide_eq_false_iff_not]; omega
        rw [hU.out] at Hu
        go_wp2_with (go_at_call 14; refine Hu.out.mono ?_; rintro e wz ⟨rfl, hz5, _⟩; have HZ := Lib.hid hz5; clear hz5)
        go_roundw
        case rel => exact ⟨k + 1, made, _, by omega, by go_num, by go_num, HZ.out.mono (by omega), hus.out⟩
        case measure => simp [Go.Lib.intOf]; omega
      have hne0 : (p == 0) = false := beq_eq_false_iff_ne.2 h0
      have hne3 : (p == 3) = false := beq_eq_false_iff_ne.2 h3
      have hne4 : (p == 4) = false := beq_eq_false_iff_ne.2 h4
      have hne5 : (p == 5) = false := beq_eq_false_iff_ne.2 h5
      have hne6 : (p == 6) = false := beq_eq_false_iff_ne.2 h6
      obtain ⟨nb, hnb⟩ : ∃ nb, Hid (a.r.l.length = nb) := ⟨_, rfl⟩
      have hnb20 : Hid (nb ≤ 20) := by rw [← hnb.out]; exact Ha.out.1
      rw [hnb.out] at d2
      have hS1 : Hid (Below wr.heap.size wr wr.drew) := (Below.refl _ _).drew
      have Hap := Lib.hid ((Hst.out.out.ws.quiet hS1.out).1.append (Ab := a.r.A) (cb := a.r.c) (by omega) (z := z) Hzb.out hnb.out (by have := hnb20.out; omega) (Nat.le_trans HB.out Hw.out.size) (Reads.below Hrow.out (Hw.out.drew.mono HB.out)))
      go_upto_region 9 with (go_at_call 8; refine (Hpick.out _).mono ?_; rintro e w3 ⟨rfl, rfl⟩)
      have HD2 : Hid (∀ wx, Below w1.heap.size w1 wx → wx.cell? ⟨(ad.add (k * 5)).block, (ad.add (k * 5)).off + 1, none⟩ = some (.int .i64 z) ∧ wx.cell? ⟨(ad.add (k * 5)).block, (ad.add (k * 5)).off + 2, none⟩ = some (.slice a.r.A nb a.r.c)) := fun wx hb => by
        have h1 := (HD.out wx hb).c1
        have h2 := (HD.out wx hb).c2
        rw [hz.out] at h1
        rw [hnb.out] at h2
        exact ⟨h1, h2⟩
      have hcc : w3.drew.cell? ⟨(ad.add (k * 5)).block, (ad.add (k * 5)).off + 1, none⟩ = some (.int .i64 z) ∧ w3.drew.cell? ⟨(ad.add (k * 5)).block, (ad.add (k * 5)).off + 2, none⟩ = some (.slice a.r.A nb a.r.c) := ⟨d1, d2⟩
      go_region_held3 (fun wx => wx.cell? ⟨(ad.add (k * 5)).block, (ad.add (k * 5)).off + 1, none⟩ = some (.int .i64 z) ∧ wx.cell? ⟨(ad.add (k * 5)).block, (ad.add (k * 5)).off + 2, none⟩ = some (.slice a.r.A nb a.r.c)) (first | exact hce | exact hcc) (first | (go_at_call 17; refine Hap.out.mono ?_; rintro e w4 ⟨rfl, h4', _⟩; have hce := HD2.out w4 h4'.below; have H4 := Lib.hid h4'; clear h4'))
      have hus : Hid ((usedF (doApp q fs z a.r.l).1 : Int) ≤ q) := used_app Hst.out.out.sort Hst.out.out.used
      clear hcc hce d0 d1 d2 d3 d4
      have Hu := Lib.hid (H4.out.used (by omega))
      obtain ⟨U, hU⟩ : ∃ U, Hid (usedF ((doApp q fs z a.r.l).1) = U) := ⟨_, rfl⟩
      have hUq : (U : Int) ≤ q := by rw [← hU.out]; exact hus.out
      have hUd : decide (q < (U : Int)) = false := by rw [decide_eq_false_iff_not]; omega
      rw [hU.out] at Hu
      go_wp2_with (go_at_call 14; refine Hu.out.mono ?_; rintro e wz ⟨rfl, hz5, _⟩; have HZ := Lib.hid hz5; clear hz5)
      go_roundw
      case rel => exact ⟨k + 1, made, _, by omega, by go_num, by go_num, HZ.out.mono (by omega), hus.out⟩
      case measure => simp [Go.Lib.intOf]; omega
    · obtain rfl : k = n := by omega
      have hall := Lib.hid (hst.out.ws.all (by omega))
      have hsrt := Lib.hid hst.out.sort
      have hws := Lib.hid hst.out.ws
      have hkI : ¬ (k : Int) < (k : Int) := by omega
      have hlt40 : Hid (k ≤ 40) := by show _ ≤ _; omega
      have hfl : Hid (fs.length ≤ k) := (hst.out.ws.ok none).len
      have hqq := Lib.hid (hst.out.ws.ok none).num
      have hmd := Lib.hid (hst.out.ws.ok none).made
      have hszs := Lib.hid (hst.out.ws.ok none).size
      clear hst
      go_upto_region 30 with (go_at_call 18; refine hall.out.mono ?_; rintro e w2 ⟨va, rfl, ho2, h2, _, hb2⟩; have HO2 := Lib.hid ho2; have H2 := Lib.hid h2; have HB2 := Lib.hid hb2; clear ho2 h2 hb2)
      obtain ⟨m, hm⟩ : ∃ m, Hid (fs.length = m) := ⟨_, rfl⟩
      have hmI : (m : Int) ≤ 40 := by have := hlt40.out; have := hfl.out; have := hm.out; omega
      have hml := manyC_len fs
      have ho3 := HO2.out
      unfold OwnEn at ho3
      rw [hml, hm.out] at ho3
      obtain ⟨Aa, ca, rfl, hca, _, _⟩ := own_form ho3
      have hL0 : Hid (L2 w1 w2 t q made k fs (mkS fs 0) (.slice Aa m ca) 0 [] (.slice none 0 0) w2) := by
        refine ⟨?_, ?_, Owns.nil _ _, rfl, rfl, fun b hb => (ho3.lt b hb).2, fun b hb => ?_, H2.out.below.size, Nat.le_refl _⟩
        · rw [mkS_zero]
          refine hws.out.more HB2.out fun b hb => .inr ?_
          rcases hb with hb | hb | hb
          · exact ho3.lt b hb
          · simp [Value.ownBlock] at hb
          · obtain ⟨r, hr, _⟩ := hb; cases hr
        · rw [oneE_zero, hm.out]
          exact own_base ho3 hws.out.below.size
        · obtain ⟨r, hr, _⟩ := hb; cases hr
      go_wp2_with fail
      clear hca hml ho3 hkI
      go_loopw [15, 16] (fun sv iv wx => ∃ (j : Nat) (rows : List Row), j ≤ m ∧ iv = .int .i64 (j : Int) ∧ Hid (L2 w1 w2 t q made k fs (mkS fs j) (.slice Aa m ca) j rows sv wx)) (fun _ i _ => m - (Go.Lib.intOf i).toNat)
      case atStart => exact ⟨0, [], by omega, rfl, hL0⟩
      case round =>
        clear hL0
        obtain ⟨j, rows, hj, rfl, hst⟩ := hrel
        by_cases hlt : j < m
        · have hjl : j < fs.length := by rw [hm.out]; exact hlt
          obtain ⟨f, hf⟩ : ∃ f, Hid (fs[j]? = some f) := ⟨_, List.getElem?_eq_getElem hjl⟩
          have hjI : (j : Int) < (m : Int) := by omega
          have hmem := List.mem_of_getElem? hf.out
          have hzb : Hid (-9223372036854775808 ≤ f.i ∧ f.i ≤ 9223372036854775807) := by
            have h1 := hqq.out f hmem
            have h2 := hmd.out
            have h3 := hlt40.out
            have h2 : made ≤ k := h2
            have h1 : 1 ≤ f.i ∧ f.i ≤ (made : Int) := h1
            show _ ∧ _
            omega
          obtain ⟨ga, cap, hva, _, _⟩ := hst.out.all.form (by omega)
          injection hva with hva1 hva2 hva3
          subst hva1
          obtain ⟨nx, hen⟩ := oneE_at (k := j) hf.out
          have hcA : wr.cell? ⟨ga, j * 2, none⟩ = some (.int .i64 f.i) := by
            have := hst.out.all.cells (g := ga) rfl (j * 2) _ (ecells_get hen).1
            rwa [lit_add, Nat.zero_add] at this
          obtain ⟨z, hz⟩ : ∃ z, Hid (f.i = z) := ⟨_, rfl⟩
          rw [hz.out] at hcA
          have Hst := Lib.hid hst
          clear hst hva2 hva3 hmem hen hjl
          by_cases hev : j % 2 = 0
          · have hsy := Lib.hid (Hst.out.out.ws.sync (by omega) (z := f.i) hzb.out)
            rw [mkS_even hsrt.out hf.out hev, hz.out] at hsy
            have hrm : ((j : Int).tmod 2) = 0 := by rw [Int.tmod_eq_emod_of_nonneg (by omega)]; omega
            have hrm2 : ((j : Int) % 2) = 0 := by omega
            go_upto_region 36 with (go_at_call 10; refine hsy.out.mono ?_; rintro e w4 ⟨rfl, h4, ht4⟩; have HL4 := Lib.hid (Hst.out.out.touch ht4 h4))
            clear h4 ht4 hcA
            have hcA : w4.cell? ⟨ga, j * 2, none⟩ = some (.int .i64 z) := by
              obtain ⟨n2, h2⟩ := oneE_at (k := j) hf.out
              have := HL4.out.all.cells (g := ga) rfl (j * 2) _ (ecells_get h2).1
              rw [hz.out] at this
              rwa [lit_add, Nat.zero_add] at this
            obtain ⟨x, hx, hxc⟩ := mkS_found (k := j + 1) hsrt.out hf.out
            have hby := Lib.hid (HL4.out.ws.bytes (by omega) (z := f.i) hzb.out hx)
            obtain ⟨L, hL⟩ : ∃ L, Hid (contM f.m = L) := ⟨_, rfl⟩
            obtain ⟨nb, hnb⟩ : ∃ nb, Hid (L.length = nb) := ⟨_, rfl⟩
            rw [hxc, hL.out, hnb.out, hz.out] at hby
            clear hx hxc
            go_upto_region 37 with (go_at_call 19; refine hby.out.mono ?_; rintro e w5 ⟨vb, rfl, hob, _, _, hb5⟩; obtain ⟨Ab, cb, rfl, _, _, hrb⟩ := own_form hob)
            have Hob := Lib.hid hob
            have Hb5 := Lib.hid hb5
            have hapo : Hid (∀ ad, (Row.mk Ab cb L).A = some ad → ad.block < w5.heap.size ∧ u15.ownBlock ≠ some ad.block) := by
              intro ad e
              have h1 := hob.lt ad.block (by have e : Ab = some ad := e; rw [e]; rfl)
              refine ⟨h1.2, fun e2 => ?_⟩
              have := (HL4.out.own.head.lt _ e2).2
              omega
            have Hrb : Hid (RdB w5 w5.heap.size Ab L) := by have := hrb; rw [← hnb.out] at this; exact this
            have hrl : Hid (rows.length ≤ 1099511627776) := by show _ ≤ _; rw [HL4.out.len]; omega
            have Hown := Lib.hid (HL4.out.own.below hb5)
            have Hbz : Hid (w2.heap.size ≤ w5.heap.size) := Nat.le_trans HL4.out.size.2 hb5.size
            clear hob hb5 hrb hcA
            go_upto_region 38 with (at_builtin; refine push_own (.tmp 155) (.tmp 157) (Row.mk Ab cb L) (by show _ = _; rw [← hnb.out]; rfl) Hown.out Hbz.out hrl.out Hrb.out hapo.out rfl rfl rfl rfl ?_; intro v6 w6 hO6 hg6 hk6 _)
            obtain ⟨g1, g2, g3, g4, g5, g6⟩ := HL4.out.push hf.out hL.out Hb5.out (by have := Hob.out; exact this) hO6 hg6 hk6
            have G1 := Lib.hid g1
            have G2 := Lib.hid g2
            have G3 := Lib.hid g3
            have G4 := Lib.hid g4
            have G5 := Lib.hid g5
            have G6 := Lib.hid g6
            have HO6 := Lib.hid hO6
            obtain ⟨n3, h3⟩ := oneE_at (k := j) hf.out
            have hcs := g2.cells (g := ga) rfl (j * 2 + 1) _ (ecells_get h3).2
            rw [lit_add, Nat.zero_add] at hcs
            have g2' := g2
            rw [hm.out] at g2'
            have hfz := g2'.frozenAt (j * 2 + 1)
            clear h3 g1 g2 g2' g3 g4 g5 g6 hO6 hg6 hk6
            go_wp2
            go_roundw
            case rel => exact ⟨j + 1, rows ++ [Row.mk Ab cb L], by omega, by go_num, L2.store hf.out rfl G1.out G2.out HO6.out G3.out G4.out HL4.out.alt G5.out ⟨HL4.out.size.1, G6.out⟩⟩
            case measure => simp [Go.Lib.intOf]; omega
          · have HL4 : Hid (L2 w1 w2 t q made k fs (mkS fs (j + 1)) (.slice (some ⟨ga, 0, none⟩) m ca) j rows u15 wr) := by rw [mkS_odd (by omega)]; exact Hst.out.out
            have hrm : ((j : Int).tmod 2) = 1 := by rw [Int.tmod_eq_emod_of_nonneg (by omega)]; omega
            have hrm2 : ((j : Int) % 2) = 1 := by omega
            go_upto_region 36 with fail
            obtain ⟨x, hx, hxc⟩ := mkS_found (k := j + 1) hsrt.out hf.out
            have hby := Lib.hid (HL4.out.ws.bytes (by omega) (z := f.i) hzb.out hx)
            obtain ⟨L, hL⟩ : ∃ L, Hid (contM f.m = L) := ⟨_, rfl⟩
            obtain ⟨nb, hnb⟩ : ∃ nb, Hid (L.length = nb) := ⟨_, rfl⟩
            rw [hxc, hL.out, hnb.out, hz.out] at hby
            clear hx hxc
            go_upto_region 37 with (go_at_call 19; refine hby.out.mono ?_; rintro e w5 ⟨vb, rfl, hob, _, _, hb5⟩; obtain ⟨Ab, cb, rfl, _, _, hrb⟩ := own_form hob)
            have Hob := Lib.hid hob
            have Hb5 := Lib.hid hb5
            have hapo : Hid (∀ ad, (Row.mk Ab cb L).A = some ad → ad.block < w5.heap.size ∧ u15.ownBlock ≠ some ad.block) := by
              intro ad e
              have h1 := hob.lt ad.block (by have e : Ab = some ad := e; rw [e]; rfl)
              refine ⟨h1.2, fun e2 => ?_⟩
              have := (HL4.out.own.head.lt _ e2).2
              omega
            have Hrb : Hid (RdB w5 w5.heap.size Ab L) := by have := hrb; rw [← hnb.out] at this; exact this
            have hrl : Hid (rows.length ≤ 1099511627776) := by show _ ≤ _; rw [HL4.out.len]; omega
            have Hown := Lib.hid (HL4.out.own.below hb5)
            have Hbz : Hid (w2.heap.size ≤ w5.heap.size) := Nat.le_trans HL4.out.size.2 hb5.size
            clear hob hb5 hrb hcA
            go_upto_region 38 with (at_builtin; refine push_own (.tmp 155) (.tmp 157) (Row.mk Ab cb L) (by show _ = _; rw [← hnb.out]; rfl) Hown.out Hbz.out hrl.out Hrb.out hapo.out rfl rfl rfl rfl ?_; intro v6 w6 hO6 hg6 hk6 _)
            obtain ⟨g1, g2, g3, g4, g5, g6⟩ := HL4.out.push hf.out hL.out Hb5.out (by have := Hob.out; exact this) hO6 hg6 hk6
            have G1 := Lib.hid g1
            have G2 := Lib.hid g2
            have G3 := Lib.hid g3
            have G4 := Lib.hid g4
            have G5 := Lib.hid g5
            have G6 := Lib.hid g6
            have HO6 := Lib.hid hO6
            obtain ⟨n3, h3⟩ := oneE_at (k := j) hf.out
            have hcs := g2.cells (g := ga) rfl (j * 2 + 1) _ (ecells_get h3).2
            rw [lit_add, Nat.zero_add] at hcs
            have g2' := g2
            rw [hm.out] at g2'
            have hfz := g2'.frozenAt (j * 2 + 1)
            clear h3 g1 g2 g2' g3 g4 g5 g6 hO6 hg6 hk6
            go_wp2
            go_roundw
            case rel => exact ⟨j + 1, rows ++ [Row.mk Ab cb L], by omega, by go_num, L2.store hf.out rfl G1.out G2.out HO6.out G3.out G4.out HL4.out.alt G5.out ⟨HL4.out.size.1, G6.out⟩⟩
            case measure => simp [Go.Lib.intOf]; omega
        · obtain rfl : j = m := by omega
          have hao := hst.out.all
          rw [hm.out] at hao
          obtain ⟨A9, c9, e9, _, _, hr9⟩ := own_form hao
          injection e9 with e91 e92 e93
          subst e91 e93
          have hex : EnX wr (fun _ => False) Aa (oneE fs j) := by
            refine RdX.of (B := wr.heap.size) ?_ (Nat.le_refl _) fun _ _ h => h
            rw [oneE_len, hm.out]
            exact hr9
          have hfit : FitE (oneE fs j) := by
            intro x hx
            have h3 := hlt40.out
            have h2 : made ≤ k := hmd.out
            rw [← hm.out, oneE_all, List.mem_map] at hx
            obtain ⟨f, hf, rfl⟩ := hx
            have h1 : 1 ≤ f.i ∧ f.i ≤ (made : Int) := hqq.out f hf
            exact ⟨by simp only; omega, by simp only; omega⟩
          have hfail := Lib.hid (hst.out.ws.fail (cap := ca) (ck := ck) (Ak := Ak) (by omega) hex (by rw [oneE_len, hm.out]) (by omega) hfit (told_in Hk.out HB.out hst.out.ws.below) Hnk.out Hkc.out (by omega))
          have Hst := Lib.hid hst
          obtain ⟨S, hS⟩ : ∃ S, Hid (failT (mkS fs j) (oneE fs j) keep = S) := ⟨_, rfl⟩
          rw [hS.out] at hfail
          have hjj : ¬ (j : Int) < (j : Int) := by omega
          clear hao hr9 hex hfit hst e92
          go_upto_region 39 with fail
          go_upto_region 40 with (go_at_call 15; refine hfail.out.mono ?_; rintro e w8 ⟨rfl, h8, ht8⟩; have HL8 := Lib.hid (Hst.out.out.touch ht8 h8))
          clear h8 ht8 hfail hjj
          go_wp2_with fail
          go_loopw [19] (fun iv wx => ∃ i : Nat, i ≤ j ∧ iv = .int .i64 (i : Int) ∧ Hid (L2 w1 w2 t q made k fs S (.slice Aa j ca) j rows u15 wx)) (fun i _ => j - (Go.Lib.intOf i).toNat)
          case atStart => exact ⟨0, by omega, rfl, HL8.out⟩
          case round =>
            clear HL8
            obtain ⟨i, hi, rfl, hst⟩ := hrel
            by_cases hlt : i < j
            · have hjl : i < fs.length := by rw [hm.out]; exact hlt
              obtain ⟨f, hf⟩ : ∃ f, Hid (fs[i]? = some f) := ⟨_, List.getElem?_eq_getElem hjl⟩
              have hiI : (i : Int) < (j : Int) := by omega
              have hzb : Hid (-9223372036854775808 ≤ f.i ∧ f.i ≤ 9223372036854775807) := by
                have h1 := hqq.out f (List.mem_of_getElem? hf.out)
                have h2 := hmd.out
                have h3 := hlt40.out
                have h2 : made ≤ k := h2
                have h1 : 1 ≤ f.i ∧ f.i ≤ (made : Int) := h1
                show _ ∧ _
                omega
              obtain ⟨ga, cap, hva, _, _⟩ := hst.out.all.form (by omega)
              injection hva with hva1 hva2 hva3
              subst hva1
              obtain ⟨nx, hen⟩ := oneE_at (k := j) hf.out
              have hcA : wr.cell? ⟨ga, i * 2, none⟩ = some (.int .i64 f.i) := by
                have := hst.out.all.cells (g := ga) rfl (i * 2) _ (ecells_get hen).1
                rwa [lit_add, Nat.zero_add] at this
              obtain ⟨gs, cps, hsv, _, _⟩ := hst.out.own.head.form (by rw [hst.out.len]; omega)
              rw [hst.out.len] at hsv
              subst hsv
              obtain ⟨r, hr, hrl⟩ := hst.out.row hlt hf.out
              obtain ⟨x, hx, hxl, hxe⟩ := sure_at (keep := keep) hsrt.out hf.out
              rw [hm.out, hS.out] at hx
              have hby := Lib.hid (hst.out.ws.bytes (by omega) (z := f.i) hzb.out hx)
              obtain ⟨z, hz⟩ : ∃ z, Hid (f.i = z) := ⟨_, rfl⟩
              obtain ⟨rA, rc, rl⟩ := r
              have hrl : rl = contM f.m := hrl
              have hrs : Hid ((contM f.m).length ≤ 1200) := by
                have h1 : Sz f.m k := hszs.out f (List.mem_of_getElem? hf.out)
                have h2 := h1.cont
                have h3 := hlt40.out
                have h4 : k * 30 ≤ 40 * 30 := Nat.mul_le_mul_right _ h3
                show _ ≤ _
                omega
              rw [← hrl] at hxl hxe hrs
              have Hr := Lib.hid hr
              have Hst := Lib.hid hst
              obtain ⟨Lx, hLx⟩ : ∃ Lx, Hid (contM x.m = Lx) := ⟨_, rfl⟩
              obtain ⟨nx2, hnx⟩ : ∃ nx2, Hid (Lx.length = nx2) := ⟨_, rfl⟩
              obtain ⟨nr, hnr⟩ : ∃ nr, Hid (rl.length = nr) := ⟨_, rfl⟩
              rw [hLx.out, hnx.out, hz.out] at hby
              rw [hLx.out] at hxl hxe
              rw [hnx.out, hnr.out] at hxl
              have hnx1 : Hid (nx2 ≤ 140737488351232) := by have h5 := hrs.out; rw [hnr.out] at h5; show _ ≤ _; omega
              rw [hz.out] at hcA
              have hxlI : (nx2 : Int) ≤ (nr : Int) := by omega
              have hxld : decide ((nr : Int) < (nx2 : Int)) = false := by rw [decide_eq_false_iff_not]; omega
              clear hst hva2 hva3 hen hjl hx hr hrl hxl
              go_upto_region 44 with (go_at_call 19; refine hby.out.mono ?_; rintro e w9 ⟨vb, rfl, hob, h9, ht9, hb9⟩; obtain ⟨Ab, cb, rfl, _, _, hrb⟩ := own_form hob)
              have HL9 := Lib.hid (Hst.out.out.touch ht9 h9)
              have Hrb : Hid (RdB w9 w9.heap.size Ab Lx) := by have := hrb; rw [← hnx.out] at this; exact this
              have hcS : w9.cell? ⟨gs, i, none⟩ = some (.slice rA nr rc) := by
                have := HL9.out.own.head.cells (g := gs) rfl i (Row.mk rA rc rl).v (by rw [List.getElem?_map, Hr.out]; rfl)
                rw [lit_add, Nat.zero_add] at this
                rw [← hnr.out]
                exact this
              have Hrs := Lib.hid (HL9.out.own.row _ (List.mem_of_getElem? Hr.out))
              clear hob h9 ht9 hb9 hrb hcA
              by_cases hev : i % 2 = 0
              · have hrm : ((i : Int).tmod 2) = 0 := by rw [Int.tmod_eq_emod_of_nonneg (by omega)]; omega
                have hrm2 : ((i : Int) % 2) = 0 := by omega
                have hsb := Lib.hid (sameBytes_n (c := cb) (c' := rc) hnx.out hnr.out hnx1.out Hrb.out Hrs.out)
                rw [hxe hev, decide_eq_true (rfl : rl = rl)] at hsb
                go_wp2_with (go_at_call 20; refine hsb.out.mono ?_; rintro e w10 ⟨rfl, hb10⟩)
                go_roundw
                case rel => exact ⟨i + 1, by omega, by go_num, HL9.out.below hb10⟩
                case measure => simp [Go.Lib.intOf]; omega
              · have hrm : ((i : Int).tmod 2) = 1 := by rw [Int.tmod_eq_emod_of_nonneg (by omega)]; omega
                have hrm2 : ((i : Int) % 2) = 1 := by omega
                go_wp2
                go_roundw
                case rel => exact ⟨i + 1, by omega, by go_num, HL9.out⟩
                case measure => simp [Go.Lib.intOf]; omega
            · obtain rfl : i = j := by omega
              have hw2 := Lib.hid (works_any wr)
              have hbw := Lib.hid hst.out.ws.below
              have hii : ¬ (i : Int) < (i : Int) := by omega
              clear hst
              go_wp2_with (go_at_call 6; refine hw2.out.mono ?_; rintro e w11 ⟨rfl, hb11⟩)
              go_ret
              exact ⟨rfl, hbw.out.trans (hb11.mono hbw.out.size)⟩
end Go.Proofs.Ytlehkgogcbdckaa
