/- The reference's Diff. Conditions: texts of at most 10^6 bytes. -/
import Derived.Test.YtohgghaooppcoaaDlP
import Derived.Test.YtohgghaooppcoaaDlI
import Derived.Deep.CutRange
namespace Go.Proofs.Ytohgghaooppcoaa
open Go.RowKit Go.Lib

/-- Do two texts go on in common behind n bytes? -/
def cond (a b : List UInt8) (n : Nat) : Bool := decide (n < a.length ∧ n < b.length ∧ a[n]? = b[n]?)
theorem cond_a {a b : List UInt8} {n : Nat} (h : ¬ n < a.length) : cond a b n = false := by simp [cond, h]
theorem cond_b {a b : List UInt8} {n : Nat} (h : ¬ n < b.length) : cond a b n = false := by simp [cond, h]
theorem cond_c {a b : List UInt8} {n : Nat} {x y : UInt8} (h1 : n < a.length) (h2 : n < b.length) (hx : Hid (a[n]? = some x)) (hy : Hid (b[n]? = some y)) : cond a b n = decide (x = y) := by
  unfold cond
  rw [hx.out, hy.out]
  simp [h1, h2]
theorem cond_t {a b : List UInt8} {n : Nat} (h : cond a b n = true) (ht : Hid (a.take n = b.take n)) : n < a.length ∧ n < b.length ∧ Hid (a.take (n + 1) = b.take (n + 1)) := by
  simp only [cond, decide_eq_true_eq] at h
  obtain ⟨h1, h2, h3⟩ := h
  refine ⟨h1, h2, ?_⟩
  have e1 : a[n]? = some a[n] := List.getElem?_eq_getElem h1
  exact take_on ht.out e1 (by show _ = _; rw [← h3]; exact e1)
theorem cond_f {a b : List UInt8} {n : Nat} (h : cond a b n = false) (ht : Hid (a.take n = b.take n)) (h1 : n ≤ a.length) (h2 : n ≤ b.length) : cpl a b = n := by
  simp only [cond, decide_eq_false_iff_not] at h
  refine cpl_of n a b ht.out h1 h2 ?_
  by_cases g1 : n < a.length
  · by_cases g2 : n < b.length
    · exact .inr (.inr fun e => h ⟨g1, g2, e⟩)
    · exact .inr (.inl (by omega))
  · exact .inl (by omega)
theorem rev_from {l : List UInt8} {h n k : Nat} {x : UInt8} (hk : k + n + 1 = l.length) (hn : n < l.length - h) (hx : Hid (l[k]? = some x)) : Hid ((l.drop h).reverse[n]? = some x) := by
  obtain ⟨k', rfl⟩ : ∃ k', k = h + k' := ⟨k - h, by omega⟩
  refine rev_get (k := k') (by rw [List.length_drop]; omega) ?_
  show _ = _
  rw [List.getElem?_drop]
  exact hx.out
theorem dif_oks (a b : List UInt8) (ha : a.length ≤ 2147483647) (hb : b.length ≤ 1099511627) : Oks (dif a b) := fun x hx => by
  have h := rt_n (List.all_eq_true.1 (dif_ok a b ha).rt x hx)
  exact ⟨by omega, by omega, Nat.le_trans (dif_s a b x hx) hb⟩
theorem dif_sumS (a b : List UInt8) (hb : b.length ≤ 1099511627) : sumS (dif a b) ≤ 1099511627 := by
  unfold dif dfl flush
  have : ((b.drop (dh a b)).take (b.length - dh a b - de a b)).length ≤ b.length := by simp; omega
  split <;> split <;> split <;> split <;> simp [sumS, eR, eI, eD] at this ⊢ <;> omega
set_option maxHeartbeats 4000000 in
set_option maxRecDepth 100000 in
theorem refDiff_any (a b : List UInt8) (w : World) (ha : a.length ≤ 1000000) (hb : b.length ≤ 1000000) :
    Calls Try.prog 27 #[.string (txt a), .string (txt b)] w fun e w' => (∃ A c, e = .returned (.slice A (dif a b).length c) ∧ RdE w' w'.heap.size A (dif a b)) ∧ Below w.heap.size w w' := by
  have hza := Lib.hid (txt_size a)
  have hzb := Lib.hid (txt_size b)
  have hlaI : ((txt a).size : Int) ≤ 1000000 := by rw [hza.out]; omega
  have hlbI : ((txt b).size : Int) ≤ 1000000 := by rw [hzb.out]; omega
  have h1 := dh_le a b
  have h2 := de_le a b
  obtain ⟨h, Hh⟩ : ∃ h, Hid (dh a b = h) := ⟨_, rfl⟩
  obtain ⟨e, He⟩ : ∃ e, Hid (de a b = e) := ⟨_, rfl⟩
  have Hd : Hid (dif a b = dfl h ((b.drop h).take (b.length - h - e)) (a.length - h - e) e) := by
    show _ = _
    unfold dif
    rw [Hh.out, He.out]
  rw [Hh.out] at h1 h2
  rw [He.out] at h2
  have Hcb : Hid (cpl a b = h) := Hh.out
  have Hce : Hid (cpl (a.drop h).reverse (b.drop h).reverse = e) := by rw [← Hh.out]; exact He.out
  have H1 := Lib.hid h1
  have H2 := Lib.hid h2
  clear ha hb h1 h2
  go_enter Try.func27, Try.ntmps27
  go_wp2
  go_loopw [5] (fun v wr => ∃ n : Nat, v = .int .i64 (n : Int) ∧ n ≤ (txt a).size ∧ n ≤ (txt b).size ∧ Hid (a.take n = b.take n) ∧ Below w.heap.size w wr) (fun v _ => (txt a).size - (Lib.intOf v).toNat)
  case atStart => exact ⟨0, rfl, by omega, by omega, rfl, .refl _ _⟩
  case round =>
    obtain ⟨n, rfl, hna, hnb, htk, hbw⟩ := hrel
    go_upto_region 2 with fail
    go_cut [28] from 10 to 28 (fun s wx => s = .bool (cond a b n) ∧ Below wr.heap.size wr wx)
    case first =>
      rename_i J K1 hJ hK
      by_cases h1 : n < (txt a).size
      · have h1I : (n : Int) < ((txt a).size : Int) := by omega
        have hca := txt_get h1
        by_cases h2 : n < (txt b).size
        · have h2I : (n : Int) < ((txt b).size : Int) := by omega
          have hcb := txt_get h2
          obtain ⟨g1, g2⟩ := byte_eq (x := (txt a)[n]) (y := (txt b)[n])
          have Hv := Lib.hid (cond_c (by rw [← hza.out]; exact h1) (by rw [← hzb.out]; exact h2) hca hcb)
          rw [← Hv.out] at g1 g2
          go_quiet (fail)
          go_wp2
          refine Met.intro (hJ _ _ ?_)
          exact ⟨_, _, _, _, _, _, _, _, _, _, _, _, _, _, _, _, _, _, _, ⟨rfl, below_drewN (.refl _ _) _⟩, rfl⟩
        · have h2I : ¬ ((n : Int) < ((txt b).size : Int)) := by omega
          have h2d : decide ((n : Int) < ((txt b).size : Int)) = false := by simpa using h2I
          have Hv := Lib.hid (cond_b (a := a) (b := b) (n := n) (by rw [← hzb.out]; exact h2))
          go_quiet (fail)
          go_wp2
          refine Met.intro (hJ _ _ ?_)
          exact ⟨_, _, _, _, _, _, _, _, _, _, _, _, _, _, _, _, _, _, _, ⟨by rw [Hv.out], below_drewN (.refl _ _) _⟩, rfl⟩
      · have h1I : ¬ ((n : Int) < ((txt a).size : Int)) := by omega
        have h1d : decide ((n : Int) < ((txt a).size : Int)) = false := by simpa using h1I
        have Hv := Lib.hid (cond_a (a := a) (b := b) (n := n) (by rw [← hza.out]; exact h1))
        go_quiet (fail)
        go_wp2
        refine Met.intro (hJ _ _ ?_)
        exact ⟨_, _, _, _, _, _, _, _, _, _, _, _, _, _, _, _, _, _, _, ⟨by rw [Hv.out], below_drewN (.refl _ _) _⟩, rfl⟩
    obtain ⟨rfl, hb⟩ := hcut
    have hbb := hbw.trans (hb.mono hbw.size)
    clear hb
    rcases hid_bool (cond a b n) with hc | hc
    · rw [hc.out]
      obtain ⟨h1, h2, Ht⟩ := cond_t hc.out htk
      go_wp2
      go_roundw
      case rel => exact ⟨n + 1, by go_num, by rw [hza.out]; omega, by rw [hzb.out]; omega, Ht.out, hbb⟩
      case measure => simp [Lib.intOf]; rw [hza.out]; omega
    · rw [hc.out]
      obtain rfl : h = n := by rw [← Hcb.out]; exact cond_f hc.out htk (by rw [← hza.out]; exact hna) (by rw [← hzb.out]; exact hnb)
      obtain ⟨wo, rfl⟩ : ∃ wo : World, wo = wc := ⟨_, rfl⟩
      clear hbw hna hnb htk hc
      have Hs1 := Lib.hid (show IntKind.i64.wrap (((txt a).size : Int) - (h : Int)) = ((txt a).size : Int) - (h : Int) by rw [IntWalk.i64_in _ (by have := H1.out; have := hza.out; omega)])
      have Hs2 := Lib.hid (show IntKind.i64.wrap (((txt b).size : Int) - (h : Int)) = ((txt b).size : Int) - (h : Int) by rw [IntWalk.i64_in _ (by have := H1.out; have := hzb.out; omega)])
      have Hs3 := Lib.hid (show IntKind.i64.wrap (((txt a).size : Int) - 1) = ((txt a).size : Int) - 1 by rw [IntWalk.i64_in _ (by omega)])
      have Hs4 := Lib.hid (show IntKind.i64.wrap (((txt b).size : Int) - 1) = ((txt b).size : Int) - 1 by rw [IntWalk.i64_in _ (by omega)])
      have Hra := Lib.hid (show (a.drop h).reverse.length = a.length - h by simp)
      have Hrb := Lib.hid (show (b.drop h).reverse.length = b.length - h by simp)
      go_wp2
      go_loopw [6] (fun v wr => ∃ t : Nat, v = .int .i64 (t : Int) ∧ Hid (t ≤ (txt a).size - h) ∧ Hid (t ≤ (txt b).size - h) ∧ Hid ((a.drop h).reverse.take t = (b.drop h).reverse.take t) ∧ Below w.heap.size w wr) (fun v _ => (txt a).size - (Lib.intOf v).toNat)
      case atStart => exact ⟨0, rfl, Nat.zero_le _, Nat.zero_le _, rfl, hbb⟩
      case round =>
        obtain ⟨t, rfl, hna, hnb, htk, hbw⟩ := hrel
        have htI := Lib.hid (show (t : Int) ≤ 1000000 by have := hna.out; omega)
        go_upto_region 5 with fail
        go_cut [61] from 31 to 61 (fun s wx => s = .bool (cond (a.drop h).reverse (b.drop h).reverse t) ∧ Below wr.heap.size wr wx)
        case first =>
          rename_i J K1 hJ hK
          have s1 := Hs1.out
          have s2 := Hs2.out
          by_cases h1 : t < (txt a).size - h
          · have h1I : (t : Int) < ((txt a).size : Int) - (h : Int) := by omega
            by_cases h2 : t < (txt b).size - h
            · have h2I : (t : Int) < ((txt b).size : Int) - (h : Int) := by omega
              obtain ⟨ka, hka⟩ : ∃ ka, ka + t + 1 = (txt a).size := ⟨(txt a).size - 1 - t, by omega⟩
              obtain ⟨kb, hkb⟩ : ∃ kb, kb + t + 1 = (txt b).size := ⟨(txt b).size - 1 - t, by omega⟩
              have hla : ka < (txt a).size := by omega
              have hlb : kb < (txt b).size := by omega
              have hlaK : (ka : Int) < ((txt a).size : Int) := by omega
              have hlbK : (kb : Int) < ((txt b).size : Int) := by omega
              have hca := rev_from (h := h) (n := t) (by rw [← hza.out]; exact hka) (by rw [← hza.out]; exact h1) (txt_get hla)
              have hcb := rev_from (h := h) (n := t) (by rw [← hzb.out]; exact hkb) (by rw [← hzb.out]; exact h2) (txt_get hlb)
              have s3 := Hs3.out
              have s4 := Hs4.out
              have s5 : IntKind.i64.wrap (((txt a).size : Int) - 1 - (t : Int)) = (ka : Int) := by rw [IntWalk.i64_in _ (by omega)]; omega
              have s6 : IntKind.i64.wrap (((txt b).size : Int) - 1 - (t : Int)) = (kb : Int) := by rw [IntWalk.i64_in _ (by omega)]; omega
              obtain ⟨g1, g2⟩ := byte_eq (x := (txt a)[ka]) (y := (txt b)[kb])
              have Hv := Lib.hid (cond_c (n := t) (by rw [Hra.out, ← hza.out]; exact h1) (by rw [Hrb.out, ← hzb.out]; exact h2) hca hcb)
              rw [← Hv.out] at g1 g2
              clear hka hkb
              go_quiet (fail)
              go_wp2
              refine Met.intro (hJ _ _ ?_)
              exact ⟨_, _, _, _, _, _, _, _, _, _, _, _, _, _, _, _, _, _, _, _, _, _, _, _, _, _, _, _, _, _, _, ⟨rfl, below_drewN (.refl _ _) _⟩, rfl⟩
            · have h2I : ¬ ((t : Int) < ((txt b).size : Int) - (h : Int)) := by have := H1.out; have := hzb.out; omega
              have h2d : decide ((t : Int) < ((txt b).size : Int) - (h : Int)) = false := by simpa using h2I
              have Hv := Lib.hid (cond_b (a := (a.drop h).reverse) (b := (b.drop h).reverse) (n := t) (by rw [Hrb.out, ← hzb.out]; exact h2))
              go_quiet (fail)
              go_wp2
              refine Met.intro (hJ _ _ ?_)
              exact ⟨_, _, _, _, _, _, _, _, _, _, _, _, _, _, _, _, _, _, _, _, _, _, _, _, _, _, _, _, _, _, _, ⟨by rw [Hv.out], below_drewN (.refl _ _) _⟩, rfl⟩
          · have h1I : ¬ ((t : Int) < ((txt a).size : Int) - (h : Int)) := by have := H1.out; have := hza.out; omega
            have h1d : decide ((t : Int) < ((txt a).size : Int) - (h : Int)) = false := by simpa using h1I
            have Hv := Lib.hid (cond_a (a := (a.drop h).reverse) (b := (b.drop h).reverse) (n := t) (by rw [Hra.out, ← hza.out]; exact h1))
            go_quiet (fail)
            go_wp2
            refine Met.intro (hJ _ _ ?_)
            exact ⟨_, _, _, _, _, _, _, _, _, _, _, _, _, _, _, _, _, _, _, _, _, _, _, _, _, _, _, _, _, _, _, ⟨by rw [Hv.out], below_drewN (.refl _ _) _⟩, rfl⟩
        obtain ⟨rfl, hb⟩ := hcut
        have hbb2 := hbw.trans (hb.mono hbw.size)
        clear hb
        rcases hid_bool (cond (a.drop h).reverse (b.drop h).reverse t) with hc | hc
        · rw [hc.out]
          obtain ⟨h1, h2, Ht⟩ := cond_t hc.out htk
          rw [Hra.out, ← hza.out] at h1
          rw [Hrb.out, ← hzb.out] at h2
          go_wp2
          go_roundw
          case rel => exact ⟨t + 1, by go_num, by show _ ≤ _; omega, by show _ ≤ _; omega, Ht.out, hbb2⟩
          case measure => simp [Lib.intOf]; omega
        · rw [hc.out]
          obtain rfl : e = t := by rw [← Hce.out]; exact cond_f hc.out htk (by rw [Hra.out, ← hza.out]; exact hna.out) (by rw [Hrb.out, ← hzb.out]; exact hnb.out)
          have hbz := Lib.hid hbb2.size
          obtain ⟨na, Hna⟩ : ∃ na, Hid (a.length - h - e = na) := ⟨_, rfl⟩
          obtain ⟨nb, Hnb⟩ : ∃ nb, Hid (b.length - h - e = nb) := ⟨_, rfl⟩
          obtain ⟨cm, Hcm⟩ : ∃ cm, Hid ((b.drop h).take nb = cm) := ⟨_, rfl⟩
          rw [Hna.out, Hnb.out, Hcm.out] at Hd
          have Hncm := Lib.hid (show cm.length = nb by rw [← Hcm.out]; simp; have := H1.out; have := Hnb.out; omega)
          obtain ⟨m, Hm⟩ : ∃ m, Hid (m = h + nb) := ⟨_, rfl⟩
          obtain ⟨q, Hq⟩ : ∃ q, Hid (q = e + na) := ⟨_, rfl⟩
          have Hk1 := Lib.hid (show IntKind.i64.wrap ((h : Int) + (e : Int)) = (h : Int) + (e : Int) by rw [IntWalk.i64_in _ (by have := H2.out; have := hza.out; omega)])
          have Hk2 := Lib.hid (show IntKind.i64.wrap (((txt b).size : Int) - (e : Int)) = (m : Int) by rw [IntWalk.i64_in _ (by have := H2.out; have := hzb.out; omega)]; have := H2.out; have := hzb.out; have := Hnb.out; have := Hm.out; omega)
          have Hk3 := Lib.hid (show IntKind.i64.wrap (((txt a).size : Int) - (h : Int)) = (q : Int) by rw [IntWalk.i64_in _ (by have := H2.out; have := hza.out; omega)]; have := H2.out; have := hza.out; have := Hna.out; have := Hq.out; omega)
          have Hk4 := Lib.hid (show IntKind.i64.wrap ((q : Int) - (e : Int)) = (na : Int) by rw [IntWalk.i64_in _ (by have := H2.out; have := hza.out; have := Hna.out; have := Hq.out; omega)]; have := Hq.out; omega)
          have Hwb := Lib.hid hbb2
          clear hbb2 hbb hbw
          have Htx := Lib.hid (show (txt b).extract h m = txt cm by rw [txt_extract, Hm.out, show h + nb - h = nb by omega, Hcm.out])
          have hk1 := Hk1.out
          go_upto_if 65 with fail
          go_cut [7] from 64 to 70 (fun v wx => OwnE 61 w.heap.size wx v ((if 0 < h then [eR h] else [])) ∧ Below w.heap.size w wx)
          case first =>
            rename_i J K1 hJ hK
            by_cases hp : 0 < h
            · have hpI : (0 : Int) < (h : Int) := by omega
              go_wp2_with (at_builtin; refine push_ed edSl2 (.tmp 66) (.tmp 69) (eR h) rfl rfl rfl (OwnE.nil _ _ _) hbz.out (by simp) rfl rfl rfl rfl (by simp) ?_; intro v1 w1 own1 hb1 hbs1 hz1 hk1; have hbb1 := Hwb.out.trans hb1)
              refine Met.intro (hJ _ _ ?_)
              exact ⟨_, _, _, _, _, _, _, _, ⟨by rw [if_pos hp]; exact own1, hbb1⟩, rfl⟩
            · have hpI : ¬ ((0 : Int) < (h : Int)) := by omega
              go_wp2
              refine Met.intro (hJ _ _ ?_)
              exact ⟨_, _, _, _, _, _, _, _, ⟨by rw [if_neg hp]; exact OwnE.nil _ _ _, Hwb.out⟩, rfl⟩
          obtain ⟨own1, bel1⟩ := hcut
          have Own1 := Lib.hid own1
          have Bel1 := Lib.hid bel1
          have Len1 := Lib.hid (show ((if 0 < h then [eR h] else [])).length ≤ 1 by split <;> simp)
          clear own1 bel1
          go_upto_if 76 with fail
          go_cut [7] from 71 to 87 (fun v wx => OwnE 61 w.heap.size wx v ((if 0 < h then [eR h] else []) ++ (if cm ≠ [] then [eI cm] else [])) ∧ Below w.heap.size w wx)
          case first =>
            rename_i J K1 hJ hK
            by_cases hp : cm ≠ []
            · have hcP := List.length_pos_iff.2 hp
              have hpI : (h : Int) + (e : Int) < ((txt b).size : Int) := by have := hzb.out; have := Hncm.out; have := Hnb.out; omega
              have hk2 := Hk2.out
              have hm1 : h ≤ m := by have := Hm.out; omega
              have hm2 : (m : Int) ≤ ((txt b).size : Int) := by have := Hm.out; have := H2.out; have := hzb.out; have := Hnb.out; omega
              go_wp2_with (at_builtin; refine push_ed edSl2 (.tmp 77) (.tmp 86) (eI cm) rfl rfl Htx.out Own1.out Bel1.out.size (by have := Len1.out; omega) rfl rfl rfl rfl (by simp) ?_; intro v1 w1 own1 hb1 hbs1 hz1 hk1; have hbb1 := Bel1.out.trans hb1)
              refine Met.intro (hJ _ _ ?_)
              exact ⟨_, _, _, _, _, _, _, _, _, _, _, _, _, _, _, _, _, _, ⟨by rw [if_pos hp]; exact own1, hbb1⟩, rfl⟩
            · have hpI : ¬ ((h : Int) + (e : Int) < ((txt b).size : Int)) := by
                simp only [ne_eq, Classical.not_not] at hp
                have := hzb.out
                have := Hncm.out
                have := Hnb.out
                have := H2.out
                rw [hp] at *
                simp at *
                omega
              go_wp2
              refine Met.intro (hJ _ _ ?_)
              exact ⟨_, _, _, _, _, _, _, _, _, _, _, _, _, _, _, _, _, _, ⟨by rw [if_neg hp]; exact (by rw [List.append_nil]; exact Own1.out), Bel1.out⟩, rfl⟩
          obtain ⟨own2, bel2⟩ := hcut
          have Own2 := Lib.hid own2
          have Bel2 := Lib.hid bel2
          have Len2 := Lib.hid (show ((if 0 < h then [eR h] else []) ++ (if cm ≠ [] then [eI cm] else [])).length ≤ 2 by simp only [List.length_append]; by_cases g1 : 0 < h <;> by_cases g2 : cm = [] <;> simp [g1, g2])
          clear own2 bel2
          go_upto_if 93 with fail
          go_cut [7] from 88 to 103 (fun v wx => OwnE 61 w.heap.size wx v ((if 0 < h then [eR h] else []) ++ (if cm ≠ [] then [eI cm] else []) ++ (if 0 < na then [eD na] else [])) ∧ Below w.heap.size w wx)
          case first =>
            rename_i J K1 hJ hK
            by_cases hp : 0 < na
            · have hpI : (h : Int) + (e : Int) < ((txt a).size : Int) := by have := hza.out; have := Hna.out; omega
              have hk3 := Hk3.out
              have hk4 := Hk4.out
              go_wp2_with (at_builtin; refine push_ed edSl2 (.tmp 94) (.tmp 102) (eD na) rfl rfl rfl Own2.out Bel2.out.size (by have := Len2.out; omega) rfl rfl rfl rfl (by simp) ?_; intro v1 w1 own1 hb1 hbs1 hz1 hk1; have hbb1 := Bel2.out.trans hb1)
              refine Met.intro (hJ _ _ ?_)
              exact ⟨_, _, _, _, _, _, _, _, _, _, _, _, _, _, _, _, _, ⟨by rw [if_pos hp]; exact own1, hbb1⟩, rfl⟩
            · have hpI : ¬ ((h : Int) + (e : Int) < ((txt a).size : Int)) := by have := hza.out; have := Hna.out; have := H2.out; omega
              go_wp2
              refine Met.intro (hJ _ _ ?_)
              exact ⟨_, _, _, _, _, _, _, _, _, _, _, _, _, _, _, _, _, ⟨by rw [if_neg hp]; exact (by rw [List.append_nil]; exact Own2.out), Bel2.out⟩, rfl⟩
          obtain ⟨own3, bel3⟩ := hcut
          have Own3 := Lib.hid own3
          have Bel3 := Lib.hid bel3
          have Len3 := Lib.hid (show ((if 0 < h then [eR h] else []) ++ (if cm ≠ [] then [eI cm] else []) ++ (if 0 < na then [eD na] else [])).length ≤ 3 by simp only [List.length_append]; by_cases g1 : 0 < h <;> by_cases g2 : cm = [] <;> by_cases g3 : 0 < na <;> simp [g1, g2, g3])
          clear own3 bel3
          go_upto_if 105 with fail
          go_cut [7] from 104 to 110 (fun v wx => OwnE 61 w.heap.size wx v ((if 0 < h then [eR h] else []) ++ (if cm ≠ [] then [eI cm] else []) ++ (if 0 < na then [eD na] else []) ++ (if 0 < e then [eR e] else [])) ∧ Below w.heap.size w wx)
          case first =>
            rename_i J K1 hJ hK
            by_cases hp : 0 < e
            · have hpI : (0 : Int) < (e : Int) := by omega
              go_wp2_with (at_builtin; refine push_ed edSl2 (.tmp 106) (.tmp 109) (eR e) rfl rfl rfl Own3.out Bel3.out.size (by have := Len3.out; omega) rfl rfl rfl rfl (by simp) ?_; intro v1 w1 own1 hb1 hbs1 hz1 hk1; have hbb1 := Bel3.out.trans hb1)
              refine Met.intro (hJ _ _ ?_)
              exact ⟨_, _, _, _, _, _, _, _, ⟨by rw [if_pos hp]; exact own1, hbb1⟩, rfl⟩
            · have hpI : ¬ ((0 : Int) < (e : Int)) := by omega
              go_wp2
              refine Met.intro (hJ _ _ ?_)
              exact ⟨_, _, _, _, _, _, _, _, ⟨by rw [if_neg hp]; exact (by rw [List.append_nil]; exact Own3.out), Bel3.out⟩, rfl⟩
          obtain ⟨own4, bel4⟩ := hcut
          have Own4 := Lib.hid own4
          have Bel4 := Lib.hid bel4
          have Len4 := Lib.hid (show ((if 0 < h then [eR h] else []) ++ (if cm ≠ [] then [eI cm] else []) ++ (if 0 < na then [eD na] else []) ++ (if 0 < e then [eR e] else [])).length ≤ 4 by simp only [List.length_append]; by_cases g1 : 0 < h <;> by_cases g2 : cm = [] <;> by_cases g3 : 0 < na <;> by_cases g4 : 0 < e <;> simp [g1, g2, g3, g4])
          clear own4 bel4
          have HF : (if 0 < h then [eR h] else []) ++ (if cm ≠ [] then [eI cm] else []) ++ (if 0 < na then [eD na] else []) ++ (if 0 < e then [eR e] else []) = dif a b := by
            rw [Hd.out]
            unfold dfl flush
            simp
          have own5 := Own4.out
          rw [HF] at own5
          obtain ⟨A, c, rfl, hcap, _, hr⟩ := own5.reads
          have Hcap := Lib.hid hcap
          have Hr : Hid (RdE _ _ _ _) := hr
          have Hlen := Lib.hid (dif_len a b)
          have Hok := Lib.hid (dif_ok a b (by have := hza.out; omega))
          have HOks : Hid (Oks (dif a b)) := dif_oks a b (by have := hza.out; omega) (by have := hzb.out; omega)
          have HS := Lib.hid (dif_sumS a b (by have := hzb.out; omega))
          clear hr hcap own5
          go_wp2_with (go_at_call 16; refine (refNormal_any A c _ (dif a b) _ (by have := Hlen.out; omega) Hcap.out HOks.out HS.out (Nat.le_refl _) Hr.out).mono ?_; rintro _ w6 ⟨⟨A6, c6, rfl, hc6, hr6⟩, hb6⟩)
          go_ret
          refine ⟨⟨A6, c6, ?_, ?_⟩, Bel4.out.trans (hb6.mono Bel4.out.size)⟩
          · rw [Hok.out.nl]; rfl
          · rw [Hok.out.nl] at hr6; exact hr6
end Go.Proofs.Ytohgghaooppcoaa
