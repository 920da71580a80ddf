/- The walk of ExtentKeeps: it holds. Conditions: none. -/
import Derived.Test.YtnlcohijopokjaaExT
namespace Go.Proofs.Ytnlcohijopokjaa
open Go.RowKit

theorem rdB_of {w : World} {X : Nat → Prop} {A : Option Addr} {n : Nat} {l : List UInt8} (h : RdX w X 1 A n (bs l)) (hn : l.length = n) : RdB w w.heap.size A l := by
  subst hn
  exact h.reads
def KpA (an aw : Addr) (nn nw cn cw q : Nat) (x : Int) : Nat → Value → World → Prop
  | 0, v, _ => v = .slice (some an) nn cn
  | 1, v, _ => v = .int .i64 (q : Int)
  | 2, v, _ => v = .pointer (some (an.add q))
  | 3, v, _ => v = .int .u8 x
  | 4, v, _ => v = .slice (some aw) nw cw
  | 5, v, _ => v = .int .i64 (q : Int)
  | 6, v, _ => v = .pointer (some (aw.add q))
  | 7, v, _ => v = .int .u8 x
  | 8, v, _ => v = .bool false
  | 9, v, _ => v = .bool false
  | 10, v, _ => v = undef
  | 11, v, _ => v = undef
  | 12, v, _ => v = undef
  | 13, v, _ => v = undef
  | 14, v, _ => v = undef
  | 15, v, _ => v = undef
  | 16, v, _ => v = undef
  | 17, v, _ => v = undef
  | 18, v, _ => v = undef
  | 19, v, _ => v = undef
  | 20, v, _ => v = undef
  | 21, v, _ => v = undef
  | 22, v, _ => v = undef
  | 23, v, _ => v = .bool false
  | _, _, _ => True
theorem KpA.keep {an aw : Addr} {nn nw cn cw q : Nat} {x : Int} (j : Nat) (u : Value) (w w' : World) (_hb : Below w.heap.size w w') (hfact : KpA an aw nn nw cn cw q x j u w) : KpA an aw nn nw cn cw q x j u w' :=
  match j, hfact with
  | 0, h => h
  | 1, h => h
  | 2, h => h
  | 3, h => h
  | 4, h => h
  | 5, h => h
  | 6, h => h
  | 7, h => h
  | 8, h => h
  | 9, h => h
  | 10, h => h
  | 11, h => h
  | 12, h => h
  | 13, h => h
  | 14, h => h
  | 15, h => h
  | 16, h => h
  | 17, h => h
  | 18, h => h
  | 19, h => h
  | 20, h => h
  | 21, h => h
  | 22, h => h
  | 23, h => h
  | _ + 24, h => h
def KpB (an aw : Addr) (nn nw cn cw q s : Nat) (y : Int) : Nat → Value → World → Prop
  | 0, v, _ => v = .slice (some an) nn cn
  | 1, v, _ => v = .int .i64 (q : Int)
  | 2, v, _ => v = .pointer (some (an.add q))
  | 3, v, _ => v = .int .u8 0
  | 4, v, _ => v = .slice (some aw) nw cw
  | 5, v, _ => v = .int .i64 (q : Int)
  | 6, v, _ => v = .pointer (some (aw.add q))
  | 7, v, _ => v = .int .u8 y
  | 8, v, _ => v = .bool true
  | 9, v, _ => v = .bool true
  | 10, v, _ => v = .slice (some an) nn cn
  | 11, v, _ => v = .int .i64 (q : Int)
  | 12, v, _ => v = .pointer (some (an.add q))
  | 13, v, _ => v = .int .u8 0
  | 14, v, _ => v = .bool false
  | 15, v, _ => v = .bool false
  | 16, v, _ => v = .int .i64 (q : Int)
  | 17, v, _ => v = .int .i64 (s : Int)
  | 18, v, _ => v = .bool false
  | 19, v, _ => v = .bool false
  | 20, v, _ => v = .bool false
  | 21, v, _ => v = .bool false
  | 22, v, _ => v = .bool false
  | 23, v, _ => v = .bool false
  | _, _, _ => True
theorem KpB.keep {an aw : Addr} {nn nw cn cw q s : Nat} {y : Int} (j : Nat) (u : Value) (w w' : World) (_hb : Below w.heap.size w w') (hfact : KpB an aw nn nw cn cw q s y j u w) : KpB an aw nn nw cn cw q s y j u w' :=
  match j, hfact with
  | 0, h => h
  | 1, h => h
  | 2, h => h
  | 3, h => h
  | 4, h => h
  | 5, h => h
  | 6, h => h
  | 7, h => h
  | 8, h => h
  | 9, h => h
  | 10, h => h
  | 11, h => h
  | 12, h => h
  | 13, h => h
  | 14, h => h
  | 15, h => h
  | 16, h => h
  | 17, h => h
  | 18, h => h
  | 19, h => h
  | 20, h => h
  | 21, h => h
  | 22, h => h
  | 23, h => h
  | _ + 24, h => h

set_option maxHeartbeats 8000000 in
set_option maxRecDepth 100000 in
theorem keeps7_any {A Ak Ag : Option Addr} {c ck cg B n nk ng : Nat} {l : List Ac} {kl ag : List Bool} {w : World} (hB : B ≤ w.heap.size) (hr : RdAc w B A l) (hn : l.length = n) (hnl : n ≤ 9223372036854775807)
    (hkr : RdK w B Ak kl) (hkn : kl.length = nk) (hkc : nk ≤ ck) (hkl : nk ≤ 9223372036854775807) (hgr : RdK w B Ag ag) (hgn : ag.length = ng) (hgc : ng ≤ cg) (hgl : ng ≤ 9223372036854775807) :
    Calls Try.prog 4 #[.slice A n c, .slice Ak nk ck, .slice Ag ng cg] w fun e w' => e = .returned (.bool true) ∧ Below w.heap.size w w' := by
  have hnI : (n : Int) ≤ 9223372036854775807 := by omega
  have hkI : (nk : Int) ≤ 9223372036854775807 := by omega
  have hgI : (ng : Int) ≤ 9223372036854775807 := by omega
  have Hfew := Lib.hid (few_any (c := c) (t := 30) hn (by omega) hnl hr)
  have HB := Lib.hid hB
  have Hn := Lib.hid hn
  have Hkn := Lib.hid hkn
  have Hgn := Lib.hid hgn
  have Hr := Lib.hid hr
  have Hkr := Lib.hid hkr
  have Hgr := Lib.hid hgr
  clear hr hkr hgr
  go_enter Try.func4, Try.ntmps4
  by_cases hk30 : 30 < nk
  · have h1 : decide ((30 : Int) < (nk : Int)) = true := by rw [decide_eq_true_eq]; omega
    have h1' : (30 : Int) < (nk : Int) := by omega
    go_wp2_with fail
    go_at_call 6
    refine Hfew.out.mono ?_
    rintro e w' ⟨b, rfl, hb, rfl⟩
    cases b
    all_goals
      go_wp2_with fail
      go_at_call 7
      refine works7a_any _ _ ?_
      rintro e w' ⟨rfl, hbl⟩
      go_wp2
      go_ret
      exact ⟨rfl, hbl⟩
  by_cases hg30 : 30 < ng
  · have h1 : decide ((30 : Int) < (nk : Int)) = false := by rw [decide_eq_false_iff_not]; omega
    have h1' : (nk : Int) ≤ 30 := by omega
    have h2 : decide ((30 : Int) < (ng : Int)) = true := by rw [decide_eq_true_eq]; omega
    have h2' : (30 : Int) < (ng : Int) := by omega
    go_wp2_with fail
    go_at_call 6
    refine Hfew.out.mono ?_
    rintro e w' ⟨b, rfl, hb, rfl⟩
    cases b
    all_goals
      go_wp2_with fail
      go_at_call 7
      refine works7a_any _ _ ?_
      rintro e w' ⟨rfl, hbl⟩
      go_wp2
      go_ret
      exact ⟨rfl, hbl⟩
  have h1 : decide ((30 : Int) < (nk : Int)) = false := by rw [decide_eq_false_iff_not]; omega
  have h1' : (nk : Int) ≤ 30 := by omega
  have h2 : decide ((30 : Int) < (ng : Int)) = false := by rw [decide_eq_false_iff_not]; omega
  have h2' : (ng : Int) ≤ 30 := by omega
  go_wp2_with fail
  go_at_call 6
  refine Hfew.out.mono ?_
  rintro e w' ⟨b, rfl, hfew, rfl⟩
  cases b
  · go_wp2_with fail
    go_at_call 7
    refine works7a_any _ _ ?_
    rintro e w' ⟨rfl, hbl⟩
    go_wp2
    go_ret
    exact ⟨rfl, hbl⟩
  have Hsm := Lib.hid (hfew rfl)
  clear hfew Hfew
  have hn30 : n ≤ 30 := by have := Hsm.out.1; have := Hn.out; omega
  have Hof := Lib.hid (ofNone w')
  go_upto_region 4 with
    (go_at_call 9
     refine Hof.out.mono ?_
     rintro e wn ⟨v, rfl, hb, hf⟩
     obtain ⟨A1, c1, p1, rfl, _, _, _⟩ := id hf
     have Hb := Lib.hid hb
     have Hf := Lib.hid hf
     clear hb hf)
  clear Hof
  obtain ⟨F, hF⟩ : ∃ F, Hid (wn.heap.size = F) := ⟨_, rfl⟩
  obtain ⟨W1, hW1⟩ : ∃ W1, Hid (wn.alloc (.cells #[.slice A1 p1.length c1] 30) = W1) := ⟨_, rfl⟩
  have HK : Hid (KS w' F [] W1) := by rw [← hW1.out, ← hF.out]; exact KS.start Hb.out Hf.out
  rw [hW1.out, hF.out]
  clear hW1 hF Hb Hf
  go_wp2
  go_loopw [8, 9] (fun sv i wr => ∃ (k s : Nat) (m : List Pt), k ≤ n ∧ i = .int .i64 (k : Int) ∧ sv = .int .i64 (s : Int) ∧ Hid (KeI m s k) ∧ Hid (KS w' F m wr)) (fun _ i _ => n - (intOf i).toNat)
  case atStart => exact ⟨0, 0, [], by omega, rfl, rfl, KeI.start, HK⟩
  case round =>
    clear HK
    obtain ⟨k, s, m, hk, rfl, rfl, hke, HK⟩ := hrel
    by_cases hlt : k < n
    · obtain ⟨ad, a, rfl, hab, hc0, hc1, hc2, hx, hrow, _, hok⟩ := (Hr.out.below (HK.out.below.mono HB.out)).at_ (k := k) (by rw [Hn.out]; exact hlt)
      have hkn : (k : Int) < (n : Int) := by omega
      have Hrow := Lib.hid hrow
      have h30 : Hid (a.r.l.length ≤ 30) := (Hsm.out.2 a (List.mem_of_getElem? hx.out)).1
      have Hsm1 := Lib.hid (hke.out.sm (by omega))
      clear hok hrow hc2 hx
      by_cases hz : a.k % 4 = 2
      · have hsy := Lib.hid (HK.out.sync Hsm1.out)
        clear hc1 Hrow
        go_wp2_with fail
        go_at_call 12
        refine (pick_any _ _).mono ?_
        rintro e w2 ⟨rfl, rfl⟩
        go_wp2_with fail
        go_at_call 13
        refine hsy.out.mono ?_
        rintro e w3 ⟨rfl, _, hks⟩
        obtain ⟨A5, c5, n5, hcell, hfv⟩ := hks.f.loadC
        obtain ⟨s', hs'⟩ : ∃ s', Hid ((contM (syncM m)).length = s') := ⟨_, rfl⟩
        have hln := Lib.hid (lenX (nm := s') Hsm1.out.sync rfl hs'.out hfv)
        have Hks := Lib.hid hks
        clear hfv hks hc0 hsy
        go_wp2_with fail
        go_at_call 20
        refine hln.out.mono ?_
        rintro e w4 ⟨u, rfl, hb, rfl⟩
        have HK4 := Lib.hid (Hks.out.then_ hb)
        clear hb hln hcell Hks
        have hke' : Hid (KeI (syncM m) s' (k + 1)) := by have := hke.out.sync; rw [hs'.out] at this; exact this
        go_wp2
        go_roundw
        case rel => exact ⟨k + 1, s', syncM m, by omega, by go_num, rfl, hke', HK4⟩
        case measure => simp [intOf]; omega
      · have hz' : (a.k % 4 == 2) = false := by rw [beq_eq_false_iff_ne]; exact hz
        have hap := Lib.hid (HK.out.app (cb := a.r.c) (SmM.more hke.out (by omega) (by have := h30.out; omega)) rfl (Nat.le_trans HB.out HK.out.below.size) Hrow.out)
        go_wp2_with fail
        go_at_call 12
        refine (pick_any _ _).mono ?_
        rintro e w2 ⟨rfl, rfl⟩
        go_wp2_with fail
        go_at_call 17
        refine hap.out.mono ?_
        rintro e w3 ⟨rfl, _, hks⟩
        have HK4 := Lib.hid hks
        clear hks hap hc0 hc1
        have hke' : Hid (KeI (appM m a.r.l) s (k + 1)) := hke.out.app h30.out
        go_wp2
        go_roundw
        case rel => exact ⟨k + 1, s, _, by omega, by go_num, rfl, hke', HK4⟩
        case measure => simp [intOf]; omega
    · obtain rfl : k = n := by omega
      have Hke := Lib.hid hke.out
      have HKl := HK
      have Hsm1 := Lib.hid (hke.out.sm hn30)
      have h900 := hke.out.cont hn30
      obtain ⟨lw, hlw⟩ : ∃ lw, Hid (contM m = lw) := ⟨_, rfl⟩
      obtain ⟨nw, hnw⟩ : ∃ nw, Hid (lw.length = nw) := ⟨_, rfl⟩
      have hnw9 : nw ≤ 900 := by rw [← hnw.out, ← hlw.out]; exact h900
      obtain ⟨A5, c5, n5, hcell, hfv⟩ := HK.out.f.loadC
      have hby := Lib.hid (bytesY HK.out.hX Hsm1.out hlw.out hnw.out hfv)
      clear hfv HK hke h900
      go_upto_region 13 with
        (go_at_call 21
         refine hby.out.mono ?_
         rintro e w5 ⟨u, rfl, hb, Aw, cw, rfl, hrd⟩
         have HK5 := Lib.hid (HKl.out.then_ hb)
         have Hrw := Lib.hid hrd
         clear hb hrd hby hcell)
      obtain ⟨vm, hvm⟩ : ∃ vm, Hid (volM m = vm) := ⟨_, rfl⟩
      clear HKl
      go_wp2
      go_loopw [11, 12] (fun al i wr => ∃ (j : Nat) (b : Bool), j ≤ vm ∧ i = .int .i64 (j : Int) ∧ al = .bool b ∧ Hid (b = true ↔ ∀ i, i < j → kl[i]? = some true) ∧ Hid (KS w' F m wr) ∧ Hid (Below w5.heap.size w5 wr)) (fun _ i _ => vm - (intOf i).toNat)
      case atStart => exact ⟨0, true, by omega, rfl, rfl, ⟨fun _ i h => absurd h (by omega), fun _ => rfl⟩, HK5, Below.refl _ _⟩
      case round =>
        clear HK5
        obtain ⟨j, b, hj, rfl, rfl, hball, HK, Hbw⟩ := hrel
        have hvm30 : Hid (vm ≤ 1000) := by
          have h1 := List.length_filter_le (fun p : Pt => !p.2 && !p.1.isEmpty) m
          have h2 := Hsm1.out.n
          have h3 : (m.filter fun p => !p.2 && !p.1.isEmpty).length = vm := hvm.out
          show vm ≤ 1000
          omega
        have hvmI : (vm : Int) ≤ 1000 := by have := hvm30.out; omega
        obtain ⟨A6, c6, n6, hcell, hfv⟩ := HK.out.f.loadC
        have hvo := Lib.hid (volX Hsm1.out hvm.out hfv)
        clear hfv
        go_wp2_with fail
        go_at_call 22
        refine hvo.out.mono ?_
        rintro e w6 ⟨u, rfl, hb, rfl⟩
        have HK6 := Lib.hid (HK.out.then_ hb)
        have Hbw6 := Lib.hid (Hbw.out.trans (hb.mono Hbw.out.size))
        clear hb hvo hcell HK Hbw
        by_cases hlt : j < vm
        · have hltI : (j : Int) < (vm : Int) := by omega
          cases b with
          | false =>
            have hb' : Hid (false = true ↔ ∀ i, i < j + 1 → kl[i]? = some true) := ⟨fun h => (by cases h), fun h => hball.out.2 fun i hi => h i (by omega)⟩
            go_wp2
            go_roundw
            case rel => exact ⟨j + 1, false, by omega, by go_num, rfl, hb', HK6, Hbw6⟩
            case measure => simp [intOf]; omega
          | true =>
            by_cases hjk : j < nk
            · have hjkI : (j : Int) < (nk : Int) := by omega
              obtain ⟨x, hx⟩ : ∃ x, kl[j]? = some x := ⟨kl[j]'(by rw [Hkn.out]; exact hjk), List.getElem?_eq_getElem _⟩
              obtain ⟨ad, rfl, _, hcd⟩ := (Reads.below Hkr.out (HK6.out.below.mono HB.out)).2 (by rw [Hkn.out]; omega)
              have hcj : w6.cell? (ad.add j) = some (.bool x) := hcd j _ (by unfold kc; rw [List.getElem?_map, hx]; rfl)
              clear hcd
              have hb' : Hid (x = true ↔ ∀ i, i < j + 1 → kl[i]? = some true) := by
                constructor
                · intro e i hi
                  by_cases hij : i < j
                  · exact hball.out.1 rfl i hij
                  · obtain rfl : i = j := by omega
                    rw [hx, e]
                · intro h
                  have := h j (by omega)
                  rw [hx] at this
                  injection this
              go_wp2
              go_roundw
              case rel => exact ⟨j + 1, x, by omega, by go_num, rfl, hb', HK6, Hbw6⟩
              case measure => simp [intOf]; omega
            · have hjkI : (nk : Int) ≤ (j : Int) := by omega
              have hjkd : decide ((j : Int) < (nk : Int)) = false := by rw [decide_eq_false_iff_not]; omega
              have hb' : Hid (false = true ↔ ∀ i, i < j + 1 → kl[i]? = some true) := ⟨fun h => (by cases h), fun h => by
                have := h j (by omega)
                rw [List.getElem?_eq_none (by rw [Hkn.out]; omega)] at this
                cases this⟩
              go_wp2
              go_roundw
              case rel => exact ⟨j + 1, false, by omega, by go_num, rfl, hb', HK6, Hbw6⟩
              case measure => simp [intOf]; omega
        · obtain rfl : j = vm := by omega
          have hal : Hid (b = true → ∀ i, i < volM m → kl[i]? = some true) := by rw [hvm.out]; exact hball.out.1
          have hlb : Hid ((∀ i, i < volM m → kl[i]? = some true) → b = true) := by rw [hvm.out]; exact hball.out.2
          obtain ⟨m2, hm2⟩ : ∃ m2, Hid (failM m kl = m2) := ⟨_, rfl⟩
          have hfa := Lib.hid (HK6.out.fail (ck := ck) Hsm1.out Hkn.out (Nat.le_trans HB.out HK6.out.below.size) (Reads.below Hkr.out (HK6.out.below.mono HB.out)) hkc (by omega) hm2.out)
          have hke2 : Hid (KeI m2 0 k) := by rw [← hm2.out]; exact Hke.out.fail kl
          have Hsm2 := Lib.hid (hke2.out.sm hn30)
          obtain ⟨ln, hln⟩ : ∃ ln, Hid (contM m2 = ln) := ⟨_, rfl⟩
          obtain ⟨nn, hnn⟩ : ∃ nn, Hid (ln.length = nn) := ⟨_, rfl⟩
          have hle : nn ≤ nw := by rw [← hnn.out, ← hln.out, ← hm2.out, ← hnw.out, ← hlw.out]; exact failM_less m kl
          have hsn : s ≤ nn := by rw [← hnn.out, ← hln.out, ← hm2.out]; exact Hke.out.kept kl
          have hall : b = true → nn = nw := by
            intro e
            rw [← hnn.out, ← hln.out, ← hm2.out, ← hnw.out, ← hlw.out, Hke.out.same (hal.out e)]
          have hdif : Hid (∀ (i : Nat) (x y : UInt8), ln[i]? = some x → lw[i]? = some y → x ≠ y → x = 0 ∧ s ≤ i ∧ b = false) := by
            intro i x y hx hy hne
            rw [← hln.out, ← hm2.out] at hx
            rw [← hlw.out] at hy
            obtain ⟨h1, h2, h3⟩ := Hke.out.differ kl hx hy hne
            refine ⟨h1, h2, ?_⟩
            cases b
            · rfl
            · exact absurd (hal.out rfl) h3
          have hv0 : Hid (volM m2 = 0) := by rw [← hm2.out]; exact volM_durable fun p hp => failM_durable hp
          clear hball hlb
          go_wp2_with fail
          go_at_call 15
          refine hfa.out.mono ?_
          rintro e w7 ⟨rfl, ht, hks⟩
          have Hrw7 := Lib.hid ((Hrw.out.below Hbw6.out).keep ht)
          have HK7 := Lib.hid hks
          obtain ⟨A7, c7, n7, hcell, hfv⟩ := hks.f.loadC
          have hby := Lib.hid (bytesY HK7.out.hX Hsm2.out hln.out hnn.out hfv)
          clear ht hks hfa HK6 Hbw6 Hrw hfv
          go_wp2_with fail
          go_at_call 21
          refine hby.out.mono ?_
          rintro e w8 ⟨u, rfl, hb, An, cn, rfl, hrd⟩
          have HK8 := Lib.hid (HK7.out.then_ hb)
          have Hrw8 := Lib.hid (Hrw7.out.below hb)
          have Hrn8 := Lib.hid hrd
          clear hb hrd hby hcell HK7 Hrw7
          obtain ⟨A8, c8, n8, hcell, hfv⟩ := HK8.out.f.loadC
          have hvo := Lib.hid (volX Hsm2.out hv0.out hfv)
          clear hfv
          have hleI : (nn : Int) ≤ (nw : Int) := by omega
          have hleD : decide ((nw : Int) < (nn : Int)) = false := by rw [decide_eq_false_iff_not]; omega
          have hsnI : (s : Int) ≤ (nn : Int) := by omega
          have hsnD : decide ((nn : Int) < (s : Int)) = false := by rw [decide_eq_false_iff_not]; omega
          go_wp2_with fail
          go_at_call 22
          refine hvo.out.mono ?_
          rintro e w9 ⟨u, rfl, hb, rfl⟩
          have HK9 := Lib.hid (HK8.out.then_ hb)
          have Hrw9 := Lib.hid (Hrw8.out.below hb)
          have Hrn9 := Lib.hid (Hrn8.out.below hb)
          clear hb hvo hcell HK8 Hrw8 Hrn8
          cases b
          · clear hall
            go_wp2
            go_loopw [14] (fun i wr => ∃ q : Nat, q ≤ nn ∧ i = .int .i64 (q : Int) ∧ Hid (Below w9.heap.size w9 wr)) (fun i _ => nn - (intOf i).toNat)
            case atStart => exact ⟨0, by omega, rfl, Below.refl _ _⟩
            case round =>
              obtain ⟨q, hq, rfl, Hb3⟩ := hrel
              by_cases hlt : q < nn
              · have hltI : (q : Int) < (nn : Int) := by omega
                have hqn : Hid (q < nn) := hlt
                have hqw : Hid (q < nw) := Nat.lt_of_lt_of_le hlt hle
                obtain ⟨x, hx⟩ : ∃ x, ln[q]? = some x := ⟨ln[q]'(by rw [hnn.out]; exact hlt), List.getElem?_eq_getElem _⟩
                obtain ⟨y, hy⟩ : ∃ y, lw[q]? = some y := ⟨lw[q]'(by rw [hnw.out]; exact hqw.out), List.getElem?_eq_getElem _⟩
                obtain ⟨an, rfl, hanb, _, hcn⟩ := (Hrn9.out.below Hb3.out).2 (by omega)
                obtain ⟨aw, rfl, hawb, _, hcw⟩ := (Hrw9.out.below Hb3.out).2 (by omega)
                have hcn0 := hcn q (.int .u8 (x.toNat : Int)) (by unfold bs; rw [List.getElem?_map, hx]; rfl)
                have hcw0 := hcw q (.int .u8 (y.toNat : Int)) (by unfold bs; rw [List.getElem?_map, hy]; rfl)
                have hanl : Hid ((an.add q).block < wr.heap.size) := by show _ < _; rw [block_of_add]; exact hanb
                have hawl : Hid ((aw.add q).block < wr.heap.size) := by show _ < _; rw [block_of_add]; exact hawb
                clear hcn hcw hanb hawb
                by_cases hxz : x = y
                · subst hxz
                  have cn0 := Lib.hid hcn0
                  have cw0 := Lib.hid hcw0
                  clear hcn0 hcw0 hx hy
                  go_upto_region 25 with fail
                  go_cut [132] from 109 to 131 (fun sv wx => sv = .bool false ∧ Below wr.heap.size wr wx)
                  case first =>
                    rename_i J K1 hJ hK
                    refine wp_region_skips (n := 156) (KpA an aw nn nw cn cw q (x.toNat : Int)) (BelC wr) (by kernel_rfl) (by kernel_rfl) rfl ?_ ?_ ?_
                    · exact (Below.refl _ _).drew
                    rotate_left
                    · intro b' w' hsz hd hs hc hall
                      have e23 : b'.tmps.getD 132 undef = .bool false := hall 23 _ _ rfl rfl
                      refine hK _ _ (Met.intro (hJ _ _ ?_))
                      exact ⟨b'.tmps.getD 109 undef, b'.tmps.getD 110 undef, b'.tmps.getD 111 undef, b'.tmps.getD 112 undef, b'.tmps.getD 113 undef, b'.tmps.getD 114 undef, b'.tmps.getD 115 undef, b'.tmps.getD 116 undef, b'.tmps.getD 117 undef, b'.tmps.getD 118 undef, b'.tmps.getD 119 undef, b'.tmps.getD 120 undef, b'.tmps.getD 121 undef, b'.tmps.getD 122 undef, b'.tmps.getD 123 undef, b'.tmps.getD 124 undef, b'.tmps.getD 125 undef, b'.tmps.getD 126 undef, b'.tmps.getD 127 undef, b'.tmps.getD 128 undef, b'.tmps.getD 129 undef, b'.tmps.getD 130 undef, b'.tmps.getD 131 undef, b'.tmps.getD 132 undef, ⟨e23, hc⟩, (act_known hsz hd hs).trans (by kernel_rfl)⟩
                    refine OksOp.cons _ _ (OkOp.of _ _ (OpOk.run _ _ KpA.keep BelC.keep fun b v hs hc hg => ⟨rfl, _, _, exec_move rfl (hs 13 (by kernel_rfl)), .refl _ _, rfl⟩)) ?_
                    refine OksOp.cons _ _ (OkOp.of _ _ (OpOk.run _ _ KpA.keep BelC.keep fun b v hs hc hg => ⟨rfl, _, _, exec_move rfl (hs 14 (by kernel_rfl)), .refl _ _, rfl⟩)) ?_
                    refine OksOp.cons _ _ (OkOp.of _ _ (OpOk.run _ _ KpA.keep BelC.keep fun b v hs hc hg => ⟨rfl, _, _, exec_at8 (k := q) rfl (dep hg 0 rfl rfl rfl rfl) (dep hg 1 rfl rfl rfl rfl) hqn.out, .refl _ _, rfl⟩)) ?_
                    refine OksOp.cons _ _ (OkOp.of _ _ (OpOk.run _ _ KpA.keep BelC.keep fun b v hs hc hg => ⟨rfl, _, _, exec_ld8 rfl (dep hg 0 rfl rfl rfl rfl) ((hc.cell (p := an.add q) hanl.out).trans cn0.out), .refl _ _, rfl⟩)) ?_
                    refine OksOp.cons _ _ (OkOp.of _ _ (OpOk.run _ _ KpA.keep BelC.keep fun b v hs hc hg => ⟨rfl, _, _, exec_move rfl (hs 10 (by kernel_rfl)), .refl _ _, rfl⟩)) ?_
                    refine OksOp.cons _ _ (OkOp.of _ _ (OpOk.run _ _ KpA.keep BelC.keep fun b v hs hc hg => ⟨rfl, _, _, exec_move rfl (hs 14 (by kernel_rfl)), .refl _ _, rfl⟩)) ?_
                    refine OksOp.cons _ _ (OkOp.of _ _ (OpOk.run _ _ KpA.keep BelC.keep fun b v hs hc hg => ⟨rfl, _, _, exec_at8 (k := q) rfl (dep hg 0 rfl rfl rfl rfl) (dep hg 1 rfl rfl rfl rfl) hqw.out, .refl _ _, rfl⟩)) ?_
                    refine OksOp.cons _ _ (OkOp.of _ _ (OpOk.run _ _ KpA.keep BelC.keep fun b v hs hc hg => ⟨rfl, _, _, exec_ld8 rfl (dep hg 0 rfl rfl rfl rfl) ((hc.cell (p := aw.add q) hawl.out).trans cw0.out), .refl _ _, rfl⟩)) ?_
                    refine OksOp.cons _ _ (OkOp.of _ _ (OpOk.run _ _ KpA.keep BelC.keep fun b v hs hc hg => ⟨rfl, _, _, exec_ne8f rfl (dep hg 0 rfl rfl rfl rfl) (dep hg 1 rfl rfl rfl rfl), .refl _ _, rfl⟩)) ?_
                    refine OksOp.cons _ _ (OkOp.of _ _ (OpOk.run _ _ KpA.keep BelC.keep fun b v hs hc hg => ⟨rfl, _, _, exec_move rfl (dep hg 0 rfl rfl rfl rfl), .refl _ _, rfl⟩)) ?_
                    refine OksOp.cons _ _ (OkOp.skip _ _ fun b v hs hc hg => ⟨unwanted_of rfl rfl rfl (dep hg 0 rfl rfl rfl rfl), rfl⟩) ?_
                    refine OksOp.cons _ _ (OkOp.skip _ _ fun b v hs hc hg => ⟨unwanted_of rfl rfl rfl (dep hg 0 rfl rfl rfl rfl), rfl⟩) ?_
                    refine OksOp.cons _ _ (OkOp.skip _ _ fun b v hs hc hg => ⟨unwanted_of rfl rfl rfl (dep hg 2 rfl rfl rfl rfl), rfl⟩) ?_
                    refine OksOp.cons _ _ (OkOp.skip _ _ fun b v hs hc hg => ⟨unwanted_of rfl rfl rfl (dep hg 1 rfl rfl rfl rfl), rfl⟩) ?_
                    refine OksOp.cons _ _ (OkOp.skip _ _ fun b v hs hc hg => ⟨unwanted_of rfl rfl rfl (dep hg 1 rfl rfl rfl rfl), rfl⟩) ?_
                    refine OksOp.cons _ _ (OkOp.skip _ _ fun b v hs hc hg => ⟨unwanted_of rfl rfl rfl (dep hg 1 rfl rfl rfl rfl), rfl⟩) ?_
                    refine OksOp.cons _ _ (OkOp.skip _ _ fun b v hs hc hg => ⟨unwanted_un rfl rfl rfl (dep hg 0 rfl rfl rfl rfl), rfl⟩) ?_
                    refine OksOp.cons _ _ (OkOp.skip _ _ fun b v hs hc hg => ⟨unwanted_un rfl rfl rfl (dep hg 0 rfl rfl rfl rfl), rfl⟩) ?_
                    refine OksOp.cons _ _ (OkOp.skip _ _ fun b v hs hc hg => ⟨unwanted_un rfl rfl rfl (dep hg 2 rfl rfl rfl rfl), rfl⟩) ?_
                    refine OksOp.cons _ _ (OkOp.skip _ _ fun b v hs hc hg => ⟨unwanted_of rfl rfl rfl (dep hg 2 rfl rfl rfl rfl), rfl⟩) ?_
                    refine OksOp.cons _ _ (OkOp.skip _ _ fun b v hs hc hg => ⟨unwanted_of rfl rfl rfl (dep hg 2 rfl rfl rfl rfl), rfl⟩) ?_
                    refine OksOp.cons _ _ (OkOp.skip _ _ fun b v hs hc hg => ⟨unwanted_un rfl rfl rfl (dep hg 0 rfl rfl rfl rfl), rfl⟩) ?_
                    refine OksOp.cons _ _ (OkOp.skip _ _ fun b v hs hc hg => ⟨unwanted_of rfl rfl rfl (dep hg 2 rfl rfl rfl rfl), rfl⟩) ?_
                    refine OksOp.cons _ _ (OkOp.of _ _ (OpOk.run _ _ KpA.keep BelC.keep fun b v hs hc hg => ⟨rfl, _, _, exec_pick rfl (dep hg 0 rfl rfl rfl rfl) rfl, .refl _ _, rfl⟩)) ?_
                    exact OksOp.nil _ _
                  obtain ⟨rfl, hbx⟩ := hcut
                  have Hbx := Lib.hid (Hb3.out.trans (hbx.mono Hb3.out.size))
                  clear hbx
                  go_wp2
                  go_roundw
                  case rel => exact ⟨q + 1, by omega, by go_num, Hbx⟩
                  case measure => simp [intOf]; omega
                · obtain ⟨rfl, hsq', _⟩ := hdif.out q x y hx hy hxz
                  have hxy : Hid ((0 : Int) ≠ (y.toNat : Int)) := by
                    intro e
                    refine hxz ?_
                    apply UInt8.toNat_inj.1
                    show 0 = y.toNat
                    omega
                  have hsq : Hid (¬ (q : Int) < (s : Int)) := by show ¬ _; omega
                  have hcn0 : wr.cell? (an.add q) = some (.int .u8 0) := hcn0
                  have cn0 := Lib.hid hcn0
                  have cw0 := Lib.hid hcw0
                  clear hcn0 hcw0
                  go_upto_region 25 with fail
                  go_cut [132] from 109 to 131 (fun sv wx => sv = .bool false ∧ Below wr.heap.size wr wx)
                  case first =>
                    rename_i J K1 hJ hK
                    refine wp_region_facts (n := 156) (KpB an aw nn nw cn cw q s (y.toNat : Int)) (BelC wr) (by kernel_rfl) (by kernel_rfl) rfl ?_ ?_ ?_
                    · exact (Below.refl _ _).drew
                    rotate_left
                    · intro b' w' hsz hd hs hc hall
                      have e23 : b'.tmps.getD 132 undef = .bool false := hall 23 _ _ rfl rfl
                      refine hK _ _ (Met.intro (hJ _ _ ?_))
                      exact ⟨b'.tmps.getD 109 undef, b'.tmps.getD 110 undef, b'.tmps.getD 111 undef, b'.tmps.getD 112 undef, b'.tmps.getD 113 undef, b'.tmps.getD 114 undef, b'.tmps.getD 115 undef, b'.tmps.getD 116 undef, b'.tmps.getD 117 undef, b'.tmps.getD 118 undef, b'.tmps.getD 119 undef, b'.tmps.getD 120 undef, b'.tmps.getD 121 undef, b'.tmps.getD 122 undef, b'.tmps.getD 123 undef, b'.tmps.getD 124 undef, b'.tmps.getD 125 undef, b'.tmps.getD 126 undef, b'.tmps.getD 127 undef, b'.tmps.getD 128 undef, b'.tmps.getD 129 undef, b'.tmps.getD 130 undef, b'.tmps.getD 131 undef, b'.tmps.getD 132 undef, ⟨e23, hc⟩, (act_known hsz hd hs).trans (by kernel_rfl)⟩
                    refine OpsOk.cons _ _ (OpOk.run _ _ KpB.keep BelC.keep fun b v hs hc hg => ⟨rfl, _, _, exec_move rfl (hs 13 (by kernel_rfl)), .refl _ _, rfl⟩) ?_
                    refine OpsOk.cons _ _ (OpOk.run _ _ KpB.keep BelC.keep fun b v hs hc hg => ⟨rfl, _, _, exec_move rfl (hs 14 (by kernel_rfl)), .refl _ _, rfl⟩) ?_
                    refine OpsOk.cons _ _ (OpOk.run _ _ KpB.keep BelC.keep fun b v hs hc hg => ⟨rfl, _, _, exec_at8 (k := q) rfl (dep hg 0 rfl rfl rfl rfl) (dep hg 1 rfl rfl rfl rfl) hqn.out, .refl _ _, rfl⟩) ?_
                    refine OpsOk.cons _ _ (OpOk.run _ _ KpB.keep BelC.keep fun b v hs hc hg => ⟨rfl, _, _, exec_ld8 rfl (dep hg 0 rfl rfl rfl rfl) ((hc.cell (p := an.add q) hanl.out).trans cn0.out), .refl _ _, rfl⟩) ?_
                    refine OpsOk.cons _ _ (OpOk.run _ _ KpB.keep BelC.keep fun b v hs hc hg => ⟨rfl, _, _, exec_move rfl (hs 10 (by kernel_rfl)), .refl _ _, rfl⟩) ?_
                    refine OpsOk.cons _ _ (OpOk.run _ _ KpB.keep BelC.keep fun b v hs hc hg => ⟨rfl, _, _, exec_move rfl (hs 14 (by kernel_rfl)), .refl _ _, rfl⟩) ?_
                    refine OpsOk.cons _ _ (OpOk.run _ _ KpB.keep BelC.keep fun b v hs hc hg => ⟨rfl, _, _, exec_at8 (k := q) rfl (dep hg 0 rfl rfl rfl rfl) (dep hg 1 rfl rfl rfl rfl) hqw.out, .refl _ _, rfl⟩) ?_
                    refine OpsOk.cons _ _ (OpOk.run _ _ KpB.keep BelC.keep fun b v hs hc hg => ⟨rfl, _, _, exec_ld8 rfl (dep hg 0 rfl rfl rfl rfl) ((hc.cell (p := aw.add q) hawl.out).trans cw0.out), .refl _ _, rfl⟩) ?_
                    refine OpsOk.cons _ _ (OpOk.run _ _ KpB.keep BelC.keep fun b v hs hc hg => ⟨rfl, _, _, exec_ne8t rfl (dep hg 0 rfl rfl rfl rfl) (dep hg 1 rfl rfl rfl rfl) hxy.out, .refl _ _, rfl⟩) ?_
                    refine OpsOk.cons _ _ (OpOk.run _ _ KpB.keep BelC.keep fun b v hs hc hg => ⟨rfl, _, _, exec_move rfl (dep hg 0 rfl rfl rfl rfl), .refl _ _, rfl⟩) ?_
                    refine OpsOk.cons _ _ (OpOk.run _ _ KpB.keep BelC.keep fun b v hs hc hg => ⟨wanted_of rfl rfl rfl (dep hg 0 rfl rfl rfl rfl), _, _, exec_move rfl (hs 13 (by kernel_rfl)), .refl _ _, rfl⟩) ?_
                    refine OpsOk.cons _ _ (OpOk.run _ _ KpB.keep BelC.keep fun b v hs hc hg => ⟨wanted_of rfl rfl rfl (dep hg 0 rfl rfl rfl rfl), _, _, exec_move rfl (hs 14 (by kernel_rfl)), .refl _ _, rfl⟩) ?_
                    refine OpsOk.cons _ _ (OpOk.run _ _ KpB.keep BelC.keep fun b v hs hc hg => ⟨wanted_of rfl rfl rfl (dep hg 2 rfl rfl rfl rfl), _, _, exec_at8 (k := q) rfl (dep hg 0 rfl rfl rfl rfl) (dep hg 1 rfl rfl rfl rfl) hqn.out, .refl _ _, rfl⟩) ?_
                    refine OpsOk.cons _ _ (OpOk.run _ _ KpB.keep BelC.keep fun b v hs hc hg => ⟨wanted_of rfl rfl rfl (dep hg 1 rfl rfl rfl rfl), _, _, exec_ld8 rfl (dep hg 0 rfl rfl rfl rfl) ((hc.cell (p := an.add q) hanl.out).trans cn0.out), .refl _ _, rfl⟩) ?_
                    refine OpsOk.cons _ _ (OpOk.run _ _ KpB.keep BelC.keep fun b v hs hc hg => ⟨wanted_of rfl rfl rfl (dep hg 1 rfl rfl rfl rfl), _, _, exec_ne8f rfl (dep hg 0 rfl rfl rfl rfl) rfl, .refl _ _, rfl⟩) ?_
                    refine OpsOk.cons _ _ (OpOk.run _ _ KpB.keep BelC.keep fun b v hs hc hg => ⟨wanted_of rfl rfl rfl (dep hg 1 rfl rfl rfl rfl), _, _, exec_move rfl (dep hg 0 rfl rfl rfl rfl), .refl _ _, rfl⟩) ?_
                    refine OpsOk.cons _ _ (OpOk.run _ _ KpB.keep BelC.keep fun b v hs hc hg => ⟨wanted_of rfl rfl rfl (dep hg 0 rfl rfl rfl rfl), _, _, exec_move rfl (hs 14 (by kernel_rfl)), .refl _ _, rfl⟩) ?_
                    refine OpsOk.cons _ _ (OpOk.run _ _ KpB.keep BelC.keep fun b v hs hc hg => ⟨wanted_of rfl rfl rfl (dep hg 0 rfl rfl rfl rfl), _, _, exec_move rfl (hs 8 (by kernel_rfl)), .refl _ _, rfl⟩) ?_
                    refine OpsOk.cons _ _ (OpOk.run _ _ KpB.keep BelC.keep fun b v hs hc hg => ⟨wanted_of rfl rfl rfl (dep hg 2 rfl rfl rfl rfl), _, _, exec_ltf rfl (dep hg 0 rfl rfl rfl rfl) (dep hg 1 rfl rfl rfl rfl) hsq.out, .refl _ _, rfl⟩) ?_
                    refine OpsOk.cons _ _ (OpOk.run _ _ KpB.keep BelC.keep fun b v hs hc hg => ⟨wanted_of rfl rfl rfl (dep hg 2 rfl rfl rfl rfl), _, _, exec_pick rfl (dep hg 0 rfl rfl rfl rfl) (dep hg 1 rfl rfl rfl rfl), .refl _ _, rfl⟩) ?_
                    refine OpsOk.cons _ _ (OpOk.run _ _ KpB.keep BelC.keep fun b v hs hc hg => ⟨wanted_of rfl rfl rfl (dep hg 2 rfl rfl rfl rfl), _, _, exec_move rfl (dep hg 0 rfl rfl rfl rfl), .refl _ _, rfl⟩) ?_
                    refine OpsOk.cons _ _ (OpOk.run _ _ KpB.keep BelC.keep fun b v hs hc hg => ⟨wanted_of rfl rfl rfl (dep hg 0 rfl rfl rfl rfl), _, _, exec_move rfl (hs 11 (by kernel_rfl)), .refl _ _, rfl⟩) ?_
                    refine OpsOk.cons _ _ (OpOk.run _ _ KpB.keep BelC.keep fun b v hs hc hg => ⟨wanted_of rfl rfl rfl (dep hg 2 rfl rfl rfl rfl), _, _, exec_pick rfl (dep hg 0 rfl rfl rfl rfl) (dep hg 1 rfl rfl rfl rfl), .refl _ _, rfl⟩) ?_
                    refine OpsOk.cons _ _ (OpOk.run _ _ KpB.keep BelC.keep fun b v hs hc hg => ⟨rfl, _, _, exec_pick rfl (dep hg 0 rfl rfl rfl rfl) (dep hg 1 rfl rfl rfl rfl), .refl _ _, rfl⟩) ?_
                    exact OpsOk.nil _ _
                  obtain ⟨rfl, hbx⟩ := hcut
                  have Hbx := Lib.hid (Hb3.out.trans (hbx.mono Hb3.out.size))
                  clear hbx
                  go_wp2
                  go_roundw
                  case rel => exact ⟨q + 1, by omega, by go_num, Hbx⟩
                  case measure => simp [intOf]; omega
              · obtain rfl : q = nn := by omega
                have HKa := Lib.hid (HK9.out.then_ Hb3.out)
                have Hrwa := Lib.hid (Hrw9.out.below Hb3.out)
                have Hrna := Lib.hid (Hrn9.out.below Hb3.out)
                have hn9 : (q : Int) ≤ 900 := by omega
                have hfa := Lib.hid (HKa.out.fail (ck := cg) (m' := m2) Hsm2.out Hgn.out (Nat.le_trans HB.out HKa.out.below.size) (Reads.below Hgr.out (HKa.out.below.mono HB.out)) hgc (by omega) (by rw [← hm2.out]; exact failM_twice m kl ag))
                clear HK9 Hrw9 Hrn9 Hb3
                go_wp2_with fail
                go_at_call 15
                refine hfa.out.mono ?_
                rintro e wb ⟨rfl, ht, hks⟩
                have HKb := Lib.hid hks
                have Hrwb := Lib.hid (Hrwa.out.keep ht)
                have Hrnb := Lib.hid (Hrna.out.keep ht)
                obtain ⟨A9, c9, n9, hcell, hfv⟩ := hks.f.loadC
                have hby := Lib.hid (bytesY HKb.out.hX Hsm2.out hln.out hnn.out hfv)
                clear ht hks hfa HKa Hrwa Hrna hfv
                go_wp2_with fail
                go_at_call 21
                refine hby.out.mono ?_
                rintro e wd ⟨u, rfl, hb, Ad, cd, rfl, hrd⟩
                have HKd := Lib.hid (HKb.out.then_ hb)
                have Hrwd := Lib.hid (Hrwb.out.below hb)
                have hsb := Lib.hid (sbX (c := cd) (c' := cn) hnn.out (by omega) (rdB_of hrd hnn.out) (rdB_of (Hrnb.out.below hb) hnn.out))
                clear hb hby hrd hcell HKb Hrwb Hrnb
                go_wp2_with fail
                go_at_call 23
                refine hsb.out.mono ?_
                rintro e we ⟨u, rfl, hb, rfl⟩
                have HKe := Lib.hid (HKd.out.then_ hb)
                have Hrwe := Lib.hid (Hrwd.out.below hb)
                have hmore := Lib.hid (SmM.more hke2.out hn30 (l := lw) (by have := hnw.out; omega))
                have hap := Lib.hid (HKe.out.app (cb := cw) hmore.out hnw.out (Nat.le_refl _) (rdB_of Hrwe.out hnw.out))
                clear hb hsb HKd Hrwd Hrwe
                go_wp2_with fail
                go_at_call 17
                refine hap.out.mono ?_
                rintro e wf ⟨rfl, _, hks⟩
                have hsy := Lib.hid (hks.sync hmore.out.add)
                clear hks hap HKe
                go_wp2_with fail
                go_at_call 13
                refine hsy.out.mono ?_
                rintro e wg ⟨rfl, _, hks⟩
                have hfa := Lib.hid (hks.fail (ck := cg) hmore.out.add.sync Hgn.out (Nat.le_trans HB.out hks.below.size) (Reads.below Hgr.out (hks.below.mono HB.out)) hgc (by omega) (syncM_done _ ag))
                clear hks hsy
                go_wp2_with fail
                go_at_call 15
                refine hfa.out.mono ?_
                rintro e wh ⟨rfl, _, hks⟩
                obtain ⟨A10, c10, n10, hcell, hfv⟩ := hks.f.loadC
                have hle2 := Lib.hid (lenX (nm := q + nw) hmore.out.add.sync rfl (by rw [hke2.out.ends lw, hln.out, hnn.out, hnw.out]) hfv)
                have HKh := Lib.hid hks
                clear hks hfa hfv
                go_wp2_with fail
                go_at_call 20
                refine hle2.out.mono ?_
                rintro e wi ⟨u, rfl, hb, rfl⟩
                have HKi := Lib.hid (HKh.out.then_ hb)
                clear hb hle2 HKh hcell
                go_wp2_with fail
                go_at_call 7
                refine works7a_any _ _ ?_
                rintro e wj ⟨rfl, hbl⟩
                go_wp2
                go_ret
                exact ⟨rfl, HKi.out.below.trans (hbl.mono HKi.out.below.size)⟩
          · have he := hall rfl
            clear hall
            subst he
            go_wp2
            go_loopw [14] (fun i wr => ∃ q : Nat, q ≤ nn ∧ i = .int .i64 (q : Int) ∧ Hid (Below w9.heap.size w9 wr)) (fun i _ => nn - (intOf i).toNat)
            case atStart => exact ⟨0, by omega, rfl, Below.refl _ _⟩
            case round =>
              obtain ⟨q, hq, rfl, Hb3⟩ := hrel
              by_cases hlt : q < nn
              · have hltI : (q : Int) < (nn : Int) := by omega
                have hqn : Hid (q < nn) := hlt
                have hqw : Hid (q < nn) := hlt
                obtain ⟨x, hx⟩ : ∃ x, ln[q]? = some x := ⟨ln[q]'(by rw [hnn.out]; exact hlt), List.getElem?_eq_getElem _⟩
                obtain ⟨y, hy⟩ : ∃ y, lw[q]? = some y := ⟨lw[q]'(by rw [hnw.out]; exact hqw.out), List.getElem?_eq_getElem _⟩
                obtain ⟨an, rfl, hanb, _, hcn⟩ := (Hrn9.out.below Hb3.out).2 (by omega)
                obtain ⟨aw, rfl, hawb, _, hcw⟩ := (Hrw9.out.below Hb3.out).2 (by omega)
                have hcn0 := hcn q (.int .u8 (x.toNat : Int)) (by unfold bs; rw [List.getElem?_map, hx]; rfl)
                have hcw0 := hcw q (.int .u8 (y.toNat : Int)) (by unfold bs; rw [List.getElem?_map, hy]; rfl)
                have hanl : Hid ((an.add q).block < wr.heap.size) := by show _ < _; rw [block_of_add]; exact hanb
                have hawl : Hid ((aw.add q).block < wr.heap.size) := by show _ < _; rw [block_of_add]; exact hawb
                clear hcn hcw hanb hawb
                by_cases hxz : x = y
                · subst hxz
                  have cn0 := Lib.hid hcn0
                  have cw0 := Lib.hid hcw0
                  clear hcn0 hcw0 hx hy
                  go_upto_region 25 with fail
                  go_cut [132] from 109 to 131 (fun sv wx => sv = .bool false ∧ Below wr.heap.size wr wx)
                  case first =>
                    rename_i J K1 hJ hK
                    refine wp_region_skips (n := 156) (KpA an aw nn nn cn cw q (x.toNat : Int)) (BelC wr) (by kernel_rfl) (by kernel_rfl) rfl ?_ ?_ ?_
                    · exact (Below.refl _ _).drew
                    rotate_left
                    · intro b' w' hsz hd hs hc hall
                      have e23 : b'.tmps.getD 132 undef = .bool false := hall 23 _ _ rfl rfl
                      refine hK _ _ (Met.intro (hJ _ _ ?_))
                      exact ⟨b'.tmps.getD 109 undef, b'.tmps.getD 110 undef, b'.tmps.getD 111 undef, b'.tmps.getD 112 undef, b'.tmps.getD 113 undef, b'.tmps.getD 114 undef, b'.tmps.getD 115 undef, b'.tmps.getD 116 undef, b'.tmps.getD 117 undef, b'.tmps.getD 118 undef, b'.tmps.getD 119 undef, b'.tmps.getD 120 undef, b'.tmps.getD 121 undef, b'.tmps.getD 122 undef, b'.tmps.getD 123 undef, b'.tmps.getD 124 undef, b'.tmps.getD 125 undef, b'.tmps.getD 126 undef, b'.tmps.getD 127 undef, b'.tmps.getD 128 undef, b'.tmps.getD 129 undef, b'.tmps.getD 130 undef, b'.tmps.getD 131 undef, b'.tmps.getD 132 undef, ⟨e23, hc⟩, (act_known hsz hd hs).trans (by kernel_rfl)⟩
                    refine OksOp.cons _ _ (OkOp.of _ _ (OpOk.run _ _ KpA.keep BelC.keep fun b v hs hc hg => ⟨rfl, _, _, exec_move rfl (hs 13 (by kernel_rfl)), .refl _ _, rfl⟩)) ?_
                    refine OksOp.cons _ _ (OkOp.of _ _ (OpOk.run _ _ KpA.keep BelC.keep fun b v hs hc hg => ⟨rfl, _, _, exec_move rfl (hs 14 (by kernel_rfl)), .refl _ _, rfl⟩)) ?_
                    refine OksOp.cons _ _ (OkOp.of _ _ (OpOk.run _ _ KpA.keep BelC.keep fun b v hs hc hg => ⟨rfl, _, _, exec_at8 (k := q) rfl (dep hg 0 rfl rfl rfl rfl) (dep hg 1 rfl rfl rfl rfl) hqn.out, .refl _ _, rfl⟩)) ?_
                    refine OksOp.cons _ _ (OkOp.of _ _ (OpOk.run _ _ KpA.keep BelC.keep fun b v hs hc hg => ⟨rfl, _, _, exec_ld8 rfl (dep hg 0 rfl rfl rfl rfl) ((hc.cell (p := an.add q) hanl.out).trans cn0.out), .refl _ _, rfl⟩)) ?_
                    refine OksOp.cons _ _ (OkOp.of _ _ (OpOk.run _ _ KpA.keep BelC.keep fun b v hs hc hg => ⟨rfl, _, _, exec_move rfl (hs 10 (by kernel_rfl)), .refl _ _, rfl⟩)) ?_
                    refine OksOp.cons _ _ (OkOp.of _ _ (OpOk.run _ _ KpA.keep BelC.keep fun b v hs hc hg => ⟨rfl, _, _, exec_move rfl (hs 14 (by kernel_rfl)), .refl _ _, rfl⟩)) ?_
                    refine OksOp.cons _ _ (OkOp.of _ _ (OpOk.run _ _ KpA.keep BelC.keep fun b v hs hc hg => ⟨rfl, _, _, exec_at8 (k := q) rfl (dep hg 0 rfl rfl rfl rfl) (dep hg 1 rfl rfl rfl rfl) hqw.out, .refl _ _, rfl⟩)) ?_
                    refine OksOp.cons _ _ (OkOp.of _ _ (OpOk.run _ _ KpA.keep BelC.keep fun b v hs hc hg => ⟨rfl, _, _, exec_ld8 rfl (dep hg 0 rfl rfl rfl rfl) ((hc.cell (p := aw.add q) hawl.out).trans cw0.out), .refl _ _, rfl⟩)) ?_
                    refine OksOp.cons _ _ (OkOp.of _ _ (OpOk.run _ _ KpA.keep BelC.keep fun b v hs hc hg => ⟨rfl, _, _, exec_ne8f rfl (dep hg 0 rfl rfl rfl rfl) (dep hg 1 rfl rfl rfl rfl), .refl _ _, rfl⟩)) ?_
                    refine OksOp.cons _ _ (OkOp.of _ _ (OpOk.run _ _ KpA.keep BelC.keep fun b v hs hc hg => ⟨rfl, _, _, exec_move rfl (dep hg 0 rfl rfl rfl rfl), .refl _ _, rfl⟩)) ?_
                    refine OksOp.cons _ _ (OkOp.skip _ _ fun b v hs hc hg => ⟨unwanted_of rfl rfl rfl (dep hg 0 rfl rfl rfl rfl), rfl⟩) ?_
                    refine OksOp.cons _ _ (OkOp.skip _ _ fun b v hs hc hg => ⟨unwanted_of rfl rfl rfl (dep hg 0 rfl rfl rfl rfl), rfl⟩) ?_
                    refine OksOp.cons _ _ (OkOp.skip _ _ fun b v hs hc hg => ⟨unwanted_of rfl rfl rfl (dep hg 2 rfl rfl rfl rfl), rfl⟩) ?_
                    refine OksOp.cons _ _ (OkOp.skip _ _ fun b v hs hc hg => ⟨unwanted_of rfl rfl rfl (dep hg 1 rfl rfl rfl rfl), rfl⟩) ?_
                    refine OksOp.cons _ _ (OkOp.skip _ _ fun b v hs hc hg => ⟨unwanted_of rfl rfl rfl (dep hg 1 rfl rfl rfl rfl), rfl⟩) ?_
                    refine OksOp.cons _ _ (OkOp.skip _ _ fun b v hs hc hg => ⟨unwanted_of rfl rfl rfl (dep hg 1 rfl rfl rfl rfl), rfl⟩) ?_
                    refine OksOp.cons _ _ (OkOp.skip _ _ fun b v hs hc hg => ⟨unwanted_un rfl rfl rfl (dep hg 0 rfl rfl rfl rfl), rfl⟩) ?_
                    refine OksOp.cons _ _ (OkOp.skip _ _ fun b v hs hc hg => ⟨unwanted_un rfl rfl rfl (dep hg 0 rfl rfl rfl rfl), rfl⟩) ?_
                    refine OksOp.cons _ _ (OkOp.skip _ _ fun b v hs hc hg => ⟨unwanted_un rfl rfl rfl (dep hg 2 rfl rfl rfl rfl), rfl⟩) ?_
                    refine OksOp.cons _ _ (OkOp.skip _ _ fun b v hs hc hg => ⟨unwanted_of rfl rfl rfl (dep hg 2 rfl rfl rfl rfl), rfl⟩) ?_
                    refine OksOp.cons _ _ (OkOp.skip _ _ fun b v hs hc hg => ⟨unwanted_of rfl rfl rfl (dep hg 2 rfl rfl rfl rfl), rfl⟩) ?_
                    refine OksOp.cons _ _ (OkOp.skip _ _ fun b v hs hc hg => ⟨unwanted_un rfl rfl rfl (dep hg 0 rfl rfl rfl rfl), rfl⟩) ?_
                    refine OksOp.cons _ _ (OkOp.skip _ _ fun b v hs hc hg => ⟨unwanted_of rfl rfl rfl (dep hg 2 rfl rfl rfl rfl), rfl⟩) ?_
                    refine OksOp.cons _ _ (OkOp.of _ _ (OpOk.run _ _ KpA.keep BelC.keep fun b v hs hc hg => ⟨rfl, _, _, exec_pick rfl (dep hg 0 rfl rfl rfl rfl) rfl, .refl _ _, rfl⟩)) ?_
                    exact OksOp.nil _ _
                  obtain ⟨rfl, hbx⟩ := hcut
                  have Hbx := Lib.hid (Hb3.out.trans (hbx.mono Hb3.out.size))
                  clear hbx
                  go_wp2
                  go_roundw
                  case rel => exact ⟨q + 1, by omega, by go_num, Hbx⟩
                  case measure => simp [intOf]; omega
                · obtain ⟨_, _, hbf⟩ := hdif.out q x y hx hy hxz
                  cases hbf
              · obtain rfl : q = nn := by omega
                have HKa := Lib.hid (HK9.out.then_ Hb3.out)
                have Hrwa := Lib.hid (Hrw9.out.below Hb3.out)
                have Hrna := Lib.hid (Hrn9.out.below Hb3.out)
                have hn9 : (q : Int) ≤ 900 := by omega
                have hfa := Lib.hid (HKa.out.fail (ck := cg) (m' := m2) Hsm2.out Hgn.out (Nat.le_trans HB.out HKa.out.below.size) (Reads.below Hgr.out (HKa.out.below.mono HB.out)) hgc (by omega) (by rw [← hm2.out]; exact failM_twice m kl ag))
                clear HK9 Hrw9 Hrn9 Hb3
                go_wp2_with fail
                go_at_call 15
                refine hfa.out.mono ?_
                rintro e wb ⟨rfl, ht, hks⟩
                have HKb := Lib.hid hks
                have Hrwb := Lib.hid (Hrwa.out.keep ht)
                have Hrnb := Lib.hid (Hrna.out.keep ht)
                obtain ⟨A9, c9, n9, hcell, hfv⟩ := hks.f.loadC
                have hby := Lib.hid (bytesY HKb.out.hX Hsm2.out hln.out hnn.out hfv)
                clear ht hks hfa HKa Hrwa Hrna hfv
                go_wp2_with fail
                go_at_call 21
                refine hby.out.mono ?_
                rintro e wd ⟨u, rfl, hb, Ad, cd, rfl, hrd⟩
                have HKd := Lib.hid (HKb.out.then_ hb)
                have Hrwd := Lib.hid (Hrwb.out.below hb)
                have hsb := Lib.hid (sbX (c := cd) (c' := cn) hnn.out (by omega) (rdB_of hrd hnn.out) (rdB_of (Hrnb.out.below hb) hnn.out))
                clear hb hby hrd hcell HKb Hrwb Hrnb
                go_wp2_with fail
                go_at_call 23
                refine hsb.out.mono ?_
                rintro e we ⟨u, rfl, hb, rfl⟩
                have HKe := Lib.hid (HKd.out.then_ hb)
                have Hrwe := Lib.hid (Hrwd.out.below hb)
                have hmore := Lib.hid (SmM.more hke2.out hn30 (l := lw) (by have := hnw.out; omega))
                have hap := Lib.hid (HKe.out.app (cb := cw) hmore.out hnw.out (Nat.le_refl _) (rdB_of Hrwe.out hnw.out))
                clear hb hsb HKd Hrwd Hrwe
                go_wp2_with fail
                go_at_call 17
                refine hap.out.mono ?_
                rintro e wf ⟨rfl, _, hks⟩
                have hsy := Lib.hid (hks.sync hmore.out.add)
                clear hks hap HKe
                go_wp2_with fail
                go_at_call 13
                refine hsy.out.mono ?_
                rintro e wg ⟨rfl, _, hks⟩
                have hfa := Lib.hid (hks.fail (ck := cg) hmore.out.add.sync Hgn.out (Nat.le_trans HB.out hks.below.size) (Reads.below Hgr.out (hks.below.mono HB.out)) hgc (by omega) (syncM_done _ ag))
                clear hks hsy
                go_wp2_with fail
                go_at_call 15
                refine hfa.out.mono ?_
                rintro e wh ⟨rfl, _, hks⟩
                obtain ⟨A10, c10, n10, hcell, hfv⟩ := hks.f.loadC
                have hle2 := Lib.hid (lenX (nm := q + q) hmore.out.add.sync rfl (by rw [hke2.out.ends lw, hln.out, hnn.out, hnw.out]) hfv)
                have HKh := Lib.hid hks
                clear hks hfa hfv
                go_wp2_with fail
                go_at_call 20
                refine hle2.out.mono ?_
                rintro e wi ⟨u, rfl, hb, rfl⟩
                have HKi := Lib.hid (HKh.out.then_ hb)
                clear hb hle2 HKh hcell
                go_wp2_with fail
                go_at_call 7
                refine works7a_any _ _ ?_
                rintro e wj ⟨rfl, hbl⟩
                go_wp2
                go_ret
                exact ⟨rfl, HKi.out.below.trans (hbl.mono HKi.out.below.size)⟩
end Go.Proofs.Ytnlcohijopokjaa
