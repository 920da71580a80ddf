/- The walk of VarintBack: whatever the numbers, the text, and the bytes ahead and behind, it returns true. Conditions: none (numbers are 64-bit words). -/
import Derived.Test.YtfjelnhdmmpiaaaLawPuts
import Derived.Deep.RegionWith
import Derived.Deep.DeepCutAuto
import Derived.Deep.RegionHeld3
namespace Go.Proofs.Ytfjelnhdmmpiaaa
open Go.RowKit

theorem RdB.front {w : World} {B : Nat} {A : Option Addr} {l : List UInt8} (hr : RdB w B A l) (k : Nat) : RdB w B A (l.take k) := by
  refine ⟨by rw [bs_len]; omega, fun hn => ?_⟩
  rw [List.length_take] at hn
  obtain ⟨ad, rfl, hb, hc⟩ := hr.2 (by omega)
  refine ⟨_, rfl, hb, fun j u hu => hc j u ?_⟩
  have hjl : j < (bs (l.take k)).length := (List.getElem?_eq_some_iff.1 hu).1
  rw [bs_len, List.length_take] at hjl
  rw [← hu]
  simp only [bs, List.getElem?_map, List.getElem?_take]
  rw [if_pos (by omega)]
theorem sameBytes_at (A A' : Option Addr) (c c' B B' n : Nat) (l m : List UInt8) (w : World) (hl : l.length ≤ 1099511627776) (hn : m.length = n) (hr : RdB w B A l) (hm : RdB w B' A' m) (b : Bool) (hb : decide (l = m) = b) :
    Calls Try.prog 10 #[.slice A l.length c, .slice A' n c'] w fun e w' => e = .returned (.bool b) ∧ ∃ n, w' = w.drewN n := by
  subst hn
  subst hb
  exact sameBytes_any A A' c c' B B' l m w hl hr hm
theorem quiet_left {P : Program} {f : FuncId} {args : Array Value} {w : World} {n : Nat} {v : Value}
    (h : Calls P f args (w.drewN n) fun e w' => e = .returned v ∧ w.drewN n = w') : Calls P f args (w.drewN n) fun e w'' => e = .returned v ∧ ∃ m, w'' = w.drewN m :=
  h.mono fun _ _ ⟨he, hm⟩ => ⟨he, n, hm.symm⟩
theorem txt_self (s : ByteArray) : txt s.data.toList = s := by
  cases s
  simp [txt]
theorem back_all {ahead m : List UInt8} {l : List Nat} (hn : ∀ n ∈ l, n < 18446744073709551616) : takeAll ((ahead ++ encs l) ++ m) (ahead.length : Int) (l.length : Int) = (l, ((ahead ++ encs l).length : Int), 0) := by
  rw [takeAll_enc (rest := m) hn (by rw [List.append_assoc, List.drop_left]; rfl)]
  simp [encs]
theorem back_text {a b : List UInt8} {s : List UInt8} (hs : s.length < 18446744073709551616) : takeText ((a ++ encText s) ++ b) (a.length : Int) = (s, ((a ++ encText s).length : Int), 0) := by
  rw [takeText_enc (rest := b) hs (by rw [List.append_assoc, List.drop_left]; simp [encText])]
  simp [encText, sz]
  omega

set_option maxHeartbeats 4000000 in
set_option maxRecDepth 100000 in
theorem backLaw_any (A A2 A3 : Option Addr) (c c2 c3 : Nat) (l : List Nat) (s : ByteArray) (ahead behind : List UInt8) (w : World) (hl : l.length ≤ 9223372036854775807) (hs : s.size ≤ 9223372036854775807)
    (ha : ahead.length ≤ 9223372036854775807) (hz : behind.length ≤ 9223372036854775807) (hc3 : behind.length ≤ c3)
    (hr : RdU w w.heap.size A l) (hn : ∀ n ∈ l, n < 18446744073709551616) (hra : RdB w w.heap.size A2 ahead) (hrb : RdB w w.heap.size A3 behind) :
    Calls Try.prog 5 #[.slice A l.length c, .string s, .slice A2 ahead.length c2, .slice A3 behind.length c3] w fun e w' => e = .returned (.bool true) ∧ Below w.heap.size w w' := by
  have hlI : (l.length : Int) ≤ 9223372036854775807 := by omega
  have hsI : (s.size : Int) ≤ 9223372036854775807 := by omega
  have haI : (ahead.length : Int) ≤ 9223372036854775807 := by omega
  have hzI : (behind.length : Int) ≤ 9223372036854775807 := by omega
  have Hn := Lib.hid hn
  clear hl hs ha hz hn
  by_cases h1 : (50 : Int) < (l.length : Int)
  · go_enter Try.func5, Try.ntmps5
    go_wp2_with fail
    refine (works_any _).mono ?_
    rintro e w1 ⟨rfl, hb⟩
    go_wp2
    go_ret
    exact ⟨rfl, hb⟩
  have h1' : (l.length : Int) ≤ 50 := by omega
  clear h1
  by_cases h2 : (1000 : Int) < (s.size : Int)
  · go_enter Try.func5, Try.ntmps5
    go_wp2_with fail
    refine (works_any _).mono ?_
    rintro e w1 ⟨rfl, hb⟩
    go_wp2
    go_ret
    exact ⟨rfl, hb⟩
  have h2' : (s.size : Int) ≤ 1000 := by omega
  clear h2
  by_cases h3 : (1000 : Int) < (ahead.length : Int)
  · go_enter Try.func5, Try.ntmps5
    go_wp2_with fail
    refine (works_any _).mono ?_
    rintro e w1 ⟨rfl, hb⟩
    go_wp2
    go_ret
    exact ⟨rfl, hb⟩
  have h3' : (ahead.length : Int) ≤ 1000 := by omega
  clear h3
  by_cases h4 : (1000 : Int) < (behind.length : Int)
  · go_enter Try.func5, Try.ntmps5
    go_wp2_with fail
    refine (works_any _).mono ?_
    rintro e w1 ⟨rfl, hb⟩
    go_wp2
    go_ret
    exact ⟨rfl, hb⟩
  have h4' : (behind.length : Int) ≤ 1000 := by omega
  clear h4
  have e : s.data.toList.length = s.size := by simp
  have hel : (encs l).length ≤ 500 := by have := encs_le l Hn.out; omega
  have het : (encText s.data.toList).length ≤ 1010 := by
    have := sz_10 (n := s.size) (by omega)
    unfold sz at this
    unfold encText
    rw [List.length_append, e]
    omega
  have Hl := Lib.hid (show l.length ≤ 68719476736 by omega)
  have Hs := Lib.hid (show s.size ≤ 1099511627776 by omega)
  have Ha := Lib.hid (show ahead.length ≤ 1099511627776 by omega)
  have Hz := Lib.hid (show behind.length ≤ 1099511627776 by omega)
  have Hlen := Lib.hid (show ahead.length + (encs l).length + (encText s.data.toList).length + behind.length ≤ 5000 by omega)
  have Hall := Lib.hid (back_all (ahead := ahead) (m := encText s.data.toList ++ behind) Hn.out)
  have Htxt := Lib.hid (back_text (a := ahead ++ encs l) (b := behind) (s := s.data.toList) (by rw [e]; omega))
  clear e hel het
  go_enter Try.func5, Try.ntmps5
  go_wp2_with fail
  refine (own_any A2 c2 _ ahead _ Ha.out hra).mono ?_
  rintro e w1 ⟨v1, rfl, hown1, hb1⟩
  go_wp2_with fail
  refine (all_any A c l _ Hl.out ((hr.below hb1).more hb1.size) Hn.out).mono ?_
  rintro e w2 ⟨v2, rfl, hown2, hb2⟩
  obtain ⟨B2, d2, rfl, _, _, hr2⟩ := own_form hown2
  have hown1b := own_below hown1 hb2 (Nat.le_refl _)
  have hbb2 := hb1.trans (hb2.mono hb1.size)
  clear hown1 hown2 hb1 hb2
  go_wp2_with (first
    | (at_builtin; refine push_row (.tmp 43) (.tmp 45) hown1b hbb2.size hr2 (by have := Hlen.out; omega) rfl rfl rfl rfl ?_; intro v3 w3 hown3 hb3 hbs3 hg3; obtain ⟨L1, hL1⟩ : ∃ L1, L1 = ahead ++ encs l := ⟨_, rfl⟩; rw [← hL1] at hown3; have HL1 := Lib.hid hL1; clear hL1; obtain ⟨A4, c4, rfl, _, _, _⟩ := own_form hown3; clear hown1b hr2 hg3)
    | fail)
  have hbb3 := hbb2.trans (hb3.mono (Nat.le_refl _))
  clear hbb2 hb3
  refine (text_any s _ Hs.out).mono ?_
  rintro e w4 ⟨v4, rfl, hown4, hb4⟩
  obtain ⟨B4, d4, rfl, _, _, hr4⟩ := own_form hown4
  have hown3b := own_below hown3 hb4 (Nat.le_refl _)
  have hbb4 := hbb3.trans (hb4.mono hbb3.size)
  clear hown3 hown4 hb4 hbb3
  go_wp2_with (first
    | (at_builtin; refine push_row (.tmp 49) (.tmp 51) hown3b hbb4.size hr4 (by have := Hlen.out; rw [HL1.out, List.length_append]; omega) rfl rfl rfl rfl ?_; intro v5 w5 hown5 hb5 hbs5 hg5; obtain ⟨L2, hL2⟩ : ∃ L2, L2 = L1 ++ encText s.data.toList := ⟨_, rfl⟩; rw [← hL2] at hown5; have HL2 := Lib.hid hL2; clear hL2; obtain ⟨A5, c5, rfl, _, _, _⟩ := own_form hown5; have hbb5 := hbb4.trans hb5; clear hown3b hr4 hg5)
    | (at_builtin; refine push_row (.tmp 55) (.tmp 56) hown5 hbb5.size (hrb.below hbb5) (by have := Hlen.out; rw [HL2.out, HL1.out, List.length_append, List.length_append]; omega) rfl rfl rfl rfl ?_; intro v6 w6 hown6 hb6 hbs6 hg6; obtain ⟨L3, hL3⟩ : ∃ L3, L3 = L2 ++ behind := ⟨_, rfl⟩; rw [← hL3] at hown6; have HL3 := Lib.hid hL3; clear hL3; obtain ⟨A6, c6, rfl, hc6, _, hr6⟩ := own_form hown6; have hbb6 := hbb5.trans hb6; clear hown5 hg6 hbb5 hb6 hbs6))
  have Hfull := Lib.hid (show L3.length ≤ 1099511627776 by have := Hlen.out; rw [HL3.out, HL2.out, HL1.out, List.length_append, List.length_append, List.length_append]; omega)
  have Hall' := Lib.hid (show takeAll L3 (ahead.length : Int) (l.length : Int) = (l, (L1.length : Int), 0) by rw [HL3.out, HL2.out, HL1.out, List.append_assoc (ahead ++ encs l)]; exact Hall.out)
  have Htxt' := Lib.hid (show takeText L3 (L1.length : Int) = (s.data.toList, (L2.length : Int), 0) by rw [HL3.out, HL2.out, HL1.out]; exact Htxt.out)
  refine (takeAll_any A6 c6 w6.heap.size _ _ _ _ Hfull.out hc6 (Nat.le_refl _) hr6 (by omega)).mono ?_
  rintro e w7 ⟨hv7, hb7⟩
  rw [Hall'.out] at hv7
  obtain ⟨A7, c7, rfl, hr7⟩ := many_form hv7
  have hr6' := (hr6.below hb7).more hb7.size
  have hbb7 := hbb6.trans (hb7.mono hbb6.size)
  clear hv7 hr6 hbb6 hb7
  go_wp2_with fail
  refine (takeText_any A6 c6 w7.heap.size _ _ _ Hfull.out hc6 hr6').mono ?_
  rintro e _ ⟨rfl, rfl⟩
  rw [Htxt'.out]
  unfold textVal
  rw [txt_self]
  go_wp2_with fail
  refine (sameWords_any A A7 c c7 _ _ l l _ (by have := Hl.out; omega) (hr.below hbb7) hr7).mono ?_
  rintro e w8 ⟨rfl, k8, hw8⟩
  have hbb8 : Below w.heap.size w w8 := by rw [hw8]; exact below_drewN hbb7 k8
  clear hr7 hr6' hbb7 hw8
  rw [decide_eq_true (rfl : l = l)]
  go_wp2_with fail
  refine (take_any A3 c3 _ behind 0 _ Hz.out hc3 (hrb.below hbb8)).mono ?_
  rintro e _ ⟨rfl, rfl⟩
  go_upto_region 14 with fail
  go_cut [128] from 108 to 128 (fun r wx => r = .bool false ∧ Below w.heap.size w wx)
  case first =>
    by_cases hok : (take behind 0).2.2 = 0
    · obtain ⟨_, hn64, k, hk0, hnx, hkl, henc⟩ := take_ok hok
      generalize htk : take behind 0 = r at *
      obtain ⟨n, f, e⟩ := r
      simp only at hok hnx hn64 henc
      subst hok
      have hf : f = (k : Int) := by omega
      subst hf
      have hn10 := sz_10 hn64
      have Hn64 := Lib.hid hn64
      have Henc := Lib.hid henc
      have Hn10 := Lib.hid (show (enc n).length ≤ 1099511627776 by unfold sz at hn10; omega)
      have Htl := Lib.hid (show (behind.take k).length = k by rw [List.length_take]; omega)
      have Heq := Lib.hid (show decide (enc n = behind.take k) = true by rw [decide_eq_true_iff, henc]; rfl)
      have hk1 : decide ((k : Int) ≤ 0) = false := by rw [decide_eq_false_iff_not]; omega
      have hk1' : decide (k = 0) = false := by rw [decide_eq_false_iff_not]; omega
      have hk2 : decide ((behind.length : Int) < (k : Int)) = false := by rw [decide_eq_false_iff_not]; omega
      have hk2' : decide (behind.length < k) = false := by rw [decide_eq_false_iff_not]; omega
      have hkc : (k : Int) ≤ (c3 : Int) := by omega
      clear htk hnx hn10 hn64 henc hkl
      go_region_held3 (fun wx => Below w.heap.size w wx) (first | exact below_drewN hbb9 _ | exact hbb9 | exact Below.drew hbb8 | exact hbb8) (first
        | (go_at_call 14; refine (putNew _ n _ rfl Hn64.out).mono ?_; rintro e w9 ⟨A9, c9, rfl, hr9, hc9⟩; have hbb9 := (Below.drew hbb8).trans (hc9.mono hbb8.size); clear hc9)
        | (go_at_call 10; refine (sameBytes_at A9 A3 c9 c3 _ _ k (enc n) (behind.take k) _ Hn10.out Htl.out hr9 (RdB.front (hrb.below hbb9) k) true Heq.out).mono ?_; rintro e w10 ⟨rfl, k10, rfl⟩))
      all_goals (go_wp2_with fail; go_meet; exact ⟨rfl, below_drewN hbb9 _⟩)
    · have he : ((((take behind 0).2.2 : Nat) : Int) == 0) = false := beq_eq_false_iff_ne.2 (by omega)
      have he' : ((take behind 0).2.2 == 0) = false := beq_eq_false_iff_ne.2 (by omega)
      clear hok
      go_quiet (fail)
      go_wp2_with fail
      go_meet
      exact ⟨rfl, below_drewN hbb8 _⟩
  case rest =>
    clear hbb8
    obtain ⟨rfl, hbb8⟩ := hcut
    go_wp2_with fail
    go_loopw [21] (fun t wr => ∃ k : Nat, k ≤ l.length ∧ t = .int .i64 (k : Int) ∧ Below w.heap.size w wr) (fun t _ => l.length - (intOf t).toNat)
    case atStart => exact ⟨0, by omega, rfl, hbb8⟩
    case round =>
      clear hbb8
      obtain ⟨i, hi, rfl, hb⟩ := hrel
      by_cases hlt : i + 1 < l.length
      · have hltI : (i : Int) + 1 < (l.length : Int) := by omega
        obtain ⟨ad, x, rfl, hab, hc, hx⟩ := RdU.at_ (hr.below hb) (k := i) (by omega)
        obtain ⟨_, y, e, _, hcy, hy⟩ := RdU.at_ (hr.below hb) (k := i + 1) hlt
        injection e with e
        subst e
        have hcy2 : wr.cell? ⟨ad.block, ad.off + (i + 1), none⟩ = some (.int .u64 (y : Int)) := by
          have := hcy
          rwa [show ad.add (i + 1) = ⟨ad.block, ad.off + (i + 1), none⟩ from by simp [Addr.add]] at this
        have hx64 := Hn.out x (mem_of_get hx)
        have hy64 := Hn.out y (mem_of_get hy)
        have Hx64 := Lib.hid hx64
        have Hy64 := Lib.hid hy64
        have hmono := fun h : x ≤ y => sz_mono h hy64
        have hix : IntKind.i64.wrap ((i : Int) + 1) = (i : Int) + 1 := by rw [IntWalk.i64_in _ (by omega)]
        have hil : i < l.length := by omega
        have hilI : (i : Int) < (l.length : Int) := by omega
        have hi0 : 0 ≤ (i : Int) + 1 := by omega
        have hin : ((i : Int) + 1).toNat = i + 1 := by omega
        clear hx64 hy64
        by_cases hxy : x ≤ y
        · have g1 : decide ((x : Int) ≤ (y : Int)) = true := by rw [decide_eq_true_iff]; omega
          have g1' : decide (x ≤ y) = true := by rw [decide_eq_true_iff]; omega
          have hm := hmono hxy
          have g2 : decide (((sz y : Nat) : Int) < ((sz x : Nat) : Int)) = false := by rw [decide_eq_false_iff_not]; omega
          have g2' : decide (sz y < sz x) = false := by rw [decide_eq_false_iff_not]; omega
          clear hmono hm hxy
          go_wp2_with fail
          go_quiet ((go_at_call 16; exact quiet_left (size_any _ _ (by first | exact Hx64.out | exact Hy64.out))))
          go_wp2
          go_roundw
          case rel => exact ⟨i + 1, by omega, by go_num, below_drewN hb _⟩
          case measure => simp [intOf]; omega
        · have g1 : decide ((x : Int) ≤ (y : Int)) = false := by rw [decide_eq_false_iff_not]; omega
          have g1' : decide (x ≤ y) = false := by rw [decide_eq_false_iff_not]; omega
          clear hmono
          go_wp2_with fail
          go_quiet (fail)
          go_wp2
          go_roundw
          case rel => exact ⟨i + 1, by omega, by go_num, below_drewN hb _⟩
          case measure => simp [intOf]; omega
      · have hge : ¬ (i : Int) + 1 < (l.length : Int) := by omega
        go_wp2_with fail
        refine (works_any _).mono ?_
        rintro e w12 ⟨rfl, hb12⟩
        have hbb12 := hb.trans (hb12.mono hb.size)
        go_wp2
        go_ret
        exact ⟨rfl, hbb12⟩
end Go.Proofs.Ytfjelnhdmmpiaaa
