/- The walk of DeltaDiffs: whatever the two texts, it returns true. Conditions: none. -/
import Derived.Test.YtohgghaooppcoaaDlT
namespace Go.Proofs.Ytohgghaooppcoaa
open Go.RowKit Go.Lib

theorem txt_spell (s : ByteArray) : ∃ l : List UInt8, s = txt l := ⟨s.data.toList, (txt_toList s).symm⟩
theorem txt_eq_self (b : List UInt8) : ((txt b).toList == (txt b).toList) = true := by simp
set_option maxHeartbeats 4000000 in
set_option maxRecDepth 100000 in
theorem diffsLaw_any (s t : ByteArray) (w : World) (hs : s.size ≤ 9223372036854775807) (ht : t.size ≤ 9223372036854775807) :
    Calls Try.prog 5 #[.string s, .string t] w fun e w' => e = .returned (.bool true) ∧ Below w.heap.size w w' := by
  obtain ⟨a, rfl⟩ := txt_spell s
  obtain ⟨b, rfl⟩ := txt_spell t
  have hsI : ((txt a).size : Int) ≤ 9223372036854775807 := by omega
  have htI : ((txt b).size : Int) ≤ 9223372036854775807 := by omega
  by_cases hbig : 2000 < (txt a).size
  · have hbI : (2000 : Int) < ((txt a).size : Int) := by omega
    clear hbig hs ht
    go_enter Try.func5, Try.ntmps5
    go_wp2_with (go_at_call 9; refine (works_any _).mono ?_; rintro _ w1 ⟨rfl, hb⟩)
    go_ret
    exact ⟨rfl, hb⟩
  have hbI : ¬ (2000 : Int) < ((txt a).size : Int) := by omega
  have hbd : decide ((2000 : Int) < ((txt a).size : Int)) = false := decide_eq_false hbI
  by_cases hbig2 : 2000 < (txt b).size
  · have hbI2 : (2000 : Int) < ((txt b).size : Int) := by omega
    clear hbig hs ht hbig2
    go_enter Try.func5, Try.ntmps5
    go_wp2_with (go_at_call 9; refine (works_any _).mono ?_; rintro _ w1 ⟨rfl, hb⟩)
    go_ret
    exact ⟨rfl, hb⟩
  have hbI2 : ¬ (2000 : Int) < ((txt b).size : Int) := by omega
  have hbd2 : decide ((2000 : Int) < ((txt b).size : Int)) = false := decide_eq_false hbI2
  have hza := txt_size a
  have hzb := txt_size b
  have Ha := Lib.hid (show a.length ≤ 1000000 by omega)
  have Hb := Lib.hid (show b.length ≤ 1000000 by omega)
  obtain ⟨D, hD⟩ : ∃ D, Hid (dif a b = D) := ⟨_, rfl⟩
  have Hok := dif_ok a b (by omega)
  have hlen := dif_len a b
  have hoks : Oks (dif a b) := dif_oks a b (by omega) (by omega)
  have hS : Hid (appB a (dif a b) = b) := by
    show _ = _
    unfold appB
    rw [if_pos Hok.of]
    exact Hok.ap
  have hE : Hid (appE a (dif a b) = 0) := by
    show _ = _
    unfold appE
    exact if_pos Hok.of
  have hF : Hid (szF (dif a b) = (txt a).size) := by show _ = _; rw [hza]; exact Hok.sf
  have hT : Hid (szT (dif a b) = (txt b).size) := by show _ = _; rw [hzb]; exact Hok.st
  have hN : Hid (nrmL (dif a b) = D) := by show _ = _; rw [Hok.nl]; exact hD.out
  have hG : Hid (nrmE (dif a b) = 0) := Hok.nrm
  rw [hD.out] at hS hE hF hT hN hG hlen hoks
  have hlD : Hid (D.length ≤ 900) := by show _ ≤ _; omega
  have hlD' : Hid (D.length ≤ 1000000000) := by show _ ≤ _; omega
  have hOk : Hid (Oks D) := hoks
  have hB := Below.refl w.heap.size w
  clear Hok hlen hoks hza hzb hbig hbig2 hs ht
  go_enter Try.func5, Try.ntmps5
  have st1 := Lib.hid (rfl : 0 = 0)
  go_wp2_with (first
    | (go_at_call 26; refine (diff_h _ a b D hD Ha Hb).mono ?_; rintro _ wn ⟨⟨A1, c1, rfl, hc1, hrd⟩, hbn⟩; replace hB := hB.trans (hbn.mono hB.size); clear hbn)
    | (go_at_call 11; refine (apply_h _ _ _ a b D 0 hS hE Ha hlD hOk hrd).mono ?_; rintro _ wn ⟨rfl, hbn⟩; replace hB := hB.trans (hbn.mono hB.size); replace hrd := on_ hrd hbn; clear hbn)
    | (go_at_call 15; refine (normal_h _ _ _ D D 0 hN hG hlD hOk hrd).mono ?_; rintro _ wn ⟨⟨A2, c2, rfl, _, hrn⟩, hbn⟩; replace hB := hB.trans (hbn.mono hB.size); replace hrd := on_ hrd hbn; clear hbn)
    | (go_at_call 13; refine (sizes_h _ _ _ D _ _ hF hT hlD hOk hrd).mono ?_; rintro _ wn ⟨rfl, hbn⟩; replace hB := hB.trans (hbn.mono hB.size); replace hrd := on_ hrd hbn; replace hrn := on_ hrn hbn; clear hbn)
    | (go_at_call 27; refine (refDiff_h _ a b D hD Ha Hb).mono ?_; rintro _ wn ⟨⟨A3, c3, rfl, hrr⟩, hbn⟩; replace hB := hB.trans (hbn.mono hB.size); replace hrd := on_ hrd hbn; replace hrn := on_ hrn hbn; clear hbn)
    | (go_at_call 19; have hst := st1; refine (same_h _ _ _ _ _ D D true (Lib.hid (decide_eq_true rfl)) hlD' hlD' hrd hrr).mono ?_; rintro _ wn ⟨rfl, hbn⟩; replace hB := hB.trans (hbn.mono hB.size); replace hrd := on_ hrd hbn; replace hrn := on_ hrn hbn; clear hbn hrr hst st1)
    | (go_at_call 10; refine (refs_h _ _ _ D hlD' hrd).mono ?_; rintro _ wn ⟨⟨A4, c4, rfl, hc4, hrs⟩, hbn⟩; replace hB := hB.trans (hbn.mono hB.size); replace hrn := on_ hrn hbn; clear hbn hrd)
    | (go_at_call 19; refine (same_h _ _ _ _ _ D D true (Lib.hid (decide_eq_true rfl)) hlD' hlD' hrn hrs).mono ?_; rintro _ wn ⟨rfl, hbn⟩; replace hB := hB.trans (hbn.mono hB.size); clear hbn hrs hrn)
    | (go_at_call 9; refine (works_any _).mono ?_; rintro _ wn ⟨rfl, hbn⟩; replace hB := hB.trans (hbn.mono hB.size)))
  go_ret
  exact ⟨rfl, hB⟩
end Go.Proofs.Ytohgghaooppcoaa
