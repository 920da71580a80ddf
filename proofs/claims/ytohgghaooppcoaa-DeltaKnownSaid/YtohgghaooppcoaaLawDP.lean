/- The walk of DeltaParses: whatever the bytes, it returns true. Conditions: none. -/
import Derived.Test.YtohgghaooppcoaaDlT
namespace Go.Proofs.Ytohgghaooppcoaa
open Go.RowKit Go.Lib

theorem par_err {b : List UInt8} (h : (par b).2 ≠ 0) : (par b).1 = [] := by
  have := fin_nil b b.length 0
  unfold fin at this
  unfold par at h ⊢
  rw [if_neg h] at this
  exact (congrArg Prod.fst this).symm
set_option maxHeartbeats 4000000 in
set_option maxRecDepth 100000 in
theorem parsesLaw_any (A : Option Addr) (c : Nat) (l : List UInt8) (w : World) (hl : l.length ≤ 9223372036854775807) (hcap : l.length ≤ c) (hr : RdB w w.heap.size A l) :
    Calls Try.prog 4 #[.slice A l.length c] w fun e w' => e = .returned (.bool true) ∧ Below w.heap.size w w' := by
  have hlI : (l.length : Int) ≤ 9223372036854775807 := by omega
  by_cases hbig : 2000 < l.length
  · have hbI : (2000 : Int) < (l.length : Int) := by omega
    clear hbig hl
    go_enter Try.func4, Try.ntmps4
    go_wp2_with (go_at_call 9; refine (works_any _).mono ?_; rintro _ w1 ⟨rfl, hb⟩)
    go_ret
    exact ⟨rfl, hb⟩
  have hbI : (l.length : Int) ≤ 2000 := by omega
  have Hl := Lib.hid (show l.length ≤ 1000000 by omega)
  have Hl' := Lib.hid (show l.length ≤ 140737488351232 by omega)
  have Hcap := Lib.hid hcap
  have hrb : Hid (RdB w w.heap.size A l) := hr
  have hB := Below.refl w.heap.size w
  obtain ⟨⟨R, E⟩, hP⟩ : ∃ r, Hid (par l = r) := ⟨_, rfl⟩
  have HR : Hid (R.length ≤ 1000000000) := by
    by_cases he : E = 0
    · have h := par_back (b := l) (by rw [hP.out]; exact he)
      rw [hP.out] at h
      have := h.2.2.1
      simp only at this
      show _ ≤ _
      omega
    · have : R = [] := by
        have := par_err (b := l) (by rw [hP.out]; exact he)
        rw [hP.out] at this
        exact this
      rw [this]
      simp [Hid]
  clear hbig hl hlI hcap hr
  go_enter Try.func4, Try.ntmps4
  go_wp2_with (first
    | (go_at_call 23; refine (own_h _ _ _ l Hl'.out hrb).mono ?_; rintro _ wn ⟨⟨A1, c1, rfl, hc1, hrw⟩, hbn⟩; replace hB := hB.trans (hbn.mono hB.size); replace hrb := on_ hrb hbn; clear hbn)
    | (go_at_call 24; refine (parse_h _ _ _ l R E hP Hl.out Hcap hrb).mono ?_; rintro _ wn ⟨⟨A2, c2, rfl, hc2, hr2⟩, hbn⟩; replace hB := hB.trans (hbn.mono hB.size); replace hrb := on_ hrb hbn; replace hrw := on_ hrw hbn; clear hbn)
    | (go_at_call 25; refine (refParse_h _ _ _ l R E hP Hl.out hc1 hrw).mono ?_; rintro _ wn ⟨⟨A3, c3, rfl, hc3, hr3⟩, hbn⟩; replace hB := hB.trans (hbn.mono hB.size); replace hrb := on_ hrb hbn; replace hrw := on_ hrw hbn; replace hr2 := on_ hr2 hbn; clear hbn)
    | (go_at_call 19; refine (same_h _ _ _ _ _ R R true (Lib.hid (decide_eq_true rfl)) HR HR hr2 hr3).mono ?_; rintro _ wn ⟨rfl, hbn⟩; replace hB := hB.trans (hbn.mono hB.size); replace hrb := on_ hrb hbn; replace hrw := on_ hrw hbn; clear hbn hr2 hr3)
    | (go_at_call 20; refine (sb_h _ _ _ _ _ l l true (Lib.hid (decide_eq_true rfl)) Hl'.out hrb hrw).mono ?_; rintro _ wn ⟨rfl, hbn⟩; replace hB := hB.trans (hbn.mono hB.size); clear hbn hrb hrw)
    | (go_at_call 9; refine (works_any _).mono ?_; rintro _ wn ⟨rfl, hbn⟩; replace hB := hB.trans (hbn.mono hB.size)))
  go_ret
  exact ⟨rfl, hB⟩
end Go.Proofs.Ytohgghaooppcoaa
