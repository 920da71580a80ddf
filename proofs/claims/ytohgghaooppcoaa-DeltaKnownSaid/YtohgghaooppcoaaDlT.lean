/- The contracts as the laws' walks take them: what is read is hidden, what is answered is named by letters. Conditions: as in the contracts. -/
import Derived.Test.YtohgghaooppcoaaDlS
namespace Go.Proofs.Ytohgghaooppcoaa
open Go.RowKit Go.Lib

section
variable (w : World) (A A' : Option Addr) (c c' : Nat)
theorem own_h (b : List UInt8) (hl : b.length ≤ 140737488351232) (hr : Hid (RdB w w.heap.size A b)) :
    Calls Try.prog 23 #[.slice A b.length c] w fun e w' => (∃ A c, e = .returned (.slice A b.length c) ∧ Hid (b.length ≤ c) ∧ Hid (RdB w' w'.heap.size A b)) ∧ Below w.heap.size w w' := by
  refine (own_any A c _ b w hl hr.out).mono ?_
  rintro _ w' ⟨v, rfl, hown, hb⟩
  obtain ⟨A, c, rfl, hc, _, hr⟩ := own_form hown
  exact ⟨⟨A, c, rfl, hc, hr⟩, hb⟩
theorem sb_h (b d : List UInt8) (t : Bool) (ht : Hid (decide (b = d) = t)) (hl : b.length ≤ 140737488351232) (hr : Hid (RdB w w.heap.size A b)) (hr' : Hid (RdB w w.heap.size A' d)) :
    Calls Try.prog 20 #[.slice A b.length c, .slice A' d.length c'] w fun e w' => e = .returned (.bool t) ∧ Below w.heap.size w w' := by
  refine (sameBytes_any A A' c c' _ _ b d w hl hr.out hr'.out).mono ?_
  rintro _ w' ⟨rfl, k, rfl⟩
  rw [ht.out]
  exact ⟨rfl, below_drewN (Below.refl _ _) k⟩
theorem parse_h (b : List UInt8) (R : List Ed) (E : Nat) (hP : Hid (par b = (R, E))) (hl : b.length ≤ 1000000) (hcap : Hid (b.length ≤ c)) (hr : Hid (RdB w w.heap.size A b)) :
    Calls Try.prog 24 #[.slice A b.length c] w fun e w' => (∃ A c, e = .returned (.tuple #[.slice A R.length c, .int .i64 (E : Int)]) ∧ Hid (R.length ≤ c) ∧ Hid (RdE w' w'.heap.size A R)) ∧ Below w.heap.size w w' := by
  refine (parse_any A c _ b w hl hcap.out (Nat.le_refl _) hr.out).mono ?_
  rintro _ w' ⟨⟨v, rfl, hown⟩, hb⟩
  rw [hP.out] at hown ⊢
  obtain ⟨A, c, rfl, hc, _, hr⟩ := hown.reads
  exact ⟨⟨A, c, rfl, hc, hr⟩, hb⟩
theorem refParse_h (b : List UInt8) (R : List Ed) (E : Nat) (hP : Hid (par b = (R, E))) (hl : b.length ≤ 1000000) (hcap : Hid (b.length ≤ c)) (hr : Hid (RdB w w.heap.size A b)) :
    Calls Try.prog 25 #[.slice A b.length c] w fun e w' => (∃ A c, e = .returned (.tuple #[.slice A R.length c, .int .i64 (E : Int)]) ∧ Hid (R.length ≤ c) ∧ Hid (RdE w' w'.heap.size A R)) ∧ Below w.heap.size w w' := by
  refine (refParse_any A c _ b w hl hcap.out (Nat.le_refl _) hr.out).mono ?_
  rintro _ w' ⟨⟨v, rfl, hown⟩, hb⟩
  rw [hP.out] at hown ⊢
  obtain ⟨A, c, rfl, hc, _, hr⟩ := hown.reads
  exact ⟨⟨A, c, rfl, hc, hr⟩, hb⟩
theorem same_h (l m : List Ed) (t : Bool) (ht : Hid (decide (l = m) = t)) (hl : Hid (l.length ≤ 1000000000)) (hm : Hid (m.length ≤ 1000000000)) (hr : Hid (RdE w w.heap.size A l)) (hr' : Hid (RdE w w.heap.size A' m)) :
    Calls Try.prog 19 #[.slice A l.length c, .slice A' m.length c'] w fun e w' => e = .returned (.bool t) ∧ Below w.heap.size w w' := by
  have h := same_any A A' c c' _ _ l m w (Nat.le_trans hl.out (by decide)) (Nat.le_trans hm.out (by decide)) (Nat.le_refl _) (Nat.le_refl _) hr.out hr'.out
  rw [ht.out] at h
  exact h
theorem diff_h (a b : List UInt8) (D : List Ed) (hd : Hid (dif a b = D)) (ha : Hid (a.length ≤ 1000000)) (hb : Hid (b.length ≤ 1000000)) :
    Calls Try.prog 26 #[.string (txt a), .string (txt b)] w fun e w' => (∃ A c, e = .returned (.slice A D.length c) ∧ Hid (D.length ≤ c) ∧ Hid (RdE w' w'.heap.size A D)) ∧ Below w.heap.size w w' := by
  refine (diff_any a b w (Nat.le_trans ha.out (by decide)) (Nat.le_trans hb.out (by decide))).mono ?_
  rintro _ w' ⟨v, rfl, hown, hb⟩
  rw [hd.out] at hown
  obtain ⟨A, c, rfl, hc, _, hr⟩ := hown.reads
  exact ⟨⟨A, c, rfl, hc, hr⟩, hb⟩
theorem refDiff_h (a b : List UInt8) (D : List Ed) (hd : Hid (dif a b = D)) (ha : Hid (a.length ≤ 1000000)) (hb : Hid (b.length ≤ 1000000)) :
    Calls Try.prog 27 #[.string (txt a), .string (txt b)] w fun e w' => (∃ A c, e = .returned (.slice A D.length c) ∧ Hid (RdE w' w'.heap.size A D)) ∧ Below w.heap.size w w' := by
  refine (refDiff_any a b w ha.out hb.out).mono ?_
  rintro _ w' ⟨⟨A, c, rfl, hr⟩, hb⟩
  rw [hd.out] at hr ⊢
  exact ⟨⟨A, c, rfl, hr⟩, hb⟩
theorem apply_h (base S : List UInt8) (l : List Ed) (E : Nat) (hS : Hid (appB base l = S)) (hE : Hid (appE base l = E)) (hb : Hid (base.length ≤ 1000000)) (hl : Hid (l.length ≤ 900)) (hok : Hid (Oks l)) (hr : Hid (RdE w w.heap.size A l)) :
    Calls Try.prog 11 #[.string (txt base), .slice A l.length c] w fun e w' => e = .returned (.tuple #[.string (txt S), .int .i64 (E : Int)]) ∧ Below w.heap.size w w' := by
  have h := apply_any base A c _ l w (Nat.le_trans hb.out (by decide)) (Nat.le_trans hl.out (by decide)) hok.out (Nat.le_refl _) hr.out
  unfold appVal at h
  rw [hS.out, hE.out] at h
  exact h
theorem refApply_h (base S : List UInt8) (l : List Ed) (E : Nat) (hS : Hid (appB base l = S)) (hE : Hid (appE base l = E)) (hb : Hid (base.length ≤ 1000000)) (hl : Hid (l.length ≤ 900)) (hok : Hid (Oks l)) (hr : Hid (RdE w w.heap.size A l)) :
    Calls Try.prog 12 #[.string (txt base), .slice A l.length c] w fun e w' => e = .returned (.tuple #[.string (txt S), .int .i64 (E : Int)]) ∧ Below w.heap.size w w' := by
  have h := refApply_any base A c _ l w (Nat.le_trans hb.out (by decide)) (Nat.le_trans hl.out (by decide)) hok.out (Nat.le_refl _) hr.out
  unfold appVal at h
  rw [hS.out, hE.out] at h
  exact h
theorem sizes_h (l : List Ed) (F T : Nat) (hF : Hid (szF l = F)) (hT : Hid (szT l = T)) (hl : Hid (l.length ≤ 900)) (hok : Hid (Oks l)) (hr : Hid (RdE w w.heap.size A l)) :
    Calls Try.prog 13 #[.slice A l.length c] w fun e w' => e = .returned (.tuple #[.int .i64 (F : Int), .int .i64 (T : Int)]) ∧ Below w.heap.size w w' := by
  have h := sizes_any A c _ l w (Nat.le_trans hl.out (by decide)) hok.out (Nat.le_refl _) hr.out
  rw [hF.out, hT.out] at h
  exact h
theorem refSizes_h (l : List Ed) (F T : Nat) (hF : Hid (szF l = F)) (hT : Hid (szT l = T)) (hl : Hid (l.length ≤ 900)) (hok : Hid (Oks l)) (hr : Hid (RdE w w.heap.size A l)) :
    Calls Try.prog 14 #[.slice A l.length c] w fun e w' => e = .returned (.tuple #[.int .i64 (F : Int), .int .i64 (T : Int)]) ∧ Below w.heap.size w w' := by
  have h := refSizes_any A c _ l w (Nat.le_trans hl.out (by decide)) hok.out (Nat.le_refl _) hr.out
  rw [hF.out, hT.out] at h
  exact h
theorem normal_h (l N : List Ed) (G : Nat) (hN : Hid (nrmL l = N)) (hG : Hid (nrmE l = G)) (hl : Hid (l.length ≤ 900)) (hok : Hid (Oks l)) (hr : Hid (RdE w w.heap.size A l)) :
    Calls Try.prog 15 #[.slice A l.length c] w fun e w' => (∃ A c, e = .returned (.tuple #[.slice A N.length c, .int .i64 (G : Int)]) ∧ Hid (OwnE 47 w.heap.size w' (.slice A N.length c) N) ∧ Hid (RdE w' w'.heap.size A N)) ∧ Below w.heap.size w w' := by
  refine (normal_any A c _ l w hl.out hok.out (Nat.le_refl _) hr.out).mono ?_
  rintro _ w' ⟨⟨v, rfl, hown⟩, hb⟩
  rw [hN.out] at hown
  rw [hG.out]
  obtain ⟨A, c, rfl, hc, _, hr⟩ := hown.reads
  exact ⟨⟨A, c, rfl, hown, hr⟩, hb⟩
theorem refNormal_h (l N : List Ed) (G : Nat) (hN : Hid (nrmL l = N)) (hG : Hid (nrmE l = G)) (hl : Hid (l.length ≤ 900)) (hcap : Hid (l.length ≤ c)) (hok : Hid (Oks l)) (hs : Hid (sumS l ≤ 1099511627)) (hr : Hid (RdE w w.heap.size A l)) :
    Calls Try.prog 16 #[.slice A l.length c] w fun e w' => (∃ A c, e = .returned (.tuple #[.slice A N.length c, .int .i64 (G : Int)]) ∧ Hid (RdE w' w'.heap.size A N)) ∧ Below w.heap.size w w' := by
  refine (refNormal_any A c _ l w (Nat.le_trans hl.out (by decide)) hcap.out hok.out hs.out (Nat.le_refl _) hr.out).mono ?_
  rintro _ w' ⟨⟨A, c, rfl, hc, hr⟩, hb⟩
  rw [hN.out] at hr ⊢
  rw [hG.out]
  exact ⟨⟨A, c, rfl, hr⟩, hb⟩
theorem put_h (l : List Ed) (P : List UInt8) (I : Nat) (hP : Hid (putB l = P)) (hI : Hid (putE l = I)) (hl : Hid (l.length ≤ 900)) (hok : Hid (Oks l)) (hr : Hid (RdE w w.heap.size A l)) :
    Calls Try.prog 17 #[.slice A l.length c] w fun e w' => (∃ A c, e = .returned (.tuple #[.slice A P.length c, .int .i64 (I : Int)]) ∧ Hid (P.length ≤ c) ∧ Hid (RdB w' w'.heap.size A P)) ∧ Below w.heap.size w w' := by
  refine (dput_any A c _ l w (Nat.le_trans hl.out (by decide)) hok.out (Nat.le_refl _) hr.out).mono ?_
  rintro _ w' ⟨⟨v, rfl, hown⟩, hb⟩
  rw [hP.out] at hown
  rw [hI.out]
  obtain ⟨A, c, rfl, hc, _, hr⟩ := own_form hown
  exact ⟨⟨A, c, rfl, hc, hr⟩, hb⟩
theorem refPut_h (l : List Ed) (P : List UInt8) (I : Nat) (hP : Hid (putB l = P)) (hI : Hid (putE l = I)) (hl : Hid (l.length ≤ 900)) (hok : Hid (Oks l)) (hr : Hid (RdE w w.heap.size A l)) :
    Calls Try.prog 18 #[.slice A l.length c] w fun e w' => (∃ A c, e = .returned (.tuple #[.slice A P.length c, .int .i64 (I : Int)]) ∧ Hid (P.length ≤ c) ∧ Hid (RdB w' w'.heap.size A P)) ∧ Below w.heap.size w w' := by
  refine (refDput_any A c _ l w (Nat.le_trans hl.out (by decide)) hok.out (Nat.le_refl _) hr.out).mono ?_
  rintro _ w' ⟨⟨v, rfl, hown⟩, hb⟩
  rw [hP.out] at hown
  rw [hI.out]
  obtain ⟨A, c, rfl, hc, _, hr⟩ := own_form hown
  exact ⟨⟨A, c, rfl, hc, hr⟩, hb⟩
theorem right_h (l : List Ed) (t : Bool) (ht : Hid (allRt l = t)) (hl : Hid (l.length ≤ 900)) (hr : Hid (RdE w w.heap.size A l)) :
    Calls Try.prog 21 #[.slice A l.length c] w fun e w' => e = .returned (.bool t) ∧ Below w.heap.size w w' := by
  have h := allRight_any A c _ l w (Nat.le_trans hl.out (by decide)) (Nat.le_refl _) hr.out
  rw [ht.out] at h
  exact h
theorem refRight_h (l : List Ed) (t : Bool) (ht : Hid (allRt l = t)) (hl : Hid (l.length ≤ 900)) (hok : Hid (Oks l)) (hr : Hid (RdE w w.heap.size A l)) :
    Calls Try.prog 22 #[.slice A l.length c] w fun e w' => e = .returned (.bool t) ∧ Below w.heap.size w w' := by
  have h := refAllRight_any A c _ l w (Nat.le_trans hl.out (by decide)) hok.out (Nat.le_refl _) hr.out
  rw [ht.out] at h
  exact h
theorem refs_h (l : List Ed) (hl : Hid (l.length ≤ 1000000000)) (hr : Hid (RdE w w.heap.size A l)) :
    Calls Try.prog 10 #[.slice A l.length c] w fun e w' => (∃ A c, e = .returned (.slice A l.length c) ∧ Hid (l.length ≤ c) ∧ Hid (RdE w' w'.heap.size A l)) ∧ Below w.heap.size w w' := by
  refine (refs_any A c _ l w hl.out (Nat.le_refl _) hr.out).mono ?_
  rintro _ w' ⟨⟨v, rfl, hown⟩, hb⟩
  obtain ⟨A, c, rfl, hc, _, hr⟩ := hown.reads
  exact ⟨⟨A, c, rfl, hc, hr⟩, hb⟩
end
end Go.Proofs.Ytohgghaooppcoaa
