/- The walk of DeltaApplies: whatever the text and the edits, it returns true. Conditions: none. -/
import Derived.Test.YtohgghaooppcoaaLawDD
namespace Go.Proofs.Ytohgghaooppcoaa
open Go.RowKit Go.Lib

/-- Their numbers fit. -/
def Nums (l : List Ed) : Prop := ∀ x ∈ l, -9223372036854775808 ≤ x.n ∧ x.n ≤ 9223372036854775807 ∧ x.s.length ≤ 9223372036854775807
theorem own_on {w w' : World} {b s n : Nat} {e : TypeId} {v : Value} {xs : List Value} (h : Hid (w.ownsRow b e s v n xs)) (hb : Below w.heap.size w w') : Hid (w'.ownsRow b e s v n xs) := own_below h.out hb (Nat.le_refl _)
theorem refs_o (w : World) (A : Option Addr) (c b : Nat) (l : List Ed) (hl : Hid (l.length ≤ 1000000000)) (hb : b ≤ w.heap.size) (hr : Hid (RdE w w.heap.size A l)) :
    Calls Try.prog 10 #[.slice A l.length c] w fun e w' => (∃ A c, e = .returned (.slice A l.length c) ∧ Hid (l.length ≤ c) ∧ Hid (RdE w' w'.heap.size A l) ∧ Hid (OwnE 61 b w' (.slice A l.length c) l)) ∧ Below w.heap.size w w' := by
  refine (refs_any A c _ l w hl.out (Nat.le_refl _) hr.out).mono ?_
  rintro _ w' ⟨⟨v, rfl, hown⟩, hbn⟩
  obtain ⟨A, c, rfl, hc, _, hr⟩ := hown.reads
  exact ⟨⟨A, c, rfl, hc, hr, own_mono hown hb⟩, hbn⟩
theorem few_h (w : World) (A : Option Addr) (c : Nat) (l : List Ed) (hl : l.length ≤ 9223372036854775807) (hs : Hid (Nums l)) (hr : Hid (RdE w w.heap.size A l)) :
    Calls Try.prog 8 #[.slice A l.length c] w fun e w' => FewVal l e ∧ Below w.heap.size w w' :=
  few_any A c _ l w hl (fun x hx => (hs.out x hx).2.2) (Nat.le_refl _) hr.out
theorem sumS_le : ∀ (l : List Ed) (M : Nat), (∀ x ∈ l, x.s.length ≤ M) → sumS l ≤ M * l.length
  | [], _, _ => by simp [sumS]
  | x :: l, M, h => by
    have ih := sumS_le l M fun y hy => h y (List.mem_cons_of_mem _ hy)
    have := h x List.mem_cons_self
    simp only [sumS, List.length_cons, Nat.mul_add, Nat.mul_one]
    omega
theorem ed_ne_red : (47 : TypeId) ≠ 61 := by decide
set_option maxHeartbeats 4000000 in
set_option maxRecDepth 100000 in
theorem appliesLaw_any (s : ByteArray) (A : Option Addr) (c : Nat) (l : List Ed) (w : World) (hs : s.size ≤ 9223372036854775807) (hl : l.length ≤ 9223372036854775807) (hcap : l.length ≤ c) (hn : Nums l) (hr : RdE w w.heap.size A l) :
    Calls Try.prog 3 #[.string s, .slice A l.length c] w fun e w' => e = .returned (.bool true) ∧ Below w.heap.size w w' := by
  obtain ⟨b, rfl⟩ := txt_spell s
  have hsI : ((txt b).size : Int) ≤ 9223372036854775807 := by omega
  by_cases hbig : 2000 < (txt b).size
  · have hbI : (2000 : Int) < ((txt b).size : Int) := by omega
    clear hbig hs
    go_enter Try.func3, Try.ntmps3
    go_wp2_with (go_at_call 9; refine (works_any _).mono ?_; rintro _ w1 ⟨rfl, hb⟩)
    go_ret
    exact ⟨rfl, hb⟩
  have hbI : ¬ (2000 : Int) < ((txt b).size : Int) := by omega
  have hbd : decide ((2000 : Int) < ((txt b).size : Int)) = false := decide_eq_false hbI
  have hzb := txt_size b
  have Hb := Lib.hid (show b.length ≤ 1000000 by omega)
  have hrl : Hid (RdE w w.heap.size A l) := hr
  have hrl0 : Hid (RdE w w.heap.size A l) := hr
  have Hn : Hid (Nums l) := hn
  have Hcap := Lib.hid hcap
  have Hl := Lib.hid hl
  have hB := Below.refl w.heap.size w
  clear hzb hbig hs hn hr hcap hl
  go_enter Try.func3, Try.ntmps3
  go_upto_region 1 with fail
  go_cut [30] from 23 to 30 (fun v wx => (∃ t : Bool, v = .bool (!t) ∧ Hid (t = true → l.length ≤ 30 ∧ ∀ x ∈ l, x.s.length ≤ 200)) ∧ Below w.heap.size w wx)
  case first =>
    rename_i J K1 hJ hK
    go_wp2_with (go_at_call 8; refine (few_h _ _ _ l Hl.out Hn hrl).mono ?_; rintro _ wn ⟨⟨t, rfl, ht⟩, hbn⟩; replace hB := hB.trans (hbn.mono hB.size); have Ht := Lib.hid ht; clear ht hbn)
    refine Met.intro (hJ _ _ ?_)
    exact ⟨_, _, _, _, _, _, _, _, ⟨⟨t, rfl, Ht⟩, hB⟩, rfl⟩
  obtain ⟨⟨t, rfl, Ht⟩, hb1⟩ := hcut
  replace hrl : Hid (RdE wc wc.heap.size A l) := on_ hrl hb1
  replace hB := hb1
  clear hb1
  cases t with
  | false =>
    go_wp2_with (go_at_call 9; refine (works_any _).mono ?_; rintro _ w1 ⟨rfl, hbn⟩; replace hB := hB.trans (hbn.mono hB.size))
    go_ret
    exact ⟨rfl, hB⟩
  | true =>
    obtain ⟨hl30, hs200⟩ := Ht.out rfl
    have hL : Hid (l.length ≤ 900) := by show _ ≤ _; omega
    have hL' : Hid (l.length ≤ 1000000000) := by show _ ≤ _; omega
    have hOk : Hid (Oks l) := fun x hx => ⟨(Hn.out x hx).1, (Hn.out x hx).2.1, Nat.le_trans (hs200 x hx) (by decide)⟩
    have hSS : Hid (sumS l ≤ 1099511627) := by
      have := sumS_le l 200 hs200
      show _ ≤ _
      omega
    obtain ⟨S, hS⟩ : ∃ S, Hid (appB b l = S) := ⟨_, rfl⟩
    obtain ⟨E, hE⟩ : ∃ E, Hid (appE b l = E) := ⟨_, rfl⟩
    obtain ⟨F, hF⟩ : ∃ F, Hid (szF l = F) := ⟨_, rfl⟩
    obtain ⟨T, hT⟩ : ∃ T, Hid (szT l = T) := ⟨_, rfl⟩
    obtain ⟨N, hN⟩ : ∃ N, Hid (nrmL l = N) := ⟨_, rfl⟩
    obtain ⟨G, hG⟩ : ∃ G, Hid (nrmE l = G) := ⟨_, rfl⟩
    obtain ⟨P, hP⟩ : ∃ P, Hid (putB l = P) := ⟨_, rfl⟩
    obtain ⟨I, hI⟩ : ∃ I, Hid (putE l = I) := ⟨_, rfl⟩
    obtain ⟨rb, hrb⟩ : ∃ rb, Hid (allRt l = rb) := ⟨_, rfl⟩
    have hNl : Hid (N.length ≤ 1000000000) := by
      have : N.length ≤ l.length := by
        rw [← hN.out]
        unfold nrmL
        split
        · rename_i h
          exact norm_len (wrs_of_all (nrmE_ok h).1)
        · simp
      show _ ≤ _
      omega
    have hPl : Hid (P.length ≤ 140737488351232) := by
      show _ ≤ _
      rw [← hP.out]
      unfold putB
      split
      · rename_i h
        have h1 := encEs_len h (fun x hx => Nat.le_trans (hs200 x hx) (by decide))
        have h2 : 1099511638 * l.length ≤ 1099511638 * 30 := Nat.mul_le_mul_left _ hl30
        omega
      · simp
    have NlI : (N.length : Int) ≤ 1000000000 := by have := hNl.out; omega
    clear hl30 hs200 Ht
    go_upto_region 14 with (first
      | (go_at_call 10; refine (refs_o _ _ _ w.heap.size l hL' hB.size hrl).mono ?_; rintro _ wn ⟨⟨A1, c1, rfl, hc1, hrr, hro⟩, hbn⟩; replace hB := hB.trans (hbn.mono hB.size); replace hrl := on_ hrl hbn; clear hbn)
      | (go_at_call 11; refine (apply_h _ _ _ b S l E hS hE Hb hL hOk hrl).mono ?_; rintro _ wn ⟨rfl, hbn⟩; replace hB := hB.trans (hbn.mono hB.size); replace hrl := on_ hrl hbn; replace hrr := on_ hrr hbn; replace hro := own_on hro hbn; clear hbn)
      | (go_at_call 12; refine (refApply_h _ _ _ b S l E hS hE Hb hL hOk hrr).mono ?_; rintro _ wn ⟨rfl, hbn⟩; replace hB := hB.trans (hbn.mono hB.size); replace hrl := on_ hrl hbn; replace hrr := on_ hrr hbn; replace hro := own_on hro hbn; clear hbn)
      | (go_at_call 13; refine (sizes_h _ _ _ l F T hF hT hL hOk hrl).mono ?_; rintro _ wn ⟨rfl, hbn⟩; replace hB := hB.trans (hbn.mono hB.size); replace hrl := on_ hrl hbn; replace hrr := on_ hrr hbn; replace hro := own_on hro hbn; clear hbn)
      | (go_at_call 14; refine (refSizes_h _ _ _ l F T hF hT hL hOk hrr).mono ?_; rintro _ wn ⟨rfl, hbn⟩; replace hB := hB.trans (hbn.mono hB.size); replace hrl := on_ hrl hbn; replace hrr := on_ hrr hbn; replace hro := own_on hro hbn; clear hbn)
      | (go_at_call 15; refine (normal_h _ _ _ l N G hN hG hL hOk hrl).mono ?_; rintro _ wn ⟨⟨A2, c2, rfl, hno, hrn⟩, hbn⟩; replace hno := Lib.hid (own_mono hno.out hB.size); replace hB := hB.trans (hbn.mono hB.size); replace hrl := on_ hrl hbn; replace hrr := on_ hrr hbn; replace hro := own_on hro hbn; clear hbn)
      | (go_at_call 16; refine (refNormal_h _ _ _ l N G hN hG hL hc1 hOk hSS hrr).mono ?_; rintro _ wn ⟨⟨A3, c3, rfl, hrm⟩, hbn⟩; replace hB := hB.trans (hbn.mono hB.size); replace hrl := on_ hrl hbn; replace hrr := on_ hrr hbn; replace hro := own_on hro hbn; replace hno := own_on hno hbn; replace hrn := on_ hrn hbn; clear hbn)
      | (go_at_call 17; refine (put_h _ _ _ l P I hP hI hL hOk hrl).mono ?_; rintro _ wn ⟨⟨A4, c4, rfl, hc4, hrp⟩, hbn⟩; replace hB := hB.trans (hbn.mono hB.size); replace hrl := on_ hrl hbn; replace hrr := on_ hrr hbn; replace hro := own_on hro hbn; replace hno := own_on hno hbn; replace hrn := on_ hrn hbn; replace hrm := on_ hrm hbn; clear hbn)
      | (go_at_call 18; refine (refPut_h _ _ _ l P I hP hI hL hOk hrr).mono ?_; rintro _ wn ⟨⟨A5, c5, rfl, hc5, hrq⟩, hbn⟩; replace hB := hB.trans (hbn.mono hB.size); replace hrl := on_ hrl hbn; replace hrr := on_ hrr hbn; replace hro := own_on hro hbn; replace hno := own_on hno hbn; replace hrn := on_ hrn hbn; replace hrm := on_ hrm hbn; replace hrp := on_ hrp hbn; clear hbn)
      | (go_at_call 19; refine (same_h _ _ _ _ _ N N true (Lib.hid (decide_eq_true rfl)) hNl hNl hrn hrm).mono ?_; rintro _ wn ⟨rfl, hbn⟩; replace hB := hB.trans (hbn.mono hB.size); replace hrl := on_ hrl hbn; replace hrr := on_ hrr hbn; replace hro := own_on hro hbn; replace hno := own_on hno hbn; replace hrp := on_ hrp hbn; replace hrq := on_ hrq hbn; clear hbn hrn hrm)
      | (go_at_call 20; refine (sb_h _ _ _ _ _ P P true (Lib.hid (decide_eq_true rfl)) hPl.out hrp hrq).mono ?_; rintro _ wn ⟨rfl, hbn⟩; replace hB := hB.trans (hbn.mono hB.size); replace hrl := on_ hrl hbn; replace hrr := on_ hrr hbn; replace hro := own_on hro hbn; replace hno := own_on hno hbn; clear hbn hrp hrq)
      | (go_at_call 21; refine (right_h _ _ _ l rb hrb hL hrl).mono ?_; rintro _ wn ⟨rfl, hbn⟩; replace hB := hB.trans (hbn.mono hB.size); replace hrl := on_ hrl hbn; replace hrr := on_ hrr hbn; replace hro := own_on hro hbn; replace hno := own_on hno hbn; clear hbn)
      | (go_at_call 22; refine (refRight_h _ _ _ l rb hrb hL hOk hrr).mono ?_; rintro _ wn ⟨rfl, hbn⟩; replace hB := hB.trans (hbn.mono hB.size); replace hrl := on_ hrl hbn; replace hrr := on_ hrr hbn; replace hro := own_on hro hbn; replace hno := own_on hno hbn; clear hbn))
    have Hno := Lib.hid (show wn.ownsRow w.heap.size 47 3 (.slice A2 N.length c2) N.length (ecells N) from hno.out)
    have Hrl0 : Hid (RdE w w.heap.size A l) := hrl0
    have Hro := hro
    clear hrl hrr hro hno hrl0
    go_wp2
    go_loopw [22] (fun v wz => ∃ k : Nat, v = .int .i64 (k : Int) ∧ k ≤ N.length ∧ Hid (∃ xs, wz.ownsRow w.heap.size 47 3 (.slice A2 N.length c2) N.length xs) ∧ Hid (OwnE 61 w.heap.size wz (.slice A1 l.length c1) l) ∧ Below w.heap.size w wz) (fun v _ => N.length - (Lib.intOf v).toNat)
    case atStart => exact ⟨0, rfl, Nat.zero_le _, ⟨_, Hno.out⟩, Hro, hB⟩
    case round =>
      obtain ⟨k, rfl, hk, hno, hro, hbz⟩ := hrel
      by_cases hlt : k < N.length
      · have hltI : (k : Int) < (N.length : Int) := by omega
        obtain ⟨xs, hxs⟩ := hno.out
        obtain ⟨g, cap, hv, hg, _⟩ := hxs.form (by omega)
        injection hv with hv1 _ hv2
        subst hv1
        subst hv2
        have hc := fun (j : Nat) (hj : j < N.length * 3) => hxs.cellAt j hj
        have hxl := hxs.1
        obtain ⟨y0, h0⟩ : ∃ y, wr.cell? ⟨g, k * 3, none⟩ = some y := ⟨_, (hc (k * 3) (by omega)).trans (List.getElem?_eq_getElem (by omega))⟩
        obtain ⟨y1, h1⟩ : ∃ y, wr.cell? ⟨g, k * 3 + 1, none⟩ = some y := ⟨_, (hc (k * 3 + 1) (by omega)).trans (List.getElem?_eq_getElem (by omega))⟩
        obtain ⟨y2, h2⟩ : ∃ y, wr.cell? ⟨g, k * 3 + 2, none⟩ = some y := ⟨_, (hc (k * 3 + 2) (by omega)).trans (List.getElem?_eq_getElem (by omega))⟩
        have f0 := hxs.frozenAt (k * 3)
        have f1 := hxs.frozenAt (k * 3 + 1)
        have f2 := hxs.frozenAt (k * 3 + 2)
        have Hxs := Lib.hid hxs
        clear hc hxl hxs
        go_wp2
        go_roundw
        case rel =>
          have s1 := Hxs.out.stored (k * 3) (.int .u8 0)
          have s2 := s1.1.stored (k * 3 + 1) (.int .i64 0)
          have s3 := s2.1.stored (k * 3 + 2) (.string ⟨#[]⟩)
          have n1 : (Value.slice A1 l.length c1).ownBlock ≠ some g := own_types (g := g) Hxs.out hro.out ed_ne_red rfl
          refine ⟨k + 1, by go_num, by omega, ⟨_, s3.1⟩, ?_, ((hbz.setCell (p := ⟨g, k * 3, none⟩) hg _).setCell (p := ⟨g, k * 3 + 1, none⟩) hg _).setCell (p := ⟨g, k * 3 + 2, none⟩) hg _⟩
          exact own_setCell (own_setCell (own_setCell hro.out (p := ⟨g, k * 3, none⟩) n1 _) (p := ⟨g, k * 3 + 1, none⟩) n1 _) (p := ⟨g, k * 3 + 2, none⟩) n1 _
        case measure => simp [Lib.intOf]; omega
      · obtain rfl : k = N.length := by omega
        have hrr : Hid (RdE wr wr.heap.size A1 l) := Reads.of_own hro.out
        have hrl : Hid (RdE wr wr.heap.size A l) := on_ Hrl0 hbz
        clear hlt hno hro Hro Hno Hrl0
        go_wp2_with (first
          | (go_at_call 19; refine (same_h _ _ _ _ _ l l true (Lib.hid (decide_eq_true rfl)) hL' hL' hrl hrr).mono ?_; rintro _ wn2 ⟨rfl, hbn⟩; replace hB := hbz.trans (hbn.mono hbz.size); clear hbn hrl hrr)
          | (go_at_call 9; refine (works_any _).mono ?_; rintro _ wn3 ⟨rfl, hbn⟩; replace hB := hB.trans (hbn.mono hB.size)))
        go_ret
        exact ⟨rfl, hB⟩
end Go.Proofs.Ytohgghaooppcoaa
