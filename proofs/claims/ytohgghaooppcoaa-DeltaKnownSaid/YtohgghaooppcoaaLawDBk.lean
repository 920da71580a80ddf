/- The walk of DeltaBack: whatever the text, the edits and the bytes, it returns true. Conditions: none. -/
import Derived.Test.YtohgghaooppcoaaRowE
import Derived.Test.YtohgghaooppcoaaLawDP
namespace Go.Proofs.Ytohgghaooppcoaa
open Go.RowKit Go.Lib

theorem encEs_len2 (M : Nat) (hM : M < 1099511627776) : ∀ {l : List Ed}, allRt l = true → (∀ x ∈ l, x.s.length ≤ M) → (encEs l).length ≤ (11 + M) * l.length
  | [], _, _ => by simp [encEs]
  | x :: l, h, hs => by
    simp only [allRt, List.all_cons, Bool.and_eq_true] at h
    have h1 := encEs_len2 M hM (l := l) h.2 (fun y hy => hs y (by simp [hy]))
    have h2 := hs x (by simp)
    have h3 := encE_len h.1 (by omega)
    unfold encEs at h1 ⊢
    simp only [List.flatMap_cons, List.length_append, List.length_cons, Nat.mul_add, Nat.mul_one] at h1 ⊢
    omega
theorem putB_len {l : List Ed} (hl : l.length ≤ 30) (hs : ∀ x ∈ l, x.s.length ≤ 200) : (putB l).length ≤ 1000000 := by
  unfold putB
  split
  · rename_i h
    have h1 := encEs_len2 200 (by decide) h hs
    have h2 : (11 + 200) * l.length ≤ (11 + 200) * 30 := Nat.mul_le_mul_left _ hl
    omega
  · simp
theorem put_parse {l : List Ed} (hs : ∀ x ∈ l, x.s.length ≤ 200) (h : putE l = 0) : par (putB l) = (l, 0) := by
  unfold putE at h
  split at h
  · rename_i ha
    unfold putB
    rw [if_pos ha]
    exact par_enc ha fun x hx => Nat.lt_of_le_of_lt (hs x hx) (by decide)
  · omega
/-- What is parsed. -/
structure ParFine (y : List UInt8) (R : List Ed) : Prop where
  ok : Oks R
  l : R.length ≤ 900
  pe : putE R = 0
  pb : putB R = y
theorem par_fine {y : List UInt8} (hy : y.length ≤ 500) (h : (par y).2 = 0) : ParFine y (par y).1 := by
  obtain ⟨h1, h2, h3, h4⟩ := par_back h
  refine ⟨fun x hx => ?_, by omega, if_pos h1, by unfold putB; rw [if_pos h1, h2]; rfl⟩
  have := rt_n (List.all_eq_true.1 h1 x hx)
  exact ⟨by omega, by omega, by have := h4 x hx; omega⟩
theorem par_len {y : List UInt8} (hy : y.length ≤ 500) : (par y).1.length ≤ 900 := by
  by_cases h : (par y).2 = 0
  · exact (par_fine hy h).l
  · rw [par_err h]; simp
set_option maxHeartbeats 8000000 in
set_option maxRecDepth 100000 in
theorem backLaw_any (s : ByteArray) (A : Option Addr) (c : Nat) (l : List Ed) (Y : Option Addr) (cy : Nat) (y : List UInt8) (w : World) (hs : s.size ≤ 9223372036854775807) (hl : l.length ≤ 9223372036854775807) (hcap : l.length ≤ c) (hn : Nums l) (hr : RdE w w.heap.size A l)
    (hy : y.length ≤ 9223372036854775807) (hcy : y.length ≤ cy) (hry : RdB w w.heap.size Y y) :
    Calls Try.prog 6 #[.string s, .slice A l.length c, .slice Y y.length cy] w fun e w' => e = .returned (.bool true) ∧ Below w.heap.size w w' := by
  obtain ⟨b, rfl⟩ := txt_spell s
  have hsI : ((txt b).size : Int) ≤ 9223372036854775807 := by omega
  have hyI : (y.length : Int) ≤ 9223372036854775807 := by omega
  have hzb := Lib.hid (txt_size b)
  have hrl : Hid (RdE w w.heap.size A l) := hr
  have hrl0 : Hid (RdE w w.heap.size A l) := hr
  have hry0 : Hid (RdB w w.heap.size Y y) := hry
  have Hn : Hid (Nums l) := hn
  have Hcap := Lib.hid hcap
  have Hcy := Lib.hid hcy
  have Hl := Lib.hid hl
  have hB := Below.refl w.heap.size w
  clear hs hn hr hcap hl hy hcy hry
  go_enter Try.func6, Try.ntmps6
  go_upto_region 1 with fail
  go_cut [39] from 27 to 39 (fun v wx => (∃ t : Bool, v = .bool t ∧ Hid (t = false → (txt b).size ≤ 2000 ∧ y.length ≤ 500 ∧ l.length ≤ 30 ∧ ∀ x ∈ l, x.s.length ≤ 200)) ∧ Below w.heap.size w wx)
  case first =>
    rename_i J K1 hJ hK
    by_cases hbig : 2000 < (txt b).size
    · have hbI : (2000 : Int) < ((txt b).size : Int) := by omega
      go_wp2_with fail
      refine Met.intro (hJ _ _ ?_)
      exact ⟨_, _, _, _, _, _, _, _, _, _, _, _, _, ⟨⟨true, rfl, fun h => by cases h⟩, hB⟩, rfl⟩
    · have hbI : ¬ (2000 : Int) < ((txt b).size : Int) := by omega
      have hbd : decide ((2000 : Int) < ((txt b).size : Int)) = false := decide_eq_false hbI
      have Hb2 := Lib.hid (show (txt b).size ≤ 2000 by omega)
      go_wp2_with (go_at_call 8; refine (few_h _ _ _ l Hl.out Hn hrl).mono ?_; rintro _ wn ⟨⟨t, rfl, ht⟩, hbn⟩; replace hB := hB.trans (hbn.mono hB.size); have Ht := Lib.hid ht; clear ht hbn)
      · rename_i ht
        refine Met.intro (hJ _ _ ?_)
        exact ⟨_, _, _, _, _, _, _, _, _, _, _, _, _, ⟨⟨decide ((500 : Int) < (y.length : Int)), rfl, fun h => ⟨Hb2.out, by have := of_decide_eq_false h; omega, Ht.out ht⟩⟩, hB⟩, rfl⟩
      · refine Met.intro (hJ _ _ ?_)
        exact ⟨_, _, _, _, _, _, _, _, _, _, _, _, _, ⟨⟨true, rfl, fun h => by cases h⟩, hB⟩, rfl⟩
  obtain ⟨⟨t, rfl, Ht⟩, hb1⟩ := hcut
  replace hB := hb1
  clear hb1 hrl
  cases t with
  | true =>
    go_wp2_with (first | (go_at_call 9; refine (works_any _).mono ?_; rintro _ wn ⟨rfl, hbn⟩; replace hB := hB.trans (hbn.mono hB.size); clear hbn ))
    go_ret
    exact ⟨rfl, hB⟩
  | false =>
    obtain ⟨hsz, hy500, hl30, hs200⟩ := Ht.out rfl
    have Hb := Lib.hid (show b.length ≤ 1000000 by have := hzb.out; omega)
    have hL : Hid (l.length ≤ 900) := by show _ ≤ _; omega
    have hL' : Hid (l.length ≤ 1000000000) := by show _ ≤ _; omega
    have hOk : Hid (Oks l) := fun x hx => ⟨(Hn.out x hx).1, (Hn.out x hx).2.1, Nat.le_trans (hs200 x hx) (by decide)⟩
    have hSS : Hid (sumS l ≤ 1099511627) := by
      have := sumS_le l 200 hs200
      show _ ≤ _
      omega
    have hPl := Lib.hid (putB_len hl30 hs200)
    have hPp := Lib.hid (fun h => put_parse (l := l) hs200 h)
    have hYl := Lib.hid hy500
    have hYm := Lib.hid (show y.length ≤ 1000000 by omega)
    have hYn := Lib.hid (show y.length ≤ 140737488351232 by omega)
    have h30 := Lib.hid hl30
    clear hsz hy500 hl30 hs200 Ht
    -- what is written is parsed as it was
    have hrl : Hid (RdE wc wc.heap.size A l) := on_ hrl0 hB
    obtain ⟨P, hP⟩ : ∃ P, Hid (putB l = P) := ⟨_, rfl⟩
    obtain ⟨I, hI⟩ : ∃ I, Hid (putE l = I) := ⟨_, rfl⟩
    rw [hP.out] at hPl hPp
    rw [hI.out] at hPp
    go_upto_if 47 with (first | (go_at_call 17; refine (put_h _ _ _ l P I hP hI hL hOk hrl).mono ?_; rintro _ wn ⟨⟨A4, c4, rfl, hc4, hrp⟩, hbn⟩; replace hB := hB.trans (hbn.mono hB.size); replace hrl := on_ hrl hbn; clear hbn ))
    go_cut [9] from 48 to 61 (fun _ wx => Below w.heap.size w wx)
    case first =>
      rename_i J K1 hJ hK
      by_cases hI0 : I = 0
      · obtain ⟨hpp⟩ : Nonempty (Hid (par P = (l, 0))) := ⟨hPp.out hI0⟩
        subst hI0
        go_wp2_with (first | (go_at_call 24; refine (parse_h _ _ _ P l 0 hpp hPl.out hc4 hrp).mono ?_; rintro _ wn ⟨⟨A5, c5, rfl, hc5, hrm⟩, hbn⟩; replace hB := hB.trans (hbn.mono hB.size); replace hrl := on_ hrl hbn; clear hbn hrp) | (go_at_call 10; refine (refs_h _ _ _ l hL' hrl).mono ?_; rintro _ wn ⟨⟨A6, c6, rfl, hc6, hrr⟩, hbn⟩; replace hB := hB.trans (hbn.mono hB.size); replace hrm := on_ hrm hbn; clear hbn hrl) | (go_at_call 19; refine (same_h _ _ _ _ _ l l true (Lib.hid (decide_eq_true rfl)) hL' hL' hrm hrr).mono ?_; rintro _ wn ⟨rfl, hbn⟩; replace hB := hB.trans (hbn.mono hB.size); clear hbn hrm hrr))
        refine Met.intro (hJ _ _ ?_)
        repeat apply Exists.intro
        exact ⟨hB, rfl⟩
      · have hII : ((I : Int) == 0) = false := by simpa using hI0
        have hIn : (I == 0) = false := by simpa using hI0
        clear hI0
        go_wp2_with fail
        refine Met.intro (hJ _ _ ?_)
        repeat apply Exists.intro
        exact ⟨hB, rfl⟩
    clear hrp hrl
    replace hB := hcut
    clear hcut
    -- what is parsed is written as it was
    have hrl : Hid (RdE wc wc.heap.size A l) := on_ hrl0 hB
    have hry : Hid (RdB wc wc.heap.size Y y) := on_ hry0 hB
    obtain ⟨R, hR⟩ : ∃ R, Hid ((par y).1 = R) := ⟨_, rfl⟩
    obtain ⟨E, hE⟩ : ∃ E, Hid ((par y).2 = E) := ⟨_, rfl⟩
    have hpar : Hid (par y = (R, E)) := by show _ = _; rw [← hR.out, ← hE.out]
    have hRl := Lib.hid (par_len hYl.out)
    have hRf := Lib.hid (par_fine hYl.out)
    rw [hR.out] at hRl hRf
    rw [hE.out] at hRf
    go_upto_if 68 with (first | (go_at_call 24; refine (parse_h _ _ _ y R E hpar hYm.out Hcy hry).mono ?_; rintro _ wn ⟨⟨A7, c7, rfl, hc7, hrR⟩, hbn⟩; replace hB := hB.trans (hbn.mono hB.size); replace hrl := on_ hrl hbn; replace hry := on_ hry hbn; clear hbn ))
    go_cut [13] from 70 to 81 (fun _ wx => Below w.heap.size w wx)
    case first =>
      rename_i J K1 hJ hK
      by_cases hE0 : E = 0
      · have hf := Lib.hid (hRf.out hE0)
        have hRpe : Hid (putE R = 0) := hf.out.pe
        have hRpb : Hid (putB R = y) := hf.out.pb
        have hRok : Hid (Oks R) := hf.out.ok
        subst hE0
        go_wp2_with (first | (go_at_call 17; refine (put_h _ _ _ R y 0 hRpb hRpe hRl hRok hrR).mono ?_; rintro _ wn ⟨⟨A8, c8, rfl, hc8, hrq⟩, hbn⟩; replace hB := hB.trans (hbn.mono hB.size); replace hry := on_ hry hbn; clear hbn hrR) | (go_at_call 20; refine (sb_h _ _ _ _ _ y y true (Lib.hid (decide_eq_true rfl)) hYn.out hrq hry).mono ?_; rintro _ wn ⟨rfl, hbn⟩; replace hB := hB.trans (hbn.mono hB.size); clear hbn hrq hry))
        refine Met.intro (hJ _ _ ?_)
        repeat apply Exists.intro
        exact ⟨hB, rfl⟩
      · have hEI : ((E : Int) == 0) = false := by simpa using hE0
        have hEn : (E == 0) = false := by simpa using hE0
        clear hE0
        go_wp2_with fail
        refine Met.intro (hJ _ _ ?_)
        repeat apply Exists.intro
        exact ⟨hB, rfl⟩
    replace hB := hcut
    clear hcut hrl hry hrR
    -- the normal delta
    have hrl : Hid (RdE wc wc.heap.size A l) := on_ hrl0 hB
    obtain ⟨S, hS⟩ : ∃ S, Hid (appB b l = S) := ⟨_, rfl⟩
    obtain ⟨K, hK⟩ : ∃ K, Hid (appE b l = K) := ⟨_, rfl⟩
    obtain ⟨N, hN⟩ : ∃ N, Hid (nrmL l = N) := ⟨_, rfl⟩
    obtain ⟨G, hG⟩ : ∃ G, Hid (nrmE l = G) := ⟨_, rfl⟩
    by_cases hG0 : G = 0
    · have hE0 : nrmE l = 0 := hG.out.trans hG0
      have hNn : norm l = N := by rw [← hN.out]; unfold nrmL; rw [if_pos hE0]
      have h1 := norm_appB hE0 b
      have h2 := norm_appE hE0 b
      have h3 := norm_szF hE0
      have h4 := norm_szT hE0
      have h5 := norm_twice hE0
      have h6 := norm_len (wrs_of_all (nrmE_ok hE0).1)
      have h7 : Oks (norm l) := (fine_of (nrmE_ok hE0).1 hSS.out (by have := hL.out; omega)).norm.ok
      have h8 := (nrmE_ok hE0).1
      rw [hNn] at h1 h2 h3 h4 h5 h6 h7
      obtain ⟨F, hF⟩ : ∃ F, Hid (szF l = F) := ⟨_, rfl⟩
      obtain ⟨T, hT⟩ : ∃ T, Hid (szT l = T) := ⟨_, rfl⟩
      rw [hS.out] at h1
      rw [hK.out] at h2
      rw [hF.out] at h3
      rw [hT.out] at h4
      have hS2 : Hid (appB b N = S) := h1
      have hK2 : Hid (appE b N = K) := h2
      have hF2 : Hid (szF N = F) := h3
      have hT2 : Hid (szT N = T) := h4
      have hG2 : Hid (nrmE N = 0) := h5.1
      have hN2 : Hid (nrmL N = N) := h5.2
      have hNok : Hid (Oks N) := h7
      have hNL : Hid (N.length ≤ 900) := by have := hL.out; show _ ≤ _; omega
      have hNL' : Hid (N.length ≤ 1000000000) := by have := hL.out; show _ ≤ _; omega
      have hNI : ¬ ((l.length : Int) < (N.length : Int)) := by omega
      have hNd : decide ((l.length : Int) < (N.length : Int)) = false := decide_eq_false hNI
      have hNi : (N.length : Int) ≤ 1000000000 := by have := hNL'.out; omega
      have hli : (l.length : Int) ≤ 1000000000 := by have := hL'.out; omega
      have h9 : (F = (txt b).size ∧ K = 0 ∧ T = (txt S).size) ∨ (F ≠ (txt b).size ∧ K = 50) := by
        by_cases hf : szF l = b.length
        · left
          have hi := isOf_iff.2 ⟨hf, h8⟩
          refine ⟨by rw [← hF.out, hzb.out, hf], by rw [← hK.out]; exact if_pos hi, ?_⟩
          rw [txt_size, ← hT.out, ← hS.out]
          unfold appB
          rw [if_pos hi, app_len l b h8 hf]
        · right
          exact ⟨by rw [← hF.out, hzb.out]; exact hf, by rw [← hK.out]; exact if_neg (by rw [isOf_no (.inl hf)]; simp)⟩
      subst hG0
      clear h1 h2 h3 h4 h5 h6 h7 h8 hE0 hNn hSS
      rcases h9 with ⟨rfl, rfl, rfl⟩ | ⟨h10, rfl⟩
      · skip
        go_upto_if 94 with (first | (go_at_call 15; refine (normal_h _ _ _ l N _ hN hG hL hOk hrl).mono ?_; rintro _ wn ⟨⟨A2, c2, rfl, _, hrn⟩, hbn⟩; replace hB := hB.trans (hbn.mono hB.size); replace hrl := on_ hrl hbn; clear hbn ) | (go_at_call 11; refine (apply_h _ _ _ b S l _ hS hK Hb hL hOk hrl).mono ?_; rintro _ wn ⟨rfl, hbn⟩; replace hB := hB.trans (hbn.mono hB.size); replace hrl := on_ hrl hbn; replace hrn := on_ hrn hbn; clear hbn ))
        have st1 := Lib.hid (rfl : 0 = 0)
        go_wp2_with (first | (go_at_call 11; refine (apply_h _ _ _ b S N _ hS2 hK2 Hb hNL hNok hrn).mono ?_; rintro _ wn ⟨rfl, hbn⟩; replace hB := hB.trans (hbn.mono hB.size); replace hrl := on_ hrl hbn; replace hrn := on_ hrn hbn; clear hbn ) | (go_at_call 15; refine (normal_h _ _ _ N N 0 hN2 hG2 hNL hNok hrn).mono ?_; rintro _ wn ⟨⟨A3, c3, rfl, _, hro⟩, hbn⟩; replace hB := hB.trans (hbn.mono hB.size); replace hrl := on_ hrl hbn; replace hrn := on_ hrn hbn; clear hbn ) | (go_at_call 13; have hst := st1; refine (sizes_h _ _ _ l _ _ hF hT hL hOk hrl).mono ?_; rintro _ wn ⟨rfl, hbn⟩; replace hB := hB.trans (hbn.mono hB.size); replace hrn := on_ hrn hbn; replace hro := on_ hro hbn; clear hbn hrl st1 hst) | (go_at_call 13; refine (sizes_h _ _ _ N _ _ hF2 hT2 hNL hNok hrn).mono ?_; rintro _ wn ⟨rfl, hbn⟩; replace hB := hB.trans (hbn.mono hB.size); replace hrn := on_ hrn hbn; replace hro := on_ hro hbn; clear hbn ) | (go_at_call 10; refine (refs_h _ _ _ N hNL' hrn).mono ?_; rintro _ wn ⟨⟨A9, c9, rfl, hc9, hrs⟩, hbn⟩; replace hB := hB.trans (hbn.mono hB.size); replace hro := on_ hro hbn; clear hbn hrn) | (go_at_call 19; refine (same_h _ _ _ _ _ N N true (Lib.hid (decide_eq_true rfl)) hNL' hNL' hro hrs).mono ?_; rintro _ wn ⟨rfl, hbn⟩; replace hB := hB.trans (hbn.mono hB.size); clear hbn hro hrs) | (go_at_call 9; refine (works_any _).mono ?_; rintro _ wn ⟨rfl, hbn⟩; replace hB := hB.trans (hbn.mono hB.size); clear hbn ))
        go_ret
        exact ⟨rfl, hB⟩
      · have hg1 : ((F : Int) == ((txt b).size : Int)) = false := by simpa using (show (F : Int) ≠ ((txt b).size : Int) by omega)
        have hg2 : (F == (txt b).size) = false := by simpa using h10
        clear h10
        go_upto_if 94 with (first | (go_at_call 15; refine (normal_h _ _ _ l N _ hN hG hL hOk hrl).mono ?_; rintro _ wn ⟨⟨A2, c2, rfl, _, hrn⟩, hbn⟩; replace hB := hB.trans (hbn.mono hB.size); replace hrl := on_ hrl hbn; clear hbn ) | (go_at_call 11; refine (apply_h _ _ _ b S l _ hS hK Hb hL hOk hrl).mono ?_; rintro _ wn ⟨rfl, hbn⟩; replace hB := hB.trans (hbn.mono hB.size); replace hrl := on_ hrl hbn; replace hrn := on_ hrn hbn; clear hbn ))
        have st1 := Lib.hid (rfl : 0 = 0)
        go_wp2_with (first | (go_at_call 11; refine (apply_h _ _ _ b S N _ hS2 hK2 Hb hNL hNok hrn).mono ?_; rintro _ wn ⟨rfl, hbn⟩; replace hB := hB.trans (hbn.mono hB.size); replace hrl := on_ hrl hbn; replace hrn := on_ hrn hbn; clear hbn ) | (go_at_call 15; refine (normal_h _ _ _ N N 0 hN2 hG2 hNL hNok hrn).mono ?_; rintro _ wn ⟨⟨A3, c3, rfl, _, hro⟩, hbn⟩; replace hB := hB.trans (hbn.mono hB.size); replace hrl := on_ hrl hbn; replace hrn := on_ hrn hbn; clear hbn ) | (go_at_call 13; have hst := st1; refine (sizes_h _ _ _ l _ _ hF hT hL hOk hrl).mono ?_; rintro _ wn ⟨rfl, hbn⟩; replace hB := hB.trans (hbn.mono hB.size); replace hrn := on_ hrn hbn; replace hro := on_ hro hbn; clear hbn hrl st1 hst) | (go_at_call 13; refine (sizes_h _ _ _ N _ _ hF2 hT2 hNL hNok hrn).mono ?_; rintro _ wn ⟨rfl, hbn⟩; replace hB := hB.trans (hbn.mono hB.size); replace hrn := on_ hrn hbn; replace hro := on_ hro hbn; clear hbn ) | (go_at_call 10; refine (refs_h _ _ _ N hNL' hrn).mono ?_; rintro _ wn ⟨⟨A9, c9, rfl, hc9, hrs⟩, hbn⟩; replace hB := hB.trans (hbn.mono hB.size); replace hro := on_ hro hbn; clear hbn hrn) | (go_at_call 19; refine (same_h _ _ _ _ _ N N true (Lib.hid (decide_eq_true rfl)) hNL' hNL' hro hrs).mono ?_; rintro _ wn ⟨rfl, hbn⟩; replace hB := hB.trans (hbn.mono hB.size); clear hbn hro hrs) | (go_at_call 9; refine (works_any _).mono ?_; rintro _ wn ⟨rfl, hbn⟩; replace hB := hB.trans (hbn.mono hB.size); clear hbn ))
        go_ret
        exact ⟨rfl, hB⟩
    · have hGI : ((G : Int) != 0) = true := by simpa using hG0
      have hGn : (G != 0) = true := by simpa using hG0
      clear hG0
      go_wp2_with (first | (go_at_call 15; refine (normal_h _ _ _ l N _ hN hG hL hOk hrl).mono ?_; rintro _ wn ⟨⟨A2, c2, rfl, _, hrn⟩, hbn⟩; replace hB := hB.trans (hbn.mono hB.size); replace hrl := on_ hrl hbn; clear hbn ) | (go_at_call 11; refine (apply_h _ _ _ b S l _ hS hK Hb hL hOk hrl).mono ?_; rintro _ wn ⟨rfl, hbn⟩; replace hB := hB.trans (hbn.mono hB.size); replace hrl := on_ hrl hbn; replace hrn := on_ hrn hbn; clear hbn ) | (go_at_call 9; refine (works_any _).mono ?_; rintro _ wn ⟨rfl, hbn⟩; replace hB := hB.trans (hbn.mono hB.size); clear hbn ))
      go_ret
      exact ⟨rfl, hB⟩
end Go.Proofs.Ytohgghaooppcoaa
