/- The walks of the document's own TakeText, TakeAll, and of the statements' look at two rows of words. Conditions: rows of at most 2^40 bytes. -/
import Derived.Test.YtfhcpjnjemojgaaKRefC
namespace Go.Proofs.Ytfhcpjnjemojgaa
open Go.RowKit

set_option maxHeartbeats 1000000 in
set_option maxRecDepth 100000 in
theorem refTakeText_any (A : Option Addr) (c B : Nat) (l : List UInt8) (p : Int) (w : World) (hl : l.length ≤ 140737488351232) (hcap : l.length ≤ c) (hB : B ≤ w.heap.size) (hr : RdB w B A l) :
    Calls Try.prog 38 #[.slice A l.length c, .int .i64 p] w fun e w' => e = .returned (textVal (takeText l p)) ∧ Below w.heap.size w w' := by
  have hlen : (l.length : Int) ≤ 140737488351232 := by omega
  have Hl := Lib.hid hl
  have hlt := take_lt l p
  have herr := take_err l p
  clear hl
  by_cases hok : (take l p).2.2 = 0
  · obtain ⟨hp0, _, k, hk0, hnx, hkl, _⟩ := take_ok hok
    obtain ⟨q, rfl⟩ := Int.eq_ofNat_of_zero_le hp0
    obtain ⟨ad, x0, rfl, z1, z2, z3⟩ := RdB.at_ hr (k := q) (by omega)
    clear z1 z2 z3 x0
    by_cases hsh : (l.length : Int) - (take l q).2.1 < (take l q).1
    · have hv := takeText_short hok hsh
      generalize htk : take l (q : Int) = r at *
      obtain ⟨n, f, e⟩ := r
      simp only at hok hnx hsh hlt hv herr
      subst hok
      subst hnx
      have Htk := Lib.hid htk
      have Hv := Lib.hid hv
      have hn64 : (n : Int) ≤ 18446744073709551615 := by omega
      have hfl : (q : Int) + (k : Int) ≤ (l.length : Int) := by omega
      clear htk hv herr hlt
      by_cases hbig : (l.length : Int) < (n : Int)
      · clear hsh
        go_enter Try.func38, Try.ntmps38
        go_wp2_with (go_at_call 39; refine (refTake_any _ _ B l _ _ Hl.out hB hr).mono ?_; rintro e w' ⟨rfl, hb⟩; rw [Htk.out])
        go_ret3
        exact ⟨ret_text Hv.out rfl rfl rfl, hb⟩
      · have hnl : (n : Int) ≤ (l.length : Int) := by omega
        have hsh' : (l.length : Int) < (q : Int) + (k : Int) + (n : Int) := by omega
        clear hsh hbig
        go_enter Try.func38, Try.ntmps38
        go_wp2_with (go_at_call 39; refine (refTake_any _ _ B l _ _ Hl.out hB hr).mono ?_; rintro e w' ⟨rfl, hb⟩; rw [Htk.out])
        go_ret3
        exact ⟨ret_text Hv.out rfl rfl rfl, hb⟩
    · have hv := takeText_ok hok hsh
      generalize htk : take l (q : Int) = r at *
      obtain ⟨n, f, e⟩ := r
      simp only at hok hnx hsh hlt hv herr
      subst hok
      obtain ⟨F, hF⟩ : ∃ F : Nat, F = q + k := ⟨_, rfl⟩
      have hnx' : f = (F : Int) := by omega
      subst hnx'
      rw [Int.toNat_natCast] at hv
      have Htk := Lib.hid htk
      have Hv := Lib.hid hv
      have hfl : F + n ≤ l.length := by omega
      have hfl' : (F : Int) + (n : Int) ≤ (l.length : Int) := by omega
      have hsub : ¬ (l.length : Int) - (F : Int) < (n : Int) := hsh
      clear htk hv herr hlt hsh hnx hF hk0 hkl hp0
      have hsl : ((l.drop F).take n).length = n := by rw [List.length_take, List.length_drop]; omega
      have hcv : ∀ w', Below w.heap.size w w' → (convert 27 9 (.slice (some (ad.add F)) n (c - F))).run Try.prog w' = .ok (.string (txt ((l.drop F).take n))) w' := by
        intro w' hb
        have := run_text_of (RdB.part (hr.below (hb.mono hB)) F n hfl) (c - F)
        rwa [hsl] at this
      have Hcv := Lib.hid hcv
      have hnl : (n : Int) ≤ (l.length : Int) := by omega
      clear hsl hcv
      by_cases hcF : c = F
      · have hn0 : n = 0 := by omega
        subst hn0
        have hz : (l.drop F).take 0 = [] := by simp
        have Hz := Lib.hid hz
        have hcv0 : ∀ w', (convert 27 9 (.slice (some ad) 0 0)).run Try.prog w' = .ok (.string (txt [])) w' := fun w' => run_text_of (w := w') (B := B) (ad := ad) (l := []) Reads.none_ 0
        have hfl0 : (F : Int) ≤ (l.length : Int) := by omega
        clear hz Hcv hfl'
        rw [Hz.out] at Hv
        subst hcF
        go_enter Try.func38, Try.ntmps38
        go_wp2_with (go_at_call 39; refine (refTake_any _ _ B l _ _ Hl.out hB hr).mono ?_; rintro e w' ⟨rfl, hb⟩; rw [Htk.out])
        go_ret3
        exact ⟨ret_text Hv.out rfl rfl rfl, hb⟩
      · go_enter Try.func38, Try.ntmps38
        go_wp2_with (go_at_call 39; refine (refTake_any _ _ B l _ _ Hl.out hB hr).mono ?_; rintro e w' ⟨rfl, hb⟩; rw [Htk.out]; have hcv := Hcv.out w' hb)
        go_ret3
        exact ⟨ret_text Hv.out rfl rfl rfl, hb⟩
  · have hv := takeText_no hok
    obtain ⟨hn0, hnp⟩ := take_no hok
    generalize htk : take l p = r at *
    obtain ⟨n, f, e⟩ := r
    simp only at hok hn0 hnp hv herr
    subst hn0
    subst hnp
    have Htk := Lib.hid htk
    have Hv := Lib.hid hv
    have he : ((e : Int) != 0) = true := by rw [bne_iff_ne]; omega
    have he' : (e != 0) = true := by rw [bne_iff_ne]; omega
    clear htk hv herr hlt hok
    go_enter Try.func38, Try.ntmps38
    go_wp2_with (go_at_call 39; refine (refTake_any _ _ B l _ _ Hl.out hB hr).mono ?_; rintro e w' ⟨rfl, hb⟩; rw [Htk.out])
    go_ret3
    exact ⟨ret_text Hv.out rfl rfl rfl, hb⟩

set_option maxHeartbeats 1000000 in
set_option maxRecDepth 100000 in
theorem refTakeAll_any (A : Option Addr) (c B : Nat) (l : List UInt8) (p many : Int) (w : World) (hl : l.length ≤ 1099511627776) (hB : B ≤ w.heap.size) (hr : RdB w B A l) (hm : many ≤ 9223372036854775807) :
    Calls Try.prog 37 #[.slice A l.length c, .int .i64 p, .int .i64 many] w fun e w' => ManyVal w.heap.size (takeAll l p many) e w' ∧ Below w.heap.size w w' := by
  have Hl := Lib.hid hl
  clear hl
  by_cases hpos : 0 < many
  · obtain ⟨K, rfl⟩ := Int.eq_ofNat_of_zero_le (a := many) (by omega)
    have hK : 0 < K := by omega
    have ht : takeAll l p K = takeMany l p K p [] := by unfold takeAll; rw [Int.toNat_natCast]
    have Ht := Lib.hid ht
    clear ht
    go_enter Try.func37, Try.ntmps37
    go_wp2
    go_loopw [9, 10, 11] (fun v nx i wr => ∃ (k : Nat) (q : Int) (acc : List Nat), k ≤ K ∧ i = .int .i64 (k : Int) ∧ nx = .int .i64 q ∧ Hid ((acc.length : Int) ≤ q - p ∧ (acc.length = 0 → q = p) ∧ (0 < acc.length → 0 ≤ p ∧ q ≤ l.length)) ∧ wr.ownsRow w.heap.size 22 1 v acc.length (us acc) ∧ Below w.heap.size w wr ∧ Hid (takeMany l p K p [] = takeMany l p (K - k) q acc)) (fun _ _ i _ => K - (intOf i).toNat)
    case atStart => exact ⟨0, p, [], by omega, rfl, rfl, ⟨by simp, fun _ => rfl, by simp⟩, World.ownsRow_nil _ _ _ _, .refl _ _, by exact rfl⟩
    case round =>
      obtain ⟨k, q, acc, hk, rfl, rfl, hq, hown, hb, hst⟩ := hrel
      by_cases hlt : k < K
      · have hlt' := take_lt l q
        have herr := take_err l q
        by_cases hok : (take l q).2.2 = 0
        · have hstep := many_step (p0 := p) (k := K - k - 1) (acc := acc) hok
          rw [show K - k - 1 + 1 = K - k from by omega, ← hst.out] at hstep
          obtain ⟨hq0, _, j, hj0, hnx, hjl, _⟩ := take_ok hok
          generalize htk : take l q = r at *
          obtain ⟨n, f, e⟩ := r
          simp only at hok hnx hlt' hstep
          subst hok
          subst hnx
          have hal : acc.length ≤ 2199023255552 := by
            have := hq.out.1; have := hq.out.2.1; have := hq.out.2.2; have := Hl.out; omega
          have Hal := Lib.hid hal
          have Htk := Lib.hid htk
          have Hstep := Lib.hid hstep
          have hq' : Hid (((acc ++ [n]).length : Int) ≤ q + j - p ∧ ((acc ++ [n]).length = 0 → q + j = p) ∧ (0 < (acc ++ [n]).length → 0 ≤ p ∧ q + j ≤ l.length)) := by
            have h1 := hq.out
            refine ⟨by simp; omega, by simp, fun _ => ⟨?_, hjl⟩⟩
            rcases Nat.eq_zero_or_pos acc.length with h | h
            · have := h1.2.1 h; omega
            · exact (h1.2.2 h).1
          clear htk hstep hlt' herr hal hq hst hj0 hjl hq0
          go_wp2_with (first
            | (go_at_call 39; refine (refTake_any _ _ B l _ _ (Nat.le_trans Hl.out (by decide)) (Nat.le_trans hB hb.size) (hr.below (hb.mono hB))).mono ?_; rintro e w1 ⟨rfl, hb0⟩; rw [Htk.out]; have hbw := hb.trans (hb0.mono hb.size); have hown' := own_below hown hb0 (Nat.le_refl _))
            | (at_builtin; refine push_word (.tmp 32) (.tmp 34) _ n hown' hbw.size Hal.out rfl rfl rfl rfl rfl ?_; intro v1 w2 hown1 hb1 hbs1; clear hown hown'))
          go_roundw
          case rel => exact ⟨k + 1, _, acc ++ [n], by omega, by go_num, rfl, hq', hown1, hbw.trans hb1, by rw [show K - (k + 1) = K - k - 1 from by omega]; exact Hstep.out⟩
          case measure => simp [intOf]; omega
        · have hstop := many_stop (p0 := p) (k := K - k - 1) (acc := acc) hok
          rw [show K - k - 1 + 1 = K - k from by omega, ← hst.out, ← Ht.out] at hstop
          obtain ⟨hn0, hnp⟩ := take_no hok
          generalize htk : take l q = r at *
          obtain ⟨n, f, e⟩ := r
          simp only at hok hn0 hnp hlt' hstop herr
          subst hn0
          subst hnp
          have Htk := Lib.hid htk
          have Hstop := Lib.hid hstop
          have he : ((e : Int) != 0) = true := by rw [bne_iff_ne]; omega
          have he' : (e != 0) = true := by rw [bne_iff_ne]; omega
          clear htk hstop hlt' herr hq hst hok
          go_wp2_with (go_at_call 39; refine (refTake_any _ _ B l _ _ (Nat.le_trans Hl.out (by decide)) (Nat.le_trans hB hb.size) (hr.below (hb.mono hB))).mono ?_; rintro e w1 ⟨rfl, hb0⟩; rw [Htk.out]; have hbw := hb.trans (hb0.mono hb.size); have hown' := own_below hown hb0 (Nat.le_refl _))
          go_ret3
          refine ⟨?_, hbw⟩
          rw [Hstop.out]
          exact ⟨_, rfl, World.ownsRow_nil _ _ _ _⟩
      · have hkK : k = K := by omega
        have hfin := hst.out
        rw [hkK, Nat.sub_self, takeMany, ← Ht.out] at hfin
        have Hfin := Lib.hid hfin
        clear hfin hkK hst hq
        go_wp2
        go_ret3
        refine ⟨?_, hb⟩
        rw [Hfin.out]
        exact ⟨_, rfl, hown⟩
  · have ht : takeAll l p many = ([], p, 0) := by unfold takeAll; rw [show many.toNat = 0 from by omega, takeMany]
    have Ht := Lib.hid ht
    clear ht
    go_enter Try.func37, Try.ntmps37
    go_wp2
    refine wp_loop_rounds 1 ?_
    rw [rounds_succ]
    go_wp2
    go_ret3
    refine ⟨?_, .refl _ _⟩
    rw [Ht.out]
    exact ⟨_, rfl, World.ownsRow_nil _ _ _ _⟩

end Go.Proofs.Ytfhcpjnjemojgaa
