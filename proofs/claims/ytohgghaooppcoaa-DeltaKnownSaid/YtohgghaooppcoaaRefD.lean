/- The walks of the document's own TakeText, TakeAll, and of the statements' look at two rows of words. Conditions: rows of at most 2^40 bytes. -/
import Derived.Test.YtohgghaooppcoaaRefC
namespace Go.Proofs.Ytohgghaooppcoaa
open Go.RowKit

set_option maxHeartbeats 1000000 in
set_option maxRecDepth 100000 in
theorem refTakeText_any (A : Option Addr) (c B : Nat) (l : List UInt8) (p : Int) (w : World) (hl : l.length ≤ 140737488351232) (hcap : l.length ≤ c) (hB : B ≤ w.heap.size) (hr : RdB w B A l) :
    Calls Try.prog 44 #[.slice A l.length c, .int .i64 p] w fun e w' => e = .returned (textVal (takeText l p)) ∧ Below w.heap.size w w' := by
  have hlen : (l.length : Int) ≤ 140737488351232 := by omega
  have Hl := Lib.hid hl
  have hlt := take_lt l p
  have herr := take_err l p
  clear hl
  by_cases hok : (take l p).2.2 = 0
  · obtain ⟨hp0, _, k, hk0, hnx, hkl, _⟩ := take_ok hok
    obtain ⟨q, rfl⟩ := Int.eq_ofNat_of_zero_le hp0
    obtain ⟨ad, x0, rfl, z1, z2, z3⟩ := RdB.at_ hr (k := q) (by omega)
    clear z1 z2 z3 x0
    by_cases hsh : (l.length : Int) - (take l q).2.1 < (take l q).1
    · have hv := takeText_short hok hsh
      generalize htk : take l (q : Int) = r at *
      obtain ⟨n, f, e⟩ := r
      simp only at hok hnx hsh hlt hv herr
      subst hok
      subst hnx
      have Htk := Lib.hid htk
      have Hv := Lib.hid hv
      have hn64 : (n : Int) ≤ 18446744073709551615 := by omega
      have hfl : (q : Int) + (k : Int) ≤ (l.length : Int) := by omega
      clear htk hv herr hlt
      by_cases hbig : (l.length : Int) < (n : Int)
      · clear hsh
        go_enter Try.func44, Try.ntmps44
        go_wp2_with (go_at_call 43; refine (refTake_any _ _ B l _ _ Hl.out hB hr).mono ?_; rintro e w' ⟨rfl, hb⟩; rw [Htk.out])
        go_ret3
        exact ⟨ret_text Hv.out rfl rfl rfl, hb⟩
      · have hnl : (n : Int) ≤ (l.length : Int) := by omega
        have hsh' : (l.length : Int) < (q : Int) + (k : Int) + (n : Int) := by omega
        clear hsh hbig
        go_enter Try.func44, Try.ntmps44
        go_wp2_with (go_at_call 43; refine (refTake_any _ _ B l _ _ Hl.out hB hr).mono ?_; rintro e w' ⟨rfl, hb⟩; rw [Htk.out])
        go_ret3
        exact ⟨ret_text Hv.out rfl rfl rfl, hb⟩
    · have hv := takeText_ok hok hsh
      generalize htk : take l (q : Int) = r at *
      obtain ⟨n, f, e⟩ := r
      simp only at hok hnx hsh hlt hv herr
      subst hok
      obtain ⟨F, hF⟩ : ∃ F : Nat, F = q + k := ⟨_, rfl⟩
      have hnx' : f = (F : Int) := by omega
      subst hnx'
      rw [Int.toNat_natCast] at hv
      have Htk := Lib.hid htk
      have Hv := Lib.hid hv
      have hfl : F + n ≤ l.length := by omega
      have hfl' : (F : Int) + (n : Int) ≤ (l.length : Int) := by omega
      have hsub : ¬ (l.length : Int) - (F : Int) < (n : Int) := hsh
      clear htk hv herr hlt hsh hnx hF hk0 hkl hp0
      have hsl : ((l.drop F).take n).length = n := by rw [List.length_take, List.length_drop]; omega
      have hcv : ∀ w', Below w.heap.size w w' → (convert 38 9 (.slice (some (ad.add F)) n (c - F))).run Try.prog w' = .ok (.string (txt ((l.drop F).take n))) w' := by
        intro w' hb
        have := run_text_of (RdB.part (hr.below (hb.mono hB)) F n hfl) (c - F)
        rwa [hsl] at this
      have Hcv := Lib.hid hcv
      have hnl : (n : Int) ≤ (l.length : Int) := by omega
      clear hsl hcv
      by_cases hcF : c = F
      · have hn0 : n = 0 := by omega
        subst hn0
        have hz : (l.drop F).take 0 = [] := by simp
        have Hz := Lib.hid hz
        have hcv0 : ∀ w', (convert 38 9 (.slice (some ad) 0 0)).run Try.prog w' = .ok (.string (txt [])) w' := fun w' => run_text_of (w := w') (B := B) (ad := ad) (l := []) Reads.none_ 0
        have hfl0 : (F : Int) ≤ (l.length : Int) := by omega
        clear hz Hcv hfl'
        rw [Hz.out] at Hv
        subst hcF
        go_enter Try.func44, Try.ntmps44
        go_wp2_with (go_at_call 43; refine (refTake_any _ _ B l _ _ Hl.out hB hr).mono ?_; rintro e w' ⟨rfl, hb⟩; rw [Htk.out])
        go_ret3
        exact ⟨ret_text Hv.out rfl rfl rfl, hb⟩
      · go_enter Try.func44, Try.ntmps44
        go_wp2_with (go_at_call 43; refine (refTake_any _ _ B l _ _ Hl.out hB hr).mono ?_; rintro e w' ⟨rfl, hb⟩; rw [Htk.out]; have hcv := Hcv.out w' hb)
        go_ret3
        exact ⟨ret_text Hv.out rfl rfl rfl, hb⟩
  · have hv := takeText_no hok
    obtain ⟨hn0, hnp⟩ := take_no hok
    generalize htk : take l p = r at *
    obtain ⟨n, f, e⟩ := r
    simp only at hok hn0 hnp hv herr
    subst hn0
    subst hnp
    have Htk := Lib.hid htk
    have Hv := Lib.hid hv
    have he : ((e : Int) != 0) = true := by rw [bne_iff_ne]; omega
    have he' : (e != 0) = true := by rw [bne_iff_ne]; omega
    clear htk hv herr hlt hok
    go_enter Try.func44, Try.ntmps44
    go_wp2_with (go_at_call 43; refine (refTake_any _ _ B l _ _ Hl.out hB hr).mono ?_; rintro e w' ⟨rfl, hb⟩; rw [Htk.out])
    go_ret3
    exact ⟨ret_text Hv.out rfl rfl rfl, hb⟩

end Go.Proofs.Ytohgghaooppcoaa
