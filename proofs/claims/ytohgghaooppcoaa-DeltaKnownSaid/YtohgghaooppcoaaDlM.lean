/- Edits taken: the document's Parse. Conditions: at most 1000000 bytes. -/
import Derived.Test.YtohgghaooppcoaaDlL
namespace Go.Proofs.Ytohgghaooppcoaa
open Go.RowKit Go.Lib

theorem takeText_len (l : List UInt8) (p : Int) : (takeText l p).1.length ≤ l.length := by
  unfold takeText
  split
  · simp
  · split
    · simp
    · simp only [List.length_take, List.length_drop]; omega
theorem refTake_is {l : List UInt8} {A : Option Addr} {c B : Nat} {p : Int} {n : Nat} {nx : Int} {e : Nat} (ht : Hid (take l p = (n, nx, e))) (w : World) (hl : l.length ≤ 1099511627776) (hB : B ≤ w.heap.size) (hr : RdB w B A l) :
    Calls Try.prog 43 #[.slice A l.length c, .int .i64 p] w fun e' w' => e' = .returned (.tuple #[.int .u64 (n : Int), .int .i64 nx, .int .i64 (e : Int)]) ∧ Below w.heap.size w w' := by
  have := refTake_any A c B l p w (by omega) hB hr
  rw [ht.out] at this
  exact this
theorem refTakeText_is {l : List UInt8} {A : Option Addr} {c B : Nat} {p : Int} {s : List UInt8} {nx : Int} {e : Nat} (ht : Hid (takeText l p = (s, nx, e))) (w : World) (hl : l.length ≤ 1099511627776) (hcap : l.length ≤ c) (hB : B ≤ w.heap.size) (hr : RdB w B A l) :
    Calls Try.prog 44 #[.slice A l.length c, .int .i64 p] w fun e' w' => e' = .returned (.tuple #[.string (txt s), .int .i64 nx, .int .i64 (e : Int)]) ∧ Below w.heap.size w w' := by
  have := refTakeText_any A c B l p w (by omega) hcap hB hr
  rw [ht.out] at this
  exact this
set_option maxHeartbeats 4000000 in
set_option maxRecDepth 100000 in
theorem refParse_any (A : Option Addr) (c B : Nat) (l : List UInt8) (w : World) (hl : l.length ≤ 1000000) (hcap : l.length ≤ c) (hB : B ≤ w.heap.size) (hr : RdB w B A l) :
    Calls Try.prog 25 #[.slice A l.length c] w fun e w' => ParVal 61 w.heap.size l e w' ∧ Below w.heap.size w w' := by
  have hlen : (l.length : Int) ≤ 1000000 := by omega
  have Hl := Lib.hid hl
  have Hcap := Lib.hid hcap
  have HB := Lib.hid hB
  have Hr : Hid (RdB w B A l) := hr
  clear hl hcap hB hr
  go_enter Try.func25, Try.ntmps25
  go_wp2
  go_loopw [4, 5] (fun v a wr => ∃ (own : List Ed) (p f : Nat), a = .int .i64 (p : Int) ∧ p ≤ l.length ∧ own.length ≤ p ∧ Hid (l.length ≤ p + f) ∧ OwnE 61 w.heap.size wr v own ∧ Hid (fin own (parF l f p) = par l) ∧ Below w.heap.size w wr) (fun _ a _ => l.length - (Lib.intOf a).toNat)
  case atStart => exact ⟨[], 0, l.length, rfl, by omega, by simp, by show _ ≤ _; omega, OwnE.nil _ _ _, fin_nil _ _ _, .refl _ _⟩
  case round =>
    obtain ⟨own, p, f, rfl, hp, hop, hf, hown, hfin, hb⟩ := hrel
    by_cases hlt : p < l.length
    · obtain ⟨g, rfl⟩ : ∃ g, f = g + 1 := ⟨f - 1, by have := hf.out; omega⟩
      have Hrr : Hid (RdB wr B A l) := Reads.below Hr.out (hb.mono HB.out)
      have HBz := Lib.hid (Nat.le_trans HB.out hb.size)
      obtain ⟨ad, k, rfl, had, hc, hk⟩ := RdB.at_ Hrr.out hlt
      have Hk := Lib.hid (show l[p]?.getD 0 = k by rw [hk.out]; rfl)
      have hpI : (p : Int) < (l.length : Int) := by omega
      obtain ⟨M, hM⟩ : ∃ M, Hid (M = wr.heap.size) := ⟨_, rfl⟩
      have hMne := Lib.hid (own_ne hown (M := wr.heap.size) (Nat.le_refl _))
      have HMw := Lib.hid hb.size
      have Hown1 := Lib.hid (hown.alloc (.cells #[.int .u8 (k.toNat : Int), .int .i64 0, .string ⟨#[]⟩] 61))
      have hb1 := hb.alloc hb.size (.cells #[.int .u8 (k.toNat : Int), .int .i64 0, .string ⟨#[]⟩] 61)
      have Hr1 : Hid (RdB (wr.alloc (.cells #[.int .u8 (k.toNat : Int), .int .i64 0, .string ⟨#[]⟩] 61)) B (some ad) l) := Reads.alloc Hrr.out HBz.out _
      have HBz1 := Lib.hid (Nat.le_trans HB.out hb1.size)
      clear hown
      have hku := k.toNat_lt
      obtain ⟨n0, nx0, e0, ht0⟩ : ∃ n0 nx0 e0, Hid (take l ((p : Int) + 1) = (n0, nx0, e0)) := ⟨_, _, _, rfl⟩
      by_cases h2 : k = 2
      · obtain ⟨g1, g2, g3⟩ := is2 h2
        have hk1 : ¬ ((k.toNat : Int) < 1) := by rw [h2]; decide
        have hk3 : ¬ ((3 : Int) < (k.toNat : Int)) := by rw [h2]; decide
        have hk1' : (1 : Int) ≤ (k.toNat : Int) := by omega
        have hk3' : (k.toNat : Int) ≤ 3 := by omega
        obtain ⟨s, nx, e, ht⟩ : ∃ s nx e, Hid (takeText l ((p : Int) + 1) = (s, nx, e)) := ⟨_, _, _, rfl⟩
        have Htk := Lib.hid (tkE_two Hk.out h2 ht.out)
        have HOk : Hid (Ed.Ok ⟨k, 0, s⟩) := ⟨by simp, by simp, by have := takeText_len l ((p : Int) + 1); rw [ht.out] at this; have := Hl.out; simp only at *; omega⟩
        clear h2
        rcases zero_or e with he | he
        · subst he
          rcases hid_bool (rt ⟨k, 0, s⟩) with hrt | hrt
          · have hx0 := (show tkE l p = (⟨k, 0, s⟩, nx, 0) by rw [Htk.out, if_neg (by rw [hrt.out]; simp)])
            obtain ⟨N, hN, h1, h2, h3, h4, h5⟩ := tkE_ok hlt (by rw [hx0])
            rw [hx0] at hN
            simp only at hN
            subst hN
            have Hstep := Lib.hid (fin_on (acc := own) (f := g) hlt hx0)
            have Hpn := Lib.hid h1
            have HNl := Lib.hid h2
            clear hx0 h1 h2 h3 h4 h5
            go_wp2_with (first
              | (go_at_call 43; refine (refTake_is (B := B) ht0 _ (by have := Hl.out; omega) HBz1.out Hr1.out).mono ?_; rintro e' w2 ⟨rfl, hb2⟩; have hbx2 := (hb2.block wr.heap.size (by simp)).trans (heap_alloc_new wr _); obtain ⟨d0, d1, d2, f0, f1, f2, hz2⟩ := box_cells hbx2; have hbb2 := hb1.trans (hb2.mono hb1.size); have hown2 := own_below Hown1.out hb2 (Nat.le_refl _); have HBz2 := Lib.hid (Nat.le_trans HB.out hbb2.size); have Hr2 : Hid (RdB w2 B (some ad) l) := Reads.below Hr1.out (hb2.mono HBz1.out); have Hbx2 := Lib.hid hbx2; clear hb2 hbx2)
              | (go_at_call 44; refine (refTakeText_is (B := B) ht _ (by have := Hl.out; omega) Hcap.out HBz2.out Hr2.out).mono ?_; rintro e' w3 ⟨rfl, hb3⟩; have hbx3 := (hb3.block wr.heap.size hz2).trans Hbx2.out; clear d0 d1 d2 f0 f1 f2; obtain ⟨d0, d1, d2, f0, f1, f2, hz3⟩ := box_cells hbx3; have hbb3 := hbb2.trans (hb3.mono hbb2.size); have hown3 := own_below hown2 hb3 (Nat.le_refl _); have Hbx3 := Lib.hid hbx3; clear hb3 hbx3 hown2)
              | (go_at_call 35; refine (refRight_is ⟨k, 0, s⟩ true hrt HOk.out _).mono ?_; rintro e' w4 ⟨rfl, hb4⟩; have hbx4 := (hb4.block wr.heap.size (by simpa using hz3)).trans (box_set2 Hbx3.out); clear d0 d1 d2 f0 f1 f2; obtain ⟨d0, d1, d2, f0, f1, f2, hz4⟩ := box_cells hbx4; have hbbs := hbb3.setCell (p := ⟨wr.heap.size, 2, none⟩) HMw.out (.string (txt s)); have hbb4 := hbbs.trans (hb4.mono hbbs.size); have hown4 := own_below (own_setCell hown3 (p := ⟨wr.heap.size, 2, none⟩) hMne.out (.string (txt s))) hb4 (Nat.le_refl _); clear hb4 hbx4 hown3)
              | (at_builtin; refine push_ed edSl2 (.tmp 57) (.tmp 59) ⟨k, 0, s⟩ rfl rfl rfl hown4 hbb4.size (by omega) rfl rfl rfl rfl (by simp) ?_; intro v5 w5 own5 hb5 hbs5 hz5 hk5; have hbb5 := hbb4.trans hb5; clear hown4 hb5 hk5))
            go_roundw
            case rel => exact ⟨own ++ [(⟨k, 0, s⟩ : Ed)], N, g, rfl, HNl.out, by simp; have := Hpn.out; omega, by have := hf.out; have := Hpn.out; show _ ≤ _; omega, own5, Hstep.out.symm.trans hfin.out, hbb5⟩
            case measure => have := Hpn.out; simp [Lib.intOf]; omega
          · have hx0 := (show tkE l p = (⟨k, 0, s⟩, nx, 2) by rw [Htk.out, if_pos ⟨rfl, hrt.out⟩])
            have Hv := Lib.hid ((fin_err (acc := own) (f := g) hlt hx0 (by decide)).symm.trans hfin.out)
            clear hx0
            go_wp2_with (first
              | (go_at_call 43; refine (refTake_is (B := B) ht0 _ (by have := Hl.out; omega) HBz1.out Hr1.out).mono ?_; rintro e' w2 ⟨rfl, hb2⟩; have hbx2 := (hb2.block wr.heap.size (by simp)).trans (heap_alloc_new wr _); obtain ⟨d0, d1, d2, f0, f1, f2, hz2⟩ := box_cells hbx2; have hbb2 := hb1.trans (hb2.mono hb1.size); have hown2 := own_below Hown1.out hb2 (Nat.le_refl _); have HBz2 := Lib.hid (Nat.le_trans HB.out hbb2.size); have Hr2 : Hid (RdB w2 B (some ad) l) := Reads.below Hr1.out (hb2.mono HBz1.out); have Hbx2 := Lib.hid hbx2; clear hb2 hbx2)
              | (go_at_call 44; refine (refTakeText_is (B := B) ht _ (by have := Hl.out; omega) Hcap.out HBz2.out Hr2.out).mono ?_; rintro e' w3 ⟨rfl, hb3⟩; have hbx3 := (hb3.block wr.heap.size hz2).trans Hbx2.out; clear d0 d1 d2 f0 f1 f2; obtain ⟨d0, d1, d2, f0, f1, f2, hz3⟩ := box_cells hbx3; have hbb3 := hbb2.trans (hb3.mono hbb2.size); have hown3 := own_below hown2 hb3 (Nat.le_refl _); have Hbx3 := Lib.hid hbx3; clear hb3 hbx3 hown2)
              | (go_at_call 35; refine (refRight_is ⟨k, 0, s⟩ false hrt HOk.out _).mono ?_; rintro e' w4 ⟨rfl, hb4⟩; have hbx4 := (hb4.block wr.heap.size (by simpa using hz3)).trans (box_set2 Hbx3.out); clear d0 d1 d2 f0 f1 f2; obtain ⟨d0, d1, d2, f0, f1, f2, hz4⟩ := box_cells hbx4; have hbbs := hbb3.setCell (p := ⟨wr.heap.size, 2, none⟩) HMw.out (.string (txt s)); have hbb4 := hbbs.trans (hb4.mono hbbs.size); have hown4 := own_below (own_setCell hown3 (p := ⟨wr.heap.size, 2, none⟩) hMne.out (.string (txt s))) hb4 (Nat.le_refl _); clear hb4 hbx4 hown3))
            go_ret2
            exact ⟨⟨.slice none 0 0, by rw [← Hv.out]; rfl, by rw [← Hv.out]; exact OwnE.nil _ _ _⟩, hbb4⟩
        · have hx0 := (show tkE l p = (⟨k, 0, s⟩, nx, e) by rw [Htk.out, if_neg (by omega)])
          have Hv := Lib.hid ((fin_err (acc := own) (f := g) hlt hx0 (by omega)).symm.trans hfin.out)
          have heb : ((e : Int) != 0) = true := by simp; omega
          have heq : ((e : Int) == 0) = false := by simp; omega
          clear hx0 he
          go_wp2_with (first
              | (go_at_call 43; refine (refTake_is (B := B) ht0 _ (by have := Hl.out; omega) HBz1.out Hr1.out).mono ?_; rintro e' w2 ⟨rfl, hb2⟩; have hbx2 := (hb2.block wr.heap.size (by simp)).trans (heap_alloc_new wr _); obtain ⟨d0, d1, d2, f0, f1, f2, hz2⟩ := box_cells hbx2; have hbb2 := hb1.trans (hb2.mono hb1.size); have hown2 := own_below Hown1.out hb2 (Nat.le_refl _); have HBz2 := Lib.hid (Nat.le_trans HB.out hbb2.size); have Hr2 : Hid (RdB w2 B (some ad) l) := Reads.below Hr1.out (hb2.mono HBz1.out); have Hbx2 := Lib.hid hbx2; clear hb2 hbx2)
              | (go_at_call 44; refine (refTakeText_is (B := B) ht _ (by have := Hl.out; omega) Hcap.out HBz2.out Hr2.out).mono ?_; rintro e' w3 ⟨rfl, hb3⟩; have hbx3 := (hb3.block wr.heap.size hz2).trans Hbx2.out; clear d0 d1 d2 f0 f1 f2; obtain ⟨d0, d1, d2, f0, f1, f2, hz3⟩ := box_cells hbx3; have hbb3 := hbb2.trans (hb3.mono hbb2.size); have hown3 := own_below hown2 hb3 (Nat.le_refl _); have Hbx3 := Lib.hid hbx3; clear hb3 hbx3 hown2))
          go_ret2
          exact ⟨⟨.slice none 0 0, by rw [← Hv.out]; rfl, by rw [← Hv.out]; exact OwnE.nil _ _ _⟩, hbb3.setCell (p := ⟨wr.heap.size, 2, none⟩) HMw.out (.string (txt s))⟩
      · obtain ⟨g1, g2, g3⟩ := not2 h2
        by_cases h13 : k = 1 ∨ k = 3
        · have hk1 : ¬ ((k.toNat : Int) < 1) := by rcases h13 with h | h <;> rw [h] <;> decide
          have hk3 : ¬ ((3 : Int) < (k.toNat : Int)) := by rcases h13 with h | h <;> rw [h] <;> decide
          have hk1' : (1 : Int) ≤ (k.toNat : Int) := by omega
          have hk3' : (k.toNat : Int) ≤ 3 := by omega
          have Htk := Lib.hid (tkE_num Hk.out h2 h13 ht0.out)
          have hlt64 := take_lt l ((p : Int) + 1)
          rw [ht0.out] at hlt64
          have hnI : (n0 : Int) ≤ 18446744073709551615 := by simp only at hlt64; omega
          have HOk : Hid (Ed.Ok ⟨k, min (n0 : Int) 2147483648, []⟩) := ⟨by simp only; omega, by simp only; omega, by simp⟩
          clear h2 h13 hlt64
          rcases zero_or e0 with he | he
          · subst he
            rcases hid_bool (rt ⟨k, min (n0 : Int) 2147483648, []⟩) with hrt | hrt
            · have hx0 := (show tkE l p = (⟨k, min (n0 : Int) 2147483648, []⟩, nx0, 0) by rw [Htk.out, if_neg (by rw [hrt.out]; simp)])
              obtain ⟨N, hN, h1, h2, h3, h4, h5⟩ := tkE_ok hlt (by rw [hx0])
              rw [hx0] at hN
              simp only at hN
              subst hN
              have Hstep := Lib.hid (fin_on (acc := own) (f := g) hlt hx0)
              have Hpn := Lib.hid h1
              have HNl := Lib.hid h2
              clear hx0 h1 h2 h3 h4 h5
              go_wp2_with (first
                | (go_at_call 43; refine (refTake_is (B := B) ht0 _ (by have := Hl.out; omega) HBz1.out Hr1.out).mono ?_; rintro e' w2 ⟨rfl, hb2⟩; have hbx2 := (hb2.block wr.heap.size (by simp)).trans (heap_alloc_new wr _); obtain ⟨d0, d1, d2, f0, f1, f2, hz2⟩ := box_cells hbx2; have hbb2 := hb1.trans (hb2.mono hb1.size); have hown2 := own_below Hown1.out hb2 (Nat.le_refl _); have HBz2 := Lib.hid (Nat.le_trans HB.out hbb2.size); have Hr2 : Hid (RdB w2 B (some ad) l) := Reads.below Hr1.out (hb2.mono HBz1.out); have Hbx2 := Lib.hid hbx2; clear hb2 hbx2)
                | (go_at_call 35; refine (refRight_is ⟨k, min (n0 : Int) 2147483648, []⟩ true hrt HOk.out _).mono ?_; rintro e' w4 ⟨rfl, hb4⟩; have hbx4 := (hb4.block wr.heap.size (by simpa using hz2)).trans (box_set1 Hbx2.out); clear d0 d1 d2 f0 f1 f2; obtain ⟨d0, d1, d2, f0, f1, f2, hz4⟩ := box_cells hbx4; have hbbs := hbb2.setCell (p := ⟨wr.heap.size, 1, none⟩) HMw.out (.int .i64 (min (n0 : Int) 2147483648)); have hbb4 := hbbs.trans (hb4.mono hbbs.size); have hown4 := own_below (own_setCell hown2 (p := ⟨wr.heap.size, 1, none⟩) hMne.out (.int .i64 (min (n0 : Int) 2147483648))) hb4 (Nat.le_refl _); clear hb4 hbx4 hown2)
                | (at_builtin; refine push_ed edSl2 (.tmp 57) (.tmp 59) ⟨k, min (n0 : Int) 2147483648, []⟩ rfl rfl rfl hown4 hbb4.size (by omega) rfl rfl rfl rfl (by simp) ?_; intro v5 w5 own5 hb5 hbs5 hz5 hk5; have hbb5 := hbb4.trans hb5; clear hown4 hb5 hk5))
              go_roundw
              case rel => exact ⟨own ++ [(⟨k, min (n0 : Int) 2147483648, []⟩ : Ed)], N, g, rfl, HNl.out, by simp; have := Hpn.out; omega, by have := hf.out; have := Hpn.out; show _ ≤ _; omega, own5, Hstep.out.symm.trans hfin.out, hbb5⟩
              case measure => have := Hpn.out; simp [Lib.intOf]; omega
            · have hx0 := (show tkE l p = (⟨k, min (n0 : Int) 2147483648, []⟩, nx0, 2) by rw [Htk.out, if_pos ⟨rfl, hrt.out⟩])
              have Hv := Lib.hid ((fin_err (acc := own) (f := g) hlt hx0 (by decide)).symm.trans hfin.out)
              clear hx0
              go_wp2_with (first
                | (go_at_call 43; refine (refTake_is (B := B) ht0 _ (by have := Hl.out; omega) HBz1.out Hr1.out).mono ?_; rintro e' w2 ⟨rfl, hb2⟩; have hbx2 := (hb2.block wr.heap.size (by simp)).trans (heap_alloc_new wr _); obtain ⟨d0, d1, d2, f0, f1, f2, hz2⟩ := box_cells hbx2; have hbb2 := hb1.trans (hb2.mono hb1.size); have hown2 := own_below Hown1.out hb2 (Nat.le_refl _); have HBz2 := Lib.hid (Nat.le_trans HB.out hbb2.size); have Hr2 : Hid (RdB w2 B (some ad) l) := Reads.below Hr1.out (hb2.mono HBz1.out); have Hbx2 := Lib.hid hbx2; clear hb2 hbx2)
                | (go_at_call 35; refine (refRight_is ⟨k, min (n0 : Int) 2147483648, []⟩ false hrt HOk.out _).mono ?_; rintro e' w4 ⟨rfl, hb4⟩; have hbx4 := (hb4.block wr.heap.size (by simpa using hz2)).trans (box_set1 Hbx2.out); clear d0 d1 d2 f0 f1 f2; obtain ⟨d0, d1, d2, f0, f1, f2, hz4⟩ := box_cells hbx4; have hbbs := hbb2.setCell (p := ⟨wr.heap.size, 1, none⟩) HMw.out (.int .i64 (min (n0 : Int) 2147483648)); have hbb4 := hbbs.trans (hb4.mono hbbs.size); have hown4 := own_below (own_setCell hown2 (p := ⟨wr.heap.size, 1, none⟩) hMne.out (.int .i64 (min (n0 : Int) 2147483648))) hb4 (Nat.le_refl _); clear hb4 hbx4 hown2))
              go_ret2
              exact ⟨⟨.slice none 0 0, by rw [← Hv.out]; rfl, by rw [← Hv.out]; exact OwnE.nil _ _ _⟩, hbb4⟩
          · have hx0 := (show tkE l p = (⟨k, min (n0 : Int) 2147483648, []⟩, nx0, e0) by rw [Htk.out, if_neg (by omega)])
            have Hv := Lib.hid ((fin_err (acc := own) (f := g) hlt hx0 (by omega)).symm.trans hfin.out)
            have heb : ((e0 : Int) != 0) = true := by simp; omega
            have heq : ((e0 : Int) == 0) = false := by simp; omega
            clear hx0 he
            go_wp2_with (first
                | (go_at_call 43; refine (refTake_is (B := B) ht0 _ (by have := Hl.out; omega) HBz1.out Hr1.out).mono ?_; rintro e' w2 ⟨rfl, hb2⟩; have hbx2 := (hb2.block wr.heap.size (by simp)).trans (heap_alloc_new wr _); obtain ⟨d0, d1, d2, f0, f1, f2, hz2⟩ := box_cells hbx2; have hbb2 := hb1.trans (hb2.mono hb1.size); have hown2 := own_below Hown1.out hb2 (Nat.le_refl _); have HBz2 := Lib.hid (Nat.le_trans HB.out hbb2.size); have Hr2 : Hid (RdB w2 B (some ad) l) := Reads.below Hr1.out (hb2.mono HBz1.out); have Hbx2 := Lib.hid hbx2; clear hb2 hbx2))
            go_ret2
            exact ⟨⟨.slice none 0 0, by rw [← Hv.out]; rfl, by rw [← Hv.out]; exact OwnE.nil _ _ _⟩, hbb2.setCell (p := ⟨wr.heap.size, 1, none⟩) HMw.out (.int .i64 (min (n0 : Int) 2147483648))⟩
        · have Hv := Lib.hid ((fin_err (acc := own) (f := g) hlt (show tkE l p = ((tkE l p).1, (tkE l p).2.1, 60) by rw [← tkE_kind Hk.out (fun h => h13 (.inl h)) h2 (fun h => h13 (.inr h))]) (by decide)).symm.trans hfin.out)
          have h0 : k.toNat ≠ 1 := fun h => h13 (.inl (UInt8.toNat_inj.1 h))
          have h20 : k.toNat ≠ 2 := fun h => h2 (UInt8.toNat_inj.1 h)
          have h30 : k.toNat ≠ 3 := fun h => h13 (.inr (UInt8.toNat_inj.1 h))
          by_cases hz : k.toNat = 0
          · have hk1 : (k.toNat : Int) < 1 := by omega
            clear h2 h13 h0 h20 h30 hz
            go_wp2
            go_ret2
            exact ⟨⟨.slice none 0 0, by rw [← Hv.out]; rfl, by rw [← Hv.out]; exact OwnE.nil _ _ _⟩, hb1⟩
          · have hk1 : ¬ ((k.toNat : Int) < 1) := by omega
            have hk1' : (1 : Int) ≤ (k.toNat : Int) := by omega
            have hk3 : (3 : Int) < (k.toNat : Int) := by omega
            clear h2 h13 h0 h20 h30 hz
            go_wp2
            go_ret2
            exact ⟨⟨.slice none 0 0, by rw [← Hv.out]; rfl, by rw [← Hv.out]; exact OwnE.nil _ _ _⟩, hb1⟩
    · have Hv := Lib.hid ((fin_end (b := l) (f := f) (acc := own) (p := p) (by omega)).symm.trans hfin.out)
      go_wp2
      go_ret2
      exact ⟨⟨_, by rw [← Hv.out]; rfl, by rw [← Hv.out]; exact hown⟩, hb⟩
end Go.Proofs.Ytohgghaooppcoaa
