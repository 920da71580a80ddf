/- The walk of FramePuts: whatever the frames, it returns true. Conditions: bodies of at most 2^47 - 4096 bytes (the form's own reach). -/
import Derived.Test.YtfjgmbnnmobkbaaFrW
import Derived.Deep.RegionHeld3
namespace Go.Proofs.Ytfjgmbnnmobkbaa
open Go.RowKit

theorem joinF_len {l : List Fk} (h : l.length ≤ 1000) : (joinF l).1.length ≤ 65550000 := by
  unfold joinF
  split
  · rename_i ha
    rw [List.all_eq_true] at ha
    have := encFs_le (l := l) (fun f hf => of_decide_eq_true (ha f hf)) l.length
    rw [List.take_length] at this
    simp only
    omega
  · simp

set_option maxHeartbeats 4000000 in
set_option maxRecDepth 100000 in
/-- Behind the first test. -/
theorem putsLaw_any (A : Option Addr) (c : Nat) (fs : List Fr) (w : World) (hl : fs.length ≤ 9223372036854775807) (hls : ∀ f ∈ fs, f.r.l.length ≤ 140737488351232) (hr : RdF w w.heap.size A fs) :
    Calls Try.prog 3 #[.slice A fs.length c] w fun e w' => e = .returned (.bool true) ∧ Below w.heap.size w w' := by
  have hlI : (fs.length : Int) ≤ 9223372036854775807 := by omega
  have Hl := Lib.hid hl
  have Hls := Lib.hid hls
  have Hls' := Lib.hid (show ∀ f ∈ fs, f.r.l.length ≤ 9223372036854775807 from fun f hf => by have := hls f hf; omega)
  have Hr : Hid (RdF w w.heap.size A fs) := hr
  clear hl hls hr
  by_cases hbad : ¬ Few fs ∧ (fs.length ≠ 1 ∨ ∀ f ∈ fs, f.r.l.length ≤ 65535)
  · obtain ⟨hf, hx⟩ := hbad
    have Hf := Lib.hid (decide_eq_false hf)
    clear hf
    by_cases h1 : fs.length = 1
    · have hne : ((fs.length : Int) != 1) = false := by rw [h1]; rfl
      have hne' : (fs.length != 1) = false := by rw [h1]; rfl
      obtain ⟨ad, f, rfl, _, hc1, hc2, hxx, _⟩ := Hr.out.at_ (k := 0) (by omega)
      have hle : (f.r.l.length : Int) ≤ 65535 := by
        rcases hx with hx | hx
        · exact absurd h1 hx
        · have := hx f (mem_of_get hxx); omega
      simp only [Nat.zero_mul] at hc1 hc2
      rw [add_zero'] at hc1 hc2
      have hl0 : (0 : Int) < (fs.length : Int) := by omega
      have H1 := Lib.hid h1
      clear hx h1
      go_enter Try.func3, Try.ntmps3
      go_wp2_with fail
      refine (few_any _ c w.heap.size fs w Hl.out Hls'.out Hr.out).mono ?_
      rintro e _ ⟨rfl, rfl⟩
      rw [Hf.out]
      go_wp2_with fail
      refine (worksF_any _).mono ?_
      rintro e w1 ⟨rfl, hb⟩
      go_wp2
      go_ret
      exact ⟨rfl, hb⟩
    · have hne : ((fs.length : Int) != 1) = true := by rw [bne_iff_ne]; omega
      have hne' : (fs.length != 1) = true := by rw [bne_iff_ne]; exact h1
      clear hx h1
      go_enter Try.func3, Try.ntmps3
      go_wp2_with fail
      refine (few_any A c w.heap.size fs w Hl.out Hls'.out Hr.out).mono ?_
      rintro e _ ⟨rfl, rfl⟩
      rw [Hf.out]
      go_wp2_with fail
      refine (worksF_any _).mono ?_
      rintro e w1 ⟨rfl, hb⟩
      go_wp2
      go_ret
      exact ⟨rfl, hb⟩
  have hfs : fs.length ≤ 10 := by
    rcases Classical.em (Few fs) with h | h
    · exact h.1
    · have : fs.length = 1 := Classical.byContradiction fun h1 => hbad ⟨h, .inl h1⟩
      omega
  have Hfs := Lib.hid hfs
  have hlI10 : (fs.length : Int) ≤ 10 := by omega
  by_cases hfew : Few fs
  case' pos =>
    have Hf := Lib.hid (decide_eq_true hfew)
    clear hfew hbad hlI hfs
    go_enter Try.func3, Try.ntmps3
    go_wp2_with fail
    refine (few_any A c w.heap.size fs w Hl.out Hls'.out Hr.out).mono ?_
    rintro e _ ⟨rfl, rfl⟩
    rw [Hf.out]
    go_wp2_with fail
  case' neg =>
    have Hf := Lib.hid (decide_eq_false hfew)
    have h1 : fs.length = 1 := Classical.byContradiction fun h1 => hbad ⟨hfew, .inl h1⟩
    have hex : ¬ ∀ f ∈ fs, f.r.l.length ≤ 65535 := fun h => hbad ⟨hfew, .inr h⟩
    have hne : ((fs.length : Int) != 1) = false := by rw [h1]; rfl
    have hne' : (fs.length != 1) = false := by rw [h1]; rfl
    obtain ⟨ad, f, rfl, _, hc1, hc2, hxx, _⟩ := Hr.out.at_ (k := 0) (by omega)
    have hle : (65535 : Int) < (f.r.l.length : Int) := by
      rcases Nat.lt_or_ge 65535 f.r.l.length with h | h
      · omega
      · exfalso
        apply hex
        intro g hg
        obtain ⟨j, hj⟩ := List.getElem?_of_mem hg
        have hj1 := (List.getElem?_eq_some_iff.1 hj).1
        obtain rfl : j = 0 := by omega
        rw [hxx.out] at hj
        injection hj with hj
        subst hj
        exact h
    simp only [Nat.zero_mul] at hc1 hc2
    rw [add_zero'] at hc1 hc2
    have hl0 : (0 : Int) < (fs.length : Int) := by omega
    have hll : (f.r.l.length : Int) ≤ 140737488351232 := by have := Hls.out f (mem_of_get hxx); omega
    have H1 := Lib.hid h1
    clear hex h1 hfew hbad hlI hfs
    go_enter Try.func3, Try.ntmps3
    go_wp2_with fail
    refine (few_any _ c w.heap.size fs w Hl.out Hls'.out Hr.out).mono ?_
    rintro e _ ⟨rfl, rfl⟩
    rw [Hf.out]
    go_wp2_with fail
    clear hc1 hc2 hle hll hl0 hne hne'
    generalize (some ad : Option Addr) = A at Hr ⊢
  all_goals
    refine (refs_any _ c w.heap.size fs w (by have := Hfs.out; omega) Hls.out (Nat.le_refl _) Hr.out).mono ?_
    rintro e W1 ⟨⟨v1, own, rfl, hO1, hfk⟩, hb1⟩
    obtain ⟨Ar, cr, rfl, hcr, hRr⟩ := hO1.reads
    have hol : own.length = fs.length := by rw [← fks_len, hfk, fks_len]
    have Hol := Lib.hid (show own.length ≤ 10 by rw [hol]; exact Hfs.out)
    have Hols := Lib.hid (show ∀ f ∈ own, f.r.l.length ≤ 140737488351232 by
      intro g hg
      obtain ⟨j, hj⟩ := List.getElem?_of_mem hg
      have h1 := fks_get (show Hid (own[j]? = some g) from hj)
      rw [hfk] at h1
      have h2 := (List.getElem?_eq_some_iff.1 hj).1
      have hf := List.getElem?_eq_getElem (l := fs) (i := j) (by omega)
      have h3 := fks_get (show Hid (fs[j]? = some fs[j]) from hf)
      have h4 := h1.out.symm.trans h3.out
      injection h4 with h4
      rw [(Prod.mk.inj h4).2]
      exact Hls.out _ (List.getElem_mem _))
    have HRr : Hid (RdF W1 W1.heap.size Ar own) := hRr
    have Hfk := Lib.hid hfk
    have Hb1 := Lib.hid hb1
    have HrW : Hid (RdF W1 W1.heap.size _ fs) := (Hr.out.below hb1).more hb1.size
    have HJ := Lib.hid (joinF_len (l := fks fs) (by rw [fks_len]; have := Hfs.out; omega))
    have Holen := Lib.hid hol
    clear hO1 hRr hfk hcr hb1 hol
    go_wp2_with fail
    go_loopw [4] (fun t wr => ∃ k : Nat, k ≤ 2 ∧ t = .int .i64 (k : Int) ∧ Below W1.heap.size W1 wr) (fun t _ => 2 - (intOf t).toNat)
    case atStart => exact ⟨0, by omega, rfl, .refl _ _⟩
    case round =>
      obtain ⟨k, hk, rfl, hb⟩ := hrel
      by_cases hlt : k < 2
      · go_wp2_with fail
        refine (join_any _ c fs wr (by have := Hfs.out; omega) Hls.out ((HrW.out.below hb).more hb.size)).mono ?_
        rintro e w2 ⟨⟨v2, rfl, hown2⟩, hb2⟩
        have hbb2 := hb.trans (hb2.mono hb.size)
        have hlt2 := Lib.hid hown2.lt
        go_wp2_with fail
        refine (refJoin_any Ar cr own w2 (by have := Hol.out; omega) Hols.out ((HRr.out.below hbb2).more hbb2.size)).mono ?_
        rintro e w3 ⟨⟨v3, rfl, hown3⟩, hb3⟩
        rw [Hfk.out] at hown3 ⊢
        have hbb3 := hbb2.trans (hb3.mono hbb2.size)
        have hown2' := own_below hown2 hb3 (Nat.le_refl _)
        obtain ⟨A2, c2, rfl, _, _, hr2⟩ := own_form hown2'
        obtain ⟨A3, c3, rfl, _, _, hr3⟩ := own_form hown3
        have hj := HJ.out
        obtain ⟨⟨J, je⟩, hJ⟩ : ∃ r, r = joinF (fks fs) := ⟨_, rfl⟩
        rw [← hJ] at hown2' hr2 hr3 hj ⊢
        simp only at hown2' hr2 hr3 hj ⊢
        have HJ' := Lib.hid (show J.length ≤ 140737488351232 by omega)
        have Hown2 := Lib.hid hown2'
        have Hr2 : Hid (RdB w3 w3.heap.size A2 J) := hr2
        have Hr3 : Hid (RdB w3 w3.heap.size A3 J) := hr3
        have Hbb3 := Lib.hid hbb3
        have Hbr := Lib.hid hb.size
        clear hJ hj hown2 hown3 hown2' hb2 hb3 hbb2 hbb3 hr2 hr3 hb
        go_wp2_with fail
        refine (sameBytes_any A2 A3 c2 c3 w3.heap.size w3.heap.size J J w3 HJ'.out Hr2.out Hr3.out).mono ?_
        rintro e w4 ⟨rfl, n4, hw4⟩
        rw [decide_eq_true (rfl : J = J)]
        have hown4 : w4.ownsRow wr.heap.size 5 1 (.slice A2 J.length c2) J.length (bs J) := by rw [hw4]; exact Hown2.out
        have hbb4 : Below W1.heap.size W1 w4 := by rw [hw4]; exact below_drewN Hbb3.out n4
        clear hw4
        go_wp2_with fail
        refine (spoil_any wr.heap.size _ _ _ w4 HJ'.out hown4).mono ?_
        rintro e w5 ⟨rfl, _, hg5⟩
        have hbb5 := hbb4.grown hg5 hbb4.size (fun g hg => Nat.le_trans Hbr.out (hown4.lt g hg).1)
        clear hown4 hbb4 hg5
        go_wp2
        go_roundw
        case rel => exact ⟨k + 1, by omega, by go_num, hbb5⟩
        case measure => simp [intOf]; omega
      · go_wp2
        go_loopw [9] (fun t wr => ∃ j : Nat, j ≤ fs.length ∧ t = .int .i64 (j : Int) ∧ Below W1.heap.size W1 wr) (fun t _ => fs.length - (intOf t).toNat)
        case atStart => exact ⟨0, by omega, rfl, hb⟩
        case round =>
          clear hb
          obtain ⟨j, hj, rfl, hb⟩ := hrel
          by_cases hltj : j < fs.length
          · obtain ⟨ad1, f1, hA, hab, hc1, hc2, hx, hrow⟩ := (HrW.out.below hb).at_ hltj
            obtain ⟨ad2, g1, rfl, hab2, hd1, hd2, hy, hrow2⟩ := (HRr.out.below hb).at_ (k := j) (by rw [Holen.out]; exact hltj)
            subst hA
            have heq : (g1.k, g1.r.l) = (f1.k, f1.r.l) := by
              have h1 := fks_get hy
              rw [Hfk.out] at h1
              have h2 := h1.out.symm.trans (fks_get hx).out
              injection h2
            have Heq := Lib.hid heq
            have Hlen := Lib.hid (show g1.r.l.length = f1.r.l.length by rw [(Prod.mk.inj heq).2])
            have Hf1 := Lib.hid (Hls.out f1 (mem_of_get hx))
            have Hg1 := Lib.hid (Hols.out g1 (mem_of_get hy))
            have hS : ∀ wx, Below W1.heap.size wr wx → wx.cell? (ad1.add (j * 2)) = some (.int .u8 (f1.k.toNat : Int)) ∧ wx.cell? ⟨(ad1.add (j * 2)).block, (ad1.add (j * 2)).off + 1, none⟩ = some (.slice f1.r.A f1.r.l.length f1.r.c) ∧ wx.cell? (ad2.add (j * 2)) = some (.int .u8 (g1.k.toNat : Int)) ∧ wx.cell? ⟨(ad2.add (j * 2)).block, (ad2.add (j * 2)).off + 1, none⟩ = some (.slice g1.r.A g1.r.l.length g1.r.c) := by
              intro wx hx
              have e1 : (ad1.add (j * 2)).block < W1.heap.size := by rw [block_of_add]; omega
              have e2 : (ad2.add (j * 2)).block < W1.heap.size := by rw [block_of_add]; omega
              exact ⟨(hx.cell e1).trans hc1, (hx.cell (p := ⟨(ad1.add (j * 2)).block, (ad1.add (j * 2)).off + 1, none⟩) e1).trans hc2, (hx.cell e2).trans hd1, (hx.cell (p := ⟨(ad2.add (j * 2)).block, (ad2.add (j * 2)).off + 1, none⟩) e2).trans hd2⟩
            have HS := Lib.hid hS
            have Hrow : Hid (RdB wr W1.heap.size f1.r.A f1.r.l) := hrow
            have Hrow2 : Hid (RdB wr W1.heap.size g1.r.A g1.r.l) := hrow2
            have HJ1 := Lib.hid (joinF_len (l := [(f1.k, f1.r.l)]) (by simp))
            have hjI : (j : Int) < (fs.length : Int) := by omega
            have hjI2 : (j : Int) < (own.length : Int) := by rw [Holen.out]; omega
            clear heq hS hrow hrow2 hd1 hd2 hab hab2
            go_wp2_with fail
            clear hc1 hc2
            refine (frPut_any f1 W1.heap.size wr Hf1.out hb.size Hrow.out).mono ?_
            rintro e w2 ⟨⟨v2, rfl, hown2⟩, hb2⟩
            have hbx2 : Below W1.heap.size wr w2 := hb2.mono hb.size
            obtain ⟨-, -, hd1, hd2⟩ := HS.out w2 hbx2
            go_wp2_with fail
            clear hd1 hd2
            refine (refFrPut_any g1 W1.heap.size w2 Hg1.out (Nat.le_trans hb.size hbx2.size) (Reads.below Hrow2.out hbx2)).mono ?_
            rintro e w3 ⟨⟨v3, rfl, hown3⟩, hb3⟩
            rw [Heq.out] at hown3 ⊢
            have hbx := hbx2.trans (hb3.mono (Nat.le_trans hb.size hbx2.size))
            have hown2' := own_below hown2 hb3 (Nat.le_refl _)
            obtain ⟨A2, c2, rfl, _, _, hr2⟩ := own_form hown2'
            obtain ⟨A3, c3, rfl, _, _, hr3⟩ := own_form hown3
            have hj := HJ1.out
            obtain ⟨⟨J, je⟩, hJ⟩ : ∃ r, r = joinF [(f1.k, f1.r.l)] := ⟨_, rfl⟩
            rw [← hJ] at hr2 hr3 hj ⊢
            simp only at hr2 hr3 hj ⊢
            have HJ' := Lib.hid (show J.length ≤ 140737488351232 by omega)
            have Hr2 : Hid (RdB w3 w3.heap.size A2 J) := hr2
            have Hr3 : Hid (RdB w3 w3.heap.size A3 J) := hr3
            have Hbr := Lib.hid hb
            replace hbx := hbx.drew
            clear hJ hj hown2 hown3 hown2' hb2 hb3 hbx2 hr2 hr3 hb
            go_wp2_with fail
            go_region_held3 (fun wx => wx.cell? (ad1.add (j * 2)) = some (.int .u8 (f1.k.toNat : Int)) ∧ wx.cell? ⟨(ad1.add (j * 2)).block, (ad1.add (j * 2)).off + 1, none⟩ = some (.slice f1.r.A f1.r.l.length f1.r.c) ∧ wx.cell? (ad2.add (j * 2)) = some (.int .u8 (g1.k.toNat : Int)) ∧ wx.cell? ⟨(ad2.add (j * 2)).block, (ad2.add (j * 2)).off + 1, none⟩ = some (.slice g1.r.A g1.r.l.length g1.r.c)) (exact HS.out _ hbx) (first
              | (go_at_call 13
                 refine (sameBytes_any A2 A3 c2 c3 w3.heap.size w3.heap.size J J w3.drew HJ'.out (Reads.drew Hr2.out) (Reads.drew Hr3.out)).mono ?_
                 rintro e w4 ⟨rfl, n4, hw4⟩
                 replace hbx : Below W1.heap.size wr w4 := by rw [hw4]; exact below_drewN hbx n4
                 clear hw4
                 rw [decide_eq_true (rfl : J = J)])
              | (go_at_call 17
                 refine (frSize_any f1 _ Hf1.out).mono ?_
                 rintro e w5 ⟨rfl, hb5⟩
                 replace hbx := hbx.trans (hb5.mono (Nat.le_trans Hbr.out.size hbx.size)))
              | (go_at_call 18
                 refine (refSize_any g1 W1.heap.size _ Hg1.out (Nat.le_trans Hbr.out.size hbx.size) (Reads.below Hrow2.out hbx)).mono ?_
                 rintro e w6 ⟨rfl, hb6⟩
                 replace hbx := hbx.trans (hb6.mono (Nat.le_trans Hbr.out.size hbx.size))
                 rw [Hlen.out]))
            all_goals
              go_wp2
              go_roundw
              case rel => exact ⟨j + 1, by omega, by go_num, Hbr.out.trans hbx⟩
              case measure => simp [intOf]; omega
          · go_wp2_with fail
            refine (sameAll_any A Ar c cr W1.heap.size W1.heap.size fs own wr (by have := Hfs.out; omega) (by have := Hol.out; omega) Hls.out hb.size hb.size (HrW.out.below hb) (HRr.out.below hb)).mono ?_
            rintro e w8 ⟨rfl, hb8⟩
            rw [decide_eq_true Hfk.out.symm]
            have hbb8 := Hb1.out.trans ((hb.trans (hb8.mono hb.size)).mono Hb1.out.size)
            go_wp2_with fail
            refine (worksF_any _).mono ?_
            rintro e w9 ⟨rfl, hb9⟩
            go_wp2
            go_ret
            exact ⟨rfl, hbb8.trans (hb9.mono hbb8.size)⟩
end Go.Proofs.Ytfjgmbnnmobkbaa
