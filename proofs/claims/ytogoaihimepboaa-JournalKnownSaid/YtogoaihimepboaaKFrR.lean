/- The walk of the document's own Take. Conditions: bytes of at most 2^40. -/
import Derived.Test.YtogoaihimepboaaKFrT
import Derived.Deep.RegionLaw
namespace Go.Proofs.Ytogoaihimepboaa
open Go.RowKit

theorem frame_all {l : List UInt8} {q : Nat} {k : UInt8} {M W : List UInt8} (hM : M.length ≤ 65535) (hW : W = encFr k M) (h : Hid ((l.drop q).take W.length = W.take W.length)) : takeF l q = ((k, M), ((q + W.length : Nat) : Int), 0) := by
  have h' := h.out
  rw [List.take_length] at h'
  have e := takeF_enc (b := l) (q := q) (k := k) (l := M) (rest := (l.drop q).drop W.length) hM (by rw [← hW]; conv => lhs; rw [← List.take_append_drop W.length (l.drop q), h'])
  rw [e, hW, encFr_len]
theorem frame_odd {l : List UInt8} {q E i : Nat} {k x y : UInt8} {M W : List UInt8} (hW : W = encFr k M) (hhead : (l.drop q).take (E - q) = fhead k M) (hqE : q ≤ E) (hx : Hid (l[q + i]? = some x)) (hy : Hid (W[i]? = some y)) (hne : x ≠ y) :
    (l.drop E).take 4 ≠ sum4 (sum (fhead k M)) := by
  intro e
  have h1 : (l.drop q).take (E - q + 4) = W := by
    rw [List.take_add, hhead, List.drop_drop, show q + (E - q) = E by omega, e, hW]
    rfl
  have hi : i < W.length := (List.getElem?_eq_some_iff.1 hy.out).1
  have hl := congrArg List.length h1
  rw [List.length_take, List.length_drop] at hl
  have h2 : W[i]? = l[q + i]? := by
    rw [← h1, List.getElem?_take, if_pos (by omega), List.getElem?_drop]
  rw [hx.out, hy.out] at h2
  injection h2 with h2
  exact hne h2.symm

set_option maxHeartbeats 2000000 in
set_option maxRecDepth 100000 in
theorem refFrTake_any (A : Option Addr) (c B : Nat) (l : List UInt8) (p : Int) (w : World) (hl : l.length ≤ 1099511627776) (hcap : l.length ≤ c) (hB : B ≤ w.heap.size) (hr : RdB w B A l) :
    Calls Try.prog 31 #[.slice A l.length c, .int .i64 p] w fun e w' => FrVal w.heap.size (takeF l p) e w' ∧ Below w.heap.size w w' := by
  have hlen : (l.length : Int) ≤ 1099511627776 := by omega
  have Hl := Lib.hid (show l.length ≤ 140737488351232 by omega)
  have hb0 := (Below.refl w.heap.size w).alloc (Nat.le_refl _) (.cells #[.int .u8 0, .slice none 0 0] 61)
  have hrW : RdB (w.alloc (.cells #[.int .u8 0, .slice none 0 0] 61)) B A l := Reads.alloc hr hB _
  have HrW : Hid (RdB _ _ _ _) := hrW
  have HBW := Lib.hid (show B ≤ (w.alloc (.cells #[.int .u8 0, .slice none 0 0] 61)).heap.size by simp; omega)
  have Hszw := Lib.hid (show w.heap.size < (w.alloc (.cells #[.int .u8 0, .slice none 0 0] 61)).heap.size by simp)
  clear hl hrW
  by_cases hneg : p < 0
  · have Hv := Lib.hid (takeF_out (b := l) (.inl hneg))
    go_enter Try.func31, Try.ntmps31
    go_wp2
    refine ret_cell3 rfl frTy2 w.heap.size _ _ _ (0, 0) rfl (heap_alloc_new _ _) rfl ?_
    exact ⟨FrVal.no Hv.out, hb0⟩
  by_cases hout : (l.length : Int) ≤ p
  · have Hv := Lib.hid (takeF_out (b := l) (.inr hout))
    go_enter Try.func31, Try.ntmps31
    go_wp2
    refine ret_cell3 rfl frTy2 w.heap.size _ _ _ (0, 0) rfl (heap_alloc_new _ _) rfl ?_
    exact ⟨FrVal.no Hv.out, hb0⟩
  obtain ⟨q, rfl⟩ := Int.eq_ofNat_of_zero_le (a := p) (by omega)
  have hq : q < l.length := by omega
  clear hneg hout
  obtain ⟨ad, x0, rfl, hab, hcx, hx0⟩ := RdB.at_ hr hq
  have hlt := take_lt l ((q : Int) + 1)
  obtain ⟨n, f, e, ht⟩ : ∃ n f e, take l ((q : Int) + 1) = (n, f, e) := ⟨_, _, _, rfl⟩
  have hn64 : (n : Int) ≤ 18446744073709551615 := by rw [ht] at hlt; simp only at hlt; omega
  have Ht := Lib.hid ht
  clear hlt
  by_cases he : e = 0
  · subst he
    by_cases hbig : 65535 < n
    · have Hv := Lib.hid (takeF_big hq ht hbig)
      have hbI : (65535 : Int) < (n : Int) := by omega
      clear ht hbig
      go_enter Try.func31, Try.ntmps31
      go_wp2_with fail
      refine (refTake_any _ _ B l _ _ Hl.out HBW.out HrW.out).mono ?_
      rintro e' w' ⟨rfl, hb'⟩
      rw [Ht.out]
      have hg' := (hb'.block w.heap.size Hszw.out).trans (heap_alloc_new w _)
      have hbb := hb0.trans (hb'.mono hb0.size)
      go_wp2_with (refine wpList_store_row rfl 61 (.tmp 4) (.tmp 38) rfl w.heap.size _ rfl rfl _ _ hg' size_fr2 rfl (two_one rfl rfl) ?_)
      refine ret_cell3 rfl frTy2 w.heap.size _ _ _ (0, 0) rfl (setRow_heap _ _ _ _ _ _ hg') rfl ?_
      exact ⟨FrVal.no Hv.out, below_setRow hbb (Nat.le_refl _) _⟩
    have hnI : (n : Int) ≤ 65535 := by omega
    have hok : (take l ((q : Int) + 1)).2.2 = 0 := by rw [ht]
    obtain ⟨-, -, k, hk0, hk, hkl, -⟩ := take_ok hok
    rw [ht] at hk
    simp only at hk
    obtain ⟨F, hF⟩ : ∃ F : Nat, F = q + 1 + k := ⟨_, rfl⟩
    obtain rfl : f = (F : Int) := by omega
    have hFl : (F : Int) ≤ (l.length : Int) := by omega
    by_cases hs : (l.length : Int) < (F : Int) + n + 4
    · have Hv := Lib.hid (takeF_short hq ht hbig hs)
      have hFnI : (F : Int) + (n : Int) ≤ 2199023255552 := by omega
      clear ht hbig hok hk hF hk0 hkl hn64
      go_enter Try.func31, Try.ntmps31
      go_wp2_with fail
      refine (refTake_any _ _ B l _ _ Hl.out HBW.out HrW.out).mono ?_
      rintro e' w' ⟨rfl, hb'⟩
      rw [Ht.out]
      have hg' := (hb'.block w.heap.size Hszw.out).trans (heap_alloc_new w _)
      have hbb := hb0.trans (hb'.mono hb0.size)
      go_wp2_with (refine wpList_store_row rfl 61 (.tmp 4) (.tmp 48) rfl w.heap.size _ rfl rfl _ _ hg' size_fr2 rfl (two_one rfl rfl) ?_)
      refine ret_cell3 rfl frTy2 w.heap.size _ _ _ (0, 0) rfl (setRow_heap _ _ _ _ _ _ hg') rfl ?_
      exact ⟨FrVal.no Hv.out, below_setRow hbb (Nat.le_refl _) _⟩
    obtain ⟨F', hF', hFn, hqF, hhead, -⟩ := takeF_head hq ht hs
    obtain rfl : F = F' := by omega
    obtain ⟨E, hE⟩ : ∃ E : Nat, E = F + n := ⟨_, rfl⟩
    have hEI : (F : Int) + (n : Int) = (E : Int) := by omega
    have hsI : ¬ (l.length : Int) < (E : Int) + 4 := by omega
    have hEl : (E : Int) ≤ (l.length : Int) := by omega
    have hqE : (q : Int) ≤ (E : Int) := by omega
    have hFE : (F : Int) ≤ (E : Int) := by omega
    have hEc : (E : Int) ≤ (c : Int) := by omega
    have hcF : ¬ c = F := by omega
    have hEq : F + n - q = E - q := by omega
    rw [hEq] at hhead
    have hk8 : l[q]?.getD 0 = x0 := by rw [hx0.out]; rfl
    rw [hk8] at hhead
    obtain ⟨M, hM⟩ : ∃ M, M = (l.drop F).take n := ⟨_, rfl⟩
    have hMl : M.length = n := by rw [hM, List.length_take, List.length_drop]; omega
    have HMn := Lib.hid (show M.length = E - F by omega)
    have HMle := Lib.hid (show M.length ≤ 65535 by omega)
    obtain ⟨T, hT⟩ : ∃ T, T = encFr x0 M := ⟨_, rfl⟩
    have hTl : q + T.length = E + 4 := by rw [hT, encFr_len, hMl]; unfold fsz; have := congrArg List.length hhead; rw [List.length_take, List.length_drop, fhead_len, ← hM, hMl] at this; omega
    have HTl := Lib.hid hTl
    have HT := Lib.hid hT
    have Hodd := Lib.hid (takeF_odd (F := F) hq ht hbig hFn)
    rw [hk8, ← hM, ← hE] at Hodd
    rw [← hM] at hhead
    have Hhead := Lib.hid hhead
    have HE := Lib.hid hE
    have HM := Lib.hid hM
    have Had := Lib.hid (show (ad.add q).block < w.heap.size by rw [block_of_add]; omega)
    have hTI : (T.length : Int) ≤ 70000 := by rw [hT, encFr_len, hMl]; have := sz_10 (n := n) (by omega); unfold fsz; omega
    have HlE := Lib.hid (show E + 4 ≤ l.length by omega)
    have HqE := Lib.hid (show q ≤ E by omega)
    have Hcx := Lib.hid hcx
    have Hab := Lib.hid hab
    clear ht hbig hok hk hF hk0 hkl hn64 hs hF' hFn hqF hhead hE hM hMl hT hTl hk8 hEq hcx hab
    go_enter Try.func31, Try.ntmps31
    go_wp2_with fail
    refine (refTake_any _ _ B l _ _ Hl.out HBW.out HrW.out).mono ?_
    rintro e' w1 ⟨rfl, hb1⟩
    rw [Ht.out]
    have hg1 := (hb1.block w.heap.size Hszw.out).trans (heap_alloc_new w _)
    have hbb1 := hb0.trans (hb1.mono hb0.size)
    have hr1 := Reads.below HrW.out (hb1.mono HBW.out)
    have hcx1 := (hbb1.cell (p := ad.add q) Had.out).trans Hcx.out
    have hzw1 : w.heap.size < w1.heap.size := Nat.lt_of_lt_of_le Hszw.out hb1.size
    have Hg1 := Lib.hid hg1
    have Hr1 : Hid (RdB w1 B (some ad) l) := hr1
    have Hzw1 := Lib.hid hzw1
    clear hb1 hg1 hr1 hzw1 HrW
    go_wp2_with fail
    obtain ⟨W, hW⟩ : ∃ W : World, W = w1.alloc (.cells #[.int .u8 (x0.toNat : Int), .slice none 0 0] 61) := ⟨_, rfl⟩
    obtain ⟨N1, hN1⟩ : ∃ N1, N1 = w1.heap.size := ⟨_, rfl⟩
    have hgN : W.heap[N1]? = some (.cells #[.int .u8 (x0.toNat : Int), .slice none 0 0] 61 (0, 0)) := by rw [hW, hN1]; exact heap_alloc_new _ _
    have hgW : W.heap[w.heap.size]? = some (.cells #[.int .u8 0, .slice none 0 0] 61 (0, 0)) := by rw [hW]; exact (heap_alloc_old w1 _ Hzw1.out).trans Hg1.out
    have hszW : W.heap.size = N1 + 1 := by rw [hW, hN1]; simp
    have hrW : RdB W B (some ad) l := by rw [hW]; exact Reads.alloc Hr1.out (Nat.le_trans hB hbb1.size) _
    have hbW : Below w.heap.size w W := by rw [hW]; exact hbb1.alloc hbb1.size _
    have hzN : w.heap.size < N1 := by rw [hN1]; exact Hzw1.out
    have hwn : IntKind.i64.wrap (n : Int) = (n : Int) := IntWalk.i64_in _ (by omega)
    have hwE : IntKind.i64.wrap (E : Int) = (E : Int) := IntWalk.i64_in _ (by omega)
    rw [← hW, ← hN1]
    have hcN : W.drew.cell? ⟨N1, 1, none⟩ = some (.slice none 0 0) := by
      show W.cell? ⟨N1, 1, none⟩ = _
      rw [cell_of_row W N1 1 _ _ _ hgN]; rfl
    have HgN := Lib.hid hgN
    have HgW := Lib.hid hgW
    have HszW := Lib.hid hszW
    have HrW : Hid (RdB W B (some ad) l) := hrW
    have HzN := Lib.hid hzN
    have hbody := RdB.part (l := l) HrW.out F n (by have := HE.out; have := HlE.out; omega)
    rw [← HM.out] at hbody
    have Hbody : Hid (RdB W B (some ad |>.map (·.add F)) M) := hbody
    clear hW hN1 hgN hgW hszW hrW hzN hbb1 Hg1 Hr1 Hzw1 hcx1 hbody
    go_region_law (first
      | (refine step_push (.tmp 56) (.tmp 63) (l := []) HMn.out (World.ownsRow_nil W.drew w.heap.size 5 1) hbW.size (Reads.drew Hbody.out) (by have := HMle.out; simp only [List.length_nil]; omega) rfl rfl rfl rfl ?_
         intro v2 w2 hown2 hb2 hbs2 hz2 hk2
         rw [List.nil_append] at hown2
         obtain ⟨A2, c2, rfl, _, _, _⟩ := own_form hown2
         have hg2 := (hk2 N1 (by have := HszW.out; simp; omega) (by simp [Value.ownBlock])).2.trans HgN.out
         have hc2 : w2.cell? ⟨N1, 1, none⟩ = some (.slice none 0 0) := by rw [cell_of_row w2 N1 1 _ _ _ hg2]; rfl
         have hf2 := frozen_of_row w2 N1 1 _ _ hg2))
    obtain ⟨W3, hW3⟩ : ∃ W3, W3 = w2.setCell ⟨N1, 1, none⟩ (.slice A2 M.length c2) := ⟨_, rfl⟩
    have hk2N := hk2 N1 (by have := HszW.out; simp; omega) (by simp [Value.ownBlock])
    have hk2R := hk2 w.heap.size (by have := HszW.out; have := HzN.out; simp; omega) (by simp [Value.ownBlock])
    have hgN3 : W3.heap[N1]? = some (.cells #[.int .u8 (x0.toNat : Int), .slice A2 M.length c2] 61 (0, 0)) := by rw [hW3]; exact heap_setCell_same w2 N1 1 _ _ _ hg2
    have hgR3 : W3.heap[w.heap.size]? = some (.cells #[.int .u8 0, .slice none 0 0] 61 (0, 0)) := by
      rw [hW3, heap_setCell_other w2 _ _ _ (by have := HzN.out; simp only; omega)]
      exact hk2R.2.trans HgW.out
    have hown3 : W3.ownsRow w.heap.size 5 1 (.slice A2 M.length c2) M.length (bs M) := by rw [hW3]; exact own_setCell hown2 hk2N.1 _
    have hbx : Below w.heap.size W W3 := by rw [hW3]; exact ((Below.refl _ W).drew.trans hb2).setCell (by have := HzN.out; simp only; omega) _
    have hb3 := hbW.trans hbx
    have hr3 := Reads.below HrW.out (hbx.mono hB)
    have hz3 : N1 < W3.heap.size := by have := hbx.size; have := HszW.out; omega
    have hapN : (Value.slice A2 M.length c2).ownBlock ≠ some N1 := hk2N.1
    have hapR : (Value.slice A2 M.length c2).ownBlock ≠ some w.heap.size := hk2R.1
    rw [← hW3]
    obtain ⟨A2', c2', e2, _, _, hrM⟩ := own_form hown3
    injection e2 with e2 _ e3
    subst e2 e3
    have HrM : Hid (RdB W3 W3.heap.size A2 M) := hrM
    have HgN3 := Lib.hid hgN3
    have HgR3 := Lib.hid hgR3
    have Hr3 : Hid (RdB W3 B (some ad) l) := hr3
    have Hown3 := Lib.hid hown3
    have Hz3 := Lib.hid hz3
    clear hW3 hk2N hk2R hgR3 hown3 hbx hr3 hz3 hrM hown2 hb2 hbs2 hz2 hk2 hg2 hc2 hf2 HgN HgW HrW Hbody hcN hwn hwE hbW
    go_wp2_with (refine wpList_load_row rfl 61 (.tmp 10) rfl N1 rfl _ _ _ _ hgN3 Try.underlying61 rfl size_fr2 ?_)
    refine (refBytes_any ⟨x0, ⟨A2, c2, M⟩⟩ W3.heap.size W3 (by have := HMle.out; simp only; omega) (Nat.le_refl _) HrM.out).mono ?_
    rintro e' w5 ⟨v5, rfl, hown5, hb5⟩
    simp only at hown5
    rw [← HT.out] at hown5
    obtain ⟨A5, c5, rfl, _, _, hr5⟩ := own_form hown5
    have hgN5 := (hb5.block N1 Hz3.out).trans HgN3.out
    have hgR5 := (hb5.block w.heap.size (by have := HzN.out; have := Hz3.out; omega)).trans HgR3.out
    have hownM := own_below Hown3.out hb5 (Nat.le_refl _)
    have hbb5 := hb3.trans (hb5.mono hb3.size)
    have hrl := Reads.below Hr3.out (hb5.mono (Nat.le_trans hB hb3.size))
    have HrT : Hid (RdB w5 w5.heap.size A5 T) := hr5
    have Hrl : Hid (RdB w5 B (some ad) l) := hrl
    have HownM := Lib.hid hownM
    have HgN5 := Lib.hid hgN5
    have HgR5 := Lib.hid hgR5
    clear hb5 hown5 hr5 hgN5 hgR5 hownM hrl HrM HgN3 HgR3 Hr3 Hown3 hgN3 hb3
    go_wp2
    go_loopw [12] (fun i wr => ∃ k m : Nat, k ≤ T.length ∧ i = .int .i64 (k : Int) ∧ wr = w5.drewN m ∧ Hid ((l.drop q).take k = T.take k)) (fun i _ => T.length - (intOf i).toNat)
    case atStart => exact ⟨0, 0, by omega, rfl, rfl, by exact rfl⟩
    case round =>
      obtain ⟨i, m, hi, rfl, rfl, hpre⟩ := hrel
      by_cases hlt : i < T.length
      · have hql := HTl.out
        have hEl4 := HlE.out
        obtain ⟨_, x, e, _, hc, hx⟩ := RdB.at_ Hrl.out (k := q + i) (by omega)
        injection e with e
        subst e
        obtain ⟨ad', y, rfl, _, hc', hy⟩ := RdB.at_ HrT.out hlt
        have hix : IntKind.i64.wrap ((q : Int) + (i : Int)) = ((q + i : Nat) : Int) := by rw [IntWalk.i64_in _ (by omega)]; omega
        have hilt : (q : Int) + (i : Int) < (l.length : Int) := by omega
        have hi0 : 0 ≤ (q : Int) + (i : Int) := by omega
        have hin : ((q : Int) + (i : Int)).toNat = q + i := by omega
        clear hql hEl4
        by_cases hxy : x = y
        · subst hxy
          go_wp2
          go_quiet (fail)
          go_wp2
          go_roundw
          case rel => exact ⟨i + 1, _, by omega, by go_num, rfl, takes_snoc hpre (drop_get hx) hy⟩
          case measure => simp [intOf]; omega
        · have hv : ((x.toNat : Int) != (y.toNat : Int)) = true := by
            rw [bne_iff_ne]
            intro e
            exact hxy (UInt8.toNat_inj.1 (by omega))
          have hv' : (x.toNat != y.toNat) = true := by
            rw [bne_iff_ne]
            intro e
            exact hxy (UInt8.toNat_inj.1 e)
          have Hv := Lib.hid (Hodd.out (frame_odd HT.out Hhead.out HqE.out hx hy hxy))
          clear hxy
          go_wp2
          go_quiet (fail)
          go_wp2_with (refine wpList_store_row rfl 61 (.tmp 4) (.tmp 85) rfl w.heap.size _ rfl rfl _ _ HgR5.out size_fr2 rfl (two_one rfl rfl) ?_)
          refine ret_cell3 rfl frTy2 w.heap.size _ _ _ (0, 0) rfl (setRow_heap _ _ _ _ _ _ HgR5.out) rfl ?_
          exact ⟨FrVal.no Hv.out, below_setRow (below_drewN hbb5 _) (Nat.le_refl _) _⟩
      · obtain rfl : i = T.length := by omega
        have Hv := Lib.hid (frame_all HMle.out HT.out hpre)
        have hqTI : (q : Int) + (T.length : Int) ≤ (l.length : Int) := by have := HTl.out; have := HlE.out; omega
        go_wp2_with (first
          | refine wpList_load_row rfl 61 (.tmp 10) rfl N1 rfl _ _ _ _ HgN5.out Try.underlying61 rfl size_fr2 ?_
          | refine wpList_store_row rfl 61 (.tmp 4) (.tmp 87) rfl w.heap.size _ rfl rfl _ _ HgR5.out size_fr2 rfl (two_one rfl rfl) ?_)
        refine ret_cell3 rfl frTy2 w.heap.size _ _ _ (0, 0) rfl (setRow_heap _ _ _ _ _ _ HgR5.out) rfl ?_
        refine ⟨?_, below_setRow (below_drewN hbb5 m) (Nat.le_refl _) _⟩
        rw [Hv.out]
        refine ⟨.slice A2 M.length c2, ?_, own_setRow (w := w5.drewN m) HownM.out hapR _⟩
        have e1 : ((q + T.length : Nat) : Int) = (q : Int) + (T.length : Int) := by omega
        rw [e1]
        rfl
  · have Hv := Lib.hid (takeF_no hq ht he)
    have heI : ((e : Int) != 0) = true := by rw [bne_iff_ne]; omega
    have heI' : (e != 0) = true := by rw [bne_iff_ne]; omega
    clear ht he
    go_enter Try.func31, Try.ntmps31
    go_wp2_with fail
    refine (refTake_any _ _ B l _ _ Hl.out HBW.out HrW.out).mono ?_
    rintro e' w' ⟨rfl, hb'⟩
    rw [Ht.out]
    have hg' := (hb'.block w.heap.size Hszw.out).trans (heap_alloc_new w _)
    have hbb := hb0.trans (hb'.mono hb0.size)
    go_wp2_with (refine wpList_store_row rfl 61 (.tmp 4) (.tmp 33) rfl w.heap.size _ rfl rfl _ _ hg' size_fr2 rfl (two_one rfl rfl) ?_)
    refine ret_cell3 rfl frTy2 w.heap.size _ _ _ (0, 0) rfl (setRow_heap _ _ _ _ _ _ hg') rfl ?_
    exact ⟨FrVal.no Hv.out, below_setRow hbb (Nat.le_refl _) _⟩
end Go.Proofs.Ytogoaihimepboaa
