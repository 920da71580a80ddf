/- The walk of same: are two files the same? Conditions: files of at most 1000 parts of 100000 bytes. -/
import Derived.Test.YtnlcohijopokjaaExO
namespace Go.Proofs.Ytnlcohijopokjaa
open Go.RowKit

theorem quiet_same {A A' : Option Addr} {c c' B B' nl nm q x : Nat} {l m : List UInt8} {w : World} {v : Value} (hnl : l.length = nl) (hnm : m.length = nm) (hl : nl ≤ 100000) (hr : RdB w B A l) (hm : RdB w B' A' m) (hv : v = .bool (decide (l = m))) :
    Calls Try.prog 23 #[.slice A nl c, .slice A' nm c'] (w.drewN (q + x)) fun e w'' => e = .returned v ∧ ∃ n, w'' = w.drewN (q + n) := by
  subst hnl hnm hv
  refine (sameBytes_any A A' c c' B B' l m (w.drewN (q + x)) (by omega) hr hm).mono ?_
  rintro e w' ⟨rfl, z, rfl⟩
  exact ⟨rfl, x + z, by rw [World.drewN_drewN, Nat.add_assoc]⟩
set_option maxHeartbeats 2000000 in
set_option maxRecDepth 100000 in
theorem lsame_any {X Y : Nat → Prop} {A A' : Option Addr} {c c' : Nat} {ps qs : List Pa} {w : World} (hs : SmM (says ps)) (hs' : SmM (says qs)) (hr : PsX w X A ps) (hr' : PsX w Y A' qs) :
    Calls Try.prog 30 #[.agg #[.slice A ps.length c], .agg #[.slice A' qs.length c']] w fun e w' => e = .returned (.bool (decide (says ps = says qs))) ∧ Below w.heap.size w w' := by
  obtain ⟨n, hn⟩ : ∃ n, Hid (ps.length = n) := ⟨_, rfl⟩
  obtain ⟨n', hn'⟩ : ∃ n, Hid (qs.length = n) := ⟨_, rfl⟩
  have hlen : (n : Int) ≤ 1000 := by have := hs.n; rw [says_len, hn.out] at this; omega
  have hlen' : (n' : Int) ≤ 1000 := by have := hs'.n; rw [says_len, hn'.out] at this; omega
  obtain ⟨ga, h0⟩ : ∃ g, Hid (w.heap.size = g) := ⟨_, rfl⟩
  obtain ⟨gb, h1⟩ : ∃ g, Hid (w.heap.size + 1 = g) := ⟨_, rfl⟩
  obtain ⟨W, hW⟩ : ∃ W, Hid ((w.alloc (.cells #[.slice A n c] 34)).alloc (.cells #[.slice A' n' c'] 34) = W) := ⟨_, rfl⟩
  have hbW : Hid (Below w.heap.size w W) := by rw [← hW.out]; exact (below_new _ _).alloc (by simp) _
  have fa : Hid (W.heap[ga]? = some (.cells #[.slice A n c] 34 (0, 0))) := by
    rw [← hW.out, ← h0.out]; show _ = _
    rw [heap_alloc_old _ _ (by simp)]
    exact heap_alloc_new _ _
  have fb : Hid (W.heap[gb]? = some (.cells #[.slice A' n' c'] 34 (0, 0))) := by
    rw [← hW.out, ← h1.out]; show _ = _
    have := heap_alloc_new (w.alloc (.cells #[.slice A n c] 34)) (.cells #[.slice A' n' c'] 34)
    simpa using this
  have hrW := Lib.hid (hr.below hbW.out)
  have hrW' := Lib.hid (hr'.below hbW.out)
  have Hs := Lib.hid hs
  have Hs' := Lib.hid hs'
  have ca := box_cell fa.out
  have cb := box_cell fb.out
  rw [hn.out, hn'.out]
  clear hs hs' hr hr'
  by_cases hnn : n = n'
  · subst hnn
    have hne : ((n : Int) != (n : Int)) = false := by simp
    go_enter Try.func30, Try.ntmps30
    go_upto_region 1 with fail
    rw [hW.out, h1.out, h0.out]
    go_wp2
    go_loopw [5] (fun i wr => ∃ k q : Nat, k ≤ n ∧ i = .int .i64 (k : Int) ∧ wr = W.drewN q ∧ Hid ((says ps).take k = (says qs).take k)) (fun i _ => n - (intOf i).toNat)
    case atStart => exact ⟨0, 0, by omega, rfl, rfl, by exact rfl⟩
    case round =>
      obtain ⟨k, q, hk, rfl, rfl, ht⟩ := hrel
      by_cases hlt : k < n
      · obtain ⟨ad, p, rfl, _, _, hc1, hc2, hx, hrow⟩ := hrW.out.at_ (k := k) (by rw [hn.out]; exact hlt)
        obtain ⟨ad', p', rfl, _, _, hc1', hc2', hx', hrow'⟩ := hrW'.out.at_ (k := k) (by rw [hn'.out]; exact hlt)
        have Hl := Lib.hid (Hs.out.at_ hx)
        have Hl' := Lib.hid (Hs'.out.at_ hx')
        have hll : (p.r.l.length : Int) ≤ 100000 := by have := Hl.out; omega
        have hgx := Lib.hid (says_get hx)
        have hgx' := Lib.hid (says_get hx')
        obtain ⟨⟨pA, pc, pl⟩, pd⟩ := p
        obtain ⟨⟨pA', pc', pl'⟩, pd'⟩ := p'
        simp only at hc1 hc2 hc1' hc2' hrow hrow' Hl Hl' hll
        have Hrow := Lib.hid hrow.reads
        have Hrow' := Lib.hid hrow'.reads
        obtain ⟨nl, hnl⟩ : ∃ n, Hid (pl.length = n) := ⟨_, rfl⟩
        obtain ⟨nl', hnl'⟩ : ∃ n, Hid (pl'.length = n) := ⟨_, rfl⟩
        rw [hnl.out] at hc1 Hl hll
        rw [hnl'.out] at hc1' Hl'
        have hkI : (k : Int) < (n : Int) := by omega
        by_cases hdd : pd = pd'
        · subst hdd
          have hdb : (pd != pd) = false := by simp
          by_cases hll2 : pl = pl'
          · have hstep : Hid ((says ps).take (k + 1) = (says qs).take (k + 1)) := by
              show _ = _
              rw [take_snoc hgx.out, take_snoc hgx'.out, ht.out, hll2]
            have hdec := Lib.hid (decide_eq_true hll2)
            clear hll2 hrow hrow' hx hx'
            go_wp2_with fail
            go_quiet ((go_at_call 23; exact quiet_same (v := .bool true) hnl.out hnl'.out Hl.out Hrow.out Hrow'.out (by rw [hdec.out])))
            go_wp2
            go_roundw
            case rel => exact ⟨k + 1, _, by omega, by go_num, rfl, hstep⟩
            case measure => simp [intOf]; omega
          · have hdec := Lib.hid (decide_eq_false hll2)
            have hfin : Hid (decide (says ps = says qs) = false) := by
              show _ = _
              rw [decide_eq_false_iff_not]
              intro e
              have h1 := hgx.out.out
              rw [e, hgx'.out.out] at h1
              injection h1 with h1
              exact hll2 (congrArg Prod.fst h1).symm
            clear hll2 hrow hrow' hx hx'
            go_wp2_with fail
            go_quiet ((go_at_call 23; exact quiet_same (v := .bool false) hnl.out hnl'.out Hl.out Hrow.out Hrow'.out (by rw [hdec.out])))
            go_wp2
            go_ret
            exact ⟨ret_bool hfin.out.symm, below_drewN (below_drewN hbW.out _) _⟩
        · have hfin : Hid (decide (says ps = says qs) = false) := by
            show _ = _
            rw [decide_eq_false_iff_not]
            intro e
            have h1 := hgx.out.out
            rw [e, hgx'.out.out] at h1
            injection h1 with h1
            exact hdd (congrArg Prod.snd h1).symm
          clear hrow hrow' hx hx' hgx hgx'
          cases pd <;> cases pd' <;> first | exact absurd rfl hdd | skip
          all_goals
            clear hdd
            go_wp2_with fail
            go_quiet (fail)
            go_wp2
            go_ret
            exact ⟨ret_bool hfin.out.symm, below_drewN (below_drewN hbW.out _) _⟩
      · obtain rfl : k = n := by omega
        have hfin : Hid (decide (says ps = says qs) = true) := by
          show _ = _
          rw [decide_eq_true_iff]
          have h1 := ht.out
          rw [List.take_of_length_le (by rw [says_len, hn.out]; exact Nat.le_refl _), List.take_of_length_le (by rw [says_len, hn'.out]; exact Nat.le_refl _)] at h1
          exact h1
        go_wp2
        go_ret
        exact ⟨ret_bool hfin.out.symm, below_drewN hbW.out _⟩
  · have hne : ((n : Int) != (n' : Int)) = true := by rw [bne_iff_ne]; omega
    have hne' : (n != n') = true := by rw [bne_iff_ne]; exact hnn
    have hfin : Hid (decide (says ps = says qs) = false) := by
      show _ = _
      rw [decide_eq_false_iff_not]
      intro e
      have h1 := congrArg List.length e
      rw [says_len, says_len, hn.out, hn'.out] at h1
      exact hnn h1
    clear hnn
    go_enter Try.func30, Try.ntmps30
    go_upto_region 1 with fail
    rw [hW.out, h1.out, h0.out]
    go_wp2
    go_ret
    exact ⟨ret_bool hfin.out.symm, hbW.out⟩
end Go.Proofs.Ytnlcohijopokjaa
