/- The walks of the document's own Take, TakeText, TakeAll. Conditions: rows of at most 2^40 bytes. -/
import Derived.Test.YtfhcpjnjemojgaaKTakeB
namespace Go.Proofs.Ytfhcpjnjemojgaa
open Go.RowKit

/-- What the groups ahead say of how a number is written. -/
def Ahead (D : List UInt8) (k acc : Nat) : Prop := acc < 2 ^ (7 * k) ∧ ∀ m, (0 < k → 0 < m) → enc (acc + m * 2 ^ (7 * k)) = D.take k ++ enc m
theorem ahead_zero (D : List UInt8) : Ahead D 0 0 := ⟨by simp, fun m _ => by simp⟩
theorem ahead_on {D : List UInt8} {k acc : Nat} {x : UInt8} (h : Ahead D k acc) (hx : Hid (D[k]? = some x)) (hs : 128 ≤ x.toNat) : Ahead D (k + 1) (acc + (x.toNat - 128) * 2 ^ (7 * k)) := by
  have hu := x.toNat_lt
  refine ⟨acc_step h.1 (by omega), fun m hm => ?_⟩
  have hm0 := hm (by omega)
  have h1 := h.2 (x.toNat - 128 + m * 128) (by omega)
  rw [pow7, Nat.add_assoc, ← Nat.mul_assoc, ← Nat.add_mul, h1, enc_big (by omega), take_snoc hx, List.append_assoc]
  rw [show (x.toNat - 128 + m * 128) / 128 = m from by omega, show (x.toNat - 128 + m * 128) % 128 + 128 = x.toNat from by omega]
  simp
theorem ahead_done {D : List UInt8} {k acc : Nat} {x : UInt8} (h : Ahead D k acc) (hx : Hid (D[k]? = some x)) (hs : x.toNat < 128) (h0 : ¬ (0 < k ∧ x.toNat = 0)) : enc (acc + x.toNat * 2 ^ (7 * k)) = D.take (k + 1) := by
  rw [h.2 x.toNat (by omega), enc_small hs, take_snoc hx]
  simp
theorem ahead_less {D : List UInt8} {k acc : Nat} (h : Ahead D k acc) (hk : 0 < k) : sz acc ≤ k := by
  obtain ⟨j, rfl⟩ : ∃ j, k = j + 1 := ⟨k - 1, by omega⟩
  refine sz_le j acc ?_
  have := h.1
  rw [Nat.pow_mul] at this
  exact this

theorem sum_fits {acc c k : Nat} (hk : k ≤ 9) (ha : acc < 2 ^ (7 * k)) (hc : c < 128) (h9 : ¬ (k = 9 ∧ 1 < c)) : acc + c * 2 ^ (7 * k) < 18446744073709551616 := by
  rcases Nat.lt_or_ge k 9 with h | h
  · have h1 : 2 ^ (7 * (k + 1)) ≤ 2 ^ 63 := Nat.pow_le_pow_right (by omega) (by omega)
    have h2 := acc_step ha hc
    omega
  · have : k = 9 := by omega
    subst this
    omega
theorem addw {acc c k : Nat} (hk : k ≤ 9) (ha : acc < 2 ^ (7 * k)) (hc : c < 128) (h9 : ¬ (k = 9 ∧ 1 < c)) {y : Int} (hy : y = (c : Int)) :
    IntKind.u64.wrap ((acc : Int) + IntKind.u64.wrap (y * IntKind.u64.wrap (2 ^ (7 * k)))) = ((acc + c * 2 ^ (7 * k) : Nat) : Int) := by
  subst hy
  have h1 := sum_fits hk ha hc h9
  have h2 : 2 ^ (7 * k) ≤ 2 ^ 63 := Nat.pow_le_pow_right (by omega) (by omega)
  have e : ((2 : Int) ^ (7 * k)) = ((2 ^ (7 * k) : Nat) : Int) := by rw [Int.natCast_pow]; rfl
  rw [e, IntWalk.u64_in ((2 ^ (7 * k) : Nat) : Int) (by omega), ← Int.natCast_mul, IntWalk.u64_in ((c * 2 ^ (7 * k) : Nat) : Int) (by omega), IntWalk.u64_in _ (by omega)]
  omega

set_option maxHeartbeats 1000000 in
set_option maxRecDepth 100000 in
theorem refTake_any (A : Option Addr) (c B : Nat) (l : List UInt8) (p : Int) (w : World) (hl : l.length ≤ 140737488351232) (hB : B ≤ w.heap.size) (hr : RdB w B A l) :
    Calls Try.prog 39 #[.slice A l.length c, .int .i64 p] w fun e w' => e = .returned (.tuple #[.int .u64 ((take l p).1 : Nat), .int .i64 (take l p).2.1, .int .i64 ((take l p).2.2 : Nat)]) ∧ Below w.heap.size w w' := by
  have hlen : (l.length : Int) ≤ 140737488351232 := by omega
  have Hl := Lib.hid hl
  clear hl
  by_cases hneg : p < 0
  · have ht := take_out (l := l) (.inl hneg)
    have Ht := Lib.hid ht
    clear ht
    go_enter Try.func39, Try.ntmps39
    go_wp2
    go_ret3
    exact ⟨ret_take Ht.out rfl rfl rfl, .refl _ _⟩
  by_cases hout : (l.length : Int) ≤ p
  · have ht := take_out (.inr hout)
    have Ht := Lib.hid ht
    clear ht
    go_enter Try.func39, Try.ntmps39
    go_wp2
    go_ret3
    exact ⟨ret_take Ht.out rfl rfl rfl, .refl _ _⟩
  obtain ⟨q, rfl⟩ := Int.eq_ofNat_of_zero_le (a := p) (by omega)
  have hq : q < l.length := by omega
  clear hneg hout
  obtain ⟨ad, x0, rfl, z1, z2, z3⟩ := RdB.at_ hr hq
  clear z1 z2 z3 x0
  go_enter Try.func39, Try.ntmps39
  go_wp2
  go_loopw [7, 8] (fun n i wr => ∃ k acc : Nat, k ≤ 9 ∧ n = .int .u64 (acc : Int) ∧ i = .int .i64 (k : Int) ∧ Hid (Ahead (l.drop q) k acc) ∧ Hid (tk 0 0 (l.drop q) = tk k acc ((l.drop q).drop k)) ∧ Below w.heap.size w wr) (fun _ i _ => 10 - (intOf i).toNat)
  case atStart => exact ⟨0, 0, by omega, rfl, rfl, ahead_zero _, by exact rfl, .refl _ _⟩
  case round =>
    obtain ⟨k, acc, hk9, rfl, rfl, hah, ht, hb⟩ := hrel
    by_cases hlt : q + k < l.length
    · obtain ⟨_, x, e, _, hc, hx⟩ := RdB.at_ (hr.below (hb.mono hB)) (k := q + k) (by omega)
      injection e with e
      subst e
      have hx' := drop_get hx
      by_cases h2 : k = 9 ∧ 1 < x.toNat
      · have hv := take_no_of hq (tk_bad ht hx' (.inr h2)) (by omega)
        have Hv := Lib.hid hv
        obtain ⟨h2a, h2b⟩ := h2
        have hk9' : ((k : Int) == 9) = true := beq_iff_eq.2 (by omega)
        have hk9'' : (k == 9) = true := beq_iff_eq.2 (by omega)
        have hxu : x.toNat < 256 := x.toNat_lt
        clear hv h2a
        go_wp2
        go_ret3
        exact ⟨ret_take Hv.out rfl rfl rfl, hb⟩
      by_cases h3 : x.toNat < 128
      · have hw := addw hk9 hah.out.1 h3 h2 (y := (x.toNat : Int) % 128) (by omega)
        have hN64 := sum_fits hk9 hah.out.1 h3 h2
        have hdone := fun h0 => ahead_done hah.out hx' h3 h0
        have htd := fun h0 => take_ok_of hq (tk_done ht hx' h0 h3)
        obtain ⟨N, hN⟩ : ∃ N, N = acc + x.toNat * 2 ^ (7 * k) := ⟨_, rfl⟩
        rw [← hN] at hw hN64 hdone htd
        have hN10 := sz_10 hN64
        have hN1 := sz_pos N
        have hDk : k < (l.drop q).length := by rw [List.length_drop]; omega
        by_cases h0 : 0 < k ∧ x.toNat = 0
        · have hv := take_no_of hq (tk_bad ht hx' (.inl h0)) (by omega)
          have hNa : N = acc := by rw [hN, h0.2]; simp
          have hle := ahead_less hah.out h0.1
          rw [← hNa] at hle
          have Hv := Lib.hid hv
          have hcmp : (((k : Int) + 1) != ((enc N).length : Int)) = true := by rw [bne_iff_ne]; unfold sz at hle; omega
          have hcmp' : ((k + 1) != (enc N).length) = true := by rw [bne_iff_ne]; unfold sz at hle; omega
          have HN64 := Lib.hid hN64
          have hq40 : q ≤ 140737488351232 := by have := Hl.out; omega
          have Hq40 := Lib.hid hq40
          have hx1 : x.toNat ≤ 1 := by omega
          unfold sz at hN10 hN1
          clear hv hdone htd hN hq40 hN64 hDk hle h2 h0 hNa
          generalize hs : standsAt l q (enc N) = S
          have Hst := Lib.hid hs
          clear hs
          rcases (show k ≠ 9 ∨ k = 9 from by omega) with hkn | hk9e
          · have hk9' : ((k : Int) == 9) = false := beq_eq_false_iff_ne.2 (by omega)
            have hk9'' : (k == 9) = false := beq_eq_false_iff_ne.2 (by omega)
            clear hkn
            cases S
            · go_wp2_with (first
                | (go_at_call 28; refine (refPut_any _ _ HN64.out).mono ?_; rintro e w1 ⟨v1, rfl, hown1, hb1⟩; obtain ⟨A1, c1, rfl, _, _, hr1⟩ := own_form hown1)
                | (go_at_call 46; refine (refSame_any _ _ _ _ B _ q l (enc N) _ Hl.out Hq40.out (by omega) (by omega) (hr.below ((hb.mono hB).trans (hb1.mono (Nat.le_trans hB hb.size)))) hr1).mono ?_; rintro e w2 ⟨rfl, n2, rfl⟩; rw [Hst.out]; have hb12 := below_drewN (hb.trans (hb1.mono hb.size)) n2; clear hown1 hr1 hb1))
              go_ret3
              exact ⟨ret_take Hv.out rfl rfl rfl, hb12⟩
            · go_wp2_with (first
                | (go_at_call 28; refine (refPut_any _ _ HN64.out).mono ?_; rintro e w1 ⟨v1, rfl, hown1, hb1⟩; obtain ⟨A1, c1, rfl, _, _, hr1⟩ := own_form hown1)
                | (go_at_call 46; refine (refSame_any _ _ _ _ B _ q l (enc N) _ Hl.out Hq40.out (by omega) (by omega) (hr.below ((hb.mono hB).trans (hb1.mono (Nat.le_trans hB hb.size)))) hr1).mono ?_; rintro e w2 ⟨rfl, n2, rfl⟩; rw [Hst.out]; have hb12 := below_drewN (hb.trans (hb1.mono hb.size)) n2; clear hown1 hr1 hb1))
              go_ret3
              exact ⟨ret_take Hv.out rfl rfl rfl, hb12.trans (hb1.mono hb12.size)⟩
          · have hk9' : ((k : Int) == 9) = true := beq_iff_eq.2 (by omega)
            have hk9'' : (k == 9) = true := beq_iff_eq.2 (by omega)
            clear hk9e
            cases S
            · go_wp2_with (first
                | (go_at_call 28; refine (refPut_any _ _ HN64.out).mono ?_; rintro e w1 ⟨v1, rfl, hown1, hb1⟩; obtain ⟨A1, c1, rfl, _, _, hr1⟩ := own_form hown1)
                | (go_at_call 46; refine (refSame_any _ _ _ _ B _ q l (enc N) _ Hl.out Hq40.out (by omega) (by omega) (hr.below ((hb.mono hB).trans (hb1.mono (Nat.le_trans hB hb.size)))) hr1).mono ?_; rintro e w2 ⟨rfl, n2, rfl⟩; rw [Hst.out]; have hb12 := below_drewN (hb.trans (hb1.mono hb.size)) n2; clear hown1 hr1 hb1))
              go_ret3
              exact ⟨ret_take Hv.out rfl rfl rfl, hb12⟩
            · go_wp2_with (first
                | (go_at_call 28; refine (refPut_any _ _ HN64.out).mono ?_; rintro e w1 ⟨v1, rfl, hown1, hb1⟩; obtain ⟨A1, c1, rfl, _, _, hr1⟩ := own_form hown1)
                | (go_at_call 46; refine (refSame_any _ _ _ _ B _ q l (enc N) _ Hl.out Hq40.out (by omega) (by omega) (hr.below ((hb.mono hB).trans (hb1.mono (Nat.le_trans hB hb.size)))) hr1).mono ?_; rintro e w2 ⟨rfl, n2, rfl⟩; rw [Hst.out]; have hb12 := below_drewN (hb.trans (hb1.mono hb.size)) n2; clear hown1 hr1 hb1))
              go_ret3
              exact ⟨ret_take Hv.out rfl rfl rfl, hb12.trans (hb1.mono hb12.size)⟩
        · have hv := htd (by omega)
          have hd := hdone h0
          have hszk : sz N = k + 1 := by
            show (enc N).length = k + 1
            rw [hd, List.length_take]
            omega
          have hst : standsAt l q (enc N) = true := by
            unfold standsAt
            rw [decide_eq_true_iff]
            have : (enc N).length = k + 1 := hszk
            rw [this, hd]
          have Hv := Lib.hid hv
          have Hst := Lib.hid hst
          have Hszk := Lib.hid hszk
          have hcmp : (((k : Int) + 1) != ((enc N).length : Int)) = false := by rw [bne_eq_false_iff_eq]; unfold sz at hszk; omega
          have hcmp' : ((k + 1) != (enc N).length) = false := by rw [bne_eq_false_iff_eq]; unfold sz at hszk; omega
          have HN64 := Lib.hid hN64
          have hq40 : q ≤ 140737488351232 := by have := Hl.out; omega
          have Hq40 := Lib.hid hq40
          unfold sz at hN10 hN1
          clear hv hst hszk hd hdone htd hN hq40 hN64 hDk
          have H2 := Lib.hid h2
          clear h2 h0
          rcases (show k ≠ 9 ∨ k = 9 from by omega) with hkn | hk9e
          · have hk9' : ((k : Int) == 9) = false := beq_eq_false_iff_ne.2 (by omega)
            have hk9'' : (k == 9) = false := beq_eq_false_iff_ne.2 (by omega)
            clear hkn
            go_wp2_with (first
              | (go_at_call 28; refine (refPut_any _ _ HN64.out).mono ?_; rintro e w1 ⟨v1, rfl, hown1, hb1⟩; obtain ⟨A1, c1, rfl, _, _, hr1⟩ := own_form hown1)
              | (go_at_call 46; refine (refSame_any _ _ _ _ B _ q l (enc N) _ Hl.out Hq40.out (by omega) (by omega) (hr.below ((hb.mono hB).trans (hb1.mono (Nat.le_trans hB hb.size)))) hr1).mono ?_; rintro e w2 ⟨rfl, n2, rfl⟩; rw [Hst.out]; have hb12 := below_drewN (hb.trans (hb1.mono hb.size)) n2; clear hown1 hr1 hb1))
            go_ret3
            exact ⟨ret_take Hv.out rfl rfl rfl, hb12.trans (hb1.mono hb12.size)⟩
          · have hk9' : ((k : Int) == 9) = true := beq_iff_eq.2 (by omega)
            have hk9'' : (k == 9) = true := beq_iff_eq.2 (by omega)
            have hx1 : x.toNat ≤ 1 := by have := H2.out; omega
            clear hk9e
            go_wp2_with (first
              | (go_at_call 28; refine (refPut_any _ _ HN64.out).mono ?_; rintro e w1 ⟨v1, rfl, hown1, hb1⟩; obtain ⟨A1, c1, rfl, _, _, hr1⟩ := own_form hown1)
              | (go_at_call 46; refine (refSame_any _ _ _ _ B _ q l (enc N) _ Hl.out Hq40.out (by omega) (by omega) (hr.below ((hb.mono hB).trans (hb1.mono (Nat.le_trans hB hb.size)))) hr1).mono ?_; rintro e w2 ⟨rfl, n2, rfl⟩; rw [Hst.out]; have hb12 := below_drewN (hb.trans (hb1.mono hb.size)) n2; clear hown1 hr1 hb1))
            go_ret3
            exact ⟨ret_take Hv.out rfl (by omega) rfl, hb12.trans (hb1.mono hb12.size)⟩
      · have hx8 : 128 ≤ x.toNat := by omega
        have hk8 : k ≤ 8 := by omega
        have hxu : x.toNat < 256 := x.toNat_lt
        have hk9' : ((k : Int) == 9) = false := beq_eq_false_iff_ne.2 (by omega)
        have hk9'' : (k == 9) = false := beq_eq_false_iff_ne.2 (by omega)
        have Hon := Lib.hid (tk_on ht hx' h2 hx8).out
        have Hah := Lib.hid (ahead_on hah.out hx' hx8)
        clear h2 h3
        have hw := addw hk9 hah.out.1 (c := x.toNat - 128) (by omega) (by omega) (y := (x.toNat : Int) % 128) (by omega)
        have Hw := Lib.hid hw
        clear hw
        go_wp2
        go_roundw
        case rel => exact ⟨k + 1, _, by omega, by rw [Hw.out], by go_num, Hah.out, Hon.out, hb⟩
        case measure => simp [intOf]; omega
    · have hv := take_no_of hq (tk_end ht (by rw [List.length_drop]; omega)) (by omega)
      have Hv := Lib.hid hv
      clear hv
      go_wp2
      go_ret3
      exact ⟨ret_take Hv.out rfl rfl rfl, hb⟩
end Go.Proofs.Ytfhcpjnjemojgaa
