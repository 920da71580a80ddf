/- The walk of varint's Take. Conditions: rows of at most 2^40 bytes. -/
import Derived.Test.YtfhcpjnjemojgaaKRefB
namespace Go.Proofs.Ytfhcpjnjemojgaa
open Go.RowKit

theorem take_ok_of {l : List UInt8} {q a b : Nat} (h : q < l.length) (h2 : tk 0 0 (l.drop q) = (a, b, 0)) : take l (q : Int) = (a, (q : Int) + (b : Int), 0) := by
  unfold take
  rw [if_pos ⟨by omega, by omega⟩, Int.toNat_natCast, h2]
  simp
theorem take_no_of {l : List UInt8} {q a b e : Nat} (h : q < l.length) (h2 : tk 0 0 (l.drop q) = (a, b, e)) (he : e ≠ 0) : take l (q : Int) = (0, (q : Int), e) := by
  unfold take
  rw [if_pos ⟨by omega, by omega⟩, Int.toNat_natCast, h2]
  simp [he]
theorem take_out {l : List UInt8} {p : Int} (h : p < 0 ∨ (l.length : Int) ≤ p) : take l p = (0, p, 10) := by
  unfold take
  rw [if_neg (by omega)]
theorem tk_bad {D : List UInt8} {k acc : Nat} {x : UInt8} (h : Hid (tk 0 0 D = tk k acc (D.drop k))) (hx : Hid (D[k]? = some x)) (hb : (0 < k ∧ x.toNat = 0) ∨ (k = 9 ∧ 1 < x.toNat)) : tk 0 0 D = (0, 0, 11) := by
  rw [h.out, drop_cons hx, tk, if_pos hb]
theorem tk_done {D : List UInt8} {k acc : Nat} {x : UInt8} (h : Hid (tk 0 0 D = tk k acc (D.drop k))) (hx : Hid (D[k]? = some x)) (hb : ¬ ((0 < k ∧ x.toNat = 0) ∨ (k = 9 ∧ 1 < x.toNat))) (hs : x.toNat < 128) : tk 0 0 D = (acc + x.toNat * 2 ^ (7 * k), k + 1, 0) := by
  rw [h.out, drop_cons hx, tk, if_neg hb, if_pos hs]
theorem tk_on {D : List UInt8} {k acc : Nat} {x : UInt8} (h : Hid (tk 0 0 D = tk k acc (D.drop k))) (hx : Hid (D[k]? = some x)) (hb : ¬ (k = 9 ∧ 1 < x.toNat)) (hs : 128 ≤ x.toNat) : Hid (tk 0 0 D = tk (k + 1) (acc + (x.toNat - 128) * 2 ^ (7 * k)) (D.drop (k + 1))) := by
  show tk 0 0 D = _
  rw [h.out, drop_cons hx, tk, if_neg (by omega), if_neg (by omega)]
theorem tk_end {D : List UInt8} {k acc : Nat} (h : Hid (tk 0 0 D = tk k acc (D.drop k))) (hk : D.length ≤ k) : tk 0 0 D = (0, 0, 10) := by
  rw [h.out, List.drop_eq_nil_of_le hk, tk]
theorem drop_get {l : List UInt8} {q k : Nat} {x : UInt8} (h : Hid (l[q + k]? = some x)) : Hid ((l.drop q)[k]? = some x) := by
  show (l.drop q)[k]? = some x
  rw [List.getElem?_drop]
  exact h.out
theorem add_zero' (a : Addr) : a.add 0 = a := by simp [Addr.add]
theorem or_add {acc c k : Nat} (hk : k ≤ 9) (ha : acc < 2 ^ (7 * k)) (hc : c * 2 ^ (7 * k) < 18446744073709551616) : bits .or .u64 (acc : Int) (IntKind.u64.wrap ((c : Int) * 2 ^ (k * 7))) = ((acc + c * 2 ^ (7 * k) : Nat) : Int) := by
  rw [Nat.mul_comm k 7]
  have e : ((c : Int) * 2 ^ (7 * k)) = ((c * 2 ^ (7 * k) : Nat) : Int) := by
    rw [Int.natCast_mul, Int.natCast_pow]; rfl
  rw [e, IntWalk.u64_in _ (by omega), u64_or_nat acc (c * 2 ^ (7 * k)) (by
    have : 2 ^ (7 * k) ≤ 2 ^ 63 := Nat.pow_le_pow_right (by omega) (by omega)
    omega) hc]
  congr 1
  rw [Nat.or_comm, Nat.mul_comm, ← Nat.two_pow_add_eq_or_of_lt ha, Nat.add_comm]
theorem or_zero {acc c : Nat} (ha : acc < 2 ^ (7 * 0)) (hc : c < 256) : bits .or .u64 (acc : Int) (c : Int) = ((acc + c * 2 ^ (7 * 0) : Nat) : Int) := by
  have h0 : acc = 0 := by simpa using ha
  subst h0
  rw [u64_or_nat 0 c (by omega) (by omega)]
  simp
theorem fits7 {x k : Nat} (hk : k ≤ 9) (hx : x < 128) (h9 : ¬ (k = 9 ∧ 1 < x)) : x * 2 ^ (7 * k) < 18446744073709551616 := by
  rcases Nat.lt_or_ge k 9 with h | h
  · have h1 : 2 ^ (7 * k) ≤ 2 ^ 56 := Nat.pow_le_pow_right (by omega) (by omega)
    have h2 : x * 2 ^ (7 * k) ≤ 127 * 2 ^ 56 := Nat.mul_le_mul (by omega) h1
    omega
  · have : k = 9 := by omega
    subst this
    omega
theorem acc_step {acc c k : Nat} (ha : acc < 2 ^ (7 * k)) (hc : c < 128) : acc + c * 2 ^ (7 * k) < 2 ^ (7 * (k + 1)) := by
  rw [pow7]
  have h2 : c * 2 ^ (7 * k) ≤ 127 * 2 ^ (7 * k) := Nat.mul_le_mul (by omega) (Nat.le_refl _)
  omega
theorem ret_take {l : List UInt8} {p : Int} {n e : Nat} {x : Int} (h : take l p = (n, x, e)) {a b d : Int} (ha : a = (n : Nat)) (hb : b = x) (hd : d = (e : Nat)) :
    Ending.returned (.tuple #[.int .u64 a, .int .i64 b, .int .i64 d]) = .returned (.tuple #[.int .u64 ((take l p).1 : Nat), .int .i64 (take l p).2.1, .int .i64 ((take l p).2.2 : Nat)]) := by
  rw [h, ha, hb, hd]

set_option maxHeartbeats 1000000 in
set_option maxRecDepth 100000 in
theorem take_any (A : Option Addr) (c B : Nat) (l : List UInt8) (p : Int) (w : World) (hl : l.length ≤ 140737488351232) (hcap : l.length ≤ c) (hr : RdB w B A l) :
    Calls Try.prog 50 #[.slice A l.length c, .int .i64 p] w fun e w' => e = .returned (.tuple #[.int .u64 ((take l p).1 : Nat), .int .i64 (take l p).2.1, .int .i64 ((take l p).2.2 : Nat)]) ∧ w = w' := by
  have hlen : (l.length : Int) ≤ 140737488351232 := by omega
  clear hl
  by_cases hneg : p < 0
  · have ht := take_out (l := l) (.inl hneg)
    have Ht := Lib.hid ht
    clear ht
    go_enter Try.func50, Try.ntmps50
    go_wp2
    go_step3
    go_wp2
    rw [Exit.noGoto_ret]
    go_ret3
    exact ⟨by rw [Ht.out]; rfl, rfl⟩
  by_cases hout : (l.length : Int) ≤ p
  · have ht := take_out (.inr hout)
    have Ht := Lib.hid ht
    clear ht
    go_enter Try.func50, Try.ntmps50
    go_wp2
    go_step3
    go_wp2
    rw [Exit.noGoto_ret]
    go_ret3
    exact ⟨by rw [Ht.out]; rfl, rfl⟩
  obtain ⟨q, rfl⟩ := Int.eq_ofNat_of_zero_le (a := p) (by omega)
  have hq : q < l.length := by omega
  clear hneg hout
  obtain ⟨ad, x0, rfl, z1, z2, z3⟩ := RdB.at_ hr hq
  clear z1 z2 z3 x0
  go_enter Try.func50, Try.ntmps50
  go_wp2
  go_step3
  go_wp2
  go_step3
  go_wp2
  go_loop [4, 5, 6, 23] (fun n nx e i => ∃ k acc : Nat, k ≤ l.length - q ∧ k ≤ 9 ∧ n = .int .u64 (acc : Int) ∧ Hid (acc < 2 ^ (7 * k)) ∧ nx = .int .i64 (q : Int) ∧ e = .int .i64 10 ∧ i = .int .i64 (k : Int) ∧ Hid (tk 0 0 (l.drop q) = tk k acc ((l.drop q).drop k))) (fun _ _ _ i => l.length - (intOf i).toNat)
  case atStart => exact ⟨0, 0, by omega, by omega, rfl, by show 0 < _; simp, rfl, rfl, rfl, by exact rfl⟩
  case round =>
    obtain ⟨k, acc, hk, hk9, rfl, hacc, rfl, rfl, rfl, ht⟩ := hrel
    by_cases hlt : k < l.length - q
    · obtain ⟨_, x, e, _, hc, hx⟩ := RdB.at_ hr (k := q + k) (by omega)
      injection e with e
      subst e
      have hx' := drop_get hx
      rw [← add_of_add ad q k] at hc
      by_cases h1 : 0 < k ∧ x.toNat = 0
      · have hv := take_no_of hq (tk_bad ht hx' (.inl h1)) (by omega)
        have Hv := Lib.hid hv
        obtain ⟨h1a, h1b⟩ := h1
        have hx0 : ((x.toNat : Int) == 0) = true := by rw [h1b]; rfl
        have hx0' : (x.toNat == 0) = true := by rw [h1b]; rfl
        clear hv h1b
        go_wp2
        go_ret3
        exact ⟨by rw [Hv.out]; rfl, rfl⟩
      by_cases h2 : k = 9 ∧ 1 < x.toNat
      · have hv := take_no_of hq (tk_bad ht hx' (.inr h2)) (by omega)
        have Hv := Lib.hid hv
        obtain ⟨h2a, h2b⟩ := h2
        have hk0 : 0 < k := by omega
        have hx0 : ((x.toNat : Int) == 0) = false := beq_eq_false_iff_ne.2 (by omega)
        have hx0' : (x.toNat == 0) = false := beq_eq_false_iff_ne.2 (by omega)
        have hk9' : ((k : Int) == 9) = true := beq_iff_eq.2 (by omega)
        have hk9'' : (k == 9) = true := beq_iff_eq.2 (by omega)
        clear hv h1 h2a
        go_wp2
        go_ret3
        exact ⟨ret_take Hv.out rfl rfl rfl, rfl⟩
      by_cases h3 : x.toNat < 128
      · have hv := take_ok_of hq (tk_done ht hx' (by omega) h3)
        have Hv := Lib.hid hv
        have hor := or_add hk9 hacc.out (c := x.toNat) (fits7 hk9 h3 h2)
        have Hor := Lib.hid hor
        have H1 := Lib.hid h1
        have H2 := Lib.hid h2
        clear hv hor h1 h2
        rcases (show k = 0 ∨ (0 < k ∧ k ≠ 9) ∨ k = 9 from by omega) with hk0 | ⟨hk0, hkn⟩ | hk0
        · subst hk0
          have hor0 := or_zero hacc.out (c := x.toNat) (by omega)
          have Hor0 := Lib.hid hor0
          clear hor0
          rw [add_zero'] at hc
          go_wp2
          go_ret3
          exact ⟨ret_take Hv.out Hor0.out (by omega) rfl, rfl⟩
        · have hx0 : ((x.toNat : Int) == 0) = false := beq_eq_false_iff_ne.2 (by have := H1.out; omega)
          have hx0' : (x.toNat == 0) = false := beq_eq_false_iff_ne.2 (by have := H1.out; omega)
          have hk9' : ((k : Int) == 9) = false := beq_eq_false_iff_ne.2 (by omega)
          have hk9'' : (k == 9) = false := beq_eq_false_iff_ne.2 (by omega)
          clear hkn
          go_wp2
          go_ret3
          exact ⟨ret_take Hv.out Hor.out (by omega) rfl, rfl⟩
        · have hk0' : 0 < k := by omega
          have hx0 : ((x.toNat : Int) == 0) = false := beq_eq_false_iff_ne.2 (by have := H1.out; omega)
          have hx0' : (x.toNat == 0) = false := beq_eq_false_iff_ne.2 (by have := H1.out; omega)
          have hk9' : ((k : Int) == 9) = true := beq_iff_eq.2 (by omega)
          have hk9'' : (k == 9) = true := beq_iff_eq.2 (by omega)
          have hx1 : x.toNat ≤ 1 := by have := H2.out; omega
          clear hk0
          go_wp2
          go_ret3
          exact ⟨ret_take Hv.out Hor.out (by omega) rfl, rfl⟩
      · have hx8 : 128 ≤ x.toNat := by omega
        have hk8 : k ≤ 8 := by omega
        have hor := or_add hk9 hacc.out (c := x.toNat - 128) (fits7 hk9 (by have := x.toNat_lt; omega) (by omega))
        have hst := acc_step hacc.out (c := x.toNat - 128) (by have := x.toNat_lt; omega)
        have Hst := Lib.hid hst
        have Hor := Lib.hid hor
        have Hon := Lib.hid (tk_on ht hx' h2 hx8).out
        have hxu : x.toNat < 256 := x.toNat_lt
        have hsub : ((x.toNat : Int) - 128) = ((x.toNat - 128 : Nat) : Int) := by omega
        have Hsub := Lib.hid hsub
        clear hsub
        have hx0 : ((x.toNat : Int) == 0) = false := beq_eq_false_iff_ne.2 (by omega)
        have hx0' : (x.toNat == 0) = false := beq_eq_false_iff_ne.2 (by omega)
        have hk9' : ((k : Int) == 9) = false := beq_eq_false_iff_ne.2 (by omega)
        have hk9'' : (k == 9) = false := beq_eq_false_iff_ne.2 (by omega)
        clear hor hst h1 h2 h3
        rcases Nat.eq_zero_or_pos k with hk0 | hk0
        · subst hk0
          rw [add_zero'] at hc
          go_wp2
          go_round
          case rel => exact ⟨_, acc + (x.toNat - 128) * 2 ^ (7 * _), by omega, by omega, by rw [Hsub.out, or_zero hacc.out (by omega)], Hst.out, rfl, rfl, by go_num, Hon.out⟩
          case measure => simp [intOf]; omega
        · go_wp2
          go_round
          case rel => exact ⟨_, acc + (x.toNat - 128) * 2 ^ (7 * _), by omega, by omega, by rw [Hsub.out, Hor.out], Hst.out, rfl, rfl, by go_num, Hon.out⟩
          case measure => simp [intOf]; omega
    · obtain rfl : k = l.length - q := by omega
      have hv := take_no_of hq (tk_end ht (by rw [List.length_drop]; omega)) (by omega)
      have Hv := Lib.hid hv
      clear hv
      go_wp2
      go_ret3
      exact ⟨by rw [Hv.out]; rfl, rfl⟩
end Go.Proofs.Ytfhcpjnjemojgaa
