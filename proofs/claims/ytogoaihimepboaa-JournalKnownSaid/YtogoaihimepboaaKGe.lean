/- The walks of the document's own writers of numbers and texts. Conditions: numbers below 2^64, rows of at most 2^40 bytes. -/
/- The walks of the document's own rows of numbers, texts, and of its look at a place. Conditions: numbers below 2^64, at most 2^36 of them; rows of at most 2^40 bytes. -/
/- The walk of varint's Take. Conditions: rows of at most 2^40 bytes. -/
/- The walks of varint's TakeText and TakeAll. Conditions: rows of at most 2^40 bytes. -/
/- The walks of the document's own Take, TakeText, TakeAll. Conditions: rows of at most 2^40 bytes. -/
import Derived.Test.YtogoaihimepboaaKGb
import Derived.Test.YtogoaihimepboaaKGa

namespace Go.Proofs.Ytogoaihimepboaa
open Go.RowKit

theorem sz_one {n : Nat} (h : sz n = 1) : n < 128 := by
  rcases Nat.lt_or_ge n 128 with h1 | h1
  · exact h1
  · have := sz_big h1; have := sz_pos (n / 128); omega

set_option maxHeartbeats 400000 in
theorem groups_any (n : Nat) (w : World) (hn : n < 18446744073709551616) :
    Calls Try.prog 57 #[.int .u64 (n : Int)] w fun e w' => e = .returned (.int .i64 ((sz n : Nat) : Int)) ∧ w = w' := by
  have hs := sz_10 hn
  have Hn := Lib.hid hn
  clear hn
  go_enter Try.func57, Try.ntmps57
  go_wp2
  go_loop [0, 3] (fun x y => ∃ m k : Nat, x = .int .u64 (m : Int) ∧ (m : Int) ≤ 18446744073709551615 ∧ y = .int .i64 (k : Int) ∧ k ≤ 10 ∧ Hid (k + sz m = sz n + 1)) (fun x _ => (intOf x).toNat)
  case atStart => exact ⟨n, 1, rfl, by have := Hn.out; omega, rfl, by omega, by show 1 + sz n = sz n + 1; omega⟩
  case round =>
    obtain ⟨m, k, rfl, hm, rfl, hk, he⟩ := hrel
    by_cases hbig : 128 ≤ m
    · have hgt : 0 < (m : Int) / 128 := by omega
      go_wp2
      go_round
      case rel => exact ⟨m / 128, k + 1, by go_num, by omega, by go_num, by have := he.out; have := sz_big hbig; have := sz_pos (m / 128); omega, by have := he.out; have := sz_big hbig; show k + 1 + sz (m / 128) = sz n + 1; omega⟩
      case measure => simp [intOf]; omega
    · have hgt : ¬ 0 < (m : Int) / 128 := by omega
      have hk1 : (k : Int) = (sz n : Nat) := by have := he.out; have := sz_small (n := m) (by omega); omega
      have Hk := Lib.hid hk1
      clear hk1
      go_wp2
      go_ret
      exact ⟨ret_int Hk.out, rfl⟩

theorem put_byte_hi (m : Nat) : ((m : Int) % 128 + 128) = (((UInt8.ofNat (m % 128 + 128)).toNat : Nat) : Int) := by rw [ofNat_toNat (by omega)]; omega
theorem put_byte_lo {m : Nat} (h : m < 128) : ((m : Int) % 128) = (((UInt8.ofNat m).toNat : Nat) : Int) := by rw [ofNat_toNat (by omega)]; omega

set_option maxHeartbeats 1000000 in
set_option maxRecDepth 100000 in
theorem refPut_any (n : Nat) (w : World) (hn : n < 18446744073709551616) :
    Calls Try.prog 51 #[.int .u64 (n : Int)] w fun e w' => ∃ v, e = .returned v ∧ w'.ownsRow w.heap.size 5 1 v (enc n).length (bs (enc n)) ∧ Below w.heap.size w w' := by
  have hs := sz_10 hn
  have hs0 := sz_pos n
  have Hn := Lib.hid hn
  clear hn
  generalize hK : sz n = K at hs hs0
  have HK := Lib.hid hK
  clear hK
  go_enter Try.func51, Try.ntmps51
  go_wp2_with (go_at_call 57; refine (groups_any _ _ Hn.out).mono ?_; rintro e w' ⟨rfl, rfl⟩; rw [HK.out])
  go_loopw [0, 3, 5] (fun x v i wr => ∃ (m j : Nat) (pre : List UInt8), x = .int .u64 (m : Int) ∧ (m : Int) ≤ 18446744073709551615 ∧ i = .int .i64 (j : Int) ∧ j ≤ K ∧ Hid (pre.length = j ∧ (j < K → pre ++ enc m = enc n) ∧ (j = K → pre = enc n)) ∧ wr.ownsRow w.heap.size 5 1 v pre.length (bs pre) ∧ Below w.heap.size w wr) (fun _ _ i _ => K - (intOf i).toNat)
  case atStart => exact ⟨n, 0, [], rfl, by have := Hn.out; omega, rfl, by omega, ⟨rfl, fun _ => rfl, fun h => by omega⟩, World.ownsRow_nil _ _ _ _, .refl _ _⟩
  case round =>
    obtain ⟨m, j, pre, rfl, hm, rfl, hj, he, hown, hb⟩ := hrel
    have hpl : pre.length ≤ 140737488355327 := by have := he.out.1; omega
    have Hpl := Lib.hid hpl
    clear hpl
    by_cases hlt : j < K
    · have hsm : j + sz m = K := by
        have h1 := congrArg List.length (he.out.2.1 hlt)
        rw [List.length_append, he.out.1] at h1
        rw [← HK.out]
        exact h1
      by_cases hlast : j + 1 < K
      · have hbig : 128 ≤ m := by
          rcases Nat.lt_or_ge m 128 with h | h
          · have := sz_small h; omega
          · exact h
        have Hsm := Lib.hid hsm
        clear hsm
        go_wp2_with (at_builtin; refine push_byte (.tmp 23) (.tmp 25) _ (UInt8.ofNat (m % 128 + 128)) hown hb.size Hpl.out (put_byte_hi m) rfl rfl rfl rfl ?_; intro v1 w1 hown1 hb1 hbs1; clear hown)
        go_roundw
        case rel => exact ⟨m / 128, j + 1, pre ++ [UInt8.ofNat (m % 128 + 128)], by go_num, by omega, by go_num, by omega, ⟨by simp [he.out.1], fun _ => enc_next (he.out.2.1 hlt) hbig, fun h => by omega⟩, hown1, hb.trans hb1⟩
        case measure => simp [intOf]; omega
      · have hsml : m < 128 := sz_one (by omega)
        have hjk : j + 1 = K := by omega
        have Hjk := Lib.hid hjk
        clear hsm hjk
        go_wp2_with (at_builtin; refine push_byte (.tmp 23) (.tmp 25) _ (UInt8.ofNat m) hown hb.size Hpl.out (put_byte_lo hsml) rfl rfl rfl rfl ?_; intro v1 w1 hown1 hb1 hbs1; clear hown)
        go_roundw
        case rel => exact ⟨m / 128, j + 1, pre ++ [UInt8.ofNat m], by go_num, by omega, by go_num, by omega, ⟨by simp [he.out.1], fun h => by omega, fun _ => enc_last (he.out.2.1 hlt) hsml⟩, hown1, hb.trans hb1⟩
        case measure => simp [intOf]; omega
    · have hjk : j = K := by omega
      have hpe := he.out.2.2 hjk
      have Hpe := Lib.hid hpe
      clear hpe hjk
      go_wp2
      go_ret
      exact ⟨_, rfl, by rw [← Hpe.out]; exact hown, hb⟩
end Go.Proofs.Ytogoaihimepboaa

namespace Go.Proofs.Ytogoaihimepboaa
open Go.RowKit

/-- Do these bytes stand at a place? -/
def standsAt (l : List UInt8) (p : Nat) (m : List UInt8) : Bool := decide ((l.drop p).take m.length = m)
theorem stands_short {l : List UInt8} {p : Nat} {m : List UInt8} (h : l.length < p + m.length) (hm : 0 < m.length) : standsAt l p m = false := by
  unfold standsAt
  rw [decide_eq_false_iff_not]
  intro e
  have := congrArg List.length e
  rw [List.length_take, List.length_drop] at this
  omega
theorem stands_eq {l : List UInt8} {p : Nat} {m : List UInt8} (ht : Hid ((l.drop p).take m.length = m.take m.length)) : standsAt l p m = true := by
  unfold standsAt
  rw [decide_eq_true_iff, ht.out, List.take_length]
theorem stands_ne {l : List UInt8} {p k : Nat} {m : List UInt8} {x y : UInt8} (hx : Hid (l[p + k]? = some x)) (hy : Hid (m[k]? = some y)) (h : x ≠ y) : standsAt l p m = false := by
  unfold standsAt
  rw [decide_eq_false_iff_not]
  intro e
  have h1 : k < m.length := (List.getElem?_eq_some_iff.1 hy.out).1
  have h2 : ((l.drop p).take m.length)[k]? = m[k]? := by rw [e]
  rw [List.getElem?_take, if_pos h1, List.getElem?_drop, hx.out, hy.out] at h2
  injection h2 with h2
  exact h h2

set_option maxHeartbeats 1000000 in
set_option maxRecDepth 100000 in
theorem refSame_any (A A' : Option Addr) (c c' B B' p : Nat) (l m : List UInt8) (w : World) (hl : l.length ≤ 140737488351232) (hp : p ≤ 140737488351232) (hml : m.length ≤ 140737488351232) (hm0 : 0 < m.length) (hr : RdB w B A l) (hm : RdB w B' A' m) :
    Calls Try.prog 50 #[.slice A l.length c, .int .i64 (p : Int), .slice A' m.length c'] w fun e w' => e = .returned (.bool (standsAt l p m)) ∧ ∃ n, w' = w.drewN n := by
  have hlen : (l.length : Int) ≤ 140737488351232 := by omega
  have hmlen : (m.length : Int) ≤ 140737488351232 := by omega
  have hplen : (p : Int) ≤ 140737488351232 := by omega
  clear hl hml hp
  by_cases hfit : p + m.length ≤ l.length
  · have hf : decide ((l.length : Int) < (p : Int) + (m.length : Int)) = false := by rw [decide_eq_false_iff_not]; omega
    have hf' : ¬ (l.length : Int) < (p : Int) + (m.length : Int) := by omega
    go_enter Try.func50, Try.ntmps50
    go_wp2
    go_loopw [7] (fun i wr => ∃ k n : Nat, k ≤ m.length ∧ i = .int .i64 (k : Int) ∧ wr = w.drewN n ∧ Hid ((l.drop p).take k = m.take k)) (fun i _ => m.length - (intOf i).toNat)
    case atStart => exact ⟨0, 0, by omega, rfl, rfl, by exact rfl⟩
    case round =>
      obtain ⟨k, n, hk, rfl, rfl, ht⟩ := hrel
      by_cases hlt : k < m.length
      · obtain ⟨ad, x, rfl, _, hc, hx⟩ := RdB.at_ hr (k := p + k) (by omega)
        obtain ⟨ad', y, rfl, _, hc', hy⟩ := RdB.at_ hm hlt
        have hix : IntKind.i64.wrap ((p : Int) + (k : Int)) = ((p + k : Nat) : Int) := by rw [IntWalk.i64_in _ (by omega)]; omega
        have hilt : (p : Int) + (k : Int) < (l.length : Int) := by omega
        have hi0 : 0 ≤ (p : Int) + (k : Int) := by omega
        have hin : ((p : Int) + (k : Int)).toNat = p + k := by omega
        by_cases hxy : x = y
        · subst hxy
          go_wp2
          go_quiet (fail)
          go_wp2
          go_roundw
          case rel =>
            refine ⟨k + 1, _, by omega, by go_num, rfl, takes_snoc ht ?_ hy⟩
            show (l.drop p)[k]? = some x
            rw [List.getElem?_drop]
            exact hx.out
          case measure => simp [intOf]; omega
        · have hv : ((x.toNat : Int) != (y.toNat : Int)) = true := by
            rw [bne_iff_ne]
            intro e
            exact hxy (UInt8.toNat_inj.1 (by omega))
          have hv' : (x.toNat != y.toNat) = true := by
            rw [bne_iff_ne]
            intro e
            exact hxy (UInt8.toNat_inj.1 e)
          have Hxy := Lib.hid hxy
          clear hxy
          go_wp2
          go_quiet (fail)
          go_wp2
          go_ret
          exact ⟨ret_bool (stands_ne hx hy Hxy.out).symm, _, World.drewN_drewN _ _ _⟩
      · obtain rfl : k = m.length := by omega
        go_wp2
        go_ret
        exact ⟨ret_bool (stands_eq ht).symm, _, rfl⟩
  · have hf : decide ((l.length : Int) < (p : Int) + (m.length : Int)) = true := by rw [decide_eq_true_iff]; omega
    have hf' : (l.length : Int) < (p : Int) + (m.length : Int) := by omega
    have hss := stands_short (l := l) (p := p) (m := m) (by omega) hm0
    have Hss := Lib.hid hss
    clear hss
    go_enter Try.func50, Try.ntmps50
    go_wp2
    go_ret
    exact ⟨ret_bool Hss.out.symm, 0, rfl⟩
end Go.Proofs.Ytogoaihimepboaa

namespace Go.Proofs.Ytogoaihimepboaa
open Go.RowKit

theorem take_ok_of {l : List UInt8} {q a b : Nat} (h : q < l.length) (h2 : tk 0 0 (l.drop q) = (a, b, 0)) : take l (q : Int) = (a, (q : Int) + (b : Int), 0) := by
  unfold take
  rw [if_pos ⟨by omega, by omega⟩, Int.toNat_natCast, h2]
  simp
theorem take_no_of {l : List UInt8} {q a b e : Nat} (h : q < l.length) (h2 : tk 0 0 (l.drop q) = (a, b, e)) (he : e ≠ 0) : take l (q : Int) = (0, (q : Int), e) := by
  unfold take
  rw [if_pos ⟨by omega, by omega⟩, Int.toNat_natCast, h2]
  simp [he]
theorem take_out {l : List UInt8} {p : Int} (h : p < 0 ∨ (l.length : Int) ≤ p) : take l p = (0, p, 10) := by
  unfold take
  rw [if_neg (by omega)]
theorem tk_bad {D : List UInt8} {k acc : Nat} {x : UInt8} (h : Hid (tk 0 0 D = tk k acc (D.drop k))) (hx : Hid (D[k]? = some x)) (hb : (0 < k ∧ x.toNat = 0) ∨ (k = 9 ∧ 1 < x.toNat)) : tk 0 0 D = (0, 0, 11) := by
  rw [h.out, drop_cons hx, tk, if_pos hb]
theorem tk_done {D : List UInt8} {k acc : Nat} {x : UInt8} (h : Hid (tk 0 0 D = tk k acc (D.drop k))) (hx : Hid (D[k]? = some x)) (hb : ¬ ((0 < k ∧ x.toNat = 0) ∨ (k = 9 ∧ 1 < x.toNat))) (hs : x.toNat < 128) : tk 0 0 D = (acc + x.toNat * 2 ^ (7 * k), k + 1, 0) := by
  rw [h.out, drop_cons hx, tk, if_neg hb, if_pos hs]
theorem tk_on {D : List UInt8} {k acc : Nat} {x : UInt8} (h : Hid (tk 0 0 D = tk k acc (D.drop k))) (hx : Hid (D[k]? = some x)) (hb : ¬ (k = 9 ∧ 1 < x.toNat)) (hs : 128 ≤ x.toNat) : Hid (tk 0 0 D = tk (k + 1) (acc + (x.toNat - 128) * 2 ^ (7 * k)) (D.drop (k + 1))) := by
  show tk 0 0 D = _
  rw [h.out, drop_cons hx, tk, if_neg (by omega), if_neg (by omega)]
theorem tk_end {D : List UInt8} {k acc : Nat} (h : Hid (tk 0 0 D = tk k acc (D.drop k))) (hk : D.length ≤ k) : tk 0 0 D = (0, 0, 10) := by
  rw [h.out, List.drop_eq_nil_of_le hk, tk]
theorem drop_get {l : List UInt8} {q k : Nat} {x : UInt8} (h : Hid (l[q + k]? = some x)) : Hid ((l.drop q)[k]? = some x) := by
  show (l.drop q)[k]? = some x
  rw [List.getElem?_drop]
  exact h.out
theorem add_zero' (a : Addr) : a.add 0 = a := by simp [Addr.add]
theorem or_add {acc c k : Nat} (hk : k ≤ 9) (ha : acc < 2 ^ (7 * k)) (hc : c * 2 ^ (7 * k) < 18446744073709551616) : bits .or .u64 (acc : Int) (IntKind.u64.wrap ((c : Int) * 2 ^ (k * 7))) = ((acc + c * 2 ^ (7 * k) : Nat) : Int) := by
  rw [Nat.mul_comm k 7]
  have e : ((c : Int) * 2 ^ (7 * k)) = ((c * 2 ^ (7 * k) : Nat) : Int) := by
    rw [Int.natCast_mul, Int.natCast_pow]; rfl
  rw [e, IntWalk.u64_in _ (by omega), u64_or_nat acc (c * 2 ^ (7 * k)) (by
    have : 2 ^ (7 * k) ≤ 2 ^ 63 := Nat.pow_le_pow_right (by omega) (by omega)
    omega) hc]
  congr 1
  rw [Nat.or_comm, Nat.mul_comm, ← Nat.two_pow_add_eq_or_of_lt ha, Nat.add_comm]
theorem or_zero {acc c : Nat} (ha : acc < 2 ^ (7 * 0)) (hc : c < 256) : bits .or .u64 (acc : Int) (c : Int) = ((acc + c * 2 ^ (7 * 0) : Nat) : Int) := by
  have h0 : acc = 0 := by simpa using ha
  subst h0
  rw [u64_or_nat 0 c (by omega) (by omega)]
  simp
theorem fits7 {x k : Nat} (hk : k ≤ 9) (hx : x < 128) (h9 : ¬ (k = 9 ∧ 1 < x)) : x * 2 ^ (7 * k) < 18446744073709551616 := by
  rcases Nat.lt_or_ge k 9 with h | h
  · have h1 : 2 ^ (7 * k) ≤ 2 ^ 56 := Nat.pow_le_pow_right (by omega) (by omega)
    have h2 : x * 2 ^ (7 * k) ≤ 127 * 2 ^ 56 := Nat.mul_le_mul (by omega) h1
    omega
  · have : k = 9 := by omega
    subst this
    omega
theorem acc_step {acc c k : Nat} (ha : acc < 2 ^ (7 * k)) (hc : c < 128) : acc + c * 2 ^ (7 * k) < 2 ^ (7 * (k + 1)) := by
  rw [pow7]
  have h2 : c * 2 ^ (7 * k) ≤ 127 * 2 ^ (7 * k) := Nat.mul_le_mul (by omega) (Nat.le_refl _)
  omega
theorem ret_take {l : List UInt8} {p : Int} {n e : Nat} {x : Int} (h : take l p = (n, x, e)) {a b d : Int} (ha : a = (n : Nat)) (hb : b = x) (hd : d = (e : Nat)) :
    Ending.returned (.tuple #[.int .u64 a, .int .i64 b, .int .i64 d]) = .returned (.tuple #[.int .u64 ((take l p).1 : Nat), .int .i64 (take l p).2.1, .int .i64 ((take l p).2.2 : Nat)]) := by
  rw [h, ha, hb, hd]

set_option maxHeartbeats 1000000 in
set_option maxRecDepth 100000 in
theorem take_any (A : Option Addr) (c B : Nat) (l : List UInt8) (p : Int) (w : World) (hl : l.length ≤ 140737488351232) (hcap : l.length ≤ c) (hr : RdB w B A l) :
    Calls Try.prog 39 #[.slice A l.length c, .int .i64 p] w fun e w' => e = .returned (.tuple #[.int .u64 ((take l p).1 : Nat), .int .i64 (take l p).2.1, .int .i64 ((take l p).2.2 : Nat)]) ∧ w = w' := by
  have hlen : (l.length : Int) ≤ 140737488351232 := by omega
  clear hl
  by_cases hneg : p < 0
  · have ht := take_out (l := l) (.inl hneg)
    have Ht := Lib.hid ht
    clear ht
    go_enter Try.func39, Try.ntmps39
    go_wp2
    go_step3
    go_wp2
    rw [Exit.noGoto_ret]
    go_ret3
    exact ⟨by rw [Ht.out]; rfl, rfl⟩
  by_cases hout : (l.length : Int) ≤ p
  · have ht := take_out (.inr hout)
    have Ht := Lib.hid ht
    clear ht
    go_enter Try.func39, Try.ntmps39
    go_wp2
    go_step3
    go_wp2
    rw [Exit.noGoto_ret]
    go_ret3
    exact ⟨by rw [Ht.out]; rfl, rfl⟩
  obtain ⟨q, rfl⟩ := Int.eq_ofNat_of_zero_le (a := p) (by omega)
  have hq : q < l.length := by omega
  clear hneg hout
  obtain ⟨ad, x0, rfl, z1, z2, z3⟩ := RdB.at_ hr hq
  clear z1 z2 z3 x0
  go_enter Try.func39, Try.ntmps39
  go_wp2
  go_step3
  go_wp2
  go_step3
  go_wp2
  go_loop [4, 5, 6, 23] (fun n nx e i => ∃ k acc : Nat, k ≤ l.length - q ∧ k ≤ 9 ∧ n = .int .u64 (acc : Int) ∧ Hid (acc < 2 ^ (7 * k)) ∧ nx = .int .i64 (q : Int) ∧ e = .int .i64 10 ∧ i = .int .i64 (k : Int) ∧ Hid (tk 0 0 (l.drop q) = tk k acc ((l.drop q).drop k))) (fun _ _ _ i => l.length - (intOf i).toNat)
  case atStart => exact ⟨0, 0, by omega, by omega, rfl, by show 0 < _; simp, rfl, rfl, rfl, by exact rfl⟩
  case round =>
    obtain ⟨k, acc, hk, hk9, rfl, hacc, rfl, rfl, rfl, ht⟩ := hrel
    by_cases hlt : k < l.length - q
    · obtain ⟨_, x, e, _, hc, hx⟩ := RdB.at_ hr (k := q + k) (by omega)
      injection e with e
      subst e
      have hx' := drop_get hx
      rw [← add_of_add ad q k] at hc
      by_cases h1 : 0 < k ∧ x.toNat = 0
      · have hv := take_no_of hq (tk_bad ht hx' (.inl h1)) (by omega)
        have Hv := Lib.hid hv
        obtain ⟨h1a, h1b⟩ := h1
        have hx0 : ((x.toNat : Int) == 0) = true := by rw [h1b]; rfl
        have hx0' : (x.toNat == 0) = true := by rw [h1b]; rfl
        clear hv h1b
        go_wp2
        go_ret3
        exact ⟨by rw [Hv.out]; rfl, rfl⟩
      by_cases h2 : k = 9 ∧ 1 < x.toNat
      · have hv := take_no_of hq (tk_bad ht hx' (.inr h2)) (by omega)
        have Hv := Lib.hid hv
        obtain ⟨h2a, h2b⟩ := h2
        have hk0 : 0 < k := by omega
        have hx0 : ((x.toNat : Int) == 0) = false := beq_eq_false_iff_ne.2 (by omega)
        have hx0' : (x.toNat == 0) = false := beq_eq_false_iff_ne.2 (by omega)
        have hk9' : ((k : Int) == 9) = true := beq_iff_eq.2 (by omega)
        have hk9'' : (k == 9) = true := beq_iff_eq.2 (by omega)
        clear hv h1 h2a
        go_wp2
        go_ret3
        exact ⟨ret_take Hv.out rfl rfl rfl, rfl⟩
      by_cases h3 : x.toNat < 128
      · have hv := take_ok_of hq (tk_done ht hx' (by omega) h3)
        have Hv := Lib.hid hv
        have hor := or_add hk9 hacc.out (c := x.toNat) (fits7 hk9 h3 h2)
        have Hor := Lib.hid hor
        have H1 := Lib.hid h1
        have H2 := Lib.hid h2
        clear hv hor h1 h2
        rcases (show k = 0 ∨ (0 < k ∧ k ≠ 9) ∨ k = 9 from by omega) with hk0 | ⟨hk0, hkn⟩ | hk0
        · subst hk0
          have hor0 := or_zero hacc.out (c := x.toNat) (by omega)
          have Hor0 := Lib.hid hor0
          clear hor0
          rw [add_zero'] at hc
          go_wp2
          go_ret3
          exact ⟨ret_take Hv.out Hor0.out (by omega) rfl, rfl⟩
        · have hx0 : ((x.toNat : Int) == 0) = false := beq_eq_false_iff_ne.2 (by have := H1.out; omega)
          have hx0' : (x.toNat == 0) = false := beq_eq_false_iff_ne.2 (by have := H1.out; omega)
          have hk9' : ((k : Int) == 9) = false := beq_eq_false_iff_ne.2 (by omega)
          have hk9'' : (k == 9) = false := beq_eq_false_iff_ne.2 (by omega)
          clear hkn
          go_wp2
          go_ret3
          exact ⟨ret_take Hv.out Hor.out (by omega) rfl, rfl⟩
        · have hk0' : 0 < k := by omega
          have hx0 : ((x.toNat : Int) == 0) = false := beq_eq_false_iff_ne.2 (by have := H1.out; omega)
          have hx0' : (x.toNat == 0) = false := beq_eq_false_iff_ne.2 (by have := H1.out; omega)
          have hk9' : ((k : Int) == 9) = true := beq_iff_eq.2 (by omega)
          have hk9'' : (k == 9) = true := beq_iff_eq.2 (by omega)
          have hx1 : x.toNat ≤ 1 := by have := H2.out; omega
          clear hk0
          go_wp2
          go_ret3
          exact ⟨ret_take Hv.out Hor.out (by omega) rfl, rfl⟩
      · have hx8 : 128 ≤ x.toNat := by omega
        have hk8 : k ≤ 8 := by omega
        have hor := or_add hk9 hacc.out (c := x.toNat - 128) (fits7 hk9 (by have := x.toNat_lt; omega) (by omega))
        have hst := acc_step hacc.out (c := x.toNat - 128) (by have := x.toNat_lt; omega)
        have Hst := Lib.hid hst
        have Hor := Lib.hid hor
        have Hon := Lib.hid (tk_on ht hx' h2 hx8).out
        have hxu : x.toNat < 256 := x.toNat_lt
        have hsub : ((x.toNat : Int) - 128) = ((x.toNat - 128 : Nat) : Int) := by omega
        have Hsub := Lib.hid hsub
        clear hsub
        have hx0 : ((x.toNat : Int) == 0) = false := beq_eq_false_iff_ne.2 (by omega)
        have hx0' : (x.toNat == 0) = false := beq_eq_false_iff_ne.2 (by omega)
        have hk9' : ((k : Int) == 9) = false := beq_eq_false_iff_ne.2 (by omega)
        have hk9'' : (k == 9) = false := beq_eq_false_iff_ne.2 (by omega)
        clear hor hst h1 h2 h3
        rcases Nat.eq_zero_or_pos k with hk0 | hk0
        · subst hk0
          rw [add_zero'] at hc
          go_wp2
          go_round
          case rel => exact ⟨_, acc + (x.toNat - 128) * 2 ^ (7 * _), by omega, by omega, by rw [Hsub.out, or_zero hacc.out (by omega)], Hst.out, rfl, rfl, by go_num, Hon.out⟩
          case measure => simp [intOf]; omega
        · go_wp2
          go_round
          case rel => exact ⟨_, acc + (x.toNat - 128) * 2 ^ (7 * _), by omega, by omega, by rw [Hsub.out, Hor.out], Hst.out, rfl, rfl, by go_num, Hon.out⟩
          case measure => simp [intOf]; omega
    · obtain rfl : k = l.length - q := by omega
      have hv := take_no_of hq (tk_end ht (by rw [List.length_drop]; omega)) (by omega)
      have Hv := Lib.hid hv
      clear hv
      go_wp2
      go_ret3
      exact ⟨by rw [Hv.out]; rfl, rfl⟩
end Go.Proofs.Ytogoaihimepboaa

namespace Go.Proofs.Ytogoaihimepboaa
open Go.RowKit

/-- A part of a row. -/
theorem RdB.part {w : World} {B : Nat} {ad : Addr} {l : List UInt8} (hr : RdB w B (some ad) l) (k m : Nat) (hm : k + m ≤ l.length) : RdB w B (some (ad.add k)) ((l.drop k).take m) := by
  refine ⟨by rw [bs_len]; omega, fun hn => ?_⟩
  rw [List.length_take, List.length_drop] at hn
  obtain ⟨ad', e, hb, hc⟩ := hr.2 (by omega)
  injection e with e
  subst e
  refine ⟨_, rfl, by rw [block_of_add]; exact hb, fun j u hu => ?_⟩
  rw [add_of_add]
  refine hc _ u ?_
  rw [← hu]
  simp only [bs, List.getElem?_map, List.getElem?_take, List.getElem?_drop]
  have hjl : j < (bs ((l.drop k).take m)).length := (List.getElem?_eq_some_iff.1 hu).1
  rw [bs_len, List.length_take, List.length_drop] at hjl
  rw [if_pos (by omega)]

theorem takeText_no {l : List UInt8} {p : Int} (h : (take l p).2.2 ≠ 0) : takeText l p = ([], p, (take l p).2.2) := by unfold takeText; rw [if_pos h]
theorem takeText_short {l : List UInt8} {p : Int} (h : (take l p).2.2 = 0) (h2 : (l.length : Int) - (take l p).2.1 < (take l p).1) : takeText l p = ([], p, 10) := by unfold takeText; rw [if_neg (by omega), if_pos h2]
theorem takeText_ok {l : List UInt8} {p : Int} (h : (take l p).2.2 = 0) (h2 : ¬ (l.length : Int) - (take l p).2.1 < (take l p).1) : takeText l p = ((l.drop (take l p).2.1.toNat).take (take l p).1, (take l p).2.1 + (take l p).1, 0) := by unfold takeText; rw [if_neg (by omega), if_neg h2]
/-- TakeText's answer as a value. -/
def textVal (r : List UInt8 × Int × Nat) : Value := .tuple #[.string (txt r.1), .int .i64 r.2.1, .int .i64 (r.2.2 : Nat)]
theorem ret_text {r : List UInt8 × Int × Nat} {s : List UInt8} {x : Int} {e : Nat} (h : r = (s, x, e)) {a : ByteArray} {b d : Int} (ha : a = txt s) (hb : b = x) (hd : d = (e : Nat)) :
    Ending.returned (.tuple #[.string a, .int .i64 b, .int .i64 d]) = .returned (textVal r) := by
  rw [h, ha, hb, hd]; rfl

/-- TakeAll's answer as a value, in a world. -/
def ManyVal (B : Nat) (r : List Nat × Int × Nat) (e : Ending) (w' : World) : Prop :=
  ∃ v, e = .returned (.tuple #[v, .int .i64 r.2.1, .int .i64 (r.2.2 : Nat)]) ∧ w'.ownsRow B 23 1 v r.1.length (us r.1)
theorem many_step {l : List UInt8} {p0 p : Int} {k : Nat} {acc : List Nat} (h : (take l p).2.2 = 0) : takeMany l p0 (k + 1) p acc = takeMany l p0 k (take l p).2.1 (acc ++ [(take l p).1]) := by
  rw [takeMany, if_neg (by omega)]
theorem many_stop {l : List UInt8} {p0 p : Int} {k : Nat} {acc : List Nat} (h : (take l p).2.2 ≠ 0) : takeMany l p0 (k + 1) p acc = ([], p0, (take l p).2.2) := by
  rw [takeMany, if_pos h]

end Go.Proofs.Ytogoaihimepboaa

namespace Go.Proofs.Ytogoaihimepboaa
open Go.RowKit

/-- What the groups ahead say of how a number is written. -/
def Ahead (D : List UInt8) (k acc : Nat) : Prop := acc < 2 ^ (7 * k) ∧ ∀ m, (0 < k → 0 < m) → enc (acc + m * 2 ^ (7 * k)) = D.take k ++ enc m
theorem ahead_zero (D : List UInt8) : Ahead D 0 0 := ⟨by simp, fun m _ => by simp⟩
theorem ahead_on {D : List UInt8} {k acc : Nat} {x : UInt8} (h : Ahead D k acc) (hx : Hid (D[k]? = some x)) (hs : 128 ≤ x.toNat) : Ahead D (k + 1) (acc + (x.toNat - 128) * 2 ^ (7 * k)) := by
  have hu := x.toNat_lt
  refine ⟨acc_step h.1 (by omega), fun m hm => ?_⟩
  have hm0 := hm (by omega)
  have h1 := h.2 (x.toNat - 128 + m * 128) (by omega)
  rw [pow7, Nat.add_assoc, ← Nat.mul_assoc, ← Nat.add_mul, h1, enc_big (by omega), take_snoc hx, List.append_assoc]
  rw [show (x.toNat - 128 + m * 128) / 128 = m from by omega, show (x.toNat - 128 + m * 128) % 128 + 128 = x.toNat from by omega]
  simp
theorem ahead_done {D : List UInt8} {k acc : Nat} {x : UInt8} (h : Ahead D k acc) (hx : Hid (D[k]? = some x)) (hs : x.toNat < 128) (h0 : ¬ (0 < k ∧ x.toNat = 0)) : enc (acc + x.toNat * 2 ^ (7 * k)) = D.take (k + 1) := by
  rw [h.2 x.toNat (by omega), enc_small hs, take_snoc hx]
  simp
theorem ahead_less {D : List UInt8} {k acc : Nat} (h : Ahead D k acc) (hk : 0 < k) : sz acc ≤ k := by
  obtain ⟨j, rfl⟩ : ∃ j, k = j + 1 := ⟨k - 1, by omega⟩
  refine sz_le j acc ?_
  have := h.1
  rw [Nat.pow_mul] at this
  exact this

theorem sum_fits {acc c k : Nat} (hk : k ≤ 9) (ha : acc < 2 ^ (7 * k)) (hc : c < 128) (h9 : ¬ (k = 9 ∧ 1 < c)) : acc + c * 2 ^ (7 * k) < 18446744073709551616 := by
  rcases Nat.lt_or_ge k 9 with h | h
  · have h1 : 2 ^ (7 * (k + 1)) ≤ 2 ^ 63 := Nat.pow_le_pow_right (by omega) (by omega)
    have h2 := acc_step ha hc
    omega
  · have : k = 9 := by omega
    subst this
    omega
theorem addw {acc c k : Nat} (hk : k ≤ 9) (ha : acc < 2 ^ (7 * k)) (hc : c < 128) (h9 : ¬ (k = 9 ∧ 1 < c)) {y : Int} (hy : y = (c : Int)) :
    IntKind.u64.wrap ((acc : Int) + IntKind.u64.wrap (y * IntKind.u64.wrap (2 ^ (7 * k)))) = ((acc + c * 2 ^ (7 * k) : Nat) : Int) := by
  subst hy
  have h1 := sum_fits hk ha hc h9
  have h2 : 2 ^ (7 * k) ≤ 2 ^ 63 := Nat.pow_le_pow_right (by omega) (by omega)
  have e : ((2 : Int) ^ (7 * k)) = ((2 ^ (7 * k) : Nat) : Int) := by rw [Int.natCast_pow]; rfl
  rw [e, IntWalk.u64_in ((2 ^ (7 * k) : Nat) : Int) (by omega), ← Int.natCast_mul, IntWalk.u64_in ((c * 2 ^ (7 * k) : Nat) : Int) (by omega), IntWalk.u64_in _ (by omega)]
  omega

set_option maxHeartbeats 1000000 in
set_option maxRecDepth 100000 in
theorem refTake_any (A : Option Addr) (c B : Nat) (l : List UInt8) (p : Int) (w : World) (hl : l.length ≤ 140737488351232) (hB : B ≤ w.heap.size) (hr : RdB w B A l) :
    Calls Try.prog 42 #[.slice A l.length c, .int .i64 p] w fun e w' => e = .returned (.tuple #[.int .u64 ((take l p).1 : Nat), .int .i64 (take l p).2.1, .int .i64 ((take l p).2.2 : Nat)]) ∧ Below w.heap.size w w' := by
  have hlen : (l.length : Int) ≤ 140737488351232 := by omega
  have Hl := Lib.hid hl
  clear hl
  by_cases hneg : p < 0
  · have ht := take_out (l := l) (.inl hneg)
    have Ht := Lib.hid ht
    clear ht
    go_enter Try.func42, Try.ntmps42
    go_wp2
    go_ret3
    exact ⟨ret_take Ht.out rfl rfl rfl, .refl _ _⟩
  by_cases hout : (l.length : Int) ≤ p
  · have ht := take_out (.inr hout)
    have Ht := Lib.hid ht
    clear ht
    go_enter Try.func42, Try.ntmps42
    go_wp2
    go_ret3
    exact ⟨ret_take Ht.out rfl rfl rfl, .refl _ _⟩
  obtain ⟨q, rfl⟩ := Int.eq_ofNat_of_zero_le (a := p) (by omega)
  have hq : q < l.length := by omega
  clear hneg hout
  obtain ⟨ad, x0, rfl, z1, z2, z3⟩ := RdB.at_ hr hq
  clear z1 z2 z3 x0
  go_enter Try.func42, Try.ntmps42
  go_wp2
  go_loopw [7, 8] (fun n i wr => ∃ k acc : Nat, k ≤ 9 ∧ n = .int .u64 (acc : Int) ∧ i = .int .i64 (k : Int) ∧ Hid (Ahead (l.drop q) k acc) ∧ Hid (tk 0 0 (l.drop q) = tk k acc ((l.drop q).drop k)) ∧ Below w.heap.size w wr) (fun _ i _ => 10 - (intOf i).toNat)
  case atStart => exact ⟨0, 0, by omega, rfl, rfl, ahead_zero _, by exact rfl, .refl _ _⟩
  case round =>
    obtain ⟨k, acc, hk9, rfl, rfl, hah, ht, hb⟩ := hrel
    by_cases hlt : q + k < l.length
    · obtain ⟨_, x, e, _, hc, hx⟩ := RdB.at_ (hr.below (hb.mono hB)) (k := q + k) (by omega)
      injection e with e
      subst e
      have hx' := drop_get hx
      by_cases h2 : k = 9 ∧ 1 < x.toNat
      · have hv := take_no_of hq (tk_bad ht hx' (.inr h2)) (by omega)
        have Hv := Lib.hid hv
        obtain ⟨h2a, h2b⟩ := h2
        have hk9' : ((k : Int) == 9) = true := beq_iff_eq.2 (by omega)
        have hk9'' : (k == 9) = true := beq_iff_eq.2 (by omega)
        have hxu : x.toNat < 256 := x.toNat_lt
        clear hv h2a
        go_wp2
        go_ret3
        exact ⟨ret_take Hv.out rfl rfl rfl, hb⟩
      by_cases h3 : x.toNat < 128
      · have hw := addw hk9 hah.out.1 h3 h2 (y := (x.toNat : Int) % 128) (by omega)
        have hN64 := sum_fits hk9 hah.out.1 h3 h2
        have hdone := fun h0 => ahead_done hah.out hx' h3 h0
        have htd := fun h0 => take_ok_of hq (tk_done ht hx' h0 h3)
        obtain ⟨N, hN⟩ : ∃ N, N = acc + x.toNat * 2 ^ (7 * k) := ⟨_, rfl⟩
        rw [← hN] at hw hN64 hdone htd
        have hN10 := sz_10 hN64
        have hN1 := sz_pos N
        have hDk : k < (l.drop q).length := by rw [List.length_drop]; omega
        by_cases h0 : 0 < k ∧ x.toNat = 0
        · have hv := take_no_of hq (tk_bad ht hx' (.inl h0)) (by omega)
          have hNa : N = acc := by rw [hN, h0.2]; simp
          have hle := ahead_less hah.out h0.1
          rw [← hNa] at hle
          have Hv := Lib.hid hv
          have hcmp : (((k : Int) + 1) != ((enc N).length : Int)) = true := by rw [bne_iff_ne]; unfold sz at hle; omega
          have hcmp' : ((k + 1) != (enc N).length) = true := by rw [bne_iff_ne]; unfold sz at hle; omega
          have HN64 := Lib.hid hN64
          have hq40 : q ≤ 140737488351232 := by have := Hl.out; omega
          have Hq40 := Lib.hid hq40
          have hx1 : x.toNat ≤ 1 := by omega
          unfold sz at hN10 hN1
          clear hv hdone htd hN hq40 hN64 hDk hle h2 h0 hNa
          generalize hs : standsAt l q (enc N) = S
          have Hst := Lib.hid hs
          clear hs
          rcases (show k ≠ 9 ∨ k = 9 from by omega) with hkn | hk9e
          · have hk9' : ((k : Int) == 9) = false := beq_eq_false_iff_ne.2 (by omega)
            have hk9'' : (k == 9) = false := beq_eq_false_iff_ne.2 (by omega)
            clear hkn
            cases S
            · go_wp2_with (first
                | (go_at_call 51; refine (refPut_any _ _ HN64.out).mono ?_; rintro e w1 ⟨v1, rfl, hown1, hb1⟩; obtain ⟨A1, c1, rfl, _, _, hr1⟩ := own_form hown1)
                | (go_at_call 50; refine (refSame_any _ _ _ _ B _ q l (enc N) _ Hl.out Hq40.out (by omega) (by omega) (hr.below ((hb.mono hB).trans (hb1.mono (Nat.le_trans hB hb.size)))) hr1).mono ?_; rintro e w2 ⟨rfl, n2, rfl⟩; rw [Hst.out]; have hb12 := below_drewN (hb.trans (hb1.mono hb.size)) n2; clear hown1 hr1 hb1))
              go_ret3
              exact ⟨ret_take Hv.out rfl rfl rfl, hb12⟩
            · go_wp2_with (first
                | (go_at_call 51; refine (refPut_any _ _ HN64.out).mono ?_; rintro e w1 ⟨v1, rfl, hown1, hb1⟩; obtain ⟨A1, c1, rfl, _, _, hr1⟩ := own_form hown1)
                | (go_at_call 50; refine (refSame_any _ _ _ _ B _ q l (enc N) _ Hl.out Hq40.out (by omega) (by omega) (hr.below ((hb.mono hB).trans (hb1.mono (Nat.le_trans hB hb.size)))) hr1).mono ?_; rintro e w2 ⟨rfl, n2, rfl⟩; rw [Hst.out]; have hb12 := below_drewN (hb.trans (hb1.mono hb.size)) n2; clear hown1 hr1 hb1))
              go_ret3
              exact ⟨ret_take Hv.out rfl rfl rfl, hb12.trans (hb1.mono hb12.size)⟩
          · have hk9' : ((k : Int) == 9) = true := beq_iff_eq.2 (by omega)
            have hk9'' : (k == 9) = true := beq_iff_eq.2 (by omega)
            clear hk9e
            cases S
            · go_wp2_with (first
                | (go_at_call 51; refine (refPut_any _ _ HN64.out).mono ?_; rintro e w1 ⟨v1, rfl, hown1, hb1⟩; obtain ⟨A1, c1, rfl, _, _, hr1⟩ := own_form hown1)
                | (go_at_call 50; refine (refSame_any _ _ _ _ B _ q l (enc N) _ Hl.out Hq40.out (by omega) (by omega) (hr.below ((hb.mono hB).trans (hb1.mono (Nat.le_trans hB hb.size)))) hr1).mono ?_; rintro e w2 ⟨rfl, n2, rfl⟩; rw [Hst.out]; have hb12 := below_drewN (hb.trans (hb1.mono hb.size)) n2; clear hown1 hr1 hb1))
              go_ret3
              exact ⟨ret_take Hv.out rfl rfl rfl, hb12⟩
            · go_wp2_with (first
                | (go_at_call 51; refine (refPut_any _ _ HN64.out).mono ?_; rintro e w1 ⟨v1, rfl, hown1, hb1⟩; obtain ⟨A1, c1, rfl, _, _, hr1⟩ := own_form hown1)
                | (go_at_call 50; refine (refSame_any _ _ _ _ B _ q l (enc N) _ Hl.out Hq40.out (by omega) (by omega) (hr.below ((hb.mono hB).trans (hb1.mono (Nat.le_trans hB hb.size)))) hr1).mono ?_; rintro e w2 ⟨rfl, n2, rfl⟩; rw [Hst.out]; have hb12 := below_drewN (hb.trans (hb1.mono hb.size)) n2; clear hown1 hr1 hb1))
              go_ret3
              exact ⟨ret_take Hv.out rfl rfl rfl, hb12.trans (hb1.mono hb12.size)⟩
        · have hv := htd (by omega)
          have hd := hdone h0
          have hszk : sz N = k + 1 := by
            show (enc N).length = k + 1
            rw [hd, List.length_take]
            omega
          have hst : standsAt l q (enc N) = true := by
            unfold standsAt
            rw [decide_eq_true_iff]
            have : (enc N).length = k + 1 := hszk
            rw [this, hd]
          have Hv := Lib.hid hv
          have Hst := Lib.hid hst
          have Hszk := Lib.hid hszk
          have hcmp : (((k : Int) + 1) != ((enc N).length : Int)) = false := by rw [bne_eq_false_iff_eq]; unfold sz at hszk; omega
          have hcmp' : ((k + 1) != (enc N).length) = false := by rw [bne_eq_false_iff_eq]; unfold sz at hszk; omega
          have HN64 := Lib.hid hN64
          have hq40 : q ≤ 140737488351232 := by have := Hl.out; omega
          have Hq40 := Lib.hid hq40
          unfold sz at hN10 hN1
          clear hv hst hszk hd hdone htd hN hq40 hN64 hDk
          have H2 := Lib.hid h2
          clear h2 h0
          rcases (show k ≠ 9 ∨ k = 9 from by omega) with hkn | hk9e
          · have hk9' : ((k : Int) == 9) = false := beq_eq_false_iff_ne.2 (by omega)
            have hk9'' : (k == 9) = false := beq_eq_false_iff_ne.2 (by omega)
            clear hkn
            go_wp2_with (first
              | (go_at_call 51; refine (refPut_any _ _ HN64.out).mono ?_; rintro e w1 ⟨v1, rfl, hown1, hb1⟩; obtain ⟨A1, c1, rfl, _, _, hr1⟩ := own_form hown1)
              | (go_at_call 50; refine (refSame_any _ _ _ _ B _ q l (enc N) _ Hl.out Hq40.out (by omega) (by omega) (hr.below ((hb.mono hB).trans (hb1.mono (Nat.le_trans hB hb.size)))) hr1).mono ?_; rintro e w2 ⟨rfl, n2, rfl⟩; rw [Hst.out]; have hb12 := below_drewN (hb.trans (hb1.mono hb.size)) n2; clear hown1 hr1 hb1))
            go_ret3
            exact ⟨ret_take Hv.out rfl rfl rfl, hb12.trans (hb1.mono hb12.size)⟩
          · have hk9' : ((k : Int) == 9) = true := beq_iff_eq.2 (by omega)
            have hk9'' : (k == 9) = true := beq_iff_eq.2 (by omega)
            have hx1 : x.toNat ≤ 1 := by have := H2.out; omega
            clear hk9e
            go_wp2_with (first
              | (go_at_call 51; refine (refPut_any _ _ HN64.out).mono ?_; rintro e w1 ⟨v1, rfl, hown1, hb1⟩; obtain ⟨A1, c1, rfl, _, _, hr1⟩ := own_form hown1)
              | (go_at_call 50; refine (refSame_any _ _ _ _ B _ q l (enc N) _ Hl.out Hq40.out (by omega) (by omega) (hr.below ((hb.mono hB).trans (hb1.mono (Nat.le_trans hB hb.size)))) hr1).mono ?_; rintro e w2 ⟨rfl, n2, rfl⟩; rw [Hst.out]; have hb12 := below_drewN (hb.trans (hb1.mono hb.size)) n2; clear hown1 hr1 hb1))
            go_ret3
            exact ⟨ret_take Hv.out rfl (by omega) rfl, hb12.trans (hb1.mono hb12.size)⟩
      · have hx8 : 128 ≤ x.toNat := by omega
        have hk8 : k ≤ 8 := by omega
        have hxu : x.toNat < 256 := x.toNat_lt
        have hk9' : ((k : Int) == 9) = false := beq_eq_false_iff_ne.2 (by omega)
        have hk9'' : (k == 9) = false := beq_eq_false_iff_ne.2 (by omega)
        have Hon := Lib.hid (tk_on ht hx' h2 hx8).out
        have Hah := Lib.hid (ahead_on hah.out hx' hx8)
        clear h2 h3
        have hw := addw hk9 hah.out.1 (c := x.toNat - 128) (by omega) (by omega) (y := (x.toNat : Int) % 128) (by omega)
        have Hw := Lib.hid hw
        clear hw
        go_wp2
        go_roundw
        case rel => exact ⟨k + 1, _, by omega, by rw [Hw.out], by go_num, Hah.out, Hon.out, hb⟩
        case measure => simp [intOf]; omega
    · have hv := take_no_of hq (tk_end ht (by rw [List.length_drop]; omega)) (by omega)
      have Hv := Lib.hid hv
      clear hv
      go_wp2
      go_ret3
      exact ⟨ret_take Hv.out rfl rfl rfl, hb⟩
end Go.Proofs.Ytogoaihimepboaa
