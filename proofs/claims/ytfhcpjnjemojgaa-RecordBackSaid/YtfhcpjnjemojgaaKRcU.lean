/- What is put is parsed as it was; what is parsed is put as the same bytes. No program in sight. Conditions: numbers below 2^64. -/
import Derived.Test.YtfhcpjnjemojgaaKRcP
namespace Go.Proofs.Ytfhcpjnjemojgaa
open Go.RowKit

theorem rdP_enc {l rest : List UInt8} {p : Nat} {x y : Rc} {j : Nat} (hx : x.Ok) (ht : (x.tx j).length < 18446744073709551616) (hl : l.drop p = encP x j ++ rest) : rdP l (y, (p : Int)) j = ((cpP x y j, ((p + (encP x j).length : Nat) : Int)), 0) := by
  by_cases h9 : j < 9
  · rw [encP_num h9] at hl ⊢
    rw [rdP_num h9]
    simp only
    rw [take_enc (hx.num j) hl]
    unfold cpP sz
    rw [if_pos h9]
    simp
  · rw [encP_txt (by omega)] at hl ⊢
    rw [rdP_txt (by omega)]
    simp only
    rw [takeText_enc ht (by rw [hl]; unfold encText; rw [List.append_assoc])]
    unfold cpP sz encText
    rw [if_neg h9]
    simp
    omega
theorem runS_enc {l : List UInt8} {x : Rc} (hx : x.Ok) (ht : ∀ j, (x.tx j).length < 18446744073709551616) : ∀ (ps : List Nat) (p : Nat) (y : Rc) (rest : List UInt8), l.drop p = body x ps ++ rest → runS (rdP l) (y, (p : Int)) ps = ((bld x y ps, ((p + (body x ps).length : Nat) : Int)), 0)
  | [], p, y, _, _ => by simp [runS, bld, body]
  | j :: ps, p, y, rest, h => by
    have hb : body x (j :: ps) = encP x j ++ body x ps := by unfold body; rw [List.flatMap_cons]
    rw [hb, List.append_assoc] at h
    have h1 := rdP_enc (y := y) hx (ht j) h
    have h2 : l.drop (p + (encP x j).length) = body x ps ++ rest := by
      rw [← List.drop_drop, h, List.drop_left]
    have ih := runS_enc hx ht ps (p + (encP x j).length) (cpP x y j) rest h2
    rw [runS, h1]
    simp only [ne_eq, not_true_eq_false, if_false]
    rw [ih, hb, List.length_append]
    unfold bld
    rw [List.foldl_cons, Nat.add_assoc]
theorem right_tx {x : Rc} (h : rightM x = true) (j : Nat) : (x.tx j).length ≤ 64 := by
  obtain ⟨hn, ht⟩ := right_names h
  unfold Rc.tx
  split <;> simp_all
theorem right_bld {x : Rc} (h : rightM x = true) : bld x (Rc.zero x.k) (allP x.k) = x := by
  rw [right_eq] at h
  unfold rightR at h
  rw [Bool.and_eq_true] at h
  exact of_decide_eq_true h.2
theorem oneF_enc {k : UInt8} {l : List UInt8} (hl : l.length ≤ 65535) : oneF (encFr k l) = ((k, l), 0) := by
  have h := takeF_enc (b := encFr k l) (q := 0) (k := k) (l := l) (rest := []) hl (by simp)
  unfold oneF
  rw [show (0 : Int) = ((0 : Nat) : Int) from rfl, h]
  simp only [ne_eq, not_true_eq_false, if_false]
  rw [if_neg]
  rw [encFr_len]
  omega
theorem parse_put {x : Rc} (hx : x.Ok) (h : rightM x = true) : parseM (putM x).1 = (x, 0) := by
  have hb := body_small hx h
  have e : (putM x).1 = encFr (UInt8.ofNat x.k) (body x (allP x.k)) := by unfold putM; rw [if_pos h]
  rw [e]
  have hk : (UInt8.ofNat x.k).toNat = x.k := u8_toNat hx.k
  have hr := runS_enc (l := body x (allP x.k)) hx (fun j => by have := right_tx h j; omega) (allP x.k) 0 (Rc.zero x.k) [] (by simp)
  rw [right_bld h] at hr
  refine parseM_right (oneF_enc (by omega)) (by rw [hk]; exact right_isK h) (x := x) (p := ((body x (allP x.k)).length : Int)) (by rw [hk]; rw [Nat.zero_add] at hr; exact hr) (by omega) h
theorem put_inj {x y : Rc} (hx : x.Ok) (hy : y.Ok) (h : rightM x = true) (h' : rightM y = true) (e : (putM x).1 = (putM y).1) : x = y := by
  have h1 := parse_put hx h
  rw [e, parse_put hy h'] at h1
  exact (Prod.mk.inj h1).1.symm
theorem rdP_ok {l : List UInt8} {p : Nat} {y y1 : Rc} {P1 : Int} {j : Nat} (hj : j ≤ 10) (h : rdP l (y, (p : Int)) j = ((y1, P1), 0)) :
    ∃ p1 : Nat, P1 = (p1 : Int) ∧ p ≤ p1 ∧ p1 ≤ l.length ∧ encP y1 j = (l.drop p).take (p1 - p) ∧ ∀ i, i ≠ j → y1.num i = y.num i ∧ y1.tx i = y.tx i := by
  by_cases h9 : j < 9
  · rw [rdP_num h9] at h
    simp only at h
    have h0 : (take l (p : Int)).2.2 = 0 := (Prod.mk.inj h).2
    have hy := (Prod.mk.inj (Prod.mk.inj h).1).1
    have hP := (Prod.mk.inj (Prod.mk.inj h).1).2
    obtain ⟨_, _, k, _, e1, e2, e3⟩ := take_ok h0
    refine ⟨p + k, by omega, by omega, by omega, ?_, fun i hi => ?_⟩
    · rw [encP_num h9, ← hy, num_setN _ _ h9, e3, Int.toNat_natCast, Nat.add_sub_cancel_left]
    · rw [← hy]
      exact ⟨num_setN_ne _ _ hi, tx_setN _ _ _ _⟩
  · rw [rdP_txt (by omega)] at h
    simp only at h
    have h0 : (takeText l (p : Int)).2.2 = 0 := (Prod.mk.inj h).2
    have hy := (Prod.mk.inj (Prod.mk.inj h).1).1
    have hP := (Prod.mk.inj (Prod.mk.inj h).1).2
    have ht0 : (take l (p : Int)).2.2 = 0 := by
      unfold takeText at h0
      by_cases hc : (take l (p : Int)).2.2 ≠ 0
      · rw [if_pos hc] at h0
        exact h0
      · omega
    have hs : ¬ (l.length : Int) - (take l (p : Int)).2.1 < (take l (p : Int)).1 := by
      intro hc
      unfold takeText at h0
      rw [if_neg (by omega), if_pos hc] at h0
      simp at h0
    obtain ⟨_, _, k, _, e1, e2, e3⟩ := take_ok ht0
    rw [takeText_ok ht0 hs] at hy hP
    simp only at hy hP
    have hq : (take l (p : Int)).2.1.toNat = p + k := by omega
    obtain ⟨N, hN⟩ : ∃ N, N = (take l (p : Int)).1 := ⟨_, rfl⟩
    rw [← hN] at hs hy hP e3
    rw [hq] at hy
    have hlen : ((l.drop (p + k)).take N).length = N := by rw [List.length_take, List.length_drop]; omega
    refine ⟨p + k + N, by omega, by omega, by omega, ?_, fun i hi => ?_⟩
    · rw [encP_txt (by omega), ← hy, tx_setT _ _ (by omega)]
      unfold encText
      rw [hlen, e3, Int.toNat_natCast, show p + k + N - p = k + N by omega, List.take_add, List.drop_drop]
    · rw [← hy]
      exact ⟨num_setT _ _ _ _, tx_setT_ne _ _ hi⟩
theorem encP_same {x y : Rc} {j : Nat} (h : x.num j = y.num j ∧ x.tx j = y.tx j) : encP x j = encP y j := by
  unfold encP
  rw [h.1, h.2]
theorem runS_ok {l : List UInt8} : ∀ (ps : List Nat) (p : Nat) (y x : Rc) (P : Int), ps.Nodup → (∀ j ∈ ps, j ≤ 10) → p ≤ l.length → runS (rdP l) (y, (p : Int)) ps = ((x, P), 0) →
    ∃ Q : Nat, P = (Q : Int) ∧ p ≤ Q ∧ Q ≤ l.length ∧ body x ps = (l.drop p).take (Q - p) ∧ ∀ i, i ∉ ps → x.num i = y.num i ∧ x.tx i = y.tx i
  | [], p, y, x, P, _, _, hp, h => by
    rw [runS] at h
    have e1 := (Prod.mk.inj (Prod.mk.inj h).1).1
    have e2 := (Prod.mk.inj (Prod.mk.inj h).1).2
    subst e1
    exact ⟨p, e2.symm, Nat.le_refl _, hp, by simp [body], fun _ _ => ⟨rfl, rfl⟩⟩
  | j :: ps, p, y, x, P, hnd, hle, hp, h => by
    rw [runS] at h
    by_cases h0 : (rdP l (y, (p : Int)) j).2 = 0
    · rw [if_neg (by omega)] at h
      obtain ⟨s, e, hs⟩ : ∃ s e, rdP l (y, (p : Int)) j = (s, e) := ⟨_, _, rfl⟩
      obtain ⟨y1, P1⟩ := s
      rw [hs] at h h0
      simp only at h h0
      subst h0
      obtain ⟨p1, rfl, a1, a2, a3, a4⟩ := rdP_ok (hle j (by simp)) hs
      obtain ⟨Q, rfl, b1, b2, b3, b4⟩ := runS_ok ps p1 y1 x P (List.nodup_cons.1 hnd).2 (fun i hi => hle i (by simp [hi])) a2 h
      have hjn := (List.nodup_cons.1 hnd).1
      refine ⟨Q, rfl, by omega, b2, ?_, fun i hi => ?_⟩
      · have hb : body x (j :: ps) = encP x j ++ body x ps := by unfold body; rw [List.flatMap_cons]
        rw [hb, encP_same (b4 j hjn), a3, b3, show Q - p = (p1 - p) + (Q - p1) by omega, List.take_add, List.drop_drop, show p + (p1 - p) = p1 by omega]
      · have h1 := b4 i (fun hm => hi (by simp [hm]))
        have h2 := a4 i (fun hm => hi (by simp [hm]))
        exact ⟨h1.1.trans h2.1, h1.2.trans h2.2⟩
    · rw [if_pos h0] at h
      exact absurd (by rw [h]) h0
theorem allP_le10 (k : Nat) : ∀ j ∈ allP k, j ≤ 10 := by
  unfold allP
  rcases parts_cases k with e | e | e | e | e | e | e | e | e <;> rw [e] <;> decide
theorem oneF_ok {b l : List UInt8} {k : UInt8} (h : oneF b = ((k, l), 0)) : b = encFr k l := by
  unfold oneF at h
  by_cases h0 : (takeF b 0).2.2 = 0
  · rw [if_neg (by omega)] at h
    by_cases h1 : (takeF b 0).2.1 < b.length
    · rw [if_pos h1] at h
      simp at h
    · rw [if_neg h1] at h
      obtain ⟨q, rest, e1, e2, e3, e4, e5⟩ := takeF_ok h0
      have hq : q = 0 := by omega
      subst hq
      have hf := (Prod.mk.inj h).1
      rw [hf] at e2 e4 e5
      simp only [List.drop_zero] at e2 e4 e5
      have hl := congrArg List.length e2
      rw [List.length_append, encFr_len] at hl
      have hr : rest = [] := List.eq_nil_of_length_eq_zero (by omega)
      rw [e2, hr, List.append_nil]
  · rw [if_pos h0] at h
    exact absurd (Prod.mk.inj h).2 h0
theorem put_parse {b : List UInt8} {x : Rc} (h : parseM b = (x, 0)) : rightM x = true ∧ putM x = (b, 0) := by
  obtain ⟨f, E, hone⟩ : ∃ f E, oneF b = (f, E) := ⟨_, _, rfl⟩
  obtain ⟨k, l⟩ := f
  by_cases hE : E = 0
  rotate_left
  · rw [parseM_one hone hE] at h
    exact absurd (Prod.mk.inj h).2 hE
  subst hE
  cases hk : isK k.toNat
  · rw [parseM_kind hone hk] at h
    exact absurd (Prod.mk.inj h).2 (by decide)
  obtain ⟨s, E2, hr⟩ : ∃ s E2, runS (rdP l) (Rc.zero k.toNat, 0) (allP k.toNat) = (s, E2) := ⟨_, _, rfl⟩
  obtain ⟨y, P⟩ := s
  by_cases hE2 : E2 = 0
  rotate_left
  · rw [parseM_part hone hk hr hE2] at h
    exact absurd (Prod.mk.inj h).2 hE2
  subst hE2
  by_cases hp : P < l.length
  · rw [parseM_long hone hk hr hp] at h
    exact absurd (Prod.mk.inj h).2 (by decide)
  cases hx : rightM y
  · rw [parseM_wrong hone hk hr hp hx] at h
    exact absurd (Prod.mk.inj h).2 (by decide)
  rw [parseM_right hone hk hr hp hx] at h
  have e := (Prod.mk.inj h).1
  subst e
  refine ⟨hx, ?_⟩
  have hyk := runS_rdP_k l (allP k.toNat) (Rc.zero k.toNat, 0)
  rw [hr] at hyk
  have hyk' : y.k = k.toNat := hyk
  obtain ⟨Q, rfl, b1, b2, b3, _⟩ := runS_ok (l := l) (allP k.toNat) 0 (Rc.zero k.toNat) y P (allP_nodup _) (allP_le10 _) (Nat.zero_le _) hr
  have hQ : Q = l.length := by omega
  unfold putM
  rw [if_pos hx, hyk', b3, hQ]
  simp only [List.drop_zero, Nat.sub_zero, List.take_length, UInt8.ofNat_toNat]
  rw [oneF_ok hone]
end Go.Proofs.Ytfhcpjnjemojgaa
