/- The walk of CrcFlips: whatever the bytes and the digit, it returns true. Conditions: none. -/
import Derived.Test.YthplioblpopfnaaCrcH
import Derived.StillTailTactics
namespace Go.Proofs.Ythplioblpopfnaa
open Go.RowKit

/-- The byte whose digit r alone is 1. -/
def bit (r : Nat) : UInt8 := UInt8.ofNat (2 ^ r)
theorem pow_lt {r : Nat} (h : r < 8) : 2 ^ r < 256 := Nat.pow_lt_pow_right (by omega) h
theorem bit_nat {r : Nat} (h : r < 8) : (bit r).toNat = 2 ^ r := by
  have := pow_lt h
  simp [bit, UInt8.toNat_ofNat']
  omega
theorem pow_bit {r : Nat} (h : r < 8) : (2 : Int) ^ r % 256 = ((bit r).toNat : Int) := by
  have h1 := pow_lt h
  rw [bit_nat h]
  have h2 : (2 : Int) ^ r = ((2 ^ r : Nat) : Int) := by push_cast; rfl
  rw [h2]
  generalize 2 ^ r = k at *
  omega
theorem wrap_bit {r : Nat} (h : r < 8) : IntKind.u8.wrap ((2 : Int) ^ r) = ((bit r).toNat : Int) := by
  rw [IntKind.wrap_u8]
  exact pow_bit h
theorem bit_ne {r : Nat} (h : r < 8) : bit r ≠ 0 := by
  intro e
  have := bit_nat h
  rw [e] at this
  have h2 : 0 < 2 ^ r := Nat.two_pow_pos r
  simp at this
  omega
theorem xor_ne {x y : UInt8} (h : y ≠ 0) : x ^^^ y ≠ x := by
  intro e
  apply h
  have : x ^^^ (x ^^^ y) = x ^^^ x := by rw [e]
  rw [← UInt8.xor_assoc, UInt8.xor_self, UInt8.zero_xor] at this
  exact this
theorem set_parts {l : List UInt8} {q : Nat} {x y : UInt8} (h : l[q]? = some x) : l.set q y = l.take q ++ y :: l.drop (q + 1) ∧ l = l.take q ++ x :: l.drop (q + 1) := by
  obtain ⟨hq, e⟩ := List.getElem?_eq_some_iff.1 h
  refine ⟨by rw [List.set_eq_take_append_cons_drop, if_pos hq], ?_⟩
  conv => lhs; rw [← List.take_append_drop q l]
  rw [List.drop_eq_getElem_cons hq, e]
theorem flip_one {l : List UInt8} {q r : Nat} {x : UInt8} (h : l[q]? = some x) (hr : r < 8) : sum (l.set q (x ^^^ bit r)) ≠ sum l := by
  obtain ⟨e1, e2⟩ := set_parts (y := x ^^^ bit r) h
  rw [e1]
  conv => rhs; rw [e2]
  exact sum_ne_one _ _ _ _ (xor_ne (bit_ne hr))
theorem bits_ne : ∀ r : Fin 7, bit r.val ^^^ bit (r.val + 1) ≠ 0 := by decide
theorem flip_two {l : List UInt8} {q r q2 r2 : Nat} {x z : UInt8} (h : l[q]? = some x) (hr : r < 8) (hz : (l.set q (x ^^^ bit r))[q2]? = some z) (hr2 : r2 < 8) (hqr : 8 * q2 + r2 = 8 * q + r + 1) :
    sum ((l.set q (x ^^^ bit r)).set q2 (z ^^^ bit r2)) ≠ sum l := by
  have hq := (List.getElem?_eq_some_iff.1 h).1
  by_cases h7 : r < 7
  · have e1 : q2 = q := by omega
    have e2 : r2 = r + 1 := by omega
    subst e1 e2
    rw [List.getElem?_set_self hq] at hz
    injection hz with hz
    subst hz
    rw [List.set_set]
    obtain ⟨e1, e2⟩ := set_parts (y := x ^^^ bit r ^^^ bit (r + 1)) h
    rw [e1]
    conv => rhs; rw [e2]
    rw [UInt8.xor_assoc]
    exact sum_ne_one _ _ _ _ (xor_ne (bits_ne ⟨r, h7⟩))
  · have e0 : r = 7 := by omega
    have e1 : q2 = q + 1 := by omega
    have e2 : r2 = 0 := by omega
    subst e0 e1 e2
    rw [List.getElem?_set_ne (by omega)] at hz
    obtain ⟨e1, e2⟩ := set_parts (y := x ^^^ bit 7) h
    have hq1 := (List.getElem?_eq_some_iff.1 hz).1
    have e3 : l.drop (q + 1) = z :: l.drop (q + 2) := drop_cons hz
    have htl : (l.take q).length = q := by rw [List.length_take]; omega
    have e4 : (l.set q (x ^^^ bit 7)).set (q + 1) (z ^^^ bit 0) = l.take q ++ (x ^^^ 128) :: (z ^^^ 1) :: l.drop (q + 2) := by
      rw [e1, e3, List.set_append_right _ _ (by omega), htl, show q + 1 - q = 1 by omega]
      rfl
    rw [e4]
    conv => rhs; rw [e2, e3]
    exact sum_ne_two _ _ _ _
theorem ne_int {a b : BitVec 32} (h : a ≠ b) : ((a.toNat : Int) != (b.toNat : Int)) = true := by
  rw [bne_iff_ne]
  intro e
  exact h (BitVec.eq_of_toNat_eq (by omega))
theorem ne_nat {a b : BitVec 32} (h : a ≠ b) : (a.toNat != b.toNat) = true := by
  rw [bne_iff_ne]
  intro e
  exact h (BitVec.eq_of_toNat_eq e)

set_option maxHeartbeats 4000000 in
set_option maxRecDepth 100000 in
theorem flipsLaw_any (A : Option Addr) (c B : Nat) (l : List UInt8) (t : Nat) (two : Bool) (w : World) (hl : l.length ≤ 9223372036854775807) (ht : t ≤ 65535) (hB : B ≤ w.heap.size) (hr : RdB w B A l) :
    Calls Try.prog 5 #[.slice A l.length c, .int .u16 (t : Int), .bool two] w fun e w' => e = .returned (.bool true) ∧ Below w.heap.size w w' := by
  have Hl := Lib.hid hl
  clear hl
  by_cases h0 : l.length = 0
  · have hd0 : ((l.length : Int) == 0) = true := by rw [beq_iff_eq]; omega
    have hd0' : (l.length == 0) = true := by rw [beq_iff_eq]; omega
    clear h0
    go_enter Try.func5, Try.ntmps5
    go_wp2_with fail
    refine (works_any _).mono ?_
    rintro e w1 ⟨rfl, hb⟩
    go_wp2
    go_ret
    exact ⟨rfl, hb⟩
  have hd0 : ((l.length : Int) == 0) = false := by rw [beq_eq_false_iff_ne]; omega
  have hd0' : (l.length == 0) = false := by rw [beq_eq_false_iff_ne]; omega
  by_cases h300 : 300 < l.length
  · have hd : decide ((300 : Int) < (l.length : Int)) = true := by rw [decide_eq_true_iff]; omega
    clear h0
    go_enter Try.func5, Try.ntmps5
    go_wp2_with fail
    refine (works_any _).mono ?_
    rintro e w1 ⟨rfl, hb⟩
    go_wp2
    go_ret
    exact ⟨rfl, hb⟩
  have hd : decide ((300 : Int) < (l.length : Int)) = false := by rw [decide_eq_false_iff_not]; omega
  obtain ⟨n, hn⟩ : ∃ n, n = t % (8 * l.length) := ⟨_, rfl⟩
  have hnl : n < 8 * l.length := by rw [hn]; exact Nat.mod_lt _ (by omega)
  have hlI : (l.length : Int) ≤ 300 := by omega
  have ht' : (t : Int) ≤ 65535 := by omega
  have hn' : (t : Int) % (8 * (l.length : Int)) = (n : Int) := by rw [hn]; push_cast; rfl
  have Hl3 := Lib.hid (show l.length ≤ 300 by omega)
  have hnI : (n : Int) < 8 * (l.length : Int) := by omega
  clear h0 h300 hn ht
  go_enter Try.func5, Try.ntmps5
  obtain ⟨q, hq⟩ : ∃ q, q = n / 8 := ⟨_, rfl⟩
  obtain ⟨r, hr8⟩ : ∃ r, r = n % 8 := ⟨_, rfl⟩
  have hqI : (n : Int) / 8 = (q : Int) := by omega
  have hrI : (n : Int) % 8 = (r : Int) := by omega
  have hql : (q : Int) < (l.length : Int) := by omega
  have hq0 : (0 : Int) ≤ (q : Int) := by omega
  have hr0 : (0 : Int) ≤ (r : Int) := by omega
  have hr8' : (r : Int) < 8 := by omega
  have Hqr := Lib.hid (show n = 8 * q + r by omega)
  clear hq hr8
  go_wp2_with (at_builtin; refine push_row (.tmp 24) (.tmp 25) (l := []) (World.ownsRow_nil w w.heap.size 5 1) (Nat.le_refl _) (hr.more hB) (by have := Hl3.out; simp; omega) rfl rfl rfl rfl ?_; intro v1 w1 hown1 hb1 hbs1 hg1)
  rw [List.nil_append] at hown1
  obtain ⟨g, cap, rfl, hg, _⟩ := hown1.form (by omega)
  obtain ⟨w2, hw2⟩ : ∃ w2, w2 = w1.drew := ⟨_, rfl⟩
  have hown2 : w2.ownsRow w.heap.size 5 1 (.slice (some ⟨g, 0, none⟩) l.length cap) l.length (bs l) := by rw [hw2]; exact World.ownsRow.drew hown1
  have hb2 : Below w.heap.size w w2 := by rw [hw2]; exact hb1.drew
  obtain ⟨x, hcx, hx⟩ := own_cell hown1 (k := q) (by omega)
  have hf := hown1.frozenAt q
  have hcx2 : w2.cell? ⟨g, q, none⟩ = some (.int .u8 (x.toNat : Int)) := by rw [hw2]; exact hcx
  have hf2 := hown2.frozenAt q
  obtain ⟨y, hy⟩ : ∃ y, y = x ^^^ bit r := ⟨_, rfl⟩
  obtain ⟨h1, h2⟩ := own_set (k := q) (x := (y.toNat : Int)) y hown2 rfl
  have H1 := Lib.hid h1
  have Hb2 := Lib.hid (hb2.setCell (p := ⟨g, q, none⟩) hg (.int .u8 (y.toNat : Int)))
  clear hown1 hown2 hg1 h1 h2 hb1 hb2
  have hwq : IntKind.i64.wrap (q : Int) = (q : Int) := IntWalk.i64_in _ (by omega)
  have hwr : IntKind.i64.wrap (r : Int) = (r : Int) := IntWalk.i64_in _ (by omega)
  have htm : (n : Int).tmod 8 = (r : Int) := by rw [Int.tmod_eq_emod_of_nonneg (by omega)]; exact hrI
  have htd : (n : Int).tdiv 8 = (q : Int) := by rw [Int.tdiv_eq_ediv_of_nonneg (by omega)]; exact hqI
  have hp1 := pow_bit (r := r) (by omega)
  have hp2 := wrap_bit (r := r) (by omega)
  have hp3 := xor8 x (bit r)
  rw [← hy] at hp3
  have Hy := Lib.hid hy
  clear hy
  go_wp2_with fail
  go_still_tail 13, (by kernel_rfl)
  change wpList _ _ _ _ _ w1.drew
  rw [← hw2]
  clear hw2 hcx hf
  have hx' := hx.out
  have Hne1 : Hid (sum (l.set q y) ≠ sum l) := by rw [Hy.out]; exact flip_one hx' (by omega)
  clear hx' hp1 hp2 hp3
  by_cases htwo : two = true ∧ n + 1 < 8 * l.length
  · obtain ⟨rfl, hn1⟩ := htwo
    have hd1 : decide ((n : Int) + 1 < 8 * (l.length : Int)) = true := by rw [decide_eq_true_iff]; omega
    obtain ⟨q2, hq2⟩ : ∃ q2, q2 = (n + 1) / 8 := ⟨_, rfl⟩
    obtain ⟨r2, hr2⟩ : ∃ r2, r2 = (n + 1) % 8 := ⟨_, rfl⟩
    have kq : ((n : Int) + 1) / 8 = (q2 : Int) := by omega
    have kr : ((n : Int) + 1) % 8 = (r2 : Int) := by omega
    have kql : (q2 : Int) < (l.length : Int) := by omega
    have kq0 : (0 : Int) ≤ (q2 : Int) := by omega
    have kr0 : (0 : Int) ≤ (r2 : Int) := by omega
    have kr8 : (r2 : Int) < 8 := by omega
    have Kqr := Lib.hid (show 8 * q2 + r2 = 8 * q + r + 1 by have := Hqr.out; omega)
    have kwn : IntKind.i64.wrap ((n : Int) + 1) = (n : Int) + 1 := IntWalk.i64_in _ (by omega)
    have kwq : IntKind.i64.wrap (q2 : Int) = (q2 : Int) := IntWalk.i64_in _ (by omega)
    have kwr : IntKind.i64.wrap (r2 : Int) = (r2 : Int) := IntWalk.i64_in _ (by omega)
    have ktm : ((n : Int) + 1).tmod 8 = (r2 : Int) := by rw [Int.tmod_eq_emod_of_nonneg (by omega)]; exact kr
    have ktd : ((n : Int) + 1).tdiv 8 = (q2 : Int) := by rw [Int.tdiv_eq_ediv_of_nonneg (by omega)]; exact kq
    obtain ⟨w3, hw3⟩ : ∃ w3, w3 = (w2.setCell ⟨g, q, none⟩ (.int .u8 (y.toNat : Int))) := ⟨_, rfl⟩
    rw [← hw3] at H1 Hb2
    obtain ⟨w4, hw4⟩ : ∃ w4, w4 = w3.drew := ⟨_, rfl⟩
    have hown4 : w4.ownsRow w.heap.size 5 1 (.slice (some ⟨g, 0, none⟩) l.length cap) l.length (bs (l.set q y)) := by rw [hw4]; exact World.ownsRow.drew H1.out
    have hb4 : Below w.heap.size w w4 := by rw [hw4]; exact Hb2.out.drew
    obtain ⟨z, hcz, hz⟩ := own_cell H1.out (k := q2) (by omega)
    have kf := H1.out.frozenAt q2
    have hcz4 : w4.cell? ⟨g, q2, none⟩ = some (.int .u8 (z.toNat : Int)) := by rw [hw4]; exact hcz
    have hf4 := hown4.frozenAt q2
    obtain ⟨u, hu⟩ : ∃ u, u = z ^^^ bit r2 := ⟨_, rfl⟩
    obtain ⟨h1, h2⟩ := own_set (k := q2) (x := (u.toNat : Int)) u hown4 rfl
    have K1 := Lib.hid h1
    have hb3 := hb4.setCell (p := ⟨g, q2, none⟩) hg (.int .u8 (u.toNat : Int))
    have Hne2 : Hid (sum ((l.set q y).set q2 u) ≠ sum l) := by
      have hz' := hz.out
      rw [Hy.out] at hz' ⊢
      rw [hu]
      exact flip_two hx.out (by omega) hz' (by omega) Kqr.out
    clear hown4 h1 h2 hb4 hq2 hr2 hn1 Hne1
    have kp1 := pow_bit (r := r2) (by omega)
    have kp2 := wrap_bit (r := r2) (by omega)
    have kp3 := xor8 z (bit r2)
    rw [← hu] at kp3
    have Hu := Lib.hid hu
    clear hu
    go_wp2_with fail
    rw [← hw3]
    clear hw3
    go_still_tail 16, (by kernel_rfl)
    change wpList _ _ _ _ _ w3.drew
    rw [← hw4]
    clear hw4 hcz kf kp1 kp2 kp3 kq kr kwn kwq kwr ktm ktd
    have hsz : w.heap.size ≤ w4.heap.size := by have := hb3.size; simpa using this
    have hlen := own_len K1.out
    obtain ⟨X, cx, eX, _, _, hrx⟩ := own_form K1.out
    injection eX with eX _ ecx
    subst eX ecx
    have hrl := hr.below (hb3.mono hB)
    rw [← hlen] at hrx
    have Hrx : Hid (RdB _ _ _ _) := hrx
    have Hrl : Hid (RdB _ _ _ _) := hrl
    clear hrx hrl
    go_wp2_with fail
    refine (sumOne (w4.setCell ⟨g, q2, none⟩ (.int .u8 (u.toNat : Int))) _ (by simp) _ cap l.length _ _ hlen (by have := Hl3.out; omega) (by simp) Hrx.out _ rfl).mono ?_
    rintro e w8 ⟨rfl, hb8, hs8⟩
    have hb8' := hb3.trans (hb8.mono hsz)
    have hrl8 := Reads.below Hrl.out (hb8.mono (Nat.le_trans hB hsz))
    clear hb8 Hrl Hrx
    go_wp2_with fail
    refine (sumOne w8 _ rfl _ c l.length B l rfl (by have := Hl3.out; omega) (Nat.le_trans hB hb8'.size) hrl8 _ rfl).mono ?_
    rintro e w9 ⟨rfl, hb9, hs9⟩
    have hb9' := hb8'.trans (hb9.mono hb8'.size)
    clear hb9 hb8' hrl8
    have hne := ne_nat Hne2.out
    have hne' := ne_int Hne2.out
    go_wp2_with fail
    refine (works_any _).mono ?_
    rintro e w10 ⟨rfl, hb10⟩
    go_wp2
    go_ret
    exact ⟨rfl, hb9'.trans (hb10.mono hb9'.size)⟩
  · have hb3 := Hb2.out
    cases two with
    | false =>
      have hsz : w.heap.size ≤ w2.heap.size := by have := hb3.size; simpa using this
      have hlen := own_len H1.out
      obtain ⟨X, cx, eX, _, _, hrx⟩ := own_form H1.out
      injection eX with eX _ ecx
      subst eX ecx
      have hrl := hr.below (hb3.mono hB)
      rw [← hlen] at hrx
      have Hrx : Hid (RdB _ _ _ _) := hrx
      have Hrl : Hid (RdB _ _ _ _) := hrl
      clear hrx hrl
      go_wp2_with fail
      refine (sumOne (w2.setCell ⟨g, q, none⟩ (.int .u8 (y.toNat : Int))) _ (by simp) _ cap l.length _ _ hlen (by have := Hl3.out; omega) (by simp) Hrx.out _ rfl).mono ?_
      rintro e w8 ⟨rfl, hb8, hs8⟩
      have hb8' := hb3.trans (hb8.mono hsz)
      have hrl8 := Reads.below Hrl.out (hb8.mono (Nat.le_trans hB hsz))
      clear hb8 Hrl Hrx
      go_wp2_with fail
      refine (sumOne w8 _ rfl _ c l.length B l rfl (by have := Hl3.out; omega) (Nat.le_trans hB hb8'.size) hrl8 _ rfl).mono ?_
      rintro e w9 ⟨rfl, hb9, hs9⟩
      have hb9' := hb8'.trans (hb9.mono hb8'.size)
      clear hb9 hb8' hrl8
      have hne := ne_nat Hne1.out
      have hne' := ne_int Hne1.out
      go_wp2_with fail
      refine (works_any _).mono ?_
      rintro e w10 ⟨rfl, hb10⟩
      go_wp2
      go_ret
      exact ⟨rfl, hb9'.trans (hb10.mono hb9'.size)⟩
    | true =>
      have hd0 : ¬ n + 1 < 8 * l.length := fun h => htwo ⟨rfl, h⟩
      have hd1 : decide ((n : Int) + 1 < 8 * (l.length : Int)) = false := by rw [decide_eq_false_iff_not]; omega
      clear htwo
      have hsz : w.heap.size ≤ w2.heap.size := by have := hb3.size; simpa using this
      have hlen := own_len H1.out
      obtain ⟨X, cx, eX, _, _, hrx⟩ := own_form H1.out
      injection eX with eX _ ecx
      subst eX ecx
      have hrl := hr.below (hb3.mono hB)
      rw [← hlen] at hrx
      have Hrx : Hid (RdB _ _ _ _) := hrx
      have Hrl : Hid (RdB _ _ _ _) := hrl
      clear hrx hrl
      go_wp2_with fail
      refine (sumOne (w2.setCell ⟨g, q, none⟩ (.int .u8 (y.toNat : Int))) _ (by simp) _ cap l.length _ _ hlen (by have := Hl3.out; omega) (by simp) Hrx.out _ rfl).mono ?_
      rintro e w8 ⟨rfl, hb8, hs8⟩
      have hb8' := hb3.trans (hb8.mono hsz)
      have hrl8 := Reads.below Hrl.out (hb8.mono (Nat.le_trans hB hsz))
      clear hb8 Hrl Hrx
      go_wp2_with fail
      refine (sumOne w8 _ rfl _ c l.length B l rfl (by have := Hl3.out; omega) (Nat.le_trans hB hb8'.size) hrl8 _ rfl).mono ?_
      rintro e w9 ⟨rfl, hb9, hs9⟩
      have hb9' := hb8'.trans (hb9.mono hb8'.size)
      clear hb9 hb8' hrl8
      have hne := ne_nat Hne1.out
      have hne' := ne_int Hne1.out
      go_wp2_with fail
      refine (works_any _).mono ?_
      rintro e w10 ⟨rfl, hb10⟩
      go_wp2
      go_ret
      exact ⟨rfl, hb9'.trans (hb10.mono hb9'.size)⟩
end Go.Proofs.Ythplioblpopfnaa
