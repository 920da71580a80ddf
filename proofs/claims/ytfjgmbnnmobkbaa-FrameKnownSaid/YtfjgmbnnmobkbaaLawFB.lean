/- The walk of FrameBits: whatever the frame and the digit, it returns true. Conditions: none. -/
import Derived.Test.YtfjgmbnnmobkbaaFrW
import Derived.Test.YtfjgmbnnmobkbaaLawFlips
import Derived.StillTailTactics
namespace Go.Proofs.Ytfjgmbnnmobkbaa
open Go.RowKit

theorem fsz_inj {a b : Nat} (ha : a < 18446744073709551616) (hb : b < 18446744073709551616) (h : fsz a = fsz b) : a = b := by
  unfold fsz at h
  rcases Nat.lt_trichotomy a b with h1 | h1 | h1
  · have := sz_mono (Nat.le_of_lt h1) hb; omega
  · exact h1
  · have := sz_mono (Nat.le_of_lt h1) ha; omega
theorem pick_at (i : Int) (n : Nat) (z : Int) (hz : z = (n : Int)) (w : World) (h0 : 0 < n) (hn : n ≤ 1099511627776) (hi : -9223372036854775808 ≤ i ∧ i ≤ 9223372036854775807) :
    Calls Try.prog 28 #[.int .i64 i, .int .i64 z] w fun e w' => e = .returned (.int .i64 (i % n)) ∧ w = w' := by
  subst hz
  exact pick_any i n w h0 hn hi
/-- With one digit another one no frame of as many bytes stands there. -/
theorem bits_math {k : UInt8} {l : List UInt8} {q r : Nat} {x : UInt8} (hl : l.length ≤ 65535) (hx : (encFr k l)[q]? = some x) (hr : r < 8) :
    ¬ ((takeF ((encFr k l).set q (x ^^^ bit r)) 0).2.2 = 0 ∧ (takeF ((encFr k l).set q (x ^^^ bit r)) 0).2.1 = ((encFr k l).length : Int)) := by
  rintro ⟨h0, hn⟩
  obtain ⟨p, rest, e1, e2, e3, e4, e5⟩ := takeF_ok h0
  obtain rfl : p = 0 := by omega
  generalize (takeF ((encFr k l).set q (x ^^^ bit r)) 0).1.1 = k' at *
  generalize (takeF ((encFr k l).set q (x ^^^ bit r)) 0).1.2 = l' at *
  rw [e4, encFr_len, Nat.zero_add] at hn
  have hf : fsz l'.length = fsz l.length := by omega
  have hll := fsz_inj (by omega) (by omega) hf
  rw [List.drop_zero] at e2
  have hrest : rest = [] := by
    have := congrArg List.length e2
    rw [List.length_set, List.length_append, encFr_len, encFr_len] at this
    exact List.eq_nil_of_length_eq_zero (by omega)
  subst hrest
  rw [List.append_nil] at e2
  have hql := (List.getElem?_eq_some_iff.1 hx).1
  have hm : (fhead k' l').length = (fhead k l).length := by rw [fhead_len, fhead_len, hll]
  unfold encFr at e2 hx
  by_cases hq : q < (fhead k l).length
  · rw [List.set_append_left _ _ hq] at e2
    obtain ⟨ea, eb⟩ := List.append_inj e2 (by rw [List.length_set]; exact hm.symm)
    have hs := sum4_inj eb
    rw [← ea] at hs
    rw [List.getElem?_append_left hq] at hx
    exact flip_one hx hr hs.symm
  · rw [List.set_append_right _ _ (by omega)] at e2
    obtain ⟨ea, eb⟩ := List.append_inj e2 hm.symm
    rw [← ea] at eb
    rw [List.getElem?_append_right (by omega)] at hx
    have hlt := (List.getElem?_eq_some_iff.1 hx).1
    have h2 := congrArg (fun m => m[q - (fhead k l).length]?) eb
    rw [List.getElem?_set_self hlt, hx] at h2
    injection h2 with h2
    exact xor_ne (bit_ne hr) h2
theorem bits_one {T : List UInt8} (h : ¬ ((takeF T 0).2.2 = 0 ∧ (takeF T 0).2.1 = (T.length : Int))) : (oneF T).2 ≠ 0 := by
  unfold oneF
  split
  · rename_i h1; exact h1
  · rename_i h1
    have h1' : (takeF T 0).2.2 = 0 := by
      rcases Nat.eq_zero_or_pos (takeF T 0).2.2 with h2 | h2
      · exact h2
      · exact absurd (show (takeF T 0).2.2 ≠ 0 by omega) h1
    split
    · simp
    · rename_i h2
      exfalso
      obtain ⟨N, e, hN⟩ := takeF_next T 0 h1'
      exact h ⟨h1', by omega⟩

set_option maxHeartbeats 4000000 in
set_option maxRecDepth 100000 in
theorem bitsLaw_any (f : Fr) (t : Int) (w : World) (hl : f.r.l.length ≤ 9223372036854775807) (ht : -9223372036854775808 ≤ t ∧ t ≤ 9223372036854775807) (hr : RdB w w.heap.size f.r.A f.r.l) :
    Calls Try.prog 6 #[f.v, .int .i64 t] w fun e w' => e = .returned (.bool true) ∧ Below w.heap.size w w' := by
  unfold Fr.v
  obtain ⟨fk, FA, fc, l⟩ := f
  simp only at hl hr ⊢
  have hlI : (l.length : Int) ≤ 9223372036854775807 := by omega
  have hb0 := (Below.refl w.heap.size w).alloc (Nat.le_refl _) (.cells #[.int .u8 (fk.toNat : Int), .slice FA l.length fc] 26)
  by_cases hbig : 400 < l.length
  · have hbI : (400 : Int) < (l.length : Int) := by omega
    clear hbig hl
    go_enter Try.func6, Try.ntmps6
    go_wp2_with fail
    refine (worksF_any _).mono ?_
    rintro e w1 ⟨rfl, hb⟩
    go_wp2
    go_ret
    exact ⟨rfl, hb0.trans (hb.mono hb0.size)⟩
  have hbI : (l.length : Int) ≤ 400 := by omega
  have Hl := Lib.hid (show l.length ≤ 400 by omega)
  have hr0 : RdB (w.alloc (.cells #[.int .u8 (fk.toNat : Int), .slice FA l.length fc] 26)) w.heap.size FA l := Reads.alloc hr (Nat.le_refl _) _
  have Hr0 : Hid (RdB _ _ _ _) := hr0
  have HB0 := Lib.hid hb0
  clear hbig hl hlI hr hr0 hb0
  go_enter Try.func6, Try.ntmps6
  go_wp2_with fail
  refine (frPut_any ⟨fk, ⟨FA, fc, l⟩⟩ w.heap.size _ (by have := Hl.out; simp only; omega) HB0.out.size Hr0.out).mono ?_
  rintro e w2 ⟨⟨v2, rfl, hown2⟩, hb2⟩
  simp only at hown2 ⊢
  rw [joinF_one_ok (by have := Hl.out; omega)] at hown2 ⊢
  simp only at hown2 ⊢
  obtain ⟨T, hT⟩ : ∃ T, T = encFr fk l := ⟨_, rfl⟩
  rw [← hT] at hown2
  obtain ⟨A2, c2, rfl, hc2, _, hr2⟩ := own_form hown2
  have hTl : T.length = fsz l.length := by rw [hT, encFr_len]
  have h6 := fsz_pos l.length
  have h500 : fsz l.length ≤ 500 := by have := sz_10 (n := l.length) (by have := Hl.out; omega); have := Hl.out; unfold fsz; omega
  have hT0 : ((T.length : Int) == 0) = false := by rw [beq_eq_false_iff_ne]; omega
  have hT0' : (T.length == 0) = false := by rw [beq_eq_false_iff_ne]; omega
  have hTI : (T.length : Int) ≤ 500 := by omega
  have hb2' := HB0.out.trans (hb2.mono HB0.out.size)
  have HT := Lib.hid hT
  have HT6 := Lib.hid (show 6 ≤ T.length by omega)
  have Hr2 : Hid (RdB w2 w2.heap.size A2 T) := hr2
  have HB2 := Lib.hid hb2'
  clear hT hTl h6 h500 hb2 hb2' hown2 hr2 hc2 HB0 Hr0
  go_wp2_with fail
  have h8 : (8 : Int) * (T.length : Int) = ((8 * T.length : Nat) : Int) := by omega
  refine (pick_at t (8 * T.length) _ h8 w2 (by have := HT6.out; omega) (by omega) ht).mono ?_
  rintro e _ ⟨rfl, rfl⟩
  obtain ⟨n, hn⟩ : ∃ n : Nat, (n : Int) = t % ((8 * T.length : Nat) : Int) := ⟨(t % ((8 * T.length : Nat) : Int)).toNat, Int.toNat_of_nonneg (Int.emod_nonneg _ (by have := HT6.out; omega))⟩
  have hnl : (n : Int) < 8 * (T.length : Int) := by rw [hn, h8]; exact Int.emod_lt_of_pos _ (by have := HT6.out; omega)
  rw [← hn]
  clear hn h8 ht
  obtain ⟨q, hq⟩ : ∃ q, q = n / 8 := ⟨_, rfl⟩
  obtain ⟨r, hr8⟩ : ∃ r, r = n % 8 := ⟨_, rfl⟩
  have hqI : (n : Int) / 8 = (q : Int) := by omega
  have hrI : (n : Int) % 8 = (r : Int) := by omega
  have hql : (q : Int) < (T.length : Int) := by omega
  have hq0 : (0 : Int) ≤ (q : Int) := by omega
  have hr0 : (0 : Int) ≤ (r : Int) := by omega
  have hr8' : (r : Int) < 8 := by omega
  clear hq hr8
  go_wp2_with fail
  refine (own_any A2 c2 w2.heap.size T w2 (by omega) Hr2.out).mono ?_
  rintro e w3 ⟨v3, rfl, hown3, hb3⟩
  obtain ⟨g, cap, rfl, hg, _⟩ := hown3.form (by have := HT6.out; omega)
  have Hcap : Hid (T.length ≤ cap) := by
    obtain ⟨_, _, e7, hcc, _, _⟩ := own_form hown3
    simp only [Value.slice.injEq] at e7
    obtain ⟨_, _, rfl⟩ := e7
    exact hcc
  obtain ⟨w4, hw4⟩ : ∃ w4, w4 = w3.drew := ⟨_, rfl⟩
  have hown4 : w4.ownsRow w2.heap.size 5 1 (.slice (some ⟨g, 0, none⟩) T.length cap) T.length (bs T) := by rw [hw4]; exact World.ownsRow.drew hown3
  have hb4 : Below w.heap.size w w4 := by rw [hw4]; exact (HB2.out.trans (hb3.mono HB2.out.size)).drew
  obtain ⟨x, hcx, hx⟩ := own_cell hown3 (k := q) (by omega)
  have hf := hown3.frozenAt q
  have hcx4 : w4.cell? ⟨g, q, none⟩ = some (.int .u8 (x.toNat : Int)) := by rw [hw4]; exact hcx
  have hf4 := hown4.frozenAt q
  obtain ⟨y, hy⟩ : ∃ y, y = x ^^^ bit r := ⟨_, rfl⟩
  obtain ⟨h1, h2⟩ := own_set (k := q) (x := (y.toNat : Int)) y hown4 rfl
  have H1 := Lib.hid h1
  have Hb4 := Lib.hid (hb4.setCell (p := ⟨g, q, none⟩) (by have := HB2.out.size; simp only; omega) (.int .u8 (y.toNat : Int)))
  clear hown3 hown4 h1 h2 hb3 hb4
  have hwq : IntKind.i64.wrap (q : Int) = (q : Int) := IntWalk.i64_in _ (by omega)
  have hwr : IntKind.i64.wrap (r : Int) = (r : Int) := IntWalk.i64_in _ (by omega)
  have htm : (n : Int).tmod 8 = (r : Int) := by rw [Int.tmod_eq_emod_of_nonneg (by omega)]; exact hrI
  have htd : (n : Int).tdiv 8 = (q : Int) := by rw [Int.tdiv_eq_ediv_of_nonneg (by omega)]; exact hqI
  have hp1 := pow_bit (r := r) (by omega)
  have hp2 := wrap_bit (r := r) (by omega)
  have hp3 := xor8 x (bit r)
  rw [← hy] at hp3
  have Hy := Lib.hid hy
  have Hr8 := Lib.hid (show r < 8 by omega)
  clear hy hnl
  go_wp2_with fail
  go_still_tail 13, (by kernel_rfl)
  change wpList _ _ _ _ _ w3.drew
  rw [← hw4]
  clear hw4 hcx hf
  have hmath := bits_math (k := fk) (l := l) (q := q) (r := r) (x := x) (by have := Hl.out; omega) (by rw [← HT.out]; exact hx.out) Hr8.out
  rw [← HT.out, ← Hy.out] at hmath
  have hsl : (T.set q y).length = T.length := List.length_set
  have hone := bits_one (T := T.set q y) (by rw [hsl]; exact hmath)
  have Hmath := Lib.hid hmath
  have Hone := Lib.hid hone
  have Hsl := Lib.hid hsl
  clear hmath hone hsl hp1 hp2 hp3 hwq hwr htm htd hqI hrI hql hq0 hr0 hr8'
  obtain ⟨W, hW⟩ : ∃ W, W = w4.setCell ⟨g, q, none⟩ (.int .u8 (y.toNat : Int)) := ⟨_, rfl⟩
  rw [← hW] at H1 Hb4
  have HW := Lib.hid hW
  clear hW
  obtain ⟨A8, c8, e8, _, _, hr8⟩ := own_form H1.out
  simp only [Value.slice.injEq, true_and] at e8
  obtain ⟨rfl, rfl⟩ := e8
  have hr8' : RdB W W.heap.size (some ⟨g, 0, none⟩) (T.set q y) := by rw [← Hsl.out] at hr8; exact hr8
  have Hr8' : Hid (RdB W W.heap.size (some ⟨g, 0, none⟩) (T.set q y)) := hr8'
  clear hr8 hr8' H1
  obtain ⟨⟨k', M'⟩, nx, e', ht'⟩ : ∃ f n e, takeF (T.set q y) 0 = (f, n, e) := ⟨_, _, _, rfl⟩
  obtain ⟨⟨ok, O⟩, oe, ho'⟩ : ∃ f e, oneF (T.set q y) = (f, e) := ⟨_, _, rfl⟩
  have Ht' := Lib.hid ht'
  have Ho' := Lib.hid ho'
  have hm := Hmath.out
  have ho2 := Hone.out
  rw [ht'] at hm
  rw [ho'] at ho2
  simp only at hm ho2
  have hoe : ((oe : Int) != 0) = true := by rw [bne_iff_ne]; omega
  have hoe' : (oe != 0) = true := by rw [bne_iff_ne]; exact ho2
  clear ht' ho' ho2
  go_wp2_with fail
  rw [← HW.out]
  refine (frTake_n (some ⟨g, 0, none⟩) T.length cap W.heap.size (T.set q y) Hsl.out 0 W (by omega) Hcap.out (Nat.le_refl _) Hr8'.out).mono ?_
  rintro e w5 ⟨⟨v5, rfl, hown5⟩, hb5⟩
  rw [Ht'.out] at hown5 ⊢
  simp only at hown5 ⊢
  obtain ⟨A5, c5, rfl, _, _, _⟩ := own_form hown5
  obtain ⟨W5, hW5⟩ : ∃ W5 : World, W5 = w5.alloc (.cells #[.int .u8 (k'.toNat : Int), .slice A5 M'.length c5] 26) := ⟨_, rfl⟩
  have S5 : Below W.heap.size W W5 := by rw [hW5]; exact hb5.alloc hb5.size _
  have HW5 := Lib.hid hW5
  clear hW5 hown5 hb5
  go_wp2_with fail
  rw [← HW5.out]
  have hone := frOne_any (some ⟨g, 0, none⟩) cap W.heap.size (T.set q y) W5 (by rw [Hsl.out]; omega) (by rw [Hsl.out]; exact Hcap.out) S5.size (Reads.below Hr8'.out S5)
  rw [Hsl.out] at hone
  refine hone.mono ?_
  rintro e w6 ⟨⟨v6, rfl, hown6⟩, hb6⟩
  rw [Ho'.out] at hown6 ⊢
  simp only at hown6 ⊢
  obtain ⟨A6, c6, rfl, _, _, _⟩ := own_form hown6
  have hbb := (Hb4.out.trans (S5.mono Hb4.out.size))
  have hbb6 := (hbb.trans (hb6.mono hbb.size)).alloc (hbb.trans (hb6.mono hbb.size)).size (.cells #[.int .u8 (ok.toNat : Int), .slice A6 O.length c6] 26)
  have HBB := Lib.hid hbb6
  clear hone hown6 hb6 hbb hbb6 S5
  by_cases he : e' = 0
  · subst he
    have hnx : (nx != (T.length : Int)) = true := by rw [bne_iff_ne]; intro h; exact hm ⟨rfl, h⟩
    clear hm
    go_wp2_with fail
    refine (worksF_any _).mono ?_
    rintro e w7 ⟨rfl, hb7⟩
    go_wp2
    go_ret
    exact ⟨rfl, HBB.out.trans (hb7.mono HBB.out.size)⟩
  · have heI : ((e' : Int) != 0) = true := by rw [bne_iff_ne]; omega
    have heI' : (e' != 0) = true := by rw [bne_iff_ne]; exact he
    clear hm he
    go_wp2_with fail
    refine (worksF_any _).mono ?_
    rintro e w7 ⟨rfl, hb7⟩
    go_wp2
    go_ret
    exact ⟨rfl, HBB.out.trans (hb7.mono HBB.out.size)⟩
end Go.Proofs.Ytfjgmbnnmobkbaa
