/- The walk of the chapter's examples (works): they hold. Conditions: none. -/
import Derived.Test.YtfjelnhdmmpiaaaRefD
namespace Go.Proofs.Ytfjelnhdmmpiaaa
open Go.RowKit

theorem reads_lit (W : World) {xs : List Value} {l : List UInt8} (hx : xs = bs l) : RdB (W.alloc (.cells xs.toArray 5)) (W.heap.size + 1) (some ⟨W.heap.size, 0, none⟩) l := by
  subst hx
  have := reads_new W 5 (bs l)
  rwa [bs_len] at this
theorem takeNew (W : World) (l : List UInt8) (xs : List Value) (hx : xs = bs l) (n : Nat) (hn : l.length = n) (hl : l.length ≤ 1099511627776) (r : Nat × Int × Nat) (hr : take l 0 = r) :
    Calls Try.prog 18 #[.slice (some ⟨W.heap.size, 0, none⟩) n n, .int .i64 0] (W.alloc (.cells xs.toArray 5)) fun e w' => e = .returned (.tuple #[.int .u64 (r.1 : Nat), .int .i64 r.2.1, .int .i64 (r.2.2 : Nat)]) ∧ W.alloc (.cells xs.toArray 5) = w' := by
  subst hn
  subst hr
  exact take_any _ _ _ l 0 _ hl (Nat.le_refl _) (reads_lit W hx)
theorem takeTextNew (W : World) (l : List UInt8) (xs : List Value) (hx : xs = bs l) (n : Nat) (hn : l.length = n) (hl : l.length ≤ 1099511627776) (r : List UInt8 × Int × Nat) (hr : takeText l 0 = r) :
    Calls Try.prog 20 #[.slice (some ⟨W.heap.size, 0, none⟩) n n, .int .i64 0] (W.alloc (.cells xs.toArray 5)) fun e w' => e = .returned (textVal r) ∧ W.alloc (.cells xs.toArray 5) = w' := by
  subst hn
  subst hr
  exact takeText_any _ _ _ l 0 _ hl (Nat.le_refl _) (reads_lit W hx)
theorem sameNew (W : World) (B c : Nat) (A : Option Addr) (l m : List UInt8) (xs : List Value) (hx : xs = bs m) (n : Nat) (hn : m.length = n) (hl : l.length ≤ 1099511627776) (hB : B ≤ W.heap.size) (hr : RdB W B A l) (b : Bool) (hb : decide (l = m) = b) :
    Calls Try.prog 10 #[.slice A l.length c, .slice (some ⟨W.heap.size, 0, none⟩) n n] (W.alloc (.cells xs.toArray 5)) fun e w' => e = .returned (.bool b) ∧ ∃ k, w' = (W.alloc (.cells xs.toArray 5)).drewN k := by
  subst hn
  subst hb
  exact sameBytes_any _ _ _ _ B _ l m _ hl (Reads.alloc hr hB _) (reads_lit W hx)

theorem putNew (W : World) (n : Nat) (x : Int) (hx : x = (n : Int)) (hn : n < 18446744073709551616) :
    Calls Try.prog 14 #[.int .u64 x] W fun e w' => ∃ A c, e = .returned (.slice A (enc n).length c) ∧ RdB w' w'.heap.size A (enc n) ∧ Below W.heap.size W w' := by
  subst hx
  refine (put_any n W hn).mono ?_
  rintro e w' ⟨v, rfl, hown, hb⟩
  obtain ⟨A, c, rfl, _, _, hr⟩ := own_form hown
  exact ⟨A, c, rfl, hr, hb⟩
theorem textNew (W : World) (s : ByteArray) (l : List UInt8) (hs : s.size ≤ 1099511627776) (hl : encText s.data.toList = l) :
    Calls Try.prog 9 #[.string s] W fun e w' => ∃ A c, e = .returned (.slice A l.length c) ∧ RdB w' w'.heap.size A l ∧ Below W.heap.size W w' := by
  subst hl
  refine (text_any s W hs).mono ?_
  rintro e w' ⟨v, rfl, hown, hb⟩
  obtain ⟨A, c, rfl, _, _, hr⟩ := own_form hown
  exact ⟨A, c, rfl, hr, hb⟩

set_option maxHeartbeats 4000000 in
set_option maxRecDepth 100000 in
theorem works_any (w : World) : Calls Try.prog 7 #[] w fun e w' => e = .returned (.bool true) ∧ Below w.heap.size w w' := by
  go_enter Try.func7, Try.ntmps7
  go_wp2_with fail
  refine (takeNew _ [172, 2, 5] _ rfl _ rfl (by decide) (300, 2, 0) (by decide)).mono ?_
  rintro e w1 ⟨rfl, hw1⟩
  have hb1 : Below w.heap.size w w1 := by rw [← hw1]; exact (Below.refl _ _).alloc (Nat.le_refl _) _
  clear hw1
  go_wp2_with fail
  refine (takeNew _ [128] _ rfl _ rfl (by decide) (0, 0, 10) (by decide)).mono ?_
  rintro e w2 ⟨rfl, hw2⟩
  have hb2 : Below w.heap.size w w2 := by rw [← hw2]; exact hb1.alloc hb1.size _
  clear hw2 hb1
  go_wp2_with fail
  refine (takeNew _ [128, 0] _ rfl _ rfl (by decide) (0, 0, 11) (by decide)).mono ?_
  rintro e w3 ⟨rfl, hw3⟩
  have hb3 : Below w.heap.size w w3 := by rw [← hw3]; exact hb2.alloc hb2.size _
  clear hw3 hb2
  go_wp2_with fail
  refine (takeTextNew _ [2, 97] _ rfl _ rfl (by decide) ([], 0, 10) (by decide)).mono ?_
  rintro e w4 ⟨rfl, hw4⟩
  have hb4 : Below w.heap.size w w4 := by rw [← hw4]; exact hb3.alloc hb3.size _
  clear hw4 hb3
  unfold textVal
  go_wp2_with fail
  refine (putNew _ 0 _ rfl (by decide)).mono ?_
  rintro e w5 ⟨A5, c5, rfl, hr5, hc5⟩
  have hb5 := hb4.trans (hc5.mono hb4.size)
  clear hc5 hb4
  go_wp2_with fail
  refine (sameNew _ _ _ _ (enc 0) [0] _ rfl _ rfl (by decide +kernel) (Nat.le_refl _) hr5 true (by decide +kernel)).mono ?_
  rintro e w6 ⟨rfl, k6, hw6⟩
  have hb6 : Below w.heap.size w w6 := by rw [hw6]; exact below_drewN (hb5.alloc hb5.size _) _
  clear hw6 hr5 hb5
  go_wp2_with fail
  refine (putNew _ 127 _ rfl (by decide)).mono ?_
  rintro e w7 ⟨A7, c7, rfl, hr7, hc7⟩
  have hb7 := hb6.trans (hc7.mono hb6.size)
  clear hc7 hb6
  go_wp2_with fail
  refine (sameNew _ _ _ _ (enc 127) [127] _ rfl _ rfl (by decide +kernel) (Nat.le_refl _) hr7 true (by decide +kernel)).mono ?_
  rintro e w8 ⟨rfl, k8, hw8⟩
  have hb8 : Below w.heap.size w w8 := by rw [hw8]; exact below_drewN (hb7.alloc hb7.size _) _
  clear hw8 hr7 hb7
  go_wp2_with fail
  refine (putNew _ 128 _ rfl (by decide)).mono ?_
  rintro e w9 ⟨A9, c9, rfl, hr9, hc9⟩
  have hb9 := hb8.trans (hc9.mono hb8.size)
  clear hc9 hb8
  go_wp2_with fail
  refine (sameNew _ _ _ _ (enc 128) [128, 1] _ rfl _ rfl (by decide +kernel) (Nat.le_refl _) hr9 true (by decide +kernel)).mono ?_
  rintro e w10 ⟨rfl, k10, hw10⟩
  have hb10 : Below w.heap.size w w10 := by rw [hw10]; exact below_drewN (hb9.alloc hb9.size _) _
  clear hw10 hr9 hb9
  go_wp2_with fail
  refine (putNew _ 300 _ rfl (by decide)).mono ?_
  rintro e w11 ⟨A11, c11, rfl, hr11, hc11⟩
  have hb11 := hb10.trans (hc11.mono hb10.size)
  clear hc11 hb10
  go_wp2_with fail
  refine (sameNew _ _ _ _ (enc 300) [172, 2] _ rfl _ rfl (by decide +kernel) (Nat.le_refl _) hr11 true (by decide +kernel)).mono ?_
  rintro e w12 ⟨rfl, k12, hw12⟩
  have hb12 : Below w.heap.size w w12 := by rw [hw12]; exact below_drewN (hb11.alloc hb11.size _) _
  clear hw12 hr11 hb11
  go_wp2_with fail
  refine (textNew _ _ [2, 97, 98] (by decide) (by decide +kernel)).mono ?_
  rintro e w13 ⟨A13, c13, rfl, hr13, hc13⟩
  have hb13 := hb12.trans (hc13.mono hb12.size)
  clear hc13 hb12
  go_wp2_with fail
  refine (sameNew _ _ _ _ [2, 97, 98] [2, 97, 98] _ rfl _ rfl (by decide +kernel) (Nat.le_refl _) hr13 true (by decide +kernel)).mono ?_
  rintro e w14 ⟨rfl, k14, hw14⟩
  have hb14 : Below w.heap.size w w14 := by rw [hw14]; exact below_drewN (hb13.alloc hb13.size _) _
  clear hw14 hr13 hb13
  go_wp2
  go_ret
  exact ⟨rfl, hb14⟩
end Go.Proofs.Ytfjelnhdmmpiaaa
