/- The walk of VarintPuts: whatever the numbers and the text, it returns true. Conditions: none (numbers are 64-bit words). -/
import Derived.Test.YtfjelnhdmmpiaaaLawTakes
namespace Go.Proofs.Ytfjelnhdmmpiaaa
open Go.RowKit

set_option maxHeartbeats 4000000 in
set_option maxRecDepth 100000 in
theorem putsLaw_any (A : Option Addr) (c : Nat) (l : List Nat) (s : ByteArray) (w : World) (hl : l.length ≤ 9223372036854775807) (hs : s.size ≤ 9223372036854775807) (hr : RdU w w.heap.size A l) (hn : ∀ n ∈ l, n < 18446744073709551616) :
    Calls Try.prog 3 #[.slice A l.length c, .string s] w fun e w' => e = .returned (.bool true) ∧ Below w.heap.size w w' := by
  have hlI : (l.length : Int) ≤ 9223372036854775807 := by omega
  have hsI : (s.size : Int) ≤ 9223372036854775807 := by omega
  have Hn := Lib.hid hn
  clear hl hs hn
  by_cases h1 : (50 : Int) < (l.length : Int)
  · go_enter Try.func3, Try.ntmps3
    go_wp2_with fail
    refine (works_any _).mono ?_
    rintro e w1 ⟨rfl, hb⟩
    go_wp2
    go_ret
    exact ⟨rfl, hb⟩
  have h1' : (l.length : Int) ≤ 50 := by omega
  clear h1
  by_cases h2 : (2000 : Int) < (s.size : Int)
  · go_enter Try.func3, Try.ntmps3
    go_wp2_with fail
    refine (works_any _).mono ?_
    rintro e w1 ⟨rfl, hb⟩
    go_wp2
    go_ret
    exact ⟨rfl, hb⟩
  have h2' : (s.size : Int) ≤ 2000 := by omega
  clear h2
  have Hl := Lib.hid (show l.length ≤ 68719476736 by omega)
  have Hs := Lib.hid (show s.size ≤ 1099511627776 by omega)
  have hel : (encs l).length ≤ 1099511627776 := by have := encs_le l Hn.out; omega
  have het : (encText s.data.toList).length ≤ 1099511627776 := by
    have e : s.data.toList.length = s.size := by simp
    have := sz_10 (n := s.size) (by omega)
    unfold sz at this
    unfold encText
    rw [List.length_append, e]
    omega
  have Hel := Lib.hid hel
  have Het := Lib.hid het
  clear hel het
  go_enter Try.func3, Try.ntmps3
  go_wp2
  go_loopw [5] (fun t wr => ∃ k : Nat, k ≤ 2 ∧ t = .int .i64 (k : Int) ∧ Below w.heap.size w wr) (fun t _ => 2 - (intOf t).toNat)
  case atStart => exact ⟨0, by omega, rfl, .refl _ _⟩
  case round =>
    obtain ⟨k, hk, rfl, hb⟩ := hrel
    by_cases hlt : k < 2
    · go_wp2_with fail
      refine (all_any A c l _ Hl.out ((hr.below hb).more hb.size) Hn.out).mono ?_
      rintro e w1 ⟨v1, rfl, hown1, hb1⟩
      have hbb1 := hb.trans (hb1.mono hb.size)
      go_wp2_with fail
      refine (text_any s _ Hs.out).mono ?_
      rintro e w2 ⟨v2, rfl, hown2, hb2⟩
      have hbb2 := hbb1.trans (hb2.mono hbb1.size)
      have hown1b := own_below hown1 hb2 (Nat.le_refl _)
      have hlt1 := hown1.lt
      have Hlt1 := Lib.hid hlt1
      clear hown1 hbb1 hlt1
      go_wp2_with fail
      refine (refAll_any A c l _ Hl.out ((hr.below hbb2).more hbb2.size) Hn.out).mono ?_
      rintro e w3 ⟨v3, rfl, hown3, hb3⟩
      obtain ⟨A3, c3, rfl, _, _, hr3⟩ := own_form hown3
      have hbb3 := hbb2.trans (hb3.mono hbb2.size)
      have hown1c := own_below hown1b hb3 (Nat.le_refl _)
      have hown2c := own_below hown2 hb3 (Nat.le_refl _)
      obtain ⟨A1, c1, rfl, _, _, hr1⟩ := own_form hown1c
      clear hown1b hown2 hown3 hbb2
      go_wp2_with fail
      refine (sameBytes_any A1 A3 c1 c3 _ _ (encs l) (encs l) _ Hel.out hr1 hr3).mono ?_
      rintro e w4 ⟨rfl, k4, hw4⟩
      have hbb4 : Below w.heap.size w w4 := by rw [hw4]; exact below_drewN hbb3 k4
      have hown1d : w4.ownsRow wr.heap.size 5 1 (.slice A1 (encs l).length c1) (encs l).length (bs (encs l)) := by rw [hw4]; exact hown1c
      have hown2d : w4.ownsRow w1.heap.size 5 1 v2 (encText s.data.toList).length (bs (encText s.data.toList)) := by rw [hw4]; exact hown2c
      have hsz4 : w3.heap.size = w4.heap.size := by rw [hw4]; rfl
      clear hr1 hr3 hown1c hown2c hw4 hbb3 hsz4
      rw [decide_eq_true (rfl : encs l = encs l)]
      go_wp2_with fail
      refine (refText_any s _ Hs.out).mono ?_
      rintro e w5 ⟨v5, rfl, hown5, hb5⟩
      obtain ⟨A5, c5, rfl, _, _, hr5⟩ := own_form hown5
      have hbb5 := hbb4.trans (hb5.mono hbb4.size)
      have hown1e := own_below hown1d hb5 (Nat.le_refl _)
      have hown2e := own_below hown2d hb5 (Nat.le_refl _)
      obtain ⟨A2, c2, rfl, _, _, hr2⟩ := own_form hown2e
      clear hown1d hown2d hown5 hbb4
      go_wp2_with fail
      refine (sameBytes_any A2 A5 c2 c5 _ _ _ _ _ Het.out hr2 hr5).mono ?_
      rintro e w6 ⟨rfl, k6, hw6⟩
      have hbb6 : Below w.heap.size w w6 := by rw [hw6]; exact below_drewN hbb5 k6
      have hown1f : w6.ownsRow wr.heap.size 5 1 (.slice A1 (encs l).length c1) (encs l).length (bs (encs l)) := by rw [hw6]; exact hown1e
      have hown2f : w6.ownsRow w1.heap.size 5 1 (.slice A2 (encText s.data.toList).length c2) (encText s.data.toList).length (bs (encText s.data.toList)) := by rw [hw6]; exact hown2e
      clear hr2 hr5 hown1e hown2e hw6 hbb5
      rw [decide_eq_true (rfl : encText s.data.toList = encText s.data.toList)]
      go_wp2_with fail
      refine (spoil_any wr.heap.size _ _ _ _ Hel.out hown1f).mono ?_
      rintro e w7 ⟨rfl, _, hg7⟩
      have hbb7 := hbb6.grown hg7 hbb6.size (fun j hj => Nat.le_trans hb.size (Hlt1.out j hj).1)
      have hown2g := hown2f.kept hg7 (by
        rcases ho : Value.ownBlock (.slice A2 (encText s.data.toList).length c2) with _ | g
        · exact .inl rfl
        · right
          intro e
          have h1 := (hown2f.lt g ho).1
          have h2 := (Hlt1.out g e.symm).2
          omega)
      have hlt2 := hown2f.lt
      have Hlt2 := Lib.hid hlt2
      clear hown1f hown2f hbb6 hlt2 hg7
      go_wp2_with fail
      refine (spoil_any w1.heap.size _ _ _ _ Het.out hown2g).mono ?_
      rintro e w8 ⟨rfl, _, hg8⟩
      have hbb8 := hbb7.grown hg8 hbb7.size (fun j hj => Nat.le_trans (Nat.le_trans hb.size hb1.size) (Hlt2.out j hj).1)
      clear hown2g hbb7 hg8
      go_wp2
      go_roundw
      case rel => exact ⟨k + 1, by omega, by go_num, hbb8⟩
      case measure => simp [intOf]; omega
    · go_wp2
      go_loopw [8] (fun t wr => ∃ k : Nat, k ≤ l.length ∧ t = .int .i64 (k : Int) ∧ Below w.heap.size w wr) (fun t _ => l.length - (intOf t).toNat)
      case atStart => exact ⟨0, by omega, rfl, hb⟩
      case round =>
        clear hb
        obtain ⟨i, hi, rfl, hb⟩ := hrel
        by_cases hlt' : i < l.length
        · obtain ⟨ad, x, rfl, hab, hc, hx⟩ := RdU.at_ hr hlt'
          have hx64 := Hn.out x (mem_of_get hx)
          have Hx64 := Lib.hid hx64
          have hx10 := sz_10 hx64
          have Hx10 := Lib.hid (show (enc x).length ≤ 1099511627776 by unfold sz at hx10; omega)
          have hc0 : wr.cell? (ad.add i) = some (.int .u64 (x : Int)) := by rw [hb.cell (p := ad.add i) (by rw [block_of_add]; exact hab)]; exact hc
          clear hx64 hx10
          go_wp2_with fail
          refine (put_any x _ Hx64.out).mono ?_
          rintro e w1 ⟨v1, rfl, hown1, hb1⟩
          have hbb1 := hb.trans (hb1.mono hb.size)
          have hc1 : w1.cell? (ad.add i) = some (.int .u64 (x : Int)) := by rw [hbb1.cell (p := ad.add i) (by rw [block_of_add]; exact hab)]; exact hc
          clear hc0 hb1
          go_wp2_with fail
          refine (refPut_any x _ Hx64.out).mono ?_
          rintro e w2 ⟨v2, rfl, hown2, hb2⟩
          obtain ⟨A2, c2, rfl, _, _, hr2⟩ := own_form hown2
          have hown1b := own_below hown1 hb2 (Nat.le_refl _)
          obtain ⟨A1, c1, rfl, _, _, hr1⟩ := own_form hown1b
          have hbb2 := hbb1.trans (hb2.mono hbb1.size)
          clear hc1 hown1 hown1b hown2 hbb1
          go_wp2_with fail
          refine (sameBytes_any A1 A2 c1 c2 _ _ (enc x) (enc x) _ Hx10.out hr1 hr2).mono ?_
          rintro e w3 ⟨rfl, k3, hw3⟩
          have hbb3 : Below w.heap.size w w3 := by rw [hw3]; exact below_drewN hbb2 k3
          have hc3 : w3.cell? (ad.add i) = some (.int .u64 (x : Int)) := by rw [hbb3.cell (p := ad.add i) (by rw [block_of_add]; exact hab)]; exact hc
          clear hr1 hr2 hw3 hbb2
          rw [decide_eq_true (rfl : enc x = enc x)]
          go_wp2_with fail
          refine (size_any x _ Hx64.out).mono ?_
          rintro e _ ⟨rfl, rfl⟩
          have hcmp : (((sz x : Nat) : Int) != ((enc x).length : Int)) = false := by simp
          have hcmp' : ((enc x).length != (enc x).length) = false := by simp
          go_wp2
          go_roundw
          case rel => exact ⟨i + 1, by omega, by go_num, hbb3⟩
          case measure => simp [intOf]; omega
        · go_wp2_with fail
          refine (works_any _).mono ?_
          rintro e w8 ⟨rfl, hb8⟩
          have hbb8 := hb.trans (hb8.mono hb.size)
          go_wp2
          go_ret
          exact ⟨rfl, hbb8⟩
end Go.Proofs.Ytfjelnhdmmpiaaa
