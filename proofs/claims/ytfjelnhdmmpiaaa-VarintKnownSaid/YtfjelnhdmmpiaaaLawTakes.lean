/- The walk of VarintTakes: whatever the bytes, the place and the number of numbers, it returns true. Conditions: none. -/
import Derived.Test.YtfjelnhdmmpiaaaWorks
namespace Go.Proofs.Ytfjelnhdmmpiaaa
open Go.RowKit

theorem many_form {B : Nat} {r : List Nat × Int × Nat} {e : Ending} {w : World} (h : ManyVal B r e w) : ∃ A c, e = .returned (.tuple #[.slice A r.1.length c, .int .i64 r.2.1, .int .i64 (r.2.2 : Nat)]) ∧ RdU w w.heap.size A r.1 := by
  obtain ⟨v, rfl, hown⟩ := h
  obtain ⟨A, c, rfl, _, _, hr⟩ := own_form hown
  exact ⟨A, c, rfl, hr⟩
theorem many_len (l : List UInt8) (p0 : Int) : ∀ (k : Nat) (p : Int) (acc : List Nat), (takeMany l p0 k p acc).1.length ≤ acc.length + k
  | 0, p, acc => by simp [takeMany]
  | k + 1, p, acc => by
    rw [takeMany]
    split
    · simp
    · have := many_len l p0 k (take l p).2.1 (acc ++ [(take l p).1])
      simp only [List.length_append, List.length_cons, List.length_nil] at this
      omega

set_option maxHeartbeats 4000000 in
set_option maxRecDepth 100000 in
theorem takesLaw_any (A : Option Addr) (c B : Nat) (l : List UInt8) (p many : Int) (w : World) (hl : l.length ≤ 9223372036854775807) (hcap : l.length ≤ c) (hB : B ≤ w.heap.size) (hr : RdB w B A l) :
    Calls Try.prog 4 #[.slice A l.length c, .int .i64 p, .int .i64 many] w fun e w' => e = .returned (.bool true) ∧ Below w.heap.size w w' := by
  have hlI : (l.length : Int) ≤ 9223372036854775807 := by omega
  clear hl
  by_cases h1 : 2000 < l.length
  · have h1' : (2000 : Int) < (l.length : Int) := by omega
    go_enter Try.func4, Try.ntmps4
    go_wp2_with fail
    refine (works_any _).mono ?_
    rintro e w1 ⟨rfl, hb⟩
    go_wp2
    go_ret
    exact ⟨rfl, hb⟩
  have h1' : (l.length : Int) ≤ 2000 := by omega
  by_cases h2 : 100 < many
  · clear h1
    go_enter Try.func4, Try.ntmps4
    go_wp2_with fail
    refine (works_any _).mono ?_
    rintro e w1 ⟨rfl, hb⟩
    go_wp2
    go_ret
    exact ⟨rfl, hb⟩
  have h2' : many ≤ 100 := by omega
  have hl40 : l.length ≤ 1099511627776 := by omega
  have Hl := Lib.hid hl40
  have hml := many_len l p many.toNat p []
  have hml' : (takeAll l p many).1.length ≤ 1099511627776 := by
    unfold takeAll
    simp only [List.length_nil] at hml
    omega
  have Hml := Lib.hid hml'
  clear h1 h2 hl40 hml hml'
  go_enter Try.func4, Try.ntmps4
  go_wp2_with fail
  refine (own_any A c B l _ Hl.out hr).mono ?_
  rintro e w1 ⟨v1, rfl, hown1, hb1⟩
  obtain ⟨A1, c1, rfl, hc1, _, hr1⟩ := own_form hown1
  clear hown1
  go_wp2_with fail
  refine (take_any A c B l p _ Hl.out hcap (hr.below (hb1.mono hB))).mono ?_
  rintro e _ ⟨rfl, rfl⟩
  go_wp2_with fail
  refine (refTake_any A1 c1 w1.heap.size l p _ Hl.out (Nat.le_refl _) hr1).mono ?_
  rintro e w2 ⟨rfl, hb2⟩
  have hr2 := (hr1.below hb2).more hb2.size
  have hb2' := hb1.trans (hb2.mono hb1.size)
  clear hr1 hb1 hb2
  go_wp2_with fail
  refine (takeText_any A c B l p _ Hl.out hcap (hr.below (hb2'.mono hB))).mono ?_
  rintro e _ ⟨rfl, rfl⟩
  unfold textVal
  go_wp2_with fail
  refine (refTakeText_any A1 c1 w2.heap.size l p _ Hl.out hc1 (Nat.le_refl _) hr2).mono ?_
  rintro e w3 ⟨rfl, hb3⟩
  have hr3 := (hr2.below hb3).more hb3.size
  have hb3' := hb2'.trans (hb3.mono hb2'.size)
  clear hr2 hb2' hb3
  unfold textVal
  go_wp2_with fail
  refine (takeAll_any A c B l p many _ Hl.out hcap (Nat.le_trans hB hb3'.size) (hr.below (hb3'.mono hB)) (by omega)).mono ?_
  rintro e w4 ⟨hv4, hb4⟩
  obtain ⟨A4, c4, rfl, hr4⟩ := many_form hv4
  have hr3' := (hr3.below hb4).more hb4.size
  have hb4' := hb3'.trans (hb4.mono hb3'.size)
  clear hv4 hr3 hb3' hb4
  go_wp2_with fail
  refine (refTakeAll_any A1 c1 w4.heap.size l p many _ Hl.out (Nat.le_refl _) hr3' (by omega)).mono ?_
  rintro e w5 ⟨hv5, hb5⟩
  obtain ⟨A5, c5, rfl, hr5⟩ := many_form hv5
  have hr4' := (hr4.below hb5).more hb5.size
  have hr3'' := (hr3'.below hb5).more hb5.size
  have hb5' := hb4'.trans (hb5.mono hb4'.size)
  clear hv5 hr4 hr3' hb4' hb5
  go_wp2_with fail
  refine (sameWords_any A4 A5 c4 c5 _ _ _ _ _ Hml.out hr4' hr5).mono ?_
  rintro e w6 ⟨rfl, k6, hw6⟩
  have hr3 : RdB w6 w5.heap.size A1 l := by rw [hw6]; exact hr3''
  have hb6 : Below w.heap.size w w6 := by rw [hw6]; exact below_drewN hb5' k6
  clear hr4' hr5 hr3'' hb5' hw6
  rw [decide_eq_true (rfl : (takeAll l p many).1 = (takeAll l p many).1)]
  go_wp2_with fail
  refine (sameBytes_any A A1 c c1 B _ l l _ Hl.out (hr.below (hb6.mono hB)) hr3).mono ?_
  rintro e w7 ⟨rfl, k7, hw7⟩
  have hb7 : Below w.heap.size w w7 := by rw [hw7]; exact below_drewN hb6 k7
  clear hr3 hb6 hw7
  rw [decide_eq_true (rfl : l = l)]
  go_wp2_with fail
  refine (works_any _).mono ?_
  rintro e w8 ⟨rfl, hb8⟩
  have hb8' := hb7.trans (hb8.mono hb7.size)
  clear hb7 hb8
  go_wp2
  go_ret
  exact ⟨rfl, hb8'⟩
end Go.Proofs.Ytfjelnhdmmpiaaa
