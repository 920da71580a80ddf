/- Are all edits right, and how many bytes they have: the program's and the document's. Conditions: at most 65536 edits. -/
import Derived.Test.YtohgghaooppcoaaDlA
namespace Go.Proofs.Ytohgghaooppcoaa
open Go.RowKit Go.Lib

theorem right_is (x : Ed) (b : Bool) (h : Hid (rt x = b)) (w : World) : Calls Try.prog 34 #[x.v] w fun e w' => e = .returned (.bool b) ∧ Below w.heap.size w w' := by
  have := right_any x w
  rwa [h.out] at this
theorem refRight_is (x : Ed) (b : Bool) (h : Hid (rt x = b)) (hx : x.Ok) (w : World) : Calls Try.prog 35 #[x.v] w fun e w' => e = .returned (.bool b) ∧ Below w.heap.size w w' := by
  have := refRight_any x w (by have := hx.s; omega)
  rwa [h.out] at this
theorem hid_bool (b : Bool) : (Hid (b = true)) ∨ (Hid (b = false)) := by cases b; exact .inr rfl; exact .inl rfl
set_option maxHeartbeats 1000000 in
set_option maxRecDepth 100000 in
theorem allRight_any (A : Option Addr) (c B : Nat) (l : List Ed) (w : World) (hl : l.length ≤ 1099511627776) (hB : B ≤ w.heap.size) (hr : RdE w B A l) :
    Calls Try.prog 21 #[.slice A l.length c] w fun e w' => e = .returned (.bool (allRt l)) ∧ Below w.heap.size w w' := by
  have hlen : (l.length : Int) ≤ 1099511627776 := by omega
  have HB := Lib.hid hB
  clear hl hB
  go_enter Try.func21, Try.ntmps21
  go_wp2
  go_loopw [7] (fun i wr => ∃ k : Nat, k ≤ l.length ∧ i = .int .i64 (k : Int) ∧ Hid (allRt (l.take k) = true) ∧ Below w.heap.size w wr) (fun i _ => l.length - (Lib.intOf i).toNat)
  case atStart => exact ⟨0, by omega, rfl, rfl, .refl _ _⟩
  case round =>
    obtain ⟨k, hk, rfl, hall, hb⟩ := hrel
    by_cases hlt : k < l.length
    · obtain ⟨ad, x, rfl, _, hc0, hc1, hc2, hx⟩ := RdE.at_ (Reads.below hr (hb.mono HB.out)) hlt
      have hb1 := hb.alloc hb.size (.cells x.cells.toArray 47)
      rcases hid_bool (rt x) with hrt | hrt
      · go_wp2_with fail
        refine (right_is x true hrt _).mono ?_
        rintro e w1 ⟨rfl, hb2⟩
        have hb3 := hb1.trans (hb2.mono hb1.size)
        go_wp2
        go_roundw
        case rel => exact ⟨k + 1, by omega, by go_num, allRt_snoc hall hx hrt.out, hb3⟩
        case measure => simp [Lib.intOf]; omega
      · go_wp2_with fail
        refine (right_is x false hrt _).mono ?_
        rintro e w1 ⟨rfl, hb2⟩
        have hb3 := hb1.trans (hb2.mono hb1.size)
        have Hv := Lib.hid (allRt_false hx hrt.out)
        go_wp2
        go_ret
        exact ⟨ret_b Hv.out.symm, hb3⟩
    · obtain rfl : k = l.length := by omega
      have Hv := Lib.hid (allRt_takes hall)
      go_wp2
      go_ret
      exact ⟨ret_b Hv.out.symm, hb⟩
set_option maxHeartbeats 1000000 in
set_option maxRecDepth 100000 in
theorem refAllRight_any (A : Option Addr) (c B : Nat) (l : List Ed) (w : World) (hl : l.length ≤ 1099511627776) (hok : Oks l) (hB : B ≤ w.heap.size) (hr : RdE w B A l) :
    Calls Try.prog 22 #[.slice A l.length c] w fun e w' => e = .returned (.bool (allRt l)) ∧ Below w.heap.size w w' := by
  have hlen : (l.length : Int) ≤ 1099511627776 := by omega
  have HB := Lib.hid hB
  have Hok : Hid (Oks l) := hok
  clear hl hB hok
  go_enter Try.func22, Try.ntmps22
  go_wp2
  go_loopw [3] (fun i wr => ∃ k : Nat, k ≤ l.length ∧ i = .int .i64 (k : Int) ∧ Hid (allRt (l.take k) = true) ∧ Below w.heap.size w wr) (fun i _ => l.length - (Lib.intOf i).toNat)
  case atStart => exact ⟨0, by omega, rfl, rfl, .refl _ _⟩
  case round =>
    obtain ⟨k, hk, rfl, hall, hb⟩ := hrel
    by_cases hlt : k < l.length
    · obtain ⟨ad, x, rfl, _, hc0, hc1, hc2, hx⟩ := RdE.at_ (Reads.below hr (hb.mono HB.out)) hlt
      rcases hid_bool (rt x) with hrt | hrt
      · go_wp2_with fail
        refine (refRight_is x true hrt (Hok.out.get hx) _).mono ?_
        rintro e w1 ⟨rfl, hb2⟩
        have hb3 := hb.trans (hb2.mono hb.size)
        go_wp2
        go_roundw
        case rel => exact ⟨k + 1, by omega, by go_num, allRt_snoc hall hx hrt.out, hb3⟩
        case measure => simp [Lib.intOf]; omega
      · go_wp2_with fail
        refine (refRight_is x false hrt (Hok.out.get hx) _).mono ?_
        rintro e w1 ⟨rfl, hb2⟩
        have hb3 := hb.trans (hb2.mono hb.size)
        have Hv := Lib.hid (allRt_false hx hrt.out)
        go_wp2
        go_ret
        exact ⟨ret_b Hv.out.symm, hb3⟩
    · obtain rfl : k = l.length := by omega
      have Hv := Lib.hid (allRt_takes hall)
      go_wp2
      go_ret
      exact ⟨ret_b Hv.out.symm, hb⟩
end Go.Proofs.Ytohgghaooppcoaa
