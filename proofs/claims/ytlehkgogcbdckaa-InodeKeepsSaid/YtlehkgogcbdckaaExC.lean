/- The walks of end, and of the reference's Bytes and Volatile. Conditions: files of at most 1000 parts of 100000 bytes. -/
import Derived.Test.YtlehkgogcbdckaaExB
namespace Go.Proofs.Ytlehkgogcbdckaa
open Go.RowKit

set_option maxHeartbeats 1000000 in
set_option maxRecDepth 100000 in
theorem end_any {X : Nat → Prop} (A : Option Addr) (c : Nat) (ps : List Pa) (w : World) (hs : SmM (says ps)) (hr : PsX w X A ps) :
    Calls Try.prog 41 #[.slice A ps.length c] w fun e w' => e = .returned (.int .i64 ((endM (says ps) : Nat) : Int)) ∧ w' = w := by
  have hlen : (ps.length : Int) ≤ 1000 := by have := hs.n; rw [says_len] at this; omega
  have Hs := Lib.hid hs
  clear hs
  go_enter Try.func41, Try.ntmps41
  go_wp2
  go_step3
  go_wp2
  go_step3
  go_wp2
  go_loopw [3] (fun i wr => ∃ k : Nat, k ≤ ps.length ∧ i = .int .i64 (k : Int) ∧ wr = w ∧ Hid (endM ((says ps).take k) = endM (says ps))) (fun i _ => (intOf i).toNat)
  case atStart => exact ⟨ps.length, by omega, rfl, rfl, by show _ = _; rw [← says_len, List.take_length]⟩
  case round =>
    obtain ⟨k, hk, rfl, rfl, hT⟩ := hrel
    cases k with
    | zero =>
      go_wp2
      rw [Exit.noGoto_ret]
      go_ret
      exact ⟨ret_nat (endM_zero hT.out).symm, rfl⟩
    | succ j =>
      obtain ⟨ad, p, rfl, _, _, hc1, hc2, hx, hrow⟩ := hr.at_ (k := j) (by omega)
      obtain ⟨pr, pd⟩ := p
      have hsg := Lib.hid (says_get hx)
      simp only at hc1 hc2
      have e1 : ((j + 1 : Nat) : Int) - 1 = (j : Int) := by omega
      have e2 : (((j + 1 : Nat) : Int) == 0) = false := by rw [beq_eq_false_iff_ne]; omega
      have hjI : (j : Int) < (ps.length : Int) := by omega
      have hjn : j < ps.length := by omega
      cases pd with
      | true =>
        have hv := Lib.hid (endM_here hT.out hsg.out rfl)
        go_wp2
        go_ret
        exact ⟨ret_nat hv.out.symm, rfl⟩
      | false =>
        have hv := Lib.hid (endM_back hT.out hsg.out rfl)
        go_wp2
        go_roundw
        case rel => exact ⟨j, by omega, by first | rfl | trivial, by first | rfl | trivial, hv⟩
        case measure => simp [intOf]

/-! ### the reference -/
set_option maxHeartbeats 1000000 in
set_option maxRecDepth 100000 in
theorem rown_any (A : Option Addr) (c B : Nat) (l : List UInt8) (w : World) (hl : l.length ≤ 140737488351232) (hr : RdB w B A l) :
    Calls Try.prog 82 #[.slice A l.length c] w fun e w' => ∃ v, e = .returned v ∧ w'.ownsRow w.heap.size 5 1 v l.length (bs l) ∧ Below w.heap.size w w' := by
  have Hl := Lib.hid hl
  clear hl
  go_enter Try.func82, Try.ntmps82
  go_wp2_with (at_builtin; refine push_row (.tmp 4) (.tmp 5) (l := []) (World.ownsRow_nil w w.heap.size 5 1) (Nat.le_refl _) hr (by have := Hl.out; simp; omega) rfl rfl rfl rfl ?_; intro v1 w1 hown1 hb1 hbs1 hg1)
  go_ret
  exact ⟨_, rfl, hown1, hb1⟩

set_option maxHeartbeats 1000000 in
set_option maxRecDepth 100000 in
theorem rvol_any {X : Nat → Prop} (A : Option Addr) (c : Nat) (ps : List Pa) (w : World) (hs : SmM (says ps)) (hr : PsX w X A ps) :
    Calls Try.prog 63 #[.agg #[.slice A ps.length c]] w fun e w' => e = .returned (.int .i64 ((volM (says ps) : Nat) : Int)) ∧ Below w.heap.size w w' := by
  have hlen : (ps.length : Int) ≤ 1000 := by have := hs.n; rw [says_len] at this; omega
  have Hs := Lib.hid hs
  have hb0 := below_new w (.cells #[.slice A ps.length c] 104)
  have hrI := Lib.hid (hr.below hb0)
  have hcell : (w.alloc (.cells #[.slice A ps.length c] 104)).cell? ⟨w.heap.size, 0, none⟩ = some (.slice A ps.length c) := by
    rw [cell_of_row _ _ 0 _ _ _ (heap_alloc_new w _)]; rfl
  have Hb0 := Lib.hid hb0
  have Hcell := Lib.hid hcell
  clear hs hr hcell hb0
  go_enter Try.func63, Try.ntmps63
  go_wp2
  go_loopw [3, 4] (fun s i wr => ∃ (k T : Nat), k ≤ ps.length ∧ i = .int .i64 (k : Int) ∧ s = .int .i64 (T : Int) ∧ Hid (T = volM (says (ps.take k))) ∧ wr = w.alloc (.cells #[.slice A ps.length c] 104)) (fun _ i _ => ps.length - (intOf i).toNat)
  case atStart => exact ⟨0, 0, by omega, rfl, rfl, by exact rfl, rfl⟩
  case round =>
    obtain ⟨k, T, hk, rfl, rfl, hT, hw⟩ := hrel
    have hTI : (T : Int) ≤ 1000 := by
      have h1 := volM_le (says (ps.take k))
      rw [← hT.out, says_len, List.length_take] at h1
      omega
    have hcl := Hcell.out
    rw [← hw] at hcl
    by_cases hlt : k < ps.length
    · have hrr := hrI.out
      rw [← hw] at hrr
      obtain ⟨ad, p, rfl, _, _, hc1, hc2, hx, hrow⟩ := hrr.at_ hlt
      have hll : (p.r.l.length : Int) ≤ 100000 := by have := Hs.out.at_ hx; omega
      have hv := Lib.hid (volM_snoc hx)
      obtain ⟨⟨pA, pc, pl⟩, pd⟩ := p
      simp only at hc1 hc2 hll
      have Hw := Lib.hid hw
      clear hw hrr hrow
      by_cases hp : pl.length = 0
      · have hpe : pl = [] := List.eq_nil_of_length_eq_zero hp
        subst hpe
        go_wp2
        go_roundw
        case rel => exact ⟨k + 1, T, by omega, by go_num, rfl, by show _ = _; rw [hv.out, ← hT.out]; simp, Hw.out⟩
        case measure => simp [intOf]; omega
      · have hp' : (0 : Int) < (pl.length : Int) := by omega
        have hp2 : 0 < pl.length := by omega
        have Hp := Lib.hid hp
        clear hp
        cases pd with
        | true =>
          go_wp2
          go_roundw
          case rel => exact ⟨k + 1, T, by omega, by go_num, rfl, by show _ = _; rw [hv.out, ← hT.out]; simp, Hw.out⟩
          case measure => simp [intOf]; omega
        | false =>
          go_wp2
          go_roundw
          case rel => exact ⟨k + 1, T + 1, by omega, by go_num, by go_num, by show _ = _; rw [hv.out, ← hT.out]; have := Hp.out; cases pl <;> simp_all, Hw.out⟩
          case measure => simp [intOf]; omega
    · obtain rfl : k = ps.length := by omega
      have Hw := Lib.hid hw
      clear hw
      go_wp2
      go_ret
      exact ⟨ret_nat (by rw [hT.out, List.take_length]), by rw [Hw.out]; exact Hb0.out⟩
end Go.Proofs.Ytlehkgogcbdckaa
