/- The walks of the statements' own helpers over frames: few, same, sameAll, refs, Pick. Conditions: bodies of at most 2^47 - 4096 bytes. -/
import Derived.Test.YtfjgmbnnmobkbaaFrAll
namespace Go.Proofs.Ytfjgmbnnmobkbaa
open Go.RowKit

/-- At most 10 frames, of at most 400 bytes each? -/
def Few (fs : List Fr) : Prop := fs.length ≤ 10 ∧ ∀ f ∈ fs, f.r.l.length ≤ 400
instance (fs : List Fr) : Decidable (Few fs) := inferInstanceAs (Decidable (_ ∧ _))

set_option maxHeartbeats 1000000 in
set_option maxRecDepth 100000 in
theorem few_any (A : Option Addr) (c B : Nat) (fs : List Fr) (w : World) (hl : fs.length ≤ 9223372036854775807) (hls : ∀ f ∈ fs, f.r.l.length ≤ 9223372036854775807) (hr : RdF w B A fs) :
    Calls Try.prog 8 #[.slice A fs.length c] w fun e w' => e = .returned (.bool (decide (Few fs))) ∧ w = w' := by
  have hlen : (fs.length : Int) ≤ 9223372036854775807 := by omega
  have Hls := Lib.hid hls
  clear hl hls
  go_enter Try.func8, Try.ntmps8
  go_wp2
  go_loop [3] (fun i => ∃ k : Nat, k ≤ fs.length ∧ k ≤ 11 ∧ i = .int .i64 (k : Int) ∧ Hid (∀ f ∈ fs.take k, f.r.l.length ≤ 400)) (fun i => 11 - (intOf i).toNat)
  case atStart => exact ⟨0, by omega, by omega, rfl, by intro f hf; simp at hf⟩
  case round =>
    obtain ⟨k, hk, hk11, rfl, hall⟩ := hrel
    by_cases hlt : k < fs.length
    · by_cases h11 : k < 11
      · obtain ⟨ad, f, rfl, _, hc1, hc2, hx, hrow⟩ := hr.at_ hlt
        have hll : (f.r.l.length : Int) ≤ 9223372036854775807 := by have := Hls.out f (mem_of_get hx); omega
        by_cases hbig : 400 < f.r.l.length
        · have hbI : (400 : Int) < (f.r.l.length : Int) := by omega
          have Hno := Lib.hid (show decide (Few fs) = false by rw [decide_eq_false_iff_not]; intro h; have := h.2 f (mem_of_get hx); omega)
          clear hbig hall
          go_wp2
          go_ret
          exact ⟨ret_bool Hno.out.symm, rfl⟩
        · have hbI : (f.r.l.length : Int) ≤ 400 := by omega
          have hall' : Hid (∀ f ∈ fs.take (k + 1), f.r.l.length ≤ 400) := by
            intro g hg
            rw [take_snoc hx, List.mem_append, List.mem_singleton] at hg
            rcases hg with hg | rfl
            · exact hall.out g hg
            · omega
          clear hbig hall hll
          go_wp2
          go_round
          case rel => exact ⟨k + 1, by omega, by omega, by go_num, hall'⟩
          case measure => simp [intOf]; omega
      · have hno : decide (Few fs) = false := by rw [decide_eq_false_iff_not]; intro h; have := h.1; omega
        have Hno := Lib.hid hno
        have h10 : (10 : Int) < (fs.length : Int) := by omega
        clear hno
        go_wp2
        go_ret
        exact ⟨ret_bool (by rw [Hno.out, decide_eq_false_iff_not]; omega), rfl⟩
    · obtain rfl : k = fs.length := by omega
      have hyes : decide (Few fs) = decide ((fs.length : Int) ≤ 10) := by
        rw [Bool.eq_iff_iff, decide_eq_true_iff, decide_eq_true_iff]
        constructor
        · intro h; have := h.1; omega
        · intro h
          refine ⟨by omega, fun f hf => hall.out f (by rw [List.take_length]; exact hf)⟩
      have Hyes := Lib.hid hyes
      clear hyes hall
      go_wp2
      go_ret
      exact ⟨ret_bool Hyes.out.symm, rfl⟩

/-- Pick: a number brought from 0 up to n. -/
theorem pick_num {i : Int} {n : Nat} (hn : 0 < n) : (i.tmod n + n).tmod n = i % n := by
  have h0 : (0 : Int) < n := by omega
  have h1 : 0 ≤ i.tmod n + n := by
    have := Int.lt_tmod_of_pos i h0
    omega
  rw [Int.tmod_eq_emod_of_nonneg h1, Int.add_emod_right]
  rcases Int.lt_or_le i 0 with hi | hi
  · have := Int.tmod_eq_emod (a := i) (b := (n : Int))
    rw [this]
    split
    · simp
    · rw [Int.natAbs_natCast, Int.sub_emod_right, Int.emod_emod]
  · rw [Int.tmod_eq_emod_of_nonneg hi, Int.emod_emod]
theorem pick_any (i : Int) (n : Nat) (w : World) (h0 : 0 < n) (hn : n ≤ 1099511627776) (_ : -9223372036854775808 ≤ i ∧ i ≤ 9223372036854775807) :
    Calls Try.prog 28 #[.int .i64 i, .int .i64 (n : Int)] w fun e w' => e = .returned (.int .i64 (i % n)) ∧ w = w' := by
  have hnI : (n : Int) ≤ 1099511627776 := by omega
  have hn0 : (0 : Int) < (n : Int) := by omega
  have Hp := Lib.hid (pick_num (i := i) h0)
  have h1 := Int.lt_tmod_of_pos i hn0
  have h2 := Int.tmod_lt_of_pos i hn0
  have Hw := Lib.hid (show wrap64 (i.tmod (n : Int) + (n : Int)) = i.tmod (n : Int) + (n : Int) by unfold wrap64; omega)
  clear h1 h2
  go_enter Try.func28, Try.ntmps28
  go_wp2
  go_ret
  exact ⟨ret_int (by rw [Hw.out]; exact Hp.out), rfl⟩

/-- Two frames the same? -/
theorem same_box (f : Fr) (w : World) (t : TypeId) : (w.alloc (.cells #[.int .u8 (f.k.toNat : Int), .slice f.r.A f.r.l.length f.r.c] t)).heap[w.heap.size]? = some (.cells #[.int .u8 (f.k.toNat : Int), .slice f.r.A f.r.l.length f.r.c] t (0, 0)) := heap_alloc_new _ _
set_option maxHeartbeats 1000000 in
set_option maxRecDepth 100000 in
theorem same_any (f g : Fr) (B B' : Nat) (w : World) (hl : f.r.l.length ≤ 140737488351232) (hB : B ≤ w.heap.size) (hB' : B' ≤ w.heap.size) (hr : RdB w B f.r.A f.r.l) (hr' : RdB w B' g.r.A g.r.l) :
    Calls Try.prog 27 #[f.v, g.v] w fun e w' => e = .returned (.bool (decide ((f.k, f.r.l) = (g.k, g.r.l)))) ∧ Below w.heap.size w w' := by
  unfold Fr.v
  obtain ⟨k, A, c, l⟩ := f
  obtain ⟨k', A', c', m⟩ := g
  simp only at hl hr hr' ⊢
  have Hl := Lib.hid hl
  have hb := ((Below.refl w.heap.size w).alloc (Nat.le_refl _) (.cells #[.int .u8 (k.toNat : Int), .slice A l.length c] 26)).alloc (by simp) (.cells #[.int .u8 (k'.toNat : Int), .slice A' m.length c'] 38)
  have hr1 : RdB _ B A l := Reads.alloc (Reads.alloc hr hB (.cells #[.int .u8 (k.toNat : Int), .slice A l.length c] 26)) (by simp; omega) (.cells #[.int .u8 (k'.toNat : Int), .slice A' m.length c'] 38)
  have hr2 : RdB _ B' A' m := Reads.alloc (Reads.alloc hr' hB' (.cells #[.int .u8 (k.toNat : Int), .slice A l.length c] 26)) (by simp; omega) (.cells #[.int .u8 (k'.toNat : Int), .slice A' m.length c'] 38)
  have Hr1 : Hid (RdB _ _ _ _) := hr1
  have Hr2 : Hid (RdB _ _ _ _) := hr2
  clear hl hr hr' hr1 hr2
  by_cases hk : k = k'
  · subst hk
    have He := Lib.hid (show decide ((k, l) = (k, m)) = decide (l = m) by simp)
    go_enter Try.func27, Try.ntmps27
    go_wp2_with fail
    refine (sameBytes_any A A' c c' B B' l m _ Hl.out Hr1.out Hr2.out).mono ?_
    rintro e w' ⟨rfl, n, rfl⟩
    go_wp2
    go_ret
    exact ⟨ret_bool He.out.symm, below_drewN hb n⟩
  · have hv : ((k.toNat : Int) == (k'.toNat : Int)) = false := by
      rw [beq_eq_false_iff_ne]
      intro e
      exact hk (UInt8.toNat_inj.1 (by omega))
    have hv' : (k.toNat == k'.toNat) = false := by
      rw [beq_eq_false_iff_ne]
      intro e
      exact hk (UInt8.toNat_inj.1 e)
    have He := Lib.hid (show decide ((k, l) = (k', m)) = false by rw [decide_eq_false_iff_not]; intro e; exact hk (Prod.mk.inj e).1)
    clear hk
    go_enter Try.func27, Try.ntmps27
    go_wp2
    go_ret
    exact ⟨ret_bool He.out.symm, hb⟩
end Go.Proofs.Ytfjgmbnnmobkbaa
