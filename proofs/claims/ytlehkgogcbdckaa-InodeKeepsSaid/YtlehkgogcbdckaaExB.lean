/- The walks of what is only asked of a file: Len, Bytes, Volatile; end; Clip. Conditions: files of at most 1000 parts of 100000 bytes. -/
import Derived.Test.YtlehkgogcbdckaaExA
namespace Go.Proofs.Ytlehkgogcbdckaa
open Go.RowKit

set_option maxHeartbeats 1000000 in
theorem clipB_any (A : Option Addr) (n c : Nat) (w : World) (hc : n ≤ c) (hl : n ≤ 9223372036854775807) :
    Calls Try.prog 55 #[.slice A n c] w fun e w' => e = .returned (.slice A n n) ∧ w' = w := by
  have hcI : (n : Int) ≤ (c : Int) := by omega
  have hlI : (n : Int) ≤ 9223372036854775807 := by omega
  go_enter Try.func55, Try.ntmps55
  go_wp2
  go_ret
  exact ⟨rfl, rfl⟩
set_option maxHeartbeats 1000000 in
theorem clipP_any (A : Option Addr) (n c : Nat) (w : World) (hc : n ≤ c) (hl : n ≤ 9223372036854775807) :
    Calls Try.prog 42 #[.slice A n c] w fun e w' => e = .returned (.slice A n n) ∧ w' = w := by
  have hcI : (n : Int) ≤ (c : Int) := by omega
  have hlI : (n : Int) ≤ 9223372036854775807 := by omega
  go_enter Try.func42, Try.ntmps42
  go_wp2
  go_ret
  exact ⟨rfl, rfl⟩

/-- A row with room, made. -/
theorem run_make0 (w : World) (n : Nat) (z : Int) (hz : z = (n : Int)) (hn : n ≤ 140737488351232) :
    (Instr.makeSlice 29 (.int .i64 0) (.int .i64 z)).run Try.prog w = .ok (.slice (some ⟨w.heap.size, 0, none⟩) 0 n) (w.alloc (.cells (bs (noughts n)).toArray 5)) := by
  subst hz
  obtain ⟨i0, hi0, hz0, hz1, hz2⟩ := info_parts Try.info5
  have h := run_make w 29 5 i0 _ Try.underlying29 hi0 hz0 .i64 .i64 0 (n : Int) (by omega) (by omega) (by rw [hz2]; omega) (by omega)
  have e : madeCells (Value.int .u8 0).cells (n * 1) = (bs (noughts n)).toArray := by rw [← made_noughts]
  rw [hz1, Int.toNat_natCast, e] at h
  exact h
theorem own_make0 (w : World) (n : Nat) (hn : n ≤ 140737488351232) : (w.alloc (.cells (bs (noughts n)).toArray 5)).ownsRow w.heap.size 5 1 (.slice (some ⟨w.heap.size, 0, none⟩) 0 n) 0 [] :=
  World.ownsRow_made w _ n (Nat.le_refl _) (by simp only [maxLen]; omega) (by simp [bs_len, noughts_len])

set_option maxHeartbeats 1000000 in
set_option maxRecDepth 100000 in
theorem len_any {X : Nat → Prop} (A : Option Addr) (c : Nat) (ps : List Pa) (w : World) (hs : SmM (says ps)) (hr : PsX w X A ps) :
    Calls Try.prog 25 #[.agg #[.slice A ps.length c]] w fun e w' => e = .returned (.int .i64 (((contM (says ps)).length : Nat) : Int)) ∧ Below w.heap.size w w' := by
  have hb := below_new w (.cells #[.slice A ps.length c] 57)
  have Hc := Lib.hid (size_any A c ps _ hs (hr.below hb))
  have Hb := Lib.hid hb
  clear hb hr
  go_enter Try.func25, Try.ntmps25
  go_wp2_with fail
  refine Hc.out.mono ?_
  rintro e w2 ⟨rfl, hb2⟩
  go_wp2
  go_ret
  exact ⟨rfl, below_then Hb.out hb2 (Nat.le_refl _)⟩

set_option maxHeartbeats 1000000 in
set_option maxRecDepth 100000 in
theorem bytes_any {X : Nat → Prop} (A : Option Addr) (c : Nat) (ps : List Pa) (w : World) (hs : SmM (says ps)) (hr : PsX w X A ps) :
    Calls Try.prog 31 #[.agg #[.slice A ps.length c]] w fun e w' => ∃ v, e = .returned v ∧ w'.ownsRow w.heap.size 5 1 v (contM (says ps)).length (bs (contM (says ps))) ∧ Below w.heap.size w w' := by
  have hlen : (ps.length : Int) ≤ 1000 := by have := hs.n; rw [says_len] at this; omega
  have Hs := Lib.hid hs
  have hb0 := below_new w (.cells #[.slice A ps.length c] 57)
  have Hc := Lib.hid (len_any A c ps _ hs (hr.below hb0))
  have Hb0 := Lib.hid hb0
  have hcell : (w.alloc (.cells #[.slice A ps.length c] 57)).cell? ⟨w.heap.size, 0, none⟩ = some (.slice A ps.length c) := by
    rw [cell_of_row _ _ 0 _ _ _ (heap_alloc_new w _)]; rfl
  have Hcell := Lib.hid hcell
  have hrI := Lib.hid hr
  clear hb0 hs hr
  go_enter Try.func31, Try.ntmps31
  go_wp2_with fail
  refine Hc.out.mono ?_
  rintro e w2 ⟨rfl, hb2⟩
  have hcell2 := (hb2.cell (p := ⟨w.heap.size, 0, none⟩) (by simp)).trans Hcell.out
  have hbb2 := below_then Hb0.out hb2 (Nat.le_refl _)
  obtain ⟨T, hT⟩ : ∃ T, T = (contM (says ps)).length := ⟨_, rfl⟩
  have HT := Lib.hid hT
  rw [← hT]
  have hTle : T ≤ 100000000 := by rw [hT]; exact contM_le' Hs.out
  have hmk := fun w => run_make0 w T T rfl (by omega)
  have hown0 := own_mono (own_make0 w2 T (by omega)) hbb2.size
  have hbb3 := hbb2.alloc hbb2.size (.cells (bs (noughts T)).toArray 5)
  have hcell3 := (World.cell?_alloc_lt w2 (.cells (bs (noughts T)).toArray 5) ⟨w.heap.size, 0, none⟩ (by show w.heap.size < w2.heap.size; have := hb2.size; simp at this; omega)).trans hcell2
  clear hcell hb2 hcell2 hbb2 hT hTle
  go_wp2
  clear hmk hcell3
  go_loopw [3, 12] (fun v i wr => ∃ k : Nat, k ≤ ps.length ∧ i = .int .i64 (k : Int) ∧ wr.ownsRow w.heap.size 5 1 v (contM (says (ps.take k))).length (bs (contM (says (ps.take k)))) ∧ Below w.heap.size w wr) (fun _ i _ => ps.length - (intOf i).toNat)
  case atStart => exact ⟨0, by omega, rfl, by simpa [says, contM, bs] using hown0, hbb3⟩
  case round =>
    clear hown0 hbb3
    obtain ⟨k, hk, rfl, hown, hb⟩ := hrel
    by_cases hlt : k < ps.length
    · obtain ⟨ad, p, rfl, _, _, hc1, hc2, hx, hrow⟩ := (hrI.out.below hb).at_ hlt
      have Hll := Lib.hid (Hs.out.at_ hx)
      have Hle := Lib.hid (contM_le Hs.out k)
      rw [← says_take] at Hle
      have hbz := hb.alloc hb.size (.cells #[.slice p.r.A p.r.l.length p.r.c, .bool p.d] 80)
      have hrow' := Lib.hid (hrow.below (below_new _ (.cells #[.slice p.r.A p.r.l.length p.r.c, .bool p.d] 80))).reads
      have hown' := Lib.hid (hown.alloc (.cells #[.slice p.r.A p.r.l.length p.r.c, .bool p.d] 80))
      clear hown hrow
      go_wp2_with (at_builtin; refine push_rowK (.tmp 16) (.tmp 18) hown'.out hbz.size hrow'.out (by have := Hll.out; have := Hle.out; omega) rfl rfl rfl rfl ?_; intro v1 w1 hown1 hb1 hbs1 _ _)
      go_roundw
      case rel => exact ⟨k + 1, by omega, by go_num, by rw [contM_snoc hx]; exact hown1, hbz.trans hb1⟩
      case measure => simp [intOf]; omega
    · obtain rfl : k = ps.length := by omega
      rw [List.take_length] at hown
      go_wp2
      go_ret
      exact ⟨_, rfl, by rw [HT.out]; exact hown, hb⟩

/-- One more volatile part, if it is one. -/
theorem volM_snoc {ps : List Pa} {k : Nat} {p : Pa} (h : Hid (ps[k]? = some p)) : volM (says (ps.take (k + 1))) = volM (says (ps.take k)) + if (!p.d && !p.r.l.isEmpty) = true then 1 else 0 := by
  rw [says_snoc h, volM_append, volM_one]
theorem volM_le (m : List Pt) : volM m ≤ m.length := by unfold volM; exact List.length_filter_le _ _

set_option maxHeartbeats 1000000 in
set_option maxRecDepth 100000 in
theorem vol_any {X : Nat → Prop} (A : Option Addr) (c : Nat) (ps : List Pa) (w : World) (hs : SmM (says ps)) (hr : PsX w X A ps) :
    Calls Try.prog 28 #[.agg #[.slice A ps.length c]] w fun e w' => e = .returned (.int .i64 ((volM (says ps) : Nat) : Int)) ∧ Below w.heap.size w w' := by
  have hlen : (ps.length : Int) ≤ 1000 := by have := hs.n; rw [says_len] at this; omega
  have Hs := Lib.hid hs
  have hb0 := below_new w (.cells #[.slice A ps.length c] 57)
  have hrI := Lib.hid hr
  clear hs hr
  go_enter Try.func28, Try.ntmps28
  go_wp2
  go_loopw [3, 9] (fun s i wr => ∃ (k T : Nat), k ≤ ps.length ∧ i = .int .i64 (k : Int) ∧ s = .int .i64 (T : Int) ∧ Hid (T = volM (says (ps.take k))) ∧ Below w.heap.size w wr) (fun _ i _ => ps.length - (intOf i).toNat)
  case atStart => exact ⟨0, 0, by omega, rfl, rfl, by exact rfl, hb0⟩
  case round =>
    clear hb0
    obtain ⟨k, T, hk, rfl, rfl, hT, hb⟩ := hrel
    have hTI : (T : Int) ≤ 1000 := by
      have h1 := volM_le (says (ps.take k))
      rw [← hT.out, says_len, List.length_take] at h1
      omega
    by_cases hlt : k < ps.length
    · obtain ⟨ad, p, rfl, _, _, hc1, hc2, hx, hrow⟩ := (hrI.out.below hb).at_ hlt
      have hll : (p.r.l.length : Int) ≤ 100000 := by have := Hs.out.at_ hx; omega
      have hv := Lib.hid (volM_snoc hx)
      obtain ⟨⟨pA, pc, pl⟩, pd⟩ := p
      simp only at hc1 hc2 hll
      have hbz := hb.alloc hb.size (.cells #[.slice pA pl.length pc, .bool pd] 80)
      cases pd with
      | true =>
        go_wp2
        go_roundw
        case rel => exact ⟨k + 1, T, by omega, by go_num, rfl, by show _ = _; rw [hv.out, ← hT.out]; simp, hbz⟩
        case measure => simp [intOf]; omega
      | false =>
        by_cases hp : pl.length = 0
        · have hpe : pl = [] := List.eq_nil_of_length_eq_zero hp
          subst hpe
          go_wp2
          go_roundw
          case rel => exact ⟨k + 1, T, by omega, by go_num, rfl, by show _ = _; rw [hv.out, ← hT.out]; simp, hbz⟩
          case measure => simp [intOf]; omega
        · have hp' : (0 : Int) < (pl.length : Int) := by omega
          have hp2 : 0 < pl.length := by omega
          have Hp := Lib.hid hp
          clear hp
          go_wp2
          go_roundw
          case rel => exact ⟨k + 1, T + 1, by omega, by go_num, by go_num, by show _ = _; rw [hv.out, ← hT.out]; have := Hp.out; cases pl <;> simp_all, hbz⟩
          case measure => simp [intOf]; omega
    · obtain rfl : k = ps.length := by omega
      go_wp2
      go_ret
      exact ⟨ret_nat (by rw [hT.out, List.take_length]), hb⟩
end Go.Proofs.Ytlehkgogcbdckaa
