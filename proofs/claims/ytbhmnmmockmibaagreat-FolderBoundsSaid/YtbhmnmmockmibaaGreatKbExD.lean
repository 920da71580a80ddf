/- The walks of what is only asked of a file: Len, Bytes, Volatile; end; Clip. Conditions: files of at most 1000 parts of 100000 bytes. The walks of end, and of the reference's Bytes and Volatile. Conditions: files of at most 1000 parts of 100000 bytes. The walks of the reference's Bytes and put. Conditions: files of at most 1000 parts of 100000 bytes. -/
import Derived.Test.YtbhmnmmockmibaaGreatKbExA
import Derived.Test.YtbhmnmmockmibaaGreatKbFull
import Derived.Deep.CutRange
namespace Go.Proofs.YtbhmnmmockmibaaGreat
open Go.RowKit
set_option maxHeartbeats 1000000 in
theorem clipB_any (A : Option Addr) (n c : Nat) (w : World) (hc : n ≤ c) (hl : n ≤ 9223372036854775807) :
    Calls Tryz.prog 120 #[.slice A n c] w fun e w' => e = .returned (.slice A n n) ∧ w' = w := by
  have hcI : (n : Int) ≤ (c : Int) := by omega
  have hlI : (n : Int) ≤ 9223372036854775807 := by omega
  go_enter Tryz.func120, Tryz.ntmps120
  go_wp2
  go_ret
  exact ⟨rfl, rfl⟩
set_option maxHeartbeats 1000000 in
theorem clipP_any (A : Option Addr) (n c : Nat) (w : World) (hc : n ≤ c) (hl : n ≤ 9223372036854775807) :
    Calls Tryz.prog 123 #[.slice A n c] w fun e w' => e = .returned (.slice A n n) ∧ w' = w := by
  have hcI : (n : Int) ≤ (c : Int) := by omega
  have hlI : (n : Int) ≤ 9223372036854775807 := by omega
  go_enter Tryz.func123, Tryz.ntmps123
  go_wp2
  go_ret
  exact ⟨rfl, rfl⟩
/-- A row with room, made. -/
theorem run_make0 (w : World) (n : Nat) (z : Int) (hz : z = (n : Int)) (hn : n ≤ 140737488351232) :
    (Instr.makeSlice 38 (.int .i64 0) (.int .i64 z)).run Tryz.prog w = .ok (.slice (some ⟨w.heap.size, 0, none⟩) 0 n) (w.alloc (.cells (bs (noughts n)).toArray 5)) := by
  subst hz
  obtain ⟨i0, hi0, hz0, hz1, hz2⟩ := info_parts Tryz.info5
  have h := run_make w 38 5 i0 _ Tryz.underlying38 hi0 hz0 .i64 .i64 0 (n : Int) (by omega) (by omega) (by rw [hz2]; omega) (by omega)
  have e : madeCells (Value.int .u8 0).cells (n * 1) = (bs (noughts n)).toArray := by rw [← made_noughts]
  rw [hz1, Int.toNat_natCast, e] at h
  exact h
theorem own_make0 (w : World) (n : Nat) (hn : n ≤ 140737488351232) : (w.alloc (.cells (bs (noughts n)).toArray 5)).ownsRow w.heap.size 5 1 (.slice (some ⟨w.heap.size, 0, none⟩) 0 n) 0 [] :=
  World.ownsRow_made w _ n (Nat.le_refl _) (by simp only [maxLen]; omega) (by simp [bs_len, noughts_len])
set_option maxHeartbeats 1000000 in
set_option maxRecDepth 100000 in
theorem len_any {X : Nat → Prop} (A : Option Addr) (c : Nat) (ps : List Pa) (w : World) (hs : SmM (says ps)) (hr : PsX w X A ps) :
    Calls Tryz.prog 93 #[.agg #[.slice A ps.length c]] w fun e w' => e = .returned (.int .i64 (((contM (says ps)).length : Nat) : Int)) ∧ Below w.heap.size w w' := by
  have hb := below_new w (.cells #[.slice A ps.length c] 127)
  have Hc := Lib.hid (size_any A c ps _ hs (hr.below hb))
  have Hb := Lib.hid hb
  clear hb hr
  go_enter Tryz.func93, Tryz.ntmps93
  go_wp2_with fail
  refine Hc.out.mono ?_
  rintro e w2 ⟨rfl, hb2⟩
  go_wp2
  go_ret
  exact ⟨rfl, below_then Hb.out hb2 (Nat.le_refl _)⟩
set_option maxHeartbeats 1000000 in
set_option maxRecDepth 100000 in
theorem bytes_any {X : Nat → Prop} (A : Option Addr) (c : Nat) (ps : List Pa) (w : World) (hs : SmM (says ps)) (hr : PsX w X A ps) :
    Calls Tryz.prog 92 #[.agg #[.slice A ps.length c]] w fun e w' => ∃ v, e = .returned v ∧ w'.ownsRow w.heap.size 5 1 v (contM (says ps)).length (bs (contM (says ps))) ∧ Below w.heap.size w w' := by
  have hlen : (ps.length : Int) ≤ 1000 := by have := hs.n; rw [says_len] at this; omega
  have Hs := Lib.hid hs
  have hb0 := below_new w (.cells #[.slice A ps.length c] 127)
  have Hc := Lib.hid (len_any A c ps _ hs (hr.below hb0))
  have Hb0 := Lib.hid hb0
  have hcell : (w.alloc (.cells #[.slice A ps.length c] 127)).cell? ⟨w.heap.size, 0, none⟩ = some (.slice A ps.length c) := by
    rw [cell_of_row _ _ 0 _ _ _ (heap_alloc_new w _)]; rfl
  have Hcell := Lib.hid hcell
  have hrI := Lib.hid hr
  clear hb0 hs hr
  go_enter Tryz.func92, Tryz.ntmps92
  go_wp2_with fail
  refine Hc.out.mono ?_
  rintro e w2 ⟨rfl, hb2⟩
  have hcell2 := (hb2.cell (p := ⟨w.heap.size, 0, none⟩) (by simp)).trans Hcell.out
  have hbb2 := below_then Hb0.out hb2 (Nat.le_refl _)
  obtain ⟨T, hT⟩ : ∃ T, T = (contM (says ps)).length := ⟨_, rfl⟩
  have HT := Lib.hid hT
  rw [← hT]
  have hTle : T ≤ 100000000 := by rw [hT]; exact contM_le' Hs.out
  have hmk := fun w => run_make0 w T T rfl (by omega)
  have hown0 := own_mono (own_make0 w2 T (by omega)) hbb2.size
  have hbb3 := hbb2.alloc hbb2.size (.cells (bs (noughts T)).toArray 5)
  have hcell3 := (World.cell?_alloc_lt w2 (.cells (bs (noughts T)).toArray 5) ⟨w.heap.size, 0, none⟩ (by show w.heap.size < w2.heap.size; have := hb2.size; simp at this; omega)).trans hcell2
  clear hcell hb2 hcell2 hbb2 hT hTle
  go_wp2
  clear hmk hcell3
  go_loopw [3, 12] (fun v i wr => ∃ k : Nat, k ≤ ps.length ∧ i = .int .i64 (k : Int) ∧ wr.ownsRow w.heap.size 5 1 v (contM (says (ps.take k))).length (bs (contM (says (ps.take k)))) ∧ Below w.heap.size w wr) (fun _ i _ => ps.length - (intOf i).toNat)
  case atStart => exact ⟨0, by omega, rfl, by simpa [says, contM, bs] using hown0, hbb3⟩
  case round =>
    clear hown0 hbb3
    obtain ⟨k, hk, rfl, hown, hb⟩ := hrel
    by_cases hlt : k < ps.length
    · obtain ⟨ad, p, rfl, _, _, hc1, hc2, hx, hrow⟩ := (hrI.out.below hb).at_ hlt
      have Hll := Lib.hid (Hs.out.at_ hx)
      have Hle := Lib.hid (contM_le Hs.out k)
      rw [← says_take] at Hle
      have hbz := hb.alloc hb.size (.cells #[.slice p.r.A p.r.l.length p.r.c, .bool p.d] 180)
      have hrow' := Lib.hid (hrow.below (below_new _ (.cells #[.slice p.r.A p.r.l.length p.r.c, .bool p.d] 180))).reads
      have hown' := Lib.hid (hown.alloc (.cells #[.slice p.r.A p.r.l.length p.r.c, .bool p.d] 180))
      clear hown hrow
      go_wp2_with (at_builtin; refine push_rowK (.tmp 16) (.tmp 18) hown'.out hbz.size hrow'.out (by have := Hll.out; have := Hle.out; omega) rfl rfl rfl rfl ?_; intro v1 w1 hown1 hb1 hbs1 _ _)
      go_roundw
      case rel => exact ⟨k + 1, by omega, by go_num, by rw [contM_snoc hx]; exact hown1, hbz.trans hb1⟩
      case measure => simp [intOf]; omega
    · obtain rfl : k = ps.length := by omega
      rw [List.take_length] at hown
      go_wp2
      go_ret
      exact ⟨_, rfl, by rw [HT.out]; exact hown, hb⟩
/-- One more volatile part, if it is one. -/
theorem volM_snoc {ps : List Pa} {k : Nat} {p : Pa} (h : Hid (ps[k]? = some p)) : volM (says (ps.take (k + 1))) = volM (says (ps.take k)) + if (!p.d && !p.r.l.isEmpty) = true then 1 else 0 := by
  rw [says_snoc h, volM_append, volM_one]
theorem volM_le (m : List Pt) : volM m ≤ m.length := by unfold volM; exact List.length_filter_le _ _
set_option maxHeartbeats 1000000 in
set_option maxRecDepth 100000 in
theorem vol_any {X : Nat → Prop} (A : Option Addr) (c : Nat) (ps : List Pa) (w : World) (hs : SmM (says ps)) (hr : PsX w X A ps) :
    Calls Tryz.prog 63 #[.agg #[.slice A ps.length c]] w fun e w' => e = .returned (.int .i64 ((volM (says ps) : Nat) : Int)) ∧ Below w.heap.size w w' := by
  have hlen : (ps.length : Int) ≤ 1000 := by have := hs.n; rw [says_len] at this; omega
  have Hs := Lib.hid hs
  have hb0 := below_new w (.cells #[.slice A ps.length c] 127)
  have hrI := Lib.hid hr
  clear hs hr
  go_enter Tryz.func63, Tryz.ntmps63
  go_wp2
  go_loopw [3, 9] (fun s i wr => ∃ (k T : Nat), k ≤ ps.length ∧ i = .int .i64 (k : Int) ∧ s = .int .i64 (T : Int) ∧ Hid (T = volM (says (ps.take k))) ∧ Below w.heap.size w wr) (fun _ i _ => ps.length - (intOf i).toNat)
  case atStart => exact ⟨0, 0, by omega, rfl, rfl, by exact rfl, hb0⟩
  case round =>
    clear hb0
    obtain ⟨k, T, hk, rfl, rfl, hT, hb⟩ := hrel
    have hTI : (T : Int) ≤ 1000 := by
      have h1 := volM_le (says (ps.take k))
      rw [← hT.out, says_len, List.length_take] at h1
      omega
    by_cases hlt : k < ps.length
    · obtain ⟨ad, p, rfl, _, _, hc1, hc2, hx, hrow⟩ := (hrI.out.below hb).at_ hlt
      have hll : (p.r.l.length : Int) ≤ 100000 := by have := Hs.out.at_ hx; omega
      have hv := Lib.hid (volM_snoc hx)
      obtain ⟨⟨pA, pc, pl⟩, pd⟩ := p
      simp only at hc1 hc2 hll
      have hbz := hb.alloc hb.size (.cells #[.slice pA pl.length pc, .bool pd] 180)
      cases pd with
      | true =>
        go_wp2
        go_roundw
        case rel => exact ⟨k + 1, T, by omega, by go_num, rfl, by show _ = _; rw [hv.out, ← hT.out]; simp, hbz⟩
        case measure => simp [intOf]; omega
      | false =>
        by_cases hp : pl.length = 0
        · have hpe : pl = [] := List.eq_nil_of_length_eq_zero hp
          subst hpe
          go_wp2
          go_roundw
          case rel => exact ⟨k + 1, T, by omega, by go_num, rfl, by show _ = _; rw [hv.out, ← hT.out]; simp, hbz⟩
          case measure => simp [intOf]; omega
        · have hp' : (0 : Int) < (pl.length : Int) := by omega
          have hp2 : 0 < pl.length := by omega
          have Hp := Lib.hid hp
          clear hp
          go_wp2
          go_roundw
          case rel => exact ⟨k + 1, T + 1, by omega, by go_num, by go_num, by show _ = _; rw [hv.out, ← hT.out]; have := Hp.out; cases pl <;> simp_all, hbz⟩
          case measure => simp [intOf]; omega
    · obtain rfl : k = ps.length := by omega
      go_wp2
      go_ret
      exact ⟨ret_nat (by rw [hT.out, List.take_length]), hb⟩
end Go.Proofs.YtbhmnmmockmibaaGreat

namespace Go.Proofs.YtbhmnmmockmibaaGreat
open Go.RowKit
set_option maxHeartbeats 1000000 in
set_option maxRecDepth 100000 in
theorem end_any {X : Nat → Prop} (A : Option Addr) (c : Nat) (ps : List Pa) (w : World) (hs : SmM (says ps)) (hr : PsX w X A ps) :
    Calls Tryz.prog 100 #[.slice A ps.length c] w fun e w' => e = .returned (.int .i64 ((endM (says ps) : Nat) : Int)) ∧ w' = w := by
  have hlen : (ps.length : Int) ≤ 1000 := by have := hs.n; rw [says_len] at this; omega
  have Hs := Lib.hid hs
  clear hs
  go_enter Tryz.func100, Tryz.ntmps100
  go_wp2
  go_step3
  go_wp2
  go_step3
  go_wp2
  go_loopw [3] (fun i wr => ∃ k : Nat, k ≤ ps.length ∧ i = .int .i64 (k : Int) ∧ wr = w ∧ Hid (endM ((says ps).take k) = endM (says ps))) (fun i _ => (intOf i).toNat)
  case atStart => exact ⟨ps.length, by omega, rfl, rfl, by show _ = _; rw [← says_len, List.take_length]⟩
  case round =>
    obtain ⟨k, hk, rfl, rfl, hT⟩ := hrel
    cases k with
    | zero =>
      go_wp2
      rw [Exit.noGoto_ret]
      go_ret
      exact ⟨ret_nat (endM_zero hT.out).symm, rfl⟩
    | succ j =>
      obtain ⟨ad, p, rfl, _, _, hc1, hc2, hx, hrow⟩ := hr.at_ (k := j) (by omega)
      obtain ⟨pr, pd⟩ := p
      have hsg := Lib.hid (says_get hx)
      simp only at hc1 hc2
      have e1 : ((j + 1 : Nat) : Int) - 1 = (j : Int) := by omega
      have e2 : (((j + 1 : Nat) : Int) == 0) = false := by rw [beq_eq_false_iff_ne]; omega
      have hjI : (j : Int) < (ps.length : Int) := by omega
      have hjn : j < ps.length := by omega
      cases pd with
      | true =>
        have hv := Lib.hid (endM_here hT.out hsg.out rfl)
        go_wp2
        go_ret
        exact ⟨ret_nat hv.out.symm, rfl⟩
      | false =>
        have hv := Lib.hid (endM_back hT.out hsg.out rfl)
        go_wp2
        go_roundw
        case rel => exact ⟨j, by omega, by first | rfl | trivial, by first | rfl | trivial, hv⟩
        case measure => simp [intOf]
set_option maxHeartbeats 1000000 in
set_option maxRecDepth 100000 in
theorem rown_any (A : Option Addr) (c B : Nat) (l : List UInt8) (w : World) (hl : l.length ≤ 140737488351232) (hr : RdB w B A l) :
    Calls Tryz.prog 121 #[.slice A l.length c] w fun e w' => ∃ v, e = .returned v ∧ w'.ownsRow w.heap.size 5 1 v l.length (bs l) ∧ Below w.heap.size w w' := by
  have Hl := Lib.hid hl
  clear hl
  go_enter Tryz.func121, Tryz.ntmps121
  go_wp2_with (at_builtin; refine push_row (.tmp 4) (.tmp 5) (l := []) (World.ownsRow_nil w w.heap.size 5 1) (Nat.le_refl _) hr (by have := Hl.out; simp; omega) rfl rfl rfl rfl ?_; intro v1 w1 hown1 hb1 hbs1 hg1)
  go_ret
  exact ⟨_, rfl, hown1, hb1⟩
end Go.Proofs.YtbhmnmmockmibaaGreat

namespace Go.Proofs.YtbhmnmmockmibaaGreat
open Go.RowKit
set_option maxHeartbeats 1000000 in
set_option maxRecDepth 100000 in
theorem rbytes_any {X : Nat → Prop} (A : Option Addr) (c : Nat) (ps : List Pa) (w : World) (hs : SmM (says ps)) (hr : PsX w X A ps) :
    Calls Tryz.prog 87 #[.agg #[.slice A ps.length c]] w fun e w' => ∃ v, e = .returned v ∧ w'.ownsRow w.heap.size 5 1 v (contM (says ps)).length (bs (contM (says ps))) ∧ Below w.heap.size w w' := by
  have hlen : (ps.length : Int) ≤ 1000 := by have := hs.n; rw [says_len] at this; omega
  have Hs := Lib.hid hs
  obtain ⟨W, hW⟩ : ∃ W, Hid (w.alloc (.cells #[.slice A ps.length c] 137) = W) := ⟨_, rfl⟩
  have hbW : Hid (Below w.heap.size w W) := by rw [← hW.out]; exact below_new _ _
  have hcW : Hid (W.cell? ⟨w.heap.size, 0, none⟩ = some (.slice A ps.length c)) := by
    rw [← hW.out]
    show _ = _
    rw [cell_of_row _ _ 0 _ _ _ (heap_alloc_new w _)]; rfl
  have hsW : Hid (W.heap.size = w.heap.size + 1) := by rw [← hW.out]; show _ = _; simp
  have hrW : Hid (PsX W X A ps) := hr.below hbW.out
  clear hs hr
  go_enter Tryz.func87, Tryz.ntmps87
  go_upto_region 1 with fail
  rw [hW.out]
  go_wp2
  go_loopw [3, 4] (fun v i wr => ∃ k : Nat, k ≤ ps.length ∧ i = .int .i64 (k : Int) ∧ wr.ownsRow W.heap.size 5 1 v (contM (says (ps.take k))).length (bs (contM (says (ps.take k)))) ∧ Below W.heap.size W wr) (fun _ i _ => ps.length - (intOf i).toNat)
  case atStart => exact ⟨0, by omega, rfl, World.ownsRow_nil _ _ _ _, .refl _ _⟩
  case round =>
    obtain ⟨k, hk, rfl, hown, hb⟩ := hrel
    obtain ⟨wo, hwo⟩ : ∃ wo : World, wo = wr := ⟨_, rfl⟩
    subst hwo
    have hcl := (hb.cell (p := ⟨w.heap.size, 0, none⟩) (by rw [hsW.out]; show w.heap.size < _; omega)).trans hcW.out
    by_cases hlt : k < ps.length
    · obtain ⟨ad, p, rfl, _, _, hc1, hc2, hx, hrow⟩ := (hrW.out.below hb).at_ hlt
      have Hll := Lib.hid (Hs.out.at_ hx)
      have hll : (p.r.l.length : Int) ≤ 100000 := by have := Hll.out; omega
      have Hle := Lib.hid (contM_le Hs.out k)
      rw [← says_take] at Hle
      have hlt2 := Lib.hid hown.lt
      obtain ⟨D, hD⟩ : ∃ D, Hid (contM (says (ps.take k)) = D) := ⟨_, rfl⟩
      rw [hD.out] at hown Hle
      have Hrow := Lib.hid hrow
      have Hb := Lib.hid hb
      have Hx := Lib.hid hx
      have hcA := hc1
      have HcA := Lib.hid hcA
      have Hcl := Lib.hid hcl
      clear hrow hcA hx hc1 hc2 hb hcl
      have hat0 : ∃ j n : Nat, j ≤ p.r.l.length ∧ Value.int .i64 0 = .int .i64 (j : Int) ∧ wo.ownsRow W.heap.size 5 1 (.slice none 0 0) 0 [] := ⟨0, 0, by omega, rfl, World.ownsRow_nil _ _ _ _⟩
      clear hat0
      have hcl := Hcl.out
      go_upto_region 6 with fail
      go_loopw [3, 5] (fun v i wr => ∃ j : Nat, j ≤ p.r.l.length ∧ i = .int .i64 (j : Int) ∧ wr.ownsRow W.heap.size 5 1 v (D ++ p.r.l.take j).length (bs (D ++ p.r.l.take j)) ∧ Below W.heap.size W wr) (fun _ i _ => p.r.l.length - (intOf i).toNat)
      case atStart => exact ⟨0, by omega, rfl, by simpa using hown, Hb.out⟩
      case round =>
        clear hown hcl
        obtain ⟨j, hj, rfl, hown, hb⟩ := hrel
        have hcl := (hb.cell (p := ⟨w.heap.size, 0, none⟩) (by rw [hsW.out]; show w.heap.size < _; omega)).trans hcW.out
        obtain ⟨ad2, p2, he, _, _, hc1, hc2, hx, hrow⟩ := (hrW.out.below hb).at_ hlt
        injection he with he
        subst he
        have hpp : p2 = p := by
          have h1 := hx.out
          rw [Hx.out.out] at h1
          injection h1 with h1
          exact h1.symm
        subst hpp
        by_cases hltj : j < p2.r.l.length
        · obtain ⟨ad3, x, hA3, _, hcx, hxx⟩ := RdB.at_ hrow.reads hltj
          rw [hA3] at hc1
          have Hpl := Lib.hid (show (D ++ p2.r.l.take j).length ≤ 140737488355327 by rw [List.length_append, List.length_take]; have := Hle.out; have := Hll.out; omega)
          have hjI : (j : Int) < (p2.r.l.length : Int) := by omega
          have Hown := Lib.hid hown
          have hbz := hb.size
          clear hown hrow
          go_wp2_with
            (at_builtin
             refine push_byteK (.tmp 24) (.tmp 34) _ x Hown.out hbz Hpl.out rfl rfl rfl rfl rfl rfl ?_
             intro v1 w1 hown1 hb1 hbs1 _ _)
          go_roundw
          case rel => exact ⟨j + 1, by omega, by go_num, by rw [take_snoc hxx, ← List.append_assoc]; exact hown1, hb.trans hb1⟩
          case measure => simp [intOf]; omega
        · obtain rfl : j = p2.r.l.length := by omega
          rw [List.take_length] at hown
          have hown' := Lib.hid hown
          clear hown
          go_wp2
          go_roundw
          case rel => exact ⟨k + 1, by omega, by go_num, by rw [contM_snoc hx, hD.out]; exact hown'.out, hb⟩
          case measure => simp [intOf]; omega
    · obtain rfl : k = ps.length := by omega
      rw [List.take_length] at hown
      go_wp2
      go_ret
      exact ⟨_, rfl, own_mono hown (by rw [hsW.out]; omega), hbW.out.trans (hb.mono hbW.out.size)⟩
end Go.Proofs.YtbhmnmmockmibaaGreat
