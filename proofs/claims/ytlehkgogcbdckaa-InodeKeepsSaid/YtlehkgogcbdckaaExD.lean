/- The walks of the reference's Bytes and put. Conditions: files of at most 1000 parts of 100000 bytes. -/
import Derived.Test.YtlehkgogcbdckaaExC
import Derived.Test.YtlehkgogcbdckaaTailP
import Derived.Deep.CutRange
namespace Go.Proofs.Ytlehkgogcbdckaa
open Go.RowKit

set_option maxHeartbeats 1000000 in
set_option maxRecDepth 100000 in
theorem rbytes_any {X : Nat → Prop} (A : Option Addr) (c : Nat) (ps : List Pa) (w : World) (hs : SmM (says ps)) (hr : PsX w X A ps) :
    Calls Try.prog 66 #[.agg #[.slice A ps.length c]] w fun e w' => ∃ v, e = .returned v ∧ w'.ownsRow w.heap.size 5 1 v (contM (says ps)).length (bs (contM (says ps))) ∧ Below w.heap.size w w' := by
  have hlen : (ps.length : Int) ≤ 1000 := by have := hs.n; rw [says_len] at this; omega
  have Hs := Lib.hid hs
  obtain ⟨W, hW⟩ : ∃ W, Hid (w.alloc (.cells #[.slice A ps.length c] 104) = W) := ⟨_, rfl⟩
  have hbW : Hid (Below w.heap.size w W) := by rw [← hW.out]; exact below_new _ _
  have hcW : Hid (W.cell? ⟨w.heap.size, 0, none⟩ = some (.slice A ps.length c)) := by
    rw [← hW.out]
    show _ = _
    rw [cell_of_row _ _ 0 _ _ _ (heap_alloc_new w _)]; rfl
  have hsW : Hid (W.heap.size = w.heap.size + 1) := by rw [← hW.out]; show _ = _; simp
  have hrW : Hid (PsX W X A ps) := hr.below hbW.out
  clear hs hr
  go_enter Try.func66, Try.ntmps66
  go_upto_region 1 with fail
  rw [hW.out]
  go_wp2
  go_loopw [3, 4] (fun v i wr => ∃ k : Nat, k ≤ ps.length ∧ i = .int .i64 (k : Int) ∧ wr.ownsRow W.heap.size 5 1 v (contM (says (ps.take k))).length (bs (contM (says (ps.take k)))) ∧ Below W.heap.size W wr) (fun _ i _ => ps.length - (intOf i).toNat)
  case atStart => exact ⟨0, by omega, rfl, World.ownsRow_nil _ _ _ _, .refl _ _⟩
  case round =>
    obtain ⟨k, hk, rfl, hown, hb⟩ := hrel
    obtain ⟨wo, hwo⟩ : ∃ wo : World, wo = wr := ⟨_, rfl⟩
    subst hwo
    have hcl := (hb.cell (p := ⟨w.heap.size, 0, none⟩) (by rw [hsW.out]; show w.heap.size < _; omega)).trans hcW.out
    by_cases hlt : k < ps.length
    · obtain ⟨ad, p, rfl, _, _, hc1, hc2, hx, hrow⟩ := (hrW.out.below hb).at_ hlt
      have Hll := Lib.hid (Hs.out.at_ hx)
      have hll : (p.r.l.length : Int) ≤ 100000 := by have := Hll.out; omega
      have Hle := Lib.hid (contM_le Hs.out k)
      rw [← says_take] at Hle
      have hlt2 := Lib.hid hown.lt
      obtain ⟨D, hD⟩ : ∃ D, Hid (contM (says (ps.take k)) = D) := ⟨_, rfl⟩
      rw [hD.out] at hown Hle
      have Hrow := Lib.hid hrow
      have Hb := Lib.hid hb
      have Hx := Lib.hid hx
      have hcA := hc1
      have HcA := Lib.hid hcA
      have Hcl := Lib.hid hcl
      clear hrow hcA hx hc1 hc2 hb hcl
      have hat0 : ∃ j n : Nat, j ≤ p.r.l.length ∧ Value.int .i64 0 = .int .i64 (j : Int) ∧ wo.ownsRow W.heap.size 5 1 (.slice none 0 0) 0 [] := ⟨0, 0, by omega, rfl, World.ownsRow_nil _ _ _ _⟩
      clear hat0
      have hcl := Hcl.out
      go_upto_region 6 with fail
      go_loopw [3, 5] (fun v i wr => ∃ j : Nat, j ≤ p.r.l.length ∧ i = .int .i64 (j : Int) ∧ wr.ownsRow W.heap.size 5 1 v (D ++ p.r.l.take j).length (bs (D ++ p.r.l.take j)) ∧ Below W.heap.size W wr) (fun _ i _ => p.r.l.length - (intOf i).toNat)
      case atStart => exact ⟨0, by omega, rfl, by simpa using hown, Hb.out⟩
      case round =>
        clear hown hcl
        obtain ⟨j, hj, rfl, hown, hb⟩ := hrel
        have hcl := (hb.cell (p := ⟨w.heap.size, 0, none⟩) (by rw [hsW.out]; show w.heap.size < _; omega)).trans hcW.out
        obtain ⟨ad2, p2, he, _, _, hc1, hc2, hx, hrow⟩ := (hrW.out.below hb).at_ hlt
        injection he with he
        subst he
        have hpp : p2 = p := by
          have h1 := hx.out
          rw [Hx.out.out] at h1
          injection h1 with h1
          exact h1.symm
        subst hpp
        by_cases hltj : j < p2.r.l.length
        · obtain ⟨ad3, x, hA3, _, hcx, hxx⟩ := RdB.at_ hrow.reads hltj
          rw [hA3] at hc1
          have Hpl := Lib.hid (show (D ++ p2.r.l.take j).length ≤ 140737488355327 by rw [List.length_append, List.length_take]; have := Hle.out; have := Hll.out; omega)
          have hjI : (j : Int) < (p2.r.l.length : Int) := by omega
          have Hown := Lib.hid hown
          have hbz := hb.size
          clear hown hrow
          go_wp2_with
            (at_builtin
             refine push_byteK (.tmp 24) (.tmp 34) _ x Hown.out hbz Hpl.out rfl rfl rfl rfl rfl rfl ?_
             intro v1 w1 hown1 hb1 hbs1 _ _)
          go_roundw
          case rel => exact ⟨j + 1, by omega, by go_num, by rw [take_snoc hxx, ← List.append_assoc]; exact hown1, hb.trans hb1⟩
          case measure => simp [intOf]; omega
        · obtain rfl : j = p2.r.l.length := by omega
          rw [List.take_length] at hown
          have hown' := Lib.hid hown
          clear hown
          go_wp2
          go_roundw
          case rel => exact ⟨k + 1, by omega, by go_num, by rw [contM_snoc hx, hD.out]; exact hown'.out, hb⟩
          case measure => simp [intOf]; omega
    · obtain rfl : k = ps.length := by omega
      rw [List.take_length] at hown
      go_wp2
      go_ret
      exact ⟨_, rfl, own_mono hown (by rw [hsW.out]; omega), hbW.out.trans (hb.mono hbW.out.size)⟩
end Go.Proofs.Ytlehkgogcbdckaa
