/- A slice of rows of bytes that came in, opened. Conditions: none. -/
import Derived.Test.YtnlcohijopokjaaRow
import Derived.Test.YtnlcohijopokjaaMany
import Derived.Deep.Matrix
namespace Go.Proofs.Ytnlcohijopokjaa
open Go.ChangeShapes Go.WideShapes Go.ChangeAt Go.RowKit

section
variable {H : Type} {enc : TypeId × Value → H}
theorem bytes_of {W : World} {A : Option Addr} {L C : Nat} {zs : List Int} (hL : L ≤ C) (hZ : zs.length = C) (hwf : ∀ n ∈ zs, (Lit.int .u8 n).wf = true) (h0 : A = none → C = 0)
    (hc : ∀ a', A = some a' → ∀ c, c < C → W.cell? (a'.add c) = some (.int .u8 (zs.getD c 0))) : ∃ l : List UInt8, l.length = L ∧ RdB W W.heap.size A l := by
  have hlen : ((zs.take L).map fun n => UInt8.ofNat n.toNat).length = L := by simp; omega
  refine ⟨(zs.take L).map fun n => UInt8.ofNat n.toNat, hlen, by rw [bs_len, hlen]; omega, fun hn => ?_⟩
  rw [hlen] at hn
  cases A with
  | none => have := h0 rfl; omega
  | some a =>
    have hcell := hc a rfl
    have h0 := hcell 0 (by omega)
    refine ⟨a, rfl, by have := World.block_lt_of_cell? W _ h0; rwa [block_of_add] at this, fun j u hu => ?_⟩
    have hj : j < L := by
      have := (List.getElem?_eq_some_iff.1 hu).1
      rw [bs_len, hlen] at this
      exact this
    have hjz : j < zs.length := by omega
    have hb := lit_u8 (hwf (zs[j]) (List.getElem_mem hjz))
    rw [hcell j (by omega), ← hu]
    have e : (UInt8.ofNat (zs[j]).toNat).toNat = (zs[j]).toNat := by simp [UInt8.toNat_ofNat']; omega
    simp only [bs, List.map_map, List.getElem?_map, List.getElem?_take, if_pos hj, List.getElem?_eq_getElem hjz, Option.map_some, Function.comp_apply, e, List.getD_eq_getElem?_getD, Option.getD_some]
    rw [Int.toNat_of_nonneg hb.1]
/-- A slice of rows of bytes that came in. -/
theorem open_rows {W : World} {v : Value} {d : DataW H} {ps : List MemPlace} {r : Reach} {b : Nat} (hval : Value.okWide Try.prog W r b 22 v) (h : DataW.Trod enc Try.prog W 0 (fun _ => true) true 22 v d ps) :
    ∃ A c, ∃ rows : List Row, v = .slice A rows.length c ∧ rows.length ≤ c ∧ c ≤ maxLen ∧ RdR W W.heap.size A rows ∧ ∀ r ∈ rows, r.l.length ≤ 9223372036854775807 := by
  obtain ⟨a0, n0, c0, rfl⟩ := okWide_slice Try.underlying22 hval
  obtain ⟨fuel, hf⟩ := h
  rcases Go.Deep.open_int_rows Try.underlying22 Try.underlying26 Try.underlying5 (by kernel_rfl) (by kernel_rfl) hf with ⟨hcs, _⟩ | ⟨a, len, cap, A, L, C, Z, hcs, _, hle, hmax, _, hall⟩
  · simp [Value.cells] at hcs
    obtain ⟨rfl, rfl, rfl⟩ := hcs
    exact ⟨none, 0, [], rfl, Nat.le_refl _, by simp [maxLen], ⟨Reads.none_, by simp⟩, by simp⟩
  · simp [Value.cells] at hcs
    obtain ⟨rfl, rfl, rfl⟩ := hcs
    have hex : ∀ k, ∃ l : List UInt8, k < n0 → l.length = L k ∧ RdB W W.heap.size (A k) l := by
      intro k
      by_cases hk : k < n0
      · obtain ⟨_, h1, _, h3, h4, h5, h6⟩ := hall k (by omega)
        obtain ⟨l, hl, hr⟩ := bytes_of h1 h3 h4 h5 (fun a' e => (h6 a' e).2)
        exact ⟨l, fun _ => ⟨hl, hr⟩⟩
      · exact ⟨[], fun h => absurd h hk⟩
    obtain ⟨f, hf'⟩ := Classical.axiomOfChoice hex
    have hlen : ((List.range n0).map fun k => (⟨A k, C k, f k⟩ : Row)).length = n0 := by simp
    refine ⟨some a, c0, (List.range n0).map fun k => ⟨A k, C k, f k⟩, by rw [hlen], by rw [hlen]; exact hle, hmax, ⟨?_, ?_⟩, ?_⟩
    · refine ⟨by simp, fun hn => ?_⟩
      rw [hlen] at hn
      have h0 := (hall 0 (by omega)).1
      refine ⟨a, rfl, by have := World.block_lt_of_cell? W _ h0; rwa [block_of_add] at this, fun j u hu => ?_⟩
      have hj : j < n0 := by
        have := (List.getElem?_eq_some_iff.1 hu).1
        simpa using this
      rw [List.getElem?_map, List.getElem?_map, List.getElem?_range hj] at hu
      simp only [Option.map_some, Option.some.injEq] at hu
      subst hu
      rw [(hall j (by omega)).1, ← (hf' j hj).1]
      rfl
    · intro r hr
      rw [List.mem_map] at hr
      obtain ⟨k, hk, rfl⟩ := hr
      exact (hf' k (List.mem_range.1 hk)).2
    · intro r hr
      rw [List.mem_map] at hr
      obtain ⟨k, hk, rfl⟩ := hr
      have hk := List.mem_range.1 hk
      obtain ⟨_, h1, h2, _⟩ := hall k (by omega)
      have := (hf' k hk).1
      simp only [maxLen] at h2
      simp only
      omega
end
end Go.Proofs.Ytnlcohijopokjaa
