/- Bytes (with their weight), and a reference, that came in, opened. Conditions: none. -/
import Derived.Test.YtogoaihimepboaaKGa
import Derived.Test.YtogoaihimepboaaKJoA
import Derived.Deep.SlicePairs
import Derived.Lib.SmallJoins
import Derived.SizedLaws
namespace Go.Proofs.Ytogoaihimepboaa
open Go.ChangeShapes Go.WideShapes Go.ChangeAt Go.RowKit

section
variable {H : Type} {enc : TypeId × Value → H}
theorem bytesOf_byte : Try.prog.bytesOf 5 = 1 := by kernel_rfl
/-- A slice of bytes in a field. -/
theorem open_body {W : World} {fuel : Nat} {v : Value} {x : DataW H × List MemPlace} (h : DataW.trod enc Try.prog W 0 (fun _ => true) true fuel 22 [v] = some x) :
    ∃ r : Row, v = .slice r.A r.l.length r.c ∧ r.l.length ≤ r.c ∧ r.c ≤ maxLen ∧ RdB W W.heap.size r.A r.l ∧ ∀ N, (∀ n ∈ x.1.weights Try.prog 22, n ≤ N) → r.l.length ≤ N := by
  rcases open_ints Try.underlying22 Try.underlying5 (by kernel_rfl) h with ⟨hcs, rfl⟩ | ⟨a, n0, c0, zs, hcs, _, hle, hmax, hall, rfl, hcell, hwf⟩
  · simp only [List.cons.injEq, and_true] at hcs
    subst hcs
    exact ⟨⟨none, 0, []⟩, rfl, Nat.le_refl _, by simp [maxLen], Reads.none_, fun N _ => Nat.zero_le N⟩
  · simp only [List.cons.injEq, and_true] at hcs
    subst hcs
    simp only [if_true] at hall
    have hlen : ((zs.take n0).map fun n => UInt8.ofNat n.toNat).length = n0 := by simp; omega
    refine ⟨⟨some a, c0, (zs.take n0).map fun n => UInt8.ofNat n.toNat⟩, by simp only; rw [hlen], by simp only; rw [hlen]; exact hle, hmax, ⟨by rw [bs_len, hlen]; omega, fun hn => ?_⟩, fun N hN => ?_⟩
    · rw [hlen] at hn
      have h0 := hcell 0 (by omega)
      refine ⟨a, rfl, by have := World.block_lt_of_cell? W _ h0; rwa [block_of_add] at this, fun j u hu => ?_⟩
      have hj : j < n0 := by
        have := (List.getElem?_eq_some_iff.1 hu).1
        rw [bs_len, hlen] at this
        exact this
      have hjz : j < zs.length := by omega
      have hb := lit_u8 (hwf (zs[j]) (List.getElem_mem hjz))
      rw [hcell j hjz, ← hu]
      have e : (UInt8.ofNat (zs[j]).toNat).toNat = (zs[j]).toNat := by simp [UInt8.toNat_ofNat']; omega
      simp only [bs, List.map_map, List.getElem?_map, List.getElem?_take, if_pos hj, List.getElem?_eq_getElem hjz, Option.map_some, Function.comp_apply, e, List.getD_eq_getElem?_getD, Option.getD_some]
      rw [Int.toNat_of_nonneg hb.1]
    · simp only
      rw [hlen]
      have := hN ((((lits .u8 (zs.take n0) : List (DataW H))).length + ((lits .u8 (zs.drop n0) : List (DataW H))).length) * Try.prog.bytesOf 5) (by simp [DataW.weights, Try.underlying22])
      rw [bytesOf_byte, Nat.mul_one] at this
      have h1 : ((lits .u8 (zs.take n0) : List (DataW H))).length = n0 := by simp [lits]; omega
      omega
/-- Bytes that came in, no more than the form's own reach. -/
theorem open_bytesW {W : World} {v : Value} {d : DataW H} {ps : List MemPlace} {r : Reach} {b : Nat} (hval : Value.okWide Try.prog W r b 22 v) (h : DataW.Trod enc Try.prog W 0 (fun _ => true) true 22 v d ps) :
    ∃ A c, ∃ l : List UInt8, v = .slice A l.length c ∧ l.length ≤ c ∧ c ≤ maxLen ∧ RdB W W.heap.size A l ∧ ∀ N, (∀ n ∈ d.weights Try.prog 22, n ≤ N) → l.length ≤ N := by
  obtain ⟨a0, n0, c0, rfl⟩ := okWide_slice Try.underlying22 hval
  obtain ⟨fuel, hf⟩ := h
  obtain ⟨q, e, h1, h2, h3, h4⟩ := open_body hf
  exact ⟨q.A, q.c, q.l, e, h1, h2, h3, h4⟩
theorem open_u64R {W : World} {fuel : Nat} {v : Value} {x : DataW H × List MemPlace} (h : DataW.trod enc Try.prog W 0 (fun _ => true) true fuel 23 [v] = some x) : ∃ n : Nat, v = .int .u64 (n : Int) := by
  obtain ⟨a, e, _, wf⟩ := DataW.trod_int Try.underlying23 h
  simp only [List.cons.injEq, and_true] at e
  subst e
  have hb := lit_u64 wf
  obtain ⟨n, hn⟩ := Int.eq_ofNat_of_zero_le hb.1
  exact ⟨n, by rw [hn]⟩
theorem cells_rf : Try.prog.cellsOf 25 = 2 := by kernel_rfl
/-- A reference that came in. -/
theorem open_ref {W : World} {v : Value} {d : DataW H} {ps : List MemPlace} {r : Reach} {b : Nat} (hval : Value.okWide Try.prog W r b 25 v) (h : DataW.Trod enc Try.prog W 0 (fun _ => true) true 25 v d ps) :
    ∃ s m : Nat, v = rfV s m := by
  obtain ⟨v0, v1, y0, y1, n, rfl, rfl, rfl, h0, h1⟩ := Go.Joins.open_agg2 Try.underlying25 (by kernel_rfl) cells_rf hval h
  obtain ⟨s, rfl⟩ := open_u64R h0
  obtain ⟨m, rfl⟩ := open_u64R h1
  exact ⟨s, m, rfl⟩
end
end Go.Proofs.Ytogoaihimepboaa
