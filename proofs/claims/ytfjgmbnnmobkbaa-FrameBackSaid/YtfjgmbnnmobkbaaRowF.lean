/- A frame, and a slice of frames, that came in, opened. Conditions: none. -/
import Derived.Test.YtfjgmbnnmobkbaaRow
import Derived.Test.YtfjgmbnnmobkbaaFrW
import Derived.Deep.SlicePairs
import Derived.Lib.SmallJoins
import Derived.SizedLaws
namespace Go.Proofs.Ytfjgmbnnmobkbaa
open Go.ChangeShapes Go.WideShapes Go.ChangeAt Go.RowKit

section
variable {H : Type} {enc : TypeId × Value → H}
theorem bytesOf_byte : Try.prog.bytesOf 5 = 1 := by kernel_rfl
/-- A slice of bytes in a field. -/
theorem open_body {W : World} {fuel : Nat} {v : Value} {x : DataW H × List MemPlace} (h : DataW.trod enc Try.prog W 0 (fun _ => true) true fuel 24 [v] = some x) :
    ∃ r : Row, v = .slice r.A r.l.length r.c ∧ r.l.length ≤ r.c ∧ r.c ≤ maxLen ∧ RdB W W.heap.size r.A r.l ∧ ∀ N, (∀ n ∈ x.1.weights Try.prog 24, n ≤ N) → r.l.length ≤ N := by
  rcases open_ints Try.underlying24 Try.underlying5 (by kernel_rfl) h with ⟨hcs, rfl⟩ | ⟨a, n0, c0, zs, hcs, _, hle, hmax, hall, rfl, hcell, hwf⟩
  · simp only [List.cons.injEq, and_true] at hcs
    subst hcs
    exact ⟨⟨none, 0, []⟩, rfl, Nat.le_refl _, by simp [maxLen], Reads.none_, fun N _ => Nat.zero_le N⟩
  · simp only [List.cons.injEq, and_true] at hcs
    subst hcs
    simp only [if_true] at hall
    have hlen : ((zs.take n0).map fun n => UInt8.ofNat n.toNat).length = n0 := by simp; omega
    refine ⟨⟨some a, c0, (zs.take n0).map fun n => UInt8.ofNat n.toNat⟩, by simp only; rw [hlen], by simp only; rw [hlen]; exact hle, hmax, ⟨by rw [bs_len, hlen]; omega, fun hn => ?_⟩, fun N hN => ?_⟩
    · rw [hlen] at hn
      have h0 := hcell 0 (by omega)
      refine ⟨a, rfl, by have := World.block_lt_of_cell? W _ h0; rwa [block_of_add] at this, fun j u hu => ?_⟩
      have hj : j < n0 := by
        have := (List.getElem?_eq_some_iff.1 hu).1
        rw [bs_len, hlen] at this
        exact this
      have hjz : j < zs.length := by omega
      have hb := lit_u8 (hwf (zs[j]) (List.getElem_mem hjz))
      rw [hcell j hjz, ← hu]
      have e : (UInt8.ofNat (zs[j]).toNat).toNat = (zs[j]).toNat := by simp [UInt8.toNat_ofNat']; omega
      simp only [bs, List.map_map, List.getElem?_map, List.getElem?_take, if_pos hj, List.getElem?_eq_getElem hjz, Option.map_some, Function.comp_apply, e, List.getD_eq_getElem?_getD, Option.getD_some]
      rw [Int.toNat_of_nonneg hb.1]
    · simp only
      rw [hlen]
      have := hN ((((lits .u8 (zs.take n0) : List (DataW H))).length + ((lits .u8 (zs.drop n0) : List (DataW H))).length) * Try.prog.bytesOf 5) (by simp [DataW.weights, Try.underlying24])
      rw [bytesOf_byte, Nat.mul_one] at this
      have h1 : ((lits .u8 (zs.take n0) : List (DataW H))).length = n0 := by simp [lits]; omega
      omega
theorem open_kind {W : World} {fuel : Nat} {v : Value} {x : DataW H × List MemPlace} (h : DataW.trod enc Try.prog W 0 (fun _ => true) true fuel 5 [v] = some x) : ∃ k : UInt8, v = .int .u8 (k.toNat : Int) := by
  obtain ⟨a, e, _, wf⟩ := DataW.trod_int Try.underlying5 h
  simp only [List.cons.injEq, and_true] at e
  subst e
  have hb := lit_u8 wf
  refine ⟨UInt8.ofNat a.toNat, ?_⟩
  have e : (UInt8.ofNat a.toNat).toNat = a.toNat := by simp [UInt8.toNat_ofNat']; omega
  rw [e, Int.toNat_of_nonneg hb.1]
theorem cells_fr : Try.prog.cellsOf 26 = 2 := by kernel_rfl
/-- A frame that came in. -/
theorem open_frame {W : World} {v : Value} {d : DataW H} {ps : List MemPlace} {r : Reach} {b : Nat} (hval : Value.okWide Try.prog W r b 26 v) (h : DataW.Trod enc Try.prog W 0 (fun _ => true) true 26 v d ps) :
    ∃ f : Fr, v = f.v ∧ f.r.l.length ≤ 9223372036854775807 ∧ RdB W W.heap.size f.r.A f.r.l := by
  obtain ⟨v0, v1, y0, y1, n, rfl, rfl, rfl, h0, h1⟩ := Go.Joins.open_agg2 Try.underlying26 (by kernel_rfl) cells_fr hval h
  obtain ⟨k, rfl⟩ := open_kind h0
  obtain ⟨r, rfl, h2, h3, h4, _⟩ := open_body h1
  exact ⟨⟨k, r⟩, rfl, by simp only [maxLen] at h3; simp only; omega, h4⟩
theorem weights_all {P : Program} {e : TypeId} {d : DataW H} : ∀ {l : List (DataW H)}, d ∈ l → ∀ n ∈ d.weights P e, n ∈ DataW.weightsAll P e l
  | x :: l, hd, n, hn => by
    simp only [DataW.weightsAll, List.mem_append]
    rw [List.mem_cons] at hd
    rcases hd with rfl | hd
    · exact .inl hn
    · exact .inr (weights_all hd n hn)
  | [], hd, _, _ => by simp at hd
/-- A slice of frames that came in. -/
theorem open_frames {W : World} {v : Value} {d : DataW H} {ps : List MemPlace} {r : Reach} {b : Nat} (hval : Value.okWide Try.prog W r b 22 v) (h : DataW.Trod enc Try.prog W 0 (fun _ => true) true 22 v d ps) :
    ∃ A c, ∃ fs : List Fr, v = .slice A fs.length c ∧ fs.length ≤ c ∧ c ≤ maxLen ∧ RdF W W.heap.size A fs ∧ (∀ f ∈ fs, f.r.l.length ≤ 9223372036854775807) ∧ ∀ N, (∀ n ∈ d.weights Try.prog 22, n ≤ N) → ∀ f ∈ fs, f.r.l.length ≤ N := by
  obtain ⟨a0, n0, c0, rfl⟩ := okWide_slice Try.underlying22 hval
  obtain ⟨fuel, hf⟩ := h
  rcases Go.Deep.open_slice_pairs Try.underlying22 Try.underlying26 cells_fr rfl rfl (by kernel_rfl) (by kernel_rfl) hf with ⟨hcs, _⟩ | ⟨a, len, cap, m, n, V0, V1, D0, D1, P0, P1, hcs, _, hle, hmax, hm, hx, hall⟩
  · simp [Value.cells] at hcs
    obtain ⟨rfl, rfl, rfl⟩ := hcs
    exact ⟨none, 0, [], rfl, Nat.le_refl _, by simp [maxLen], RdF.nil, by simp, by simp⟩
  · simp [Value.cells] at hcs
    obtain ⟨rfl, rfl, rfl⟩ := hcs
    simp only [if_true] at hm
    subst hm
    have hex : ∀ i, ∃ f : Fr, i < n0 → V0 i = .int .u8 (f.k.toNat : Int) ∧ V1 i = .slice f.r.A f.r.l.length f.r.c ∧ f.r.l.length ≤ 9223372036854775807 ∧ RdB W W.heap.size f.r.A f.r.l ∧ ∀ N, (∀ n ∈ (D1 i).weights Try.prog 24, n ≤ N) → f.r.l.length ≤ N := by
      intro i
      by_cases hi : i < n0
      · obtain ⟨_, _, h3, h4⟩ := hall i (by omega)
        obtain ⟨k, hk⟩ := open_kind h3
        obtain ⟨r, hr, h5, h6, h7, h8⟩ := open_body h4
        exact ⟨⟨k, r⟩, fun _ => ⟨hk, hr, by simp only [maxLen] at h6; simp only; omega, h7, h8⟩⟩
      · exact ⟨⟨0, ⟨none, 0, []⟩⟩, fun h => absurd h hi⟩
    obtain ⟨g, hg⟩ := Classical.axiomOfChoice hex
    have hlen : ((List.range n0).map g).length = n0 := by simp
    have hat : ∀ {j : Nat}, j < n0 → ((List.range n0).map g)[j]? = some (g j) := by
      intro j hj
      rw [List.getElem?_map, List.getElem?_range hj]
      rfl
    have hmem : ∀ f ∈ (List.range n0).map g, ∃ i, i < n0 ∧ f = g i := by
      intro f hf
      rw [List.mem_map] at hf
      obtain ⟨i, hi, rfl⟩ := hf
      exact ⟨i, List.mem_range.1 hi, rfl⟩
    refine ⟨some a, m, (List.range n0).map g, by rw [hlen], by rw [hlen]; exact hle, hmax, ⟨⟨fcells_len _, fun hn => ?_⟩, ?_⟩, ?_, ?_⟩
    · rw [hlen] at hn
      have h0 := (hall 0 (by omega)).1
      refine ⟨a, rfl, by have := World.block_lt_of_cell? W _ h0; rwa [block_of_add] at this, fun j u hu => ?_⟩
      have hj : j < n0 * 2 := by
        have := (List.getElem?_eq_some_iff.1 hu).1
        rw [fcells_len, hlen] at this
        exact this
      obtain ⟨e0, e1⟩ := fcells_get (hat (j := j / 2) (by omega))
      obtain ⟨c1, c2, _, _⟩ := hall (j / 2) (by omega)
      obtain ⟨g1, g2, _⟩ := hg (j / 2) (by omega)
      rcases Nat.mod_two_eq_zero_or_one j with hj2 | hj2
      · have ej : j = j / 2 * 2 := by omega
        rw [ej] at hu ⊢
        rw [c1, g1, ← hu, e0]
      · have ej : j = j / 2 * 2 + 1 := by omega
        rw [ej] at hu ⊢
        rw [c2, g2, ← hu, e1]
    · intro f hf
      obtain ⟨i, hi, rfl⟩ := hmem f hf
      exact (hg i hi).2.2.2.1
    · intro f hf
      obtain ⟨i, hi, rfl⟩ := hmem f hf
      exact (hg i hi).2.2.1
    · intro N hN f hf
      obtain ⟨i, hi, rfl⟩ := hmem f hf
      refine (hg i hi).2.2.2.2 N fun n hn => hN n ?_
      simp only [Prod.mk.injEq] at hx
      rw [hx.1]
      simp only [DataW.weights, Try.underlying22, List.mem_cons, List.mem_append]
      refine .inr (.inl (weights_all (d := .agg [D0 i, D1 i]) (List.mem_map.2 ⟨i, List.mem_range.2 hi, rfl⟩) n ?_))
      simp only [DataW.weights, Try.underlying26]
      simp [DataW.weightsEach, hn]
end
end Go.Proofs.Ytfjgmbnnmobkbaa
