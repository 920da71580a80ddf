/- A slice of edits that came in, opened. Conditions: none. -/
import Derived.Test.YtohgghaooppcoaaRow
import Derived.Test.YtohgghaooppcoaaLawDA
import Derived.Deep.Slices
namespace Go.Proofs.Ytohgghaooppcoaa
open Go.ChangeShapes Go.WideShapes Go.ChangeAt Go.RowKit

section
variable {H : Type} {enc : TypeId × Value → H}
theorem cells_edit : Try.prog.cellsOf 47 = 3 := by kernel_rfl
theorem cells_u8 : Try.prog.cellsOf 5 = 1 := by kernel_rfl
theorem cells_int : Try.prog.cellsOf 3 = 1 := by kernel_rfl
theorem cells_str : Try.prog.cellsOf 9 = 1 := by kernel_rfl
theorem open_kind {W : World} {fuel : Nat} {v : Value} {x : Option (DataW H × List MemPlace)} (hx : x.isSome = true) (h : DataW.trod enc Try.prog W 0 (fun _ => true) true fuel 5 [v] = x) : ∃ k : UInt8, v = .int .u8 (k.toNat : Int) := by
  obtain ⟨y, rfl⟩ := Option.isSome_iff_exists.1 hx
  obtain ⟨a, e, _, wf⟩ := DataW.trod_int Try.underlying5 h
  simp only [List.cons.injEq, and_true] at e
  subst e
  have hb := lit_u8 wf
  refine ⟨UInt8.ofNat a.toNat, ?_⟩
  have e : (UInt8.ofNat a.toNat).toNat = a.toNat := by simp [UInt8.toNat_ofNat']; omega
  rw [e, Int.toNat_of_nonneg hb.1]
theorem open_n {W : World} {fuel : Nat} {v : Value} {x : Option (DataW H × List MemPlace)} (hx : x.isSome = true) (h : DataW.trod enc Try.prog W 0 (fun _ => true) true fuel 3 [v] = x) : ∃ n : Int, v = .int .i64 n ∧ -9223372036854775808 ≤ n ∧ n ≤ 9223372036854775807 := by
  obtain ⟨y, rfl⟩ := Option.isSome_iff_exists.1 hx
  obtain ⟨a, e, _, wf⟩ := DataW.trod_int Try.underlying3 h
  simp only [List.cons.injEq, and_true] at e
  subst e
  have hb := lit_i64 wf
  exact ⟨a, rfl, by omega, by omega⟩
theorem open_s {W : World} {fuel : Nat} {v : Value} {x : Option (DataW H × List MemPlace)} (hx : x.isSome = true) (h : DataW.trod enc Try.prog W 0 (fun _ => true) true fuel 9 [v] = x) : ∃ s : List UInt8, v = .string (txt s) ∧ s.length ≤ 9223372036854775807 := by
  obtain ⟨y, rfl⟩ := Option.isSome_iff_exists.1 hx
  obtain ⟨s, e, _, wf⟩ := DataW.trod_string Try.underlying9 h
  simp only [List.cons.injEq, and_true] at e
  subst e
  refine ⟨s.data.toList, by rw [txt_toList], ?_⟩
  have := txt_size s.data.toList
  rw [txt_toList] at this
  unfold maxLen at wf
  omega
theorem three_of_length {cs : List Value} (h : cs.length = 3) : ∃ a b c, cs = [a, b, c] := by
  match cs, h with
  | [a, b, c], _ => exact ⟨a, b, c, rfl⟩
set_option maxRecDepth 100000 in
/-- An edit's cells. -/
theorem open_edit {W : World} {fuel : Nat} {cs : List Value} {x : DataW H × List MemPlace} (hl : cs.length = 3) (h : DataW.trod enc Try.prog W 0 (fun _ => true) true fuel 47 cs = some x) :
    ∃ x : Ed, cs = x.cells ∧ -9223372036854775808 ≤ x.n ∧ x.n ≤ 9223372036854775807 ∧ x.s.length ≤ 9223372036854775807 := by
  obtain ⟨v0, v1, v2, rfl⟩ := three_of_length hl
  obtain ⟨xs, m, _, _, _, hxl, hall⟩ := DataW.trod_struct Try.underlying47 h
  replace hxl : xs.length = 3 := hxl
  have h0 : DataW.trod enc Try.prog W 0 (fun _ => true) true m 5 (([v0, v1, v2].drop 0).take (Try.prog.cellsOf 5)) = xs[0]? := hall 0 _ rfl
  have h1 : DataW.trod enc Try.prog W 0 (fun _ => true) true m 3 (([v0, v1, v2].drop 1).take (Try.prog.cellsOf 3)) = xs[1]? := hall 1 _ rfl
  have h2 : DataW.trod enc Try.prog W 0 (fun _ => true) true m 9 (([v0, v1, v2].drop 2).take (Try.prog.cellsOf 9)) = xs[2]? := hall 2 _ rfl
  clear hall
  rw [cells_u8] at h0
  rw [cells_int] at h1
  rw [cells_str] at h2
  have hs : ∀ i, i < 3 → (xs[i]?).isSome = true := fun i hi => by rw [List.getElem?_eq_getElem (by omega)]; rfl
  obtain ⟨k, rfl⟩ := open_kind (hs 0 (by decide)) h0
  obtain ⟨n, rfl, b0, b1⟩ := open_n (hs 1 (by decide)) h1
  obtain ⟨s, rfl, b2⟩ := open_s (hs 2 (by decide)) h2
  exact ⟨⟨k, n, s⟩, rfl, b0, b1, b2⟩
set_option maxRecDepth 100000 in
/-- A slice of edits that came in. -/
theorem open_edits {W : World} {v : Value} {d : DataW H} {ps : List MemPlace} {r : Reach} {b : Nat} (hval : Value.okWide Try.prog W r b 22 v) (h : DataW.Trod enc Try.prog W 0 (fun _ => true) true 22 v d ps) :
    ∃ A c, ∃ l : List Ed, v = .slice A l.length c ∧ l.length ≤ c ∧ c ≤ maxLen ∧ RdE W W.heap.size A l ∧ Nums l := by
  obtain ⟨a0, n0, c0, rfl⟩ := okWide_slice Try.underlying22 hval
  obtain ⟨fuel, hf⟩ := h
  rcases Go.Deep.open_slice Try.underlying22 hf with ⟨hcs, _⟩ | ⟨a, len, cap, m, n, D, Pl, hcs, _, hle, hmax, hm, _, hall⟩
  · simp [Value.cells] at hcs
    obtain ⟨rfl, rfl, rfl⟩ := hcs
    exact ⟨none, 0, [], rfl, Nat.le_refl _, by simp [maxLen], RdE.nil, fun x hx => by cases hx⟩
  · simp [Value.cells] at hcs
    obtain ⟨rfl, rfl, rfl⟩ := hcs
    simp only [if_true] at hm
    subst hm
    rw [cells_edit] at hall
    have hex : ∀ i, ∃ x : Ed, i < n0 → (∀ j, j < 3 → W.cell? (a.add (i * 3 + j)) = x.cells[j]?) ∧ -9223372036854775808 ≤ x.n ∧ x.n ≤ 9223372036854775807 ∧ x.s.length ≤ 9223372036854775807 := by
      intro i
      by_cases hi : i < n0
      · obtain ⟨cs', h1, h2⟩ := hall i (by omega)
        obtain ⟨_, hlen, hcell⟩ := World.cells?_some h1
        obtain ⟨x, rfl, hx⟩ := open_edit hlen h2
        refine ⟨x, fun _ => ⟨fun j hj => ?_, hx⟩⟩
        rw [← add_of_add]
        exact hcell j hj
      · exact ⟨Ed.zero, fun h => absurd h hi⟩
    obtain ⟨g, hg⟩ := Classical.axiomOfChoice hex
    have hlen : ((List.range n0).map g).length = n0 := by simp
    have hat : ∀ {j : Nat}, j < n0 → ((List.range n0).map g)[j]? = some (g j) := by
      intro j hj
      rw [List.getElem?_map, List.getElem?_range hj]
      rfl
    refine ⟨some a, m, (List.range n0).map g, by rw [hlen], by rw [hlen]; exact hle, hmax, ⟨by rw [ecells_len], fun hn => ?_⟩, fun x hx => ?_⟩
    · rw [hlen] at hn
      have h0 := (hg 0 hn).1 0 (by decide)
      refine ⟨a, rfl, by have := World.block_lt_of_cell? W _ h0; rwa [block_of_add] at this, fun j u hu => ?_⟩
      have hj : j < n0 * 3 := by
        have := (List.getElem?_eq_some_iff.1 hu).1
        rw [ecells_len, hlen] at this
        exact this
      have hj3 : j / 3 < n0 := by omega
      have e := ecells_get (hat hj3) (j := j % 3) (by omega)
      rw [show j / 3 * 3 + j % 3 = j by omega] at e
      have e2 := (hg (j / 3) hj3).1 (j % 3) (by omega)
      rw [show j / 3 * 3 + j % 3 = j by omega] at e2
      rw [e2, ← e, hu]
    · rw [List.mem_map] at hx
      obtain ⟨i, hi, rfl⟩ := hx
      exact (hg i (List.mem_range.1 hi)).2
end
end Go.Proofs.Ytohgghaooppcoaa
