/- A slice of calls that came in, opened. Conditions: none. -/
import Derived.Test.YtdnbflhpgfgnnaaRow
import Derived.Test.YtdnbflhpgfgnnaaDrK
import Derived.Deep.Slices
import Derived.Deep.Grids
import Derived.ChangeMaps
namespace Go.Proofs.Ytdnbflhpgfgnnaa
open Go.ChangeShapes Go.WideShapes Go.ChangeAt Go.RowKit

section
variable {H : Type} {enc : TypeId × Value → H}
theorem cells_act : Try.prog.cellsOf 34 = 3 := by kernel_rfl
theorem cells_int7 : Try.prog.cellsOf 3 = 1 := by kernel_rfl
theorem cells_str7 : Try.prog.cellsOf 9 = 1 := by kernel_rfl
theorem open_n7 {W : World} {fuel : Nat} {v : Value} {x : Option (DataW H × List MemPlace)} (hx : x.isSome = true) (h : DataW.trod enc Try.prog W 0 (fun _ => true) true fuel 3 [v] = x) : ∃ n : Int, v = .int .i64 n ∧ -9223372036854775808 ≤ n ∧ n ≤ 9223372036854775807 := by
  obtain ⟨y, rfl⟩ := Option.isSome_iff_exists.1 hx
  obtain ⟨a, e, _, wf⟩ := DataW.trod_int Try.underlying3 h
  simp only [List.cons.injEq, and_true] at e
  subst e
  have hb := lit_i64 wf
  exact ⟨a, rfl, by omega, by omega⟩
/-- A text in a field. -/
theorem open_s8 {W : World} {fuel : Nat} {v : Value} {x : Option (DataW H × List MemPlace)} (hx : x.isSome = true) (h : DataW.trod enc Try.prog W 0 (fun _ => true) true fuel 9 [v] = x) : ∃ l : List UInt8, v = .string (txt l) ∧ l.length ≤ 9223372036854775807 := by
  obtain ⟨y, rfl⟩ := Option.isSome_iff_exists.1 hx
  obtain ⟨s, e, _, wf⟩ := DataW.trod_string Try.underlying9 h
  simp only [List.cons.injEq, and_true] at e
  subst e
  refine ⟨s.data.toList, by rw [txt_toList], ?_⟩
  have h1 : s.data.toList.length = s.size := Array.length_toList
  unfold maxLen at wf
  omega
theorem three_cells {cs : List Value} (h : cs.length = 3) : ∃ a b c, cs = [a, b, c] := by
  match cs, h with
  | [a, b, c], _ => exact ⟨a, b, c, rfl⟩
set_option maxRecDepth 100000 in
/-- A call's cells. -/
theorem open_act {W : World} {fuel : Nat} {cs : List Value} {x : DataW H × List MemPlace} (hl : cs.length = 3) (h : DataW.trod enc Try.prog W 0 (fun _ => true) true fuel 34 cs = some x) :
    ∃ a : Ac, cs = a.cs ∧ a.Ok := by
  obtain ⟨v0, v1, v2, rfl⟩ := three_cells hl
  obtain ⟨xs, m, _, _, _, hxl, hall⟩ := DataW.trod_struct Try.underlying34 h
  replace hxl : xs.length = 3 := hxl
  have h0 : DataW.trod enc Try.prog W 0 (fun _ => true) true m 3 (([v0, v1, v2].drop 0).take (Try.prog.cellsOf 3)) = xs[0]? := hall 0 _ rfl
  have h1 : DataW.trod enc Try.prog W 0 (fun _ => true) true m 9 (([v0, v1, v2].drop 1).take (Try.prog.cellsOf 9)) = xs[1]? := hall 1 _ rfl
  have h2 : DataW.trod enc Try.prog W 0 (fun _ => true) true m 3 (([v0, v1, v2].drop 2).take (Try.prog.cellsOf 3)) = xs[2]? := hall 2 _ rfl
  clear hall
  rw [cells_int7] at h0 h2
  rw [cells_str7] at h1
  have hs : ∀ i, i < 3 → (xs[i]?).isSome = true := fun i hi => by rw [List.getElem?_eq_getElem (by omega)]; rfl
  obtain ⟨n, rfl, b0, b1⟩ := open_n7 (hs 0 (by decide)) h0
  obtain ⟨l, rfl, r1⟩ := open_s8 (hs 1 (by decide)) h1
  obtain ⟨k, rfl, q0, q1⟩ := open_n7 (hs 2 (by decide)) h2
  exact ⟨⟨n, l, k⟩, rfl, b0, b1, q0, q1, r1⟩
set_option maxRecDepth 100000 in
/-- A slice of calls that came in. -/
theorem open_acts {W : World} {v : Value} {d : DataW H} {ps : List MemPlace} {r : Reach} {b : Nat} (hval : Value.okWide Try.prog W r b 22 v) (h : DataW.Trod enc Try.prog W 0 (fun _ => true) true 22 v d ps) :
    ∃ A c, ∃ l : List Ac, v = .slice A l.length c ∧ l.length ≤ c ∧ c ≤ maxLen ∧ AcX W (fun _ => False) A l := by
  obtain ⟨a0, n0, c0, rfl⟩ := okWide_slice Try.underlying22 hval
  obtain ⟨fuel, hf⟩ := h
  rcases Go.Deep.open_slice Try.underlying22 hf with ⟨hcs, _⟩ | ⟨a, len, cap, m, n, D, Pl, hcs, _, hle, hmax, hm, _, hall⟩
  · simp [Value.cells] at hcs
    obtain ⟨rfl, rfl, rfl⟩ := hcs
    exact ⟨none, 0, [], rfl, Nat.le_refl _, by simp [maxLen], AcX.nil⟩
  · simp [Value.cells] at hcs
    obtain ⟨rfl, rfl, rfl⟩ := hcs
    simp only [if_true] at hm
    subst hm
    rw [cells_act] at hall
    have hex : ∀ i, ∃ x : Ac, i < n0 → (∀ j, j < 3 → W.cell? (a.add (i * 3 + j)) = x.cs[j]?) ∧ x.Ok := by
      intro i
      by_cases hi : i < n0
      · obtain ⟨cs', h1, h2⟩ := hall i (by omega)
        obtain ⟨_, hlen, hcell⟩ := World.cells?_some h1
        obtain ⟨x, rfl, hx⟩ := open_act hlen h2
        refine ⟨x, fun _ => ⟨fun j hj => ?_, hx⟩⟩
        rw [← add_of_add]
        exact hcell j hj
      · exact ⟨⟨0, [], 0⟩, fun h => absurd h hi⟩
    obtain ⟨g, hg⟩ := Classical.axiomOfChoice hex
    have hlen : ((List.range n0).map g).length = n0 := by simp
    have hat : ∀ {j : Nat}, j < n0 → ((List.range n0).map g)[j]? = some (g j) := by
      intro j hj
      rw [List.getElem?_map, List.getElem?_range hj]
      rfl
    have hmem : ∀ f ∈ (List.range n0).map g, ∃ i, i < n0 ∧ f = g i := by
      intro f hf
      rw [List.mem_map] at hf
      obtain ⟨i, hi, rfl⟩ := hf
      exact ⟨i, List.mem_range.1 hi, rfl⟩
    refine ⟨some a, m, (List.range n0).map g, by rw [hlen], by rw [hlen]; exact hle, hmax, ⟨⟨by rw [acells_len], fun hn => ?_⟩, fun x hx => ?_⟩⟩
    · rw [hlen] at hn
      have h0 := (hg 0 hn).1 0 (by decide)
      refine ⟨a, rfl, by have := World.block_lt_of_cell? W _ h0; rwa [block_of_add] at this, fun e => e, fun j u hu => ?_⟩
      have hj : j < n0 * 3 := by
        have := (List.getElem?_eq_some_iff.1 hu).1
        rw [acells_len, hlen] at this
        exact this
      have hj3 : j / 3 < n0 := by omega
      have e := acells_get (hat hj3) (j := j % 3) (by omega)
      rw [show j / 3 * 3 + j % 3 = j by omega] at e
      have e2 := (hg (j / 3) hj3).1 (j % 3) (by omega)
      rw [show j / 3 * 3 + j % 3 = j by omega] at e2
      rw [e2, ← e, hu]
    · obtain ⟨i, hi, rfl⟩ := hmem x hx
      exact (hg i hi).2
end
end Go.Proofs.Ytdnbflhpgfgnnaa
