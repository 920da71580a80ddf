/- A slice of calls (a kind, a number, bytes, numbers, bools), and a slice of bools, that came in, opened. Conditions: none. -/
import Derived.Test.YtlehkgogcbdckaaRow
import Derived.Test.YtlehkgogcbdckaaInU
import Derived.Deep.Slices
import Derived.Deep.Grids
namespace Go.Proofs.Ytlehkgogcbdckaa
open Go.ChangeShapes Go.WideShapes Go.ChangeAt Go.RowKit

section
variable {H : Type} {enc : TypeId × Value → H}
theorem cells_act : Try.prog.cellsOf 32 = 5 := by kernel_rfl
theorem cells_int7 : Try.prog.cellsOf 3 = 1 := by kernel_rfl
theorem cells_bytes7 : Try.prog.cellsOf 29 = 1 := by kernel_rfl
theorem cells_ints9 : Try.prog.cellsOf 30 = 1 := by kernel_rfl
theorem cells_bools7 : Try.prog.cellsOf 23 = 1 := by kernel_rfl
/-- A slice of bytes in a field. -/
theorem open_body7 {W : World} {fuel : Nat} {v : Value} {x : Option (DataW H × List MemPlace)} (hx : x.isSome = true) (h : DataW.trod enc Try.prog W 0 (fun _ => true) true fuel 29 [v] = x) :
    ∃ r : Row, v = .slice r.A r.l.length r.c ∧ r.l.length ≤ r.c ∧ r.c ≤ maxLen ∧ RdB W W.heap.size r.A r.l := by
  obtain ⟨y, rfl⟩ := Option.isSome_iff_exists.1 hx
  rcases open_ints Try.underlying29 Try.underlying5 (by kernel_rfl) h with ⟨hcs, rfl⟩ | ⟨a, n0, c0, zs, hcs, _, hle, hmax, hall, rfl, hcell, hwf⟩
  · simp only [List.cons.injEq, and_true] at hcs
    subst hcs
    exact ⟨⟨none, 0, []⟩, rfl, Nat.le_refl _, by simp [maxLen], Reads.none_⟩
  · simp only [List.cons.injEq, and_true] at hcs
    subst hcs
    simp only [if_true] at hall
    have hlen : ((zs.take n0).map fun n => UInt8.ofNat n.toNat).length = n0 := by simp; omega
    refine ⟨⟨some a, c0, (zs.take n0).map fun n => UInt8.ofNat n.toNat⟩, by simp only; rw [hlen], by simp only; rw [hlen]; exact hle, hmax, by rw [bs_len, hlen]; omega, fun hn => ?_⟩
    rw [hlen] at hn
    have h0 := hcell 0 (by omega)
    refine ⟨a, rfl, by have := World.block_lt_of_cell? W _ h0; rwa [block_of_add] at this, fun j u hu => ?_⟩
    have hj : j < n0 := by
      have := (List.getElem?_eq_some_iff.1 hu).1
      rw [bs_len, hlen] at this
      exact this
    have hjz : j < zs.length := by omega
    have hb := lit_u8 (hwf (zs[j]) (List.getElem_mem hjz))
    rw [hcell j hjz, ← hu]
    have e : (UInt8.ofNat (zs[j]).toNat).toNat = (zs[j]).toNat := by simp [UInt8.toNat_ofNat']; omega
    simp only [bs, List.map_map, List.getElem?_map, List.getElem?_take, if_pos hj, List.getElem?_eq_getElem hjz, Option.map_some, Function.comp_apply, e, List.getD_eq_getElem?_getD, Option.getD_some]
    rw [Int.toNat_of_nonneg hb.1]
/-- A slice of bools in a field. -/
theorem open_told7 {W : World} {fuel : Nat} {v : Value} {x : Option (DataW H × List MemPlace)} (hx : x.isSome = true) (h : DataW.trod enc Try.prog W 0 (fun _ => true) true fuel 23 [v] = x) :
    ∃ q : KRow, v = .slice q.A q.l.length q.c ∧ q.l.length ≤ q.c ∧ q.c ≤ maxLen ∧ RdK W W.heap.size q.A q.l := by
  obtain ⟨y, rfl⟩ := Option.isSome_iff_exists.1 hx
  rcases Go.Deep.open_bools Try.underlying23 Try.underlying4 (by kernel_rfl) h with ⟨hcs, _⟩ | ⟨a, n0, c0, f, hcs, _, hle, hmax, _, hcell⟩
  · simp only [List.cons.injEq, and_true] at hcs
    subst hcs
    exact ⟨⟨none, 0, []⟩, rfl, Nat.le_refl _, by simp [maxLen], Reads.none_⟩
  · simp only [List.cons.injEq, and_true] at hcs
    subst hcs
    have hlen : ((List.range n0).map f).length = n0 := by simp
    refine ⟨⟨some a, c0, (List.range n0).map f⟩, by simp only; rw [hlen], by simp only; rw [hlen]; exact hle, hmax, by rw [kc_len, hlen]; omega, fun hn => ?_⟩
    rw [hlen] at hn
    have h0 := hcell 0 (by omega)
    refine ⟨a, rfl, by have := World.block_lt_of_cell? W _ h0; rwa [block_of_add] at this, fun j u hu => ?_⟩
    have hj : j < n0 := by
      have := (List.getElem?_eq_some_iff.1 hu).1
      rw [kc_len, hlen] at this
      exact this
    unfold kc at hu
    rw [List.getElem?_map, List.getElem?_map, List.getElem?_range hj] at hu
    simp only [Option.map_some, Option.some.injEq] at hu
    rw [hcell j (by omega), ← hu]
theorem open_n7 {W : World} {fuel : Nat} {v : Value} {x : Option (DataW H × List MemPlace)} (hx : x.isSome = true) (h : DataW.trod enc Try.prog W 0 (fun _ => true) true fuel 3 [v] = x) : ∃ n : Int, v = .int .i64 n ∧ -9223372036854775808 ≤ n ∧ n ≤ 9223372036854775807 := by
  obtain ⟨y, rfl⟩ := Option.isSome_iff_exists.1 hx
  obtain ⟨a, e, _, wf⟩ := DataW.trod_int Try.underlying3 h
  simp only [List.cons.injEq, and_true] at e
  subst e
  have hb := lit_i64 wf
  exact ⟨a, rfl, by omega, by omega⟩
/-- A slice of numbers in a field. -/
theorem open_nums9 {W : World} {fuel : Nat} {v : Value} {x : Option (DataW H × List MemPlace)} (hx : x.isSome = true) (h : DataW.trod enc Try.prog W 0 (fun _ => true) true fuel 30 [v] = x) :
    ∃ r : IRow, v = .slice r.A r.l.length r.c ∧ r.l.length ≤ r.c ∧ r.c ≤ maxLen ∧ RdI W W.heap.size r.A r.l ∧ ∀ z ∈ r.l, -9223372036854775808 ≤ z ∧ z ≤ 9223372036854775807 := by
  obtain ⟨y, rfl⟩ := Option.isSome_iff_exists.1 hx
  rcases open_ints Try.underlying30 Try.underlying3 (by kernel_rfl) h with ⟨hcs, rfl⟩ | ⟨a, n0, c0, zs, hcs, _, hle, hmax, hall, rfl, hcell, hwf⟩
  · simp only [List.cons.injEq, and_true] at hcs
    subst hcs
    exact ⟨⟨none, 0, []⟩, rfl, Nat.le_refl _, by simp [maxLen], Reads.none_, by simp⟩
  · simp only [List.cons.injEq, and_true] at hcs
    subst hcs
    simp only [if_true] at hall
    have hlen : (zs.take n0).length = n0 := by simp; omega
    refine ⟨⟨some a, c0, zs.take n0⟩, by simp only; rw [hlen], by simp only; rw [hlen]; exact hle, hmax, ⟨by rw [ic_len, hlen]; omega, fun hn => ?_⟩, fun z hz => ?_⟩
    · rw [hlen] at hn
      have h0 := hcell 0 (by omega)
      refine ⟨a, rfl, by have := World.block_lt_of_cell? W _ h0; rwa [block_of_add] at this, fun j u hu => ?_⟩
      have hj : j < n0 := by
        have := (List.getElem?_eq_some_iff.1 hu).1
        rw [ic_len, hlen] at this
        exact this
      have hjz : j < zs.length := by omega
      rw [hcell j hjz, ← hu]
      simp only [ic, List.getElem?_map, List.getElem?_take, if_pos hj, List.getElem?_eq_getElem hjz, Option.map_some, List.getD_eq_getElem?_getD, Option.getD_some]
    · have hb := lit_i64 (hwf z (List.mem_of_mem_take hz))
      omega
theorem five_cells {cs : List Value} (h : cs.length = 5) : ∃ a b c d e, cs = [a, b, c, d, e] := by
  match cs, h with
  | [a, b, c, d, e], _ => exact ⟨a, b, c, d, e, rfl⟩
set_option maxRecDepth 100000 in
/-- A call's cells. -/
theorem open_act {W : World} {fuel : Nat} {cs : List Value} {x : DataW H × List MemPlace} (hl : cs.length = 5) (h : DataW.trod enc Try.prog W 0 (fun _ => true) true fuel 32 cs = some x) :
    ∃ a : Ac, cs = a.cs ∧ RdB W W.heap.size a.r.A a.r.l ∧ RdK W W.heap.size a.q.A a.q.l ∧ RdI W W.heap.size a.ns.A a.ns.l ∧ a.Ok := by
  obtain ⟨v0, v1, v2, v3, v4, rfl⟩ := five_cells hl
  obtain ⟨xs, m, _, _, _, hxl, hall⟩ := DataW.trod_struct Try.underlying32 h
  replace hxl : xs.length = 5 := hxl
  have h0 : DataW.trod enc Try.prog W 0 (fun _ => true) true m 3 (([v0, v1, v2, v3, v4].drop 0).take (Try.prog.cellsOf 3)) = xs[0]? := hall 0 _ rfl
  have h1 : DataW.trod enc Try.prog W 0 (fun _ => true) true m 3 (([v0, v1, v2, v3, v4].drop 1).take (Try.prog.cellsOf 3)) = xs[1]? := hall 1 _ rfl
  have h2 : DataW.trod enc Try.prog W 0 (fun _ => true) true m 29 (([v0, v1, v2, v3, v4].drop 2).take (Try.prog.cellsOf 29)) = xs[2]? := hall 2 _ rfl
  have h3 : DataW.trod enc Try.prog W 0 (fun _ => true) true m 30 (([v0, v1, v2, v3, v4].drop 3).take (Try.prog.cellsOf 30)) = xs[3]? := hall 3 _ rfl
  have h4 : DataW.trod enc Try.prog W 0 (fun _ => true) true m 23 (([v0, v1, v2, v3, v4].drop 4).take (Try.prog.cellsOf 23)) = xs[4]? := hall 4 _ rfl
  clear hall
  rw [cells_int7] at h0 h1
  rw [cells_bytes7] at h2
  rw [cells_ints9] at h3
  rw [cells_bools7] at h4
  have hs : ∀ i, i < 5 → (xs[i]?).isSome = true := fun i hi => by rw [List.getElem?_eq_getElem (by omega)]; rfl
  obtain ⟨n, rfl, b0, b1⟩ := open_n7 (hs 0 (by decide)) h0
  obtain ⟨i, rfl, i0, i1⟩ := open_n7 (hs 1 (by decide)) h1
  obtain ⟨r, rfl, r1, r2, r3⟩ := open_body7 (hs 2 (by decide)) h2
  obtain ⟨ns, rfl, n1, n2, n3, n4⟩ := open_nums9 (hs 3 (by decide)) h3
  obtain ⟨q, rfl, q1, q2, q3⟩ := open_told7 (hs 4 (by decide)) h4
  unfold maxLen at r2 q2 n2
  exact ⟨⟨n, i, r, ns, q⟩, rfl, r3, q3, n3, ⟨b0, b1, by simp only; omega, by simp only; omega, q1, ⟨i0, i1⟩, by simp only; omega, n4⟩⟩
set_option maxRecDepth 100000 in
/-- A slice of bools that came in. -/
theorem open_keep {W : World} {v : Value} {d : DataW H} {ps : List MemPlace} {r : Reach} {b : Nat} (hval : Value.okWide Try.prog W r b 23 v) (h : DataW.Trod enc Try.prog W 0 (fun _ => true) true 23 v d ps) :
    ∃ q : KRow, v = .slice q.A q.l.length q.c ∧ q.l.length ≤ q.c ∧ q.c ≤ maxLen ∧ RdK W W.heap.size q.A q.l := by
  obtain ⟨a0, n0, c0, rfl⟩ := okWide_slice Try.underlying23 hval
  obtain ⟨fuel, hf⟩ := h
  exact open_told7 (x := some _) rfl hf
set_option maxRecDepth 100000 in
/-- A slice of calls that came in. -/
theorem open_acts {W : World} {v : Value} {d : DataW H} {ps : List MemPlace} {r : Reach} {b : Nat} (hval : Value.okWide Try.prog W r b 22 v) (h : DataW.Trod enc Try.prog W 0 (fun _ => true) true 22 v d ps) :
    ∃ A c, ∃ l : List Ac, v = .slice A l.length c ∧ l.length ≤ c ∧ c ≤ maxLen ∧ RdAc W W.heap.size A l := by
  obtain ⟨a0, n0, c0, rfl⟩ := okWide_slice Try.underlying22 hval
  obtain ⟨fuel, hf⟩ := h
  rcases Go.Deep.open_slice Try.underlying22 hf with ⟨hcs, _⟩ | ⟨a, len, cap, m, n, D, Pl, hcs, _, hle, hmax, hm, _, hall⟩
  · simp [Value.cells] at hcs
    obtain ⟨rfl, rfl, rfl⟩ := hcs
    exact ⟨none, 0, [], rfl, Nat.le_refl _, by simp [maxLen], RdAc.nil⟩
  · simp [Value.cells] at hcs
    obtain ⟨rfl, rfl, rfl⟩ := hcs
    simp only [if_true] at hm
    subst hm
    rw [cells_act] at hall
    have hex : ∀ i, ∃ x : Ac, i < n0 → (∀ j, j < 5 → W.cell? (a.add (i * 5 + j)) = x.cs[j]?) ∧ RdB W W.heap.size x.r.A x.r.l ∧ RdK W W.heap.size x.q.A x.q.l ∧ RdI W W.heap.size x.ns.A x.ns.l ∧ x.Ok := by
      intro i
      by_cases hi : i < n0
      · obtain ⟨cs', h1, h2⟩ := hall i (by omega)
        obtain ⟨_, hlen, hcell⟩ := World.cells?_some h1
        obtain ⟨x, rfl, hx⟩ := open_act hlen h2
        refine ⟨x, fun _ => ⟨fun j hj => ?_, hx⟩⟩
        rw [← add_of_add]
        exact hcell j hj
      · exact ⟨⟨0, 0, ⟨none, 0, []⟩, ⟨none, 0, []⟩, ⟨none, 0, []⟩⟩, fun h => absurd h hi⟩
    obtain ⟨g, hg⟩ := Classical.axiomOfChoice hex
    have hlen : ((List.range n0).map g).length = n0 := by simp
    have hat : ∀ {j : Nat}, j < n0 → ((List.range n0).map g)[j]? = some (g j) := by
      intro j hj
      rw [List.getElem?_map, List.getElem?_range hj]
      rfl
    have hmem : ∀ f ∈ (List.range n0).map g, ∃ i, i < n0 ∧ f = g i := by
      intro f hf
      rw [List.mem_map] at hf
      obtain ⟨i, hi, rfl⟩ := hf
      exact ⟨i, List.mem_range.1 hi, rfl⟩
    refine ⟨some a, m, (List.range n0).map g, by rw [hlen], by rw [hlen]; exact hle, hmax, ⟨⟨by rw [acells_len], fun hn => ?_⟩, fun x hx => ?_, fun x hx => ?_, fun x hx => ?_, fun x hx => ?_⟩⟩
    · rw [hlen] at hn
      have h0 := (hg 0 hn).1 0 (by decide)
      refine ⟨a, rfl, by have := World.block_lt_of_cell? W _ h0; rwa [block_of_add] at this, fun j u hu => ?_⟩
      have hj : j < n0 * 5 := by
        have := (List.getElem?_eq_some_iff.1 hu).1
        rw [acells_len, hlen] at this
        exact this
      have hj3 : j / 5 < n0 := by omega
      have e := acells_get (hat hj3) (j := j % 5) (by omega)
      rw [show j / 5 * 5 + j % 5 = j by omega] at e
      have e2 := (hg (j / 5) hj3).1 (j % 5) (by omega)
      rw [show j / 5 * 5 + j % 5 = j by omega] at e2
      rw [e2, ← e, hu]
    · obtain ⟨i, hi, rfl⟩ := hmem x hx
      exact (hg i hi).2.1
    · obtain ⟨i, hi, rfl⟩ := hmem x hx
      exact (hg i hi).2.2.1
    · obtain ⟨i, hi, rfl⟩ := hmem x hx
      exact (hg i hi).2.2.2.1
    · obtain ⟨i, hi, rfl⟩ := hmem x hx
      exact (hg i hi).2.2.2.2
end
end Go.Proofs.Ytlehkgogcbdckaa
