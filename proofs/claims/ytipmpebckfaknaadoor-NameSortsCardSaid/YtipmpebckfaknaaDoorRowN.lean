/- A Name, and a slice of strings, that came in, opened. Conditions: none. -/
import Derived.Test.YtipmpebckfaknaaDoorRow
import Derived.Test.YtipmpebckfaknaaDoorNmU
import Derived.Lib.SmallJoins
import Derived.SliceStrings
namespace Go.Proofs.YtipmpebckfaknaaDoor
open Go.ChangeShapes Go.WideShapes Go.ChangeAt Go.RowKit

section
variable {H : Type} {enc : TypeId × Value → H}
theorem cells_name : Tryd.prog.cellsOf 24 = 6 := by kernel_rfl
theorem cells_u8 : Tryd.prog.cellsOf 5 = 1 := by kernel_rfl
theorem cells_u64 : Tryd.prog.cellsOf 22 = 1 := by kernel_rfl
theorem cells_str : Tryd.prog.cellsOf 9 = 1 := by kernel_rfl
theorem six_of_size {cs : Array Value} (h : cs.size = 6) : ∃ a b c d e f, cs = #[a, b, c, d, e, f] := by
  obtain ⟨l⟩ := cs
  match l, h with
  | [a, b, c, d, e, f], _ => exact ⟨a, b, c, d, e, f, rfl⟩
theorem open_u64' {W : World} {fuel : Nat} {v : Value} {x : Option (DataW H × List MemPlace)} (hx : x.isSome = true) (h : DataW.trod enc Tryd.prog W 0 (fun _ => true) true fuel 22 [v] = x) : ∃ k : Nat, v = .int .u64 (k : Int) ∧ k < 18446744073709551616 := by
  obtain ⟨y, rfl⟩ := Option.isSome_iff_exists.1 hx
  obtain ⟨a, e, _, wf⟩ := DataW.trod_int Tryd.underlying22 h
  simp only [List.cons.injEq, and_true] at e
  subst e
  have hb := lit_u64 wf
  obtain ⟨n, rfl⟩ := Int.eq_ofNat_of_zero_le hb.1
  exact ⟨n, rfl, by omega⟩
theorem open_u8' {W : World} {fuel : Nat} {v : Value} {x : Option (DataW H × List MemPlace)} (hx : x.isSome = true) (h : DataW.trod enc Tryd.prog W 0 (fun _ => true) true fuel 5 [v] = x) : ∃ k : Nat, v = .int .u8 (k : Int) ∧ k < 256 := by
  obtain ⟨y, rfl⟩ := Option.isSome_iff_exists.1 hx
  obtain ⟨a, e, _, wf⟩ := DataW.trod_int Tryd.underlying5 h
  simp only [List.cons.injEq, and_true] at e
  subst e
  have hb := lit_u8 wf
  obtain ⟨n, rfl⟩ := Int.eq_ofNat_of_zero_le hb.1
  exact ⟨n, rfl, by omega⟩
set_option maxRecDepth 100000 in
/-- A Name that came in. -/
theorem open_name {W : World} {v : Value} {d : DataW H} {ps : List MemPlace} {r : Reach} {b : Nat} (hval : Value.okWide Tryd.prog W r b 24 v) (h : DataW.Trod enc Tryd.prog W 0 (fun _ => true) true 24 v d ps) :
    ∃ x : Nm, v = x.v ∧ x.Ok := by
  obtain ⟨cs, rfl, hsz⟩ := okWide_struct Tryd.underlying24 hval
  obtain ⟨v0, v1, v2, v3, v4, v5, rfl⟩ := six_of_size (hsz.trans cells_name)
  obtain ⟨fuel, hf⟩ := h
  obtain ⟨xs, m, _, _, _, hxl, hall⟩ := DataW.trod_struct Tryd.underlying24 hf
  replace hxl : xs.length = 6 := hxl
  have h0 : DataW.trod enc Tryd.prog W 0 (fun _ => true) true m 5 (([v0, v1, v2, v3, v4, v5].drop 0).take (Tryd.prog.cellsOf 5)) = xs[0]? := hall 0 _ rfl
  have h1 : DataW.trod enc Tryd.prog W 0 (fun _ => true) true m 22 (([v0, v1, v2, v3, v4, v5].drop 1).take (Tryd.prog.cellsOf 22)) = xs[1]? := hall 1 _ rfl
  have h2 : DataW.trod enc Tryd.prog W 0 (fun _ => true) true m 22 (([v0, v1, v2, v3, v4, v5].drop 2).take (Tryd.prog.cellsOf 22)) = xs[2]? := hall 2 _ rfl
  have h3 : DataW.trod enc Tryd.prog W 0 (fun _ => true) true m 22 (([v0, v1, v2, v3, v4, v5].drop 3).take (Tryd.prog.cellsOf 22)) = xs[3]? := hall 3 _ rfl
  have h4 : DataW.trod enc Tryd.prog W 0 (fun _ => true) true m 22 (([v0, v1, v2, v3, v4, v5].drop 4).take (Tryd.prog.cellsOf 22)) = xs[4]? := hall 4 _ rfl
  have h5 : DataW.trod enc Tryd.prog W 0 (fun _ => true) true m 22 (([v0, v1, v2, v3, v4, v5].drop 5).take (Tryd.prog.cellsOf 22)) = xs[5]? := hall 5 _ rfl
  clear hall
  rw [cells_u8] at h0
  rw [cells_u64] at h1 h2 h3 h4 h5
  have hs : ∀ i, i < 6 → (xs[i]?).isSome = true := fun i hi => by rw [List.getElem?_eq_getElem (by omega)]; rfl
  obtain ⟨k, rfl, b0⟩ := open_u8' (hs 0 (by decide)) h0
  obtain ⟨n1, rfl, b1⟩ := open_u64' (hs 1 (by decide)) h1
  obtain ⟨n2, rfl, b2⟩ := open_u64' (hs 2 (by decide)) h2
  obtain ⟨n3, rfl, b3⟩ := open_u64' (hs 3 (by decide)) h3
  obtain ⟨n4, rfl, b4⟩ := open_u64' (hs 4 (by decide)) h4
  obtain ⟨n5, rfl, b5⟩ := open_u64' (hs 5 (by decide)) h5
  exact ⟨⟨k, n1, n2, n3, n4, n5⟩, rfl, ⟨b0, b1, b2, b3, b4, b5⟩⟩
theorem txt_toList (s : ByteArray) : txt s.data.toList = s := by
  obtain ⟨⟨l⟩⟩ := s
  rfl
set_option maxRecDepth 100000 in
/-- A slice of strings that came in. -/
theorem open_texts {W : World} {v : Value} {d : DataW H} {ps : List MemPlace} {r : Reach} {b : Nat} (hval : Value.okWide Tryd.prog W r b 44 v) (h : DataW.Trod enc Tryd.prog W 0 (fun _ => true) true 44 v d ps) :
    ∃ A c, ∃ l : List (List UInt8), v = .slice A l.length c ∧ l.length ≤ c ∧ c ≤ maxLen ∧ RdT W W.heap.size A l ∧ ∀ s ∈ l, s.length ≤ maxLen := by
  obtain ⟨a0, n0, c0, rfl⟩ := okWide_slice Tryd.underlying44 hval
  obtain ⟨fuel, hf⟩ := h
  rcases open_strings Tryd.underlying44 Tryd.underlying9 cells_str hf with ⟨hcs, _⟩ | ⟨a, len, cap, ss, hcs, _, hle, hmax, hall, _, hcell, hwf⟩
  · simp [Value.cells] at hcs
    obtain ⟨rfl, rfl, rfl⟩ := hcs
    exact ⟨none, 0, [], rfl, Nat.le_refl _, by simp [maxLen], Reads.none_, fun s hs => by cases hs⟩
  · simp [Value.cells] at hcs
    obtain ⟨rfl, rfl, rfl⟩ := hcs
    simp only [if_true] at hall
    have hlen : ((ss.take n0).map fun s => s.data.toList).length = n0 := by simp; omega
    refine ⟨some a, c0, (ss.take n0).map fun s => s.data.toList, by rw [hlen], by rw [hlen]; exact hle, hmax, ⟨by simp [ts], fun hn => ?_⟩, ?_⟩
    · rw [hlen] at hn
      have h0 := hcell 0 (by omega)
      refine ⟨a, rfl, by have := World.block_lt_of_cell? W _ h0; rwa [block_of_add] at this, fun j u hu => ?_⟩
      have hj : j < n0 := by
        have := (List.getElem?_eq_some_iff.1 hu).1
        simp [ts] at this
        omega
      have hjz : j < ss.length := by omega
      rw [hcell j hjz, ← hu]
      simp only [ts, List.map_map, List.getElem?_map, List.getElem?_take, if_pos hj, List.getElem?_eq_getElem hjz, Option.map_some, Function.comp_apply, txt_toList, List.getD_eq_getElem?_getD, Option.getD_some]
    · intro s hs
      obtain ⟨s', hs', rfl⟩ := List.mem_map.1 hs
      exact hwf s' (List.mem_of_mem_take hs')
end
end Go.Proofs.YtipmpebckfaknaaDoor
