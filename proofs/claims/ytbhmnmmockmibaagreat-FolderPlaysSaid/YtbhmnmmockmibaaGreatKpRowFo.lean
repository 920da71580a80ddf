/- A slice of calls and failures, and a slice of bools, that came in, opened. Conditions: none. -/
import Derived.Test.YtbhmnmmockmibaaGreatKpSwap
import Derived.Test.YtbhmnmmockmibaaGreatKpFoLB
import Derived.Deep.Slices
import Derived.Deep.Grids
import Derived.ChangeMaps
namespace Go.Proofs.YtbhmnmmockmibaaGreat
open Go.ChangeShapes Go.WideShapes Go.ChangeAt Go.RowKit
section
variable {H : Type} {enc : TypeId × Value → H}
theorem cells_actf : Tryz.prog.cellsOf 43 = 6 := by kernel_rfl
theorem cells_callf : Tryz.prog.cellsOf 40 = 4 := by kernel_rfl
theorem cells_intf : Tryz.prog.cellsOf 3 = 1 := by kernel_rfl
theorem cells_u8f : Tryz.prog.cellsOf 5 = 1 := by kernel_rfl
theorem cells_strf : Tryz.prog.cellsOf 9 = 1 := by kernel_rfl
theorem cells_bytesf : Tryz.prog.cellsOf 38 = 1 := by kernel_rfl
theorem cells_boolsf : Tryz.prog.cellsOf 41 = 1 := by kernel_rfl
theorem rdx_of {W : World} {size n : Nat} {A : Option Addr} {xs : List Value} (h : Reads W W.heap.size size A n xs) : RdX W (fun _ => False) size A n xs := RdX.of h (Nat.le_refl _) fun _ _ e => e
theorem open_bodyf {W : World} {fuel : Nat} {v : Value} {x : Option (DataW H × List MemPlace)} (hx : x.isSome = true) (h : DataW.trod enc Tryz.prog W 0 (fun _ => true) true fuel 38 [v] = x) :
    ∃ r : Row, v = .slice r.A r.l.length r.c ∧ r.l.length ≤ r.c ∧ r.c ≤ maxLen ∧ RdB W W.heap.size r.A r.l := by
  obtain ⟨y, rfl⟩ := Option.isSome_iff_exists.1 hx
  rcases open_ints Tryz.underlying38 Tryz.underlying5 (by kernel_rfl) h with ⟨hcs, rfl⟩ | ⟨a, n0, c0, zs, hcs, _, hle, hmax, hall, rfl, hcell, hwf⟩
  · simp only [List.cons.injEq, and_true] at hcs
    subst hcs
    exact ⟨⟨none, 0, []⟩, rfl, Nat.le_refl _, by simp [maxLen], Reads.none_⟩
  · simp only [List.cons.injEq, and_true] at hcs
    subst hcs
    simp only [if_true] at hall
    have hlen : ((zs.take n0).map fun n => UInt8.ofNat n.toNat).length = n0 := by simp; omega
    refine ⟨⟨some a, c0, (zs.take n0).map fun n => UInt8.ofNat n.toNat⟩, by simp only; rw [hlen], by simp only; rw [hlen]; exact hle, hmax, by rw [bs_len, hlen]; omega, fun hn => ?_⟩
    rw [hlen] at hn
    have h0 := hcell 0 (by omega)
    refine ⟨a, rfl, by have := World.block_lt_of_cell? W _ h0; rwa [block_of_add] at this, fun j u hu => ?_⟩
    have hj : j < n0 := by
      have := (List.getElem?_eq_some_iff.1 hu).1
      rw [bs_len, hlen] at this
      exact this
    have hjz : j < zs.length := by omega
    have hb := lit_u8 (hwf (zs[j]) (List.getElem_mem hjz))
    rw [hcell j hjz, ← hu]
    have e : (UInt8.ofNat (zs[j]).toNat).toNat = (zs[j]).toNat := by simp [UInt8.toNat_ofNat']; omega
    simp only [bs, List.map_map, List.getElem?_map, List.getElem?_take, if_pos hj, List.getElem?_eq_getElem hjz, Option.map_some, Function.comp_apply, e, List.getD_eq_getElem?_getD, Option.getD_some]
    rw [Int.toNat_of_nonneg hb.1]
theorem open_toldf {W : World} {fuel : Nat} {v : Value} {x : Option (DataW H × List MemPlace)} (hx : x.isSome = true) (h : DataW.trod enc Tryz.prog W 0 (fun _ => true) true fuel 41 [v] = x) :
    ∃ q : KRow, v = .slice q.A q.l.length q.c ∧ q.l.length ≤ q.c ∧ q.c ≤ maxLen ∧ Reads W W.heap.size 1 q.A q.l.length (kc q.l) := by
  obtain ⟨y, rfl⟩ := Option.isSome_iff_exists.1 hx
  rcases Go.Deep.open_bools Tryz.underlying41 Tryz.underlying4 (by kernel_rfl) h with ⟨hcs, _⟩ | ⟨a, n0, c0, f, hcs, _, hle, hmax, _, hcell⟩
  · simp only [List.cons.injEq, and_true] at hcs
    subst hcs
    exact ⟨⟨none, 0, []⟩, rfl, Nat.le_refl _, by simp [maxLen], Reads.none_⟩
  · simp only [List.cons.injEq, and_true] at hcs
    subst hcs
    have hlen : ((List.range n0).map f).length = n0 := by simp
    refine ⟨⟨some a, c0, (List.range n0).map f⟩, by simp only; rw [hlen], by simp only; rw [hlen]; exact hle, hmax, by rw [kc_len, hlen]; omega, fun hn => ?_⟩
    rw [hlen] at hn
    have h0 := hcell 0 (by omega)
    refine ⟨a, rfl, by have := World.block_lt_of_cell? W _ h0; rwa [block_of_add] at this, fun j u hu => ?_⟩
    have hj : j < n0 := by
      have := (List.getElem?_eq_some_iff.1 hu).1
      rw [kc_len, hlen] at this
      exact this
    unfold kc at hu
    rw [List.getElem?_map, List.getElem?_map, List.getElem?_range hj] at hu
    simp only [Option.map_some, Option.some.injEq] at hu
    rw [hcell j (by omega), ← hu]
theorem open_nf {W : World} {fuel : Nat} {v : Value} {x : Option (DataW H × List MemPlace)} (hx : x.isSome = true) (h : DataW.trod enc Tryz.prog W 0 (fun _ => true) true fuel 3 [v] = x) : ∃ n : Int, v = .int .i64 n ∧ -9223372036854775808 ≤ n ∧ n ≤ 9223372036854775807 := by
  obtain ⟨y, rfl⟩ := Option.isSome_iff_exists.1 hx
  obtain ⟨a, e, _, wf⟩ := DataW.trod_int Tryz.underlying3 h
  simp only [List.cons.injEq, and_true] at e
  subst e
  have hb := lit_i64 wf
  exact ⟨a, rfl, by omega, by omega⟩
theorem open_u8f {W : World} {fuel : Nat} {v : Value} {x : Option (DataW H × List MemPlace)} (hx : x.isSome = true) (h : DataW.trod enc Tryz.prog W 0 (fun _ => true) true fuel 5 [v] = x) : ∃ k : Nat, v = .int .u8 (k : Int) ∧ k ≤ 255 := by
  obtain ⟨y, rfl⟩ := Option.isSome_iff_exists.1 hx
  obtain ⟨a, e, _, wf⟩ := DataW.trod_int Tryz.underlying5 h
  simp only [List.cons.injEq, and_true] at e
  subst e
  have hb := lit_u8 wf
  obtain ⟨n, rfl⟩ := Int.eq_ofNat_of_zero_le hb.1
  exact ⟨n, rfl, by omega⟩
theorem open_sf {W : World} {fuel : Nat} {v : Value} {x : Option (DataW H × List MemPlace)} (hx : x.isSome = true) (h : DataW.trod enc Tryz.prog W 0 (fun _ => true) true fuel 9 [v] = x) : ∃ l : List UInt8, v = .string (txt l) ∧ l.length ≤ 9223372036854775807 := by
  obtain ⟨y, rfl⟩ := Option.isSome_iff_exists.1 hx
  obtain ⟨s, e, _, wf⟩ := DataW.trod_string Tryz.underlying9 h
  simp only [List.cons.injEq, and_true] at e
  subst e
  refine ⟨s.data.toList, by rw [txt_toList], ?_⟩
  have h1 : s.data.toList.length = s.size := Array.length_toList
  unfold maxLen at wf
  omega
theorem four_cells {cs : List Value} (h : cs.length = 4) : ∃ a b c d, cs = [a, b, c, d] := by
  match cs, h with
  | [a, b, c, d], _ => exact ⟨a, b, c, d, rfl⟩
theorem six_cells {cs : List Value} (h : cs.length = 6) : ∃ a b c d e f, cs = [a, b, c, d, e, f] := by
  match cs, h with
  | [a, b, c, d, e, f], _ => exact ⟨a, b, c, d, e, f, rfl⟩
set_option maxRecDepth 100000 in
theorem open_callf {W : World} {fuel : Nat} {cs : List Value} {x : Option (DataW H × List MemPlace)} (hx : x.isSome = true) (hl : cs.length = 4) (h : DataW.trod enc Tryz.prog W 0 (fun _ => true) true fuel 40 cs = x) :
    ∃ (k : Nat) (n t : List UInt8) (r : Row), cs = [.int .u8 (k : Int), .string (txt n), .string (txt t), .slice r.A r.l.length r.c] ∧ k ≤ 255 ∧ n.length ≤ 9223372036854775807 ∧ t.length ≤ 9223372036854775807 ∧ r.l.length ≤ 9223372036854775807 ∧ RdB W W.heap.size r.A r.l := by
  obtain ⟨y, rfl⟩ := Option.isSome_iff_exists.1 hx
  obtain ⟨v0, v1, v2, v3, rfl⟩ := four_cells hl
  obtain ⟨xs, m, _, _, _, hxl, hall⟩ := DataW.trod_struct Tryz.underlying40 h
  replace hxl : xs.length = 4 := hxl
  have h0 : DataW.trod enc Tryz.prog W 0 (fun _ => true) true m 5 (([v0, v1, v2, v3].drop 0).take (Tryz.prog.cellsOf 5)) = xs[0]? := hall 0 _ rfl
  have h1 : DataW.trod enc Tryz.prog W 0 (fun _ => true) true m 9 (([v0, v1, v2, v3].drop 1).take (Tryz.prog.cellsOf 9)) = xs[1]? := hall 1 _ rfl
  have h2 : DataW.trod enc Tryz.prog W 0 (fun _ => true) true m 9 (([v0, v1, v2, v3].drop 2).take (Tryz.prog.cellsOf 9)) = xs[2]? := hall 2 _ rfl
  have h3 : DataW.trod enc Tryz.prog W 0 (fun _ => true) true m 38 (([v0, v1, v2, v3].drop 3).take (Tryz.prog.cellsOf 38)) = xs[3]? := hall 3 _ rfl
  clear hall
  rw [cells_u8f] at h0
  rw [cells_strf] at h1 h2
  rw [cells_bytesf] at h3
  have hs : ∀ i, i < 4 → (xs[i]?).isSome = true := fun i hi => by rw [List.getElem?_eq_getElem (by omega)]; rfl
  obtain ⟨k, rfl, b0⟩ := open_u8f (hs 0 (by decide)) h0
  obtain ⟨n, rfl, b1⟩ := open_sf (hs 1 (by decide)) h1
  obtain ⟨t, rfl, b2⟩ := open_sf (hs 2 (by decide)) h2
  obtain ⟨r, rfl, r1, r2, r3⟩ := open_bodyf (hs 3 (by decide)) h3
  unfold maxLen at r2
  exact ⟨k, n, t, r, rfl, b0, b1, b2, by omega, r3⟩
set_option maxRecDepth 100000 in
theorem open_act {W : World} {fuel : Nat} {cs : List Value} {x : DataW H × List MemPlace} (hl : cs.length = 6) (h : DataW.trod enc Tryz.prog W 0 (fun _ => true) true fuel 43 cs = some x) :
    ∃ a : Af, cs = a.cs ∧ RdB W W.heap.size a.r.A a.r.l ∧ Reads W W.heap.size 1 a.q.A a.q.l.length (kc a.q.l) ∧ a.Ok := by
  obtain ⟨v0, v1, v2, v3, v4, v5, rfl⟩ := six_cells hl
  obtain ⟨xs, m, _, _, _, hxl, hall⟩ := DataW.trod_struct Tryz.underlying43 h
  replace hxl : xs.length = 3 := hxl
  have h0 : DataW.trod enc Tryz.prog W 0 (fun _ => true) true m 40 (([v0, v1, v2, v3, v4, v5].drop 0).take (Tryz.prog.cellsOf 40)) = xs[0]? := hall 0 _ rfl
  have h1 : DataW.trod enc Tryz.prog W 0 (fun _ => true) true m 3 (([v0, v1, v2, v3, v4, v5].drop (0 + Tryz.prog.cellsOf 40)).take (Tryz.prog.cellsOf 3)) = xs[1]? := hall 1 _ rfl
  have h2 : DataW.trod enc Tryz.prog W 0 (fun _ => true) true m 41 (([v0, v1, v2, v3, v4, v5].drop (0 + Tryz.prog.cellsOf 40 + Tryz.prog.cellsOf 3)).take (Tryz.prog.cellsOf 41)) = xs[2]? := hall 2 _ rfl
  clear hall
  rw [cells_callf] at h0 h1 h2
  rw [cells_intf] at h1 h2
  rw [cells_boolsf] at h2
  have hs : ∀ i, i < 3 → (xs[i]?).isSome = true := fun i hi => by rw [List.getElem?_eq_getElem (by omega)]; rfl
  obtain ⟨k, n, t, r, e, b0, b1, b2, b3, b4⟩ := open_callf (hs 0 (by decide)) rfl h0
  simp only [List.drop_zero, List.take_succ_cons, List.take_zero, List.cons.injEq, and_true] at e
  obtain ⟨rfl, rfl, rfl, rfl⟩ := e
  obtain ⟨o, rfl, o1, o2⟩ := open_nf (hs 1 (by decide)) h1
  obtain ⟨q, rfl, q1, q2, q3⟩ := open_toldf (hs 2 (by decide)) h2
  unfold maxLen at q2
  exact ⟨⟨k, n, t, r, o, q⟩, rfl, b4, q3, ⟨b0, b1, b2, b3, by simp only; omega, q1, ⟨o1, o2⟩⟩⟩
set_option maxRecDepth 100000 in
theorem open_acts {W : World} {v : Value} {d : DataW H} {ps : List MemPlace} {r : Reach} {b : Nat} (hval : Value.okWide Tryz.prog W r b 22 v) (h : DataW.Trod enc Tryz.prog W 0 (fun _ => true) true 22 v d ps) :
    ∃ A c, ∃ l : List Af, v = .slice A l.length c ∧ l.length ≤ c ∧ c ≤ maxLen ∧ AfX W (fun _ => False) A l := by
  obtain ⟨a0, n0, c0, rfl⟩ := okWide_slice Tryz.underlying22 hval
  obtain ⟨fuel, hf⟩ := h
  rcases Go.Deep.open_slice Tryz.underlying22 hf with ⟨hcs, _⟩ | ⟨a, len, cap, m, n, D, Pl, hcs, _, hle, hmax, hm, _, hall⟩
  · simp [Value.cells] at hcs
    obtain ⟨rfl, rfl, rfl⟩ := hcs
    exact ⟨none, 0, [], rfl, Nat.le_refl _, by simp [maxLen], AfX.nil⟩
  · simp [Value.cells] at hcs
    obtain ⟨rfl, rfl, rfl⟩ := hcs
    simp only [if_true] at hm
    subst hm
    rw [cells_actf] at hall
    have hex : ∀ i, ∃ x : Af, i < n0 → (∀ j, j < 6 → W.cell? (a.add (i * 6 + j)) = x.cs[j]?) ∧ RdB W W.heap.size x.r.A x.r.l ∧ Reads W W.heap.size 1 x.q.A x.q.l.length (kc x.q.l) ∧ x.Ok := by
      intro i
      by_cases hi : i < n0
      · obtain ⟨cs', h1, h2⟩ := hall i (by omega)
        obtain ⟨_, hlen, hcell⟩ := World.cells?_some h1
        obtain ⟨x, rfl, hx⟩ := open_act hlen h2
        refine ⟨x, fun _ => ⟨fun j hj => ?_, hx⟩⟩
        rw [← add_of_add]
        exact hcell j hj
      · exact ⟨⟨0, [], [], ⟨none, 0, []⟩, 0, ⟨none, 0, []⟩⟩, fun h => absurd h hi⟩
    obtain ⟨g, hg⟩ := Classical.axiomOfChoice hex
    have hlen : ((List.range n0).map g).length = n0 := by simp
    have hat : ∀ {j : Nat}, j < n0 → ((List.range n0).map g)[j]? = some (g j) := by
      intro j hj
      rw [List.getElem?_map, List.getElem?_range hj]
      rfl
    have hmem : ∀ f ∈ (List.range n0).map g, ∃ i, i < n0 ∧ f = g i := by
      intro f hf
      rw [List.mem_map] at hf
      obtain ⟨i, hi, rfl⟩ := hf
      exact ⟨i, List.mem_range.1 hi, rfl⟩
    refine ⟨some a, m, (List.range n0).map g, by rw [hlen], by rw [hlen]; exact hle, hmax, ⟨⟨by rw [afcells_len], fun hn => ?_⟩, fun x hx => ?_, fun x hx => ?_, fun x hx => ?_⟩⟩
    · rw [hlen] at hn
      have h0 := (hg 0 hn).1 0 (by decide)
      refine ⟨a, rfl, by have := World.block_lt_of_cell? W _ h0; rwa [block_of_add] at this, fun e => e, fun j u hu => ?_⟩
      have hj : j < n0 * 6 := by
        have := (List.getElem?_eq_some_iff.1 hu).1
        rw [afcells_len, hlen] at this
        exact this
      have hj3 : j / 6 < n0 := by omega
      have e := afcells_get (hat hj3) (j := j % 6) (by omega)
      rw [show j / 6 * 6 + j % 6 = j by omega] at e
      have e2 := (hg (j / 6) hj3).1 (j % 6) (by omega)
      rw [show j / 6 * 6 + j % 6 = j by omega] at e2
      rw [e2, ← e, hu]
    · obtain ⟨i, hi, rfl⟩ := hmem x hx
      exact rdx_of (hg i hi).2.1
    · obtain ⟨i, hi, rfl⟩ := hmem x hx
      exact rdx_of (hg i hi).2.2.1
    · obtain ⟨i, hi, rfl⟩ := hmem x hx
      exact (hg i hi).2.2.2
end
end Go.Proofs.YtbhmnmmockmibaaGreat
