/- A record that came in, opened. Conditions: none. -/
import Derived.Test.YtfhcpjnjemojgaaKGa
import Derived.Test.YtfhcpjnjemojgaaKRcR
import Derived.Lib.SmallJoins
namespace Go.Proofs.Ytfhcpjnjemojgaa
open Go.ChangeShapes Go.WideShapes Go.ChangeAt Go.RowKit

section
variable {H : Type} {enc : TypeId × Value → H}
theorem cells_rec : Try.prog.cellsOf 24 = 12 := by kernel_rfl
theorem cells_u8 : Try.prog.cellsOf 5 = 1 := by kernel_rfl
theorem cells_u64 : Try.prog.cellsOf 22 = 1 := by kernel_rfl
theorem cells_str : Try.prog.cellsOf 9 = 1 := by kernel_rfl
theorem twelve_of_size {cs : Array Value} (h : cs.size = 12) : ∃ v0 v1 v2 v3 v4 v5 v6 v7 v8 v9 v10 v11, cs = #[v0, v1, v2, v3, v4, v5, v6, v7, v8, v9, v10, v11] := by
  obtain ⟨l⟩ := cs
  match l, h with
  | [v0, v1, v2, v3, v4, v5, v6, v7, v8, v9, v10, v11], _ => exact ⟨v0, v1, v2, v3, v4, v5, v6, v7, v8, v9, v10, v11, rfl⟩
theorem open_u64' {W : World} {fuel : Nat} {v : Value} {x : Option (DataW H × List MemPlace)} (hx : x.isSome = true) (h : DataW.trod enc Try.prog W 0 (fun _ => true) true fuel 22 [v] = x) : ∃ k : Nat, v = .int .u64 (k : Int) ∧ k < 18446744073709551616 := by
  obtain ⟨y, rfl⟩ := Option.isSome_iff_exists.1 hx
  obtain ⟨a, e, _, wf⟩ := DataW.trod_int Try.underlying22 h
  simp only [List.cons.injEq, and_true] at e
  subst e
  have hb := lit_u64 wf
  obtain ⟨n, rfl⟩ := Int.eq_ofNat_of_zero_le hb.1
  exact ⟨n, rfl, by omega⟩
theorem open_u8' {W : World} {fuel : Nat} {v : Value} {x : Option (DataW H × List MemPlace)} (hx : x.isSome = true) (h : DataW.trod enc Try.prog W 0 (fun _ => true) true fuel 5 [v] = x) : ∃ k : Nat, v = .int .u8 (k : Int) ∧ k < 256 := by
  obtain ⟨y, rfl⟩ := Option.isSome_iff_exists.1 hx
  obtain ⟨a, e, _, wf⟩ := DataW.trod_int Try.underlying5 h
  simp only [List.cons.injEq, and_true] at e
  subst e
  have hb := lit_u8 wf
  obtain ⟨n, rfl⟩ := Int.eq_ofNat_of_zero_le hb.1
  exact ⟨n, rfl, by omega⟩
theorem open_str' {W : World} {fuel : Nat} {v : Value} {x : Option (DataW H × List MemPlace)} (hx : x.isSome = true) (h : DataW.trod enc Try.prog W 0 (fun _ => true) true fuel 9 [v] = x) : ∃ l : List UInt8, v = .string (txt l) ∧ l.length ≤ maxLen := by
  obtain ⟨y, rfl⟩ := Option.isSome_iff_exists.1 hx
  obtain ⟨s, e, _, hs⟩ := DataW.trod_string Try.underlying9 h
  simp only [List.cons.injEq, and_true] at e
  subst e
  exact ⟨s.data.toList, by rw [txt_toList], hs⟩
set_option maxRecDepth 100000 in
/-- A record that came in. -/
theorem open_rec {W : World} {v : Value} {d : DataW H} {ps : List MemPlace} {r : Reach} {b : Nat} (hval : Value.okWide Try.prog W r b 24 v) (h : DataW.Trod enc Try.prog W 0 (fun _ => true) true 24 v d ps) :
    ∃ x : Rc, v = x.v ∧ x.Ok ∧ x.n.length ≤ maxLen ∧ x.t.length ≤ maxLen := by
  obtain ⟨cs, rfl, hsz⟩ := okWide_struct Try.underlying24 hval
  obtain ⟨v0, v1, v2, v3, v4, v5, v6, v7, v8, v9, v10, v11, rfl⟩ := twelve_of_size (hsz.trans cells_rec)
  obtain ⟨fuel, hf⟩ := h
  obtain ⟨xs, m, _, _, _, hxl, hall⟩ := DataW.trod_struct Try.underlying24 hf
  replace hxl : xs.length = 12 := hxl
  have h0 : DataW.trod enc Try.prog W 0 (fun _ => true) true m 5 (([v0, v1, v2, v3, v4, v5, v6, v7, v8, v9, v10, v11].drop 0).take (Try.prog.cellsOf 5)) = xs[0]? := hall 0 _ rfl
  have h1 : DataW.trod enc Try.prog W 0 (fun _ => true) true m 22 (([v0, v1, v2, v3, v4, v5, v6, v7, v8, v9, v10, v11].drop 1).take (Try.prog.cellsOf 22)) = xs[1]? := hall 1 _ rfl
  have h2 : DataW.trod enc Try.prog W 0 (fun _ => true) true m 22 (([v0, v1, v2, v3, v4, v5, v6, v7, v8, v9, v10, v11].drop 2).take (Try.prog.cellsOf 22)) = xs[2]? := hall 2 _ rfl
  have h3 : DataW.trod enc Try.prog W 0 (fun _ => true) true m 22 (([v0, v1, v2, v3, v4, v5, v6, v7, v8, v9, v10, v11].drop 3).take (Try.prog.cellsOf 22)) = xs[3]? := hall 3 _ rfl
  have h4 : DataW.trod enc Try.prog W 0 (fun _ => true) true m 22 (([v0, v1, v2, v3, v4, v5, v6, v7, v8, v9, v10, v11].drop 4).take (Try.prog.cellsOf 22)) = xs[4]? := hall 4 _ rfl
  have h5 : DataW.trod enc Try.prog W 0 (fun _ => true) true m 22 (([v0, v1, v2, v3, v4, v5, v6, v7, v8, v9, v10, v11].drop 5).take (Try.prog.cellsOf 22)) = xs[5]? := hall 5 _ rfl
  have h6 : DataW.trod enc Try.prog W 0 (fun _ => true) true m 22 (([v0, v1, v2, v3, v4, v5, v6, v7, v8, v9, v10, v11].drop 6).take (Try.prog.cellsOf 22)) = xs[6]? := hall 6 _ rfl
  have h7 : DataW.trod enc Try.prog W 0 (fun _ => true) true m 22 (([v0, v1, v2, v3, v4, v5, v6, v7, v8, v9, v10, v11].drop 7).take (Try.prog.cellsOf 22)) = xs[7]? := hall 7 _ rfl
  have h8 : DataW.trod enc Try.prog W 0 (fun _ => true) true m 22 (([v0, v1, v2, v3, v4, v5, v6, v7, v8, v9, v10, v11].drop 8).take (Try.prog.cellsOf 22)) = xs[8]? := hall 8 _ rfl
  have h9 : DataW.trod enc Try.prog W 0 (fun _ => true) true m 22 (([v0, v1, v2, v3, v4, v5, v6, v7, v8, v9, v10, v11].drop 9).take (Try.prog.cellsOf 22)) = xs[9]? := hall 9 _ rfl
  have h10 : DataW.trod enc Try.prog W 0 (fun _ => true) true m 9 (([v0, v1, v2, v3, v4, v5, v6, v7, v8, v9, v10, v11].drop 10).take (Try.prog.cellsOf 9)) = xs[10]? := hall 10 _ rfl
  have h11 : DataW.trod enc Try.prog W 0 (fun _ => true) true m 9 (([v0, v1, v2, v3, v4, v5, v6, v7, v8, v9, v10, v11].drop 11).take (Try.prog.cellsOf 9)) = xs[11]? := hall 11 _ rfl
  clear hall
  rw [cells_u8] at h0
  rw [cells_u64] at h1 h2 h3 h4 h5 h6 h7 h8 h9
  rw [cells_str] at h10 h11
  have hs : ∀ i, i < 12 → (xs[i]?).isSome = true := fun i hi => by rw [List.getElem?_eq_getElem (by omega)]; rfl
  obtain ⟨k, rfl, b0⟩ := open_u8' (hs 0 (by decide)) h0
  obtain ⟨n1, rfl, b1⟩ := open_u64' (hs 1 (by decide)) h1
  obtain ⟨n2, rfl, b2⟩ := open_u64' (hs 2 (by decide)) h2
  obtain ⟨n3, rfl, b3⟩ := open_u64' (hs 3 (by decide)) h3
  obtain ⟨n4, rfl, b4⟩ := open_u64' (hs 4 (by decide)) h4
  obtain ⟨n5, rfl, b5⟩ := open_u64' (hs 5 (by decide)) h5
  obtain ⟨n6, rfl, b6⟩ := open_u64' (hs 6 (by decide)) h6
  obtain ⟨n7, rfl, b7⟩ := open_u64' (hs 7 (by decide)) h7
  obtain ⟨n8, rfl, b8⟩ := open_u64' (hs 8 (by decide)) h8
  obtain ⟨n9, rfl, b9⟩ := open_u64' (hs 9 (by decide)) h9
  obtain ⟨l10, rfl, b10⟩ := open_str' (hs 10 (by decide)) h10
  obtain ⟨l11, rfl, b11⟩ := open_str' (hs 11 (by decide)) h11
  exact ⟨⟨k, n1, n2, n3, n4, n5, n6, n7, n8, n9, l10, l11⟩, rfl, ⟨b0, fun j => by unfold Rc.num; split <;> first | assumption | simp⟩, b10, b11⟩
end
end Go.Proofs.Ytfhcpjnjemojgaa
