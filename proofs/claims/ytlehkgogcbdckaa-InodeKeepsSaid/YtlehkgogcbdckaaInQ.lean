/- slices.Backward over names: the iterator's contract. Conditions: at most 1000 names. -/
import Derived.Test.YtlehkgogcbdckaaInP
import Derived.RangeFuncNested
import Derived.RangeFuncLeaves
import Derived.Shelf.Abstract
import Derived.Shelf.RegionOpen
import Derived.Shelf.AbstractIn
import Derived.OwnWalkIn
import Derived.LoopNIn
import Derived.LoopIn
namespace Go.Proofs.Ytlehkgogcbdckaa
open Go.RowKit

attribute [local go_sem] Oper.semAt_some

/-! ### what the iterator hands on -/
abbrev Bk (qs : List En) := Int × { p : En // p ∈ qs }
def bkl (qs : List En) : List (Bk qs) := qs.attach.zipIdx.map fun t => ((t.2 : Int), t.1)
theorem bkl_len (qs : List En) : (bkl qs).length = qs.length := by simp [bkl]
theorem bkl_get {qs : List En} {k : Nat} {p : En} (h : qs[k]? = some p) : ∃ hp : p ∈ qs, (bkl qs)[k]? = some ((k : Int), ⟨p, hp⟩) := by
  refine ⟨List.mem_of_getElem? h, ?_⟩
  obtain ⟨hk, e⟩ := List.getElem?_eq_some_iff.1 h
  subst e
  simp [bkl, hk]
theorem bkl_val (qs : List En) : (bkl qs).map (fun x => x.2.1) = qs := by
  apply List.ext_getElem?
  intro k
  rw [List.getElem?_map]
  cases h : qs[k]? with
  | none =>
    have hk : qs.length ≤ k := List.getElem?_eq_none_iff.1 h
    rw [List.getElem?_eq_none (by rw [bkl_len]; exact hk)]
    rfl
  | some p =>
    obtain ⟨hp, e⟩ := bkl_get h
    rw [e]
    rfl
def bks (qs : List En) (k : Nat) : List (Bk qs) := ((bkl qs).drop k).reverse
theorem bks_len {qs : List En} {k : Nat} : (bks qs k).length = qs.length - k := by
  unfold bks
  rw [List.length_reverse, List.length_drop, bkl_len]
theorem bks_next {qs : List En} {k : Nat} {x : Bk qs} (h : (bkl qs)[k]? = some x) : bks qs k = bks qs (k + 1) ++ [x] := by
  obtain ⟨hk, e⟩ := List.getElem?_eq_some_iff.1 h
  unfold bks
  rw [List.drop_eq_getElem_cons hk, e, List.reverse_cons]
theorem bks_all (qs : List En) : (bks qs 0).map (fun x => x.2.1) = qs.reverse := by
  unfold bks
  rw [List.drop_zero, List.map_reverse, bkl_val]
theorem bks_none (qs : List En) : bks qs qs.length = [] := List.eq_nil_of_length_eq_zero (by rw [bks_len]; omega)
/-- Of what was there below n₀ block b alone has changed. -/
abbrev But (b n₀ : Nat) : Nat → Prop := fun x => x = b ∨ n₀ ≤ x

set_option maxRecDepth 100000 in
set_option maxHeartbeats 4000000 in
theorem back_stops (F : Fence) (n : Nat) (hf : F.fn 56) (hro : F.round = none) (hn : 1 ≤ n) (Bs b n₀ : Nat) (A : Option Addr) (cap : Nat) (qs : List En) (hl : qs.length ≤ 1000) (w : World)
    (hBs : ¬ But b n₀ Bs) (hc : w.cell? ⟨Bs, 0, none⟩ = some (.slice A qs.length cap)) (hBl : Bs < w.heap.size) (hr : EnX w (But b n₀) A qs) :
    SeqStopsK F n Try.prog 56 #[.pointer (some ⟨Bs, 0, none⟩)] (fun x : Bk qs => #[.int .i64 x.1, enV x.2.1]) (Touch (But b n₀)) (fun xs => xs.map (fun x => x.2.1) = qs.reverse) (fun _ => True) qs.length w := fun l J Jx W hW hJ hJx hY h0 => by
  have hlen : (qs.length : Int) ≤ 1000 := by omega
  have hcW := (hW.cell (p := ⟨Bs, 0, none⟩) hBl).trans hc
  have HrW : Hid (EnX W (But b n₀) A qs) := hr.keep (.of hW)
  have hBW : Hid (Bs < W.heap.size) := Nat.lt_of_lt_of_le hBl hW.size
  have HcW := Lib.hid hcW
  have HBs := Lib.hid hBs
  clear hc hr hl hBs hBl
  refine callsIn_of_wp Try.func56 rfl hf ?_ hro
  simp only [Try.ntmps56, List.size_toArray, List.length_cons, List.length_nil, Nat.reduceAdd, Nat.reduceSub, Array.replicate_succ, Array.replicate_zero, List.push_toArray, List.append_toArray, List.nil_append, List.cons_append]
  gi_wp2
  gi_loopw [3] (fun i wr => ∃ (k : Nat) (z : Int), k ≤ qs.length ∧ Hid (z = (k : Int) - 1) ∧ i = .int .i64 z ∧ Hid (J (bks qs k) wr) ∧ Hid (Touch (But b n₀) W wr)) (fun i _ => (Go.Lib.intOf i + 1).toNat)
  case atStart => exact ⟨qs.length, _, Nat.le_refl _, by exact rfl, rfl, by show J _ _; rw [bks_none]; exact h0, Touch.refl _ _⟩
  case round =>
    clear hcW
    obtain ⟨k, z, hk, hz, rfl, hJs, ht⟩ := hrel
    have hcr := (ht.out.cell (p := ⟨Bs, 0, none⟩) hBW.out HBs.out).trans HcW.out
    cases k with
    | zero =>
      have hz' : z < 0 := by have := hz.out; omega
      have hz2 : ¬ 0 ≤ z := by omega
      gi_wp2
      go_end0
      exact ⟨⟨_, rfl⟩, .inl ⟨_, bks_all qs, hJs.out⟩⟩
    | succ j =>
      obtain rfl : z = (j : Int) := by have := hz.out; omega
      obtain ⟨ad, p, rfl, _, _, h1, h2, hx⟩ := EnX.at_ (HrW.out.keep ht.out) (k := j) (by omega)
      obtain ⟨hp, hb⟩ := bkl_get hx.out
      obtain ⟨fn, tmps, assign, body, hy, hR⟩ := hY _ ((j : Int), ⟨p, hp⟩) wr hJs.out (by rw [bks_len]; omega)
      have ev : enV p = .agg #[.int .i64 p.1, .int .i64 p.2] := rfl
      obtain ⟨x, hx1⟩ : ∃ x, Hid (p.1 = x) := ⟨_, rfl⟩
      obtain ⟨y, hy1⟩ : ∃ y, Hid (p.2 = y) := ⟨_, rfl⟩
      rw [hx1.out] at h1
      rw [hy1.out] at h2
      rw [hx1.out, hy1.out] at ev
      simp only [ev] at hy
      have hlt : (j : Int) < (qs.length : Int) := by omega
      have hln : j < qs.length := by omega
      have Hb := Lib.hid hb
      clear ev hb hk
      gi_wp2
      refine hR.mono ?_
      rintro e W3 (⟨rfl, hJ3, hk3⟩ | ⟨rfl, hJx3⟩)
      · have HJ3 := Lib.hid hJ3
        have Hk3 := Lib.hid hk3
        clear hJ3 hk3
        gi_wp2
        go_roundw
        case rel => exact ⟨j, _, by omega, by exact rfl, by go_num, by show J _ _; rw [bks_next Hb.out]; exact HJ3.out, ht.out.trans Hk3.out⟩
        case measure => simp [Go.Lib.intOf]
      · gi_wp2
        refine bodyPost_ret (results_none rfl _ _ _) rfl ?_
        exact ⟨⟨_, rfl⟩, .inr ⟨_, trivial, hJx3⟩⟩
theorem hmakeFunc (fn : Fn) (first cap : Array Value) (w : World) : (Instr.makeFunc fn first cap).run Try.prog w = .ok (.func fn first cap) w := rfl
set_option maxHeartbeats 1000000 in
theorem back_any (A : Option Addr) (n c : Nat) (w : World) : Calls Try.prog 37 #[.slice A n c] w fun e w' => e = .returned (.func (.func 56) #[] #[.pointer (some ⟨w.heap.size, 0, none⟩)]) ∧ w' = w.alloc (.cells #[.slice A n c] 36) := by
  have hmf := hmakeFunc
  go_enter Try.func37, Try.ntmps37
  go_wp2
  go_ret
  exact ⟨rfl, rfl⟩
end Go.Proofs.Ytlehkgogcbdckaa
