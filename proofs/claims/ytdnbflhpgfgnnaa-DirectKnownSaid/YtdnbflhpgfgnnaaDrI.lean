/- slices.Backward over pending operations: the iterator's contract. Conditions: at most 1000 operations. -/
import Derived.Test.YtdnbflhpgfgnnaaDrH
import Derived.RangeFuncNested
import Derived.RangeFuncLeaves
import Derived.Shelf.Abstract
import Derived.OwnWalkIn
import Derived.TacticsInMore
import Derived.LoopNIn
import Derived.LoopIn
namespace Go.Proofs.Ytdnbflhpgfgnnaa
open Go.RowKit

attribute [local go_sem] Oper.semAt_some

/-! ### undone from the end -/
def und (m : List En) (l : List Pr) : List En := l.foldl (fun m o => o.undoes m) m
theorem und_snoc (m : List En) (l : List Pr) (o : Pr) : und m (l ++ [o]) = o.undoes (und m l) := by simp [und, List.foldl_append]
theorem und_back {d : List En} {ops : List Pr} (hd : Srt d) (h : Oks d ops) : ∀ t k, k + t = ops.length → und (runs d ops) (ops.drop k).reverse = runs d (ops.take k)
  | 0, k, e => by
    have : k = ops.length := by omega
    subst this
    rw [List.drop_length, List.take_length]
    rfl
  | t + 1, k, e => by
    have hk : k < ops.length := by omega
    have ho : ops[k]? = some ops[k] := List.getElem?_eq_getElem hk
    rw [List.drop_eq_getElem_cons hk, List.reverse_cons, und_snoc, und_back hd h t (k + 1) (by omega)]
    exact runs_back hd h ho
theorem und_len : ∀ (l : List Pr) (m : List En), (und m l).length ≤ m.length + l.length
  | [], m => by simp [und]
  | o :: l, m => by
    have h := und_len l (o.undoes m)
    have h2 : (o.undoes m).length ≤ m.length + 1 := by
      unfold Pr.undoes putE
      split
      · have := del_len m o.k
        omega
      · rw [ins_len]
        have := del_len m o.k
        show (delE m o.k).length + 1 ≤ _
        omega
    show (und (o.undoes m) l).length ≤ _
    rw [List.length_cons]
    omega

/-! ### what the iterator hands on -/
abbrev Bk (qs : List Pn) := Int × { p : Pn // p ∈ qs }
def bkl (qs : List Pn) : List (Bk qs) := qs.attach.zipIdx.map fun t => ((t.2 : Int), t.1)
theorem bkl_len (qs : List Pn) : (bkl qs).length = qs.length := by simp [bkl]
theorem bkl_get {qs : List Pn} {k : Nat} {p : Pn} (h : qs[k]? = some p) : ∃ hp : p ∈ qs, (bkl qs)[k]? = some ((k : Int), ⟨p, hp⟩) := by
  refine ⟨List.mem_of_getElem? h, ?_⟩
  obtain ⟨hk, e⟩ := List.getElem?_eq_some_iff.1 h
  subst e
  simp [bkl, hk]
theorem bkl_val (qs : List Pn) : (bkl qs).map (fun x => x.2.1) = qs := by
  apply List.ext_getElem?
  intro k
  rw [List.getElem?_map]
  cases h : qs[k]? with
  | none =>
    have hk : qs.length ≤ k := List.getElem?_eq_none_iff.1 h
    rw [List.getElem?_eq_none (by rw [bkl_len]; exact hk)]
    rfl
  | some p =>
    obtain ⟨hp, e⟩ := bkl_get h
    rw [e]
    rfl
def bks (qs : List Pn) (k : Nat) : List (Bk qs) := ((bkl qs).drop k).reverse
theorem bks_len {qs : List Pn} {k : Nat} : (bks qs k).length = qs.length - k := by
  unfold bks
  rw [List.length_reverse, List.length_drop, bkl_len]
theorem bks_next {qs : List Pn} {k : Nat} {x : Bk qs} (h : (bkl qs)[k]? = some x) : bks qs k = bks qs (k + 1) ++ [x] := by
  obtain ⟨hk, e⟩ := List.getElem?_eq_some_iff.1 h
  unfold bks
  rw [List.drop_eq_getElem_cons hk, e, List.reverse_cons]
theorem bks_all (qs : List Pn) : (bks qs 0).map (fun x => x.2.1) = qs.reverse := by
  unfold bks
  rw [List.drop_zero, List.map_reverse, bkl_val]
theorem bks_none (qs : List Pn) : bks qs qs.length = [] := List.eq_nil_of_length_eq_zero (by rw [bks_len]; omega)
/-- Of what was there below n₀ block b alone has changed. -/
abbrev But (b n₀ : Nat) : Nat → Prop := fun x => x = b ∨ n₀ ≤ x
abbrev PnX (w : World) (X : Nat → Prop) (A : Option Addr) (l : List Pn) : Prop := RdX w X 2 A l.length (pncells l)
theorem PnX.at_ {w : World} {X : Nat → Prop} {A : Option Addr} {l : List Pn} {k : Nat} (h : PnX w X A l) (hk : k < l.length) :
    ∃ (ad : Addr) (p : Pn), A = some ad ∧ w.cell? (ad.add (k * 2)) = some (p.f p.o.add) ∧ w.cell? ⟨(ad.add (k * 2)).block, (ad.add (k * 2)).off + 1, none⟩ = some (p.f (!p.o.add)) ∧ Hid (l[k]? = some p) := by
  obtain ⟨ad, e, hb, hx, hc⟩ := h.2 (by omega)
  have hr : l[k]? = some l[k] := List.getElem?_eq_getElem hk
  obtain ⟨h1, h2⟩ := pncells_get hr
  exact ⟨ad, _, e, hc _ _ h1, by rw [← padd_next]; exact hc _ _ h2, hr⟩

set_option maxRecDepth 100000 in
set_option maxHeartbeats 4000000 in
theorem back_stops (F : Fence) (n : Nat) (hf : F.fn 44) (hro : F.round = none) (hn : 1 ≤ n) (Bs b n₀ : Nat) (A : Option Addr) (cap : Nat) (qs : List Pn) (hl : qs.length ≤ 1000) (w : World)
    (hBs : ¬ But b n₀ Bs) (hc : w.cell? ⟨Bs, 0, none⟩ = some (.slice A qs.length cap)) (hBl : Bs < w.heap.size) (hr : PnX w (But b n₀) A qs) :
    SeqStopsK F n Try.prog 44 #[.pointer (some ⟨Bs, 0, none⟩)] (fun x : Bk qs => #[.int .i64 x.1, x.2.1.v]) (Touch (But b n₀)) (fun xs => xs.map (fun x => x.2.1) = qs.reverse) (fun _ => True) qs.length w := fun l J Jx W hW hJ hJx hY h0 => by
  have hlen : (qs.length : Int) ≤ 1000 := by omega
  have hcW := (hW.cell (p := ⟨Bs, 0, none⟩) hBl).trans hc
  have HrW : Hid (PnX W (But b n₀) A qs) := hr.keep (.of hW)
  have hBW : Hid (Bs < W.heap.size) := Nat.lt_of_lt_of_le hBl hW.size
  have HcW := Lib.hid hcW
  have HBs := Lib.hid hBs
  clear hc hr hl hBs hBl
  refine callsIn_of_wp Try.func44 rfl hf ?_ hro
  simp only [Try.ntmps44, List.size_toArray, List.length_cons, List.length_nil, Nat.reduceAdd, Nat.reduceSub, Array.replicate_succ, Array.replicate_zero, List.push_toArray, List.append_toArray, List.nil_append, List.cons_append]
  gi_wp2
  gi_loopw [3] (fun i wr => ∃ (k : Nat) (z : Int), k ≤ qs.length ∧ Hid (z = (k : Int) - 1) ∧ i = .int .i64 z ∧ Hid (J (bks qs k) wr) ∧ Hid (Touch (But b n₀) W wr)) (fun i _ => (intOf i + 1).toNat)
  case atStart => exact ⟨qs.length, _, Nat.le_refl _, by exact rfl, rfl, by show J _ _; rw [bks_none]; exact h0, Touch.refl _ _⟩
  case round =>
    clear hcW
    obtain ⟨k, z, hk, hz, rfl, hJs, ht⟩ := hrel
    have hcr := (ht.out.cell (p := ⟨Bs, 0, none⟩) hBW.out HBs.out).trans HcW.out
    cases k with
    | zero =>
      have hz' : z < 0 := by have := hz.out; omega
      have hz2 : ¬ 0 ≤ z := by omega
      gi_wp2
      go_end0
      exact ⟨⟨_, rfl⟩, .inl ⟨_, bks_all qs, hJs.out⟩⟩
    | succ j =>
      obtain rfl : z = (j : Int) := by have := hz.out; omega
      obtain ⟨ad, p, rfl, h1, h2, hx⟩ := PnX.at_ (HrW.out.keep ht.out) (k := j) (by omega)
      obtain ⟨hp, hb⟩ := bkl_get hx.out
      obtain ⟨fn, tmps, assign, body, hy, hR⟩ := hY _ ((j : Int), ⟨p, hp⟩) wr hJs.out (by rw [bks_len]; omega)
      have ev : p.v = .agg #[p.f p.o.add, p.f (!p.o.add)] := rfl
      obtain ⟨x, hx1⟩ : ∃ x, Hid (p.f p.o.add = x) := ⟨_, rfl⟩
      obtain ⟨y, hy1⟩ : ∃ y, Hid (p.f (!p.o.add) = y) := ⟨_, rfl⟩
      rw [hx1.out] at h1
      rw [hy1.out] at h2
      rw [hx1.out, hy1.out] at ev
      simp only [ev] at hy
      have hlt : (j : Int) < (qs.length : Int) := by omega
      have hln : j < qs.length := by omega
      have Hb := Lib.hid hb
      clear ev hb hk
      gi_wp2
      refine hR.mono ?_
      rintro e W3 (⟨rfl, hJ3, hk3⟩ | ⟨rfl, hJx3⟩)
      · have HJ3 := Lib.hid hJ3
        have Hk3 := Lib.hid hk3
        clear hJ3 hk3
        gi_wp2
        go_roundw
        case rel => exact ⟨j, _, by omega, by exact rfl, by go_num, by show J _ _; rw [bks_next Hb.out]; exact HJ3.out, ht.out.trans Hk3.out⟩
        case measure => simp [intOf]
      · gi_wp2
        refine bodyPost_ret (results_none rfl _ _ _) rfl ?_
        exact ⟨⟨_, rfl⟩, .inr ⟨_, trivial, hJx3⟩⟩
end Go.Proofs.Ytdnbflhpgfgnnaa
