/- slices.Backward over names: the iterator's contract. Conditions: at most 1000 names. The walk of first: how many names each number is told to have, the first time. Conditions: at most 1000 names. A table's failure, by definition, and what follows of it; how sizes go on. Conditions: none. -/
import Derived.Test.YtbhmnmmockmibaaGreatKbFtP
import Derived.RangeFuncNested
import Derived.RangeFuncLeaves
import Derived.Shelf.Abstract
import Derived.Shelf.RegionOpen
import Derived.Shelf.AbstractIn
import Derived.OwnWalkIn
import Derived.LoopNIn
import Derived.LoopIn
namespace Go.Proofs.YtbhmnmmockmibaaGreat
open Go.RowKit
attribute [local go_sem] Oper.semAt_some
abbrev Bk (qs : List En) := Int × { p : En // p ∈ qs }
def bkl (qs : List En) : List (Bk qs) := qs.attach.zipIdx.map fun t => ((t.2 : Int), t.1)
theorem bkl_len (qs : List En) : (bkl qs).length = qs.length := by simp [bkl]
theorem bkl_get {qs : List En} {k : Nat} {p : En} (h : qs[k]? = some p) : ∃ hp : p ∈ qs, (bkl qs)[k]? = some ((k : Int), ⟨p, hp⟩) := by
  refine ⟨List.mem_of_getElem? h, ?_⟩
  obtain ⟨hk, e⟩ := List.getElem?_eq_some_iff.1 h
  subst e
  simp [bkl, hk]
theorem bkl_val (qs : List En) : (bkl qs).map (fun x => x.2.1) = qs := by
  apply List.ext_getElem?
  intro k
  rw [List.getElem?_map]
  cases h : qs[k]? with
  | none =>
    have hk : qs.length ≤ k := List.getElem?_eq_none_iff.1 h
    rw [List.getElem?_eq_none (by rw [bkl_len]; exact hk)]
    rfl
  | some p =>
    obtain ⟨hp, e⟩ := bkl_get h
    rw [e]
    rfl
def bks (qs : List En) (k : Nat) : List (Bk qs) := ((bkl qs).drop k).reverse
theorem bks_len {qs : List En} {k : Nat} : (bks qs k).length = qs.length - k := by
  unfold bks
  rw [List.length_reverse, List.length_drop, bkl_len]
theorem bks_next {qs : List En} {k : Nat} {x : Bk qs} (h : (bkl qs)[k]? = some x) : bks qs k = bks qs (k + 1) ++ [x] := by
  obtain ⟨hk, e⟩ := List.getElem?_eq_some_iff.1 h
  unfold bks
  rw [List.drop_eq_getElem_cons hk, e, List.reverse_cons]
theorem bks_all (qs : List En) : (bks qs 0).map (fun x => x.2.1) = qs.reverse := by
  unfold bks
  rw [List.drop_zero, List.map_reverse, bkl_val]
theorem bks_none (qs : List En) : bks qs qs.length = [] := List.eq_nil_of_length_eq_zero (by rw [bks_len]; omega)
/-- Of what was there below n₀ block b alone has changed. -/
abbrev But (b n₀ : Nat) : Nat → Prop := fun x => x = b ∨ n₀ ≤ x
set_option maxRecDepth 100000 in
set_option maxHeartbeats 4000000 in
theorem back_stops (F : Fence) (n : Nat) (hf : F.fn 119) (hro : F.round = none) (hn : 1 ≤ n) (Bs b n₀ : Nat) (A : Option Addr) (cap : Nat) (qs : List En) (hl : qs.length ≤ 1000) (w : World)
    (hBs : ¬ But b n₀ Bs) (hc : w.cell? ⟨Bs, 0, none⟩ = some (.slice A qs.length cap)) (hBl : Bs < w.heap.size) (hr : EnX w (But b n₀) A qs) :
    SeqStopsK F n Tryz.prog 119 #[.pointer (some ⟨Bs, 0, none⟩)] (fun x : Bk qs => #[.int .i64 x.1, enV x.2.1]) (Touch (But b n₀)) (fun xs => xs.map (fun x => x.2.1) = qs.reverse) (fun _ => True) qs.length w := fun l J Jx W hW hJ hJx hY h0 => by
  have hlen : (qs.length : Int) ≤ 1000 := by omega
  have hcW := (hW.cell (p := ⟨Bs, 0, none⟩) hBl).trans hc
  have HrW : Hid (EnX W (But b n₀) A qs) := hr.keep (.of hW)
  have hBW : Hid (Bs < W.heap.size) := Nat.lt_of_lt_of_le hBl hW.size
  have HcW := Lib.hid hcW
  have HBs := Lib.hid hBs
  clear hc hr hl hBs hBl
  refine callsIn_of_wp Tryz.func119 rfl hf ?_ hro
  simp only [Tryz.ntmps119, List.size_toArray, List.length_cons, List.length_nil, Nat.reduceAdd, Nat.reduceSub, Array.replicate_succ, Array.replicate_zero, List.push_toArray, List.append_toArray, List.nil_append, List.cons_append]
  gi_wp2
  gi_loopw [3] (fun i wr => ∃ (k : Nat) (z : Int), k ≤ qs.length ∧ Hid (z = (k : Int) - 1) ∧ i = .int .i64 z ∧ Hid (J (bks qs k) wr) ∧ Hid (Touch (But b n₀) W wr)) (fun i _ => (Go.Lib.intOf i + 1).toNat)
  case atStart => exact ⟨qs.length, _, Nat.le_refl _, by exact rfl, rfl, by show J _ _; rw [bks_none]; exact h0, Touch.refl _ _⟩
  case round =>
    clear hcW
    obtain ⟨k, z, hk, hz, rfl, hJs, ht⟩ := hrel
    have hcr := (ht.out.cell (p := ⟨Bs, 0, none⟩) hBW.out HBs.out).trans HcW.out
    cases k with
    | zero =>
      have hz' : z < 0 := by have := hz.out; omega
      have hz2 : ¬ 0 ≤ z := by omega
      gi_wp2
      go_end0
      exact ⟨⟨_, rfl⟩, .inl ⟨_, bks_all qs, hJs.out⟩⟩
    | succ j =>
      obtain rfl : z = (j : Int) := by have := hz.out; omega
      obtain ⟨ad, p, rfl, _, _, h1, h2, hx⟩ := EnX.at_ (HrW.out.keep ht.out) (k := j) (by omega)
      obtain ⟨hp, hb⟩ := bkl_get hx.out
      obtain ⟨fn, tmps, assign, body, hy, hR⟩ := hY _ ((j : Int), ⟨p, hp⟩) wr hJs.out (by rw [bks_len]; omega)
      have ev : enV p = .agg #[.int .i64 p.1, .int .i64 p.2] := rfl
      obtain ⟨x, hx1⟩ : ∃ x, Hid (p.1 = x) := ⟨_, rfl⟩
      obtain ⟨y, hy1⟩ : ∃ y, Hid (p.2 = y) := ⟨_, rfl⟩
      rw [hx1.out] at h1
      rw [hy1.out] at h2
      rw [hx1.out, hy1.out] at ev
      simp only [ev] at hy
      have hlt : (j : Int) < (qs.length : Int) := by omega
      have hln : j < qs.length := by omega
      have Hb := Lib.hid hb
      clear ev hb hk
      gi_wp2
      refine hR.mono ?_
      rintro e W3 (⟨rfl, hJ3, hk3⟩ | ⟨rfl, hJx3⟩)
      · have HJ3 := Lib.hid hJ3
        have Hk3 := Lib.hid hk3
        clear hJ3 hk3
        gi_wp2
        go_roundw
        case rel => exact ⟨j, _, by omega, by exact rfl, by go_num, by show J _ _; rw [bks_next Hb.out]; exact HJ3.out, ht.out.trans Hk3.out⟩
        case measure => simp [Go.Lib.intOf]
      · gi_wp2
        refine bodyPost_ret (results_none rfl _ _ _) rfl ?_
        exact ⟨⟨_, rfl⟩, .inr ⟨_, trivial, hJx3⟩⟩
theorem hmakeFunc (fn : Fn) (first cap : Array Value) (w : World) : (Instr.makeFunc fn first cap).run Tryz.prog w = .ok (.func fn first cap) w := rfl
set_option maxHeartbeats 1000000 in
theorem back_any (A : Option Addr) (n c : Nat) (w : World) : Calls Tryz.prog 97 #[.slice A n c] w fun e w' => e = .returned (.func (.func 119) #[] #[.pointer (some ⟨w.heap.size, 0, none⟩)]) ∧ w' = w.alloc (.cells #[.slice A n c] 88) := by
  have hmf := hmakeFunc
  go_enter Tryz.func97, Tryz.ntmps97
  go_wp2
  go_ret
  exact ⟨rfl, rfl⟩
end Go.Proofs.YtbhmnmmockmibaaGreat

namespace Go.Proofs.YtbhmnmmockmibaaGreat
open Go.RowKit Go.Maps
attribute [local go_sem] Oper.semAt_some
def mapN (l : List En) : DataW Unit := l.foldl (fun D x => D.put (.int .i64 x.1) (.lit (.int .i64 x.2))) (.map [])
theorem mapN_snoc (l : List En) (x : En) : mapN (l ++ [x]) = (mapN l).put (.int .i64 x.1) (.lit (.int .i64 x.2)) := by simp [mapN, List.foldl_append]
theorem mapN_is (l : List En) : IsMap (mapN l) := by
  have : ∀ (l : List En) (D : DataW Unit), IsMap D → IsMap (l.foldl (fun D x => D.put (.int .i64 x.1) (.lit (.int .i64 x.2))) D) := by
    intro l
    induction l with
    | nil => intro D h; exact h
    | cons x l ih => intro D h; exact ih _ (h.put _ _)
  exact this l _ isMap_empty
def manyF (l : List En) (z : Int) : Int := ((l.find? fun x => decide (x.1 = z)).map Prod.snd).getD 0
theorem mapN_at (l : List En) (z : Int) : (mapN l.reverse).atKey (.int .i64 z) (.lit (.int .i64 0)) = .lit (.int .i64 (manyF l z)) := by
  induction l with
  | nil => rfl
  | cons x l ih =>
    rw [List.reverse_cons, mapN_snoc]
    unfold manyF
    rw [List.find?_cons]
    by_cases h : x.1 = z
    · subst h
      rw [atKey_put_same (mapN_is _) (by simp [WideAt.IsKeyLit])]
      simp
    · rw [atKey_put_other (fun e => by injection e with _ e; exact h e.symm), ih]
      simp only [h, decide_false]
      rfl
/-- Numbers that fit. -/
def FitE (l : List En) : Prop := ∀ x ∈ l, (-9223372036854775808 ≤ x.1 ∧ x.1 ≤ 9223372036854775807) ∧ (-9223372036854775808 ≤ x.2 ∧ x.2 ≤ 9223372036854775807)
theorem manyF_fit {l : List En} (h : FitE l) (z : Int) : -9223372036854775808 ≤ manyF l z ∧ manyF l z ≤ 9223372036854775807 := by
  unfold manyF
  cases hf : l.find? fun x => decide (x.1 = z) with
  | none => simp
  | some x => exact (h x (List.mem_of_find?_eq_some hf)).2
/-- What the loop keeps. -/
def FlI (WL : World) (bm : Nat) {qs : List En} (pre : List (Bk qs)) (W : World) : Prop :=
  Touch (But bm WL.heap.size) WL W ∧ W.ownsMap Tryz.prog 3 (plainElem Tryz.prog 3) bm pre.length (mapN (pre.map fun x => x.2.1))
/-- The loop's variable, in a block of its own. -/
def FlA (WL : World) (tm : Int → Value → Nat → Array Value) {qs : List En} (x : Bk qs) (a : Act) (W : World) : Prop :=
  ∃ bx, WL.heap.size ≤ bx ∧ W.heap[bx]? = some (.cells #[.int .i64 x.2.1.1, .int .i64 x.2.1.2] 91 (0, 0)) ∧ a = { tmps := tm x.1 (enV x.2.1) bx, defers := [] }
set_option maxHeartbeats 4000000 in
set_option maxRecDepth 100000 in
theorem first_any {A : Option Addr} {cap : Nat} {l : List En} {w : World} {X : Nat → Prop} (hr : EnX w X A l) (hl : l.length ≤ 1000) (hfit : FitE l) :
    Calls Tryz.prog 62 #[.slice A l.length cap] w fun e w' => ∃ b, e = .returned (.map (some b)) ∧ w.heap.size ≤ b ∧ Below w.heap.size w w' ∧ w'.ownsMap Tryz.prog 3 (plainElem Tryz.prog 3) b l.length (mapN l.reverse) := by
  obtain ⟨bm, hbm⟩ : ∃ bm, Hid (w.heap.size = bm) := ⟨_, rfl⟩
  obtain ⟨n, hn⟩ : ∃ n, Hid (l.length = n) := ⟨_, rfl⟩
  have Hr := Lib.hid hr
  have Hfit := Lib.hid hfit
  have hln : Hid (l.length ≤ 1000) := hl
  have hmk := fun w => run_makeMap (P := Tryz.prog) 86 w
  rw [hn.out]
  clear hr hl hfit
  refine (callsIn_wide (n := 5)).1 ?_
  refine callsIn_of_wp_marks Tryz.func62 rfl trivial (wpIn_wide.2 ?_) rfl
  simp only [Tryz.ntmps62, List.size_toArray, List.length_cons, List.length_nil, Nat.reduceAdd, Nat.reduceSub, Array.replicate_succ, Array.replicate_zero, List.push_toArray, List.append_toArray, List.nil_append, List.cons_append]
  go_upto_region 2 with fail
  clear hmk
  rw [hbm.out]
  obtain ⟨W1, hW1⟩ : ∃ W1, Hid ((w.alloc (.map #[] 0)).alloc (.cells #[.map (some bm)] 86) = W1) := ⟨_, rfl⟩
  rw [hW1.out]
  have hs1 : Hid (W1.heap.size = bm + 2) := by rw [← hW1.out, ← hbm.out]; show _ = _; simp
  have hb1 : Hid (Below w.heap.size w W1) := by rw [← hW1.out]; exact (below_new _ _).alloc (by simp) _
  have hbv1 : Hid (W1.heap[bm + 1]? = some (.cells #[.map (some bm)] 86 (0, 0))) := by
    rw [← hW1.out]
    have := heap_alloc_new (w.alloc (.map #[] 0)) (.cells #[.map (some bm)] 86)
    rw [show (w.alloc (.map #[] 0)).heap.size = bm + 1 by rw [← hbm.out]; simp] at this
    exact this
  have hmap1 : Hid (W1.ownsMap (H := Unit) Tryz.prog 3 (plainElem Tryz.prog 3) bm 0 (.map [])) := by
    rw [← hW1.out, ← hbm.out]
    exact (World.ownsMap_made w Tryz.prog 3 (plainElem Tryz.prog 3)).alloc _
  go_wp2_with (go_at_call 97; refine (back_any _ _ _ _).mono ?_; rintro e w1 ⟨rfl, rfl⟩)
  obtain ⟨WL, hWL⟩ : ∃ WL, Hid (W1.alloc (.cells #[.slice A n cap] 88) = WL) := ⟨_, rfl⟩
  rw [hWL.out, hs1.out]
  have hbWL : Hid (Below W1.heap.size W1 WL) := by rw [← hWL.out]; exact below_new _ _
  have hsWL : Hid (WL.heap.size = bm + 3) := by rw [← hWL.out]; show _ = _; simp [hs1.out]
  have hBsL : Hid (WL.heap[bm + 2]? = some (.cells #[.slice A n cap] 88 (0, 0))) := by rw [← hWL.out, ← hs1.out]; exact heap_alloc_new _ _
  have hbvL : Hid (WL.heap[bm + 1]? = some (.cells #[.map (some bm)] 86 (0, 0))) := (hbWL.out.block (bm + 1) (by rw [hs1.out]; omega)).trans hbv1.out
  have hread : Hid (EnX WL (But bm WL.heap.size) A l) := by
    have h1 := Hr.out.below (hb1.out.trans (hbWL.out.mono hb1.out.size))
    refine ⟨h1.1, fun hn => ?_⟩
    obtain ⟨ad, e, hb, _, hc⟩ := Hr.out.2 hn
    obtain ⟨ad', e', hb', _, hc'⟩ := h1.2 hn
    rw [e] at e'
    injection e' with e'
    subst e'
    refine ⟨ad, e, hb', ?_, hc'⟩
    rintro (e1 | e1)
    · have := hbm.out; omega
    · omega
  have hbox : Hid (WL.cell? ⟨bm + 2, 0, none⟩ = some (.slice A l.length cap)) := by rw [hn.out]; exact box_cell hBsL.out
  have hN1 : Hid (¬ But bm WL.heap.size (bm + 2)) := by
    rw [hsWL.out]
    rintro (e | e) <;> omega
  have hN2 : Hid (¬ But bm WL.heap.size (bm + 1)) := by
    rw [hsWL.out]
    rintro (e | e) <;> omega
  refine (wpIn_wide (n := 5)).1 ?_
  refine wpIn_rangeFunc_ownH (n := 5) rfl (by omega) (gf := 119) (lb := #[.pointer (some ⟨bm + 2, 0, none⟩)]) rfl trivial (enters_of Tryz.func119 (by kernel_rfl) rfl)
    (back_stops Fence.wide 4 trivial rfl (by omega) (bm + 2) bm WL.heap.size A cap l hln.out WL hN1.out hbox.out (by rw [hsWL.out]; omega) hread.out) (fun h k => h.trans k)
    (fun W' l o o' hl _ _ _ => Touch.grown (grownBy_putObj' W' l o') fun k e => by injection e with e; exact .inr (by omega)) (Below.refl _ _) (fun _ => rfl)
    (FlI WL bm) (fun _ _ _ => False) ?hI (fun _ _ _ _ _ hs _ _ => hs) ?h0
    (FlA WL (fun idx v bx => #[.slice A n cap, undef, .map none, .pointer (some ⟨bm + 1, 0, none⟩), undef, .pointer (some ⟨bx, 0, none⟩), .map (some bm), .slice A n cap, .func (.func 119) #[] #[.pointer (some ⟨bm + 2, 0, none⟩)], .int .i64 idx, v, undef, undef, undef, undef, undef, undef]))
    ?hAx ?assign ?body ?done ?stop
  case hI =>
    intro pre X Y row hs hgr hr
    refine ⟨hs.1.trans (Touch.grown hgr fun k e => .inr (hr k e).1), owns_touch hs.2 (Touch.grown (X := fun x => row = some x) hgr fun k e => e) fun e => ?_⟩
    obtain ⟨h1, h2⟩ := hr bm e
    have := hsWL.out
    omega
  case h0 => exact ⟨Touch.refl _ _, owns_touch hmap1.out (Touch.of (X := fun _ => False) hbWL.out) fun e => e⟩
  case hAx =>
    rintro x a' _ X Y row ⟨bx, h1, h2, h3⟩ hgr hr
    refine ⟨bx, h1, (hgr.block bx (Array.getElem?_eq_some_iff.1 h2).1 fun e => ?_).trans h2, h3⟩
    obtain ⟨_, o, ho, hcs⟩ := hr bx e.symm
    rw [h2] at ho
    injection ho with ho
    rw [← ho] at hcs
    cases hcs
  case assign =>
    intro l pre x W' K hi hK
    have hv : enV x.2.1 = .agg #[.int .i64 x.2.1.1, .int .i64 x.2.1.2] := rfl
    obtain ⟨i1, h1⟩ : ∃ u, Hid (x.2.1.1 = u) := ⟨_, rfl⟩
    obtain ⟨i2, h2⟩ : ∃ u, Hid (x.2.1.2 = u) := ⟨_, rfl⟩
    rw [h1.out, h2.out] at hv
    have HK := Lib.hid hK
    clear hK
    rw [hv]
    gi_wp2
    have ha := below_new W' (.cells #[.int .i64 i1, .int .i64 i2] 91)
    have hg2 := World.grownBy_alloc W' (.cells #[.int .i64 i1, .int .i64 i2] 91) none
    refine HK.out _ _ (.of_grownBy hg2 fun j e => by cases e) (.of ha) ⟨hi.1.trans (.of ha), owns_touch hi.2 (Touch.of (X := fun _ => False) ha) fun e => e⟩ ⟨W'.heap.size, hi.1.size, ?_, by rw [hv]⟩
    rw [h1.out, h2.out]
    exact heap_alloc_new _ _
  case body =>
    rintro l' pre x a' W' hl hrec hfl ⟨bx, hbx, hbxc, rfl⟩ hlt
    have cx0 := bx_cell hbxc
    have cx1 := bx_cell1 hbxc
    have cm := box_cell (hfl.1.heap hN2.out hbvL.out)
    have hxf := Hfit.out x.2.1 x.2.2
    obtain ⟨w3, hrun, hown3, hg3⟩ := hfl.2.update keyI Tryz.underlying86 (by simp only [maxLen]; have := hln.out; omega) (key_i hxf.1) (plainElem_int Tryz.underlying3 (a := x.2.1.2) (by simp only [Lit.wf, Bool.and_eq_true, decide_eq_true_eq]; exact hxf.2))
    have Hfl := Lib.hid hfl
    have Hown3 := Lib.hid hown3
    have ht3 : Hid (Touch (fun k => k = bm) W' w3) := Touch.grown hg3 fun k e => by injection e with e; exact e.symm
    obtain ⟨i1, h1⟩ : ∃ u, Hid (x.2.1.1 = u) := ⟨_, rfl⟩
    obtain ⟨i2, h2⟩ : ∃ u, Hid (x.2.1.2 = u) := ⟨_, rfl⟩
    rw [h1.out] at cx0 hrun
    rw [h2.out] at cx1 hrun
    have Hbm := Lib.hid hbm
    clear hfl hbxc hown3 hg3 hxf hl hrec hlt hbx
    gi_wp2
    have hT3 : Touch (But bm WL.heap.size) W' w3 := ht3.out.mono fun _ _ e => Or.inl e
    refine ⟨⟨ht3.out.size, fun k o hk ho _ => ht3.out.heap (fun e => ?_) ho⟩, hT3, Hfl.out.1.trans hT3, ?_⟩
    · have := hsWL.out; omega
    · rw [List.length_append, List.map_append, List.map_cons, List.map_nil, mapN_snoc]
      exact Hown3.out
  case done =>
    rintro D xs W' hD hS hI hK
    have cm := box_cell (hI.1.heap hN2.out hbvL.out)
    have hown := hI.2
    rw [show mapN (xs.map fun x => x.2.1) = mapN l.reverse from by rw [hS], show xs.length = n from by have h5 := congrArg List.length hS; rw [List.length_map, List.length_reverse, hn.out] at h5; exact h5] at hown
    have Hown := Lib.hid hown
    have Ht := Lib.hid hI.1
    have HK := Lib.hid hK
    have HD := Lib.hid hD
    clear hown hI hK hD hS
    gi_wp2
    go_wp2
    have hDl : Hid (bm + 3 ≤ D) := by have := HD.out; rw [hsWL.out] at this; exact this
    have htD : Touch (fun b => b = D) W' (W'.putObj D (.deferred none)) := Touch.grown (grownBy_putObj' W' D _) fun k e => by injection e with e; exact e.symm
    refine ⟨by simp, .inl ⟨_, _, rfl, run_takeDeferred HK.out, ?_⟩⟩
    refine ⟨_, results_tmp rfl _ _ _, bm, rfl, by rw [hbm.out]; exact Nat.le_refl _, ?_, owns_touch Hown.out htD fun e => ?_⟩
    · have h1 : Below w.heap.size w WL := below_then hb1.out hbWL.out (Nat.le_refl _)
      refine Touch.below (X := fun b => w.heap.size ≤ b) ((Touch.of h1).trans ((Ht.out.mono fun b hb e => ?_).trans (htD.mono fun b _ e => ?_))) (Nat.le_refl _) fun b hb => hb
      · rcases e with e | e
        · rw [e, hbm.out]; exact Nat.le_refl _
        · omega
      · rw [e, hbm.out]; have := hDl.out; omega
    · have := hDl.out; omega
  case stop =>
    rintro D cc pre W' _ _ h _
    exact h.elim
end Go.Proofs.YtbhmnmmockmibaaGreat

namespace Go.Proofs.YtbhmnmmockmibaaGreat
open Go.RowKit Go.Maps
theorem Tb.Ok.upd {T : Tb} {N M : Nat} {z n : Int} {m : List Pt} (h : T.Ok N) (hn : -9223372036854775808 ≤ n ∧ n ≤ 9223372036854775807) (hm : Sz m M) (hNM : N ≤ M) : ({ T with fs := updF T.fs z n m } : Tb).Ok M := by
  refine ⟨h.q, Nat.le_trans h.made hNM, by show (updF _ _ _ _).length ≤ _; rw [updF_len]; exact Nat.le_trans h.len hNM, ?_, fun x hx => ?_, fun x hx => ?_, fun x hx => ?_⟩
  · have h2 : (T.fs.map Fi.i).Pairwise (· < ·) := by rw [List.pairwise_map]; exact h.sort
    rw [← updF_i T.fs z n m, List.pairwise_map] at h2
    exact h2
  · obtain ⟨f, hf, e, _⟩ := updF_mem hx
    rw [e]
    exact h.num f hf
  · obtain ⟨f, hf, _, _, hc⟩ := updF_mem hx
    rcases hc with ⟨_, e, _⟩ | ⟨_, rfl⟩
    · rw [e]; exact hn
    · exact h.many _ hf
  · obtain ⟨f, hf, _, _, hc⟩ := updF_mem hx
    rcases hc with ⟨_, _, e⟩ | ⟨_, rfl⟩
    · rw [e]; exact hm
    · exact (h.size _ hf).mono hNM
theorem Tb.Ok.sub {T : Tb} {N : Nat} {fs : List Fi} (h : T.Ok N) (hs : fs.Sublist T.fs) : ({ T with fs := fs } : Tb).Ok N :=
  ⟨h.q, h.made, Nat.le_trans hs.length_le h.len, h.sort.sublist hs, fun f hf => h.num f (hs.mem hf), fun f hf => h.many f (hs.mem hf), fun f hf => h.size f (hs.mem hf)⟩
theorem leaveF_sub (fs : List Fi) (z n : Int) : (leaveF fs z n).Sublist fs := by
  unfold leaveF delF
  split
  · exact List.filter_sublist
  · exact List.Sublist.refl _
theorem wrap_in (z : Int) : -9223372036854775808 ≤ wrap64 z ∧ wrap64 z ≤ 9223372036854775807 := by
  unfold wrap64
  omega
theorem Tb.Ok.drop {T : Tb} {N : Nat} {z : Int} {f : Fi} (h : T.Ok N) (hf : findF T.fs z = some f) : (T.drop z f).Ok N :=
  (h.upd (wrap_in _) (h.size f (findF_mem hf).1) (Nat.le_refl _)).sub (leaveF_sub _ _ _)
theorem Made.ok {w w' : World} {Z : Nat → Prop} {t N : Nat} {T T' : Tb} (h : Made w w' Z t T T') (hok : T.Ok N) : T'.Ok (N + 1) := by
  obtain ⟨g, _, hfs⟩ := h.fs
  refine ⟨by rw [h.q]; exact hok.q, by rw [h.made]; have := hok.made; omega, by rw [hfs, List.length_append]; have := hok.len; simp; omega, ?_, fun x hx => ?_, fun x hx => ?_, fun x hx => ?_⟩
  · rw [hfs, List.pairwise_append]
    refine ⟨hok.sort, by simp, fun a ha b hb => ?_⟩
    rw [List.mem_singleton] at hb
    subst hb
    have := (hok.num a ha).2
    show a.i < (T.made : Int) + 1
    omega
  all_goals
    rw [hfs, List.mem_append, List.mem_singleton] at hx
    rcases hx with hx | rfl
  · have := hok.num x hx; rw [h.made]; omega
  · rw [h.made]; show 1 ≤ (T.made : Int) + 1 ∧ (T.made : Int) + 1 ≤ ((T.made + 1 : Nat) : Int); omega
  · exact hok.many x hx
  · show -9223372036854775808 ≤ (0 : Int) ∧ (0 : Int) ≤ 9223372036854775807; omega
  · exact (hok.size x hx).mono (by omega)
  · exact ⟨by simp, by simp⟩
section
variable {done rest : List Fi} {f : Fi}
theorem mid_lt (hs : (done ++ f :: rest).Pairwise fun a b => a.i < b.i) : (∀ x ∈ done, x.i < f.i) ∧ ∀ x ∈ rest, f.i < x.i := by
  rw [List.pairwise_append, List.pairwise_cons] at hs
  exact ⟨fun x hx => hs.2.2 x hx f (by simp), hs.2.1.1⟩
theorem updF_mid (hs : (done ++ f :: rest).Pairwise fun a b => a.i < b.i) (n : Int) (m : List Pt) : updF (done ++ f :: rest) f.i n m = done ++ ⟨f.i, f.g, n, m⟩ :: rest := by
  obtain ⟨h1, h2⟩ := mid_lt hs
  unfold updF
  rw [List.map_append, List.map_cons, if_pos rfl]
  congr 1
  · conv => rhs; rw [← List.map_id done]
    apply List.map_congr_left
    intro x hx
    have := h1 x hx
    rw [if_neg (by omega)]
    rfl
  · congr 1
    conv => rhs; rw [← List.map_id rest]
    apply List.map_congr_left
    intro x hx
    have := h2 x hx
    rw [if_neg (by omega)]
    rfl
theorem delF_mid (hs : (done ++ f :: rest).Pairwise fun a b => a.i < b.i) : delF (done ++ f :: rest) f.i = done ++ rest := by
  obtain ⟨h1, h2⟩ := mid_lt hs
  unfold delF
  rw [List.filter_append, List.filter_cons_of_neg (by simp), List.filter_eq_self.2, List.filter_eq_self.2]
  · intro x hx
    have := h2 x hx
    have hne : ¬ x.i = f.i := by omega
    simp [hne]
  · intro x hx
    have := h1 x hx
    have hne : ¬ x.i = f.i := by omega
    simp [hne]
theorem findF_mid (hs : (done ++ f :: rest).Pairwise fun a b => a.i < b.i) : findF (done ++ f :: rest) f.i = some f := findF_of_mem hs (by simp)
end
def failF (f : Fi) (names : List En) (keep : List Bool) : Fi := ⟨f.i, f.g, manyF names f.i, failM f.m (keep.take (volM f.m))⟩
def stayF (f : Fi) : List Fi := if f.n < 1 then [] else [f]
def failT : List Fi → List En → List Bool → List Fi
  | [], _, _ => []
  | f :: fs, names, keep => stayF (failF f names keep) ++ failT fs names (keep.drop (volM f.m))
theorem failT_mem {names : List En} {x : Fi} : ∀ {fs : List Fi} {keep : List Bool}, x ∈ failT fs names keep → ∃ f ∈ fs, ∃ k, x = failF f names k ∧ ¬ x.n < 1
  | [], _, h => by cases h
  | f :: fs, keep, h => by
    unfold failT at h
    rw [List.mem_append] at h
    rcases h with h | h
    · unfold stayF at h
      split at h
      · cases h
      · rename_i hn
        rw [List.mem_singleton] at h
        subst h
        exact ⟨f, by simp, keep, rfl, hn⟩
    · obtain ⟨y, hy, k, e, hn⟩ := failT_mem h
      exact ⟨y, by simp [hy], k, e, hn⟩
theorem failT_i (names : List En) : ∀ (fs : List Fi) (keep : List Bool), ((failT fs names keep).map Fi.i).Sublist (fs.map Fi.i)
  | [], _ => List.Sublist.refl _
  | f :: fs, keep => by
    have ih := failT_i names fs (keep.drop (volM f.m))
    unfold failT stayF
    split
    · exact List.Sublist.cons _ ih
    · exact ih.cons_cons _
theorem failT_used (names : List En) : ∀ (fs : List Fi) (keep : List Bool), usedF (failT fs names keep) ≤ usedF fs
  | [], _ => Nat.le_refl _
  | f :: fs, keep => by
    have ih := failT_used names fs (keep.drop (volM f.m))
    have h1 := failM_less f.m (keep.take (volM f.m))
    have e : usedF (f :: fs) = (contM f.m).length + usedF fs := by simp [usedF, sumF]
    rw [e]
    unfold failT stayF
    split
    · rw [List.nil_append]; omega
    · have e2 : usedF ([failF f names keep] ++ failT fs names (keep.drop (volM f.m))) = (contM (failM f.m (keep.take (volM f.m)))).length + usedF (failT fs names (keep.drop (volM f.m))) := by simp [usedF, sumF, failF]
      rw [e2]
      omega
theorem Tb.Ok.fail {T : Tb} {N : Nat} {names : List En} {keep : List Bool} (h : T.Ok N) (hf : FitE names) : ({ T with fs := failT T.fs names keep } : Tb).Ok N := by
  have hsub := failT_i names T.fs keep
  refine ⟨h.q, h.made, ?_, ?_, fun x hx => ?_, fun x hx => ?_, fun x hx => ?_⟩
  · have := hsub.length_le
    rw [List.length_map, List.length_map] at this
    exact Nat.le_trans this h.len
  · have h2 : (T.fs.map Fi.i).Pairwise (· < ·) := by rw [List.pairwise_map]; exact h.sort
    have h3 := h2.sublist hsub
    rw [List.pairwise_map] at h3
    exact h3
  all_goals obtain ⟨f, hf', k, rfl, _⟩ := failT_mem hx
  · exact h.num f hf'
  · exact manyF_fit hf f.i
  · exact (h.size f hf').fail _
end Go.Proofs.YtbhmnmmockmibaaGreat
