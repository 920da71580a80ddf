/- The walk of first: how many names each number is told to have, the first time. Conditions: at most 1000 names. -/
import Derived.Test.YtlehkgogcbdckaaInQ
namespace Go.Proofs.Ytlehkgogcbdckaa
open Go.RowKit Go.Maps

attribute [local go_sem] Oper.semAt_some

def mapN (l : List En) : DataW Unit := l.foldl (fun D x => D.put (.int .i64 x.1) (.lit (.int .i64 x.2))) (.map [])
theorem mapN_snoc (l : List En) (x : En) : mapN (l ++ [x]) = (mapN l).put (.int .i64 x.1) (.lit (.int .i64 x.2)) := by simp [mapN, List.foldl_append]
theorem mapN_is (l : List En) : IsMap (mapN l) := by
  have : ∀ (l : List En) (D : DataW Unit), IsMap D → IsMap (l.foldl (fun D x => D.put (.int .i64 x.1) (.lit (.int .i64 x.2))) D) := by
    intro l
    induction l with
    | nil => intro D h; exact h
    | cons x l ih => intro D h; exact ih _ (h.put _ _)
  exact this l _ isMap_empty
def manyF (l : List En) (z : Int) : Int := ((l.find? fun x => decide (x.1 = z)).map Prod.snd).getD 0
theorem mapN_at (l : List En) (z : Int) : (mapN l.reverse).atKey (.int .i64 z) (.lit (.int .i64 0)) = .lit (.int .i64 (manyF l z)) := by
  induction l with
  | nil => rfl
  | cons x l ih =>
    rw [List.reverse_cons, mapN_snoc]
    unfold manyF
    rw [List.find?_cons]
    by_cases h : x.1 = z
    · subst h
      rw [atKey_put_same (mapN_is _) (by simp [WideAt.IsKeyLit])]
      simp
    · rw [atKey_put_other (fun e => by injection e with _ e; exact h e.symm), ih]
      simp only [h, decide_false]
      rfl
/-- Numbers that fit. -/
def FitE (l : List En) : Prop := ∀ x ∈ l, (-9223372036854775808 ≤ x.1 ∧ x.1 ≤ 9223372036854775807) ∧ (-9223372036854775808 ≤ x.2 ∧ x.2 ≤ 9223372036854775807)
theorem manyF_fit {l : List En} (h : FitE l) (z : Int) : -9223372036854775808 ≤ manyF l z ∧ manyF l z ≤ 9223372036854775807 := by
  unfold manyF
  cases hf : l.find? fun x => decide (x.1 = z) with
  | none => simp
  | some x => exact (h x (List.mem_of_find?_eq_some hf)).2
/-- What the loop keeps. -/
def FlI (WL : World) (bm : Nat) {qs : List En} (pre : List (Bk qs)) (W : World) : Prop :=
  Touch (But bm WL.heap.size) WL W ∧ W.ownsMap Try.prog 3 (plainElem Try.prog 3) bm pre.length (mapN (pre.map fun x => x.2.1))
/-- The loop's variable, in a block of its own. -/
def FlA (WL : World) (tm : Int → Value → Nat → Array Value) {qs : List En} (x : Bk qs) (a : Act) (W : World) : Prop :=
  ∃ bx, WL.heap.size ≤ bx ∧ W.heap[bx]? = some (.cells #[.int .i64 x.2.1.1, .int .i64 x.2.1.2] 45 (0, 0)) ∧ a = { tmps := tm x.1 (enV x.2.1) bx, defers := [] }
set_option maxHeartbeats 4000000 in
set_option maxRecDepth 100000 in
theorem first_any {A : Option Addr} {cap : Nat} {l : List En} {w : World} {X : Nat → Prop} (hr : EnX w X A l) (hl : l.length ≤ 1000) (hfit : FitE l) :
    Calls Try.prog 26 #[.slice A l.length cap] w fun e w' => ∃ b, e = .returned (.map (some b)) ∧ w.heap.size ≤ b ∧ Below w.heap.size w w' ∧ w'.ownsMap Try.prog 3 (plainElem Try.prog 3) b l.length (mapN l.reverse) := by
  obtain ⟨bm, hbm⟩ : ∃ bm, Hid (w.heap.size = bm) := ⟨_, rfl⟩
  obtain ⟨n, hn⟩ : ∃ n, Hid (l.length = n) := ⟨_, rfl⟩
  have Hr := Lib.hid hr
  have Hfit := Lib.hid hfit
  have hln : Hid (l.length ≤ 1000) := hl
  have hmk := fun w => run_makeMap (P := Try.prog) 64 w
  rw [hn.out]
  clear hr hl hfit
  refine (callsIn_wide (n := 5)).1 ?_
  refine callsIn_of_wp_marks Try.func26 rfl trivial (wpIn_wide.2 ?_) rfl
  simp only [Try.ntmps26, List.size_toArray, List.length_cons, List.length_nil, Nat.reduceAdd, Nat.reduceSub, Array.replicate_succ, Array.replicate_zero, List.push_toArray, List.append_toArray, List.nil_append, List.cons_append]
  go_upto_region 2 with fail
  clear hmk
  rw [hbm.out]
  obtain ⟨W1, hW1⟩ : ∃ W1, Hid ((w.alloc (.map #[] 0)).alloc (.cells #[.map (some bm)] 64) = W1) := ⟨_, rfl⟩
  rw [hW1.out]
  have hs1 : Hid (W1.heap.size = bm + 2) := by rw [← hW1.out, ← hbm.out]; show _ = _; simp
  have hb1 : Hid (Below w.heap.size w W1) := by rw [← hW1.out]; exact (below_new _ _).alloc (by simp) _
  have hbv1 : Hid (W1.heap[bm + 1]? = some (.cells #[.map (some bm)] 64 (0, 0))) := by
    rw [← hW1.out]
    have := heap_alloc_new (w.alloc (.map #[] 0)) (.cells #[.map (some bm)] 64)
    rw [show (w.alloc (.map #[] 0)).heap.size = bm + 1 by rw [← hbm.out]; simp] at this
    exact this
  have hmap1 : Hid (W1.ownsMap (H := Unit) Try.prog 3 (plainElem Try.prog 3) bm 0 (.map [])) := by
    rw [← hW1.out, ← hbm.out]
    exact (World.ownsMap_made w Try.prog 3 (plainElem Try.prog 3)).alloc _
  go_wp2_with (go_at_call 37; refine (back_any _ _ _ _).mono ?_; rintro e w1 ⟨rfl, rfl⟩)
  obtain ⟨WL, hWL⟩ : ∃ WL, Hid (W1.alloc (.cells #[.slice A n cap] 36) = WL) := ⟨_, rfl⟩
  rw [hWL.out, hs1.out]
  have hbWL : Hid (Below W1.heap.size W1 WL) := by rw [← hWL.out]; exact below_new _ _
  have hsWL : Hid (WL.heap.size = bm + 3) := by rw [← hWL.out]; show _ = _; simp [hs1.out]
  have hBsL : Hid (WL.heap[bm + 2]? = some (.cells #[.slice A n cap] 36 (0, 0))) := by rw [← hWL.out, ← hs1.out]; exact heap_alloc_new _ _
  have hbvL : Hid (WL.heap[bm + 1]? = some (.cells #[.map (some bm)] 64 (0, 0))) := (hbWL.out.block (bm + 1) (by rw [hs1.out]; omega)).trans hbv1.out
  have hread : Hid (EnX WL (But bm WL.heap.size) A l) := by
    have h1 := Hr.out.below (hb1.out.trans (hbWL.out.mono hb1.out.size))
    refine ⟨h1.1, fun hn => ?_⟩
    obtain ⟨ad, e, hb, _, hc⟩ := Hr.out.2 hn
    obtain ⟨ad', e', hb', _, hc'⟩ := h1.2 hn
    rw [e] at e'
    injection e' with e'
    subst e'
    refine ⟨ad, e, hb', ?_, hc'⟩
    rintro (e1 | e1)
    · have := hbm.out; omega
    · omega
  have hbox : Hid (WL.cell? ⟨bm + 2, 0, none⟩ = some (.slice A l.length cap)) := by rw [hn.out]; exact box_cell hBsL.out
  have hN1 : Hid (¬ But bm WL.heap.size (bm + 2)) := by
    rw [hsWL.out]
    rintro (e | e) <;> omega
  have hN2 : Hid (¬ But bm WL.heap.size (bm + 1)) := by
    rw [hsWL.out]
    rintro (e | e) <;> omega
  refine (wpIn_wide (n := 5)).1 ?_
  refine wpIn_rangeFunc_ownH (n := 5) rfl (by omega) (gf := 56) (lb := #[.pointer (some ⟨bm + 2, 0, none⟩)]) rfl trivial (enters_of Try.func56 (by kernel_rfl) rfl)
    (back_stops Fence.wide 4 trivial rfl (by omega) (bm + 2) bm WL.heap.size A cap l hln.out WL hN1.out hbox.out (by rw [hsWL.out]; omega) hread.out) (fun h k => h.trans k)
    (fun W' l o o' hl _ _ _ => Touch.grown (grownBy_putObj' W' l o') fun k e => by injection e with e; exact .inr (by omega)) (Below.refl _ _) (fun _ => rfl)
    (FlI WL bm) (fun _ _ _ => False) ?hI (fun _ _ _ _ _ hs _ _ => hs) ?h0
    (FlA WL (fun idx v bx => #[.slice A n cap, undef, .map none, .pointer (some ⟨bm + 1, 0, none⟩), undef, .pointer (some ⟨bx, 0, none⟩), .map (some bm), .slice A n cap, .func (.func 56) #[] #[.pointer (some ⟨bm + 2, 0, none⟩)], .int .i64 idx, v, undef, undef, undef, undef, undef, undef]))
    ?hAx ?assign ?body ?done ?stop
  case hI =>
    intro pre X Y row hs hgr hr
    refine ⟨hs.1.trans (Touch.grown hgr fun k e => .inr (hr k e).1), owns_touch hs.2 (Touch.grown (X := fun x => row = some x) hgr fun k e => e) fun e => ?_⟩
    obtain ⟨h1, h2⟩ := hr bm e
    have := hsWL.out
    omega
  case h0 => exact ⟨Touch.refl _ _, owns_touch hmap1.out (Touch.of (X := fun _ => False) hbWL.out) fun e => e⟩
  case hAx =>
    rintro x a' _ X Y row ⟨bx, h1, h2, h3⟩ hgr hr
    refine ⟨bx, h1, (hgr.block bx (Array.getElem?_eq_some_iff.1 h2).1 fun e => ?_).trans h2, h3⟩
    obtain ⟨_, o, ho, hcs⟩ := hr bx e.symm
    rw [h2] at ho
    injection ho with ho
    rw [← ho] at hcs
    cases hcs
  case assign =>
    intro l pre x W' K hi hK
    have hv : enV x.2.1 = .agg #[.int .i64 x.2.1.1, .int .i64 x.2.1.2] := rfl
    obtain ⟨i1, h1⟩ : ∃ u, Hid (x.2.1.1 = u) := ⟨_, rfl⟩
    obtain ⟨i2, h2⟩ : ∃ u, Hid (x.2.1.2 = u) := ⟨_, rfl⟩
    rw [h1.out, h2.out] at hv
    have HK := Lib.hid hK
    clear hK
    rw [hv]
    gi_wp2
    have ha := below_new W' (.cells #[.int .i64 i1, .int .i64 i2] 45)
    have hg2 := World.grownBy_alloc W' (.cells #[.int .i64 i1, .int .i64 i2] 45) none
    refine HK.out _ _ (.of_grownBy hg2 fun j e => by cases e) (.of ha) ⟨hi.1.trans (.of ha), owns_touch hi.2 (Touch.of (X := fun _ => False) ha) fun e => e⟩ ⟨W'.heap.size, hi.1.size, ?_, by rw [hv]⟩
    rw [h1.out, h2.out]
    exact heap_alloc_new _ _
  case body =>
    rintro l' pre x a' W' hl hrec hfl ⟨bx, hbx, hbxc, rfl⟩ hlt
    have cx0 := bx_cell hbxc
    have cx1 := bx_cell1 hbxc
    have cm := box_cell (hfl.1.heap hN2.out hbvL.out)
    have hxf := Hfit.out x.2.1 x.2.2
    obtain ⟨w3, hrun, hown3, hg3⟩ := hfl.2.update keyI Try.underlying64 (by simp only [maxLen]; have := hln.out; omega) (key_i hxf.1) (plainElem_int Try.underlying3 (a := x.2.1.2) (by simp only [Lit.wf, Bool.and_eq_true, decide_eq_true_eq]; exact hxf.2))
    have Hfl := Lib.hid hfl
    have Hown3 := Lib.hid hown3
    have ht3 : Hid (Touch (fun k => k = bm) W' w3) := Touch.grown hg3 fun k e => by injection e with e; exact e.symm
    obtain ⟨i1, h1⟩ : ∃ u, Hid (x.2.1.1 = u) := ⟨_, rfl⟩
    obtain ⟨i2, h2⟩ : ∃ u, Hid (x.2.1.2 = u) := ⟨_, rfl⟩
    rw [h1.out] at cx0 hrun
    rw [h2.out] at cx1 hrun
    have Hbm := Lib.hid hbm
    clear hfl hbxc hown3 hg3 hxf hl hrec hlt hbx
    gi_wp2
    have hT3 : Touch (But bm WL.heap.size) W' w3 := ht3.out.mono fun _ _ e => Or.inl e
    refine ⟨⟨ht3.out.size, fun k o hk ho _ => ht3.out.heap (fun e => ?_) ho⟩, hT3, Hfl.out.1.trans hT3, ?_⟩
    · have := hsWL.out; omega
    · rw [List.length_append, List.map_append, List.map_cons, List.map_nil, mapN_snoc]
      exact Hown3.out
  case done =>
    rintro D xs W' hD hS hI hK
    have cm := box_cell (hI.1.heap hN2.out hbvL.out)
    have hown := hI.2
    rw [show mapN (xs.map fun x => x.2.1) = mapN l.reverse from by rw [hS], show xs.length = n from by have h5 := congrArg List.length hS; rw [List.length_map, List.length_reverse, hn.out] at h5; exact h5] at hown
    have Hown := Lib.hid hown
    have Ht := Lib.hid hI.1
    have HK := Lib.hid hK
    have HD := Lib.hid hD
    clear hown hI hK hD hS
    gi_wp2
    go_wp2
    have hDl : Hid (bm + 3 ≤ D) := by have := HD.out; rw [hsWL.out] at this; exact this
    have htD : Touch (fun b => b = D) W' (W'.putObj D (.deferred none)) := Touch.grown (grownBy_putObj' W' D _) fun k e => by injection e with e; exact e.symm
    refine ⟨by simp, .inl ⟨_, _, rfl, run_takeDeferred HK.out, ?_⟩⟩
    refine ⟨_, results_tmp rfl _ _ _, bm, rfl, by rw [hbm.out]; exact Nat.le_refl _, ?_, owns_touch Hown.out htD fun e => ?_⟩
    · have h1 : Below w.heap.size w WL := below_then hb1.out hbWL.out (Nat.le_refl _)
      refine Touch.below (X := fun b => w.heap.size ≤ b) ((Touch.of h1).trans ((Ht.out.mono fun b hb e => ?_).trans (htD.mono fun b _ e => ?_))) (Nat.le_refl _) fun b hb => hb
      · rcases e with e | e
        · rw [e, hbm.out]; exact Nat.le_refl _
        · omega
      · rw [e, hbm.out]; have := hDl.out; omega
    · have := hDl.out; omega
  case stop =>
    rintro D cc pre W' _ _ h _
    exact h.elim
end Go.Proofs.Ytlehkgogcbdckaa
