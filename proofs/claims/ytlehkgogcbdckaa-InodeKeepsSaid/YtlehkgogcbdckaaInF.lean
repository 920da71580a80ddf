/- The walks of New and Make. Conditions: at most 1000 files. -/
import Derived.Test.YtlehkgogcbdckaaInE
namespace Go.Proofs.Ytlehkgogcbdckaa
open Go.RowKit Go.Maps

def Tb.new (quota : Int) : Tb := ⟨max quota 0, 0, none, []⟩
theorem new_any (quota : Int) (w : World) (_h1 : -9223372036854775808 ≤ quota) (_h2 : quota ≤ 9223372036854775807) :
    Calls Try.prog 7 #[.int .i64 quota] w fun e w' => e = .returned (.pointer (some ⟨w.heap.size, 0, none⟩)) ∧ Below w.heap.size w w' ∧ TabAt w' (fun _ => False) w.heap.size (Tb.new quota) := by
  unfold Tb.new
  obtain ⟨q, hq⟩ : ∃ q, max quota 0 = q := ⟨_, rfl⟩
  rw [hq]
  go_enter Try.func7, Try.ntmps7
  go_wp2
  all_goals go_ret
  all_goals refine ⟨rfl, below_new _ _, ?_, fun b hb => (by cases hb), fun _ => rfl, fun f hf => (by cases hf), List.Pairwise.nil⟩
  · obtain rfl : q = 0 := by omega
    exact heap_alloc_new _ _
  · obtain rfl : q = quota := by omega
    exact heap_alloc_new _ _
theorem Tb.new_ok (quota : Int) (h2 : quota ≤ 9223372036854775807) : (Tb.new quota).Ok 0 :=
  ⟨⟨by show 0 ≤ max quota 0; omega, by show max quota 0 ≤ _; omega⟩, Nat.le_refl _, Nat.le_refl _, List.Pairwise.nil, fun f hf => (by cases hf), fun f hf => (by cases hf), fun f hf => (by cases hf)⟩
theorem run_eqMap (m : Option Nat) (w : World) : (binOp .eql 51 (.map m) (.map none)).run Try.prog w = .ok (.bool m.isNone) w := by
  simp only [binOp]
  simp [run_equal_map_nil w _ _ _ m Try.underlying51]
section
variable {w : World} {Z : Nat → Prop} {t N : Nat} {T : Tb}
theorem TabAt.moved {w' : World} (h : TabAt w Z t T) (ht : Touch (fun k => k = t) w w') {f : Fi} (hf : f ∈ T.fs) : ∃ v, w'.heap[f.g]? = some (.cells #[v, .int .i64 f.n] 59 (0, 0)) ∧ FileV w' (fun k => T.X t k ∨ w.heap.size ≤ k ∨ Z k) v f.m := by
  obtain ⟨v, hv, hF⟩ := h.high.file f hf
  have hne : ¬ f.g = t := fun e => by
    have := h.top
    rw [← e, hv] at this
    injection this with this
    injection this with this _ _
    simp at this
  refine ⟨v, ht.heap hne hv, (hF.mono fun k _ hk => ?_).keep (ht.mono fun k _ e => .inl (.inl e))⟩
  rcases hk with hk | hk | hk
  · exact .inl hk
  · exact .inr (.inr hk)
  · exact .inr (.inl hk)
/-- What Make leaves. -/
structure Made (w w' : World) (Z : Nat → Prop) (t : Nat) (T T' : Tb) : Prop where
  q : T'.q = T.q
  made : T'.made = T.made + 1
  fs : ∃ g, w.heap.size ≤ g ∧ T'.fs = T.fs ++ [⟨(T.made : Int) + 1, g, 0, []⟩]
  X : ∀ k, T'.X t k → T.X t k ∨ w.heap.size ≤ k
  touch : Touch (T.X t) w w'
  tab : TabAt w' Z t T'
/-- Ahead of Make's last steps: the map is there. -/
theorem Made.of {w0 w w' : World} (h0 : TabAt w0 Z t T) (hok : T.Ok N) {b g : Nat} (ht0 : Touch (T.X t) w0 w) (hg0 : w0.heap.size ≤ g) (hb0 : T.mp = some b ∨ w0.heap.size ≤ b)
    (htop : w.heap[t]? = some (.cells #[.int .i64 T.q, .int .i64 ((T.made : Int) + 1), .map (some b)] 53 (0, 0)))
    (hfile : ∀ f ∈ T.fs, ∃ v, w.heap[f.g]? = some (.cells #[v, .int .i64 f.n] 59 (0, 0)) ∧ FileV w (fun k => T.X t k ∨ w0.heap.size ≤ k ∨ Z k) v f.m)
    (hgn : w.heap[g]? = some (.cells #[.slice none 0 0, .int .i64 0] 59 (0, 0)))
    (hown : w'.ownsMap Try.prog 3 RF b (T.fs.length + 1) ((datum T.fs).put (.int .i64 ((T.made : Int) + 1)) (dt (some g)))) (ht : Touch (fun k => k = b) w w') (hbw : w.ownsMap Try.prog 3 RF b T.fs.length (datum T.fs)) :
    ∃ T', Made w0 w' Z t T T' := by
  obtain ⟨es, clock, hbb, _⟩ := hbw
  have hne : ∀ r cs ty fr, w.heap[r]? = some (.cells cs ty fr) → ¬ r = b := fun r cs ty fr hr e => by rw [e, hbb] at hr; cases hr
  let x : Fi := ⟨(T.made : Int) + 1, g, 0, []⟩
  have hX : ∀ k, ({ q := T.q, made := T.made + 1, mp := some b, fs := T.fs ++ [x] } : Tb).X t k → T.X t k ∨ w0.heap.size ≤ k := by
    rintro k (e | e | ⟨f, hf, e⟩)
    · exact .inl (.inl e)
    · injection e with e
      rcases hb0 with h | h
      · exact .inl (.inr (.inl (by rw [h, e])))
      · exact .inr (by omega)
    · rw [List.mem_append, List.mem_singleton] at hf
      rcases hf with hf | rfl
      · exact .inl (.inr (.inr ⟨f, hf, e⟩))
      · exact .inr (by rw [e]; exact hg0)
  refine ⟨{ q := T.q, made := T.made + 1, mp := some b, fs := T.fs ++ [x] }, rfl, rfl, ⟨g, hg0, rfl⟩, hX, ht0.then_ ht fun k hk e => ?_, ?_⟩
  · rcases hb0 with h | h
    · exact .inr (.inl (by rw [h, e]))
    · omega
  · refine ⟨?_, fun b' hb' => ?_, fun hn => (by cases hn), fun f hf => ?_, ?_⟩
    · have := ht.heap (hne _ _ _ _ htop) htop
      rw [this]
      simp
    · injection hb' with hb'
      subst hb'
      have h1 := hown
      rw [datum_put (x := x) (fun f hf => by have := (hok.num f hf).2; show f.i < (T.made : Int) + 1; omega)] at h1
      rw [List.length_append]
      exact h1
    · rw [List.mem_append, List.mem_singleton] at hf
      rcases hf with hf | rfl
      · obtain ⟨v, hv, hF⟩ := hfile f hf
        refine ⟨v, ht.heap (hne _ _ _ _ hv) hv, ?_⟩
        have hF2 : FileV w' (fun k => T.X t k ∨ w0.heap.size ≤ k ∨ Z k) v f.m := hF.keep (ht.mono fun k _ e => by
          rcases hb0 with h | h
          · exact .inl (.inr (.inl (by rw [h, e])))
          · exact .inr (.inl (by omega)))
        refine hF2.mono fun k _ hk => ?_
        rcases hk with hk | hk
        · rcases hX k hk with h | h
          · exact .inl h
          · exact .inr (.inl h)
        · exact .inr (.inr hk)
      · exact ⟨_, ht.heap (hne _ _ _ _ hgn) hgn, FileV.nil _ _⟩
    · rw [List.pairwise_append]
      refine ⟨h0.dist, by simp, fun f hf y hy => ?_⟩
      rw [List.mem_singleton] at hy
      subst hy
      have := h0.lt (.inr (.inr ⟨f, hf, rfl⟩))
      show f.g ≠ g
      omega

set_option maxHeartbeats 2000000 in
set_option maxRecDepth 100000 in
theorem make_any (h : TabAt w Z t T) (hok : T.Ok N) (hN : N ≤ 998) :
    Calls Try.prog 9 #[.pointer (some ⟨t, 0, none⟩)] w fun e w' => e = .returned (.int .i64 ((T.made : Int) + 1)) ∧ ∃ T', Made w w' Z t T T' := by
  obtain ⟨c0, c1, c2⟩ := h.cells
  have hmI : (T.made : Int) ≤ 998 := by have := hok.made; omega
  have hm0 : (0 : Int) ≤ (T.made : Int) := by omega
  have H := Lib.hid h
  have Hok := Lib.hid hok
  have HN := Lib.hid hN
  have htl := Lib.hid (h.lt (.inl rfl))
  have Htop := Lib.hid h.top
  have hkey : Hid (keyOf Try.prog 3 (.int .i64 ((T.made : Int) + 1)) = some (.int .i64 ((T.made : Int) + 1))) := key_i (by omega)
  have hlen : Hid (T.fs.length < maxLen) := by show _ < _; have := hok.len; simp only [maxLen]; omega
  have fz : ∀ i, w.frozen? ⟨t, i, none⟩ = false := fun i => by unfold World.frozen?; rw [h.top]; simp
  obtain ⟨mp, hmp⟩ : ∃ mp, T.mp = mp := ⟨_, rfl⟩
  cases mp with
  | some b =>
    rw [hmp] at c2 Htop
    have Hown := Lib.hid (h.map b hmp)
    have Hmp := Lib.hid hmp
    obtain ⟨m, hm⟩ : ∃ m : Int, Hid ((T.made : Int) = m) := ⟨_, rfl⟩
    obtain ⟨W1, hW1⟩ : ∃ W1, Hid (w.setCell ⟨t, 1, none⟩ (.int .i64 (m + 1)) = W1) := ⟨_, rfl⟩
    have ht1 : Hid (Touch (fun k => k = t) w W1) := by rw [← hW1.out]; exact Touch.cell1 w t 1 _
    have htop1 : Hid (W1.heap[t]? = some (.cells #[.int .i64 T.q, .int .i64 (m + 1), .map (some b)] 53 (0, 0))) := by rw [← hW1.out]; exact heap_setCell_same w t 1 _ _ _ Htop.out
    have d1 : W1.cell? ⟨t, 1, none⟩ = some (.int .i64 (m + 1)) := by rw [cell_of_row W1 t 1 _ _ _ htop1.out]; rfl
    have d2 : W1.cell? ⟨t, 2, none⟩ = some (.map (some b)) := by rw [cell_of_row W1 t 2 _ _ _ htop1.out]; rfl
    obtain ⟨es, clock, hbb, _⟩ := h.map b hmp
    have hbt : ¬ b = t := fun e => by rw [e, h.top] at hbb; cases hbb
    have hown1 : Hid (W1.ownsMap Try.prog 3 RF b T.fs.length (datum T.fs)) := owns_touch (h.map b hmp) ht1.out hbt
    have hnil := run_eqMap (some b)
    simp only [Option.isNone_some] at hnil
    have D1 := Lib.hid d1
    have D2 := Lib.hid d2
    rw [hm.out] at c1 hmI hm0 hkey ⊢
    clear h hok hN hmp hbb hbt
    go_enter Try.func9, Try.ntmps9
    clear d1 d2
    go_upto_region 6 with fail
    rw [hW1.out]
    have d1 := D1.out
    have d2 := D2.out
    clear c0 c1 c2 fz
    obtain ⟨g, hg⟩ : ∃ g, Hid (W1.heap.size = g) := ⟨_, rfl⟩
    obtain ⟨W2, hW2⟩ : ∃ W2, Hid ((W1.alloc (.cells #[.slice none 0 0, .int .i64 0] 59)).drew = W2) := ⟨_, rfl⟩
    have hb2 : Hid (Below W1.heap.size W1 W2) := by rw [← hW2.out]; exact (below_new _ _).drew
    have hgn : Hid (W2.heap[g]? = some (.cells #[.slice none 0 0, .int .i64 0] 59 (0, 0))) := by rw [← hW2.out, ← hg.out]; exact heap_alloc_new _ _
    have hown2 : Hid (W2.ownsMap Try.prog 3 RF b T.fs.length (datum T.fs)) := owns_touch hown1.out (Touch.of (X := fun _ => False) hb2.out) fun e => e
    obtain ⟨w3, hrun, hown3, hg3⟩ := hown2.out.update keyI Try.underlying51 hlen.out hkey.out (RF_ptr (some g))
    have ht3 : Hid (Touch (fun k => k = b) W2 w3) := Touch.grown hg3 fun k e => by injection e with e; exact e.symm
    have htl1 : t < W1.heap.size := (Array.getElem?_eq_some_iff.1 htop1.out).1
    have e1 := (hb2.out.cell (p := ⟨t, 1, none⟩) htl1).trans d1
    have e2 := (hb2.out.cell (p := ⟨t, 2, none⟩) htl1).trans d2
    have f1 : w3.cell? ⟨t, 1, none⟩ = some (.int .i64 (m + 1)) := by
      refine (ht3.out.cell (p := ⟨t, 1, none⟩) (Nat.lt_of_lt_of_le htl1 hb2.out.size) fun e => ?_).trans e1
      obtain ⟨es', clock', hbb', _⟩ := hown1.out
      have h5 := htop1.out
      have e' : t = b := e
      rw [← e', h5] at hbb'
      cases hbb'
    simp only [ptr] at hrun
    have f2 : w3.cell? ⟨t, 2, none⟩ = some (.map (some b)) := by
      refine (ht3.out.cell (p := ⟨t, 2, none⟩) (Nat.lt_of_lt_of_le htl1 hb2.out.size) fun e => ?_).trans e2
      obtain ⟨es', clock', hbb', _⟩ := hown1.out
      have h5 := htop1.out
      have e' : t = b := e
      rw [← e', h5] at hbb'
      cases hbb'
    have Hfin : Hid (∃ T', Made w w3 Z t T T') := by
      have htw : Touch (T.X t) w W2 := (ht1.out.trans (Touch.of hb2.out)).mono fun k _ e => .inl e
      refine Made.of H.out Hok.out htw (by rw [← hg.out]; exact ht1.out.size) (.inl Hmp.out) (by rw [hm.out]; exact (hb2.out.block t htl1).trans htop1.out) (fun f hf => ?_) hgn.out (by rw [hm.out]; exact hown3) ht3.out hown2.out
      exact H.out.moved (ht1.out.trans (Touch.of hb2.out)) hf
    rw [← hW2.out, ← hg.out] at hrun
    rw [← hW2.out] at e1 e2
    clear hgn hown3 hg3
    go_region_held3 (fun wx => wx.cell? ⟨t, 1, none⟩ = some (.int .i64 (m + 1)) ∧ wx.cell? ⟨t, 2, none⟩ = some (.map (some b))) (first | exact ⟨d1, d2⟩ | exact ⟨e1, e2⟩ | exact ⟨f1, f2⟩) (fail)
    go_wp2
    go_ret
    exact ⟨rfl, Hfin.out⟩
  | none =>
    rw [hmp] at c2 Htop
    have Hmp := Lib.hid hmp
    obtain ⟨m, hm⟩ : ∃ m : Int, Hid ((T.made : Int) = m) := ⟨_, rfl⟩
    have hfs : T.fs = [] := h.non hmp
    obtain ⟨b, hb⟩ : ∃ b, Hid (w.heap.size = b) := ⟨_, rfl⟩
    obtain ⟨V0, hV0⟩ : ∃ V0, Hid (w.alloc (.map #[] 0) = V0) := ⟨_, rfl⟩
    have hbV : Hid (Below w.heap.size w V0) := by rw [← hV0.out]; exact below_new _ _
    have htopV : Hid (V0.heap[t]? = some (.cells #[.int .i64 T.q, .int .i64 m, .map none] 53 (0, 0))) := by rw [← hm.out]; exact (hbV.out.block t htl.out).trans Htop.out
    have hownV : Hid (V0.ownsMap Try.prog 3 RF b T.fs.length (datum T.fs)) := by
      rw [hfs, ← hV0.out, ← hb.out]
      exact World.ownsMap_made w Try.prog 3 RF
    obtain ⟨V1, hV1⟩ : ∃ V1, Hid (V0.setCell ⟨t, 2, none⟩ (.map (some b)) = V1) := ⟨_, rfl⟩
    have htV : Hid (Touch (fun k => k = t) V0 V1) := by rw [← hV1.out]; exact Touch.cell1 V0 t 2 _
    have htop2 : Hid (V1.heap[t]? = some (.cells #[.int .i64 T.q, .int .i64 m, .map (some b)] 53 (0, 0))) := by rw [← hV1.out]; exact heap_setCell_same V0 t 2 _ _ _ htopV.out
    obtain ⟨W1, hW1⟩ : ∃ W1, Hid (V1.setCell ⟨t, 1, none⟩ (.int .i64 (m + 1)) = W1) := ⟨_, rfl⟩
    have ht1' : Hid (Touch (fun k => k = t) V1 W1) := by rw [← hW1.out]; exact Touch.cell1 V1 t 1 _
    have ht1 : Hid (Touch (fun k => k = t) w W1) := (Touch.of hbV.out).trans (htV.out.trans ht1'.out)
    have htop1 : Hid (W1.heap[t]? = some (.cells #[.int .i64 T.q, .int .i64 (m + 1), .map (some b)] 53 (0, 0))) := by rw [← hW1.out]; exact heap_setCell_same V1 t 1 _ _ _ htop2.out
    have d1 : W1.cell? ⟨t, 1, none⟩ = some (.int .i64 (m + 1)) := by rw [cell_of_row W1 t 1 _ _ _ htop1.out]; rfl
    have d2 : W1.cell? ⟨t, 2, none⟩ = some (.map (some b)) := by rw [cell_of_row W1 t 2 _ _ _ htop1.out]; rfl
    have v1 : V1.cell? ⟨t, 1, none⟩ = some (.int .i64 m) := by rw [cell_of_row V1 t 1 _ _ _ htop2.out]; rfl
    have fV : V0.frozen? ⟨t, 2, none⟩ = false := by unfold World.frozen?; rw [htopV.out]; simp
    have cV : V0.cell? ⟨t, 2, none⟩ = some (.map none) := by rw [cell_of_row V0 t 2 _ _ _ htopV.out]; rfl
    have fV1 : V1.frozen? ⟨t, 1, none⟩ = false := by unfold World.frozen?; rw [htop2.out]; simp
    have hbt : ¬ b = t := fun e => by have := htl.out; have := hb.out; omega
    have hown1 : Hid (W1.ownsMap Try.prog 3 RF b T.fs.length (datum T.fs)) := owns_touch hownV.out (htV.out.trans ht1'.out) hbt
    have hnil := run_eqMap none
    simp only [Option.isNone_none] at hnil
    have hmk := fun w => run_makeMap (P := Try.prog) 51 w
    rw [← hV0.out] at cV fV
    have D1 := Lib.hid d1
    have D2 := Lib.hid d2
    rw [hm.out] at c1 hmI hm0 hkey ⊢
    clear h hok hN hmp hbt hfs
    go_enter Try.func9, Try.ntmps9
    clear d1 d2
    go_upto_region 5 with fail
    rw [hV0.out, hb.out, hV1.out]
    go_upto_region 6 with fail
    rw [hW1.out]
    have d1 := D1.out
    have d2 := D2.out
    clear c0 c1 c2 fz v1 fV cV fV1
    obtain ⟨g, hg⟩ : ∃ g, Hid (W1.heap.size = g) := ⟨_, rfl⟩
    obtain ⟨W2, hW2⟩ : ∃ W2, Hid ((W1.alloc (.cells #[.slice none 0 0, .int .i64 0] 59)).drew = W2) := ⟨_, rfl⟩
    have hb2 : Hid (Below W1.heap.size W1 W2) := by rw [← hW2.out]; exact (below_new _ _).drew
    have hgn : Hid (W2.heap[g]? = some (.cells #[.slice none 0 0, .int .i64 0] 59 (0, 0))) := by rw [← hW2.out, ← hg.out]; exact heap_alloc_new _ _
    have hown2 : Hid (W2.ownsMap Try.prog 3 RF b T.fs.length (datum T.fs)) := owns_touch hown1.out (Touch.of (X := fun _ => False) hb2.out) fun e => e
    obtain ⟨w3, hrun, hown3, hg3⟩ := hown2.out.update keyI Try.underlying51 hlen.out hkey.out (RF_ptr (some g))
    have ht3 : Hid (Touch (fun k => k = b) W2 w3) := Touch.grown hg3 fun k e => by injection e with e; exact e.symm
    have htl1 : t < W1.heap.size := (Array.getElem?_eq_some_iff.1 htop1.out).1
    have e1 := (hb2.out.cell (p := ⟨t, 1, none⟩) htl1).trans d1
    have e2 := (hb2.out.cell (p := ⟨t, 2, none⟩) htl1).trans d2
    have f1 : w3.cell? ⟨t, 1, none⟩ = some (.int .i64 (m + 1)) := by
      refine (ht3.out.cell (p := ⟨t, 1, none⟩) (Nat.lt_of_lt_of_le htl1 hb2.out.size) fun e => ?_).trans e1
      obtain ⟨es', clock', hbb', _⟩ := hown1.out
      have h5 := htop1.out
      have e' : t = b := e
      rw [← e', h5] at hbb'
      cases hbb'
    simp only [ptr] at hrun
    have f2 : w3.cell? ⟨t, 2, none⟩ = some (.map (some b)) := by
      refine (ht3.out.cell (p := ⟨t, 2, none⟩) (Nat.lt_of_lt_of_le htl1 hb2.out.size) fun e => ?_).trans e2
      obtain ⟨es', clock', hbb', _⟩ := hown1.out
      have h5 := htop1.out
      have e' : t = b := e
      rw [← e', h5] at hbb'
      cases hbb'
    have Hfin : Hid (∃ T', Made w w3 Z t T T') := by
      have htw : Touch (T.X t) w W2 := (ht1.out.trans (Touch.of hb2.out)).mono fun k _ e => .inl e
      refine Made.of H.out Hok.out htw (by rw [← hg.out]; exact ht1.out.size) (.inr (by rw [hb.out]; exact Nat.le_refl _)) (by rw [hm.out]; exact (hb2.out.block t htl1).trans htop1.out) (fun f hf => ?_) hgn.out (by rw [hm.out]; exact hown3) ht3.out hown2.out
      exact H.out.moved (ht1.out.trans (Touch.of hb2.out)) hf
    rw [← hW2.out, ← hg.out] at hrun
    rw [← hW2.out] at e1 e2
    clear hgn hown3 hg3
    go_region_held3 (fun wx => wx.cell? ⟨t, 1, none⟩ = some (.int .i64 (m + 1)) ∧ wx.cell? ⟨t, 2, none⟩ = some (.map (some b))) (first | exact ⟨d1, d2⟩ | exact ⟨e1, e2⟩ | exact ⟨f1, f2⟩) (fail)
    go_wp2
    go_ret
    exact ⟨rfl, Hfin.out⟩
end
end Go.Proofs.Ytlehkgogcbdckaa
