/- The walks of New and Make. Conditions: at most 1000 files. The walks of numbers and All. Conditions: at most 1000 files. Lists of two numbers each (a file's number, and how many names): as cells, read, and grown. Conditions: none. The walk of All. Conditions: at most 1000 files. -/
import Derived.Test.YtbhmnmmockmibaaGreatKkFtE
import Derived.Test.YtbhmnmmockmibaaGreatKkFdMath
import Derived.TacticsInMore
namespace Go.Proofs.YtbhmnmmockmibaaGreat
open Go.RowKit Go.Maps
theorem run_eqMap (m : Option Nat) (w : World) : (binOp .eql 78 (.map m) (.map none)).run Tryz.prog w = .ok (.bool m.isNone) w := by
  simp only [binOp]
  simp [run_equal_map_nil w _ _ _ m Tryz.underlying78]
section
variable {w : World} {Z : Nat → Prop} {t N : Nat} {T : Tb}
theorem TabAt.moved {w' : World} (h : TabAt w Z t T) (ht : Touch (fun k => k = t) w w') {f : Fi} (hf : f ∈ T.fs) : ∃ v, w'.heap[f.g]? = some (.cells #[v, .int .i64 f.n] 129 (0, 0)) ∧ FileV w' (fun k => T.X t k ∨ w.heap.size ≤ k ∨ Z k) v f.m := by
  obtain ⟨v, hv, hF⟩ := h.high.file f hf
  have hne : ¬ f.g = t := fun e => by
    have := h.top
    rw [← e, hv] at this
    injection this with this
    injection this with this _ _
    simp at this
  refine ⟨v, ht.heap hne hv, (hF.mono fun k _ hk => ?_).keep (ht.mono fun k _ e => .inl (.inl e))⟩
  rcases hk with hk | hk | hk
  · exact .inl hk
  · exact .inr (.inr hk)
  · exact .inr (.inl hk)
/-- What Make leaves. -/
structure Made (w w' : World) (Z : Nat → Prop) (t : Nat) (T T' : Tb) : Prop where
  pp : T'.pp = T.pp
  q : T'.q = T.q
  made : T'.made = T.made + 1
  fs : ∃ g, w.heap.size ≤ g ∧ T'.fs = T.fs ++ [⟨(T.made : Int) + 1, g, 0, []⟩]
  X : ∀ k, T'.X t k → T.X t k ∨ w.heap.size ≤ k
  touch : Touch (T.X t) w w'
  tab : TabAt w' Z t T'
/-- Ahead of Make's last steps: the map is there. -/
theorem Made.of {w0 w w' : World} (h0 : TabAt w0 Z t T) (hok : T.Ok N) {b g : Nat} (ht0 : Touch (T.X t) w0 w) (hg0 : w0.heap.size ≤ g) (hb0 : T.mp = some b ∨ w0.heap.size ≤ b)
    (htop : w.heap[t]? = some (.cells #[T.pp.nm, T.pp.pd, T.pp.m, T.pp.n, T.pp.tk, .int .i64 T.q, .int .i64 ((T.made : Int) + 1), .map (some b)] 84 (0, 0)))
    (hfile : ∀ f ∈ T.fs, ∃ v, w.heap[f.g]? = some (.cells #[v, .int .i64 f.n] 129 (0, 0)) ∧ FileV w (fun k => T.X t k ∨ w0.heap.size ≤ k ∨ Z k) v f.m)
    (hgn : w.heap[g]? = some (.cells #[.slice none 0 0, .int .i64 0] 129 (0, 0)))
    (hown : w'.ownsMap Tryz.prog 3 RF b (T.fs.length + 1) ((datum T.fs).put (.int .i64 ((T.made : Int) + 1)) (dt (some g)))) (ht : Touch (fun k => k = b) w w') (hbw : w.ownsMap Tryz.prog 3 RF b T.fs.length (datum T.fs)) :
    ∃ T', Made w0 w' Z t T T' := by
  obtain ⟨es, clock, hbb, _⟩ := hbw
  have hne : ∀ r cs ty fr, w.heap[r]? = some (.cells cs ty fr) → ¬ r = b := fun r cs ty fr hr e => by rw [e, hbb] at hr; cases hr
  let x : Fi := ⟨(T.made : Int) + 1, g, 0, []⟩
  have hX : ∀ k, ({ pp := T.pp, q := T.q, made := T.made + 1, mp := some b, fs := T.fs ++ [x] } : Tb).X t k → T.X t k ∨ w0.heap.size ≤ k := by
    rintro k (e | e | ⟨f, hf, e⟩)
    · exact .inl (.inl e)
    · injection e with e
      rcases hb0 with h | h
      · exact .inl (.inr (.inl (by rw [h, e])))
      · exact .inr (by omega)
    · rw [List.mem_append, List.mem_singleton] at hf
      rcases hf with hf | rfl
      · exact .inl (.inr (.inr ⟨f, hf, e⟩))
      · exact .inr (by rw [e]; exact hg0)
  refine ⟨{ pp := T.pp, q := T.q, made := T.made + 1, mp := some b, fs := T.fs ++ [x] }, rfl, rfl, rfl, ⟨g, hg0, rfl⟩, hX, ht0.then_ ht fun k hk e => ?_, ?_⟩
  · rcases hb0 with h | h
    · exact .inr (.inl (by rw [h, e]))
    · omega
  · refine ⟨?_, fun b' hb' => ?_, fun hn => (by cases hn), fun f hf => ?_, ?_⟩
    · have := ht.heap (hne _ _ _ _ htop) htop
      rw [this]
      simp
    · injection hb' with hb'
      subst hb'
      have h1 := hown
      rw [datum_put (x := x) (fun f hf => by have := (hok.num f hf).2; show f.i < (T.made : Int) + 1; omega)] at h1
      rw [List.length_append]
      exact h1
    · rw [List.mem_append, List.mem_singleton] at hf
      rcases hf with hf | rfl
      · obtain ⟨v, hv, hF⟩ := hfile f hf
        refine ⟨v, ht.heap (hne _ _ _ _ hv) hv, ?_⟩
        have hF2 : FileV w' (fun k => T.X t k ∨ w0.heap.size ≤ k ∨ Z k) v f.m := hF.keep (ht.mono fun k _ e => by
          rcases hb0 with h | h
          · exact .inl (.inr (.inl (by rw [h, e])))
          · exact .inr (.inl (by omega)))
        refine hF2.mono fun k _ hk => ?_
        rcases hk with hk | hk
        · rcases hX k hk with h | h
          · exact .inl h
          · exact .inr (.inl h)
        · exact .inr (.inr hk)
      · exact ⟨_, ht.heap (hne _ _ _ _ hgn) hgn, FileV.nil _ _⟩
    · rw [List.pairwise_append]
      refine ⟨h0.dist, by simp, fun f hf y hy => ?_⟩
      rw [List.mem_singleton] at hy
      subst hy
      have := h0.lt (.inr (.inr ⟨f, hf, rfl⟩))
      show f.g ≠ g
      omega
set_option maxHeartbeats 2000000 in
set_option maxRecDepth 100000 in
theorem make_any (h : TabAt w Z t T) (hok : T.Ok N) (hN : N ≤ 998) :
    Calls Tryz.prog 70 #[.pointer (some ⟨t, 5, none⟩)] w fun e w' => e = .returned (.int .i64 ((T.made : Int) + 1)) ∧ ∃ T', Made w w' Z t T T' := by
  obtain ⟨c0, c1, c2⟩ := h.cells
  have hmI : (T.made : Int) ≤ 998 := by have := hok.made; omega
  have hm0 : (0 : Int) ≤ (T.made : Int) := by omega
  have H := Lib.hid h
  have Hok := Lib.hid hok
  have HN := Lib.hid hN
  have htl := Lib.hid (h.lt (.inl rfl))
  have Htop := Lib.hid h.top
  have hkey : Hid (keyOf Tryz.prog 3 (.int .i64 ((T.made : Int) + 1)) = some (.int .i64 ((T.made : Int) + 1))) := key_i (by omega)
  have hlen : Hid (T.fs.length < maxLen) := by show _ < _; have := hok.len; simp only [maxLen]; omega
  have fz : ∀ i, w.frozen? ⟨t, i, none⟩ = false := fun i => by unfold World.frozen?; rw [h.top]; simp
  obtain ⟨mp, hmp⟩ : ∃ mp, T.mp = mp := ⟨_, rfl⟩
  cases mp with
  | some b =>
    rw [hmp] at c2 Htop
    have Hown := Lib.hid (h.map b hmp)
    have Hmp := Lib.hid hmp
    obtain ⟨m, hm⟩ : ∃ m : Int, Hid ((T.made : Int) = m) := ⟨_, rfl⟩
    obtain ⟨W1, hW1⟩ : ∃ W1, Hid (w.setCell ⟨t, 6, none⟩ (.int .i64 (m + 1)) = W1) := ⟨_, rfl⟩
    have ht1 : Hid (Touch (fun k => k = t) w W1) := by rw [← hW1.out]; exact Touch.cell1 w t 6 _
    have htop1 : Hid (W1.heap[t]? = some (.cells #[T.pp.nm, T.pp.pd, T.pp.m, T.pp.n, T.pp.tk, .int .i64 T.q, .int .i64 (m + 1), .map (some b)] 84 (0, 0))) := by rw [← hW1.out]; exact heap_setCell_same w t 6 _ _ _ Htop.out
    have d1 : W1.cell? ⟨t, 6, none⟩ = some (.int .i64 (m + 1)) := by rw [cell_of_row W1 t 6 _ _ _ htop1.out]; rfl
    have d2 : W1.cell? ⟨t, 7, none⟩ = some (.map (some b)) := by rw [cell_of_row W1 t 7 _ _ _ htop1.out]; rfl
    obtain ⟨es, clock, hbb, _⟩ := h.map b hmp
    have hbt : ¬ b = t := fun e => by rw [e, h.top] at hbb; cases hbb
    have hown1 : Hid (W1.ownsMap Tryz.prog 3 RF b T.fs.length (datum T.fs)) := owns_touch (h.map b hmp) ht1.out hbt
    have hnil := run_eqMap (some b)
    simp only [Option.isNone_some] at hnil
    have D1 := Lib.hid d1
    have D2 := Lib.hid d2
    rw [hm.out] at c1 hmI hm0 hkey ⊢
    clear h hok hN hmp hbb hbt
    go_enter Tryz.func70, Tryz.ntmps70
    clear d1 d2
    go_upto_region 6 with fail
    rw [hW1.out]
    have d1 := D1.out
    have d2 := D2.out
    clear c0 c1 c2 fz
    obtain ⟨g, hg⟩ : ∃ g, Hid (W1.heap.size = g) := ⟨_, rfl⟩
    obtain ⟨W2, hW2⟩ : ∃ W2, Hid ((W1.alloc (.cells #[.slice none 0 0, .int .i64 0] 129)).drew = W2) := ⟨_, rfl⟩
    have hb2 : Hid (Below W1.heap.size W1 W2) := by rw [← hW2.out]; exact (below_new _ _).drew
    have hgn : Hid (W2.heap[g]? = some (.cells #[.slice none 0 0, .int .i64 0] 129 (0, 0))) := by rw [← hW2.out, ← hg.out]; exact heap_alloc_new _ _
    have hown2 : Hid (W2.ownsMap Tryz.prog 3 RF b T.fs.length (datum T.fs)) := owns_touch hown1.out (Touch.of (X := fun _ => False) hb2.out) fun e => e
    obtain ⟨w3, hrun, hown3, hg3⟩ := hown2.out.update keyI Tryz.underlying78 hlen.out hkey.out (RF_ptr (some g))
    have ht3 : Hid (Touch (fun k => k = b) W2 w3) := Touch.grown hg3 fun k e => by injection e with e; exact e.symm
    have htl1 : t < W1.heap.size := (Array.getElem?_eq_some_iff.1 htop1.out).1
    have e1 := (hb2.out.cell (p := ⟨t, 6, none⟩) htl1).trans d1
    have e2 := (hb2.out.cell (p := ⟨t, 7, none⟩) htl1).trans d2
    have f1 : w3.cell? ⟨t, 6, none⟩ = some (.int .i64 (m + 1)) := by
      refine (ht3.out.cell (p := ⟨t, 6, none⟩) (Nat.lt_of_lt_of_le htl1 hb2.out.size) fun e => ?_).trans e1
      obtain ⟨es', clock', hbb', _⟩ := hown1.out
      have h5 := htop1.out
      have e' : t = b := e
      rw [← e', h5] at hbb'
      cases hbb'
    simp only [ptr] at hrun
    have f2 : w3.cell? ⟨t, 7, none⟩ = some (.map (some b)) := by
      refine (ht3.out.cell (p := ⟨t, 7, none⟩) (Nat.lt_of_lt_of_le htl1 hb2.out.size) fun e => ?_).trans e2
      obtain ⟨es', clock', hbb', _⟩ := hown1.out
      have h5 := htop1.out
      have e' : t = b := e
      rw [← e', h5] at hbb'
      cases hbb'
    have Hfin : Hid (∃ T', Made w w3 Z t T T') := by
      have htw : Touch (T.X t) w W2 := (ht1.out.trans (Touch.of hb2.out)).mono fun k _ e => .inl e
      refine Made.of H.out Hok.out htw (by rw [← hg.out]; exact ht1.out.size) (.inl Hmp.out) (by rw [hm.out]; exact (hb2.out.block t htl1).trans htop1.out) (fun f hf => ?_) hgn.out (by rw [hm.out]; exact hown3) ht3.out hown2.out
      exact H.out.moved (ht1.out.trans (Touch.of hb2.out)) hf
    rw [← hW2.out, ← hg.out] at hrun
    rw [← hW2.out] at e1 e2
    clear hgn hown3 hg3
    go_region_held3 (fun wx => wx.cell? ⟨t, 6, none⟩ = some (.int .i64 (m + 1)) ∧ wx.cell? ⟨t, 7, none⟩ = some (.map (some b))) (first | exact ⟨d1, d2⟩ | exact ⟨e1, e2⟩ | exact ⟨f1, f2⟩) (fail)
    go_wp2
    go_ret
    exact ⟨rfl, Hfin.out⟩
  | none =>
    rw [hmp] at c2 Htop
    have Hmp := Lib.hid hmp
    obtain ⟨m, hm⟩ : ∃ m : Int, Hid ((T.made : Int) = m) := ⟨_, rfl⟩
    have hfs : T.fs = [] := h.non hmp
    obtain ⟨b, hb⟩ : ∃ b, Hid (w.heap.size = b) := ⟨_, rfl⟩
    obtain ⟨V0, hV0⟩ : ∃ V0, Hid (w.alloc (.map #[] 0) = V0) := ⟨_, rfl⟩
    have hbV : Hid (Below w.heap.size w V0) := by rw [← hV0.out]; exact below_new _ _
    have htopV : Hid (V0.heap[t]? = some (.cells #[T.pp.nm, T.pp.pd, T.pp.m, T.pp.n, T.pp.tk, .int .i64 T.q, .int .i64 m, .map none] 84 (0, 0))) := by rw [← hm.out]; exact (hbV.out.block t htl.out).trans Htop.out
    have hownV : Hid (V0.ownsMap Tryz.prog 3 RF b T.fs.length (datum T.fs)) := by
      rw [hfs, ← hV0.out, ← hb.out]
      exact World.ownsMap_made w Tryz.prog 3 RF
    obtain ⟨V1, hV1⟩ : ∃ V1, Hid (V0.setCell ⟨t, 7, none⟩ (.map (some b)) = V1) := ⟨_, rfl⟩
    have htV : Hid (Touch (fun k => k = t) V0 V1) := by rw [← hV1.out]; exact Touch.cell1 V0 t 7 _
    have htop2 : Hid (V1.heap[t]? = some (.cells #[T.pp.nm, T.pp.pd, T.pp.m, T.pp.n, T.pp.tk, .int .i64 T.q, .int .i64 m, .map (some b)] 84 (0, 0))) := by rw [← hV1.out]; exact heap_setCell_same V0 t 7 _ _ _ htopV.out
    obtain ⟨W1, hW1⟩ : ∃ W1, Hid (V1.setCell ⟨t, 6, none⟩ (.int .i64 (m + 1)) = W1) := ⟨_, rfl⟩
    have ht1' : Hid (Touch (fun k => k = t) V1 W1) := by rw [← hW1.out]; exact Touch.cell1 V1 t 6 _
    have ht1 : Hid (Touch (fun k => k = t) w W1) := (Touch.of hbV.out).trans (htV.out.trans ht1'.out)
    have htop1 : Hid (W1.heap[t]? = some (.cells #[T.pp.nm, T.pp.pd, T.pp.m, T.pp.n, T.pp.tk, .int .i64 T.q, .int .i64 (m + 1), .map (some b)] 84 (0, 0))) := by rw [← hW1.out]; exact heap_setCell_same V1 t 6 _ _ _ htop2.out
    have d1 : W1.cell? ⟨t, 6, none⟩ = some (.int .i64 (m + 1)) := by rw [cell_of_row W1 t 6 _ _ _ htop1.out]; rfl
    have d2 : W1.cell? ⟨t, 7, none⟩ = some (.map (some b)) := by rw [cell_of_row W1 t 7 _ _ _ htop1.out]; rfl
    have v1 : V1.cell? ⟨t, 6, none⟩ = some (.int .i64 m) := by rw [cell_of_row V1 t 6 _ _ _ htop2.out]; rfl
    have fV : V0.frozen? ⟨t, 7, none⟩ = false := by unfold World.frozen?; rw [htopV.out]; simp
    have cV : V0.cell? ⟨t, 7, none⟩ = some (.map none) := by rw [cell_of_row V0 t 7 _ _ _ htopV.out]; rfl
    have fV1 : V1.frozen? ⟨t, 6, none⟩ = false := by unfold World.frozen?; rw [htop2.out]; simp
    have hbt : ¬ b = t := fun e => by have := htl.out; have := hb.out; omega
    have hown1 : Hid (W1.ownsMap Tryz.prog 3 RF b T.fs.length (datum T.fs)) := owns_touch hownV.out (htV.out.trans ht1'.out) hbt
    have hnil := run_eqMap none
    simp only [Option.isNone_none] at hnil
    have hmk := fun w => run_makeMap (P := Tryz.prog) 78 w
    rw [← hV0.out] at cV fV
    have D1 := Lib.hid d1
    have D2 := Lib.hid d2
    rw [hm.out] at c1 hmI hm0 hkey ⊢
    clear h hok hN hmp hbt hfs
    go_enter Tryz.func70, Tryz.ntmps70
    clear d1 d2
    go_upto_region 5 with fail
    rw [hV0.out, hb.out, hV1.out]
    go_upto_region 6 with fail
    rw [hW1.out]
    have d1 := D1.out
    have d2 := D2.out
    clear c0 c1 c2 fz v1 fV cV fV1
    obtain ⟨g, hg⟩ : ∃ g, Hid (W1.heap.size = g) := ⟨_, rfl⟩
    obtain ⟨W2, hW2⟩ : ∃ W2, Hid ((W1.alloc (.cells #[.slice none 0 0, .int .i64 0] 129)).drew = W2) := ⟨_, rfl⟩
    have hb2 : Hid (Below W1.heap.size W1 W2) := by rw [← hW2.out]; exact (below_new _ _).drew
    have hgn : Hid (W2.heap[g]? = some (.cells #[.slice none 0 0, .int .i64 0] 129 (0, 0))) := by rw [← hW2.out, ← hg.out]; exact heap_alloc_new _ _
    have hown2 : Hid (W2.ownsMap Tryz.prog 3 RF b T.fs.length (datum T.fs)) := owns_touch hown1.out (Touch.of (X := fun _ => False) hb2.out) fun e => e
    obtain ⟨w3, hrun, hown3, hg3⟩ := hown2.out.update keyI Tryz.underlying78 hlen.out hkey.out (RF_ptr (some g))
    have ht3 : Hid (Touch (fun k => k = b) W2 w3) := Touch.grown hg3 fun k e => by injection e with e; exact e.symm
    have htl1 : t < W1.heap.size := (Array.getElem?_eq_some_iff.1 htop1.out).1
    have e1 := (hb2.out.cell (p := ⟨t, 6, none⟩) htl1).trans d1
    have e2 := (hb2.out.cell (p := ⟨t, 7, none⟩) htl1).trans d2
    have f1 : w3.cell? ⟨t, 6, none⟩ = some (.int .i64 (m + 1)) := by
      refine (ht3.out.cell (p := ⟨t, 6, none⟩) (Nat.lt_of_lt_of_le htl1 hb2.out.size) fun e => ?_).trans e1
      obtain ⟨es', clock', hbb', _⟩ := hown1.out
      have h5 := htop1.out
      have e' : t = b := e
      rw [← e', h5] at hbb'
      cases hbb'
    simp only [ptr] at hrun
    have f2 : w3.cell? ⟨t, 7, none⟩ = some (.map (some b)) := by
      refine (ht3.out.cell (p := ⟨t, 7, none⟩) (Nat.lt_of_lt_of_le htl1 hb2.out.size) fun e => ?_).trans e2
      obtain ⟨es', clock', hbb', _⟩ := hown1.out
      have h5 := htop1.out
      have e' : t = b := e
      rw [← e', h5] at hbb'
      cases hbb'
    have Hfin : Hid (∃ T', Made w w3 Z t T T') := by
      have htw : Touch (T.X t) w W2 := (ht1.out.trans (Touch.of hb2.out)).mono fun k _ e => .inl e
      refine Made.of H.out Hok.out htw (by rw [← hg.out]; exact ht1.out.size) (.inr (by rw [hb.out]; exact Nat.le_refl _)) (by rw [hm.out]; exact (hb2.out.block t htl1).trans htop1.out) (fun f hf => ?_) hgn.out (by rw [hm.out]; exact hown3) ht3.out hown2.out
      exact H.out.moved (ht1.out.trans (Touch.of hb2.out)) hf
    rw [← hW2.out, ← hg.out] at hrun
    rw [← hW2.out] at e1 e2
    clear hgn hown3 hg3
    go_region_held3 (fun wx => wx.cell? ⟨t, 6, none⟩ = some (.int .i64 (m + 1)) ∧ wx.cell? ⟨t, 7, none⟩ = some (.map (some b))) (first | exact ⟨d1, d2⟩ | exact ⟨e1, e2⟩ | exact ⟨f1, f2⟩) (fail)
    go_wp2
    go_ret
    exact ⟨rfl, Hfin.out⟩
end
end Go.Proofs.YtbhmnmmockmibaaGreat

namespace Go.Proofs.YtbhmnmmockmibaaGreat
open Go.RowKit Go.Maps Go.Sort
theorem own_base {base base' size n : Nat} {w : World} {e : TypeId} {v : Value} {xs : List Value} (h : w.ownsRow base' e size v n xs) (hb : base ≤ base') : w.ownsRow base e size v n xs := by
  refine ⟨h.1, ?_⟩
  rcases h.2 with hn | ⟨g, cap, cur, rfl, hg, rest⟩
  · exact .inl hn
  · exact .inr ⟨g, cap, cur, rfl, Nat.le_trans hb hg, rest⟩
theorem sorts_in (m : Nat) : AnyZI.SortsIn Tryz.prog Tryz.laysSorted_ren Fence.wide m :=
  ⟨fun blk off cap ss W hH hblk hsz => callsIn_wide.2 (AnyM.slices_Sort_int Tryz.laysSort blk off cap ss W hH hblk hsz),
   fun p cap W => callsIn_wide.2 (AnyM.slices_Sort_int_none Tryz.laysSort p cap W)⟩
theorem keys_in (mb : Option Nat) (W : World) : CallsIn Fence.wide 5 Tryz.prog 96 #[.map mb] W fun e w' => e = .returned (.func (.func 118) #[] #[.pointer (some ⟨W.heap.size, 0, none⟩)]) ∧ w' = W.alloc (.cells #[.map mb] 78) := AnyZI.keys_in Tryz.laysKeys Fence.wide 5 trivial rfl mb W
section
variable {w : World} {Z : Nat → Prop} {t N : Nat} {T : Tb}
/-- The files' numbers, as cells. -/
def numC (fs : List Fi) : List Value := (fs.map Fi.i).map (Value.int .i64)
theorem sorted_nums {fs : List Fi} {ss : List Int} (hs : fs.Pairwise fun a b => a.i < b.i) (h : ss.Perm (fs.map Fi.i)) : (ss.mergeSort fun x y => decide (x ≤ y)) = fs.map Fi.i := by
  rw [show (fun x y : Int => decide (x ≤ y)) = leI from rfl, mergeSort_of_perm_i h]
  refine List.mergeSort_of_pairwise ?_
  rw [List.pairwise_map]
  exact hs.imp fun h => by simp only [leI, decide_eq_true_eq]; omega
set_option maxHeartbeats 2000000 in
set_option maxRecDepth 100000 in
theorem numbers_any (h : TabAt w Z t T) (hok : T.Ok N) (hN : N ≤ 1000) :
    Calls Tryz.prog 61 #[.pointer (some ⟨t, 5, none⟩)] w fun e w' => ∃ v, e = .returned v ∧ w'.ownsRow w.heap.size 3 1 v T.fs.length (numC T.fs) ∧ Below w.heap.size w w' := by
  obtain ⟨c0, c1, c2⟩ := h.cells
  have Hs := Lib.hid hok.sort
  have hlen : T.fs.length ≤ 1000 := Nat.le_trans hok.len hN
  have hfK : Fence.wide.fn 96 := trivial
  have hfS : Fence.wide.fn 95 := trivial
  refine (callsIn_wide (n := 6)).1 ?_
  obtain ⟨mp, hmp⟩ : ∃ mp, T.mp = mp := ⟨_, rfl⟩
  rw [hmp] at c2
  cases mp with
  | none =>
    have hnil : T.fs = [] := h.non hmp
    have hseq : SeqGives Fence.wide 2 Tryz.prog 118 #[.pointer (some ⟨w.heap.size, 0, none⟩)] encZ (fun ss : List Int => ss = []) 0 (w.alloc (.cells #[.map none] 78)) :=
      AnyZI.keys_gives_nil (ρ := Tryz.laysKeys_ren) { Tryz.laysKeys with } Fence.wide _ trivial rfl w.heap.size _ (by simp) (by simp)
    have cS := AnyZI.sorted_in Tryz.laysSorted Fence.wide 5 trivial trivial trivial trivial rfl (by omega) (sorts_in _) (enters_of Tryz.func117 (by kernel_rfl) rfl) 118 #[.pointer (some ⟨w.heap.size, 0, none⟩)] trivial (enters_of Tryz.func118 (by kernel_rfl) rfl) _ 0 (Nat.zero_le _) (by omega) _ hseq
    change CallsIn _ _ Tryz.prog 95 _ _ _ at cS
    have HcS := Lib.hid cS
    have Hnil := Lib.hid hnil
    clear h hok hseq cS hmp hnil
    refine callsIn_of_wp Tryz.func61 rfl trivial ?_ rfl
    simp only [Tryz.ntmps61, List.size_toArray, List.length_cons, List.length_nil, Nat.reduceAdd, Nat.reduceSub, Array.replicate_succ, Array.replicate_zero, List.push_toArray, List.append_toArray, List.nil_append, List.cons_append]
    gi_wp2_with (first
      | (gi_at_call 96; refine (keys_in _ _).mono ?_; rintro e w' ⟨rfl, rfl⟩)
      | (gi_at_call 95; refine HcS.out.mono ?_; rintro e w' ⟨v, ss, rfl, rfl, hrow, hnil, hb⟩; obtain rfl : v = .slice none 0 0 := hnil.2 rfl))
    go_ret
    refine ⟨_, rfl, ?_, (below_new _ _).trans (hb.mono (by simp))⟩
    rw [Hnil.out]
    exact World.ownsRow_nil _ _ _ _
  | some b =>
    have hown := h.map b hmp
    have hbl := hown.lt
    have hsz := datum_size T.fs
    have hseq : SeqGives Fence.wide 2 Tryz.prog 118 #[.pointer (some ⟨w.heap.size, 0, none⟩)] encZ (fun ss => ss.Perm (intKeys (datum T.fs))) (Maps.size (datum T.fs)) (w.alloc (.cells #[.map (some b)] 78)) :=
      AnyZI.keys_gives (ρ := Tryz.laysKeys_ren) { Tryz.laysKeys with } Fence.wide _ trivial rfl (by omega) w.heap.size b T.fs.length (datum T.fs) _ (by simp) (by simp) (by
        obtain ⟨es, clock, hb, Ft, hs, hD⟩ := hown
        exact ⟨es, clock, (Below.heap_alloc _ _ b hbl).trans hb, Ft, hs, hD⟩)
    have cS := AnyZI.sorted_in Tryz.laysSorted Fence.wide 5 trivial trivial trivial trivial rfl (by omega) (sorts_in _) (enters_of Tryz.func117 (by kernel_rfl) rfl) 118 #[.pointer (some ⟨w.heap.size, 0, none⟩)] trivial (enters_of Tryz.func118 (by kernel_rfl) rfl) _ _ (by rw [hsz]; simp only [maxLen]; omega) (by rw [hsz]; omega) _ hseq
    change CallsIn _ _ Tryz.prog 95 _ _ _ at cS
    have HcS := Lib.hid cS
    clear h hok hseq cS hmp hown hsz hbl
    refine callsIn_of_wp Tryz.func61 rfl trivial ?_ rfl
    simp only [Tryz.ntmps61, List.size_toArray, List.length_cons, List.length_nil, Nat.reduceAdd, Nat.reduceSub, Array.replicate_succ, Array.replicate_zero, List.push_toArray, List.append_toArray, List.nil_append, List.cons_append]
    gi_wp2_with (first
      | (gi_at_call 96; refine (keys_in _ _).mono ?_; rintro e w' ⟨rfl, rfl⟩)
      | (gi_at_call 95; refine HcS.out.mono ?_; rintro e w' ⟨v, ss, rfl, hS, hrow, hnil, hb⟩))
    go_ret
    refine ⟨_, rfl, ?_, (below_new _ _).trans (hb.mono (by simp))⟩
    rw [datum_keys] at hS
    have hl : ss.length = T.fs.length := by rw [hS.length_eq, List.length_map]
    rw [sorted_nums Hs.out hS, hl] at hrow
    exact own_base hrow (by simp)
end
end Go.Proofs.YtbhmnmmockmibaaGreat

namespace Go.Proofs.YtbhmnmmockmibaaGreat
open Go.RowKit
abbrev En := Int × Int
def enC (e : En) : List Value := [.int .i64 e.1, .int .i64 e.2]
def enV (e : En) : Value := .agg #[.int .i64 e.1, .int .i64 e.2]
def ecells (l : List En) : List Value := l.flatMap enC
theorem ecells_len (l : List En) : (ecells l).length = l.length * 2 := by
  induction l with
  | nil => rfl
  | cons f l ih =>
    unfold ecells at ih ⊢
    rw [List.flatMap_cons, List.length_append, ih, List.length_cons]
    simp [enC]
    omega
theorem ecells_append (a b : List En) : ecells (a ++ b) = ecells a ++ ecells b := by simp [ecells]
theorem ecells_split {l : List En} {k : Nat} {e : En} (h : l[k]? = some e) : ecells l = ecells (l.take k) ++ (enC e ++ ecells (l.drop (k + 1))) ∧ (ecells (l.take k)).length = k * 2 := by
  obtain ⟨hk, e'⟩ := List.getElem?_eq_some_iff.1 h
  constructor
  · conv => lhs; rw [← List.take_append_drop k l, List.drop_eq_getElem_cons hk, e']
    rw [ecells_append]
    rfl
  · rw [ecells_len, List.length_take]
    congr 1
    omega
theorem ecells_get {l : List En} {k : Nat} {e : En} (h : l[k]? = some e) : (ecells l)[k * 2]? = some (.int .i64 e.1) ∧ (ecells l)[k * 2 + 1]? = some (.int .i64 e.2) := by
  obtain ⟨hs, hl⟩ := ecells_split h
  rw [hs]
  constructor
  · rw [List.getElem?_append_right (by omega), hl, Nat.sub_self]; rfl
  · rw [List.getElem?_append_right (by omega), hl, show k * 2 + 1 - k * 2 = 1 by omega]; rfl
theorem ecells_one (l : List En) : ∀ u ∈ ecells l, u.oneCell' = true := by
  intro u hu
  unfold ecells at hu
  rw [List.mem_flatMap] at hu
  obtain ⟨p, _, hu⟩ := hu
  simp only [enC, List.mem_cons, List.not_mem_nil, or_false] at hu
  rcases hu with rfl | rfl <;> rfl
/-- Entries, as a slice value reads. -/
abbrev EnX (w : World) (X : Nat → Prop) (A : Option Addr) (l : List En) : Prop := RdX w X 2 A l.length (ecells l)
theorem EnX.at_ {w : World} {X : Nat → Prop} {A : Option Addr} {l : List En} {k : Nat} (h : EnX w X A l) (hk : k < l.length) :
    ∃ (ad : Addr) (e : En), A = some ad ∧ ad.block < w.heap.size ∧ ¬ X ad.block ∧ w.cell? (ad.add (k * 2)) = some (.int .i64 e.1) ∧ w.cell? ⟨(ad.add (k * 2)).block, (ad.add (k * 2)).off + 1, none⟩ = some (.int .i64 e.2) ∧ Hid (l[k]? = some e) := by
  obtain ⟨ad, e, hb, hx, hc⟩ := h.2 (by omega)
  have hr : l[k]? = some l[k] := List.getElem?_eq_getElem hk
  obtain ⟨h1, h2⟩ := ecells_get hr
  exact ⟨ad, _, e, hb, hx, hc _ _ h1, by rw [← padd_next]; exact hc _ _ h2, hr⟩
/-- A block that holds these entries, and room behind them. -/
def RowEn (w : World) (g : Nat) (e : TypeId) (xs : List En) (rest : List Value) : Prop := w.heap[g]? = some (.cells (ecells xs ++ rest).toArray e (0, 0))
theorem RowEn.lt {w : World} {g : Nat} {e : TypeId} {xs : List En} {rest : List Value} (h : RowEn w g e xs rest) : g < w.heap.size := (Array.getElem?_eq_some_iff.1 h).1
/-- A list of entries that the call owns. -/
abbrev OwnEn (e : TypeId) (base : Nat) (w : World) (v : Value) (xs : List En) : Prop := w.ownsRow base e 2 v xs.length (ecells xs)
theorem OwnEn.nil (e : TypeId) (base : Nat) (w : World) : OwnEn e base w (.slice none 0 0) [] := World.ownsRow_nil _ _ _ _
theorem OwnEn.form {e : TypeId} {base : Nat} {w : World} {v : Value} {xs : List En} (h : OwnEn e base w v xs) : (v = .slice none 0 0 ∧ xs = []) ∨ ∃ g cap rest, v = .slice (some ⟨g, 0, none⟩) xs.length cap ∧ base ≤ g ∧ RowEn w g e xs rest ∧ xs.length ≤ cap ∧ cap ≤ maxLen ∧ (ecells xs ++ rest).length = cap * 2 := by
  rcases h.2 with ⟨rfl, hn⟩ | ⟨g, cap, cur, rfl, hb, hg, hnc, hcm, hs, ht⟩
  · exact .inl ⟨rfl, List.eq_nil_of_length_eq_zero hn⟩
  · refine .inr ⟨g, cap, cur.toList.drop (xs.length * 2), rfl, hb, ?_, hnc, hcm, ?_⟩
    · unfold RowEn
      rw [← ht, List.take_append_drop, Array.toArray_toList]
      exact hg
    · rw [← ht, List.take_append_drop, Array.length_toList, hs]
theorem OwnEn.of {e : TypeId} {base : Nat} {w : World} {xs : List En} {g cap : Nat} {rest : List Value} (hb : base ≤ g) (h : RowEn w g e xs rest) (h1 : xs.length ≤ cap) (h2 : cap ≤ maxLen) (h3 : (ecells xs ++ rest).length = cap * 2) : OwnEn e base w (.slice (some ⟨g, 0, none⟩) xs.length cap) xs := by
  refine ⟨ecells_len xs, .inr ⟨g, cap, _, rfl, hb, h, h1, h2, by simpa using h3, ?_⟩⟩
  rw [← ecells_len]
  exact List.take_left
/-- A type of slices of entries. -/
def EnSl (t e : TypeId) : Prop := Tryz.prog.underlying t = some (.slice e) ∧ (Tryz.prog.info? e).map (fun i => (i.zero, i.size, i.bytes)) = some (some (.agg #[.int .i64 0, .int .i64 0]), 2, 16)
theorem enSl1 : EnSl 88 91 := ⟨Tryz.underlying88, by kernel_rfl⟩
section
variable {ops : Array Oper} {rest : List Oper} {o : Oper} {a : Act} {Q : Exit → Act → World → Prop} {w : World} {base : Nat} {v : Value}
/-- An entry behind a list of the call's own. -/
theorem push_en {t e : TypeId} (ht : EnSl t e) {N : Nat} (s x : Operand) {own : List En} (f : En) (hown : OwnEn e base w v own) (hbase : base ≤ w.heap.size) (hl : own.length ≤ 1099511627776)
    (hgd : o.guard = none) (ho : o.op = .call { callee := .builtin .append, args := #[s, x], argTypes := #[t, t] })
    (hs : a.eval s = v) (hx : a.eval x = .slice (some ⟨N, 0, none⟩) 1 1) (hN : w.heap.size = N)
    (h : ∀ v' w', OwnEn e base w' v' (own ++ [f]) → w.grownBy w' v.ownBlock → (v'.ownBlock = v.ownBlock ∨ v'.ownBlock = some (w.heap.size + 1)) → Below base w w' → wpList Tryz.prog ops Q rest (a.put o.dst v') w') :
    wpList Tryz.prog ops Q (o :: rest) a (w.alloc (.cells #[.int .i64 f.1, .int .i64 f.2] e)) := by
  subst hN
  obtain ⟨hu, hi⟩ := ht
  obtain ⟨i0, hi0, hz0, hz1, hz2⟩ := info_parts hi
  have hnew : Reads (w.alloc (.cells (ecells [f]).toArray e)) (w.heap.size + 1) 2 (some ⟨w.heap.size, 0, none⟩) 1 (ecells [f]) := by
    refine ⟨ecells_len [f], fun _ => ⟨_, rfl, by simp, fun j u hu => ?_⟩⟩
    rw [lit_add, Nat.zero_add, cell_of_row (w.alloc (.cells (ecells [f]).toArray e)) w.heap.size j (ecells [f]).toArray e (0, 0) (heap_alloc_new w _)]
    simpa using hu
  refine wpList_append_any _ hgd s x t ho base e i0 _ 2 16 hu hi0 hz0 hz1 hz2 rfl (by omega) v _ _ hs (hown.alloc _) (w.heap.size + 1) _ 1 1 (ecells [f]) hx hnew (ecells_one _) (by simp only [maxLen]; omega) (by omega) (by simp; omega) ?_
  intro v1 w1 h1 h2 h3
  have hb := ((Below.refl base w).alloc hbase _).trans (grown_below (hown.alloc (.cells (ecells [f]).toArray e)) h2 (by simp; omega))
  refine h v1 w1 ?_ ⟨h2.os, h2.tape, h2.output, Nat.le_trans (by simp) h2.size, fun k hk hne => (h2.block k (by simp; omega) hne).trans (heap_alloc_old w _ hk)⟩ (by simpa using h3) hb
  have h1' : OwnEn e base w1 v1 (own ++ [f]) := by
    unfold OwnEn
    rw [ecells_append, List.length_append]
    exact h1
  exact h1'
end
end Go.Proofs.YtbhmnmmockmibaaGreat

namespace Go.Proofs.YtbhmnmmockmibaaGreat
open Go.RowKit Go.Maps
def manyC (fs : List Fi) : List En := fs.map fun f => (f.i, f.n)
section
variable {w : World} {Z : Nat → Prop} {t N : Nat} {T : Tb}
theorem num_ok (hok : T.Ok N) (hN : N ≤ 1000) {f : Fi} (hf : f ∈ T.fs) : -9223372036854775808 ≤ f.i ∧ f.i ≤ 9223372036854775807 := by
  have h1 := hok.num f hf
  have h2 := hok.made
  omega
set_option maxHeartbeats 2000000 in
set_option maxRecDepth 100000 in
theorem all_any (h : TabAt w Z t T) (hok : T.Ok N) (hN : N ≤ 1000) :
    Calls Tryz.prog 28 #[.pointer (some ⟨t, 5, none⟩)] w fun e w' => ∃ v, e = .returned v ∧ OwnEn 91 w.heap.size w' v (manyC T.fs) ∧ Below w.heap.size w w' := by
  have Hc := Lib.hid (numbers_any h hok hN)
  have H := Lib.hid h
  have Hok := Lib.hid hok
  have HN := Lib.hid hN
  obtain ⟨n, hn⟩ : ∃ n, Hid (T.fs.length = n) := ⟨_, rfl⟩
  have hnI : (n : Int) ≤ 1000 := by have := hok.len; have := hn.out; omega
  rw [hn.out] at Hc
  clear h hok hN
  go_enter Tryz.func28, Tryz.ntmps28
  go_wp2_with (go_at_call 61; refine Hc.out.mono ?_; rintro e w1 ⟨v0, rfl, ho, hb⟩; obtain ⟨A, c, rfl, hc, _, hr⟩ := own_form ho)
  have Hr := Lib.hid hr
  have Hb := Lib.hid hb
  clear hr hb ho hc
  go_loopw [3, 9] (fun v i wr => ∃ k : Nat, k ≤ n ∧ i = .int .i64 (k : Int) ∧ OwnEn 91 w1.heap.size wr v ((manyC T.fs).take k) ∧ Below w1.heap.size w1 wr) (fun _ i _ => n - (Go.Lib.intOf i).toNat)
  case atStart => exact ⟨0, by omega, rfl, by exact OwnEn.nil _ _ _, .refl _ _⟩
  case round =>
    obtain ⟨k, hk, rfl, hown, hb2⟩ := hrel
    by_cases hlt : k < n
    · have hkl : k < T.fs.length := by rw [hn.out]; exact hlt
      obtain ⟨f, hf⟩ : ∃ f, T.fs[k]? = some f := ⟨_, List.getElem?_eq_getElem hkl⟩
      have hmem := List.mem_of_getElem? hf
      obtain ⟨ad, rfl, hab, hcell⟩ := Hr.out.2 (by omega)
      have hnk : (numC T.fs)[k]? = some (.int .i64 f.i) := by unfold numC; rw [List.getElem?_map, List.getElem?_map, hf]; rfl
      have hck := (hb2.cell (p := ad.add k) (by rw [block_of_add]; exact hab)).trans (hcell k _ hnk)
      have hz := num_ok Hok.out HN.out hmem
      have hfind := findF_at Hok.out.sort hf
      have hT := (H.out.below Hb.out).below hb2
      obtain ⟨c0, c1, c2⟩ := hT.cells
      have hl := hT.look hz
      rw [hfind] at hl
      simp only [Option.map_some, ptr] at hl
      obtain ⟨A', n', c', hv, hF⟩ := hT.filed hfind
      have cn := bx_cell1 hv
      have hen : Hid ((manyC T.fs)[k]? = some (f.i, f.n)) := by show _ = _; unfold manyC; rw [List.getElem?_map, hf]; rfl
      have Hown := Lib.hid hown
      have Hb2 := Lib.hid hb2
      obtain ⟨l, hle⟩ : ∃ l, Hid ((manyC T.fs).take k = l) := ⟨_, rfl⟩
      have hll : Hid (l.length ≤ 1099511627776) := by rw [← hle.out]; show _ ≤ _; rw [List.length_take]; omega
      rw [hle.out] at Hown
      generalize T.mp = mp at *
      generalize f.g = g at *
      generalize f.i = z at *
      generalize f.n = nn at *
      clear hv hF hT hown hb2 hcell hnk hf hmem hfind hkl
      go_wp2_with (at_builtin; refine push_en enSl1 (.tmp 13) (.tmp 25) (z, nn) Hown.out Hb2.out.size hll.out rfl rfl rfl rfl rfl ?_; intro v' w3 hown' hg3 hblk3 hb3)
      go_roundw
      case rel => exact ⟨k + 1, by omega, by go_num, by rw [take_snoc hen, hle.out]; exact hown', Hb2.out.trans hb3⟩
      case measure => simp [Go.Lib.intOf]; omega
    · obtain rfl : k = n := by omega
      go_wp2
      go_ret
      refine ⟨_, rfl, ?_, Hb.out.trans (hb2.mono Hb.out.size)⟩
      have hl : (manyC T.fs).length = k := by unfold manyC; rw [List.length_map, hn.out]
      rw [← hl, List.take_length] at hown
      exact own_base hown Hb.out.size
end
end Go.Proofs.YtbhmnmmockmibaaGreat
