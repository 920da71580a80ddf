/- The walks of the reference's with, and New. Conditions: at most 1000 files. The walks of the reference's Sync, Link, Bytes. Conditions: at most 1000 files. -/
import Derived.Test.YtbhmnmmockmibaaGreatKpFuA
namespace Go.Proofs.YtbhmnmmockmibaaGreat
open Go.RowKit
theorem three_set {w : World} {g : Nat} {x y z : Value} {t : TypeId} (a b c : Value) (h : w.heap[g]? = some (.cells #[x, y, z] t (0, 0))) : (((w.setCell ⟨g, 0, none⟩ a).setCell ⟨g, 1, none⟩ b).setCell ⟨g, 2, none⟩ c).heap[g]? = some (.cells #[a, b, c] t (0, 0)) := by
  have h0 := heap_setCell_same w g 0 _ t a h
  have h1 := heap_setCell_same _ g 1 _ t b h0
  have h2 := heap_setCell_same _ g 2 _ t c h1
  rw [h2]
  rfl
theorem three_set0 {w : World} {g : Nat} {x y z : Value} {t : TypeId} (a : Value) (h : w.heap[g]? = some (.cells #[x, y, z] t (0, 0))) : (w.setCell ⟨g, 0, none⟩ a).heap[g]? = some (.cells #[a, y, z] t (0, 0)) := by
  rw [heap_setCell_same w g 0 _ t a h]
  rfl
theorem Touch.cells3 (w : World) (g : Nat) (a b c : Value) : Touch (fun k => k = g) w (((w.setCell ⟨g, 0, none⟩ a).setCell ⟨g, 1, none⟩ b).setCell ⟨g, 2, none⟩ c) :=
  ((Touch.cell1 w g 0 a).trans (Touch.cell1 _ g 1 b)).trans (Touch.cell1 _ g 2 c)
theorem own_entry {w : World} {base b cap n k : Nat} {es : List Rv} {e x : Rv} (h : w.ownsRow base 139 3 (.slice (some ⟨b, 0, none⟩) n cap) n (rvcells es)) (hk : es[k]? = some e) :
    (((w.setCell ⟨b, k * 3, none⟩ (.int .i64 x.i)).setCell ⟨b, k * 3 + 1, none⟩ (.int .i64 x.n)).setCell ⟨b, k * 3 + 2, none⟩ (.slice x.A x.ps.length x.c)).ownsRow base 139 3 (.slice (some ⟨b, 0, none⟩) n cap) n (rvcells (es.set k x)) := by
  have h3 := (World.ownsRow.stored (World.ownsRow.stored (World.ownsRow.stored h (k * 3) (.int .i64 x.i)).1 (k * 3 + 1) (.int .i64 x.n)).1 (k * 3 + 2) (.slice x.A x.ps.length x.c)).1
  rw [rvcells_set x hk] at h3
  exact h3
theorem four_heap (w : World) (a b c d : Obj) : ((((w.alloc a).alloc b).alloc c).alloc d).heap.size = w.heap.size + 4 ∧ ((((w.alloc a).alloc b).alloc c).alloc d).heap[w.heap.size]? = some a ∧ ((((w.alloc a).alloc b).alloc c).alloc d).heap[w.heap.size + 1]? = some b ∧
    ((((w.alloc a).alloc b).alloc c).alloc d).heap[w.heap.size + 1 + 1]? = some c ∧ ((((w.alloc a).alloc b).alloc c).alloc d).heap[w.heap.size + 1 + 1 + 1]? = some d := by
  have s1 : (w.alloc a).heap.size = w.heap.size + 1 := World.size_alloc _ _
  have s2 : ((w.alloc a).alloc b).heap.size = w.heap.size + 1 + 1 := by rw [World.size_alloc, s1]
  have s3 : (((w.alloc a).alloc b).alloc c).heap.size = w.heap.size + 1 + 1 + 1 := by rw [World.size_alloc, s2]
  have s4 : ((((w.alloc a).alloc b).alloc c).alloc d).heap.size = w.heap.size + 1 + 1 + 1 + 1 := by rw [World.size_alloc, s3]
  have n1 := heap_alloc_new w a
  have n2 := heap_alloc_new (w.alloc a) b
  have n3 := heap_alloc_new ((w.alloc a).alloc b) c
  have n4 := heap_alloc_new (((w.alloc a).alloc b).alloc c) d
  rw [s1] at n2
  rw [s2] at n3
  rw [s3] at n4
  refine ⟨by omega, ?_, ?_, ?_, n4⟩
  · exact (heap_alloc_old _ _ (by omega)).trans ((heap_alloc_old _ _ (by omega)).trans ((heap_alloc_old _ _ (by omega)).trans n1))
  · exact (heap_alloc_old _ _ (by omega)).trans ((heap_alloc_old _ _ (by omega)).trans n2)
  · exact (heap_alloc_old _ _ (by omega)).trans n3
set_option maxHeartbeats 1000000 in
set_option maxRecDepth 100000 in
theorem rwith_any {X : Nat → Prop} {A : Option Addr} {c k : Nat} {es : List Rv} {x : Rv} {q l z : Int} {w : World} (hl : es.length ≤ 1000) (hr : RtX w X A es) (hx : PsX w X x.A x.ps) (hz : z = (k : Int)) (hk : k < es.length) :
    Calls Tryz.prog 84 #[.agg #[.slice A es.length c, .int .i64 q, .int .i64 l], .int .i64 z, .agg #[.int .i64 x.i, .int .i64 x.n, .slice x.A x.ps.length x.c]] w fun e w' => ∃ u, e = .returned u ∧ Below w.heap.size w w' ∧ RefT w' (AX w X) u ((es.set k x).map Rv.m) q l := by
  subst hz
  obtain ⟨nl, hnl⟩ : ∃ n, Hid (es.length = n) := ⟨_, rfl⟩
  have hnl1 : nl ≤ 1000 := by rw [← hnl.out]; exact hl
  have hk' : k < nl := by rw [← hnl.out]; exact hk
  rw [hnl.out]
  obtain ⟨i0, hi0, hz0, hz1, hz2⟩ := info_parts info_entry
  go_enter Tryz.func84, Tryz.ntmps84
  go_upto_region 2 with fail
  obtain ⟨W, hW⟩ : ∃ W, Hid ((((w.alloc (.cells #[.slice A nl c, .int .i64 q, .int .i64 l] 33)).alloc (.cells #[.int .i64 x.i, .int .i64 x.n, .slice x.A x.ps.length x.c] 139)).alloc (.cells #[.slice none 0 0, .int .i64 0, .int .i64 0] 33)).alloc (.cells #[.slice none 0 0, .int .i64 q, .int .i64 l] 33) = W) := ⟨_, rfl⟩
  obtain ⟨g0, hg0⟩ : ∃ g, Hid (w.heap.size = g) := ⟨_, rfl⟩
  obtain ⟨g1, hg1⟩ : ∃ g, Hid (w.heap.size + 1 = g) := ⟨_, rfl⟩
  obtain ⟨g2, hg2⟩ : ∃ g, Hid (w.heap.size + 1 + 1 = g) := ⟨_, rfl⟩
  obtain ⟨g3, hg3⟩ : ∃ g, Hid (w.heap.size + 1 + 1 + 1 = g) := ⟨_, rfl⟩
  have hb1 : Hid (Below w.heap.size w W) := by rw [← hW.out]; exact (((below_new _ _).alloc (by simp) _).alloc (by simp; omega) _).alloc (by simp; omega) _
  have h4 := four_heap w (.cells #[.slice A nl c, .int .i64 q, .int .i64 l] 33) (.cells #[.int .i64 x.i, .int .i64 x.n, .slice x.A x.ps.length x.c] 139) (.cells #[.slice none 0 0, .int .i64 0, .int .i64 0] 33) (.cells #[.slice none 0 0, .int .i64 q, .int .i64 l] 33)
  rw [hW.out, hg3.out, hg2.out, hg1.out, hg0.out] at h4
  obtain ⟨hsW, hc0, hc1, hc2, hc3⟩ := h4
  have hsW := Lib.hid hsW
  have hc0 := Lib.hid hc0
  have hc1 := Lib.hid hc1
  have hc2 := Lib.hid hc2
  have hc3 := Lib.hid hc3
  rw [hW.out, hg3.out, hg2.out, hg1.out, hg0.out]
  have Hr := Lib.hid (hr.below hb1.out)
  have hr0 := Lib.hid hr
  have hx0 := Lib.hid hx
  have Hx := Lib.hid (hx.below hb1.out)
  have c0 := three_cell hc0.out
  have c3 := three_cell hc3.out
  have f3 := three_frozen (i := 0) hc3.out
  clear hr hx hk hl
  go_upto_region 3 with (at_builtin; refine wpList_append_any _ rfl (.tmp 14) (.tmp 16) 31 rfl W.heap.size 139 i0 _ 3 40 Tryz.underlying31 hi0 hz0 hz1 hz2 rfl (by omega) (.slice none 0 0) 0 [] rfl (World.ownsRow_nil _ _ _ _) W.heap.size A nl c (rvcells es) rfl (by rw [← hnl.out]; exact RdX.reads Hr.out.top) (rvcells_one _) (by simp only [maxLen]; omega) (by omega) (Nat.le_refl _) ?_; intro v1 w3 hown1 hgr3 hblk3; have hb3 : Below W.heap.size W w3 := Below.grown (.refl _ _) hgr3 (Nat.le_refl _) fun k e => (by cases e); clear hgr3 hblk3; rw [List.nil_append, Nat.zero_add] at hown1; have d3 := three_cell ((hb3.block _ (Array.getElem?_eq_some_iff.1 hc3.out).1).trans hc3.out); have e3 := three_frozen (i := 0) ((hb3.block _ (Array.getElem?_eq_some_iff.1 hc3.out).1).trans hc3.out); obtain ⟨A1, k1, rfl, hk1, _⟩ := own_form hown1)
  have HO := Lib.hid hown1
  have Hb3 := Lib.hid hb3
  clear d3 e3 hown1 hb3
  have k0 : Hid (w3.heap[g1]? = some (.cells #[.int .i64 x.i, .int .i64 x.n, .slice x.A x.ps.length x.c] 139 (0, 0))) := (Hb3.out.block _ (Array.getElem?_eq_some_iff.1 hc1.out).1).trans hc1.out
  have b3 : Hid (w3.heap[g3]? = some (.cells #[.slice none 0 0, .int .i64 q, .int .i64 l] 33 (0, 0))) := (Hb3.out.block _ (Array.getElem?_eq_some_iff.1 hc3.out).1).trans hc3.out
  have n13 : g1 ≠ g3 := by rw [← hg1.out, ← hg3.out]; omega
  obtain ⟨W4, hW4⟩ : ∃ W', Hid (w3.setCell ⟨g3, 0, none⟩ (.slice A1 nl k1) = W') := ⟨_, rfl⟩
  have hT4 : Hid (Touch (fun k => k = g3) w3 W4) := by rw [← hW4.out]; exact Touch.cell1 _ _ _ _
  have b4 : Hid (W4.heap[g3]? = some (.cells #[.slice A1 nl k1, .int .i64 q, .int .i64 l] 33 (0, 0))) := by rw [← hW4.out]; exact three_set0 _ b3.out
  have k4 := hT4.out.heap n13 k0.out
  have hg3W : g3 < W.heap.size := (Array.getElem?_eq_some_iff.1 hc3.out).1
  have hO4 := own_touch HO.out hT4.out fun b hb e => by have := (HO.out.lt b hb).1; omega
  rw [hW4.out]
  clear hW4
  obtain ⟨b, cap, e1, hbW, hbw4⟩ := hO4.form (by omega)
  injection e1 with e1 _ e2
  subst e1
  subst e2
  have hO4 := Lib.hid hO4
  have p4 := three_cell b4.out
  have q4 := three_cell k4
  have r0 := hO4.out.frozenAt (k * 3)
  have r1 := hO4.out.frozenAt (k * 3 + 1)
  have r2 := hO4.out.frozenAt (k * 3 + 2)
  obtain ⟨ek, hek⟩ : ∃ e, Hid (es[k]? = some e) := ⟨es[k]'(by have := hnl.out; omega), List.getElem?_eq_getElem _⟩
  have s0 := (hO4.out.cellAt (k * 3) (by omega)).trans (rvcells_get hek.out (j := 0) (by omega))
  have s1 := (hO4.out.cellAt (k * 3 + 1) (by omega)).trans (rvcells_get hek.out (j := 1) (by omega))
  have s2 := (hO4.out.cellAt (k * 3 + 2) (by omega)).trans (rvcells_get hek.out (j := 2) (by omega))
  simp only [Rv.cs] at s0 s1 s2
  go_upto_region 4 with fail
  obtain ⟨W5, hW5⟩ : ∃ W', Hid ((((W4.setCell ⟨b, k * 3, none⟩ (.int .i64 x.i)).setCell ⟨b, k * 3 + 1, none⟩ (.int .i64 x.n)).setCell ⟨b, k * 3 + 2, none⟩ (.slice x.A x.ps.length x.c)) = W') := ⟨_, rfl⟩
  have hO5 : Hid (W5.ownsRow W.heap.size 139 3 (.slice (some ⟨b, 0, none⟩) nl k1) nl (rvcells (es.set k x))) := by rw [← hW5.out]; exact own_entry hO4.out hek.out
  have hT5 : Hid (Touch (fun j => j = b) W4 W5) := by
    rw [← hW5.out]
    exact ((Touch.cell1 W4 b _ _).trans (Touch.cell1 _ b _ _)).trans (Touch.cell1 _ b _ _)
  rw [hW5.out]
  have b5 := Lib.hid (hT5.out.heap (show ¬ g3 = b by omega) b4.out)
  have hg2W : g2 < W.heap.size := (Array.getElem?_eq_some_iff.1 hc2.out).1
  have n23 : g2 ≠ g3 := by rw [← hg2.out, ← hg3.out]; omega
  have a5 : Hid (W5.heap[g2]? = some (.cells #[.slice none 0 0, .int .i64 0, .int .i64 0] 33 (0, 0))) := hT5.out.heap (show ¬ g2 = b by omega) (hT4.out.heap n23 ((Hb3.out.block _ hg2W).trans hc2.out))
  have b5c := three_cell b5.out
  have a5c := three_cell a5.out
  have a50 := three_frozen (i := 0) a5.out
  have a51 := three_frozen (i := 1) a5.out
  have a52 := three_frozen (i := 2) a5.out
  clear s0 s1 s2 r0 r1 r2 p4 q4
  go_wp2
  have hz := three_set (.slice (some ⟨b, 0, none⟩) nl k1) (.int .i64 q) (.int .i64 l) a5.out
  refine ret_tab1 rfl g2 _ _ _ _ (0, 0) rfl hz rfl ?_
  have hT6 := Touch.cells3 W5 g2 (.slice (some ⟨b, 0, none⟩) nl k1) (.int .i64 q) (.int .i64 l)
  have hTW : Touch (fun j => w.heap.size ≤ j) W W5 := ((Touch.of Hb3.out).trans (hT4.out.mono fun j _ e => by rw [e, ← hg3.out]; omega)).trans (hT5.out.mono fun j _ e => by rw [e]; have := hb1.out.size; omega)
  have hTw : Touch (fun j => w.heap.size ≤ j) W _ := hTW.trans (hT6.mono fun j _ e => by rw [e, ← hg2.out]; omega)
  have hbw : Below w.heap.size w _ := hb1.out.trans (hTw.below hb1.out.size fun j h => h)
  refine ⟨_, rfl, hbw, ⟨_, _, es.set k x, by rw [List.length_set, hnl.out], ⟨?_, ?_⟩, by simp⟩⟩
  · have ho := own_touch hO5.out hT6 fun j hj (e : j = g2) => by have hbj : b = j := Option.some.inj hj; have h1 : W.heap.size ≤ b := hbW; have h2 : g2 < W.heap.size := hg2W; rw [hbj, e] at h1; exact Nat.lt_irrefl _ (Nat.lt_of_lt_of_le h2 h1)
    have hR := own_avoid (X := AX w X) ho fun j (e : j < w.heap.size ∧ X j) => Nat.lt_of_lt_of_le e.1 hb1.out.size
    rw [List.length_set, hnl.out]
    exact hR
  · intro e he
    rcases List.mem_or_eq_of_mem_set he with h | h
    · exact ((hr0.out.file e h).below hbw).mono fun j _ (e : j < w.heap.size ∧ X j) => e.2
    · rw [h]; exact (hx0.out.below hbw).mono fun j _ (e : j < w.heap.size ∧ X j) => e.2
end Go.Proofs.YtbhmnmmockmibaaGreat

namespace Go.Proofs.YtbhmnmmockmibaaGreat
open Go.RowKit
theorem three_set2 {w : World} {g : Nat} {x y z : Value} {t : TypeId} (a : Value) (h : w.heap[g]? = some (.cells #[x, y, z] t (0, 0))) : (w.setCell ⟨g, 2, none⟩ a).heap[g]? = some (.cells #[x, y, a] t (0, 0)) := by
  rw [heap_setCell_same w g 2 _ t a h]
  rfl
theorem three_set1 {w : World} {g : Nat} {x y z : Value} {t : TypeId} (a : Value) (h : w.heap[g]? = some (.cells #[x, y, z] t (0, 0))) : (w.setCell ⟨g, 1, none⟩ a).heap[g]? = some (.cells #[x, a, z] t (0, 0)) := by
  rw [heap_setCell_same w g 1 _ t a h]
  rfl
theorem two_heap (w : World) (a b : Obj) : ((w.alloc a).alloc b).heap.size = w.heap.size + 2 ∧ ((w.alloc a).alloc b).heap[w.heap.size]? = some a ∧ ((w.alloc a).alloc b).heap[w.heap.size + 1]? = some b := by
  have s1 : (w.alloc a).heap.size = w.heap.size + 1 := World.size_alloc _ _
  have s2 : ((w.alloc a).alloc b).heap.size = w.heap.size + 1 + 1 := by rw [World.size_alloc, s1]
  have n1 := heap_alloc_new w a
  have n2 := heap_alloc_new (w.alloc a) b
  rw [s1] at n2
  exact ⟨by omega, (heap_alloc_old _ _ (by omega)).trans n1, n2⟩
theorem Rm_get {es : List Rv} {k : Nat} {x : Rv} (h : es[k]? = some x) : (es.map Rv.m)[k]? = some x.m := by rw [List.getElem?_map, h]; rfl
theorem map_set_m (es : List Rv) (k : Nat) (x : Rv) : (es.set k x).map Rv.m = (es.map Rv.m).set k x.m := by simp
theorem ne_of_all {es : List Rv} {z : Int} (h : ∀ x ∈ es, x.i ≠ z) : ∀ x ∈ es.map Rv.m, x.i ≠ z := by
  intro x hx
  obtain ⟨e, he, rfl⟩ := List.mem_map.1 hx
  exact h e he
structure Bx (w W : World) (g0 g1 : Nat) (a b c : Value) : Prop where
  s0 : w.heap.size = g0
  s1 : w.heap.size + 1 = g1
  size : W.heap.size = w.heap.size + 2
  below : Below w.heap.size w W
  c0 : W.heap[g0]? = some (.cells #[a, b, c] 33 (0, 0))
  c1 : W.heap[g1]? = some (.cells #[.slice none 0 0, .int .i64 0, .int .i64 0] 33 (0, 0))
theorem Bx.mk' (w : World) (a b c : Value) : Bx w ((w.alloc (.cells #[a, b, c] 33)).alloc (.cells #[.slice none 0 0, .int .i64 0, .int .i64 0] 33)) w.heap.size (w.heap.size + 1) a b c := by
  have h := two_heap w (.cells #[a, b, c] 33) (.cells #[.slice none 0 0, .int .i64 0, .int .i64 0] 33)
  exact ⟨rfl, rfl, h.1, (below_new _ _).alloc (by simp) _, h.2.1, h.2.2⟩
theorem Bx.of {w W : World} {g0 g1 : Nat} {a b c : Value} (hW : (w.alloc (.cells #[a, b, c] 33)).alloc (.cells #[.slice none 0 0, .int .i64 0, .int .i64 0] 33) = W) (h0 : w.heap.size = g0) (h1 : w.heap.size + 1 = g1) : Bx w W g0 g1 a b c := by
  subst hW h0 h1
  exact Bx.mk' w a b c
section
variable {w W wx : World} {g0 g1 : Nat} {a b c : Value}
theorem Bx.at0 (h : Bx w W g0 g1 a b c) (hb : Below W.heap.size W wx) : wx.heap[g0]? = some (.cells #[a, b, c] 33 (0, 0)) := (hb.block _ (Array.getElem?_eq_some_iff.1 h.c0).1).trans h.c0
theorem Bx.at1 (h : Bx w W g0 g1 a b c) (hb : Below W.heap.size W wx) : wx.heap[g1]? = some (.cells #[.slice none 0 0, .int .i64 0, .int .i64 0] 33 (0, 0)) := (hb.block _ (Array.getElem?_eq_some_iff.1 h.c1).1).trans h.c1
theorem Bx.old (h : Bx w W g0 g1 a b c) (hb : Below W.heap.size W wx) : Below w.heap.size w wx := h.below.trans (hb.mono (by have := h.size; omega))
theorem Bx.fin (h : Bx w W g0 g1 a b c) (hb : Below W.heap.size W wx) (x y z : Value) : Below w.heap.size w (((wx.setCell ⟨g1, 0, none⟩ x).setCell ⟨g1, 1, none⟩ y).setCell ⟨g1, 2, none⟩ z) := by
  have h1 := h.old hb
  exact h1.trans ((Touch.cells3 wx g1 x y z).below h1.size fun j (e : j = g1) => by rw [e, ← h.s1]; omega)
abbrev AY (w W : World) (X : Nat → Prop) : Nat → Prop := fun b => b < W.heap.size ∧ (X b ∨ w.heap.size ≤ b)
theorem RdX.high' {X : Nat → Prop} {size n : Nat} {A : Option Addr} {xs : List Value} (h : RdX w X size A n xs) : RdX w (fun b => X b ∨ w.heap.size ≤ b) size A n xs :=
  ⟨h.1, fun hn => by
    obtain ⟨ad, e, hb, hx, hc⟩ := h.2 hn
    exact ⟨ad, e, hb, fun hx' => hx'.elim hx (fun h => by omega), hc⟩⟩
theorem RtX.high {X : Nat → Prop} {A : Option Addr} {es : List Rv} (h : RtX w X A es) : RtX w (fun b => X b ∨ w.heap.size ≤ b) A es := ⟨h.top.high', fun e he => ⟨(h.file e he).top.high', fun p hp => ((h.file e he).row p hp).high'⟩⟩
theorem Bx.start {X : Nat → Prop} {A : Option Addr} {es : List Rv} (h : Bx w W g0 g1 a b c) (hr : RtX w X A es) : RtX W (AY w W X) A es := (hr.high.below h.below).mono fun _ _ (e : AY w W X _) => e.2
theorem Bx.ans {X : Nat → Prop} {v : Value} {M : List Rm} {q l : Int} (h : Bx w W g0 g1 a b c) (hR : RefT wx (AY w W X) v M q l) (x y z : Value) :
    RefT (((wx.setCell ⟨g1, 0, none⟩ x).setCell ⟨g1, 1, none⟩ y).setCell ⟨g1, 2, none⟩ z) (AX w X) v M q l := by
  have e1 := h.s1
  have e2 := h.size
  refine (hR.keep ((Touch.cells3 wx g1 x y z).mono fun j _ (e : j = g1) => ?_)).mono fun j _ (e : j < w.heap.size ∧ X j) => ?_
  · exact ⟨by omega, .inr (by omega)⟩
  · exact ⟨by have := e.1; omega, .inl e.2⟩
end
theorem rfind_n {X : Nat → Prop} {A : Option Addr} {c n : Nat} {es : List Rv} {q l z : Int} {w : World} (hn : es.length = n) (hl : n ≤ 1000) (hr : RtX w X A es) :
    Calls Tryz.prog 82 #[.agg #[.slice A n c, .int .i64 q, .int .i64 l], .int .i64 z] w fun e w' => ∃ r : Int, e = .returned (.int .i64 r) ∧ Below w.heap.size w w' ∧ ((r = -1 ∧ ∀ x ∈ es, x.i ≠ z) ∨ ∃ (k : Nat) (x : Rv), r = (k : Int) ∧ es[k]? = some x ∧ x.i = z) := by
  subst hn
  exact rfind_any hl hr
theorem rwith_n {X : Nat → Prop} {A A' : Option Addr} {c c' k n n' : Nat} {i m : Int} {es : List Rv} {ps : List Pa} {q l : Int} {w : World} (hn : es.length = n) (hl : n ≤ 1000) (hr : RtX w X A es) (hn' : ps.length = n') (hx : PsX w X A' ps) (hk : k < n) :
    Calls Tryz.prog 84 #[.agg #[.slice A n c, .int .i64 q, .int .i64 l], .int .i64 (k : Int), .agg #[.int .i64 i, .int .i64 m, .slice A' n' c']] w fun e w' => ∃ u, e = .returned u ∧ Below w.heap.size w w' ∧ RefT w' (AX w X) u ((es.map Rv.m).set k ⟨i, m, says ps⟩) q l := by
  subst hn hn'
  have h := rwith_any (c := c) (x := ⟨i, m, A', c', ps⟩) (q := q) (l := l) hl hr hx rfl hk
  rw [map_set_m] at h
  exact h
theorem rsync_n {X : Nat → Prop} {A : Option Addr} {c n : Nat} {ps : List Pa} {w : World} (hn : ps.length = n) (hs : SmM (says ps)) (hr : PsX w X A ps) :
    Calls Tryz.prog 85 #[.agg #[.slice A n c]] w fun e w' => ∃ A' c' n' ps', e = .returned (.agg #[.slice A' n' c']) ∧ Below w.heap.size w w' ∧ List.length ps' = n' ∧ PsX w' (XW w) A' ps' ∧ says ps' = syncM (says ps) := by
  subst hn
  refine (rsync_any hs hr).mono ?_
  rintro e w' ⟨v, rfl, hb, A', c', ps', rfl, _, hp, hm⟩
  exact ⟨A', c', _, ps', rfl, hb, rfl, hp, hm⟩
set_option maxHeartbeats 1000000 in
set_option maxRecDepth 100000 in
theorem rsyncT_any {X : Nat → Prop} {v : Value} {M : List Rm} {q l z : Int} {w : World} (hl : M.length ≤ 1000) (hs : ∀ x ∈ M, SmM x.m) (hr : RefT w X v M q l) :
    Calls Tryz.prog 47 #[v, .int .i64 z] w fun e w' => ∃ u er, e = .returned (.tuple #[u, .int .i64 er]) ∧ Below w.heap.size w w' ∧ ((er = 80 ∧ (∀ x ∈ M, x.i ≠ z) ∧ RefT w' (AX w X) u M q l) ∨ (er = 0 ∧ ∃ k x, M[k]? = some x ∧ x.i = z ∧ RefT w' (AX w X) u (M.set k ⟨x.i, x.n, syncM x.m⟩) q l)) := by
  obtain ⟨A, c, es, rfl, h1, rfl⟩ := hr
  rw [List.length_map] at hl
  obtain ⟨nl, hnl⟩ : ∃ n, Hid (es.length = n) := ⟨_, rfl⟩
  have hl2 : Hid (nl ≤ 1000) := by rw [← hnl.out]; exact hl
  have Hs := Lib.hid hs
  rw [hnl.out]
  obtain ⟨W, hW⟩ : ∃ W, Hid ((w.alloc (.cells #[.slice A nl c, .int .i64 q, .int .i64 l] 33)).alloc (.cells #[.slice none 0 0, .int .i64 0, .int .i64 0] 33) = W) := ⟨_, rfl⟩
  obtain ⟨g0, hg0⟩ : ∃ g, Hid (w.heap.size = g) := ⟨_, rfl⟩
  obtain ⟨g1, hg1⟩ : ∃ g, Hid (w.heap.size + 1 = g) := ⟨_, rfl⟩
  have HB := Lib.hid (Bx.of hW.out hg0.out hg1.out)
  have Hr := Lib.hid (HB.out.start h1)
  have c0 := three_cell HB.out.c0
  clear h1 hl hs
  go_enter Tryz.func47, Tryz.ntmps47
  go_upto_region 1 with fail
  rw [hW.out, hg1.out, hg0.out]
  go_upto_region 2 with (go_at_call 82; refine (rfind_n hnl.out hl2.out Hr.out).mono ?_; rintro e w1 ⟨r, rfl, hb1, hcase⟩)
  have Hb1 := Lib.hid hb1
  have k0 := three_cell (HB.out.at0 Hb1.out)
  have k1 := three_cell (HB.out.at1 Hb1.out)
  have k2 := three_frozen (i := 0) (HB.out.at1 Hb1.out)
  have k3 := three_frozen (i := 1) (HB.out.at1 Hb1.out)
  have k4 := three_frozen (i := 2) (HB.out.at1 Hb1.out)
  clear hb1 c0
  rcases hcase with ⟨rfl, hno⟩ | ⟨k, x, rfl, hx, hi⟩
  · go_wp2
    have hz := three_set (.slice A nl c) (.int .i64 q) (.int .i64 l) (HB.out.at1 Hb1.out)
    refine ret_tab2 rfl g1 _ _ _ _ (0, 0) rfl hz rfl ?_
    exact ⟨_, _, rfl, HB.out.fin Hb1.out _ _ _, .inl ⟨rfl, ne_of_all hno, HB.out.ans ⟨A, c, es, by rw [hnl.out], Hr.out.below Hb1.out, rfl⟩ _ _ _⟩⟩
  · have hkn : k < nl := by rw [← hnl.out]; exact (List.getElem?_eq_some_iff.1 hx).1
    have hRr := Hr.out.below Hb1.out
    obtain ⟨ad, x', rfl, hab, hax, d0, d1, d2, hx', hps⟩ := hRr.at_ (k := k) (by rw [hnl.out]; exact hkn)
    obtain rfl : x' = x := Option.some.inj (hx'.out.symm.trans hx)
    obtain ⟨xi, xn, xA, xc, xps⟩ := x'
    obtain ⟨np, hnp⟩ : ∃ n, Hid (xps.length = n) := ⟨_, rfl⟩
    simp only [hnp.out] at d0 d1 d2 hps hi
    have Hx := Lib.hid hx
    have Hps := Lib.hid hps
    have hsm := Lib.hid (Hs.out _ (mem_of_get (Rm_get hx)))
    obtain ⟨g2, hg2⟩ : ∃ g, Hid (w1.heap.size = g) := ⟨_, rfl⟩
    have HRr := Lib.hid hRr
    clear hx' hx hps hRr k1 k2 k3 k4 hW
    go_upto_region 5 with fail
    obtain ⟨W2, hW2⟩ : ∃ W', Hid (w1.alloc (.cells #[.int .i64 z, .int .i64 xn, .slice xA np xc] 139) = W') := ⟨_, rfl⟩
    have hb2 : Hid (Below w1.heap.size w1 W2) := by rw [← hW2.out]; exact below_new _ _
    have hc2 : Hid (W2.heap[g2]? = some (.cells #[.int .i64 z, .int .i64 xn, .slice xA np xc] 139 (0, 0))) := by rw [← hW2.out, ← hg2.out]; exact heap_alloc_new _ _
    rw [hW2.out, hg2.out]
    have Hps2 := Lib.hid (Hps.out.below hb2.out)
    have d20 := three_cell hc2.out
    clear d0 d1 d2 hW2
    go_upto_region 6 with (go_at_call 85; refine (rsync_n hnp.out hsm.out Hps2.out).mono ?_; rintro e w3 ⟨A', c', n', ps', rfl, hb3, hn3, hp3, hm3⟩; have e20 := three_cell ((hb3.block _ (Array.getElem?_eq_some_iff.1 hc2.out).1).trans hc2.out); have f20 := three_frozen (i := 2) ((hb3.block _ (Array.getElem?_eq_some_iff.1 hc2.out).1).trans hc2.out); have Hb3 := Lib.hid hb3; have Hn3 := Lib.hid hn3; have Hp3 := Lib.hid hp3; have Hm3 := Lib.hid hm3; clear hb3 hn3 hp3 hm3)
    obtain ⟨W4, hW4⟩ : ∃ W', Hid (w3.setCell ⟨g2, 2, none⟩ (.slice A' n' c') = W') := ⟨_, rfl⟩
    have hT4 : Hid (Touch (fun j => j = g2) w3 W4) := by rw [← hW4.out]; exact Touch.cell1 _ _ _ _
    have hc3 := (Hb3.out.block _ (Array.getElem?_eq_some_iff.1 hc2.out).1).trans hc2.out
    have hc4 : Hid (W4.heap[g2]? = some (.cells #[.int .i64 z, .int .i64 xn, .slice A' n' c'] 139 (0, 0))) := by rw [← hW4.out]; exact three_set2 _ hc3
    rw [hW4.out]
    have hg2W : g2 < W2.heap.size := (Array.getElem?_eq_some_iff.1 hc2.out).1
    have hb14 : Hid (Below w1.heap.size w1 W4) := (hb2.out.trans (Hb3.out.mono hb2.out.size)).trans (hT4.out.below (Nat.le_trans hb2.out.size Hb3.out.size) fun j (e : j = g2) => by rw [e, ← hg2.out]; omega)
    have Hb4 : Hid (Below W.heap.size W W4) := Hb1.out.trans (hb14.out.mono Hb1.out.size)
    have HR4 := Lib.hid (HRr.out.below hb14.out)
    have HP4 : Hid (PsX W4 (AY w W X) A' ps') := (Hp3.out.keep (hT4.out.mono fun j _ (e : j = g2) => by show j < W2.heap.size; omega)).mono fun j _ (e : AY w W X j) => by have := e.1; have := Hb1.out.size; have := hb2.out.size; show j < W2.heap.size; omega
    have m0 := three_cell (HB.out.at0 Hb4.out)
    have m2 := three_cell hc4.out
    clear e20 f20 d20 k0 hW4 hc3
    go_wp2_with (go_at_call 84; refine (rwith_n hnl.out hl2.out HR4.out Hn3.out HP4.out hkn).mono ?_; rintro e w5 ⟨u, rfl, hb5, A5, c5, es5, rfl, hr5, hm5⟩; have Hb5 := Lib.hid (Hb4.out.trans (hb5.mono Hb4.out.size)); have q1 := three_cell (HB.out.at1 Hb5.out); have q2 := three_frozen (i := 0) (HB.out.at1 Hb5.out); have q3 := three_frozen (i := 1) (HB.out.at1 Hb5.out); have q4 := three_frozen (i := 2) (HB.out.at1 Hb5.out); obtain ⟨n5, hn5⟩ : ∃ n, Hid (List.length es5 = n) := ⟨_, rfl⟩; rw [hn5.out]; have Hr5 := Lib.hid hr5; have Hm5 := Lib.hid hm5; clear hb5 hr5 hm5)
    have hz := three_set (.slice A5 n5 c5) (.int .i64 q) (.int .i64 l) (HB.out.at1 Hb5.out)
    refine ret_tab2 rfl g1 _ _ _ _ (0, 0) rfl hz rfl ?_
    refine ⟨_, _, rfl, HB.out.fin Hb5.out _ _ _, .inr ⟨rfl, k, _, Rm_get Hx.out, hi, HB.out.ans ⟨A5, c5, es5, by rw [hn5.out], Hr5.out.mono fun j _ (e : AY w W X j) => ⟨by have := e.1; have := Hb4.out.size; omega, e⟩, by rw [Hm5.out, Hm3.out, ← hi]; rfl⟩ _ _ _⟩⟩
set_option maxHeartbeats 1000000 in
set_option maxRecDepth 100000 in
theorem rlinkT_any {X : Nat → Prop} {v : Value} {M : List Rm} {q l z : Int} {w : World} (hl : M.length ≤ 1000) (hs : ∀ x ∈ M, -9223372036854775808 ≤ x.n ∧ x.n ≤ 9223372036854775807) (hr : RefT w X v M q l) :
    Calls Tryz.prog 79 #[v, .int .i64 z] w fun e w' => ∃ u er, e = .returned (.tuple #[u, .int .i64 er]) ∧ Below w.heap.size w w' ∧ ((er = 80 ∧ (∀ x ∈ M, x.i ≠ z) ∧ RefT w' (AX w X) u M q l) ∨ (er = 0 ∧ ∃ k x, M[k]? = some x ∧ x.i = z ∧ RefT w' (AX w X) u (M.set k ⟨x.i, wrap64 (x.n + 1), x.m⟩) q l)) := by
  obtain ⟨A, c, es, rfl, h1, rfl⟩ := hr
  rw [List.length_map] at hl
  obtain ⟨nl, hnl⟩ : ∃ n, Hid (es.length = n) := ⟨_, rfl⟩
  have hl2 : Hid (nl ≤ 1000) := by rw [← hnl.out]; exact hl
  have Hs := Lib.hid hs
  rw [hnl.out]
  obtain ⟨W, hW⟩ : ∃ W, Hid ((w.alloc (.cells #[.slice A nl c, .int .i64 q, .int .i64 l] 33)).alloc (.cells #[.slice none 0 0, .int .i64 0, .int .i64 0] 33) = W) := ⟨_, rfl⟩
  obtain ⟨g0, hg0⟩ : ∃ g, Hid (w.heap.size = g) := ⟨_, rfl⟩
  obtain ⟨g1, hg1⟩ : ∃ g, Hid (w.heap.size + 1 = g) := ⟨_, rfl⟩
  have HB := Lib.hid (Bx.of hW.out hg0.out hg1.out)
  have Hr := Lib.hid (HB.out.start h1)
  have c0 := three_cell HB.out.c0
  clear h1 hl hs
  go_enter Tryz.func79, Tryz.ntmps79
  go_upto_region 1 with fail
  rw [hW.out, hg1.out, hg0.out]
  go_upto_region 2 with (go_at_call 82; refine (rfind_n hnl.out hl2.out Hr.out).mono ?_; rintro e w1 ⟨r, rfl, hb1, hcase⟩)
  have Hb1 := Lib.hid hb1
  have k0 := three_cell (HB.out.at0 Hb1.out)
  have k1 := three_cell (HB.out.at1 Hb1.out)
  have k2 := three_frozen (i := 0) (HB.out.at1 Hb1.out)
  have k3 := three_frozen (i := 1) (HB.out.at1 Hb1.out)
  have k4 := three_frozen (i := 2) (HB.out.at1 Hb1.out)
  clear hb1 c0
  rcases hcase with ⟨rfl, hno⟩ | ⟨k, x, rfl, hx, hi⟩
  · go_wp2
    have hz := three_set (.slice A nl c) (.int .i64 q) (.int .i64 l) (HB.out.at1 Hb1.out)
    refine ret_tab2 rfl g1 _ _ _ _ (0, 0) rfl hz rfl ?_
    exact ⟨_, _, rfl, HB.out.fin Hb1.out _ _ _, .inl ⟨rfl, ne_of_all hno, HB.out.ans ⟨A, c, es, by rw [hnl.out], Hr.out.below Hb1.out, rfl⟩ _ _ _⟩⟩
  · have hkn : k < nl := by rw [← hnl.out]; exact (List.getElem?_eq_some_iff.1 hx).1
    have hRr := Hr.out.below Hb1.out
    obtain ⟨ad, x', rfl, hab, hax, d0, d1, d2, hx', hps⟩ := hRr.at_ (k := k) (by rw [hnl.out]; exact hkn)
    obtain rfl : x' = x := Option.some.inj (hx'.out.symm.trans hx)
    obtain ⟨xi, xn, xA, xc, xps⟩ := x'
    obtain ⟨np, hnp⟩ : ∃ n, Hid (xps.length = n) := ⟨_, rfl⟩
    simp only [hnp.out] at d0 d1 d2 hps hi
    have Hx := Lib.hid hx
    have Hps := Lib.hid hps
    have hsm := Lib.hid (Hs.out _ (mem_of_get (Rm_get hx)))
    obtain ⟨g2, hg2⟩ : ∃ g, Hid (w1.heap.size = g) := ⟨_, rfl⟩
    have HRr := Lib.hid hRr
    clear hx' hx hps hRr k1 k2 k3 k4 hW
    go_upto_region 5 with fail
    obtain ⟨W2, hW2⟩ : ∃ W', Hid (w1.alloc (.cells #[.int .i64 z, .int .i64 xn, .slice xA np xc] 139) = W') := ⟨_, rfl⟩
    have hb2 : Hid (Below w1.heap.size w1 W2) := by rw [← hW2.out]; exact below_new _ _
    have hc2 : Hid (W2.heap[g2]? = some (.cells #[.int .i64 z, .int .i64 xn, .slice xA np xc] 139 (0, 0))) := by rw [← hW2.out, ← hg2.out]; exact heap_alloc_new _ _
    rw [hW2.out, hg2.out]
    have Hps2 := Lib.hid (Hps.out.below hb2.out)
    have d20 := three_cell hc2.out
    clear d0 d1 d2 hW2
    have hxn : -9223372036854775808 ≤ xn ∧ xn ≤ 9223372036854775807 := hsm.out
    have hxn1 := hxn.1
    have hxn2 := hxn.2
    have f20 := three_frozen (i := 1) hc2.out
    go_upto_region 6 with fail
    obtain ⟨x1, hx1⟩ : ∃ y, Hid (wrap64 (xn + 1) = y) := ⟨_, rfl⟩
    rw [hx1.out]
    obtain ⟨W4, hW4⟩ : ∃ W', Hid (W2.setCell ⟨g2, 1, none⟩ (.int .i64 x1) = W') := ⟨_, rfl⟩
    have hT4 : Hid (Touch (fun j => j = g2) W2 W4) := by rw [← hW4.out]; exact Touch.cell1 _ _ _ _
    have hc4 : Hid (W4.heap[g2]? = some (.cells #[.int .i64 z, .int .i64 x1, .slice xA np xc] 139 (0, 0))) := by rw [← hW4.out]; exact three_set1 _ hc2.out
    rw [hW4.out]
    have hg2W : g2 < W2.heap.size := (Array.getElem?_eq_some_iff.1 hc2.out).1
    have hb14 : Hid (Below w1.heap.size w1 W4) := hb2.out.trans (hT4.out.below hb2.out.size fun j (e : j = g2) => by rw [e, ← hg2.out]; omega)
    have Hb4 : Hid (Below W.heap.size W W4) := Hb1.out.trans (hb14.out.mono Hb1.out.size)
    have HR4 := Lib.hid (HRr.out.below hb14.out)
    have HP4 := Lib.hid (Hps.out.below hb14.out)
    have m0 := three_cell (HB.out.at0 Hb4.out)
    have m2 := three_cell hc4.out
    clear f20 d20 k0 hW4
    go_wp2_with (go_at_call 84; refine (rwith_n hnl.out hl2.out HR4.out hnp.out HP4.out hkn).mono ?_; rintro e w5 ⟨u, rfl, hb5, A5, c5, es5, rfl, hr5, hm5⟩; have Hb5 := Lib.hid (Hb4.out.trans (hb5.mono Hb4.out.size)); have q1 := three_cell (HB.out.at1 Hb5.out); have q2 := three_frozen (i := 0) (HB.out.at1 Hb5.out); have q3 := three_frozen (i := 1) (HB.out.at1 Hb5.out); have q4 := three_frozen (i := 2) (HB.out.at1 Hb5.out); obtain ⟨n5, hn5⟩ : ∃ n, Hid (List.length es5 = n) := ⟨_, rfl⟩; rw [hn5.out]; have Hr5 := Lib.hid hr5; have Hm5 := Lib.hid hm5; clear hb5 hr5 hm5)
    have hz := three_set (.slice A5 n5 c5) (.int .i64 q) (.int .i64 l) (HB.out.at1 Hb5.out)
    refine ret_tab2 rfl g1 _ _ _ _ (0, 0) rfl hz rfl ?_
    refine ⟨_, _, rfl, HB.out.fin Hb5.out _ _ _, .inr ⟨rfl, k, _, Rm_get Hx.out, hi, HB.out.ans ⟨A5, c5, es5, by rw [hn5.out], Hr5.out.mono fun j _ (e : AY w W X j) => ⟨by have := e.1; have := Hb4.out.size; omega, e⟩, by rw [Hm5.out, ← hi, ← hx1.out]; rfl⟩ _ _ _⟩⟩
end Go.Proofs.YtbhmnmmockmibaaGreat
