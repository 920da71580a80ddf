/- The reference's folders as values; in a box; the walks of fails, New. Conditions: none. The reference's New; a call's boxes; the walk of its create. Conditions: at most 880 calls; names of at most 1000 bytes. What each call of the reference's table and directory does to a folder in its box. -/
import Derived.Test.YtbhmnmmockmibaaGreatKpFoL
import Derived.Test.YtbhmnmmockmibaaGreatKpFuA
import Derived.Test.YtbhmnmmockmibaaGreatKpFoB
namespace Go.Proofs.YtbhmnmmockmibaaGreat
open Go.RowKit
structure Rp where
  D : Option Addr
  nD : Nat
  cD : Nat
  O : Option Addr
  nO : Nat
  cO : Nat
  T : Option Addr
  nT : Nat
  cT : Nat
  G : Option Addr
  cG : Nat
def Rp.cs (p : Rp) (s : Fo) : Array Value := #[.slice p.D p.nD p.cD, .slice p.O p.nO p.cO, .slice p.T p.nT p.cT, .int .i64 s.q, .int .i64 (s.made : Int), .int .i64 s.most, .slice p.G s.tk.length p.cG]
structure RfP (w : World) (X : Nat → Prop) (p : Rp) (s : Fo) : Prop where
  d : RefV w X (.agg #[.slice p.D p.nD p.cD, .slice p.O p.nO p.cO]) s.d
  t : RefT w X (.agg #[.slice p.T p.nT p.cT, .int .i64 s.q, .int .i64 (s.made : Int)]) (rmT s.fs) s.q (s.made : Int)
  g : RdX w X 1 p.G s.tk.length (ics s.tk)
def RefF (w : World) (X : Nat → Prop) (v : Value) (s : Fo) : Prop := ∃ p : Rp, v = .agg (p.cs s) ∧ RfP w X p s
section
variable {w w' w1 w2 W : World} {X Y : Nat → Prop} {p : Rp} {s : Fo} {v : Value}
theorem RfP.keep (h : RfP w X p s) (ht : Touch X w w') : RfP w' X p s := ⟨h.d.keep ht, h.t.keep ht, h.g.keep ht⟩
theorem RfP.below (h : RfP w X p s) (ht : Below w.heap.size w w') : RfP w' X p s := h.keep (.of ht)
theorem RfP.mono (h : RfP w X p s) (hx : ∀ b, b < w.heap.size → Y b → X b) : RfP w Y p s := ⟨h.d.mono hx, h.t.mono hx, h.g.mono hx⟩
theorem RefF.keep (h : RefF w X v s) (ht : Touch X w w') : RefF w' X v s := by
  obtain ⟨p, e, h⟩ := h
  exact ⟨p, e, h.keep ht⟩
theorem RefF.below (h : RefF w X v s) (ht : Below w.heap.size w w') : RefF w' X v s := h.keep (.of ht)
theorem RefF.mono (h : RefF w X v s) (hx : ∀ b, b < w.heap.size → Y b → X b) : RefF w Y v s := by
  obtain ⟨p, e, h⟩ := h
  exact ⟨p, e, h.mono hx⟩
theorem size_rf : (Tryz.prog.info? 36).map (·.size) = some 7 := by kernel_rfl
theorem size_rr : (Tryz.prog.info? 53).map (·.size) = some 3 := by kernel_rfl
theorem ret_rf {fn : Func} {R : Ending → World → Prop} {p : Tmp} (h : fn.results = #[.cell p 36]) {a : Act} {w : World} (g : Nat) (cs : Array Value) (hcs : cs.size = 7) (t : TypeId) (fr : Nat × Nat)
    (hp : a.tmps.getD p undef = .pointer (some ⟨g, 0, none⟩)) (hg : w.heap[g]? = some (.cells cs t fr)) (hd : a.defers = []) (hR : R (.returned (.agg cs)) w) : bodyPost Tryz.prog fn R .ret a w := by
  refine bodyPost_ret (v := .agg cs) ?_ hd hR
  have hp' : a.tmps[p]?.getD undef = .pointer (some ⟨g, 0, none⟩) := by simpa using hp
  have hty := run_loadVar_row (P := Tryz.prog) w g t 36 cs fr _ hg Tryz.underlying36 rfl (by rw [hcs]; exact size_rf)
  simp [results, h, hp', asAddr, hty]
theorem ret_rfr {fn : Func} {R : Ending → World → Prop} {p q : Tmp} (h : fn.results = #[.cell p 36, .cell q 53]) {a : Act} {w : World} (g g' : Nat) (cs ds : Array Value) (hcs : cs.size = 7) (hds : ds.size = 3) (t t' : TypeId) (fr fr' : Nat × Nat)
    (hp : a.tmps.getD p undef = .pointer (some ⟨g, 0, none⟩)) (hq : a.tmps.getD q undef = .pointer (some ⟨g', 0, none⟩)) (hg : w.heap[g]? = some (.cells cs t fr)) (hg' : w.heap[g']? = some (.cells ds t' fr')) (hd : a.defers = []) (hR : R (.returned (.tuple #[.agg cs, .agg ds])) w) : bodyPost Tryz.prog fn R .ret a w := by
  refine bodyPost_ret (v := .tuple #[.agg cs, .agg ds]) ?_ hd hR
  have hp' : a.tmps[p]?.getD undef = .pointer (some ⟨g, 0, none⟩) := by simpa using hp
  have hq' : a.tmps[q]?.getD undef = .pointer (some ⟨g', 0, none⟩) := by simpa using hq
  have hty := run_loadVar_row (P := Tryz.prog) w g t 36 cs fr _ hg Tryz.underlying36 rfl (by rw [hcs]; exact size_rf)
  have hty' := run_loadVar_row (P := Tryz.prog) w g' t' 53 ds fr' _ hg' Tryz.underlying53 rfl (by rw [hds]; exact size_rr)
  simp [results, h, hp', hq', asAddr, hty, hty']
theorem sept_cell {g : Nat} {x y z a b c d : Value} {T : TypeId} (h : w.heap[g]? = some (.cells #[x, y, z, a, b, c, d] T (0, 0))) : w.cell? ⟨g, 0, none⟩ = some x ∧ w.cell? ⟨g, 1, none⟩ = some y ∧ w.cell? ⟨g, 2, none⟩ = some z ∧ w.cell? ⟨g, 3, none⟩ = some a ∧ w.cell? ⟨g, 4, none⟩ = some b ∧ w.cell? ⟨g, 5, none⟩ = some c ∧ w.cell? ⟨g, 6, none⟩ = some d :=
  ⟨by rw [cell_of_row w g 0 _ _ _ h]; rfl, by rw [cell_of_row w g 1 _ _ _ h]; rfl, by rw [cell_of_row w g 2 _ _ _ h]; rfl, by rw [cell_of_row w g 3 _ _ _ h]; rfl, by rw [cell_of_row w g 4 _ _ _ h]; rfl, by rw [cell_of_row w g 5 _ _ _ h]; rfl, by rw [cell_of_row w g 6 _ _ _ h]; rfl⟩
end
abbrev zrf : Array Value := #[.slice none 0 0, .slice none 0 0, .slice none 0 0, .int .i64 0, .int .i64 0, .int .i64 0, .slice none 0 0]
structure Sev (cs : Array Value) : Prop where
  n : cs.size = 7
  one : cs.all (·.oneCell') = true
theorem Rp.sev (p : Rp) (s : Fo) : Sev (p.cs s) := ⟨rfl, by simp [Rp.cs, Value.oneCell']⟩
set_option maxHeartbeats 2000000 in
set_option maxRecDepth 100000 in
theorem rfails_any {cs : Array Value} (hk : Sev cs) (e : Int) (w : World) :
    Calls Tryz.prog 45 #[.agg cs, .int .i64 e] w fun en w' => en = .returned (.tuple #[.agg cs, .agg #[.int .i64 e, .slice none 0 0, .slice none 0 0]]) ∧ Below w.heap.size w w' := by
  obtain ⟨W, hW⟩ : ∃ W, Hid (((w.alloc (.cells cs 36)).alloc (.cells zrf 36)).alloc (.cells #[.int .i64 0, .slice none 0 0, .slice none 0 0] 53) = W) := ⟨_, rfl⟩
  obtain ⟨g0, h0⟩ : ∃ g, Hid (w.heap.size = g) := ⟨_, rfl⟩
  obtain ⟨g1, h1⟩ : ∃ g, Hid (w.heap.size + 1 = g) := ⟨_, rfl⟩
  obtain ⟨g2, h2⟩ : ∃ g, Hid (w.heap.size + 1 + 1 = g) := ⟨_, rfl⟩
  obtain ⟨hs, e0, e1, e2⟩ := three_heap w (.cells cs 36) (.cells zrf 36) (.cells #[.int .i64 0, .slice none 0 0, .slice none 0 0] 53)
  rw [hW.out] at hs e0 e1 e2
  rw [h0.out] at e0
  rw [h1.out] at e1
  rw [h2.out] at e2
  have hb : Hid (Below w.heap.size w W) := by rw [← hW.out]; exact ((below_new _ _).alloc (by simp) _).alloc (by simp; omega) _
  have E0 := Lib.hid e0
  have E1 := Lib.hid e1
  have E2 := Lib.hid e2
  have Hs := Lib.hid hs
  clear e0 e1 e2 hs
  obtain ⟨W2, hW2⟩ : ∃ W2, Hid (W.setRow g1 cs = W2) := ⟨_, rfl⟩
  have hne : ¬ g2 = g1 := by have := h1.out; have := h2.out; omega
  have E22 : Hid (W2.heap[g2]? = some (.cells #[.int .i64 0, .slice none 0 0, .slice none 0 0] 53 (0, 0))) := by rw [← hW2.out]; exact (setRow_other _ _ _ _ hne).trans E2.out
  have E12 : Hid (W2.heap[g1]? = some (.cells cs 36 (0, 0))) := by rw [← hW2.out]; exact setRow_heap _ _ _ _ _ _ E1.out
  have hb2 : Hid (Below w.heap.size w W2) := by rw [← hW2.out]; exact below_setRow hb.out (by rw [← h1.out]; omega) _
  have m := tri_cell E22.out
  have f2 := fun i => d_frozen (i := i) E22.out
  go_enter Tryz.func45, Tryz.ntmps45
  go_upto_region 1 with fail
  rw [h2.out, h1.out, h0.out, show ((w.alloc (.cells cs 36)).alloc (.cells zrf 36)).alloc (.cells #[.int .i64 0, .slice none 0 0, .slice none 0 0] 53) = W from hW.out]
  go_wp2_with (first
    | (refine wpList_load_row rfl 36 (.tmp 2) rfl g0 rfl _ _ _ _ E0.out Tryz.underlying36 rfl (by rw [hk.n]; exact size_rf) ?_)
    | (refine wpList_store_row rfl 36 (.tmp 4) (.tmp 6) rfl g1 _ rfl rfl _ _ E1.out (by rw [hk.n]; exact size_rf) (by rw [hk.n]; rfl) hk.one ?_; rw [hW2.out]))
  have ht := Touch.tri W2 g2 (.int .i64 e) (.slice none 0 0) (.slice none 0 0)
  refine ret_rfr rfl g1 g2 cs _ hk.n rfl _ _ (0, 0) (0, 0) rfl rfl (ht.heap (fun e => hne e.symm) E12.out) (tri_set _ _ _ E22.out) rfl ?_
  exact ⟨rfl, hb2.out.trans (ht.below hb2.out.size fun b e => by have := h2.out; omega)⟩
theorem sev_setT {w : World} {g : Nat} {a b c d e f h x y z : Value} {T : TypeId} (hg : w.heap[g]? = some (.cells #[a, b, c, d, e, f, h] T (0, 0))) : (((w.setCell ⟨g, 2, none⟩ x).setCell ⟨g, 3, none⟩ y).setCell ⟨g, 4, none⟩ z).heap[g]? = some (.cells #[a, b, x, y, z, f, h] T (0, 0)) := by
  have h1 : (w.setCell ⟨g, 2, none⟩ x).heap[g]? = some (.cells #[a, b, x, d, e, f, h] T (0, 0)) := heap_setCell_same w g 2 _ _ x hg
  have h2 : ((w.setCell ⟨g, 2, none⟩ x).setCell ⟨g, 3, none⟩ y).heap[g]? = some (.cells #[a, b, x, y, e, f, h] T (0, 0)) := heap_setCell_same _ g 3 _ _ y h1
  exact heap_setCell_same _ g 4 _ _ z h2
theorem sev_setD {w : World} {g : Nat} {a b c d e f h x y : Value} {T : TypeId} (hg : w.heap[g]? = some (.cells #[a, b, c, d, e, f, h] T (0, 0))) : ((w.setCell ⟨g, 0, none⟩ x).setCell ⟨g, 1, none⟩ y).heap[g]? = some (.cells #[x, y, c, d, e, f, h] T (0, 0)) := by
  have h1 : (w.setCell ⟨g, 0, none⟩ x).heap[g]? = some (.cells #[x, b, c, d, e, f, h] T (0, 0)) := heap_setCell_same w g 0 _ _ x hg
  exact heap_setCell_same _ g 1 _ _ y h1
theorem sev_setG {w : World} {g : Nat} {a b c d e f h x : Value} {T : TypeId} (hg : w.heap[g]? = some (.cells #[a, b, c, d, e, f, h] T (0, 0))) : (w.setCell ⟨g, 6, none⟩ x).heap[g]? = some (.cells #[a, b, c, d, e, f, x] T (0, 0)) := heap_setCell_same w g 6 _ _ x hg
structure RfB (w W w1 : World) (X : Nat → Prop) (g : Nat) (p : Rp) (s : Fo) : Prop where
  box : w1.heap[g]? = some (.cells (p.cs s) 36 (0, 0))
  pt : RfP w1 (AY w W X) p s
  bel : Below w.heap.size w w1
  ge : W.heap.size ≤ w1.heap.size
  lo : w.heap.size ≤ g ∧ g < W.heap.size
section
variable {w W w1 w2 w3 : World} {X Y : Nat → Prop} {g N : Nat} {p : Rp} {s : Fo}
theorem RfB.cells (h : RfB w W w1 X g p s) : w1.cell? ⟨g, 0, none⟩ = some (.slice p.D p.nD p.cD) ∧ w1.cell? ⟨g, 1, none⟩ = some (.slice p.O p.nO p.cO) ∧ w1.cell? ⟨g, 2, none⟩ = some (.slice p.T p.nT p.cT) ∧ w1.cell? ⟨g, 3, none⟩ = some (.int .i64 s.q) ∧ w1.cell? ⟨g, 4, none⟩ = some (.int .i64 (s.made : Int)) ∧ w1.cell? ⟨g, 5, none⟩ = some (.int .i64 s.most) ∧ w1.cell? ⟨g, 6, none⟩ = some (.slice p.G s.tk.length p.cG) := sept_cell h.box
theorem RfB.fz (h : RfB w W w1 X g p s) (i : Nat) : w1.frozen? ⟨g, i, none⟩ = false := d_frozen h.box
theorem RfB.below (h : RfB w W w1 X g p s) (hb : Below w1.heap.size w1 w2) : RfB w W w2 X g p s :=
  ⟨(hb.block g (Array.getElem?_eq_some_iff.1 h.box).1).trans h.box, h.pt.below hb, h.bel.trans (hb.mono h.bel.size), Nat.le_trans h.ge hb.size, h.lo⟩
theorem RfB.ay (_h : RfB w W w1 X g p s) {b : Nat} (hb : w.heap.size ≤ b) (hb2 : b < W.heap.size) : AY w W X b := ⟨hb2, .inr hb⟩
theorem RfB.touch (h : RfB w W w1 X g p s) (ht : Touch (fun b => w.heap.size ≤ b ∧ b < W.heap.size ∧ b ≠ g) w1 w2) : RfB w W w2 X g p s :=
  ⟨ht.heap (fun e => e.2.2 rfl) h.box, h.pt.keep (ht.mono fun _ _ e => ⟨e.2.1, .inr e.1⟩), h.bel.trans (ht.below h.bel.size fun _ e => e.1), Nat.le_trans h.ge ht.size, h.lo⟩
theorem RfB.setT (h : RfB w W w1 X g p s) {A : Option Addr} {n c : Nat} {q : Int} {made : Nat} {fs : List Fi} (hu : RefT w1 (AX w3 (AY w W X)) (.agg #[.slice A n c, .int .i64 q, .int .i64 (made : Int)]) (rmT fs) q (made : Int)) (h3 : W.heap.size ≤ w3.heap.size) :
    RfB w W (((w1.setCell ⟨g, 2, none⟩ (.slice A n c)).setCell ⟨g, 3, none⟩ (.int .i64 q)).setCell ⟨g, 4, none⟩ (.int .i64 (made : Int))) X g { p with T := A, nT := n, cT := c } { s with q := q, made := made, fs := fs } := by
  have ht : Touch (fun b => b = g) w1 (((w1.setCell ⟨g, 2, none⟩ (.slice A n c)).setCell ⟨g, 3, none⟩ (.int .i64 q)).setCell ⟨g, 4, none⟩ (.int .i64 (made : Int))) := ((Touch.cell1 w1 g 2 _).trans (Touch.cell1 _ g 3 _)).trans (Touch.cell1 _ g 4 _)
  have hta := ht.mono (Y := AY w W X) fun b _ e => by rw [e]; exact h.ay h.lo.1 h.lo.2
  refine ⟨sev_setT h.box, ⟨h.pt.d.keep hta, (hu.mono fun b _ (e : AY w W X b) => ⟨Nat.lt_of_lt_of_le e.1 h3, e⟩).keep hta, h.pt.g.keep hta⟩, h.bel.trans (ht.below h.bel.size fun b e => by rw [e]; exact h.lo.1), Nat.le_trans h.ge ht.size, h.lo⟩
theorem RfB.setD (h : RfB w W w1 X g p s) {A A' : Option Addr} {n c n' c' : Nat} {d : St} (hu : RefV w1 (fun b => b < w3.heap.size ∧ AY w W X b) (.agg #[.slice A n c, .slice A' n' c']) d) (h3 : W.heap.size ≤ w3.heap.size) :
    RfB w W ((w1.setCell ⟨g, 0, none⟩ (.slice A n c)).setCell ⟨g, 1, none⟩ (.slice A' n' c')) X g { p with D := A, nD := n, cD := c, O := A', nO := n', cO := c' } { s with d := d } := by
  have ht : Touch (fun b => b = g) w1 ((w1.setCell ⟨g, 0, none⟩ (.slice A n c)).setCell ⟨g, 1, none⟩ (.slice A' n' c')) := (Touch.cell1 w1 g 0 _).trans (Touch.cell1 _ g 1 _)
  have hta := ht.mono (Y := AY w W X) fun b _ e => by rw [e]; exact h.ay h.lo.1 h.lo.2
  refine ⟨sev_setD h.box, ⟨(hu.mono fun b _ (e : AY w W X b) => ⟨Nat.lt_of_lt_of_le e.1 h3, e⟩).keep hta, h.pt.t.keep hta, h.pt.g.keep hta⟩, h.bel.trans (ht.below h.bel.size fun b e => by rw [e]; exact h.lo.1), Nat.le_trans h.ge ht.size, h.lo⟩
theorem RfB.setG (h : RfB w W w1 X g p s) {A : Option Addr} {c : Nat} {l : List Int} (hu : RdX w1 (AY w W X) 1 A l.length (ics l)) :
    RfB w W (w1.setCell ⟨g, 6, none⟩ (.slice A l.length c)) X g { p with G := A, cG := c } { s with tk := l } := by
  have ht := Touch.cell1 w1 g 6 (.slice A l.length c)
  have hta := ht.mono (Y := AY w W X) fun b _ e => by rw [e]; exact h.ay h.lo.1 h.lo.2
  refine ⟨sev_setG h.box, ⟨h.pt.d.keep hta, h.pt.t.keep hta, hu.keep hta⟩, h.bel.trans (ht.below h.bel.size fun b e => by rw [e]; exact h.lo.1), Nat.le_trans h.ge ht.size, h.lo⟩
theorem RfB.fin (h : RfB w W w1 X g p s) : RefF w1 (AX w X) (.agg (p.cs s)) s := ⟨p, rfl, h.pt.mono fun b _ (e : AX w X b) => ⟨Nat.lt_of_lt_of_le e.1 (by have := h.lo; omega), .inl e.2⟩⟩
theorem RfB.start {v : Value} (hr : RefF w X v s) (hb : Below w.heap.size w W) (hl : w.heap.size ≤ g ∧ g < W.heap.size) (hg : ∀ p : Rp, v = .agg (p.cs s) → W.heap[g]? = some (.cells (p.cs s) 36 (0, 0))) : ∃ p, v = .agg (p.cs s) ∧ RfB w W W X g p s := by
  obtain ⟨p, rfl, hp⟩ := hr
  refine ⟨p, rfl, hg p rfl, ?_, hb, Nat.le_refl _, hl⟩
  have h1 : RfP w (fun b => X b ∨ w.heap.size ≤ b) p s := by
    obtain ⟨A, c, A', c', e, h1, h2⟩ := hp.d.v
    obtain ⟨A2, c2, es, e2, h3, h4⟩ := hp.t
    exact ⟨⟨A, c, A', c', e, h1.high', h2.high'⟩, ⟨A2, c2, es, e2, h3.high, h4⟩, hp.g.high'⟩
  exact (h1.below hb).mono fun b _ (e : AY w W X b) => e.2
end
end Go.Proofs.YtbhmnmmockmibaaGreat

namespace Go.Proofs.YtbhmnmmockmibaaGreat
open Go.RowKit
structure RfC (w W w1 : World) (X : Nat → Prop) (g0 g1 g2 g3 : Nat) (cc : Array Value) (p : Rp) (s : Fo) : Prop where
  b : RfB w W w1 X g0 p s
  call : w1.heap[g1]? = some (.cells cc 46 (0, 0))
  r1 : w1.heap[g2]? = some (.cells zrf 36 (0, 0))
  r2 : w1.heap[g3]? = some (.cells #[.int .i64 0, .slice none 0 0, .slice none 0 0] 53 (0, 0))
  ne : g0 = w.heap.size ∧ g1 = w.heap.size + 1 ∧ g2 = w.heap.size + 1 + 1 ∧ g3 = w.heap.size + 1 + 1 + 1 ∧ w.heap.size + 4 ≤ W.heap.size
section
variable {w W w1 w2 w3 : World} {X Y : Nat → Prop} {g0 g1 g2 g3 N : Nat} {cc : Array Value} {p : Rp} {s : Fo}
theorem RfC.below (h : RfC w W w1 X g0 g1 g2 g3 cc p s) (hb : Below w1.heap.size w1 w2) : RfC w W w2 X g0 g1 g2 g3 cc p s :=
  ⟨h.b.below hb, (hb.block _ (Array.getElem?_eq_some_iff.1 h.call).1).trans h.call, (hb.block _ (Array.getElem?_eq_some_iff.1 h.r1).1).trans h.r1, (hb.block _ (Array.getElem?_eq_some_iff.1 h.r2).1).trans h.r2, h.ne⟩
theorem RfC.box {p' : Rp} {s' : Fo} (h : RfC w W w1 X g0 g1 g2 g3 cc p s) (ht : Touch (fun b => b = g0) w1 w2) (hb : RfB w W w2 X g0 p' s') : RfC w W w2 X g0 g1 g2 g3 cc p' s' := by
  have hn := h.ne
  exact ⟨hb, ht.heap (show ¬ g1 = g0 by omega) h.call, ht.heap (show ¬ g2 = g0 by omega) h.r1, ht.heap (show ¬ g3 = g0 by omega) h.r2, h.ne⟩
theorem RfC.setT (h : RfC w W w1 X g0 g1 g2 g3 cc p s) {A : Option Addr} {n c : Nat} {q : Int} {made : Nat} {fs : List Fi} (hu : RefT w1 (AX w3 (AY w W X)) (.agg #[.slice A n c, .int .i64 q, .int .i64 (made : Int)]) (rmT fs) q (made : Int)) (h3 : W.heap.size ≤ w3.heap.size) :
    RfC w W (((w1.setCell ⟨g0, 2, none⟩ (.slice A n c)).setCell ⟨g0, 3, none⟩ (.int .i64 q)).setCell ⟨g0, 4, none⟩ (.int .i64 (made : Int))) X g0 g1 g2 g3 cc { p with T := A, nT := n, cT := c } { s with q := q, made := made, fs := fs } :=
  h.box (((Touch.cell1 w1 g0 2 _).trans (Touch.cell1 _ g0 3 _)).trans (Touch.cell1 _ g0 4 _)) (h.b.setT hu h3)
theorem RfC.setD (h : RfC w W w1 X g0 g1 g2 g3 cc p s) {A A' : Option Addr} {n c n' c' : Nat} {d : St} (hu : RefV w1 (fun b => b < w3.heap.size ∧ AY w W X b) (.agg #[.slice A n c, .slice A' n' c']) d) (h3 : W.heap.size ≤ w3.heap.size) :
    RfC w W ((w1.setCell ⟨g0, 0, none⟩ (.slice A n c)).setCell ⟨g0, 1, none⟩ (.slice A' n' c')) X g0 g1 g2 g3 cc { p with D := A, nD := n, cD := c, O := A', nO := n', cO := c' } { s with d := d } :=
  h.box ((Touch.cell1 w1 g0 0 _).trans (Touch.cell1 _ g0 1 _)) (h.b.setD hu h3)
theorem RfC.setG (h : RfC w W w1 X g0 g1 g2 g3 cc p s) {A : Option Addr} {c : Nat} {l : List Int} (hu : RdX w1 (AY w W X) 1 A l.length (ics l)) :
    RfC w W (w1.setCell ⟨g0, 6, none⟩ (.slice A l.length c)) X g0 g1 g2 g3 cc { p with G := A, cG := c } { s with tk := l } :=
  h.box (Touch.cell1 w1 g0 6 _) (h.b.setG hu)
theorem RfC.start {v : Value} (hr : RefF w X v s) (hW : ∀ cs, v = .agg cs → (((w.alloc (.cells cs 36)).alloc (.cells cc 46)).alloc (.cells zrf 36)).alloc (.cells #[.int .i64 0, .slice none 0 0, .slice none 0 0] 53) = W) :
    ∃ p, v = .agg (p.cs s) ∧ RfC w W W X w.heap.size (w.heap.size + 1) (w.heap.size + 1 + 1) (w.heap.size + 1 + 1 + 1) cc p s := by
  obtain ⟨p0, e0, _⟩ := id hr
  have h4 := four_heap w (.cells (p0.cs s) 36) (.cells cc 46) (.cells zrf 36) (.cells #[.int .i64 0, .slice none 0 0, .slice none 0 0] 53)
  have hw := hW _ e0
  rw [hw] at h4
  obtain ⟨hs, e1, e2, e3, e4⟩ := h4
  have hb : Below w.heap.size w W := by rw [← hw]; exact (((below_new _ _).alloc (by simp) _).alloc (by simp; omega) _).alloc (by simp; omega) _
  obtain ⟨p, e, h⟩ := RfB.start (g := w.heap.size) hr hb (by omega) fun p e => by
    have : p.cs s = p0.cs s := by
      rw [e] at e0
      injection e0
    rw [this]
    exact e1
  exact ⟨p, e, h, e2, e3, e4, rfl, rfl, rfl, rfl, by omega⟩
theorem RfC.fin (h : RfC w W w1 X g0 g1 g2 g3 cc p s) {cs : Array Value} (hcs : p.cs s = cs) (x y z : Value) :
    (w1.setRow g2 cs).heap[g3]? = some (.cells #[.int .i64 0, .slice none 0 0, .slice none 0 0] 53 (0, 0)) ∧
    ((((w1.setRow g2 cs).setCell ⟨g3, 0, none⟩ x).setCell ⟨g3, 1, none⟩ y).setCell ⟨g3, 2, none⟩ z).heap[g2]? = some (.cells cs 36 (0, 0)) ∧
    ((((w1.setRow g2 cs).setCell ⟨g3, 0, none⟩ x).setCell ⟨g3, 1, none⟩ y).setCell ⟨g3, 2, none⟩ z).heap[g3]? = some (.cells #[x, y, z] 53 (0, 0)) ∧
    RefF ((((w1.setRow g2 cs).setCell ⟨g3, 0, none⟩ x).setCell ⟨g3, 1, none⟩ y).setCell ⟨g3, 2, none⟩ z) (AX w X) (.agg cs) s ∧ Below w.heap.size w ((((w1.setRow g2 cs).setCell ⟨g3, 0, none⟩ x).setCell ⟨g3, 1, none⟩ y).setCell ⟨g3, 2, none⟩ z) ∧
    Touch (fun b => b = g2 ∨ b = g3) w1 ((((w1.setRow g2 cs).setCell ⟨g3, 0, none⟩ x).setCell ⟨g3, 1, none⟩ y).setCell ⟨g3, 2, none⟩ z) := by
  subst hcs
  have hn := h.ne
  have e3 := (setRow_other w1 g2 g3 (p.cs s) (by omega)).trans h.r2
  have e2 : (w1.setRow g2 (p.cs s)).heap[g2]? = some (.cells (p.cs s) 36 (0, 0)) := setRow_heap _ _ _ _ _ _ h.r1
  have ht := Touch.tri (w1.setRow g2 (p.cs s)) g3 x y z
  have hT : Touch (fun b => b = g2 ∨ b = g3) w1 ((((w1.setRow g2 (p.cs s)).setCell ⟨g3, 0, none⟩ x).setCell ⟨g3, 1, none⟩ y).setCell ⟨g3, 2, none⟩ z) := ((Touch.row1 w1 g2 (p.cs s)).mono fun _ _ e => Or.inl e).trans (ht.mono fun _ _ e => Or.inr e)
  have hb := h.b.touch (hT.mono fun b _ e => by
    rcases e with e | e <;> (rw [e]; omega))
  exact ⟨e3, ht.heap (show ¬ g2 = g3 by omega) e2, tri_set x y z e3, hb.fin, hb.bel, hT⟩
theorem RfC.last (h : RfC w W w1 X g0 g1 g2 g3 cc p s) : ∃ W9, Hid (w1.setRow g2 (p.cs s) = W9) ∧ (W9.cell? ⟨g3, 0, none⟩ = some (.int .i64 0) ∧ W9.cell? ⟨g3, 1, none⟩ = some (.slice none 0 0) ∧ W9.cell? ⟨g3, 2, none⟩ = some (.slice none 0 0)) ∧ (∀ i, W9.frozen? ⟨g3, i, none⟩ = false) ∧
    Hid (∀ x y z, (((W9.setCell ⟨g3, 0, none⟩ x).setCell ⟨g3, 1, none⟩ y).setCell ⟨g3, 2, none⟩ z).heap[g2]? = some (.cells (p.cs s) 36 (0, 0)) ∧
      (((W9.setCell ⟨g3, 0, none⟩ x).setCell ⟨g3, 1, none⟩ y).setCell ⟨g3, 2, none⟩ z).heap[g3]? = some (.cells #[x, y, z] 53 (0, 0)) ∧
      RefF (((W9.setCell ⟨g3, 0, none⟩ x).setCell ⟨g3, 1, none⟩ y).setCell ⟨g3, 2, none⟩ z) (AX w X) (.agg (p.cs s)) s ∧ Below w.heap.size w (((W9.setCell ⟨g3, 0, none⟩ x).setCell ⟨g3, 1, none⟩ y).setCell ⟨g3, 2, none⟩ z) ∧ Touch (fun b => b = g2 ∨ b = g3) w1 (((W9.setCell ⟨g3, 0, none⟩ x).setCell ⟨g3, 1, none⟩ y).setCell ⟨g3, 2, none⟩ z)) := by
  have e := (h.fin rfl (.int .i64 0) (.int .i64 0) (.int .i64 0)).1
  exact ⟨_, Lib.hid rfl, tri_cell e, fun i => d_frozen e, Lib.hid fun x y z => (h.fin rfl x y z).2⟩
theorem RfC.last2 (h : RfC w W w1 X g0 g1 g2 g3 cc p s) : ∃ cs W9, Hid (Sev cs) ∧ Hid (w1.heap[g0]? = some (.cells cs 36 (0, 0))) ∧ Hid (w1.heap[g2]? = some (.cells zrf 36 (0, 0))) ∧ Hid (w1.setRow g2 cs = W9) ∧ (W9.cell? ⟨g3, 0, none⟩ = some (.int .i64 0) ∧ W9.cell? ⟨g3, 1, none⟩ = some (.slice none 0 0) ∧ W9.cell? ⟨g3, 2, none⟩ = some (.slice none 0 0)) ∧ (∀ i, W9.frozen? ⟨g3, i, none⟩ = false) ∧
    Hid (∀ x y z, (((W9.setCell ⟨g3, 0, none⟩ x).setCell ⟨g3, 1, none⟩ y).setCell ⟨g3, 2, none⟩ z).heap[g2]? = some (.cells cs 36 (0, 0)) ∧
      (((W9.setCell ⟨g3, 0, none⟩ x).setCell ⟨g3, 1, none⟩ y).setCell ⟨g3, 2, none⟩ z).heap[g3]? = some (.cells #[x, y, z] 53 (0, 0)) ∧
      RefF (((W9.setCell ⟨g3, 0, none⟩ x).setCell ⟨g3, 1, none⟩ y).setCell ⟨g3, 2, none⟩ z) (AX w X) (.agg cs) s ∧ Below w.heap.size w (((W9.setCell ⟨g3, 0, none⟩ x).setCell ⟨g3, 1, none⟩ y).setCell ⟨g3, 2, none⟩ z) ∧ Touch (fun b => b = g2 ∨ b = g3) w1 (((W9.setCell ⟨g3, 0, none⟩ x).setCell ⟨g3, 1, none⟩ y).setCell ⟨g3, 2, none⟩ z)) := by
  obtain ⟨W9, h1, h2, h3, h4⟩ := h.last
  exact ⟨p.cs s, W9, Lib.hid (p.sev s), Lib.hid h.b.box, Lib.hid h.r1, h1, h2, h3, h4⟩
theorem RefF.many {v : Value} (h : RefF w1 X v s) (m : Int) : RefF w1 X v { s with many := m } := by
  obtain ⟨p, e, h1, h2, h3⟩ := h
  exact ⟨p, e, h1, h2, h3⟩
end
theorem RefF.new {w' : World} {X : Nat → Prop} {A : Option Addr} {c n : Nat} {bytes entries : Int} (h : RefT w' X (.agg #[.slice A n c, .int .i64 (max bytes 0), .int .i64 0]) [] (max bytes 0) 0) : RefF w' X (.agg #[.slice none 0 0, .slice none 0 0, .slice A n c, .int .i64 (max bytes 0), .int .i64 0, .int .i64 (max entries 0), .slice none 0 0]) (Fo.new bytes entries) :=
  ⟨⟨none, 0, 0, none, 0, 0, A, n, c, none, 0⟩, rfl, RefV.new w' X, h, RdX.none_⟩
set_option maxHeartbeats 2000000 in
set_option maxRecDepth 100000 in
theorem rnewF_any {X : Nat → Prop} (bytes entries : Int) (w : World) (h1 : -9223372036854775808 ≤ bytes) (h2 : bytes ≤ 9223372036854775807) (_h3 : -9223372036854775808 ≤ entries) (_h4 : entries ≤ 9223372036854775807) (hX : ∀ b, X b → b < w.heap.size) :
    Calls Tryz.prog 9 #[.int .i64 bytes, .int .i64 entries] w fun e w' => ∃ u, e = .returned u ∧ Below w.heap.size w w' ∧ RefF w' X u (Fo.new bytes entries) := by
  obtain ⟨W, hW⟩ : ∃ W, Hid (w.alloc (.cells zrf 36) = W) := ⟨_, rfl⟩
  obtain ⟨g0, h0⟩ : ∃ g, Hid (w.heap.size = g) := ⟨_, rfl⟩
  have hb : Hid (Below w.heap.size w W) := by rw [← hW.out]; exact below_new _ _
  have hg : Hid (W.heap[g0]? = some (.cells zrf 36 (0, 0))) := by rw [← hW.out, ← h0.out]; exact heap_alloc_new _ _
  have hn := Lib.hid (rnew_any (X := fun b => b = g0 ∨ X b) bytes W h1 h2)
  have HX := Lib.hid hX
  clear h1 h2 hX
  obtain ⟨q, hq⟩ : ∃ q, Hid (max bytes 0 = q) := ⟨_, rfl⟩
  rw [hq.out] at hn
  go_enter Tryz.func9, Tryz.ntmps9
  go_upto_region 1 with fail
  rw [h0.out, show w.alloc (.cells zrf 36) = W from hW.out]
  go_wp2_with (first
    | (refine wpList_store_row rfl 36 (.tmp 4) (.tmp 9) rfl g0 _ rfl rfl _ _ hg1.out size_rf rfl (by simp [Value.oneCell']) ?_)
    | (go_at_call 26; refine hn.out.mono ?_; rintro e w1 ⟨u, rfl, hb1, hT⟩; have HT := Lib.hid hT; obtain ⟨A, c, es, rfl, _, _⟩ := hT; have Hb1 := Lib.hid hb1; have hg1 := Lib.hid ((hb1.block _ (Array.getElem?_eq_some_iff.1 hg.out).1).trans hg.out); clear hb1))
  rw [Int.max_comm 0 entries]
  refine ret_rf rfl g0 _ rfl _ (0, 0) rfl (setRow_heap _ _ _ _ _ _ hg1.out) rfl ?_
  have ht := Touch.row1 w1 g0 #[.slice none 0 0, .slice none 0 0, .slice A es.length c, .int .i64 q, .int .i64 0, .int .i64 (max entries 0), .slice none 0 0]
  refine ⟨_, rfl, (hb.out.trans (Hb1.out.mono hb.out.size)).trans (ht.below (Nat.le_trans hb.out.size Hb1.out.size) fun b e => by rw [e, ← h0.out]; exact Nat.le_refl _), ?_⟩
  have h5 := (HT.out.keep (ht.mono fun b _ e => .inl e)).mono (Y := X) fun b _ e => .inr e
  rw [← hq.out] at h5 ⊢
  exact RefF.new h5
end Go.Proofs.YtbhmnmmockmibaaGreat

namespace Go.Proofs.YtbhmnmmockmibaaGreat
open Go.RowKit
section
variable {w W w1 w2 w3 : World} {X Y : Nat → Prop} {g0 g1 g2 g3 N : Nat} {cc : Array Value} {p : Rp} {s : Fo}
theorem tabOk (h : s.Ok N) : (⟨⟨.map none, .map none, .map none, .map none, .map none⟩, s.q, s.made, none, s.fs⟩ : Tb).Ok N := h.t _ _
theorem Fo.Ok.sm (h : s.Ok N) (hN : N ≤ 900) : ∀ x ∈ rmT s.fs, SmM x.m := by
  intro x hx
  obtain ⟨f, hf, rfl⟩ := List.mem_map.1 hx
  exact ((tabOk h).size f hf).sm (by omega)
theorem Fo.Ok.nm (h : s.Ok N) : ∀ x ∈ rmT s.fs, -9223372036854775808 ≤ x.n ∧ x.n ≤ 9223372036854775807 := by
  intro x hx
  obtain ⟨f, hf, rfl⟩ := List.mem_map.1 hx
  exact (tabOk h).many f hf
theorem Fo.Ok.rl (h : s.Ok N) (hN : N ≤ 900) : (rmT s.fs).length ≤ 1000 := by rw [rmT_len]; exact Nat.le_trans (tabOk h).len (by omega)
theorem Fo.Ok.srt (h : s.Ok N) : s.fs.Pairwise fun a b => a.i < b.i := (tabOk h).sort
theorem Fo.Ok.made (h : s.Ok N) : s.made ≤ N := (tabOk h).made
abbrev tset (w : World) (g : Nat) (A : Option Addr) (n c : Nat) (q l : Int) : World := ((w.setCell ⟨g, 2, none⟩ (.slice A n c)).setCell ⟨g, 3, none⟩ (.int .i64 q)).setCell ⟨g, 4, none⟩ (.int .i64 l)
abbrev dset (w : World) (g : Nat) (A A' : Option Addr) (n c n' c' : Nat) : World := (w.setCell ⟨g, 0, none⟩ (.slice A n c)).setCell ⟨g, 1, none⟩ (.slice A' n' c')
def TSt (w W w2 : World) (X : Nat → Prop) (g0 g1 g2 g3 : Nat) (cc : Array Value) (p : Rp) (s s' : Fo) (u : Value) : Prop :=
  ∃ A n c, u = .agg #[.slice A n c, .int .i64 s'.q, .int .i64 (s'.made : Int)] ∧ RfC w W w2 X g0 g1 g2 g3 cc p s ∧ RfC w W (tset w2 g0 A n c s'.q (s'.made : Int)) X g0 g1 g2 g3 cc { p with T := A, nT := n, cT := c } s'
def DSt' (w W w2 : World) (X : Nat → Prop) (g0 g1 g2 g3 : Nat) (cc : Array Value) (p : Rp) (s s' : Fo) (u : Value) : Prop :=
  ∃ A n c A' n' c', u = .agg #[.slice A n c, .slice A' n' c'] ∧ RfC w W w2 X g0 g1 g2 g3 cc p s ∧ RfC w W (dset w2 g0 A A' n c n' c') X g0 g1 g2 g3 cc { p with D := A, nD := n, cD := c, O := A', nO := n', cO := c' } s'
theorem RfC.tst (h : RfC w W w1 X g0 g1 g2 g3 cc p s) (hb : Below w1.heap.size w1 w2) {u : Value} {q : Int} {made : Nat} {fs : List Fi} (hu : RefT w2 (AX w1 (AY w W X)) u (rmT fs) q (made : Int)) : TSt w W w2 X g0 g1 g2 g3 cc p s { s with q := q, made := made, fs := fs } u := by
  obtain ⟨A, c, es, rfl, h1, h2⟩ := id hu
  exact ⟨A, es.length, c, rfl, h.below hb, (h.below hb).setT hu h.b.ge⟩
theorem RfC.dst (h : RfC w W w1 X g0 g1 g2 g3 cc p s) (hb : Below w1.heap.size w1 w2) {u : Value} {d : St} (hu : RefV w2 (fun b => b < w1.heap.size ∧ AY w W X b) u d) : DSt' w W w2 X g0 g1 g2 g3 cc p s { s with d := d } u := by
  obtain ⟨A, c, A', c', rfl, h1, h2⟩ := id hu.v
  exact ⟨A, _, c, A', _, c', rfl, h.below hb, (h.below hb).setD hu h.b.ge⟩
abbrev Rp.tv (p : Rp) (s : Fo) : Value := .agg #[.slice p.T p.nT p.cT, .int .i64 s.q, .int .i64 (s.made : Int)]
abbrev Rp.dv (p : Rp) : Value := .agg #[.slice p.D p.nD p.cD, .slice p.O p.nO p.cO]
theorem RfC.get (h : RfC w W w1 X g0 g1 g2 g3 cc p s) (hok : s.Ok N) (hN : N ≤ 890) (k : List UInt8) :
    Calls Tryz.prog 41 #[p.dv, .string (txt k)] w1 fun e w2 => e = .returned (.tuple #[.int .i64 ((getE s.d.now k).getD 0), .bool (hasE s.d.now k)]) ∧ Below w1.heap.size w1 w2 := refGet_any h.b.pt.d hok.d (by omega) k
theorem RfC.list (h : RfC w W w1 X g0 g1 g2 g3 cc p s) (hok : s.Ok N) (hN : N ≤ 890) :
    Calls Tryz.prog 31 #[p.dv] w1 fun e w2 => ∃ A n c, e = .returned (.slice A n c) ∧ n = s.d.now.length ∧ EnXD w2 (AY w W X) A s.d.now ∧ Below w1.heap.size w1 w2 :=
  (refList_any h.b.pt.d hok.d (by omega)).mono fun e w2 ⟨A, n, c, e1, e2, e3, e4⟩ => ⟨A, n, c, e1, e2, e3.mono fun b _ (e : AY w W X b) => ⟨Nat.lt_of_lt_of_le e.1 h.b.ge, e⟩, e4⟩
theorem RfC.make (h : RfC w W w1 X g0 g1 g2 g3 cc p s) (hok : s.Ok N) (hN : N ≤ 890) (gg : Nat) {md : Nat} (hmd : s.made + 1 = md) :
    Calls Tryz.prog 78 #[p.tv s] w1 fun e w2 => ∃ u, e = .returned u ∧ TSt w W w2 X g0 g1 g2 g3 cc p s { s with made := md, fs := s.fs ++ [⟨(md : Int), gg, 0, []⟩] } u := by
  refine (rmake_any (hok.rl (by omega)) (by omega) (by have := hok.made; omega) h.b.pt.t).mono ?_
  rintro e w2 ⟨u, rfl, hb, hT⟩
  have e : (s.made : Int) + 1 = (md : Int) := by omega
  rw [e] at hT
  have hM : rmT s.fs ++ [⟨(md : Int), 0, []⟩] = rmT (s.fs ++ [⟨(md : Int), gg, 0, []⟩]) := by simp [rmT, rmF]
  rw [hM] at hT
  exact ⟨u, rfl, h.tst hb hT⟩
theorem Fo.Ok.make (h : s.Ok N) (gg : Nat) {md : Nat} (hmd : s.made + 1 = md) : ({ s with made := md, fs := s.fs ++ [⟨(md : Int), gg, 0, []⟩] } : Fo).Ok (N + 1) := by
  subst hmd
  have ht := tabOk h
  have hnum := ht.num
  refine ⟨h.d.more (by omega), fun pp mp => ⟨ht.q, by have := ht.made; show s.made + 1 ≤ N + 1; exact Nat.succ_le_succ this, ?_, ?_, fun f hf => ?_, fun f hf => ?_, fun f hf => ?_⟩, h.most, h.many, by have := h.tk; show s.tk.length ≤ N + 1; omega, h.num⟩
  · have := ht.len
    show (s.fs ++ [_]).length ≤ N + 1
    rw [List.length_append, List.length_singleton]
    exact Nat.succ_le_succ this
  · show (s.fs ++ [_]).Pairwise _
    rw [List.pairwise_append]
    refine ⟨ht.sort, by simp, fun f hf y hy => ?_⟩
    rw [List.mem_singleton] at hy
    subst hy
    have := (hnum f hf).2
    show f.i < ((s.made + 1 : Nat) : Int)
    have e : f.i ≤ (s.made : Int) := this
    omega
  · rcases List.mem_append.1 hf with hf | hf
    · have h1 := hnum f hf
      have e : f.i ≤ (s.made : Int) := h1.2
      exact ⟨h1.1, by show f.i ≤ ((s.made + 1 : Nat) : Int); omega⟩
    · rw [List.mem_singleton] at hf; subst hf
      exact ⟨by show (1 : Int) ≤ ((s.made + 1 : Nat) : Int); omega, Int.le_refl _⟩
  · rcases List.mem_append.1 hf with hf | hf
    · exact ht.many f hf
    · rw [List.mem_singleton] at hf; subst hf
      exact ⟨by show (-9223372036854775808 : Int) ≤ 0; decide, by show (0 : Int) ≤ 9223372036854775807; decide⟩
  · rcases List.mem_append.1 hf with hf | hf
    · exact (ht.size f hf).mono (by omega)
    · rw [List.mem_singleton] at hf; subst hf
      exact ⟨Nat.zero_le _, by simp⟩
theorem Fo.Ok.doLink (h : s.Ok N) (z : Int) : ({ s with fs := (Proofs.YtbhmnmmockmibaaGreat.doLink s.fs z).1 } : Fo).Ok N := by
  unfold Proofs.YtbhmnmmockmibaaGreat.doLink
  cases hf : findF s.fs z with
  | none => exact h
  | some f => exact h.fs (Nat.le_refl _) fun pp mp => (h.t pp mp).upd (wrap_in _) ((h.t pp mp).size f (findF_mem hf).1) (Nat.le_refl _)
theorem RfC.link (h : RfC w W w1 X g0 g1 g2 g3 cc p s) (hok : s.Ok N) (hN : N ≤ 890) (z : Int) :
    Calls Tryz.prog 79 #[p.tv s, .int .i64 z] w1 fun e w2 => ∃ u, e = .returned (.tuple #[u, .int .i64 (doLink s.fs z).2]) ∧ TSt w W w2 X g0 g1 g2 g3 cc p s { s with fs := (doLink s.fs z).1 } u := by
  refine (rlinkT_any (z := z) (hok.rl (by omega)) hok.nm h.b.pt.t).mono ?_
  rintro e w2 ⟨u, er, rfl, hb, hT⟩
  obtain ⟨e1, e2⟩ := tie_link (P := fun M => RefT w2 (AX w1 (AY w W X)) u M s.q (s.made : Int)) hok.srt hT
  exact ⟨u, by rw [e1], h.tst hb e2⟩
theorem RfC.sync (h : RfC w W w1 X g0 g1 g2 g3 cc p s) (hok : s.Ok N) (hN : N ≤ 890) (z : Int) :
    Calls Tryz.prog 47 #[p.tv s, .int .i64 z] w1 fun e w2 => ∃ u, e = .returned (.tuple #[u, .int .i64 (doSync s.fs z).2]) ∧ TSt w W w2 X g0 g1 g2 g3 cc p s { s with fs := (doSync s.fs z).1 } u := by
  refine (rsyncT_any (z := z) (hok.rl (by omega)) (hok.sm (by omega)) h.b.pt.t).mono ?_
  rintro e w2 ⟨u, er, rfl, hb, hT⟩
  obtain ⟨e1, e2⟩ := tie_sync (P := fun M => RefT w2 (AX w1 (AY w W X)) u M s.q (s.made : Int)) hok.srt hT
  exact ⟨u, by rw [e1], h.tst hb e2⟩
theorem RfC.drop (h : RfC w W w1 X g0 g1 g2 g3 cc p s) (hok : s.Ok N) (hN : N ≤ 890) (z : Int) :
    Calls Tryz.prog 81 #[p.tv s, .int .i64 z] w1 fun e w2 => ∃ u, e = .returned (.tuple #[u, .int .i64 (doDrop s.fs z).2]) ∧ TSt w W w2 X g0 g1 g2 g3 cc p s { s with fs := (doDrop s.fs z).1 } u := by
  refine (rdropT_any (z := z) (hok.rl (by omega)) hok.nm h.b.pt.t).mono ?_
  rintro e w2 ⟨u, er, rfl, hb, hT⟩
  obtain ⟨e1, e2⟩ := tie_drop (P := fun M => RefT w2 (AX w1 (AY w W X)) u M s.q (s.made : Int)) hok.srt hT
  exact ⟨u, by rw [e1], h.tst hb e2⟩
theorem RfC.app (h : RfC w W w1 X g0 g1 g2 g3 cc p s) (hok : s.Ok N) (hN : N ≤ 890) (z : Int) {Ab : Option Addr} {cb B m : Nat} {bl : List UInt8} (hu : (usedF s.fs : Int) ≤ s.q) (hm : bl.length = m) (hm2 : m ≤ 100000) (hB : B ≤ w1.heap.size) (hbl : RdB w1 B Ab bl) :
    Calls Tryz.prog 46 #[p.tv s, .int .i64 z, .slice Ab m cb] w1 fun e w2 => ∃ u, e = .returned (.tuple #[u, .int .i64 (doApp s.q s.fs z bl).2]) ∧ TSt w W w2 X g0 g1 g2 g3 cc p s { s with fs := (doApp s.q s.fs z bl).1 } u := by
  refine (rappT_any (z := z) (cb := cb) (hok.rl (by omega)) (hok.sm (by omega)) h.b.pt.t hm hm2 hB hbl).mono ?_
  rintro e w2 ⟨u, er, rfl, hb, hT⟩
  obtain ⟨e1, e2⟩ := tie_app (P := fun M => RefT w2 (AX w1 (AY w W X)) u M s.q (s.made : Int)) hok.srt hu hm hT
  exact ⟨u, by rw [e1], h.tst hb e2⟩
theorem RfC.bytes (h : RfC w W w1 X g0 g1 g2 g3 cc p s) (hok : s.Ok N) (hN : N ≤ 890) (z : Int) :
    Calls Tryz.prog 49 #[p.tv s, .int .i64 z] w1 fun e w2 => ∃ A c n, e = .returned (.tuple #[.slice A n c, .int .i64 (bytesF s.fs z).2]) ∧ n = (bytesF s.fs z).1.length ∧ BsX w2 (AY w W X) A (bytesF s.fs z).1 ∧ (∃ (B : Nat), w2.ownsRow w1.heap.size 5 1 (.slice A n c) n (bs (bytesF s.fs z).1) ∨ n = B ∧ B = 0) ∧ Below w1.heap.size w1 w2 := by
  refine (rbytesT_any (z := z) (hok.rl (by omega)) (hok.sm (by omega)) h.b.pt.t).mono ?_
  rintro e w2 ⟨A, c, n, er, rfl, hb, hT⟩
  unfold bytesF
  rcases hT with ⟨rfl, hn, rfl⟩ | ⟨rfl, k, x, hx, hz, rfl, ho⟩
  · rw [rmT_none hn]
    exact ⟨A, c, 0, rfl, rfl, RdX.none_, ⟨0, .inr ⟨rfl, rfl⟩⟩, hb⟩
  · obtain ⟨f, hf, hff, rfl⟩ := rmT_some hok.srt hx hz
    rw [hff]
    exact ⟨A, c, _, rfl, rfl, own_avoid ho fun b (e : AY w W X b) => Nat.lt_of_lt_of_le e.1 h.b.ge, ⟨0, .inl ho⟩, hb⟩
theorem RfC.add (h : RfC w W w1 X g0 g1 g2 g3 cc p s) (hok : s.Ok N) (hN : N ≤ 890) (k : List UInt8) (v : Int) (hs : SzD (k, v)) (hk : k ≠ []) (hv : 0 ≤ v) (hn : hasE s.d.now k = false) :
    Calls Tryz.prog 80 #[p.dv, .string (txt k), .int .i64 v] w1 fun e w2 => ∃ u, e = .returned (.tuple #[u, .int .i64 0]) ∧ DSt' w W w2 X g0 g1 g2 g3 cc p s { s with d := s.d.addE k v } u := by
  have e0 : s.d.add k v = (s.d.addE k v, 0) := by unfold St.add; rw [if_neg (by rintro (e | e); exact hk e; omega), if_neg (by rw [hn]; decide)]
  refine (refAdd_any h.b.pt.d hok.d (by omega) k v hs.k hs.v).mono ?_
  rw [e0]
  rintro e w2 ⟨u, rfl, hu, hb⟩
  exact ⟨u, rfl, h.dst hb hu⟩
theorem RfC.remove (h : RfC w W w1 X g0 g1 g2 g3 cc p s) (hok : s.Ok N) (hN : N ≤ 890) (k : List UInt8) (hk : k.length ≤ 1000) {v : Int} (hg : getE s.d.now k = some v) :
    Calls Tryz.prog 48 #[p.dv, .string (txt k)] w1 fun e w2 => ∃ u, e = .returned (.tuple #[u, .int .i64 v, .int .i64 0]) ∧ DSt' w W w2 X g0 g1 g2 g3 cc p s { s with d := s.d.rem k v } u := by
  have e0 : s.d.remove k = (s.d.rem k v, v, 0) := by unfold St.remove; rw [hg]
  refine (refRemove_any h.b.pt.d hok.d (by omega) k hk).mono ?_
  rw [e0]
  rintro e w2 ⟨u, rfl, hu, hb⟩
  exact ⟨u, rfl, h.dst hb hu⟩
end
end Go.Proofs.YtbhmnmmockmibaaGreat
