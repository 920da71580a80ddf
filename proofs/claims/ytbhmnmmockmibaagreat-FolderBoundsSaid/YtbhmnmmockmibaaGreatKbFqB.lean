/- The reference's folders as values; in a box; the walks of fails, New. Conditions: none. The reference's New; a call's boxes; the walk of its create. Conditions: at most 880 calls; names of at most 1000 bytes. -/
import Derived.Test.YtbhmnmmockmibaaGreatKbFoM
import Derived.Test.YtbhmnmmockmibaaGreatKbFuA
import Derived.Test.YtbhmnmmockmibaaGreatKbFoB
namespace Go.Proofs.YtbhmnmmockmibaaGreat
open Go.RowKit
/-- A folder of the reference: where its rows lie. -/
structure Rp where
  D : Option Addr
  nD : Nat
  cD : Nat
  O : Option Addr
  nO : Nat
  cO : Nat
  T : Option Addr
  nT : Nat
  cT : Nat
  G : Option Addr
  cG : Nat
def Rp.cs (p : Rp) (s : Fo) : Array Value := #[.slice p.D p.nD p.cD, .slice p.O p.nO p.cO, .slice p.T p.nT p.cT, .int .i64 s.q, .int .i64 (s.made : Int), .int .i64 s.most, .slice p.G s.tk.length p.cG]
structure RfP (w : World) (X : Nat → Prop) (p : Rp) (s : Fo) : Prop where
  d : RefV w X (.agg #[.slice p.D p.nD p.cD, .slice p.O p.nO p.cO]) s.d
  t : RefT w X (.agg #[.slice p.T p.nT p.cT, .int .i64 s.q, .int .i64 (s.made : Int)]) (rmT s.fs) s.q (s.made : Int)
  g : RdX w X 1 p.G s.tk.length (ics s.tk)
def RefF (w : World) (X : Nat → Prop) (v : Value) (s : Fo) : Prop := ∃ p : Rp, v = .agg (p.cs s) ∧ RfP w X p s
section
variable {w w' w1 w2 W : World} {X Y : Nat → Prop} {p : Rp} {s : Fo} {v : Value}
theorem RfP.keep (h : RfP w X p s) (ht : Touch X w w') : RfP w' X p s := ⟨h.d.keep ht, h.t.keep ht, h.g.keep ht⟩
theorem RfP.below (h : RfP w X p s) (ht : Below w.heap.size w w') : RfP w' X p s := h.keep (.of ht)
theorem RfP.mono (h : RfP w X p s) (hx : ∀ b, b < w.heap.size → Y b → X b) : RfP w Y p s := ⟨h.d.mono hx, h.t.mono hx, h.g.mono hx⟩
theorem RefF.keep (h : RefF w X v s) (ht : Touch X w w') : RefF w' X v s := by
  obtain ⟨p, e, h⟩ := h
  exact ⟨p, e, h.keep ht⟩
theorem RefF.below (h : RefF w X v s) (ht : Below w.heap.size w w') : RefF w' X v s := h.keep (.of ht)
theorem RefF.mono (h : RefF w X v s) (hx : ∀ b, b < w.heap.size → Y b → X b) : RefF w Y v s := by
  obtain ⟨p, e, h⟩ := h
  exact ⟨p, e, h.mono hx⟩
theorem size_rf : (Tryz.prog.info? 36).map (·.size) = some 7 := by kernel_rfl
theorem size_rr : (Tryz.prog.info? 53).map (·.size) = some 3 := by kernel_rfl
theorem ret_rf {fn : Func} {R : Ending → World → Prop} {p : Tmp} (h : fn.results = #[.cell p 36]) {a : Act} {w : World} (g : Nat) (cs : Array Value) (hcs : cs.size = 7) (t : TypeId) (fr : Nat × Nat)
    (hp : a.tmps.getD p undef = .pointer (some ⟨g, 0, none⟩)) (hg : w.heap[g]? = some (.cells cs t fr)) (hd : a.defers = []) (hR : R (.returned (.agg cs)) w) : bodyPost Tryz.prog fn R .ret a w := by
  refine bodyPost_ret (v := .agg cs) ?_ hd hR
  have hp' : a.tmps[p]?.getD undef = .pointer (some ⟨g, 0, none⟩) := by simpa using hp
  have hty := run_loadVar_row (P := Tryz.prog) w g t 36 cs fr _ hg Tryz.underlying36 rfl (by rw [hcs]; exact size_rf)
  simp [results, h, hp', asAddr, hty]
theorem ret_rfr {fn : Func} {R : Ending → World → Prop} {p q : Tmp} (h : fn.results = #[.cell p 36, .cell q 53]) {a : Act} {w : World} (g g' : Nat) (cs ds : Array Value) (hcs : cs.size = 7) (hds : ds.size = 3) (t t' : TypeId) (fr fr' : Nat × Nat)
    (hp : a.tmps.getD p undef = .pointer (some ⟨g, 0, none⟩)) (hq : a.tmps.getD q undef = .pointer (some ⟨g', 0, none⟩)) (hg : w.heap[g]? = some (.cells cs t fr)) (hg' : w.heap[g']? = some (.cells ds t' fr')) (hd : a.defers = []) (hR : R (.returned (.tuple #[.agg cs, .agg ds])) w) : bodyPost Tryz.prog fn R .ret a w := by
  refine bodyPost_ret (v := .tuple #[.agg cs, .agg ds]) ?_ hd hR
  have hp' : a.tmps[p]?.getD undef = .pointer (some ⟨g, 0, none⟩) := by simpa using hp
  have hq' : a.tmps[q]?.getD undef = .pointer (some ⟨g', 0, none⟩) := by simpa using hq
  have hty := run_loadVar_row (P := Tryz.prog) w g t 36 cs fr _ hg Tryz.underlying36 rfl (by rw [hcs]; exact size_rf)
  have hty' := run_loadVar_row (P := Tryz.prog) w g' t' 53 ds fr' _ hg' Tryz.underlying53 rfl (by rw [hds]; exact size_rr)
  simp [results, h, hp', hq', asAddr, hty, hty']
theorem sept_cell {g : Nat} {x y z a b c d : Value} {T : TypeId} (h : w.heap[g]? = some (.cells #[x, y, z, a, b, c, d] T (0, 0))) : w.cell? ⟨g, 0, none⟩ = some x ∧ w.cell? ⟨g, 1, none⟩ = some y ∧ w.cell? ⟨g, 2, none⟩ = some z ∧ w.cell? ⟨g, 3, none⟩ = some a ∧ w.cell? ⟨g, 4, none⟩ = some b ∧ w.cell? ⟨g, 5, none⟩ = some c ∧ w.cell? ⟨g, 6, none⟩ = some d :=
  ⟨by rw [cell_of_row w g 0 _ _ _ h]; rfl, by rw [cell_of_row w g 1 _ _ _ h]; rfl, by rw [cell_of_row w g 2 _ _ _ h]; rfl, by rw [cell_of_row w g 3 _ _ _ h]; rfl, by rw [cell_of_row w g 4 _ _ _ h]; rfl, by rw [cell_of_row w g 5 _ _ _ h]; rfl, by rw [cell_of_row w g 6 _ _ _ h]; rfl⟩
end
abbrev zrf : Array Value := #[.slice none 0 0, .slice none 0 0, .slice none 0 0, .int .i64 0, .int .i64 0, .int .i64 0, .slice none 0 0]
/-- Cells of a folder of the reference. -/
structure Sev (cs : Array Value) : Prop where
  n : cs.size = 7
  one : cs.all (·.oneCell') = true
theorem Rp.sev (p : Rp) (s : Fo) : Sev (p.cs s) := ⟨rfl, by simp [Rp.cs, Value.oneCell']⟩
set_option maxHeartbeats 2000000 in
set_option maxRecDepth 100000 in
theorem rfails_any {cs : Array Value} (hk : Sev cs) (e : Int) (w : World) :
    Calls Tryz.prog 45 #[.agg cs, .int .i64 e] w fun en w' => en = .returned (.tuple #[.agg cs, .agg #[.int .i64 e, .slice none 0 0, .slice none 0 0]]) ∧ Below w.heap.size w w' := by
  obtain ⟨W, hW⟩ : ∃ W, Hid (((w.alloc (.cells cs 36)).alloc (.cells zrf 36)).alloc (.cells #[.int .i64 0, .slice none 0 0, .slice none 0 0] 53) = W) := ⟨_, rfl⟩
  obtain ⟨g0, h0⟩ : ∃ g, Hid (w.heap.size = g) := ⟨_, rfl⟩
  obtain ⟨g1, h1⟩ : ∃ g, Hid (w.heap.size + 1 = g) := ⟨_, rfl⟩
  obtain ⟨g2, h2⟩ : ∃ g, Hid (w.heap.size + 1 + 1 = g) := ⟨_, rfl⟩
  obtain ⟨hs, e0, e1, e2⟩ := three_heap w (.cells cs 36) (.cells zrf 36) (.cells #[.int .i64 0, .slice none 0 0, .slice none 0 0] 53)
  rw [hW.out] at hs e0 e1 e2
  rw [h0.out] at e0
  rw [h1.out] at e1
  rw [h2.out] at e2
  have hb : Hid (Below w.heap.size w W) := by rw [← hW.out]; exact ((below_new _ _).alloc (by simp) _).alloc (by simp; omega) _
  have E0 := Lib.hid e0
  have E1 := Lib.hid e1
  have E2 := Lib.hid e2
  have Hs := Lib.hid hs
  clear e0 e1 e2 hs
  obtain ⟨W2, hW2⟩ : ∃ W2, Hid (W.setRow g1 cs = W2) := ⟨_, rfl⟩
  have hne : ¬ g2 = g1 := by have := h1.out; have := h2.out; omega
  have E22 : Hid (W2.heap[g2]? = some (.cells #[.int .i64 0, .slice none 0 0, .slice none 0 0] 53 (0, 0))) := by rw [← hW2.out]; exact (setRow_other _ _ _ _ hne).trans E2.out
  have E12 : Hid (W2.heap[g1]? = some (.cells cs 36 (0, 0))) := by rw [← hW2.out]; exact setRow_heap _ _ _ _ _ _ E1.out
  have hb2 : Hid (Below w.heap.size w W2) := by rw [← hW2.out]; exact below_setRow hb.out (by rw [← h1.out]; omega) _
  have m := tri_cell E22.out
  have f2 := fun i => d_frozen (i := i) E22.out
  go_enter Tryz.func45, Tryz.ntmps45
  go_upto_region 1 with fail
  rw [h2.out, h1.out, h0.out, show ((w.alloc (.cells cs 36)).alloc (.cells zrf 36)).alloc (.cells #[.int .i64 0, .slice none 0 0, .slice none 0 0] 53) = W from hW.out]
  go_wp2_with (first
    | (refine wpList_load_row rfl 36 (.tmp 2) rfl g0 rfl _ _ _ _ E0.out Tryz.underlying36 rfl (by rw [hk.n]; exact size_rf) ?_)
    | (refine wpList_store_row rfl 36 (.tmp 4) (.tmp 6) rfl g1 _ rfl rfl _ _ E1.out (by rw [hk.n]; exact size_rf) (by rw [hk.n]; rfl) hk.one ?_; rw [hW2.out]))
  have ht := Touch.tri W2 g2 (.int .i64 e) (.slice none 0 0) (.slice none 0 0)
  refine ret_rfr rfl g1 g2 cs _ hk.n rfl _ _ (0, 0) (0, 0) rfl rfl (ht.heap (fun e => hne e.symm) E12.out) (tri_set _ _ _ E22.out) rfl ?_
  exact ⟨rfl, hb2.out.trans (ht.below hb2.out.size fun b e => by have := h2.out; omega)⟩
theorem sev_setT {w : World} {g : Nat} {a b c d e f h x y z : Value} {T : TypeId} (hg : w.heap[g]? = some (.cells #[a, b, c, d, e, f, h] T (0, 0))) : (((w.setCell ⟨g, 2, none⟩ x).setCell ⟨g, 3, none⟩ y).setCell ⟨g, 4, none⟩ z).heap[g]? = some (.cells #[a, b, x, y, z, f, h] T (0, 0)) := by
  have h1 : (w.setCell ⟨g, 2, none⟩ x).heap[g]? = some (.cells #[a, b, x, d, e, f, h] T (0, 0)) := heap_setCell_same w g 2 _ _ x hg
  have h2 : ((w.setCell ⟨g, 2, none⟩ x).setCell ⟨g, 3, none⟩ y).heap[g]? = some (.cells #[a, b, x, y, e, f, h] T (0, 0)) := heap_setCell_same _ g 3 _ _ y h1
  exact heap_setCell_same _ g 4 _ _ z h2
theorem sev_setD {w : World} {g : Nat} {a b c d e f h x y : Value} {T : TypeId} (hg : w.heap[g]? = some (.cells #[a, b, c, d, e, f, h] T (0, 0))) : ((w.setCell ⟨g, 0, none⟩ x).setCell ⟨g, 1, none⟩ y).heap[g]? = some (.cells #[x, y, c, d, e, f, h] T (0, 0)) := by
  have h1 : (w.setCell ⟨g, 0, none⟩ x).heap[g]? = some (.cells #[x, b, c, d, e, f, h] T (0, 0)) := heap_setCell_same w g 0 _ _ x hg
  exact heap_setCell_same _ g 1 _ _ y h1
theorem sev_setG {w : World} {g : Nat} {a b c d e f h x : Value} {T : TypeId} (hg : w.heap[g]? = some (.cells #[a, b, c, d, e, f, h] T (0, 0))) : (w.setCell ⟨g, 6, none⟩ x).heap[g]? = some (.cells #[a, b, c, d, e, f, x] T (0, 0)) := heap_setCell_same w g 6 _ _ x hg
/-- A function's own copy of a folder, in the box g: it avoids what AY says. -/
structure RfB (w W w1 : World) (X : Nat → Prop) (g : Nat) (p : Rp) (s : Fo) : Prop where
  box : w1.heap[g]? = some (.cells (p.cs s) 36 (0, 0))
  pt : RfP w1 (AY w W X) p s
  bel : Below w.heap.size w w1
  ge : W.heap.size ≤ w1.heap.size
  lo : w.heap.size ≤ g ∧ g < W.heap.size
section
variable {w W w1 w2 w3 : World} {X Y : Nat → Prop} {g N : Nat} {p : Rp} {s : Fo}
theorem RfB.cells (h : RfB w W w1 X g p s) : w1.cell? ⟨g, 0, none⟩ = some (.slice p.D p.nD p.cD) ∧ w1.cell? ⟨g, 1, none⟩ = some (.slice p.O p.nO p.cO) ∧ w1.cell? ⟨g, 2, none⟩ = some (.slice p.T p.nT p.cT) ∧ w1.cell? ⟨g, 3, none⟩ = some (.int .i64 s.q) ∧ w1.cell? ⟨g, 4, none⟩ = some (.int .i64 (s.made : Int)) ∧ w1.cell? ⟨g, 5, none⟩ = some (.int .i64 s.most) ∧ w1.cell? ⟨g, 6, none⟩ = some (.slice p.G s.tk.length p.cG) := sept_cell h.box
theorem RfB.fz (h : RfB w W w1 X g p s) (i : Nat) : w1.frozen? ⟨g, i, none⟩ = false := d_frozen h.box
theorem RfB.below (h : RfB w W w1 X g p s) (hb : Below w1.heap.size w1 w2) : RfB w W w2 X g p s :=
  ⟨(hb.block g (Array.getElem?_eq_some_iff.1 h.box).1).trans h.box, h.pt.below hb, h.bel.trans (hb.mono h.bel.size), Nat.le_trans h.ge hb.size, h.lo⟩
theorem RfB.ay (_h : RfB w W w1 X g p s) {b : Nat} (hb : w.heap.size ≤ b) (hb2 : b < W.heap.size) : AY w W X b := ⟨hb2, .inr hb⟩
/-- Something else of the function's own changes. -/
theorem RfB.touch (h : RfB w W w1 X g p s) (ht : Touch (fun b => w.heap.size ≤ b ∧ b < W.heap.size ∧ b ≠ g) w1 w2) : RfB w W w2 X g p s :=
  ⟨ht.heap (fun e => e.2.2 rfl) h.box, h.pt.keep (ht.mono fun _ _ e => ⟨e.2.1, .inr e.1⟩), h.bel.trans (ht.below h.bel.size fun _ e => e.1), Nat.le_trans h.ge ht.size, h.lo⟩
theorem RfB.setT (h : RfB w W w1 X g p s) {A : Option Addr} {n c : Nat} {q : Int} {made : Nat} {fs : List Fi} (hu : RefT w1 (AX w3 (AY w W X)) (.agg #[.slice A n c, .int .i64 q, .int .i64 (made : Int)]) (rmT fs) q (made : Int)) (h3 : W.heap.size ≤ w3.heap.size) :
    RfB w W (((w1.setCell ⟨g, 2, none⟩ (.slice A n c)).setCell ⟨g, 3, none⟩ (.int .i64 q)).setCell ⟨g, 4, none⟩ (.int .i64 (made : Int))) X g { p with T := A, nT := n, cT := c } { s with q := q, made := made, fs := fs } := by
  have ht : Touch (fun b => b = g) w1 (((w1.setCell ⟨g, 2, none⟩ (.slice A n c)).setCell ⟨g, 3, none⟩ (.int .i64 q)).setCell ⟨g, 4, none⟩ (.int .i64 (made : Int))) := ((Touch.cell1 w1 g 2 _).trans (Touch.cell1 _ g 3 _)).trans (Touch.cell1 _ g 4 _)
  have hta := ht.mono (Y := AY w W X) fun b _ e => by rw [e]; exact h.ay h.lo.1 h.lo.2
  refine ⟨sev_setT h.box, ⟨h.pt.d.keep hta, (hu.mono fun b _ (e : AY w W X b) => ⟨Nat.lt_of_lt_of_le e.1 h3, e⟩).keep hta, h.pt.g.keep hta⟩, h.bel.trans (ht.below h.bel.size fun b e => by rw [e]; exact h.lo.1), Nat.le_trans h.ge ht.size, h.lo⟩
theorem RfB.setD (h : RfB w W w1 X g p s) {A A' : Option Addr} {n c n' c' : Nat} {d : St} (hu : RefV w1 (fun b => b < w3.heap.size ∧ AY w W X b) (.agg #[.slice A n c, .slice A' n' c']) d) (h3 : W.heap.size ≤ w3.heap.size) :
    RfB w W ((w1.setCell ⟨g, 0, none⟩ (.slice A n c)).setCell ⟨g, 1, none⟩ (.slice A' n' c')) X g { p with D := A, nD := n, cD := c, O := A', nO := n', cO := c' } { s with d := d } := by
  have ht : Touch (fun b => b = g) w1 ((w1.setCell ⟨g, 0, none⟩ (.slice A n c)).setCell ⟨g, 1, none⟩ (.slice A' n' c')) := (Touch.cell1 w1 g 0 _).trans (Touch.cell1 _ g 1 _)
  have hta := ht.mono (Y := AY w W X) fun b _ e => by rw [e]; exact h.ay h.lo.1 h.lo.2
  refine ⟨sev_setD h.box, ⟨(hu.mono fun b _ (e : AY w W X b) => ⟨Nat.lt_of_lt_of_le e.1 h3, e⟩).keep hta, h.pt.t.keep hta, h.pt.g.keep hta⟩, h.bel.trans (ht.below h.bel.size fun b e => by rw [e]; exact h.lo.1), Nat.le_trans h.ge ht.size, h.lo⟩
theorem RfB.setG (h : RfB w W w1 X g p s) {A : Option Addr} {c : Nat} {l : List Int} (hu : RdX w1 (AY w W X) 1 A l.length (ics l)) :
    RfB w W (w1.setCell ⟨g, 6, none⟩ (.slice A l.length c)) X g { p with G := A, cG := c } { s with tk := l } := by
  have ht := Touch.cell1 w1 g 6 (.slice A l.length c)
  have hta := ht.mono (Y := AY w W X) fun b _ e => by rw [e]; exact h.ay h.lo.1 h.lo.2
  refine ⟨sev_setG h.box, ⟨h.pt.d.keep hta, h.pt.t.keep hta, hu.keep hta⟩, h.bel.trans (ht.below h.bel.size fun b e => by rw [e]; exact h.lo.1), Nat.le_trans h.ge ht.size, h.lo⟩
/-- The answer. -/
theorem RfB.fin (h : RfB w W w1 X g p s) : RefF w1 (AX w X) (.agg (p.cs s)) s := ⟨p, rfl, h.pt.mono fun b _ (e : AX w X b) => ⟨Nat.lt_of_lt_of_le e.1 (by have := h.lo; omega), .inl e.2⟩⟩
/-- From the argument. -/
theorem RfB.start {v : Value} (hr : RefF w X v s) (hb : Below w.heap.size w W) (hl : w.heap.size ≤ g ∧ g < W.heap.size) (hg : ∀ p : Rp, v = .agg (p.cs s) → W.heap[g]? = some (.cells (p.cs s) 36 (0, 0))) : ∃ p, v = .agg (p.cs s) ∧ RfB w W W X g p s := by
  obtain ⟨p, rfl, hp⟩ := hr
  refine ⟨p, rfl, hg p rfl, ?_, hb, Nat.le_refl _, hl⟩
  have h1 : RfP w (fun b => X b ∨ w.heap.size ≤ b) p s := by
    obtain ⟨A, c, A', c', e, h1, h2⟩ := hp.d.v
    obtain ⟨A2, c2, es, e2, h3, h4⟩ := hp.t
    exact ⟨⟨A, c, A', c', e, h1.high', h2.high'⟩, ⟨A2, c2, es, e2, h3.high, h4⟩, hp.g.high'⟩
  exact (h1.below hb).mono fun b _ (e : AY w W X b) => e.2
end
end Go.Proofs.YtbhmnmmockmibaaGreat

namespace Go.Proofs.YtbhmnmmockmibaaGreat
open Go.RowKit
/-- A function's boxes: the folder, the call, and the answers'. -/
structure RfC (w W w1 : World) (X : Nat → Prop) (g0 g1 g2 g3 : Nat) (cc : Array Value) (p : Rp) (s : Fo) : Prop where
  b : RfB w W w1 X g0 p s
  call : w1.heap[g1]? = some (.cells cc 46 (0, 0))
  r1 : w1.heap[g2]? = some (.cells zrf 36 (0, 0))
  r2 : w1.heap[g3]? = some (.cells #[.int .i64 0, .slice none 0 0, .slice none 0 0] 53 (0, 0))
  ne : g0 = w.heap.size ∧ g1 = w.heap.size + 1 ∧ g2 = w.heap.size + 1 + 1 ∧ g3 = w.heap.size + 1 + 1 + 1 ∧ w.heap.size + 4 ≤ W.heap.size
section
variable {w W w1 w2 w3 : World} {X Y : Nat → Prop} {g0 g1 g2 g3 N : Nat} {cc : Array Value} {p : Rp} {s : Fo}
theorem RfC.below (h : RfC w W w1 X g0 g1 g2 g3 cc p s) (hb : Below w1.heap.size w1 w2) : RfC w W w2 X g0 g1 g2 g3 cc p s :=
  ⟨h.b.below hb, (hb.block _ (Array.getElem?_eq_some_iff.1 h.call).1).trans h.call, (hb.block _ (Array.getElem?_eq_some_iff.1 h.r1).1).trans h.r1, (hb.block _ (Array.getElem?_eq_some_iff.1 h.r2).1).trans h.r2, h.ne⟩
theorem RfC.box {p' : Rp} {s' : Fo} (h : RfC w W w1 X g0 g1 g2 g3 cc p s) (ht : Touch (fun b => b = g0) w1 w2) (hb : RfB w W w2 X g0 p' s') : RfC w W w2 X g0 g1 g2 g3 cc p' s' := by
  have hn := h.ne
  exact ⟨hb, ht.heap (show ¬ g1 = g0 by omega) h.call, ht.heap (show ¬ g2 = g0 by omega) h.r1, ht.heap (show ¬ g3 = g0 by omega) h.r2, h.ne⟩
theorem RfC.setT (h : RfC w W w1 X g0 g1 g2 g3 cc p s) {A : Option Addr} {n c : Nat} {q : Int} {made : Nat} {fs : List Fi} (hu : RefT w1 (AX w3 (AY w W X)) (.agg #[.slice A n c, .int .i64 q, .int .i64 (made : Int)]) (rmT fs) q (made : Int)) (h3 : W.heap.size ≤ w3.heap.size) :
    RfC w W (((w1.setCell ⟨g0, 2, none⟩ (.slice A n c)).setCell ⟨g0, 3, none⟩ (.int .i64 q)).setCell ⟨g0, 4, none⟩ (.int .i64 (made : Int))) X g0 g1 g2 g3 cc { p with T := A, nT := n, cT := c } { s with q := q, made := made, fs := fs } :=
  h.box (((Touch.cell1 w1 g0 2 _).trans (Touch.cell1 _ g0 3 _)).trans (Touch.cell1 _ g0 4 _)) (h.b.setT hu h3)
theorem RfC.setD (h : RfC w W w1 X g0 g1 g2 g3 cc p s) {A A' : Option Addr} {n c n' c' : Nat} {d : St} (hu : RefV w1 (fun b => b < w3.heap.size ∧ AY w W X b) (.agg #[.slice A n c, .slice A' n' c']) d) (h3 : W.heap.size ≤ w3.heap.size) :
    RfC w W ((w1.setCell ⟨g0, 0, none⟩ (.slice A n c)).setCell ⟨g0, 1, none⟩ (.slice A' n' c')) X g0 g1 g2 g3 cc { p with D := A, nD := n, cD := c, O := A', nO := n', cO := c' } { s with d := d } :=
  h.box ((Touch.cell1 w1 g0 0 _).trans (Touch.cell1 _ g0 1 _)) (h.b.setD hu h3)
theorem RfC.setG (h : RfC w W w1 X g0 g1 g2 g3 cc p s) {A : Option Addr} {c : Nat} {l : List Int} (hu : RdX w1 (AY w W X) 1 A l.length (ics l)) :
    RfC w W (w1.setCell ⟨g0, 6, none⟩ (.slice A l.length c)) X g0 g1 g2 g3 cc { p with G := A, cG := c } { s with tk := l } :=
  h.box (Touch.cell1 w1 g0 6 _) (h.b.setG hu)
theorem RfC.start {v : Value} (hr : RefF w X v s) (hW : ∀ cs, v = .agg cs → (((w.alloc (.cells cs 36)).alloc (.cells cc 46)).alloc (.cells zrf 36)).alloc (.cells #[.int .i64 0, .slice none 0 0, .slice none 0 0] 53) = W) :
    ∃ p, v = .agg (p.cs s) ∧ RfC w W W X w.heap.size (w.heap.size + 1) (w.heap.size + 1 + 1) (w.heap.size + 1 + 1 + 1) cc p s := by
  obtain ⟨p0, e0, _⟩ := id hr
  have h4 := four_heap w (.cells (p0.cs s) 36) (.cells cc 46) (.cells zrf 36) (.cells #[.int .i64 0, .slice none 0 0, .slice none 0 0] 53)
  have hw := hW _ e0
  rw [hw] at h4
  obtain ⟨hs, e1, e2, e3, e4⟩ := h4
  have hb : Below w.heap.size w W := by rw [← hw]; exact (((below_new _ _).alloc (by simp) _).alloc (by simp; omega) _).alloc (by simp; omega) _
  obtain ⟨p, e, h⟩ := RfB.start (g := w.heap.size) hr hb (by omega) fun p e => by
    have : p.cs s = p0.cs s := by
      rw [e] at e0
      injection e0
    rw [this]
    exact e1
  exact ⟨p, e, h, e2, e3, e4, rfl, rfl, rfl, rfl, by omega⟩
/-- The last stores: the folder whole, the answer. -/
theorem RfC.fin (h : RfC w W w1 X g0 g1 g2 g3 cc p s) {cs : Array Value} (hcs : p.cs s = cs) (x y z : Value) :
    (w1.setRow g2 cs).heap[g3]? = some (.cells #[.int .i64 0, .slice none 0 0, .slice none 0 0] 53 (0, 0)) ∧
    ((((w1.setRow g2 cs).setCell ⟨g3, 0, none⟩ x).setCell ⟨g3, 1, none⟩ y).setCell ⟨g3, 2, none⟩ z).heap[g2]? = some (.cells cs 36 (0, 0)) ∧
    ((((w1.setRow g2 cs).setCell ⟨g3, 0, none⟩ x).setCell ⟨g3, 1, none⟩ y).setCell ⟨g3, 2, none⟩ z).heap[g3]? = some (.cells #[x, y, z] 53 (0, 0)) ∧
    RefF ((((w1.setRow g2 cs).setCell ⟨g3, 0, none⟩ x).setCell ⟨g3, 1, none⟩ y).setCell ⟨g3, 2, none⟩ z) (AX w X) (.agg cs) s ∧ Below w.heap.size w ((((w1.setRow g2 cs).setCell ⟨g3, 0, none⟩ x).setCell ⟨g3, 1, none⟩ y).setCell ⟨g3, 2, none⟩ z) ∧
    Touch (fun b => b = g2 ∨ b = g3) w1 ((((w1.setRow g2 cs).setCell ⟨g3, 0, none⟩ x).setCell ⟨g3, 1, none⟩ y).setCell ⟨g3, 2, none⟩ z) := by
  subst hcs
  have hn := h.ne
  have e3 := (setRow_other w1 g2 g3 (p.cs s) (by omega)).trans h.r2
  have e2 : (w1.setRow g2 (p.cs s)).heap[g2]? = some (.cells (p.cs s) 36 (0, 0)) := setRow_heap _ _ _ _ _ _ h.r1
  have ht := Touch.tri (w1.setRow g2 (p.cs s)) g3 x y z
  have hT : Touch (fun b => b = g2 ∨ b = g3) w1 ((((w1.setRow g2 (p.cs s)).setCell ⟨g3, 0, none⟩ x).setCell ⟨g3, 1, none⟩ y).setCell ⟨g3, 2, none⟩ z) := ((Touch.row1 w1 g2 (p.cs s)).mono fun _ _ e => Or.inl e).trans (ht.mono fun _ _ e => Or.inr e)
  have hb := h.b.touch (hT.mono fun b _ e => by
    rcases e with e | e <;> (rw [e]; omega))
  exact ⟨e3, ht.heap (show ¬ g2 = g3 by omega) e2, tri_set x y z e3, hb.fin, hb.bel, hT⟩
theorem RfC.last (h : RfC w W w1 X g0 g1 g2 g3 cc p s) : ∃ W9, Hid (w1.setRow g2 (p.cs s) = W9) ∧ (W9.cell? ⟨g3, 0, none⟩ = some (.int .i64 0) ∧ W9.cell? ⟨g3, 1, none⟩ = some (.slice none 0 0) ∧ W9.cell? ⟨g3, 2, none⟩ = some (.slice none 0 0)) ∧ (∀ i, W9.frozen? ⟨g3, i, none⟩ = false) ∧
    Hid (∀ x y z, (((W9.setCell ⟨g3, 0, none⟩ x).setCell ⟨g3, 1, none⟩ y).setCell ⟨g3, 2, none⟩ z).heap[g2]? = some (.cells (p.cs s) 36 (0, 0)) ∧
      (((W9.setCell ⟨g3, 0, none⟩ x).setCell ⟨g3, 1, none⟩ y).setCell ⟨g3, 2, none⟩ z).heap[g3]? = some (.cells #[x, y, z] 53 (0, 0)) ∧
      RefF (((W9.setCell ⟨g3, 0, none⟩ x).setCell ⟨g3, 1, none⟩ y).setCell ⟨g3, 2, none⟩ z) (AX w X) (.agg (p.cs s)) s ∧ Below w.heap.size w (((W9.setCell ⟨g3, 0, none⟩ x).setCell ⟨g3, 1, none⟩ y).setCell ⟨g3, 2, none⟩ z) ∧ Touch (fun b => b = g2 ∨ b = g3) w1 (((W9.setCell ⟨g3, 0, none⟩ x).setCell ⟨g3, 1, none⟩ y).setCell ⟨g3, 2, none⟩ z)) := by
  have e := (h.fin rfl (.int .i64 0) (.int .i64 0) (.int .i64 0)).1
  exact ⟨_, Lib.hid rfl, tri_cell e, fun i => d_frozen e, Lib.hid fun x y z => (h.fin rfl x y z).2⟩
/-- The same, the folder's cells by a letter. -/
theorem RfC.last2 (h : RfC w W w1 X g0 g1 g2 g3 cc p s) : ∃ cs W9, Hid (Sev cs) ∧ Hid (w1.heap[g0]? = some (.cells cs 36 (0, 0))) ∧ Hid (w1.heap[g2]? = some (.cells zrf 36 (0, 0))) ∧ Hid (w1.setRow g2 cs = W9) ∧ (W9.cell? ⟨g3, 0, none⟩ = some (.int .i64 0) ∧ W9.cell? ⟨g3, 1, none⟩ = some (.slice none 0 0) ∧ W9.cell? ⟨g3, 2, none⟩ = some (.slice none 0 0)) ∧ (∀ i, W9.frozen? ⟨g3, i, none⟩ = false) ∧
    Hid (∀ x y z, (((W9.setCell ⟨g3, 0, none⟩ x).setCell ⟨g3, 1, none⟩ y).setCell ⟨g3, 2, none⟩ z).heap[g2]? = some (.cells cs 36 (0, 0)) ∧
      (((W9.setCell ⟨g3, 0, none⟩ x).setCell ⟨g3, 1, none⟩ y).setCell ⟨g3, 2, none⟩ z).heap[g3]? = some (.cells #[x, y, z] 53 (0, 0)) ∧
      RefF (((W9.setCell ⟨g3, 0, none⟩ x).setCell ⟨g3, 1, none⟩ y).setCell ⟨g3, 2, none⟩ z) (AX w X) (.agg cs) s ∧ Below w.heap.size w (((W9.setCell ⟨g3, 0, none⟩ x).setCell ⟨g3, 1, none⟩ y).setCell ⟨g3, 2, none⟩ z) ∧ Touch (fun b => b = g2 ∨ b = g3) w1 (((W9.setCell ⟨g3, 0, none⟩ x).setCell ⟨g3, 1, none⟩ y).setCell ⟨g3, 2, none⟩ z)) := by
  obtain ⟨W9, h1, h2, h3, h4⟩ := h.last
  exact ⟨p.cs s, W9, Lib.hid (p.sev s), Lib.hid h.b.box, Lib.hid h.r1, h1, h2, h3, h4⟩
theorem RefF.many {v : Value} (h : RefF w1 X v s) (m : Int) : RefF w1 X v { s with many := m } := by
  obtain ⟨p, e, h1, h2, h3⟩ := h
  exact ⟨p, e, h1, h2, h3⟩
end
theorem RefF.new {w' : World} {X : Nat → Prop} {A : Option Addr} {c n : Nat} {bytes entries : Int} (h : RefT w' X (.agg #[.slice A n c, .int .i64 (max bytes 0), .int .i64 0]) [] (max bytes 0) 0) : RefF w' X (.agg #[.slice none 0 0, .slice none 0 0, .slice A n c, .int .i64 (max bytes 0), .int .i64 0, .int .i64 (max entries 0), .slice none 0 0]) (Fo.new bytes entries) :=
  ⟨⟨none, 0, 0, none, 0, 0, A, n, c, none, 0⟩, rfl, RefV.new w' X, h, RdX.none_⟩
set_option maxHeartbeats 2000000 in
set_option maxRecDepth 100000 in
theorem rnewF_any {X : Nat → Prop} (bytes entries : Int) (w : World) (h1 : -9223372036854775808 ≤ bytes) (h2 : bytes ≤ 9223372036854775807) (_h3 : -9223372036854775808 ≤ entries) (_h4 : entries ≤ 9223372036854775807) (hX : ∀ b, X b → b < w.heap.size) :
    Calls Tryz.prog 9 #[.int .i64 bytes, .int .i64 entries] w fun e w' => ∃ u, e = .returned u ∧ Below w.heap.size w w' ∧ RefF w' X u (Fo.new bytes entries) := by
  obtain ⟨W, hW⟩ : ∃ W, Hid (w.alloc (.cells zrf 36) = W) := ⟨_, rfl⟩
  obtain ⟨g0, h0⟩ : ∃ g, Hid (w.heap.size = g) := ⟨_, rfl⟩
  have hb : Hid (Below w.heap.size w W) := by rw [← hW.out]; exact below_new _ _
  have hg : Hid (W.heap[g0]? = some (.cells zrf 36 (0, 0))) := by rw [← hW.out, ← h0.out]; exact heap_alloc_new _ _
  have hn := Lib.hid (rnew_any (X := fun b => b = g0 ∨ X b) bytes W h1 h2)
  have HX := Lib.hid hX
  clear h1 h2 hX
  obtain ⟨q, hq⟩ : ∃ q, Hid (max bytes 0 = q) := ⟨_, rfl⟩
  rw [hq.out] at hn
  go_enter Tryz.func9, Tryz.ntmps9
  go_upto_region 1 with fail
  rw [h0.out, show w.alloc (.cells zrf 36) = W from hW.out]
  go_wp2_with (first
    | (refine wpList_store_row rfl 36 (.tmp 4) (.tmp 9) rfl g0 _ rfl rfl _ _ hg1.out size_rf rfl (by simp [Value.oneCell']) ?_)
    | (go_at_call 26; refine hn.out.mono ?_; rintro e w1 ⟨u, rfl, hb1, hT⟩; have HT := Lib.hid hT; obtain ⟨A, c, es, rfl, _, _⟩ := hT; have Hb1 := Lib.hid hb1; have hg1 := Lib.hid ((hb1.block _ (Array.getElem?_eq_some_iff.1 hg.out).1).trans hg.out); clear hb1))
  rw [Int.max_comm 0 entries]
  refine ret_rf rfl g0 _ rfl _ (0, 0) rfl (setRow_heap _ _ _ _ _ _ hg1.out) rfl ?_
  have ht := Touch.row1 w1 g0 #[.slice none 0 0, .slice none 0 0, .slice A es.length c, .int .i64 q, .int .i64 0, .int .i64 (max entries 0), .slice none 0 0]
  refine ⟨_, rfl, (hb.out.trans (Hb1.out.mono hb.out.size)).trans (ht.below (Nat.le_trans hb.out.size Hb1.out.size) fun b e => by rw [e, ← h0.out]; exact Nat.le_refl _), ?_⟩
  have h5 := (HT.out.keep (ht.mono fun b _ e => .inl e)).mono (Y := X) fun b _ e => .inr e
  rw [← hq.out] at h5 ⊢
  exact RefF.new h5
end Go.Proofs.YtbhmnmmockmibaaGreat
