/- What each call of the reference's table and directory does to a folder in its box. Conditions: at most 880 calls; names of at most 1000 bytes. The walk of the reference's create. Conditions: at most 880 calls; names of at most 1000 bytes. -/
import Derived.Test.YtbhmnmmockmibaaGreatKkFqB
import Derived.Deep.RegionHeld3
namespace Go.Proofs.YtbhmnmmockmibaaGreat
open Go.RowKit
section
variable {w W w1 w2 w3 : World} {X Y : Nat → Prop} {g0 g1 g2 g3 N : Nat} {cc : Array Value} {p : Rp} {s : Fo}
theorem tabOk (h : s.Ok N) : (⟨⟨.map none, .map none, .map none, .map none, .map none⟩, s.q, s.made, none, s.fs⟩ : Tb).Ok N := h.t _ _
theorem Fo.Ok.sm (h : s.Ok N) (hN : N ≤ 900) : ∀ x ∈ rmT s.fs, SmM x.m := by
  intro x hx
  obtain ⟨f, hf, rfl⟩ := List.mem_map.1 hx
  exact ((tabOk h).size f hf).sm (by omega)
theorem Fo.Ok.nm (h : s.Ok N) : ∀ x ∈ rmT s.fs, -9223372036854775808 ≤ x.n ∧ x.n ≤ 9223372036854775807 := by
  intro x hx
  obtain ⟨f, hf, rfl⟩ := List.mem_map.1 hx
  exact (tabOk h).many f hf
theorem Fo.Ok.rl (h : s.Ok N) (hN : N ≤ 900) : (rmT s.fs).length ≤ 1000 := by rw [rmT_len]; exact Nat.le_trans (tabOk h).len (by omega)
theorem Fo.Ok.srt (h : s.Ok N) : s.fs.Pairwise fun a b => a.i < b.i := (tabOk h).sort
theorem Fo.Ok.made (h : s.Ok N) : s.made ≤ N := (tabOk h).made
/-- The world with another table in the box. -/
abbrev tset (w : World) (g : Nat) (A : Option Addr) (n c : Nat) (q l : Int) : World := ((w.setCell ⟨g, 2, none⟩ (.slice A n c)).setCell ⟨g, 3, none⟩ (.int .i64 q)).setCell ⟨g, 4, none⟩ (.int .i64 l)
abbrev dset (w : World) (g : Nat) (A A' : Option Addr) (n c n' c' : Nat) : World := (w.setCell ⟨g, 0, none⟩ (.slice A n c)).setCell ⟨g, 1, none⟩ (.slice A' n' c')
/-- A table's answer, to be stored. -/
def TSt (w W w2 : World) (X : Nat → Prop) (g0 g1 g2 g3 : Nat) (cc : Array Value) (p : Rp) (s s' : Fo) (u : Value) : Prop :=
  ∃ A n c, u = .agg #[.slice A n c, .int .i64 s'.q, .int .i64 (s'.made : Int)] ∧ RfC w W w2 X g0 g1 g2 g3 cc p s ∧ RfC w W (tset w2 g0 A n c s'.q (s'.made : Int)) X g0 g1 g2 g3 cc { p with T := A, nT := n, cT := c } s'
def DSt' (w W w2 : World) (X : Nat → Prop) (g0 g1 g2 g3 : Nat) (cc : Array Value) (p : Rp) (s s' : Fo) (u : Value) : Prop :=
  ∃ A n c A' n' c', u = .agg #[.slice A n c, .slice A' n' c'] ∧ RfC w W w2 X g0 g1 g2 g3 cc p s ∧ RfC w W (dset w2 g0 A A' n c n' c') X g0 g1 g2 g3 cc { p with D := A, nD := n, cD := c, O := A', nO := n', cO := c' } s'
theorem RfC.tst (h : RfC w W w1 X g0 g1 g2 g3 cc p s) (hb : Below w1.heap.size w1 w2) {u : Value} {q : Int} {made : Nat} {fs : List Fi} (hu : RefT w2 (AX w1 (AY w W X)) u (rmT fs) q (made : Int)) : TSt w W w2 X g0 g1 g2 g3 cc p s { s with q := q, made := made, fs := fs } u := by
  obtain ⟨A, c, es, rfl, h1, h2⟩ := id hu
  exact ⟨A, es.length, c, rfl, h.below hb, (h.below hb).setT hu h.b.ge⟩
theorem RfC.dst (h : RfC w W w1 X g0 g1 g2 g3 cc p s) (hb : Below w1.heap.size w1 w2) {u : Value} {d : St} (hu : RefV w2 (fun b => b < w1.heap.size ∧ AY w W X b) u d) : DSt' w W w2 X g0 g1 g2 g3 cc p s { s with d := d } u := by
  obtain ⟨A, c, A', c', rfl, h1, h2⟩ := id hu.v
  exact ⟨A, _, c, A', _, c', rfl, h.below hb, (h.below hb).setD hu h.b.ge⟩
abbrev Rp.tv (p : Rp) (s : Fo) : Value := .agg #[.slice p.T p.nT p.cT, .int .i64 s.q, .int .i64 (s.made : Int)]
abbrev Rp.dv (p : Rp) : Value := .agg #[.slice p.D p.nD p.cD, .slice p.O p.nO p.cO]
theorem RfC.get (h : RfC w W w1 X g0 g1 g2 g3 cc p s) (hok : s.Ok N) (hN : N ≤ 890) (k : List UInt8) :
    Calls Tryz.prog 41 #[p.dv, .string (txt k)] w1 fun e w2 => e = .returned (.tuple #[.int .i64 ((getE s.d.now k).getD 0), .bool (hasE s.d.now k)]) ∧ Below w1.heap.size w1 w2 := refGet_any h.b.pt.d hok.d (by omega) k
theorem RfC.list (h : RfC w W w1 X g0 g1 g2 g3 cc p s) (hok : s.Ok N) (hN : N ≤ 890) :
    Calls Tryz.prog 31 #[p.dv] w1 fun e w2 => ∃ A n c, e = .returned (.slice A n c) ∧ n = s.d.now.length ∧ EnXD w2 (AY w W X) A s.d.now ∧ Below w1.heap.size w1 w2 :=
  (refList_any h.b.pt.d hok.d (by omega)).mono fun e w2 ⟨A, n, c, e1, e2, e3, e4⟩ => ⟨A, n, c, e1, e2, e3.mono fun b _ (e : AY w W X b) => ⟨Nat.lt_of_lt_of_le e.1 h.b.ge, e⟩, e4⟩
theorem RfC.make (h : RfC w W w1 X g0 g1 g2 g3 cc p s) (hok : s.Ok N) (hN : N ≤ 890) (gg : Nat) {md : Nat} (hmd : s.made + 1 = md) :
    Calls Tryz.prog 78 #[p.tv s] w1 fun e w2 => ∃ u, e = .returned u ∧ TSt w W w2 X g0 g1 g2 g3 cc p s { s with made := md, fs := s.fs ++ [⟨(md : Int), gg, 0, []⟩] } u := by
  refine (rmake_any (hok.rl (by omega)) (by omega) (by have := hok.made; omega) h.b.pt.t).mono ?_
  rintro e w2 ⟨u, rfl, hb, hT⟩
  have e : (s.made : Int) + 1 = (md : Int) := by omega
  rw [e] at hT
  have hM : rmT s.fs ++ [⟨(md : Int), 0, []⟩] = rmT (s.fs ++ [⟨(md : Int), gg, 0, []⟩]) := by simp [rmT, rmF]
  rw [hM] at hT
  exact ⟨u, rfl, h.tst hb hT⟩
theorem Fo.Ok.make (h : s.Ok N) (gg : Nat) {md : Nat} (hmd : s.made + 1 = md) : ({ s with made := md, fs := s.fs ++ [⟨(md : Int), gg, 0, []⟩] } : Fo).Ok (N + 1) := by
  subst hmd
  have ht := tabOk h
  have hnum := ht.num
  refine ⟨h.d.more (by omega), fun pp mp => ⟨ht.q, by have := ht.made; show s.made + 1 ≤ N + 1; exact Nat.succ_le_succ this, ?_, ?_, fun f hf => ?_, fun f hf => ?_, fun f hf => ?_⟩, h.most, h.many, by have := h.tk; show s.tk.length ≤ N + 1; omega, h.num⟩
  · have := ht.len
    show (s.fs ++ [_]).length ≤ N + 1
    rw [List.length_append, List.length_singleton]
    exact Nat.succ_le_succ this
  · show (s.fs ++ [_]).Pairwise _
    rw [List.pairwise_append]
    refine ⟨ht.sort, by simp, fun f hf y hy => ?_⟩
    rw [List.mem_singleton] at hy
    subst hy
    have := (hnum f hf).2
    show f.i < ((s.made + 1 : Nat) : Int)
    have e : f.i ≤ (s.made : Int) := this
    omega
  · rcases List.mem_append.1 hf with hf | hf
    · have h1 := hnum f hf
      have e : f.i ≤ (s.made : Int) := h1.2
      exact ⟨h1.1, by show f.i ≤ ((s.made + 1 : Nat) : Int); omega⟩
    · rw [List.mem_singleton] at hf; subst hf
      exact ⟨by show (1 : Int) ≤ ((s.made + 1 : Nat) : Int); omega, Int.le_refl _⟩
  · rcases List.mem_append.1 hf with hf | hf
    · exact ht.many f hf
    · rw [List.mem_singleton] at hf; subst hf
      exact ⟨by show (-9223372036854775808 : Int) ≤ 0; decide, by show (0 : Int) ≤ 9223372036854775807; decide⟩
  · rcases List.mem_append.1 hf with hf | hf
    · exact (ht.size f hf).mono (by omega)
    · rw [List.mem_singleton] at hf; subst hf
      exact ⟨Nat.zero_le _, by simp⟩
theorem Fo.Ok.doLink (h : s.Ok N) (z : Int) : ({ s with fs := (Proofs.YtbhmnmmockmibaaGreat.doLink s.fs z).1 } : Fo).Ok N := by
  unfold Proofs.YtbhmnmmockmibaaGreat.doLink
  cases hf : findF s.fs z with
  | none => exact h
  | some f => exact h.fs (Nat.le_refl _) fun pp mp => (h.t pp mp).upd (wrap_in _) ((h.t pp mp).size f (findF_mem hf).1) (Nat.le_refl _)
theorem RfC.link (h : RfC w W w1 X g0 g1 g2 g3 cc p s) (hok : s.Ok N) (hN : N ≤ 890) (z : Int) :
    Calls Tryz.prog 79 #[p.tv s, .int .i64 z] w1 fun e w2 => ∃ u, e = .returned (.tuple #[u, .int .i64 (doLink s.fs z).2]) ∧ TSt w W w2 X g0 g1 g2 g3 cc p s { s with fs := (doLink s.fs z).1 } u := by
  refine (rlinkT_any (z := z) (hok.rl (by omega)) hok.nm h.b.pt.t).mono ?_
  rintro e w2 ⟨u, er, rfl, hb, hT⟩
  obtain ⟨e1, e2⟩ := tie_link (P := fun M => RefT w2 (AX w1 (AY w W X)) u M s.q (s.made : Int)) hok.srt hT
  exact ⟨u, by rw [e1], h.tst hb e2⟩
theorem RfC.sync (h : RfC w W w1 X g0 g1 g2 g3 cc p s) (hok : s.Ok N) (hN : N ≤ 890) (z : Int) :
    Calls Tryz.prog 47 #[p.tv s, .int .i64 z] w1 fun e w2 => ∃ u, e = .returned (.tuple #[u, .int .i64 (doSync s.fs z).2]) ∧ TSt w W w2 X g0 g1 g2 g3 cc p s { s with fs := (doSync s.fs z).1 } u := by
  refine (rsyncT_any (z := z) (hok.rl (by omega)) (hok.sm (by omega)) h.b.pt.t).mono ?_
  rintro e w2 ⟨u, er, rfl, hb, hT⟩
  obtain ⟨e1, e2⟩ := tie_sync (P := fun M => RefT w2 (AX w1 (AY w W X)) u M s.q (s.made : Int)) hok.srt hT
  exact ⟨u, by rw [e1], h.tst hb e2⟩
theorem RfC.drop (h : RfC w W w1 X g0 g1 g2 g3 cc p s) (hok : s.Ok N) (hN : N ≤ 890) (z : Int) :
    Calls Tryz.prog 81 #[p.tv s, .int .i64 z] w1 fun e w2 => ∃ u, e = .returned (.tuple #[u, .int .i64 (doDrop s.fs z).2]) ∧ TSt w W w2 X g0 g1 g2 g3 cc p s { s with fs := (doDrop s.fs z).1 } u := by
  refine (rdropT_any (z := z) (hok.rl (by omega)) hok.nm h.b.pt.t).mono ?_
  rintro e w2 ⟨u, er, rfl, hb, hT⟩
  obtain ⟨e1, e2⟩ := tie_drop (P := fun M => RefT w2 (AX w1 (AY w W X)) u M s.q (s.made : Int)) hok.srt hT
  exact ⟨u, by rw [e1], h.tst hb e2⟩
theorem RfC.app (h : RfC w W w1 X g0 g1 g2 g3 cc p s) (hok : s.Ok N) (hN : N ≤ 890) (z : Int) {Ab : Option Addr} {cb B m : Nat} {bl : List UInt8} (hu : (usedF s.fs : Int) ≤ s.q) (hm : bl.length = m) (hm2 : m ≤ 100000) (hB : B ≤ w1.heap.size) (hbl : RdB w1 B Ab bl) :
    Calls Tryz.prog 46 #[p.tv s, .int .i64 z, .slice Ab m cb] w1 fun e w2 => ∃ u, e = .returned (.tuple #[u, .int .i64 (doApp s.q s.fs z bl).2]) ∧ TSt w W w2 X g0 g1 g2 g3 cc p s { s with fs := (doApp s.q s.fs z bl).1 } u := by
  refine (rappT_any (z := z) (cb := cb) (hok.rl (by omega)) (hok.sm (by omega)) h.b.pt.t hm hm2 hB hbl).mono ?_
  rintro e w2 ⟨u, er, rfl, hb, hT⟩
  obtain ⟨e1, e2⟩ := tie_app (P := fun M => RefT w2 (AX w1 (AY w W X)) u M s.q (s.made : Int)) hok.srt hu hm hT
  exact ⟨u, by rw [e1], h.tst hb e2⟩
theorem RfC.bytes (h : RfC w W w1 X g0 g1 g2 g3 cc p s) (hok : s.Ok N) (hN : N ≤ 890) (z : Int) :
    Calls Tryz.prog 49 #[p.tv s, .int .i64 z] w1 fun e w2 => ∃ A c n, e = .returned (.tuple #[.slice A n c, .int .i64 (bytesF s.fs z).2]) ∧ n = (bytesF s.fs z).1.length ∧ BsX w2 (AY w W X) A (bytesF s.fs z).1 ∧ (∃ (B : Nat), w2.ownsRow w1.heap.size 5 1 (.slice A n c) n (bs (bytesF s.fs z).1) ∨ n = B ∧ B = 0) ∧ Below w1.heap.size w1 w2 := by
  refine (rbytesT_any (z := z) (hok.rl (by omega)) (hok.sm (by omega)) h.b.pt.t).mono ?_
  rintro e w2 ⟨A, c, n, er, rfl, hb, hT⟩
  unfold bytesF
  rcases hT with ⟨rfl, hn, rfl⟩ | ⟨rfl, k, x, hx, hz, rfl, ho⟩
  · rw [rmT_none hn]
    exact ⟨A, c, 0, rfl, rfl, RdX.none_, ⟨0, .inr ⟨rfl, rfl⟩⟩, hb⟩
  · obtain ⟨f, hf, hff, rfl⟩ := rmT_some hok.srt hx hz
    rw [hff]
    exact ⟨A, c, _, rfl, rfl, own_avoid ho fun b (e : AY w W X b) => Nat.lt_of_lt_of_le e.1 h.b.ge, ⟨0, .inl ho⟩, hb⟩
theorem RfC.add (h : RfC w W w1 X g0 g1 g2 g3 cc p s) (hok : s.Ok N) (hN : N ≤ 890) (k : List UInt8) (v : Int) (hs : SzD (k, v)) (hk : k ≠ []) (hv : 0 ≤ v) (hn : hasE s.d.now k = false) :
    Calls Tryz.prog 80 #[p.dv, .string (txt k), .int .i64 v] w1 fun e w2 => ∃ u, e = .returned (.tuple #[u, .int .i64 0]) ∧ DSt' w W w2 X g0 g1 g2 g3 cc p s { s with d := s.d.addE k v } u := by
  have e0 : s.d.add k v = (s.d.addE k v, 0) := by unfold St.add; rw [if_neg (by rintro (e | e); exact hk e; omega), if_neg (by rw [hn]; decide)]
  refine (refAdd_any h.b.pt.d hok.d (by omega) k v hs.k hs.v).mono ?_
  rw [e0]
  rintro e w2 ⟨u, rfl, hu, hb⟩
  exact ⟨u, rfl, h.dst hb hu⟩
theorem RfC.remove (h : RfC w W w1 X g0 g1 g2 g3 cc p s) (hok : s.Ok N) (hN : N ≤ 890) (k : List UInt8) (hk : k.length ≤ 1000) {v : Int} (hg : getE s.d.now k = some v) :
    Calls Tryz.prog 48 #[p.dv, .string (txt k)] w1 fun e w2 => ∃ u, e = .returned (.tuple #[u, .int .i64 v, .int .i64 0]) ∧ DSt' w W w2 X g0 g1 g2 g3 cc p s { s with d := s.d.rem k v } u := by
  have e0 : s.d.remove k = (s.d.rem k v, v, 0) := by unfold St.remove; rw [hg]
  refine (refRemove_any h.b.pt.d hok.d (by omega) k hk).mono ?_
  rw [e0]
  rintro e w2 ⟨u, rfl, hu, hb⟩
  exact ⟨u, rfl, h.dst hb hu⟩
end
end Go.Proofs.YtbhmnmmockmibaaGreat

namespace Go.Proofs.YtbhmnmmockmibaaGreat
open Go.RowKit
section
variable {w W w1 w2 w3 : World} {X Y : Nat → Prop} {g0 g1 g2 g3 N : Nat} {p : Rp} {s : Fo}
set_option maxHeartbeats 8000000 in
set_option maxRecDepth 100000 in
theorem rcreate_any {v k : Value} {n t : List UInt8} {Ab : Option Addr} {nl cb : Nat} (hr : RefF w X v s) (hok : s.Ok N) (hN : N ≤ 880) (hn : n.length ≤ 1000) (gg : Nat) :
    Calls Tryz.prog 42 #[v, .agg #[k, .string (txt n), .string (txt t), .slice Ab nl cb]] w fun e w' => ∃ u, e = .returned (.tuple #[u, .agg #[.int .i64 (s.doCreate gg n).2.1, .slice none 0 0, .slice none 0 0]]) ∧ Below w.heap.size w w' ∧ RefF w' (AX w X) u (s.doCreate gg n).1 := by
  obtain ⟨B0, hB0⟩ : ∃ B, Hid (w.heap.size = B) := ⟨_, rfl⟩
  obtain ⟨B1, hB1⟩ : ∃ B, Hid (w.heap.size + 1 = B) := ⟨_, rfl⟩
  obtain ⟨B2, hB2⟩ : ∃ B, Hid (w.heap.size + 1 + 1 = B) := ⟨_, rfl⟩
  obtain ⟨B3, hB3⟩ : ∃ B, Hid (w.heap.size + 1 + 1 + 1 = B) := ⟨_, rfl⟩
  obtain ⟨cs, hcs⟩ : ∃ cs, v = .agg cs := by obtain ⟨p, e, _⟩ := hr; exact ⟨_, e⟩
  obtain ⟨W, hW⟩ : ∃ W, Hid ((((w.alloc (.cells cs 36)).alloc (.cells #[k, .string (txt n), .string (txt t), .slice Ab nl cb] 46)).alloc (.cells zrf 36)).alloc (.cells #[.int .i64 0, .slice none 0 0, .slice none 0 0] 53) = W) := ⟨_, rfl⟩
  obtain ⟨p, ep, hC0⟩ := RfC.start (W := W) (cc := #[k, .string (txt n), .string (txt t), .slice Ab nl cb]) hr (fun cs' e => by rw [hcs] at e; injection e with e; rw [← e]; exact hW.out)
  rw [hB3.out, hB2.out, hB1.out, hB0.out] at hC0
  have hC := Lib.hid hC0
  rw [hcs] at ep
  injection ep with ep
  subst ep
  subst hcs
  have HWW : Hid ((((w.alloc (.cells (p.cs s) 36)).alloc (.cells #[k, .string (txt n), .string (txt t), .slice Ab nl cb] 46)).alloc (.cells #[.slice none 0 0, .slice none 0 0, .slice none 0 0, .int .i64 0, .int .i64 0, .int .i64 0, .slice none 0 0] 36)).alloc (.cells #[.int .i64 0, .slice none 0 0, .slice none 0 0] 53) = W) := hW.out
  clear hr hC0
  obtain ⟨c0, c1, c2, c3, c4, c5, c6⟩ := hC.out.b.cells
  obtain ⟨a0, a1, a2, a3⟩ := quad_cell hC.out.call
  have hget := Lib.hid (hC.out.get hok (by omega) n)
  by_cases hne : n = []
  · have e0 : s.doCreate gg n = (s, 2, [], []) := by unfold Fo.doCreate Fo.may; rw [if_pos hne, if_neg (by decide)]
    rw [e0]
    have he1 : (txt n).toList.isEmpty = true := by rw [txt_isEmpty, hne]; rfl
    have he2 : (txt n).toList = [] := List.isEmpty_iff.1 he1
    clear hne e0
    go_enter Tryz.func42, Tryz.ntmps42
    go_upto_region 1 with fail
    rw [hB3.out, hB2.out, hB1.out, hB0.out, HWW.out]
    go_wp2_with (first
      | (go_at_call 41; refine hget.out.mono ?_; rintro e w1 ⟨rfl, hb1⟩; have hC1 := Lib.hid (hC.out.below hb1); clear hb1; obtain ⟨d0, d1, d2, d3, d4, d5, d6⟩ := hC1.out.b.cells; obtain ⟨b0, b1, b2, b3⟩ := quad_cell hC1.out.call; clear c0 c1 c2 c3 c4 c5 c6 a0 a1 a2 a3)
      | (refine wpList_load_row rfl 36 (.tmp 2) rfl B0 rfl _ _ _ _ hC1.out.b.box Tryz.underlying36 rfl size_rf ?_)
      | (go_at_call 45; refine (rfails_any (p.sev s) _ _).mono ?_; rintro e w2 ⟨rfl, hb2⟩; have hC2 := Lib.hid (hC1.out.below hb2); clear hb2; obtain ⟨W9, hW9, s9, f9, hfin⟩ := hC2.out.last)
      | (refine wpList_store_row rfl 36 (.tmp 4) (.tmp 23) rfl B2 _ rfl rfl _ _ hC2.out.r1 size_rf rfl (p.sev s).one ?_; rw [hW9.out]))
    obtain ⟨h1, h2, h3, h4, _⟩ := hfin.out (.int .i64 2) (.slice none 0 0) (.slice none 0 0)
    refine ret_rfr rfl B2 B3 (p.cs s) _ rfl rfl _ _ (0, 0) (0, 0) rfl rfl h1 h2 rfl ?_
    exact ⟨_, rfl, h4, h3⟩
  · have he1 : (txt n).toList.isEmpty = false := by
      rw [txt_isEmpty]
      cases n with
      | nil => exact absurd rfl hne
      | cons _ _ => rfl
    have he2 : ¬ (txt n).toList = [] := fun e => by rw [e] at he1; cases he1
    have Hne := Lib.hid hne
    clear hne
    by_cases hh : hasE s.d.now n = true
    · have e0 : s.doCreate gg n = (s, 81, [], []) := by unfold Fo.doCreate Fo.may; rw [if_neg Hne.out, if_pos hh, if_neg (by decide)]
      rw [e0]
      rw [hh] at hget
      clear e0 hh
      go_enter Tryz.func42, Tryz.ntmps42
      go_upto_region 1 with fail
      rw [hB3.out, hB2.out, hB1.out, hB0.out, HWW.out]
      go_wp2_with (first
        | (go_at_call 41; refine hget.out.mono ?_; rintro e w1 ⟨rfl, hb1⟩; have hC1 := Lib.hid (hC.out.below hb1); clear hb1; obtain ⟨d0, d1, d2, d3, d4, d5, d6⟩ := hC1.out.b.cells; obtain ⟨b0, b1, b2, b3⟩ := quad_cell hC1.out.call; clear c0 c1 c2 c3 c4 c5 c6 a0 a1 a2 a3)
        | (refine wpList_load_row rfl 36 (.tmp 2) rfl B0 rfl _ _ _ _ hC1.out.b.box Tryz.underlying36 rfl size_rf ?_)
        | (go_at_call 45; refine (rfails_any (p.sev s) _ _).mono ?_; rintro e w2 ⟨rfl, hb2⟩; have hC2 := Lib.hid (hC1.out.below hb2); clear hb2; obtain ⟨W9, hW9, s9, f9, hfin⟩ := hC2.out.last)
        | (refine wpList_store_row rfl 36 (.tmp 4) (.tmp 29) rfl B2 _ rfl rfl _ _ hC2.out.r1 size_rf rfl (p.sev s).one ?_; rw [hW9.out]))
      obtain ⟨h1, h2, h3, h4, _⟩ := hfin.out (.int .i64 81) (.slice none 0 0) (.slice none 0 0)
      refine ret_rfr rfl B2 B3 (p.cs s) _ rfl rfl _ _ (0, 0) (0, 0) rfl rfl h1 h2 rfl ?_
      exact ⟨_, rfl, h4, h3⟩
    · have hh' : hasE s.d.now n = false := by simpa using hh
      rw [hh'] at hget
      have Hno := Lib.hid hh'
      have hlist := Lib.hid (fun wx (hx : RfC w W wx X B0 B1 B2 B3 #[k, .string (txt n), .string (txt t), .slice Ab nl cb] p s) => hx.list hok (by omega))
      have hmany := hok.many
      by_cases hge : s.most ≤ s.many
      · have e0 : s.doCreate gg n = (s, 90, [], []) := by unfold Fo.doCreate Fo.may; rw [if_neg Hne.out, if_neg hh, if_pos hge, if_neg (by decide)]
        rw [e0]
        rw [hmany] at hge
        clear e0 hh hh' hmany
        obtain ⟨most, hm⟩ : ∃ m, Hid (s.most = m) := ⟨_, rfl⟩
        obtain ⟨mn, hmn⟩ : ∃ m, Hid (s.d.now.length = m) := ⟨_, rfl⟩
        have hd : decide (most ≤ (mn : Int)) = true := by rw [← hm.out, ← hmn.out]; exact decide_eq_true hge
        go_enter Tryz.func42, Tryz.ntmps42
        go_upto_region 1 with fail
        rw [hB3.out, hB2.out, hB1.out, hB0.out, HWW.out]
        go_upto_region 6 with (first | (go_at_call 41; refine hget.out.mono ?_; rintro e w1 ⟨rfl, hb1⟩; have hC1 := Lib.hid (hC.out.below hb1); clear hb1; obtain ⟨d0, d1, d2, d3, d4, d5, d6⟩ := hC1.out.b.cells; obtain ⟨b0, b1, b2, b3⟩ := quad_cell hC1.out.call; clear c0 c1 c2 c3 c4 c5 c6 a0 a1 a2 a3))
        rw [hm.out] at d5
        go_region_held3 (fun wx => wx.cell? ⟨B0, 0, none⟩ = some (.slice p.D p.nD p.cD) ∧ wx.cell? ⟨B0, 1, none⟩ = some (.slice p.O p.nO p.cO) ∧ wx.cell? ⟨B0, 5, none⟩ = some (.int .i64 most)) (first | exact ⟨d0, d1, d5⟩ | exact ⟨e0', e1', e5'⟩) (first | (go_at_call 31; refine (hlist.out _ (hC1.out.below (Below.refl _ _).drew)).mono ?_; rintro e w5 ⟨A5, n5, c5, rfl, hn5, _, hb5⟩; have hC5 := Lib.hid ((hC1.out.below (Below.refl _ _).drew).below hb5); have hq5 : n5 = mn := hn5.trans hmn.out; subst hq5; clear hb5 hn5; obtain ⟨e0', e1', e2', e3', e4', e5', e6'⟩ := hC5.out.b.cells; rw [hm.out] at e5'))
        go_wp2_with (first
          | (refine wpList_load_row rfl 36 (.tmp 2) rfl B0 rfl _ _ _ _ hC5.out.b.box Tryz.underlying36 rfl size_rf ?_)
          | (go_at_call 45; refine (rfails_any (p.sev s) _ _).mono ?_; rintro e w2 ⟨rfl, hb2⟩; have hC2 := Lib.hid (hC5.out.below hb2); clear hb2; obtain ⟨W9, hW9, s9, f9, hfin⟩ := hC2.out.last)
          | (refine wpList_store_row rfl 36 (.tmp 4) (.tmp 41) rfl B2 _ rfl rfl _ _ hC2.out.r1 size_rf rfl (p.sev s).one ?_; rw [hW9.out]))
        obtain ⟨h1, h2, h3, h4, _⟩ := hfin.out (.int .i64 90) (.slice none 0 0) (.slice none 0 0)
        refine ret_rfr rfl B2 B3 (p.cs s) _ rfl rfl _ _ (0, 0) (0, 0) rfl rfl h1 h2 rfl ?_
        exact ⟨_, rfl, h4, h3⟩
      · have e0 : s.doCreate gg n = (s.create gg n, 0, [], []) := by unfold Fo.doCreate Fo.may; rw [if_neg Hne.out, if_neg hh, if_neg hge, if_pos rfl]
        rw [e0]
        rw [hmany] at hge
        clear e0 hh hh' hmany
        obtain ⟨md, hmd⟩ : ∃ m, Hid (s.made + 1 = m) := ⟨_, rfl⟩
        obtain ⟨most, hm⟩ : ∃ m, Hid (s.most = m) := ⟨_, rfl⟩
        obtain ⟨mn, hmn⟩ : ∃ m, Hid (s.d.now.length = m) := ⟨_, rfl⟩
        have hd : decide (most ≤ (mn : Int)) = false := by rw [← hm.out, ← hmn.out]; exact decide_eq_false hge
        clear hge
        go_enter Tryz.func42, Tryz.ntmps42
        go_upto_region 1 with fail
        rw [hB3.out, hB2.out, hB1.out, hB0.out, HWW.out]
        go_upto_region 6 with (first | (go_at_call 41; refine hget.out.mono ?_; rintro e w1 ⟨rfl, hb1⟩; have hC1 := Lib.hid (hC.out.below hb1); clear hb1; obtain ⟨d0, d1, d2, d3, d4, d5, d6⟩ := hC1.out.b.cells; obtain ⟨b0, b1, b2, b3⟩ := quad_cell hC1.out.call; clear c0 c1 c2 c3 c4 c5 c6 a0 a1 a2 a3))
        rw [hm.out] at d5
        go_region_held3 (fun wx => wx.cell? ⟨B0, 0, none⟩ = some (.slice p.D p.nD p.cD) ∧ wx.cell? ⟨B0, 1, none⟩ = some (.slice p.O p.nO p.cO) ∧ wx.cell? ⟨B0, 5, none⟩ = some (.int .i64 most)) (first | exact ⟨d0, d1, d5⟩ | exact ⟨e0', e1', e5'⟩) (first | (go_at_call 31; refine (hlist.out _ (hC1.out.below (Below.refl _ _).drew)).mono ?_; rintro e w5 ⟨A5, n5, c5, rfl, hn5, _, hb5⟩; have hC5 := Lib.hid ((hC1.out.below (Below.refl _ _).drew).below hb5); have hq5 : n5 = mn := hn5.trans hmn.out; subst hq5; clear hb5 hn5; obtain ⟨e0', e1', e2', e3', e4', e5', e6'⟩ := hC5.out.b.cells; rw [hm.out] at e5'))
        go_upto_region 9 with (first | (go_at_call 78; refine (hC5.out.make hok (by omega) gg hmd.out).mono ?_; rintro e w6 ⟨u, rfl, A6, n6, k6, rfl, hC6, hD6⟩; have HC6 := Lib.hid hC6; have HD6 := Lib.hid hD6; clear hC6 hD6; obtain ⟨m0, m1, m2, m3, m4, m5, m6⟩ := HC6.out.b.cells; have mf := HC6.out.b.fz))
        obtain ⟨W7, hW7⟩ : ∃ W', Hid ((((w6.setCell ⟨B0, 2, none⟩ (.slice A6 n6 k6)).setCell ⟨B0, 3, none⟩ (.int .i64 s.q)).setCell ⟨B0, 4, none⟩ (.int .i64 (md : Int))) = W') := ⟨_, rfl⟩
        have hD7 := HD6.out
        rw [show tset w6 B0 A6 n6 k6 s.q (md : Int) = W7 from hW7.out] at hD7
        rw [hW7.out]
        have HD7 := Lib.hid hD7
        clear hD7 m0 m1 m2 m3 m4 m5 m6 mf d0 d1 d2 d3 d4 d5 d6 b0 b1 b2 b3
        obtain ⟨x0, x1, x2, x3, x4, x5, x6⟩ := HD7.out.b.cells
        have hok1 := Lib.hid (hok.make gg hmd.out)
        have hlk := Lib.hid (HD7.out.link hok1.out (by omega) (md : Int))
        go_upto_region 11 with (first | (go_at_call 79; refine hlk.out.mono ?_; rintro e w8 ⟨u, rfl, A8, n8, k8, rfl, hC8, hD8⟩; have HC8 := Lib.hid hC8; have HD8 := Lib.hid hD8; clear hC8 hD8; obtain ⟨m0, m1, m2, m3, m4, m5, m6⟩ := HC8.out.b.cells; have mf := HC8.out.b.fz))
        obtain ⟨W9, hW9⟩ : ∃ W', Hid ((((w8.setCell ⟨B0, 2, none⟩ (.slice A8 n8 k8)).setCell ⟨B0, 3, none⟩ (.int .i64 s.q)).setCell ⟨B0, 4, none⟩ (.int .i64 (md : Int))) = W') := ⟨_, rfl⟩
        have hD9 := HD8.out
        rw [show tset w8 B0 A8 n8 k8 s.q (md : Int) = W9 from hW9.out] at hD9
        rw [hW9.out]
        have HD9 := Lib.hid hD9
        clear hD9 m0 m1 m2 m3 m4 m5 m6 mf x0 x1 x2 x3 x4 x5 x6
        obtain ⟨x0, x1, x2, x3, x4, x5, x6⟩ := HD9.out.b.cells
        obtain ⟨y0, y1, y2, y3⟩ := quad_cell HD9.out.call
        have hok2 := Lib.hid (hok1.out.doLink (md : Int))
        have had := Lib.hid (HD9.out.add hok2.out (by omega) n (md : Int) ⟨hn, by show _ ≤ (md : Int) ∧ (md : Int) ≤ _; have := hok.made; have := hmd.out; omega⟩ Hne.out (by omega) Hno.out)
        go_upto_region 12 with (first | (go_at_call 80; refine had.out.mono ?_; rintro e w10 ⟨u, rfl, A10, n10, k10, O10, j10, l10, rfl, hC10, hD10⟩; have HC10 := Lib.hid hC10; have HD10 := Lib.hid hD10; clear hC10 hD10; obtain ⟨m0, m1, m2, m3, m4, m5, m6⟩ := HC10.out.b.cells; have mf := HC10.out.b.fz))
        obtain ⟨W11, hW11⟩ : ∃ W', Hid (((w10.setCell ⟨B0, 0, none⟩ (.slice A10 n10 k10)).setCell ⟨B0, 1, none⟩ (.slice O10 j10 l10)) = W') := ⟨_, rfl⟩
        have hD11 := HD10.out
        rw [show dset w10 B0 A10 O10 n10 k10 j10 l10 = W11 from hW11.out] at hD11
        rw [hW11.out]
        have HD11 := Lib.hid hD11
        clear hD11 m0 m1 m2 m3 m4 m5 m6 mf x0 x1 x2 x3 x4 x5 x6 y0 y1 y2 y3
        obtain ⟨x0, x1, x2, x3, x4, x5, x6⟩ := HD11.out.b.cells
        clear x0 x1 x2 x3 x4 x5 x6
        obtain ⟨cs, W12, hsv, hbx, hr1, hW12, s12, f12, hfin⟩ := HD11.out.last2
        go_wp2_with (first
          | (refine wpList_load_row rfl 36 (.tmp 2) rfl B0 rfl _ _ _ _ hbx.out Tryz.underlying36 rfl (by rw [hsv.out.n]; exact size_rf) ?_)
          | (refine wpList_store_row rfl 36 (.tmp 4) (.tmp 68) rfl B2 _ rfl rfl _ _ hr1.out (by rw [hsv.out.n]; exact size_rf) (by rw [hsv.out.n]; rfl) hsv.out.one ?_; rw [hW12.out]))
        obtain ⟨h1, h2, h3, h4, _⟩ := hfin.out (.int .i64 0) (.slice none 0 0) (.slice none 0 0)
        refine ret_rfr rfl B2 B3 cs _ hsv.out.n rfl _ _ (0, 0) (0, 0) rfl rfl h1 h2 rfl ?_
        refine ⟨_, rfl, h4, ?_⟩
        have he : (s.made : Int) + 1 = (md : Int) := by have := hmd.out; omega
        have hcr : s.create gg n = { s with d := s.d.addE n (md : Int), many := s.many + 1, made := md, fs := (doLink (s.fs ++ [⟨(md : Int), gg, 0, []⟩]) (md : Int)).1 } := by
          unfold Fo.create
          rw [he, hmd.out]
        rw [hcr]
        exact h3.many _
end
end Go.Proofs.YtbhmnmmockmibaaGreat
