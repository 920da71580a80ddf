/- The walk of the reference's syncDir. Conditions: at most 880 calls. A region that draws its order: two rows are read, and stored. Conditions: none. What the reference's Do answers; how each of its kinds ends. Conditions: none. The walk of the reference's Do: create, link. -/
import Derived.Test.YtbhmnmmockmibaaGreatKpFqC
import Derived.Test.YtbhmnmmockmibaaGreatKpFoK1
import Derived.Deep.RegionWith
import Derived.Test.YtbhmnmmockmibaaGreatKpFqE
import Derived.Deep.RegionHeld3
namespace Go.Proofs.YtbhmnmmockmibaaGreat
open Go.RowKit
section
variable {w W w1 w2 w3 : World} {X Y : Nat → Prop} {g0 N : Nat} {p : Rp} {s : Fo}
theorem RfB.drop (h : RfB w W w1 X g0 p s) (hok : s.Ok N) (hN : N ≤ 890) (z : Int) :
    Calls Tryz.prog 81 #[p.tv s, .int .i64 z] w1 fun e w2 => ∃ A n c, e = .returned (.tuple #[.agg #[.slice A n c, .int .i64 s.q, .int .i64 (s.made : Int)], .int .i64 (doDrop s.fs z).2]) ∧ Below w1.heap.size w1 w2 ∧ RfB w W w2 X g0 p s ∧ RfB w W (tset w2 g0 A n c s.q (s.made : Int)) X g0 { p with T := A, nT := n, cT := c } { s with fs := (doDrop s.fs z).1 } := by
  refine (rdropT_any (z := z) (hok.rl (by omega)) hok.nm h.pt.t).mono ?_
  rintro e w2 ⟨u, er, rfl, hb, hT⟩
  obtain ⟨e1, e2⟩ := tie_drop (P := fun M => RefT w2 (AX w1 (AY w W X)) u M s.q (s.made : Int)) hok.srt hT
  obtain ⟨A, c, es, rfl, h1, h2⟩ := id e2
  exact ⟨A, es.length, c, by rw [e1], hb, h.below hb, (h.below hb).setT e2 h.ge⟩
theorem RfB.list (h : RfB w W w1 X g0 p s) (hok : s.Ok N) (hN : N ≤ 890) :
    Calls Tryz.prog 31 #[p.dv] w1 fun e w2 => ∃ A n c, e = .returned (.slice A n c) ∧ n = s.d.now.length ∧ EnXD w2 (AY w W X) A s.d.now ∧ Below w1.heap.size w1 w2 :=
  (refList_any h.pt.d hok.d (by omega)).mono fun e w2 ⟨A, n, c, e1, e2, e3, e4⟩ => ⟨A, n, c, e1, e2, e3.mono fun b _ (e : AY w W X b) => ⟨Nat.lt_of_lt_of_le e.1 h.ge, e⟩, e4⟩
theorem Fo.Ok.drops (h : s.Ok N) : ∀ l : List Int, ({ s with fs := dropsF s.fs l } : Fo).Ok N := by
  have h1 : ∀ (s : Fo) (z : Int), s.Ok N → ({ s with fs := (doDrop s.fs z).1 } : Fo).Ok N := by
    intro s z h
    unfold doDrop
    cases hf : findF s.fs z with
    | none => exact h
    | some f => exact h.fs (Nat.le_refl _) fun pp mp => (h.t pp mp).drop hf
  intro l
  induction l generalizing s with
  | nil => exact h
  | cons z l ih => exact ih (h1 s z h)
set_option maxHeartbeats 8000000 in
set_option maxRecDepth 100000 in
theorem rsyncDir_any {v : Value} (hr : RefF w X v s) (hok : s.Ok N) (hN : N ≤ 880) :
    Calls Tryz.prog 43 #[v] w fun e w' => ∃ u, e = .returned u ∧ Below w.heap.size w w' ∧ RefF w' (AX w X) u s.sync := by
  obtain ⟨B0, hB0⟩ : ∃ B, Hid (w.heap.size = B) := ⟨_, rfl⟩
  obtain ⟨B1, hB1⟩ : ∃ B, Hid (w.heap.size + 1 = B) := ⟨_, rfl⟩
  obtain ⟨cs, hcs⟩ : ∃ cs, v = .agg cs := by obtain ⟨p, e, _⟩ := hr; exact ⟨_, e⟩
  obtain ⟨W, hW⟩ : ∃ W, Hid ((w.alloc (.cells cs 36)).alloc (.cells zrf 36) = W) := ⟨_, rfl⟩
  have htwo := two_heap w (.cells cs 36) (.cells zrf 36)
  rw [hW.out] at htwo
  obtain ⟨hs, e0, e1⟩ := htwo
  have hbW : Hid (Below w.heap.size w W) := by rw [← hW.out]; exact (below_new _ _).alloc (by simp) _
  obtain ⟨p, ep, hC0⟩ := RfB.start (g := w.heap.size) hr hbW.out (by omega) fun p e => by rw [hcs] at e; injection e with e; rw [← e]; exact e0
  rw [hB0.out] at hC0 e0
  rw [hB1.out] at e1
  have hR1 := Lib.hid e1
  have hC := Lib.hid hC0
  have hWs := Lib.hid hs
  rw [hcs] at ep
  injection ep with ep
  subst ep
  subst hcs
  have HWW : Hid ((w.alloc (.cells (p.cs s) 36)).alloc (.cells #[.slice none 0 0, .slice none 0 0, .slice none 0 0, .int .i64 0, .int .i64 0, .int .i64 0, .slice none 0 0] 36) = W) := hW.out
  clear hr hC0 e0 e1 hs
  have hnum := Lib.hid hok.num
  obtain ⟨len, hln⟩ : ∃ l, Hid (s.tk.length = l) := ⟨_, rfl⟩
  have hlenI : (len : Int) ≤ 900 := by have := hok.tk; have := hln.out; omega
  go_enter Tryz.func43, Tryz.ntmps43
  go_upto_region 1 with fail
  rw [hB1.out, hB0.out, HWW.out]
  go_wp2
  go_loopw [3] (fun i wr => ∃ (j : Nat) (pj : Rp), j ≤ len ∧ i = .int .i64 (j : Int) ∧ Hid (RfB w W wr X B0 pj { s with fs := dropsF s.fs (s.tk.take j) }) ∧ Hid (wr.heap[B1]? = some (.cells zrf 36 (0, 0)))) (fun i _ => len - (intOf i).toNat)
  case atStart => exact ⟨0, p, by omega, rfl, hC.out, hR1.out⟩
  case round =>
    obtain ⟨j, pj, hj, rfl, hcj, hrj⟩ := hrel
    obtain ⟨c0, c1, c2, c3, c4, c5, c6⟩ := hcj.out.cells
    simp only at c3 c4 c5 c6
    rw [hln.out] at c6
    have cf := hcj.out.fz
    by_cases hlt : j < len
    · obtain ⟨ad, eA, hbl, hax, hcell⟩ := hcj.out.pt.g.2 (by rw [hln.out]; omega)
      rw [eA] at c6
      have hz : s.tk[j]? = some (s.tk[j]'(by rw [hln.out]; exact hlt)) := List.getElem?_eq_getElem _
      obtain ⟨z, hzz⟩ : ∃ z, s.tk[j]'(by rw [hln.out]; exact hlt) = z := ⟨_, rfl⟩
      rw [hzz] at hz
      have r0 := hcell j (.int .i64 z) (by rw [List.getElem?_map, hz]; rfl)
      have hzb := hnum.out z (List.mem_of_getElem? hz)
      have hdr := Lib.hid (fun wx (hb : Below wr.heap.size wr wx) => (hcj.out.below hb).drop (hok.drops (s.tk.take j)) (by omega) z)
      have Hz := Lib.hid hz
      clear hz hzz hcell
      go_upto_region 4 with fail
      go_region_with (first | (go_at_call 81; refine (hdr.out _ (below_drewN (Below.refl _ _) _)).mono ?_; rintro e w5 ⟨A5, n5, k5, rfl, hb5, hC5, hD5⟩; have HD5 := Lib.hid hD5; have Hb5 := Lib.hid hb5; obtain ⟨m0, m1, m2, m3, m4, m5, m6⟩ := hC5.cells; have mf := hC5.fz; simp only at m3 m4; clear hD5 hb5 hC5))
      all_goals
        (obtain ⟨W7, hW7⟩ : ∃ W', Hid (((w5.setCell ⟨B0, 2, none⟩ (.slice A5 n5 k5)).setCell ⟨B0, 3, none⟩ (.int .i64 s.q)).setCell ⟨B0, 4, none⟩ (.int .i64 (s.made : Int)) = W') := ⟨_, rfl⟩
         have hD7 := HD5.out
         rw [show tset w5 B0 A5 n5 k5 s.q (s.made : Int) = W7 from hW7.out] at hD7
         have hr7 : Hid (W7.heap[B1]? = some (.cells zrf 36 (0, 0))) := by
           rw [← hW7.out]
           have ht := ((Touch.cell1 w5 B0 2 (.slice A5 n5 k5)).trans (Touch.cell1 _ B0 3 (.int .i64 s.q))).trans (Touch.cell1 _ B0 4 (.int .i64 (s.made : Int)))
           exact ht.heap (show ¬ B1 = B0 by have := hB0.out; have := hB1.out; omega) ((Hb5.out.block _ (Array.getElem?_eq_some_iff.1 hrj.out).1).trans hrj.out)
         rw [hW7.out]
         have HD7 := Lib.hid hD7
         have HD7b : Hid (RfB w W W7 X B0 { pj with T := A5, nT := n5, cT := k5 } { s with fs := dropsF s.fs (s.tk.take (j + 1)) }) := by rw [dropsF_snoc _ Hz.out]; exact HD7.out
         clear hD7 m0 m1 m2 m3 m4 m5 m6 mf c0 c1 c2 c3 c4 c5 c6 cf r0
         go_wp2
         go_roundw
         case rel => exact ⟨j + 1, _, by omega, by go_num, HD7b, hr7⟩
         case measure => simp [intOf]; omega)
    · obtain rfl : j = len := by omega
      have hfull : s.tk.take j = s.tk := by rw [← hln.out, List.take_length]
      rw [hfull] at hcj
      go_upto_region 6 with fail
      obtain ⟨W5, hW5⟩ : ∃ W', Hid (wr.setCell ⟨B0, 6, none⟩ (.slice none 0 0) = W') := ⟨_, rfl⟩
      have hD5 := hcj.out.setG (A := none) (c := 0) (l := []) RdX.none_
      rw [show wr.setCell ⟨B0, 6, none⟩ (.slice none ([] : List Int).length 0) = W5 from hW5.out] at hD5
      have hr5 : Hid (W5.heap[B1]? = some (.cells zrf 36 (0, 0))) := by
        rw [← hW5.out]
        exact (Touch.cell1 wr B0 6 (.slice none 0 0)).heap (show ¬ B1 = B0 by have := hB0.out; have := hB1.out; omega) hrj.out
      rw [hW5.out]
      have HD5 := Lib.hid hD5
      clear hD5 c0 c1 c2 c3 c4 c5 c6 cf
      obtain ⟨x0, x1, x2, x3, x4, x5, x6⟩ := HD5.out.cells
      have hok5 : Hid (({ s with fs := dropsF s.fs s.tk, tk := [] } : Fo).Ok N) := by
        have h5 := hok.drops s.tk
        exact ⟨h5.d, h5.t, h5.most, h5.many, Nat.zero_le _, by simp⟩
      go_upto_region 7 with (first | (go_at_call 31; refine (HD5.out.list hok5.out (by omega)).mono ?_; rintro e w6 ⟨A6, n6, k6, rfl, hn6, hl6, hb6⟩; have HC6 := Lib.hid (HD5.out.below hb6); have Hl6 := Lib.hid hl6; have Hb6 := Lib.hid hb6; have Hn6 := Lib.hid hn6; clear hb6 hl6 hn6; obtain ⟨m0, m1, m2, m3, m4, m5, m6⟩ := HC6.out.cells; have mf := HC6.out.fz))
      obtain ⟨W8, hW8⟩ : ∃ W', Hid ((w6.setCell ⟨B0, 0, none⟩ (.slice A6 n6 k6)).setCell ⟨B0, 1, none⟩ (.slice none 0 0) = W') := ⟨_, rfl⟩
      have hD8 := HC6.out.setD (w3 := w6) (A := A6) (n := n6) (c := k6) (A' := none) (n' := 0) (c' := 0) (d := s.d.sync) ⟨A6, k6, none, 0, by rw [Hn6.out]; rfl, Hl6.out.mono fun b _ e => e.2, RdX.none_⟩ HC6.out.ge
      rw [hW8.out] at hD8
      have hr8 : Hid (W8.heap[B1]? = some (.cells zrf 36 (0, 0))) := by
        rw [← hW8.out]
        exact ((Touch.cell1 w6 B0 0 (.slice A6 n6 k6)).trans (Touch.cell1 _ B0 1 (.slice none 0 0))).heap (show ¬ B1 = B0 by have := hB0.out; have := hB1.out; omega) ((Hb6.out.block _ (Array.getElem?_eq_some_iff.1 hr5.out).1).trans hr5.out)
      rw [hW8.out]
      have HD8 := Lib.hid hD8
      clear hD8 m0 m1 m2 m3 m4 m5 m6 mf x0 x1 x2 x3 x4 x5 x6
      obtain ⟨p8, hp8⟩ : ∃ q : Rp, Hid (RfB w W W8 X B0 q s.sync) := ⟨_, HD8⟩
      clear HD8
      obtain ⟨cs, hcs⟩ : ∃ cs, Hid (p8.cs s.sync = cs) := ⟨_, rfl⟩
      have hbx := hp8.out.box
      have hsv := p8.sev s.sync
      rw [hcs.out] at hbx hsv
      have Hbx := Lib.hid hbx
      have Hsv := Lib.hid hsv
      clear hbx hsv
      go_wp2_with (first
        | (refine wpList_load_row rfl 36 (.tmp 1) rfl B0 rfl _ _ _ _ Hbx.out Tryz.underlying36 rfl (by rw [Hsv.out.n]; exact size_rf) ?_)
        | (refine wpList_store_row rfl 36 (.tmp 2) (.tmp 29) rfl B1 _ rfl rfl _ _ hr8.out (by rw [Hsv.out.n]; exact size_rf) (by rw [Hsv.out.n]; rfl) Hsv.out.one ?_))
      refine ret_rf rfl B1 cs Hsv.out.n _ (0, 0) rfl (setRow_heap _ _ _ _ _ _ hr8.out) rfl ?_
      have hfin := hp8.out.touch ((Touch.row1 W8 B1 cs).mono fun b _ e => by
        have := hB0.out
        have := hB1.out
        have := hWs.out
        rw [e]
        omega)
      refine ⟨_, rfl, hfin.bel, ?_⟩
      rw [← hcs.out]
      rw [← hcs.out] at hfin
      exact hfin.fin
end
end Go.Proofs.YtbhmnmmockmibaaGreat

namespace Go.Proofs.YtbhmnmmockmibaaGreat
open Go.RowKit
section
variable {P : Program} {Q : Exit → Act → World → Prop}
theorem wpOp_free {ops : Array Oper} {i : Nat} {o : Oper} {K : Act → World → Prop} {b : Act} {w : World} (ho : ops[i]? = some o) (hg : o.guard = none) (h : o.wp P b w K Q) : wpOp P ops Q i K b w := by
  unfold wpOp
  rw [ho]
  simp only [Region.wanted, hg, if_true]
  exact Or.inl h
theorem wp_region_copy2 {id : Nat} {o0 o1 o2 o3 : Oper} {a : Act} {w : World} (hm : P.follows .mixedOrders = true)
    (k0 : Region.ready .any #[o0, o1, o2, o3] #[false, false, false, false] = [0, 1])
    (k1 : Region.ready .any #[o0, o1, o2, o3] #[true, false, false, false] = [1, 2])
    (k2 : Region.ready .any #[o0, o1, o2, o3] #[false, true, false, false] = [0])
    (k3 : Region.ready .any #[o0, o1, o2, o3] #[true, true, false, false] = [2])
    (k4 : Region.ready .any #[o0, o1, o2, o3] #[true, false, true, false] = [1])
    (k5 : Region.ready .any #[o0, o1, o2, o3] #[true, true, true, false] = [3])
    (k6 : Region.ready .any #[o0, o1, o2, o3] #[true, true, true, true] = [])
    (g0 : o0.guard = none) (g1 : o1.guard = none) (g2 : o2.guard = none) (g3 : o3.guard = none)
    (T U : TypeId) {x0 x1 y2 y3 z2 z3 : Operand} (e0 : o0.op = .load T x0) (e1 : o1.op = .load U x1) (e2 : o2.op = .store T y2 z2) (e3 : o3.op = .store U y3 z3)
    (d0 d1 : Tmp) (f0 : o0.dst = some d0) (f1 : o1.dst = some d1) (f2 : o2.dst = none) (f3 : o3.dst = none) (hne : d0 ≠ d1)
    (b0 b1 b2 b3 : Nat) (cs ds : Array Value)
    (v0 : a.eval x0 = .pointer (some ⟨b0, 0, none⟩)) (v1 : (a.put (some d1) (.agg ds)).eval x0 = .pointer (some ⟨b0, 0, none⟩))
    (v2 : a.eval x1 = .pointer (some ⟨b1, 0, none⟩)) (v3 : (a.put (some d0) (.agg cs)).eval x1 = .pointer (some ⟨b1, 0, none⟩))
    (v4 : (a.put (some d0) (.agg cs)).eval y2 = .pointer (some ⟨b2, 0, none⟩)) (v5 : (a.put (some d0) (.agg cs)).eval z2 = .agg cs)
    (v6 : ((a.put (some d0) (.agg cs)).put (some d1) (.agg ds)).eval y2 = .pointer (some ⟨b2, 0, none⟩)) (v7 : ((a.put (some d0) (.agg cs)).put (some d1) (.agg ds)).eval z2 = .agg cs)
    (v8 : ((a.put (some d0) (.agg cs)).put (some d1) (.agg ds)).eval y3 = .pointer (some ⟨b3, 0, none⟩)) (v9 : ((a.put (some d0) (.agg cs)).put (some d1) (.agg ds)).eval z3 = .agg ds)
    {T0 T1 T2 T3 : TypeId} {fr0 fr1 : Nat × Nat} {old2 old3 : Array Value}
    (h0 : w.heap[b0]? = some (.cells cs T0 fr0)) (h1 : w.heap[b1]? = some (.cells ds T1 fr1)) (h2 : w.heap[b2]? = some (.cells old2 T2 (0, 0))) (h3 : w.heap[b3]? = some (.cells old3 T3 (0, 0)))
    (n1 : b2 ≠ b1) (n3 : b2 ≠ b3) {t0 t1 : TypeDesc}
    (hu0 : P.underlying T = some t0) (hd0 : (match t0 with | .struct _ | .array _ _ => true | _ => false) = true) (hi0 : (P.info? T).map (·.size) = some cs.size)
    (hu1 : P.underlying U = some t1) (hd1 : (match t1 with | .struct _ | .array _ _ => true | _ => false) = true) (hi1 : (P.info? U).map (·.size) = some ds.size)
    (s2 : old2.size = cs.size) (s3 : old3.size = ds.size) (c0 : cs.all (·.oneCell') = true) (c1 : ds.all (·.oneCell') = true)
    (h : Q .normal ((a.put (some d0) (.agg cs)).put (some d1) (.agg ds)) ((w.drew.setRow b2 cs).setRow b3 ds)) :
    (Code.region id #[o0, o1, o2, o3] true).wp P Q a w := by
  refine wp_region_any hm ?_
  show wpAny P .any #[o0, o1, o2, o3] Q 4 #[false, false, false, false] a w.drew
  generalize hW : w.drew = W at h ⊢
  have H0 : W.heap[b0]? = some (.cells cs T0 fr0) := by rw [← hW]; exact h0
  have H1 : W.heap[b1]? = some (.cells ds T1 fr1) := by rw [← hW]; exact h1
  have H2 : W.heap[b2]? = some (.cells old2 T2 (0, 0)) := by rw [← hW]; exact h2
  have H3 : W.heap[b3]? = some (.cells old3 T3 (0, 0)) := by rw [← hW]; exact h3
  have hcomm : (a.put (some d1) (.agg ds)).put (some d0) (.agg cs) = (a.put (some d0) (.agg cs)).put (some d1) (.agg ds) := by
    unfold Act.put
    simp only
    rw [Array.setIfInBounds_comm _ _ hne]
  have last : wpAny P .any #[o0, o1, o2, o3] Q 1 #[true, true, true, false] ((a.put (some d0) (.agg cs)).put (some d1) (.agg ds)) (W.setRow b2 cs) := by
    refine ⟨fun e => (by rw [k5] at e; cases e), fun i hi => ?_⟩
    rw [k5] at hi
    obtain rfl : i = 3 := by simpa using hi
    refine wpOp_free (o := o3) rfl g3 ?_
    refine wp_store_row U y3 z3 e3 b3 ds v8 v9 T3 old3 ((setRow_other W b2 b3 cs n3.symm).trans H3) hi1 s3 c1 ?_
    rw [f3]
    refine ⟨?_, ?_⟩
    · exact k6
    · exact h
  have two : wpAny P .any #[o0, o1, o2, o3] Q 2 #[true, true, false, false] ((a.put (some d0) (.agg cs)).put (some d1) (.agg ds)) W := by
    refine ⟨fun e => (by rw [k3] at e; cases e), fun i hi => ?_⟩
    rw [k3] at hi
    obtain rfl : i = 2 := by simpa using hi
    refine wpOp_free (o := o2) rfl g2 ?_
    refine wp_store_row T y2 z2 e2 b2 cs v6 v7 T2 old2 H2 hi0 s2 c0 ?_
    rw [f2]
    exact last
  refine ⟨fun e => (by rw [k0] at e; cases e), fun i hi => ?_⟩
  rw [k0] at hi
  have hi' : i = 0 ∨ i = 1 := by simpa using hi
  rcases hi' with rfl | rfl
  · refine wpOp_free (o := o0) rfl g0 ?_
    refine wp_load_row T x0 e0 b0 v0 T0 cs fr0 t0 H0 hu0 hd0 hi0 ?_
    rw [f0]
    refine ⟨fun e => (by rw [show (#[false, false, false, false].setIfInBounds 0 true) = #[true, false, false, false] from rfl, k1] at e; cases e), fun i hi => ?_⟩
    rw [show (#[false, false, false, false].setIfInBounds 0 true) = #[true, false, false, false] from rfl, k1] at hi
    have hi' : i = 1 ∨ i = 2 := by simpa using hi
    rcases hi' with rfl | rfl
    · refine wpOp_free (o := o1) rfl g1 ?_
      refine wp_load_row U x1 e1 b1 v3 T1 ds fr1 t1 H1 hu1 hd1 hi1 ?_
      rw [f1]
      exact two
    · refine wpOp_free (o := o2) rfl g2 ?_
      refine wp_store_row T y2 z2 e2 b2 cs v4 v5 T2 old2 H2 hi0 s2 c0 ?_
      rw [f2]
      refine ⟨fun e => ?_, fun i hi => ?_⟩
      · have e' : Region.ready .any #[o0, o1, o2, o3] #[true, false, true, false] = [] := e
        rw [k4] at e'
        cases e'
      · have hi' : i ∈ Region.ready .any #[o0, o1, o2, o3] #[true, false, true, false] := hi
        rw [k4] at hi'
        obtain rfl : i = 1 := by simpa using hi'
        refine wpOp_free (o := o1) rfl g1 ?_
        refine wp_load_row U x1 e1 b1 v3 T1 ds fr1 t1 ((setRow_other W b2 b1 cs n1.symm).trans H1) hu1 hd1 hi1 ?_
        rw [f1]
        exact last
  · refine wpOp_free (o := o1) rfl g1 ?_
    refine wp_load_row U x1 e1 b1 v2 T1 ds fr1 t1 H1 hu1 hd1 hi1 ?_
    rw [f1]
    refine ⟨fun e => ?_, fun i hi => ?_⟩
    · have e' : Region.ready .any #[o0, o1, o2, o3] #[false, true, false, false] = [] := e
      rw [k2] at e'
      cases e'
    · have hi' : i ∈ Region.ready .any #[o0, o1, o2, o3] #[false, true, false, false] := hi
      rw [k2] at hi'
      obtain rfl : i = 0 := by simpa using hi'
      refine wpOp_free (o := o0) rfl g0 ?_
      refine wp_load_row T x0 e0 b0 v1 T0 cs fr0 t0 H0 hu0 hd0 hi0 ?_
      rw [f0, hcomm]
      exact two
end
end Go.Proofs.YtbhmnmmockmibaaGreat

namespace Go.Proofs.YtbhmnmmockmibaaGreat
open Go.RowKit
def ReR (w : World) (X : Nat → Prop) (v : Value) (e : Int) (ns : List (List UInt8)) (b : List UInt8) : Prop :=
  ∃ A n c A' n' c', v = .agg #[.int .i64 e, .slice A n c, .slice A' n' c'] ∧ n = ns.length ∧ RdX w X 1 A n (ns.map fun k => .string (txt k)) ∧ n' = b.length ∧ RdX w X 1 A' n' (bs b)
def RdD (w : World) (X : Nat → Prop) (o : OutF) (e : Ending) (w' : World) : Prop := ∃ u r, e = .returned (.tuple #[u, r]) ∧ Below w.heap.size w w' ∧ RefF w' (AX w X) u o.1 ∧ ReR w' (AX w X) r o.2.1 o.2.2.1 o.2.2.2
abbrev zres : Array Value := #[.int .i64 0, .slice none 0 0, .slice none 0 0]
section
variable {w W w1 w2 w3 : World} {X Y : Nat → Prop} {g0 g1 g2 g3 N : Nat} {cc : Array Value} {p : Rp} {s : Fo} {v : Value} {e : Int} {ns : List (List UInt8)} {b : List UInt8}
theorem ReR.err (w : World) (X : Nat → Prop) (e : Int) : ReR w X (.agg #[.int .i64 e, .slice none 0 0, .slice none 0 0]) e [] [] := ⟨none, 0, 0, none, 0, 0, rfl, rfl, RdX.none_, rfl, RdX.none_⟩
theorem ReR.out (X : Nat → Prop) {r : OutF} (h : r.2.2 = ([], [])) (w : World) : ReR w X (.agg #[.int .i64 r.2.1, .slice none 0 0, .slice none 0 0]) r.2.1 r.2.2.1 r.2.2.2 := by
  rw [h]
  exact ReR.err _ _ _
theorem ReR.keep (h : ReR w X v e ns b) (ht : Touch X w w1) : ReR w1 X v e ns b := by
  obtain ⟨A, n, c, A', n', c', h0, h1, h2, h3, h4⟩ := h
  exact ⟨A, n, c, A', n', c', h0, h1, h2.keep ht, h3, h4.keep ht⟩
theorem ReR.mono (h : ReR w X v e ns b) (hx : ∀ b, b < w.heap.size → Y b → X b) : ReR w Y v e ns b := by
  obtain ⟨A, n, c, A', n', c', h0, h1, h2, h3, h4⟩ := h
  exact ⟨A, n, c, A', n', c', h0, h1, h2.mono hx, h3, h4.mono hx⟩
theorem ReR.below (h : ReR w X v e ns b) (ht : Below w.heap.size w w1) : ReR w1 X v e ns b := h.keep (.of ht)
theorem RefF.sev {v : Value} {cs : Array Value} (h : RefF w X v s) (hv : v = .agg cs) : Sev cs := by
  obtain ⟨p, rfl, _⟩ := h
  injection hv with hv
  rw [← hv]
  exact p.sev s
theorem RefF.agg {v : Value} (h : RefF w X v s) : ∃ cs, v = .agg cs ∧ Sev cs := by
  obtain ⟨p, rfl, _⟩ := h
  exact ⟨_, rfl, p.sev s⟩
theorem ReR.agg {v : Value} (h : ReR w X v e ns b) : ∃ ds, v = .agg ds ∧ ds.size = 3 ∧ ds.all (·.oneCell') = true := by
  obtain ⟨A, n, c, A', n', c', h0, _⟩ := h
  exact ⟨_, h0, rfl, by simp [Value.oneCell']⟩
theorem RfC.lt (h : RfC w W w1 X g0 g1 g2 g3 cc p s) : w.heap.size ≤ g2 ∧ g2 < W.heap.size ∧ w.heap.size ≤ g3 ∧ g3 < W.heap.size ∧ g2 ≠ g3 := by
  have := h.ne
  omega
theorem RfC.endd (h : RfC w W w1 X g0 g1 g2 g3 cc p s) {cs ds : Array Value} {o : OutF} (hu : RefF w1 (AY w W X) (.agg cs) o.1) (hr : ReR w1 (AY w W X) (.agg ds) o.2.1 o.2.2.1 o.2.2.2) :
    (w1.setRow g2 cs).heap[g3]? = some (.cells zres 53 (0, 0)) ∧
    ((w1.setRow g2 cs).setRow g3 ds).heap[g2]? = some (.cells cs 36 (0, 0)) ∧
    ((w1.setRow g2 cs).setRow g3 ds).heap[g3]? = some (.cells ds 53 (0, 0)) ∧
    RdD w X o (.returned (.tuple #[.agg cs, .agg ds])) ((w1.setRow g2 cs).setRow g3 ds) := by
  obtain ⟨l1, l2, l3, l4, l5⟩ := h.lt
  have e3 := (setRow_other w1 g2 g3 cs l5.symm).trans h.r2
  have e2 : (w1.setRow g2 cs).heap[g2]? = some (.cells cs 36 (0, 0)) := setRow_heap _ _ _ _ _ _ h.r1
  have ht : Touch (fun b => b = g2 ∨ b = g3) w1 ((w1.setRow g2 cs).setRow g3 ds) := ((Touch.row1 w1 g2 cs).mono fun _ _ e => Or.inl e).trans ((Touch.row1 _ g3 ds).mono fun _ _ e => Or.inr e)
  have hta : Touch (AY w W X) w1 ((w1.setRow g2 cs).setRow g3 ds) := ht.mono fun b _ e => by
    rcases e with e | e <;> (rw [e]; exact h.b.ay (by assumption) (by assumption))
  have hx : ∀ b, b < ((w1.setRow g2 cs).setRow g3 ds).heap.size → AX w X b → AY w W X b := fun b _ e => ⟨Nat.lt_of_lt_of_le e.1 (by omega), .inl e.2⟩
  exact ⟨e3, (setRow_other _ _ _ _ l5).trans e2, setRow_heap _ _ _ _ _ _ e3, _, _, rfl, h.b.bel.trans (ht.below h.b.bel.size fun b e => by rcases e with e | e <;> omega), (hu.keep hta).mono hx, (hr.keep hta).mono hx⟩
theorem RfC.back (h : RfC w W w1 X g0 g1 g2 g3 cc p s) {s' : Fo} (hu : RefF w2 (AX w1 (AY w W X)) v s') : RefF w2 (AY w W X) v s' := hu.mono fun _ _ (e : AY w W X _) => ⟨Nat.lt_of_lt_of_le e.1 h.b.ge, e⟩
theorem RfC.arg (h : RfC w W w1 X g0 g1 g2 g3 cc p s) : RefF w1 (AY w W X) (.agg (p.cs s)) s := ⟨p, rfl, h.b.pt⟩
theorem RfP.high (h : RfP w X p s) (hb : Below w.heap.size w w1) : RfP w1 (fun b => X b ∨ w.heap.size ≤ b) p s := by
  obtain ⟨A, c, A', c', e, h1, h2⟩ := h.d.v
  obtain ⟨A2, c2, es, e2, h3, h4⟩ := h.t
  have h1 : RfP w (fun b => X b ∨ w.heap.size ≤ b) p s := ⟨⟨A, c, A', c', e, h1.high', h2.high'⟩, ⟨A2, c2, es, e2, h3.high, h4⟩, h.g.high'⟩
  exact h1.below hb
theorem RfB.startP (hp : RfP w X p s) (hb : Below w.heap.size w W) (hl : w.heap.size ≤ g0 ∧ g0 < W.heap.size) (hg : W.heap[g0]? = some (.cells (p.cs s) 36 (0, 0))) : RfB w W W X g0 p s :=
  ⟨hg, (hp.high hb).mono fun b _ (e : AY w W X b) => e.2, hb, Nat.le_refl _, hl⟩
theorem RfC.startP (hp : RfP w X p s) (hw : (((w.alloc (.cells (p.cs s) 36)).alloc (.cells cc 46)).alloc (.cells zrf 36)).alloc (.cells zres 53) = W) :
    RfC w W W X w.heap.size (w.heap.size + 1) (w.heap.size + 1 + 1) (w.heap.size + 1 + 1 + 1) cc p s := by
  have h4 := four_heap w (.cells (p.cs s) 36) (.cells cc 46) (.cells zrf 36) (.cells zres 53)
  rw [hw] at h4
  obtain ⟨hs, e1, e2, e3, e4⟩ := h4
  have hb : Below w.heap.size w W := by rw [← hw]; exact (((below_new _ _).alloc (by simp) _).alloc (by simp; omega) _).alloc (by simp; omega) _
  exact ⟨RfB.startP hp hb (by omega) e1, e2, e3, e4, rfl, rfl, rfl, rfl, by omega⟩
theorem RfC.again (h : RfC w W w1 X g0 g1 g2 g3 cc p s) (hp : RfP w X p s) (hb : Below w1.heap.size w1 w2) : RfC w w2 w2 X g0 g1 g2 g3 cc p s := by
  have h2 := h.below hb
  have hn := h.ne
  have hs := hb.size
  have hg := h.b.ge
  exact ⟨RfB.startP hp h2.b.bel (by omega) h2.b.box, h2.call, h2.r1, h2.r2, hn.1, hn.2.1, hn.2.2.1, hn.2.2.2.1, by omega⟩
theorem RfC.at4 (h : RfC w W w1 X g0 g1 g2 g3 cc p s) {g4 : Nat} (hg : g4 < W.heap.size ∧ g0 < g4 ∧ g1 < g4 ∧ g2 < g4 ∧ g3 < g4 ∧ g2 ≠ g3 ∧ w.heap.size ≤ g4) (ht : Touch (fun b => b = g4) w1 w2) : RfC w W w2 X g0 g1 g2 g3 cc p s ∧ Touch (AY w W X) w1 w2 :=
  ⟨⟨h.b.touch (ht.mono fun b _ e => by rw [e]; omega), ht.heap (show ¬ g1 = g4 by omega) h.call, ht.heap (show ¬ g2 = g4 by omega) h.r1, ht.heap (show ¬ g3 = g4 by omega) h.r2, h.ne⟩, ht.mono fun b _ e => by rw [e]; exact ⟨hg.1, .inr hg.2.2.2.2.2.2⟩⟩
theorem RfC.syncB (h : RfC w W w1 X g0 g1 g2 g3 cc p s) (hok : s.Ok N) (hN : N ≤ 890) (z : Int) :
    Calls Tryz.prog 47 #[p.tv s, .int .i64 z] w1 fun e w2 => ∃ u, e = .returned (.tuple #[u, .int .i64 (doSync s.fs z).2]) ∧ TSt w W w2 X g0 g1 g2 g3 cc p s { s with fs := (doSync s.fs z).1 } u ∧ Below w1.heap.size w1 w2 := by
  refine (rsyncT_any (z := z) (hok.rl (by omega)) (hok.sm (by omega)) h.b.pt.t).mono ?_
  rintro e w2 ⟨u, er, rfl, hb, hT⟩
  obtain ⟨e1, e2⟩ := tie_sync (P := fun M => RefT w2 (AX w1 (AY w W X)) u M s.q (s.made : Int)) hok.srt hT
  exact ⟨u, by rw [e1], h.tst hb e2, hb⟩
theorem RfC.appB (h : RfC w W w1 X g0 g1 g2 g3 cc p s) (hok : s.Ok N) (hN : N ≤ 890) (z : Int) {Ab : Option Addr} {cb B m : Nat} {bl : List UInt8} (hu : (usedF s.fs : Int) ≤ s.q) (hm : bl.length = m) (hm2 : m ≤ 100000) (hB : B ≤ w1.heap.size) (hbl : RdB w1 B Ab bl) :
    Calls Tryz.prog 46 #[p.tv s, .int .i64 z, .slice Ab m cb] w1 fun e w2 => ∃ u, e = .returned (.tuple #[u, .int .i64 (doApp s.q s.fs z bl).2]) ∧ TSt w W w2 X g0 g1 g2 g3 cc p s { s with fs := (doApp s.q s.fs z bl).1 } u ∧ Below w1.heap.size w1 w2 := by
  refine (rappT_any (z := z) (cb := cb) (hok.rl (by omega)) (hok.sm (by omega)) h.b.pt.t hm hm2 hB hbl).mono ?_
  rintro e w2 ⟨u, er, rfl, hb, hT⟩
  obtain ⟨e1, e2⟩ := tie_app (P := fun M => RefT w2 (AX w1 (AY w W X)) u M s.q (s.made : Int)) hok.srt hu hm hT
  exact ⟨u, by rw [e1], h.tst hb e2, hb⟩
theorem RfC.removeB (h : RfC w W w1 X g0 g1 g2 g3 cc p s) (hok : s.Ok N) (hN : N ≤ 890) (k : List UInt8) (hk : k.length ≤ 1000) {v : Int} (hg : getE s.d.now k = some v) :
    Calls Tryz.prog 48 #[p.dv, .string (txt k)] w1 fun e w2 => ∃ u, e = .returned (.tuple #[u, .int .i64 v, .int .i64 0]) ∧ DSt' w W w2 X g0 g1 g2 g3 cc p s { s with d := s.d.rem k v } u ∧ Below w1.heap.size w1 w2 := by
  have e0 : s.d.remove k = (s.d.rem k v, v, 0) := by unfold St.remove; rw [hg]
  refine (refRemove_any h.b.pt.d hok.d (by omega) k hk).mono ?_
  rw [e0]
  rintro e w2 ⟨u, rfl, hu, hb⟩
  exact ⟨u, rfl, h.dst hb hu, hb⟩
theorem size_rc : (Tryz.prog.info? 46).map (·.size) = some 4 := by kernel_rfl
end
end Go.Proofs.YtbhmnmmockmibaaGreat

namespace Go.Proofs.YtbhmnmmockmibaaGreat
open Go.RowKit
section
variable {w W w1 w2 w3 : World} {X Y : Nat → Prop} {g0 g1 g2 g3 N : Nat} {p : Rp} {s : Fo}
set_option maxHeartbeats 8000000 in
set_option maxRecDepth 100000 in
theorem rdo1_any {v : Value} {n t : List UInt8} {Ab : Option Addr} {nl cb : Nat} (hr : RefF w X v s) (hok : s.Ok N) (hN : N ≤ 880) (hn : n.length ≤ 1000) (gg : Nat) :
    Calls Tryz.prog 14 #[v, .agg #[.int .u8 1, .string (txt n), .string (txt t), .slice Ab nl cb]] w fun e w' => RdD w X (s.doCreate gg n) e w' := by
  obtain ⟨B0, hB0⟩ : ∃ B, Hid (w.heap.size = B) := ⟨_, rfl⟩
  obtain ⟨B1, hB1⟩ : ∃ B, Hid (w.heap.size + 1 = B) := ⟨_, rfl⟩
  obtain ⟨B2, hB2⟩ : ∃ B, Hid (w.heap.size + 1 + 1 = B) := ⟨_, rfl⟩
  obtain ⟨B3, hB3⟩ : ∃ B, Hid (w.heap.size + 1 + 1 + 1 = B) := ⟨_, rfl⟩
  obtain ⟨cs, hcs⟩ : ∃ cs, v = .agg cs := by obtain ⟨p, e, _⟩ := hr; exact ⟨_, e⟩
  obtain ⟨W, hW⟩ : ∃ W, Hid ((((w.alloc (.cells cs 36)).alloc (.cells #[.int .u8 1, .string (txt n), .string (txt t), .slice Ab nl cb] 46)).alloc (.cells zrf 36)).alloc (.cells #[.int .i64 0, .slice none 0 0, .slice none 0 0] 53) = W) := ⟨_, rfl⟩
  obtain ⟨p, ep, hC0⟩ := RfC.start (W := W) (cc := #[.int .u8 1, .string (txt n), .string (txt t), .slice Ab nl cb]) hr (fun cs' e => by rw [hcs] at e; injection e with e; rw [← e]; exact hW.out)
  rw [hB3.out, hB2.out, hB1.out, hB0.out] at hC0
  have hC := Lib.hid hC0
  rw [hcs] at ep
  injection ep with ep
  subst ep
  subst hcs
  have HWW : Hid ((((w.alloc (.cells (p.cs s) 36)).alloc (.cells #[.int .u8 1, .string (txt n), .string (txt t), .slice Ab nl cb] 46)).alloc (.cells #[.slice none 0 0, .slice none 0 0, .slice none 0 0, .int .i64 0, .int .i64 0, .int .i64 0, .slice none 0 0] 36)).alloc (.cells #[.int .i64 0, .slice none 0 0, .slice none 0 0] 53) = W) := hW.out
  clear hr hC0
  obtain ⟨c0, c1, c2, c3, c4, c5, c6⟩ := hC.out.b.cells
  obtain ⟨a0, a1, a2, a3⟩ := quad_cell hC.out.call
  have hget := Lib.hid (hC.out.get hok (by omega) n)
  have hcr := Lib.hid (fun wx (hx : RfC w W wx X B0 B1 B2 B3 #[.int .u8 1, .string (txt n), .string (txt t), .slice Ab nl cb] p s) => rcreate_any (k := .int .u8 1) (t := t) (Ab := Ab) (nl := nl) (cb := cb) hx.arg hok hN hn gg)
  have hre := Lib.hid (ReR.out (AY w W X) (r := (s.doCreate gg n)) (by unfold Fo.doCreate; (repeat' split) <;> rfl))
  go_enter Tryz.func14, Tryz.ntmps14
  go_upto_region 1 with fail
  rw [hB3.out, hB2.out, hB1.out, hB0.out, HWW.out]
  go_wp2_with (first
    | (go_at_call 41; refine hget.out.mono ?_; rintro e w1 ⟨rfl, hb1⟩; have hC1 := Lib.hid (hC.out.below hb1); have Hb1 := Lib.hid hb1; clear hb1; obtain ⟨d0, d1, d2, d3, d4, d5, d6⟩ := hC1.out.b.cells; obtain ⟨b0, b1, b2, b3⟩ := quad_cell hC1.out.call; clear c0 c1 c2 c3 c4 c5 c6 a0 a1 a2 a3)
    | (refine wpList_load_row rfl 36 (.tmp 2) rfl B0 rfl _ _ _ _ hC1.out.b.box Tryz.underlying36 rfl size_rf ?_)
    | (refine wpList_load_row rfl 46 (.tmp 3) rfl B1 rfl _ _ _ _ hC1.out.call Tryz.underlying46 rfl size_rc ?_)
    | (go_at_call 42; refine (hcr.out _ hC1.out).mono ?_; rintro e w2 ⟨u, rfl, hb2, hu2⟩; obtain ⟨cs', rfl, hsv⟩ := hu2.agg; have hC2 := Lib.hid (hC1.out.below hb2); have hE := Lib.hid (hC2.out.endd (hC1.out.back hu2) (hre.out _)); have e3 := Lib.hid hE.out.1; have Hsv := Lib.hid hsv; clear hb2 hu2 hsv)
    | (refine wpList_store_row rfl 36 (.tmp 4) (.tmp 28) rfl B2 _ rfl rfl _ _ hC2.out.r1 (by rw [Hsv.out.n]; exact size_rf) (by rw [Hsv.out.n]; rfl) Hsv.out.one ?_)
    | (refine wpList_store_row rfl 53 (.tmp 5) (.tmp 29) rfl B3 _ rfl rfl _ _ e3.out size_rr rfl (by simp [Value.oneCell']) ?_))
  exact ret_rfr rfl B2 B3 cs' _ Hsv.out.n rfl _ _ (0, 0) (0, 0) rfl rfl hE.out.2.1 hE.out.2.2.1 rfl hE.out.2.2.2
set_option maxHeartbeats 8000000 in
set_option maxRecDepth 100000 in
theorem rdo5_any {v : Value} {n t : List UInt8} {Ab : Option Addr} {nl cb : Nat} (hr : RefF w X v s) (hok : s.Ok N) (hN : N ≤ 880) (ht : t.length ≤ 1000) (hpos : ∀ e ∈ s.d.now, 0 ≤ e.2) :
    Calls Tryz.prog 14 #[v, .agg #[.int .u8 5, .string (txt n), .string (txt t), .slice Ab nl cb]] w fun e w' => RdD w X (s.doLink n t) e w' := by
  obtain ⟨B0, hB0⟩ : ∃ B, Hid (w.heap.size = B) := ⟨_, rfl⟩
  obtain ⟨B1, hB1⟩ : ∃ B, Hid (w.heap.size + 1 = B) := ⟨_, rfl⟩
  obtain ⟨B2, hB2⟩ : ∃ B, Hid (w.heap.size + 1 + 1 = B) := ⟨_, rfl⟩
  obtain ⟨B3, hB3⟩ : ∃ B, Hid (w.heap.size + 1 + 1 + 1 = B) := ⟨_, rfl⟩
  obtain ⟨cs, hcs⟩ : ∃ cs, v = .agg cs := by obtain ⟨p, e, _⟩ := hr; exact ⟨_, e⟩
  obtain ⟨W, hW⟩ : ∃ W, Hid ((((w.alloc (.cells cs 36)).alloc (.cells #[.int .u8 5, .string (txt n), .string (txt t), .slice Ab nl cb] 46)).alloc (.cells zrf 36)).alloc (.cells #[.int .i64 0, .slice none 0 0, .slice none 0 0] 53) = W) := ⟨_, rfl⟩
  obtain ⟨p, ep, hC0⟩ := RfC.start (W := W) (cc := #[.int .u8 5, .string (txt n), .string (txt t), .slice Ab nl cb]) hr (fun cs' e => by rw [hcs] at e; injection e with e; rw [← e]; exact hW.out)
  rw [hB3.out, hB2.out, hB1.out, hB0.out] at hC0
  have hC := Lib.hid hC0
  rw [hcs] at ep
  injection ep with ep
  subst ep
  subst hcs
  have HWW : Hid ((((w.alloc (.cells (p.cs s) 36)).alloc (.cells #[.int .u8 5, .string (txt n), .string (txt t), .slice Ab nl cb] 46)).alloc (.cells #[.slice none 0 0, .slice none 0 0, .slice none 0 0, .int .i64 0, .int .i64 0, .int .i64 0, .slice none 0 0] 36)).alloc (.cells #[.int .i64 0, .slice none 0 0, .slice none 0 0] 53) = W) := hW.out
  clear hr hC0
  obtain ⟨c0, c1, c2, c3, c4, c5, c6⟩ := hC.out.b.cells
  obtain ⟨a0, a1, a2, a3⟩ := quad_cell hC.out.call
  have hget := Lib.hid (hC.out.get hok (by omega) n)
  have hcr := Lib.hid (fun wx (hx : RfC w W wx X B0 B1 B2 B3 #[.int .u8 5, .string (txt n), .string (txt t), .slice Ab nl cb] p s) => rlink_any (k := .int .u8 5) (n := n) (Ab := Ab) (nl := nl) (cb := cb) hx.arg hok hN ht hpos)
  have hre := Lib.hid (ReR.out (AY w W X) (r := (s.doLink n t)) (by unfold Fo.doLink; (repeat' split) <;> rfl))
  go_enter Tryz.func14, Tryz.ntmps14
  go_upto_region 1 with fail
  rw [hB3.out, hB2.out, hB1.out, hB0.out, HWW.out]
  go_wp2_with (first
    | (go_at_call 41; refine hget.out.mono ?_; rintro e w1 ⟨rfl, hb1⟩; have hC1 := Lib.hid (hC.out.below hb1); have Hb1 := Lib.hid hb1; clear hb1; obtain ⟨d0, d1, d2, d3, d4, d5, d6⟩ := hC1.out.b.cells; obtain ⟨b0, b1, b2, b3⟩ := quad_cell hC1.out.call; clear c0 c1 c2 c3 c4 c5 c6 a0 a1 a2 a3)
    | (refine wpList_load_row rfl 36 (.tmp 2) rfl B0 rfl _ _ _ _ hC1.out.b.box Tryz.underlying36 rfl size_rf ?_)
    | (refine wpList_load_row rfl 46 (.tmp 3) rfl B1 rfl _ _ _ _ hC1.out.call Tryz.underlying46 rfl size_rc ?_)
    | (go_at_call 44; refine (hcr.out _ hC1.out).mono ?_; rintro e w2 ⟨u, rfl, hb2, hu2⟩; obtain ⟨cs', rfl, hsv⟩ := hu2.agg; have hC2 := Lib.hid (hC1.out.below hb2); have hE := Lib.hid (hC2.out.endd (hC1.out.back hu2) (hre.out _)); have e3 := Lib.hid hE.out.1; have Hsv := Lib.hid hsv; clear hb2 hu2 hsv)
    | (refine wpList_store_row rfl 36 (.tmp 4) (.tmp 40) rfl B2 _ rfl rfl _ _ hC2.out.r1 (by rw [Hsv.out.n]; exact size_rf) (by rw [Hsv.out.n]; rfl) Hsv.out.one ?_)
    | (refine wpList_store_row rfl 53 (.tmp 5) (.tmp 41) rfl B3 _ rfl rfl _ _ e3.out size_rr rfl (by simp [Value.oneCell']) ?_))
  exact ret_rfr rfl B2 B3 cs' _ Hsv.out.n rfl _ _ (0, 0) (0, 0) rfl rfl hE.out.2.1 hE.out.2.2.1 rfl hE.out.2.2.2
end
end Go.Proofs.YtbhmnmmockmibaaGreat
