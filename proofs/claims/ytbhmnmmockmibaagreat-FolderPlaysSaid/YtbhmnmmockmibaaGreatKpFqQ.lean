/- The walk of the reference's Do: a write. Conditions: at most 880 calls; at most 60 bytes. The walk of the reference's Do: the names. Conditions: at most 880 calls. The walk of the reference's Do: unlink. Conditions: at most 880 calls; names of at most 1000 bytes. -/
import Derived.Test.YtbhmnmmockmibaaGreatKpFqI
import Derived.Test.YtbhmnmmockmibaaGreatKpFqE
import Derived.Deep.RegionHeld3
import Derived.Deep.RegionLaw
import Derived.Test.YtbhmnmmockmibaaGreatKpFqM
namespace Go.Proofs.YtbhmnmmockmibaaGreat
open Go.RowKit
section
variable {w W w1 w2 w3 : World} {X Y : Nat → Prop} {g0 g1 g2 g3 N : Nat} {p : Rp} {s : Fo}
set_option maxHeartbeats 8000000 in
set_option maxRecDepth 100000 in
theorem rdo2_any {v : Value} {n t : List UInt8} {Ab : Option Addr} {nl cb : Nat} (hr : RefF w X v s) (hok : s.Ok N) (hN : N ≤ 880) {vv : Int} (hg : getE s.d.now n = some vv) {Bb : Nat} {l : List UInt8} (hu : (usedF s.fs : Int) ≤ s.q) (hl : l.length = nl) (hl2 : nl ≤ 60) (hB : Bb ≤ w.heap.size) (hbl : RdB w Bb Ab l) :
    Calls Tryz.prog 14 #[v, .agg #[.int .u8 2, .string (txt n), .string (txt t), .slice Ab nl cb]] w fun e w' => RdD w X ({ s with fs := (doApp s.q s.fs vv l).1 }, (doApp s.q s.fs vv l).2, [], []) e w' := by
  obtain ⟨p, rfl, hp0⟩ := hr
  have hp := Lib.hid hp0
  obtain ⟨B0, hB0⟩ : ∃ B, Hid (w.heap.size = B) := ⟨_, rfl⟩
  obtain ⟨B1, hB1⟩ : ∃ B, Hid (w.heap.size + 1 = B) := ⟨_, rfl⟩
  obtain ⟨B2, hB2⟩ : ∃ B, Hid (w.heap.size + 1 + 1 = B) := ⟨_, rfl⟩
  obtain ⟨B3, hB3⟩ : ∃ B, Hid (w.heap.size + 1 + 1 + 1 = B) := ⟨_, rfl⟩
  obtain ⟨W, HWW⟩ : ∃ W, Hid ((((w.alloc (.cells (p.cs s) 36)).alloc (.cells #[.int .u8 2, .string (txt n), .string (txt t), .slice Ab nl cb] 46)).alloc (.cells #[.slice none 0 0, .slice none 0 0, .slice none 0 0, .int .i64 0, .int .i64 0, .int .i64 0, .slice none 0 0] 36)).alloc (.cells #[.int .i64 0, .slice none 0 0, .slice none 0 0] 53) = W) := ⟨_, rfl⟩
  have hC0 := RfC.startP (cc := #[.int .u8 2, .string (txt n), .string (txt t), .slice Ab nl cb]) hp0 HWW.out
  rw [hB3.out, hB2.out, hB1.out, hB0.out] at hC0
  have hC := Lib.hid hC0
  clear hp0 hC0
  obtain ⟨c0, c1, c2, c3, c4, c5, c6⟩ := hC.out.b.cells
  obtain ⟨a0, a1, a2, a3⟩ := quad_cell hC.out.call
  have hget := Lib.hid (hC.out.get hok (by omega) n)
  have hhas : hasE s.d.now n = true := by rw [← getE_has, hg]; rfl
  rw [hhas, hg] at hget
  simp only [Option.getD_some] at hget
  have hby := Lib.hid (fun wx wz (hx : RfC w wz wx X B0 B1 B2 B3 #[.int .u8 2, .string (txt n), .string (txt t), .slice Ab nl cb] p s) => fun (hbl : RdB wx Bb Ab l) (hBx : Bb ≤ wx.heap.size) => hx.appB (Ab := Ab) (cb := cb) hok (by omega) vv hu hl (by omega) hBx hbl)
  go_enter Tryz.func14, Tryz.ntmps14
  go_upto_region 1 with fail
  rw [hB3.out, hB2.out, hB1.out, hB0.out, HWW.out]
  go_upto_region 21 with (first | (go_at_call 41; refine hget.out.mono ?_; rintro e w1 ⟨rfl, hb1⟩; have hC1 := Lib.hid (hC.out.below hb1); have Hb1 := Lib.hid hb1; clear hb1; obtain ⟨d0, d1, d2, d3, d4, d5, d6⟩ := hC1.out.b.cells; obtain ⟨b0, b1, b2, b3⟩ := quad_cell hC1.out.call; clear c0 c1 c2 c3 c4 c5 c6 a0 a1 a2 a3))
  obtain ⟨B4, hB4⟩ : ∃ B, Hid (w1.heap.size = B) := ⟨_, rfl⟩
  obtain ⟨W5, hW5⟩ : ∃ W', Hid (w1.alloc (.cells #[.int .i64 0, .slice none 0 0, .slice none 0 0] 53) = W') := ⟨_, rfl⟩
  have hb5 : Hid (Below w1.heap.size w1 W5) := by rw [← hW5.out]; exact below_new _ _
  have hq5 : Hid (W5.heap[B4]? = some (.cells zres 53 (0, 0))) := by rw [← hW5.out, ← hB4.out]; exact heap_alloc_new _ _
  have hC5 := Lib.hid (hC1.out.again hp.out hb5.out)
  have hlt5 : Hid (B4 < W5.heap.size ∧ B0 < B4 ∧ B1 < B4 ∧ B2 < B4 ∧ B3 < B4 ∧ B2 ≠ B3 ∧ w.heap.size ≤ B4) := by
    have h1 := hC.out.ne
    have h2 := hC1.out.b.ge
    have h3 := (Array.getElem?_eq_some_iff.1 hq5.out).1
    have h4 := hB4.out
    exact ⟨h3, by omega, by omega, by omega, by omega, by omega, by omega⟩
  clear d0 d1 d2 d3 d4 d5 d6 b0 b1 b2 b3
  obtain ⟨d0, d1, d2, d3, d4, d5, d6⟩ := hC5.out.b.cells
  obtain ⟨b0, b1, b2, b3⟩ := quad_cell hC5.out.call
  obtain ⟨q0, q1, q2⟩ := tri_cell hq5.out
  have qf := fun i => d_frozen (i := i) hq5.out
  go_upto_region 22 with fail
  rw [hB4.out, hW5.out]
  have HBx : Hid (Bb ≤ W5.heap.size) := Nat.le_trans hB hC5.out.b.bel.size
  have Hbl := Lib.hid (Reads.below hbl (hC5.out.b.bel.mono hB))
  go_upto_region 33 with (first | (go_at_call 46; refine (hby.out _ _ hC5.out Hbl.out HBx.out).mono ?_; rintro e w6 ⟨u, rfl, ⟨A6, n6, k6, rfl, hC6, hD6⟩, hb6⟩; have hq6 := Lib.hid ((hb6.block _ (Array.getElem?_eq_some_iff.1 hq5.out).1).trans hq5.out); have HC6 := Lib.hid hC6; have HD6 := Lib.hid hD6; clear hb6 hC6 hD6; obtain ⟨m0, m1, m2, m3, m4, m5, m6⟩ := HC6.out.b.cells; have mf := HC6.out.b.fz; have s0 := tri_cell hq6.out; have sf := fun i => d_frozen (i := i) hq6.out))
  have ht6 := ((Touch.cell1 w6 B0 2 (.slice A6 n6 k6)).trans (Touch.cell1 _ B0 3 (.int .i64 s.q))).trans (Touch.cell1 _ B0 4 (.int .i64 (s.made : Int)))
  obtain ⟨W7, hW7⟩ : ∃ W', Hid (((w6.setCell ⟨B0, 2, none⟩ (.slice A6 n6 k6)).setCell ⟨B0, 3, none⟩ (.int .i64 s.q)).setCell ⟨B0, 4, none⟩ (.int .i64 (s.made : Int)) = W') := ⟨_, rfl⟩
  have hD7 := HD6.out
  rw [show tset w6 B0 A6 n6 k6 s.q (s.made : Int) = W7 from hW7.out] at hD7
  rw [hW7.out] at ht6 ⊢
  have hq7 := Lib.hid (ht6.heap (show ¬ B4 = B0 by have := hlt5.out; omega) hq6.out)
  have HD7 := Lib.hid hD7
  obtain ⟨p9, hp9⟩ : ∃ q : Rp, Hid (RfC w W5 W7 X B0 B1 B2 B3 #[.int .u8 2, .string (txt n), .string (txt t), .slice Ab nl cb] q { s with fs := (doApp s.q s.fs vv l).1 }) := ⟨_, HD7⟩
  clear hD7 HD7 HD6 m0 m1 m2 m3 m4 m5 m6 mf s0 sf ht6
  obtain ⟨W9, hW9⟩ : ∃ W', Hid (W7.setCell ⟨B4, 0, none⟩ (.int .i64 (doApp s.q s.fs vv l).2) = W') := ⟨_, rfl⟩
  have ht9 := Touch.cell1 W7 B4 0 (.int .i64 (doApp s.q s.fs vv l).2)
  have hq9 := heap_setCell_same W7 B4 0 _ _ (.int .i64 (doApp s.q s.fs vv l).2) hq7.out
  rw [hW9.out] at ht9 hq9 ⊢
  have hC9 := Lib.hid (hp9.out.at4 hlt5.out ht9).1
  have hq9 := Lib.hid (show W9.heap[B4]? = some (.cells #[.int .i64 (doApp s.q s.fs vv l).2, .slice none 0 0, .slice none 0 0] 53 (0, 0)) from hq9)
  clear ht9
  have hC10 := Lib.hid (hC9.out.below (Below.refl _ _).drew)
  have hE := Lib.hid (hC10.out.endd (o := ({ s with fs := (doApp s.q s.fs vv l).1 }, (doApp s.q s.fs vv l).2, [], [])) hC10.out.arg (ReR.err _ _ _))
  refine wp_region_copy2 (by kernel_rfl) (by kernel_rfl) (by kernel_rfl) (by kernel_rfl) (by kernel_rfl) (by kernel_rfl) (by kernel_rfl) (by kernel_rfl) rfl rfl rfl rfl 36 53 rfl rfl rfl rfl 137 138 rfl rfl rfl rfl (by decide) B0 B4 B2 B3 (p9.cs { s with fs := (doApp s.q s.fs vv l).1 }) #[.int .i64 (doApp s.q s.fs vv l).2, .slice none 0 0, .slice none 0 0] rfl rfl rfl rfl rfl rfl rfl rfl rfl rfl hC9.out.b.box hq9.out hC9.out.r1 hC9.out.r2 (by have := hlt5.out; omega) hlt5.out.2.2.2.2.2.1 Tryz.underlying36 rfl size_rf Tryz.underlying53 rfl size_rr rfl rfl (p9.sev { s with fs := (doApp s.q s.fs vv l).1 }).one (by simp [Value.oneCell']) ?_
  go_wp2
  exact ret_rfr rfl B2 B3 (p9.cs { s with fs := (doApp s.q s.fs vv l).1 }) _ rfl rfl _ _ (0, 0) (0, 0) rfl rfl hE.out.2.1 hE.out.2.2.1 rfl hE.out.2.2.2
end
end Go.Proofs.YtbhmnmmockmibaaGreat

namespace Go.Proofs.YtbhmnmmockmibaaGreat
open Go.RowKit
section
variable {w W w1 w2 w3 : World} {X Y : Nat → Prop} {g0 g1 g2 g3 N : Nat} {p : Rp} {s : Fo}
section
variable {ops : Array Oper} {o : Oper} {a : Act} {K : Act → World → Prop} {Q : Exit → Act → World → Prop} {w : World} {base : Nat} {v : Value} {E : Prop}
theorem Touch.low {X : Nat → Prop} {w w1 w2 : World} (h : Touch X w w1) (hb : Below w.heap.size w1 w2) : Touch X w w2 :=
  ⟨hb.os.trans h.os, hb.tape.trans h.tape, hb.output.trans h.output, Nat.le_trans h.size hb.size, fun k hk hn => (hb.block k hk).trans (h.block k hk hn)⟩
theorem step_push_one {t e : TypeId} {z : Value} {by_ : Nat} (ht : OneSl t e z by_) (hz1 : z.cells.size = 1) (hby : by_ ≤ 64) {N n : Nat} (s x : Operand) {own : List Value} (f : Value) (hf : f.oneCell' = true) (hown : w.ownsRow base e 1 v n own) (hbase : base ≤ w.heap.size) (hl : n ≤ 1099511627775)
    (hgd : o.guard = none) (ho : o.op = .call { callee := .builtin .append, args := #[s, x], argTypes := #[t, t] })
    (hs : a.eval s = v) (hx : a.eval x = .slice (some ⟨N, 0, none⟩) 1 1) (hN : w.heap.size = N)
    (h : ∀ A' c' w', w'.ownsRow base e 1 (.slice A' (n + 1) c') (n + 1) (own ++ [f]) → Below base w w' → K (a.put o.dst (.slice A' (n + 1) c')) w') :
    if Region.wanted o (yielded ops a.tmps) = true then Oper.wp Tryz.prog o a (w.alloc (.cells #[f] e)) K Q else E := by
  subst hN
  have hw : Region.wanted o (yielded ops a.tmps) = true := by simp [Region.wanted, hgd]
  rw [if_pos hw]
  obtain ⟨hu, hi⟩ := ht
  obtain ⟨i0, hi0, hz0, hz1', hz2⟩ := info_parts hi
  obtain ⟨ob, hob⟩ : ∃ ob, ob = Obj.cells #[f] e (0, 0) := ⟨_, rfl⟩
  rw [← hob]
  have hnew : Reads (w.alloc ob) (w.heap.size + 1) 1 (some ⟨w.heap.size, 0, none⟩) 1 [f] := by
    refine ⟨rfl, fun _ => ⟨_, rfl, by simp, fun j u hu => ?_⟩⟩
    rw [lit_add, Nat.zero_add]
    subst hob
    rw [cell_of_row _ w.heap.size j _ _ _ (heap_alloc_new w _)]
    simpa using hu
  have ha : (w.alloc ob).ownsRow base e 1 v n own := World.ownsRow.alloc (w := w) hown ob
  refine wp_append_any (w.alloc ob) s x t ho base e i0 z 1 by_ hu hi0 hz0 hz1' hz2 hz1 (by omega) v n own hs ha (w.heap.size + 1) _ 1 1 [f] hx hnew (by intro u hu; rw [List.mem_singleton] at hu; rw [hu]; exact hf) (by simp only [maxLen]; omega) (Nat.le_trans (Nat.mul_le_mul_left _ hby) (by omega)) (by simp; omega) ?_
  intro v1 w1 h1 h2 h3
  have hb := ((Below.refl base w).alloc hbase _).trans (grown_below ha h2 (by simp; omega))
  obtain ⟨A', c', rfl, _, _, _⟩ := own_form h1
  exact h A' c' w1 h1 hb
end
set_option maxHeartbeats 8000000 in
set_option maxRecDepth 100000 in
theorem rdo7_any {v : Value} {n t : List UInt8} {Ab : Option Addr} {nl cb : Nat} (hr : RefF w X v s) (hok : s.Ok N) (hN : N ≤ 880) :
    Calls Tryz.prog 14 #[v, .agg #[.int .u8 7, .string (txt n), .string (txt t), .slice Ab nl cb]] w fun e w' => RdD w X (s, 0, s.d.now.map Prod.fst, []) e w' := by
  obtain ⟨p, rfl, hp0⟩ := hr
  have hp := Lib.hid hp0
  obtain ⟨B0, hB0⟩ : ∃ B, Hid (w.heap.size = B) := ⟨_, rfl⟩
  obtain ⟨B1, hB1⟩ : ∃ B, Hid (w.heap.size + 1 = B) := ⟨_, rfl⟩
  obtain ⟨B2, hB2⟩ : ∃ B, Hid (w.heap.size + 1 + 1 = B) := ⟨_, rfl⟩
  obtain ⟨B3, hB3⟩ : ∃ B, Hid (w.heap.size + 1 + 1 + 1 = B) := ⟨_, rfl⟩
  obtain ⟨W, HWW⟩ : ∃ W, Hid ((((w.alloc (.cells (p.cs s) 36)).alloc (.cells #[.int .u8 7, .string (txt n), .string (txt t), .slice Ab nl cb] 46)).alloc (.cells #[.slice none 0 0, .slice none 0 0, .slice none 0 0, .int .i64 0, .int .i64 0, .int .i64 0, .slice none 0 0] 36)).alloc (.cells #[.int .i64 0, .slice none 0 0, .slice none 0 0] 53) = W) := ⟨_, rfl⟩
  have hC0 := RfC.startP (cc := #[.int .u8 7, .string (txt n), .string (txt t), .slice Ab nl cb]) hp0 HWW.out
  rw [hB3.out, hB2.out, hB1.out, hB0.out] at hC0
  have hC := Lib.hid hC0
  clear hp0 hC0
  obtain ⟨c0, c1, c2, c3, c4, c5, c6⟩ := hC.out.b.cells
  obtain ⟨a0, a1, a2, a3⟩ := quad_cell hC.out.call
  have hget := Lib.hid (hC.out.get hok (by omega) n)
  obtain ⟨zz, hzz⟩ : ∃ z, Hid ((getE s.d.now n).getD 0 = z) := ⟨_, rfl⟩
  obtain ⟨bb, hbb⟩ : ∃ b, Hid (hasE s.d.now n = b) := ⟨_, rfl⟩
  rw [hzz.out, hbb.out] at hget
  have hli := Lib.hid (fun wx wz (hx : RfC w wz wx X B0 B1 B2 B3 #[.int .u8 7, .string (txt n), .string (txt t), .slice Ab nl cb] p s) => hx.list hok (by omega))
  obtain ⟨m, hm⟩ : ∃ m, Hid (s.d.now = m) := ⟨_, rfl⟩
  obtain ⟨len, hln⟩ : ∃ l, Hid (m.length = l) := ⟨_, rfl⟩
  have hlenI : (len : Int) ≤ 900 := by have := hok.d.now.1; have := hln.out; rw [← hm.out] at this; omega
  rw [hm.out] at hli ⊢
  go_enter Tryz.func14, Tryz.ntmps14
  go_upto_region 1 with fail
  rw [hB3.out, hB2.out, hB1.out, hB0.out, HWW.out]
  go_upto_region 10 with (first | (go_at_call 41; refine hget.out.mono ?_; rintro e w1 ⟨rfl, hb1⟩; have hC1 := Lib.hid (hC.out.below hb1); have Hb1 := Lib.hid hb1; clear hb1; obtain ⟨d0, d1, d2, d3, d4, d5, d6⟩ := hC1.out.b.cells; obtain ⟨b0, b1, b2, b3⟩ := quad_cell hC1.out.call; clear c0 c1 c2 c3 c4 c5 c6 a0 a1 a2 a3))
  obtain ⟨B4, hB4⟩ : ∃ B, Hid (w1.heap.size = B) := ⟨_, rfl⟩
  obtain ⟨W5, hW5⟩ : ∃ W', Hid (w1.alloc (.cells #[.int .i64 0, .slice none 0 0, .slice none 0 0] 53) = W') := ⟨_, rfl⟩
  have hb5 : Hid (Below w1.heap.size w1 W5) := by rw [← hW5.out]; exact below_new _ _
  have hq5 : Hid (W5.heap[B4]? = some (.cells zres 53 (0, 0))) := by rw [← hW5.out, ← hB4.out]; exact heap_alloc_new _ _
  have hC5 := Lib.hid (hC1.out.again hp.out hb5.out)
  have hlt5 : Hid (B4 < W5.heap.size ∧ B0 < B4 ∧ B1 < B4 ∧ B2 < B4 ∧ B3 < B4 ∧ B2 ≠ B3 ∧ w.heap.size ≤ B4) := by
    have h1 := hC.out.ne
    have h2 := hC1.out.b.ge
    have h3 := (Array.getElem?_eq_some_iff.1 hq5.out).1
    have h4 := hB4.out
    exact ⟨h3, by omega, by omega, by omega, by omega, by omega, by omega⟩
  clear d0 d1 d2 d3 d4 d5 d6 b0 b1 b2 b3
  obtain ⟨d0, d1, d2, d3, d4, d5, d6⟩ := hC5.out.b.cells
  obtain ⟨b0, b1, b2, b3⟩ := quad_cell hC5.out.call
  obtain ⟨q0, q1, q2⟩ := tri_cell hq5.out
  have qf := fun i => d_frozen (i := i) hq5.out
  go_upto_region 11 with fail
  rw [hB4.out, hW5.out]
  go_upto_region 12 with (first | (go_at_call 31; refine (hli.out _ _ hC5.out).mono ?_; rintro e w6 ⟨A6, n6, k6, rfl, hn6, hr6, hb6⟩; have hC6 := Lib.hid (hC5.out.below hb6); have hq6 := Lib.hid ((hb6.block _ (Array.getElem?_eq_some_iff.1 hq5.out).1).trans hq5.out); rw [hln.out] at hn6; subst hn6; have Hr6 := Lib.hid hr6; have hs6 := Lib.hid (Nat.le_trans hC5.out.b.ge hb6.size); clear hr6 hb6))
  clear d0 d1 d2 d3 d4 d5 d6 b0 b1 b2 b3 q0 q1 q2 qf
  go_wp2
  go_loopw [10] (fun i wr => ∃ (j : Nat) (Aj : Option Addr) (cj : Nat), j ≤ n6 ∧ i = .int .i64 (j : Int) ∧ Hid (Touch (fun b => b = B4) w6 wr) ∧ Hid (wr.heap[B4]? = some (.cells #[.int .i64 0, .slice Aj j cj, .slice none 0 0] 53 (0, 0))) ∧ Hid (wr.ownsRow w6.heap.size 9 1 (.slice Aj j cj) j ((m.take j).map fun x => .string (txt x.1)))) (fun i _ => n6 - (intOf i).toNat)
  case atStart => exact ⟨0, none, 0, by omega, rfl, Lib.hid (Touch.refl _ _), hq6, Lib.hid (World.ownsRow_nil _ _ _ _)⟩
  case round =>
    obtain ⟨j, Aj, cj, hj, rfl, htj, hqj, hoj⟩ := hrel
    obtain ⟨s0, s1, s2⟩ := tri_cell hqj.out
    by_cases hlt : j < n6
    · obtain ⟨ad, e, rfl, _, _, x0, _, hx⟩ := EnXD.at_ (RdX.keep Hr6.out (htj.out.mono fun b _ e => by rw [e]; exact ⟨hlt5.out.1, .inr hlt5.out.2.2.2.2.2.2⟩)) (k := j) (by rw [hln.out]; exact hlt)
      have Hx := Lib.hid hx.out
      clear hx
      obtain ⟨v0, v1, v2⟩ := tri_cell ((heap_alloc_old wr (.cells #[.string (txt e.1)] 9) (Array.getElem?_eq_some_iff.1 hqj.out).1).trans hqj.out)
      go_upto_region 15 with fail
      go_region_law (refine step_push_one oneStr rfl (by omega) (.tmp 54) (.tmp 60) (.string (txt e.1)) rfl (w := wr.drew) hoj.out (Nat.le_trans htj.out.size (Nat.le_refl _)) (by omega) rfl rfl rfl rfl rfl ?_; intro A7 k7 w7 ho7 hb7; have Ho7 := Lib.hid ho7; have Hq7 := Lib.hid ((hb7.block _ (Nat.lt_of_lt_of_le hlt5.out.1 hs6.out)).trans hqj.out); have Hb7 := Lib.hid hb7; have z0 := tri_cell Hq7.out; have zf := fun i => d_frozen (i := i) Hq7.out; clear ho7 hb7)
      all_goals
        (obtain ⟨W8, hW8⟩ : ∃ W', Hid (w7.setCell ⟨B4, 1, none⟩ (.slice A7 (j + 1) k7) = W') := ⟨_, rfl⟩
         have ht8 := Touch.cell1 w7 B4 1 (.slice A7 (j + 1) k7)
         have hq8 := heap_setCell_same w7 B4 1 _ _ (.slice A7 (j + 1) k7) Hq7.out
         have hT8 := (htj.out.drew.low Hb7.out).setCell (p := ⟨B4, 1, none⟩) (.inr rfl) (.slice A7 (j + 1) k7)
         rw [hW8.out] at ht8 hq8 hT8 ⊢
         have HT8 := Lib.hid hT8
         have Hq8 := Lib.hid (show W8.heap[B4]? = some (.cells #[.int .i64 0, .slice A7 (j + 1) k7, .slice none 0 0] 53 (0, 0)) from hq8)
         have Ho8 : Hid (W8.ownsRow w6.heap.size 9 1 (.slice A7 (j + 1) k7) (j + 1) ((m.take (j + 1)).map fun x => .string (txt x.1))) := by
           rw [keys_snoc Hx.out]
           exact own_touch Ho7.out ht8 fun b hb e => by
             have h1 := (Ho7.out.lt b hb).1
             have h2 := hlt5.out.1
             have h3 := hs6.out
             omega
         clear hT8 hq8 ht8 s0 s1 s2 x0 v0 v1 v2 z0 zf
         go_wp2
         go_roundw
         case rel => exact ⟨j + 1, A7, k7, by omega, by go_num, HT8, Hq8, Ho8⟩
         case measure => simp [intOf]; omega)
    · obtain rfl : j = n6 := by omega
      have hfull : m.take j = m := by rw [← hln.out, List.take_length]
      rw [hfull] at hoj
      have Ha := Lib.hid (hC6.out.at4 hlt5.out htj.out)
      have hC9 := Lib.hid Ha.out.1
      have hq9 := hqj
      go_upto_region 16 with fail
      have hC10 := Lib.hid (hC9.out.below (Below.refl _ _).drew)
      have hE := Lib.hid (hC10.out.endd (o := (s, 0, m.map Prod.fst, [])) hC10.out.arg (⟨Aj, j, cj, none, 0, 0, rfl, by rw [List.length_map, hln.out], by rw [List.map_map]; exact (own_avoid hoj.out fun b (e : AY w W5 X b) => Nat.lt_of_lt_of_le e.1 hs6.out).below (Below.refl _ _).drew, rfl, RdX.none_⟩))
      refine wp_region_copy2 (by kernel_rfl) (by kernel_rfl) (by kernel_rfl) (by kernel_rfl) (by kernel_rfl) (by kernel_rfl) (by kernel_rfl) (by kernel_rfl) rfl rfl rfl rfl 36 53 rfl rfl rfl rfl 63 64 rfl rfl rfl rfl (by decide) B0 B4 B2 B3 (p.cs s) #[.int .i64 0, .slice Aj j cj, .slice none 0 0] rfl rfl rfl rfl rfl rfl rfl rfl rfl rfl hC9.out.b.box hq9.out hC9.out.r1 hC9.out.r2 (by have := hlt5.out; omega) hlt5.out.2.2.2.2.2.1 Tryz.underlying36 rfl size_rf Tryz.underlying53 rfl size_rr rfl rfl (p.sev s).one (by simp [Value.oneCell']) ?_
      go_wp2
      exact ret_rfr rfl B2 B3 (p.cs s) _ rfl rfl _ _ (0, 0) (0, 0) rfl rfl hE.out.2.1 hE.out.2.2.1 rfl hE.out.2.2.2
end
end Go.Proofs.YtbhmnmmockmibaaGreat

namespace Go.Proofs.YtbhmnmmockmibaaGreat
open Go.RowKit
section
variable {w W w1 w2 w3 : World} {X Y : Nat → Prop} {g0 g1 g2 g3 N : Nat} {p : Rp} {s : Fo}
theorem ics_one (l : List Int) : ∀ u ∈ ics l, u.oneCell' = true := by
  intro u hu
  obtain ⟨z, _, rfl⟩ := List.mem_map.1 hu
  rfl
set_option maxHeartbeats 8000000 in
set_option maxRecDepth 100000 in
theorem rdo6_any {v : Value} {n t : List UInt8} {Ab : Option Addr} {nl cb : Nat} (hr : RefF w X v s) (hok : s.Ok N) (hN : N ≤ 880) (hn : n.length ≤ 1000) {vv : Int} (hg : getE s.d.now n = some vv) :
    Calls Tryz.prog 14 #[v, .agg #[.int .u8 6, .string (txt n), .string (txt t), .slice Ab nl cb]] w fun e w' => RdD w X ({ s with d := s.d.rem n vv, many := s.many - 1, tk := s.tk ++ [vv] }, 0, [], []) e w' := by
  obtain ⟨p, rfl, hp0⟩ := hr
  have hp := Lib.hid hp0
  obtain ⟨B0, hB0⟩ : ∃ B, Hid (w.heap.size = B) := ⟨_, rfl⟩
  obtain ⟨B1, hB1⟩ : ∃ B, Hid (w.heap.size + 1 = B) := ⟨_, rfl⟩
  obtain ⟨B2, hB2⟩ : ∃ B, Hid (w.heap.size + 1 + 1 = B) := ⟨_, rfl⟩
  obtain ⟨B3, hB3⟩ : ∃ B, Hid (w.heap.size + 1 + 1 + 1 = B) := ⟨_, rfl⟩
  obtain ⟨W, HWW⟩ : ∃ W, Hid ((((w.alloc (.cells (p.cs s) 36)).alloc (.cells #[.int .u8 6, .string (txt n), .string (txt t), .slice Ab nl cb] 46)).alloc (.cells #[.slice none 0 0, .slice none 0 0, .slice none 0 0, .int .i64 0, .int .i64 0, .int .i64 0, .slice none 0 0] 36)).alloc (.cells #[.int .i64 0, .slice none 0 0, .slice none 0 0] 53) = W) := ⟨_, rfl⟩
  have hC0 := RfC.startP (cc := #[.int .u8 6, .string (txt n), .string (txt t), .slice Ab nl cb]) hp0 HWW.out
  rw [hB3.out, hB2.out, hB1.out, hB0.out] at hC0
  have hC := Lib.hid hC0
  clear hp0 hC0
  obtain ⟨c0, c1, c2, c3, c4, c5, c6⟩ := hC.out.b.cells
  obtain ⟨a0, a1, a2, a3⟩ := quad_cell hC.out.call
  have hget := Lib.hid (hC.out.get hok (by omega) n)
  have hhas : hasE s.d.now n = true := by rw [← getE_has, hg]; rfl
  rw [hhas, hg] at hget
  simp only [Option.getD_some] at hget
  have hby := Lib.hid (fun wx wz (hx : RfC w wz wx X B0 B1 B2 B3 #[.int .u8 6, .string (txt n), .string (txt t), .slice Ab nl cb] p s) => hx.removeB hok (by omega) n hn hg)
  obtain ⟨len, hln⟩ : ∃ l, Hid (s.tk.length = l) := ⟨_, rfl⟩
  have hlenI : len ≤ 900 := by have := hok.tk; have := hln.out; omega
  go_enter Tryz.func14, Tryz.ntmps14
  go_upto_region 1 with fail
  rw [hB3.out, hB2.out, hB1.out, hB0.out, HWW.out]
  go_upto_region 21 with (first | (go_at_call 41; refine hget.out.mono ?_; rintro e w1 ⟨rfl, hb1⟩; have hC1 := Lib.hid (hC.out.below hb1); have Hb1 := Lib.hid hb1; clear hb1; obtain ⟨d0, d1, d2, d3, d4, d5, d6⟩ := hC1.out.b.cells; obtain ⟨b0, b1, b2, b3⟩ := quad_cell hC1.out.call; clear c0 c1 c2 c3 c4 c5 c6 a0 a1 a2 a3))
  obtain ⟨B4, hB4⟩ : ∃ B, Hid (w1.heap.size = B) := ⟨_, rfl⟩
  obtain ⟨W5, hW5⟩ : ∃ W', Hid (w1.alloc (.cells #[.int .i64 0, .slice none 0 0, .slice none 0 0] 53) = W') := ⟨_, rfl⟩
  have hb5 : Hid (Below w1.heap.size w1 W5) := by rw [← hW5.out]; exact below_new _ _
  have hq5 : Hid (W5.heap[B4]? = some (.cells zres 53 (0, 0))) := by rw [← hW5.out, ← hB4.out]; exact heap_alloc_new _ _
  have hC5 := Lib.hid (hC1.out.again hp.out hb5.out)
  have hlt5 : Hid (B4 < W5.heap.size ∧ B0 < B4 ∧ B1 < B4 ∧ B2 < B4 ∧ B3 < B4 ∧ B2 ≠ B3 ∧ w.heap.size ≤ B4) := by
    have h1 := hC.out.ne
    have h2 := hC1.out.b.ge
    have h3 := (Array.getElem?_eq_some_iff.1 hq5.out).1
    have h4 := hB4.out
    exact ⟨h3, by omega, by omega, by omega, by omega, by omega, by omega⟩
  clear d0 d1 d2 d3 d4 d5 d6 b0 b1 b2 b3
  obtain ⟨d0, d1, d2, d3, d4, d5, d6⟩ := hC5.out.b.cells
  obtain ⟨b0, b1, b2, b3⟩ := quad_cell hC5.out.call
  obtain ⟨q0, q1, q2⟩ := tri_cell hq5.out
  have qf := fun i => d_frozen (i := i) hq5.out
  go_upto_region 22 with fail
  rw [hB4.out, hW5.out]
  go_upto_region 30 with (first | (go_at_call 48; refine (hby.out _ _ hC5.out).mono ?_; rintro e w6 ⟨u, rfl, ⟨A6, n6, k6, O6, j6, l6, rfl, hC6, hD6⟩, hb6⟩; have hq6 := Lib.hid ((hb6.block _ (Array.getElem?_eq_some_iff.1 hq5.out).1).trans hq5.out); have HC6 := Lib.hid hC6; have HD6 := Lib.hid hD6; clear hb6 hC6 hD6; obtain ⟨m0, m1, m2, m3, m4, m5, m6⟩ := HC6.out.b.cells; have mf := HC6.out.b.fz))
  have ht6 := (Touch.cell1 w6 B0 0 (.slice A6 n6 k6)).trans (Touch.cell1 _ B0 1 (.slice O6 j6 l6))
  obtain ⟨W7, hW7⟩ : ∃ W', Hid ((w6.setCell ⟨B0, 0, none⟩ (.slice A6 n6 k6)).setCell ⟨B0, 1, none⟩ (.slice O6 j6 l6) = W') := ⟨_, rfl⟩
  have hD7 := HD6.out
  rw [show dset w6 B0 A6 O6 n6 k6 j6 l6 = W7 from hW7.out] at hD7
  rw [hW7.out] at ht6 ⊢
  have hq7 := Lib.hid (ht6.heap (show ¬ B4 = B0 by have := hlt5.out; omega) hq6.out)
  have HD7 := Lib.hid hD7
  obtain ⟨p7, hp7⟩ : ∃ q : Rp, Hid (RfC w W5 W7 X B0 B1 B2 B3 #[.int .u8 6, .string (txt n), .string (txt t), .slice Ab nl cb] q { s with d := s.d.rem n vv }) := ⟨_, HD7⟩
  clear hD7 HD7 HD6 m0 m1 m2 m3 m4 m5 m6 mf ht6 d0 d1 d2 d3 d4 d5 d6 b0 b1 b2 b3 q0 q1 q2 qf
  obtain ⟨x0, x1, x2, x3, x4, x5, x6⟩ := hp7.out.b.cells
  have xf := hp7.out.b.fz
  have HG := Lib.hid hp7.out.b.pt.g
  simp only at x6
  rw [hln.out] at x6 HG
  obtain ⟨i0, hi0, hz0, hz1, hz2⟩ := info_parts oneInt.2
  obtain ⟨bs7, hbs7⟩ : ∃ b, Hid (W7.heap.size = b) := ⟨_, rfl⟩
  have hw57 : Hid (W5.heap.size ≤ bs7) := by rw [← hbs7.out]; exact hp7.out.b.ge
  clear x0 x1 x2 x3 x4 x5
  go_upto_region 32 with (at_builtin; refine wpList_append_any W7 rfl (.tmp 128) (.tmp 130) 34 rfl bs7 3 i0 _ 1 8 Tryz.underlying34 hi0 hz0 hz1 hz2 rfl (by omega) (.slice none 0 0) 0 [] rfl (World.ownsRow_nil _ _ _ _) W7.heap.size p7.G len p7.cG (ics s.tk) rfl HG.out.reads (ics_one _) (by simp only [maxLen]; omega) (by omega) (by rw [hbs7.out]; exact Nat.le_refl _) ?_; intro v1 w8 ho8 hg8 _; rw [Nat.zero_add] at ho8; obtain ⟨A8, k8, rfl, _, _, _⟩ := own_form ho8; have Ho8 := Lib.hid ho8; have Hb8 := Lib.hid (grown_below (World.ownsRow_nil W7 bs7 3 1) hg8 (by rw [hbs7.out]; exact Nat.le_refl _)); clear ho8 hg8; have HC8 := Lib.hid (hp7.out.below (by rw [hbs7.out]; exact Hb8.out)); clear x6 xf; have x6 := HC8.out.b.cells.2.2.2.2.2.2; simp only at x6; rw [hln.out] at x6; have xf := HC8.out.b.fz)
  go_upto_region 33 with (at_builtin; go_loud (refine push_one oneInt rfl (by omega) (.tmp 132) (.tmp 134) (.int .i64 vv) rfl Ho8.out (by rw [← hbs7.out]; exact Hb8.out.size) (by omega) rfl rfl rfl rfl rfl ?_; intro v9 w9 ho9 hg9 hbk9 hb9; go_frame; rw [List.nil_append] at ho9; have e9 : ics s.tk ++ [Value.int .i64 vv] = ics (s.tk ++ [vv]) := (by simp [ics]); rw [e9] at ho9; obtain ⟨A9, k9, rfl, _, _, _⟩ := own_form ho9; have Ho9 := Lib.hid ho9; have Hb9 := Lib.hid (Hb8.out.trans hb9); clear ho9 hg9 hbk9 hb9 e9; have HC9 := Lib.hid (hp7.out.below (by rw [hbs7.out]; exact Hb9.out)); clear x6 xf; have x6 := HC9.out.b.cells.2.2.2.2.2.2; have xf := HC9.out.b.fz))
  have hl9 : (s.tk ++ [vv]).length = len + 1 := by rw [List.length_append, hln.out]; rfl
  have hr9 := own_avoid Ho9.out fun b (e : AY w W5 X b) => Nat.lt_of_lt_of_le e.1 hw57.out
  rw [← hl9] at hr9 ⊢
  obtain ⟨W10, hW10⟩ : ∃ W', Hid (w9.setCell ⟨B0, 6, none⟩ (.slice A9 (s.tk ++ [vv]).length k9) = W') := ⟨_, rfl⟩
  have hD10 := HC9.out.setG (c := k9) hr9
  have hq10 := (Touch.cell1 w9 B0 6 (.slice A9 (s.tk ++ [vv]).length k9)).heap (show ¬ B4 = B0 by have := hlt5.out; omega) ((Hb9.out.block _ (by have := hlt5.out.1; have := hw57.out; omega)).trans hq7.out)
  rw [hW10.out] at hD10 hq10 ⊢
  have hq9 := Lib.hid hq10
  have HD10 := Lib.hid hD10
  obtain ⟨p9, hC9⟩ : ∃ q : Rp, Hid (RfC w W5 W10 X B0 B1 B2 B3 #[.int .u8 6, .string (txt n), .string (txt t), .slice Ab nl cb] q { s with d := s.d.rem n vv, tk := s.tk ++ [vv] }) := ⟨_, HD10⟩
  clear hD10 HD10 hq10 x6 xf hr9
  have hC10 := Lib.hid (hC9.out.below (Below.refl _ _).drew)
  have hE := Lib.hid (hC10.out.endd (o := ({ s with d := s.d.rem n vv, many := s.many - 1, tk := s.tk ++ [vv] }, 0, [], [])) (hC10.out.arg.many (s.many - 1)) (ReR.err _ _ _))
  refine wp_region_copy2 (by kernel_rfl) (by kernel_rfl) (by kernel_rfl) (by kernel_rfl) (by kernel_rfl) (by kernel_rfl) (by kernel_rfl) (by kernel_rfl) rfl rfl rfl rfl 36 53 rfl rfl rfl rfl 137 138 rfl rfl rfl rfl (by decide) B0 B4 B2 B3 (p9.cs { s with d := s.d.rem n vv, tk := s.tk ++ [vv] }) zres rfl rfl rfl rfl rfl rfl rfl rfl rfl rfl hC9.out.b.box hq9.out hC9.out.r1 hC9.out.r2 (by have := hlt5.out; omega) hlt5.out.2.2.2.2.2.1 Tryz.underlying36 rfl size_rf Tryz.underlying53 rfl size_rr rfl rfl (p9.sev { s with d := s.d.rem n vv, tk := s.tk ++ [vv] }).one (by simp [Value.oneCell']) ?_
  go_wp2
  exact ret_rfr rfl B2 B3 (p9.cs { s with d := s.d.rem n vv, tk := s.tk ++ [vv] }) _ rfl rfl _ _ (0, 0) (0, 0) rfl rfl hE.out.2.1 hE.out.2.2.1 rfl hE.out.2.2.2
end
end Go.Proofs.YtbhmnmmockmibaaGreat

namespace Go.Proofs.YtbhmnmmockmibaaGreat
open Go.RowKit
structure Fo.Well (s : Fo) : Prop where
  file : ∀ e ∈ s.d.now, ∃ f, findF s.fs e.2 = some f
  used : (usedF s.fs : Int) ≤ s.q
  pos : ∀ e ∈ s.d.now, 0 ≤ e.2
section
variable {w : World} {X : Nat → Prop} {N : Nat} {s : Fo} {v : Value}
theorem sync_ok {fs : List Fi} {z : Int} {f : Fi} (h : findF fs z = some f) : (doSync fs z).2 = 0 := by unfold doSync; rw [h]
theorem bytes_ok {fs : List Fi} {z : Int} {f : Fi} (h : findF fs z = some f) : (bytesF fs z).2 = 0 := by unfold bytesF; rw [h]
theorem rdo_any (hr : RefF w X v s) (hok : s.Ok N) (hN : N ≤ 880) (hw : s.Well) {kk : Nat} (hk : kk ≤ 255) {n t : List UInt8} (hn : n.length ≤ 1000) (ht : t.length ≤ 1000) {Ab : Option Addr} {nl cb Bb : Nat} {l : List UInt8} (hnl : l.length = nl) (hl : nl ≤ 60) (hB : Bb ≤ w.heap.size) (hbl : RdB w Bb Ab l) (g : Nat) :
    Calls Tryz.prog 14 #[v, .agg #[.int .u8 (kk : Int), .string (txt n), .string (txt t), .slice Ab nl cb]] w fun e w' => RdD w X (s.doC g kk n t l) e w' := by
  match kk, hk with
  | 0, _ => exact rdo0_any hr hok hN
  | 1, _ => exact rdo1_any hr hok hN hn g
  | 2, _ =>
    cases hg : getE s.d.now n with
    | none =>
      have e : s.doC g 2 n t l = (s, 80, [], []) := by show s.doWrite n l = _; unfold Fo.doWrite; rw [hg]
      rw [e]
      exact rno2_any hr hok hN hg
    | some vv =>
      have e : s.doC g 2 n t l = ({ s with fs := (doApp s.q s.fs vv l).1 }, (doApp s.q s.fs vv l).2, [], []) := by show s.doWrite n l = _; unfold Fo.doWrite; rw [hg]
      rw [e]
      exact rdo2_any hr hok hN hg hw.used hnl hl hB hbl
  | 3, _ =>
    cases hg : getE s.d.now n with
    | none =>
      have e : s.doC g 3 n t l = (s, 80, [], []) := by show s.doFsync n = _; unfold Fo.doFsync; rw [hg]
      rw [e]
      exact rno3_any hr hok hN hg
    | some vv =>
      obtain ⟨f, hf⟩ := hw.file _ (getE_some hg)
      have e : s.doC g 3 n t l = ({ s with fs := (doSync s.fs vv).1 }, 0, [], []) := by show s.doFsync n = _; unfold Fo.doFsync; rw [hg]; simp only; rw [sync_ok hf]
      rw [e]
      exact rdo3_any hr hok hN hg
  | 4, _ => exact rdo4_any hr hok hN
  | 5, _ => exact rdo5_any hr hok hN ht hw.pos
  | 6, _ =>
    cases hg : getE s.d.now n with
    | none =>
      have e : s.doC g 6 n t l = (s, 80, [], []) := by show ((s.doTake n).1, (s.doTake n).2, _, _) = _; unfold Fo.doTake; rw [hg]
      rw [e]
      exact rno6_any hr hok hN hg
    | some vv =>
      have e : s.doC g 6 n t l = ({ s with d := s.d.rem n vv, many := s.many - 1, tk := s.tk ++ [vv] }, 0, [], []) := by show ((s.doTake n).1, (s.doTake n).2, _, _) = _; unfold Fo.doTake; rw [hg]
      rw [e]
      exact rdo6_any hr hok hN hn hg
  | 7, _ => exact rdo7_any hr hok hN
  | 8, _ =>
    cases hg : getE s.d.now n with
    | none =>
      have e : s.doC g 8 n t l = (s, 80, [], []) := by show s.doRead n = _; unfold Fo.doRead; rw [hg]
      rw [e]
      exact rno8_any hr hok hN hg
    | some vv =>
      obtain ⟨f, hf⟩ := hw.file _ (getE_some hg)
      have e : s.doC g 8 n t l = (s, 0, [], (bytesF s.fs vv).1) := by show s.doRead n = _; unfold Fo.doRead; rw [hg]; simp only; rw [bytes_ok hf]
      rw [e]
      exact rdo8_any hr hok hN hg
  | j + 9, hj => exact rdo9_any hr hok hN (by omega) hj
end
end Go.Proofs.YtbhmnmmockmibaaGreat
