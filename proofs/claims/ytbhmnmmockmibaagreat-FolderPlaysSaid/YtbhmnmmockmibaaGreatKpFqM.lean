/- The walk of the reference's Do: what is no kind; a name that is not there. Conditions: at most 880 calls. The walk of the reference's Do: syncDir. Conditions: at most 880 calls. The walk of the reference's Do: a file's bytes. Conditions: at most 880 calls. -/
import Derived.Test.YtbhmnmmockmibaaGreatKpFqI
import Derived.Test.YtbhmnmmockmibaaGreatKpFqE
import Derived.Deep.RegionHeld3
namespace Go.Proofs.YtbhmnmmockmibaaGreat
open Go.RowKit
section
variable {w W w1 w2 w3 : World} {X Y : Nat → Prop} {g0 g1 g2 g3 N : Nat} {p : Rp} {s : Fo}
set_option maxHeartbeats 8000000 in
set_option maxRecDepth 100000 in
theorem rdo0_any {v : Value} {n t : List UInt8} {Ab : Option Addr} {nl cb : Nat} (hr : RefF w X v s) (hok : s.Ok N) (hN : N ≤ 880) :
    Calls Tryz.prog 14 #[v, .agg #[.int .u8 0, .string (txt n), .string (txt t), .slice Ab nl cb]] w fun e w' => RdD w X (s, 2, [], []) e w' := by
  obtain ⟨p, rfl, hp0⟩ := hr
  have hp := Lib.hid hp0
  obtain ⟨B0, hB0⟩ : ∃ B, Hid (w.heap.size = B) := ⟨_, rfl⟩
  obtain ⟨B1, hB1⟩ : ∃ B, Hid (w.heap.size + 1 = B) := ⟨_, rfl⟩
  obtain ⟨B2, hB2⟩ : ∃ B, Hid (w.heap.size + 1 + 1 = B) := ⟨_, rfl⟩
  obtain ⟨B3, hB3⟩ : ∃ B, Hid (w.heap.size + 1 + 1 + 1 = B) := ⟨_, rfl⟩
  obtain ⟨W, HWW⟩ : ∃ W, Hid ((((w.alloc (.cells (p.cs s) 36)).alloc (.cells #[.int .u8 0, .string (txt n), .string (txt t), .slice Ab nl cb] 46)).alloc (.cells #[.slice none 0 0, .slice none 0 0, .slice none 0 0, .int .i64 0, .int .i64 0, .int .i64 0, .slice none 0 0] 36)).alloc (.cells #[.int .i64 0, .slice none 0 0, .slice none 0 0] 53) = W) := ⟨_, rfl⟩
  have hC0 := RfC.startP (cc := #[.int .u8 0, .string (txt n), .string (txt t), .slice Ab nl cb]) hp0 HWW.out
  rw [hB3.out, hB2.out, hB1.out, hB0.out] at hC0
  have hC := Lib.hid hC0
  clear hp0 hC0
  obtain ⟨c0, c1, c2, c3, c4, c5, c6⟩ := hC.out.b.cells
  obtain ⟨a0, a1, a2, a3⟩ := quad_cell hC.out.call
  have hget := Lib.hid (hC.out.get hok (by omega) n)
  obtain ⟨zz, hzz⟩ : ∃ z, Hid ((getE s.d.now n).getD 0 = z) := ⟨_, rfl⟩
  obtain ⟨bb, hbb⟩ : ∃ b, Hid (hasE s.d.now n = b) := ⟨_, rfl⟩
  rw [hzz.out, hbb.out] at hget
  go_enter Tryz.func14, Tryz.ntmps14
  go_upto_region 1 with fail
  rw [hB3.out, hB2.out, hB1.out, hB0.out, HWW.out]
  go_wp2_with (first
    | (go_at_call 41; refine hget.out.mono ?_; rintro e w1 ⟨rfl, hb1⟩; have hC1 := Lib.hid (hC.out.below hb1); have Hb1 := Lib.hid hb1; clear hb1; obtain ⟨d0, d1, d2, d3, d4, d5, d6⟩ := hC1.out.b.cells; obtain ⟨b0, b1, b2, b3⟩ := quad_cell hC1.out.call; clear c0 c1 c2 c3 c4 c5 c6 a0 a1 a2 a3)
    | (refine wpList_load_row rfl 36 (.tmp 2) rfl B0 rfl _ _ _ _ hC1.out.b.box Tryz.underlying36 rfl size_rf ?_)
    | (go_at_call 45; refine (rfails_any (p.sev s) _ _).mono ?_; rintro e w2 ⟨rfl, hb2⟩; have hC2 := Lib.hid (hC1.out.below hb2); have hE := Lib.hid (hC2.out.endd (o := (s, 2, [], [])) hC2.out.arg (ReR.err _ _ _)); have e3 := Lib.hid hE.out.1; clear hb2)
    | (refine wpList_store_row rfl 36 (.tmp 4) (.tmp 75) rfl B2 _ rfl rfl _ _ hC2.out.r1 size_rf rfl (p.sev s).one ?_)
    | (refine wpList_store_row rfl 53 (.tmp 5) (.tmp 76) rfl B3 _ rfl rfl _ _ e3.out size_rr rfl (by simp [Value.oneCell']) ?_))
  exact ret_rfr rfl B2 B3 (p.cs s) _ rfl rfl _ _ (0, 0) (0, 0) rfl rfl hE.out.2.1 hE.out.2.2.1 rfl hE.out.2.2.2
set_option maxHeartbeats 8000000 in
set_option maxRecDepth 100000 in
theorem rdo9_any {v : Value} {n t : List UInt8} {Ab : Option Addr} {nl cb : Nat} (hr : RefF w X v s) (hok : s.Ok N) (hN : N ≤ 880) {kk : Nat} (hk1 : 9 ≤ kk) (hk2 : kk ≤ 255) :
    Calls Tryz.prog 14 #[v, .agg #[.int .u8 (kk : Int), .string (txt n), .string (txt t), .slice Ab nl cb]] w fun e w' => RdD w X (s, 2, [], []) e w' := by
  obtain ⟨p, rfl, hp0⟩ := hr
  have hp := Lib.hid hp0
  obtain ⟨B0, hB0⟩ : ∃ B, Hid (w.heap.size = B) := ⟨_, rfl⟩
  obtain ⟨B1, hB1⟩ : ∃ B, Hid (w.heap.size + 1 = B) := ⟨_, rfl⟩
  obtain ⟨B2, hB2⟩ : ∃ B, Hid (w.heap.size + 1 + 1 = B) := ⟨_, rfl⟩
  obtain ⟨B3, hB3⟩ : ∃ B, Hid (w.heap.size + 1 + 1 + 1 = B) := ⟨_, rfl⟩
  obtain ⟨W, HWW⟩ : ∃ W, Hid ((((w.alloc (.cells (p.cs s) 36)).alloc (.cells #[.int .u8 (kk : Int), .string (txt n), .string (txt t), .slice Ab nl cb] 46)).alloc (.cells #[.slice none 0 0, .slice none 0 0, .slice none 0 0, .int .i64 0, .int .i64 0, .int .i64 0, .slice none 0 0] 36)).alloc (.cells #[.int .i64 0, .slice none 0 0, .slice none 0 0] 53) = W) := ⟨_, rfl⟩
  have hC0 := RfC.startP (cc := #[.int .u8 (kk : Int), .string (txt n), .string (txt t), .slice Ab nl cb]) hp0 HWW.out
  rw [hB3.out, hB2.out, hB1.out, hB0.out] at hC0
  have hC := Lib.hid hC0
  clear hp0 hC0
  obtain ⟨c0, c1, c2, c3, c4, c5, c6⟩ := hC.out.b.cells
  obtain ⟨a0, a1, a2, a3⟩ := quad_cell hC.out.call
  have hget := Lib.hid (hC.out.get hok (by omega) n)
  obtain ⟨zz, hzz⟩ : ∃ z, Hid ((getE s.d.now n).getD 0 = z) := ⟨_, rfl⟩
  obtain ⟨bb, hbb⟩ : ∃ b, Hid (hasE s.d.now n = b) := ⟨_, rfl⟩
  rw [hzz.out, hbb.out] at hget
  have hk1' : (9 : Int) ≤ (kk : Int) := by omega
  have hk2' : (kk : Int) ≤ 255 := by omega
  go_enter Tryz.func14, Tryz.ntmps14
  go_upto_region 1 with fail
  rw [hB3.out, hB2.out, hB1.out, hB0.out, HWW.out]
  go_wp2_with (first
    | (go_at_call 41; refine hget.out.mono ?_; rintro e w1 ⟨rfl, hb1⟩; have hC1 := Lib.hid (hC.out.below hb1); have Hb1 := Lib.hid hb1; clear hb1; obtain ⟨d0, d1, d2, d3, d4, d5, d6⟩ := hC1.out.b.cells; obtain ⟨b0, b1, b2, b3⟩ := quad_cell hC1.out.call; clear c0 c1 c2 c3 c4 c5 c6 a0 a1 a2 a3)
    | (refine wpList_load_row rfl 36 (.tmp 2) rfl B0 rfl _ _ _ _ hC1.out.b.box Tryz.underlying36 rfl size_rf ?_)
    | (go_at_call 45; refine (rfails_any (p.sev s) _ _).mono ?_; rintro e w2 ⟨rfl, hb2⟩; have hC2 := Lib.hid (hC1.out.below hb2); have hE := Lib.hid (hC2.out.endd (o := (s, 2, [], [])) hC2.out.arg (ReR.err _ _ _)); have e3 := Lib.hid hE.out.1; clear hb2)
    | (refine wpList_store_row rfl 36 (.tmp 4) (.tmp 75) rfl B2 _ rfl rfl _ _ hC2.out.r1 size_rf rfl (p.sev s).one ?_)
    | (refine wpList_store_row rfl 53 (.tmp 5) (.tmp 76) rfl B3 _ rfl rfl _ _ e3.out size_rr rfl (by simp [Value.oneCell']) ?_))
  exact ret_rfr rfl B2 B3 (p.cs s) _ rfl rfl _ _ (0, 0) (0, 0) rfl rfl hE.out.2.1 hE.out.2.2.1 rfl hE.out.2.2.2
set_option maxHeartbeats 8000000 in
set_option maxRecDepth 100000 in
theorem rno2_any {v : Value} {n t : List UInt8} {Ab : Option Addr} {nl cb : Nat} (hr : RefF w X v s) (hok : s.Ok N) (hN : N ≤ 880) (hg : getE s.d.now n = none) :
    Calls Tryz.prog 14 #[v, .agg #[.int .u8 2, .string (txt n), .string (txt t), .slice Ab nl cb]] w fun e w' => RdD w X (s, 80, [], []) e w' := by
  obtain ⟨p, rfl, hp0⟩ := hr
  have hp := Lib.hid hp0
  obtain ⟨B0, hB0⟩ : ∃ B, Hid (w.heap.size = B) := ⟨_, rfl⟩
  obtain ⟨B1, hB1⟩ : ∃ B, Hid (w.heap.size + 1 = B) := ⟨_, rfl⟩
  obtain ⟨B2, hB2⟩ : ∃ B, Hid (w.heap.size + 1 + 1 = B) := ⟨_, rfl⟩
  obtain ⟨B3, hB3⟩ : ∃ B, Hid (w.heap.size + 1 + 1 + 1 = B) := ⟨_, rfl⟩
  obtain ⟨W, HWW⟩ : ∃ W, Hid ((((w.alloc (.cells (p.cs s) 36)).alloc (.cells #[.int .u8 2, .string (txt n), .string (txt t), .slice Ab nl cb] 46)).alloc (.cells #[.slice none 0 0, .slice none 0 0, .slice none 0 0, .int .i64 0, .int .i64 0, .int .i64 0, .slice none 0 0] 36)).alloc (.cells #[.int .i64 0, .slice none 0 0, .slice none 0 0] 53) = W) := ⟨_, rfl⟩
  have hC0 := RfC.startP (cc := #[.int .u8 2, .string (txt n), .string (txt t), .slice Ab nl cb]) hp0 HWW.out
  rw [hB3.out, hB2.out, hB1.out, hB0.out] at hC0
  have hC := Lib.hid hC0
  clear hp0 hC0
  obtain ⟨c0, c1, c2, c3, c4, c5, c6⟩ := hC.out.b.cells
  obtain ⟨a0, a1, a2, a3⟩ := quad_cell hC.out.call
  have hget := Lib.hid (hC.out.get hok (by omega) n)
  rw [getE_none hg, hg] at hget
  simp only [Option.getD_none] at hget
  go_enter Tryz.func14, Tryz.ntmps14
  go_upto_region 1 with fail
  rw [hB3.out, hB2.out, hB1.out, hB0.out, HWW.out]
  go_wp2_with (first
    | (go_at_call 41; refine hget.out.mono ?_; rintro e w1 ⟨rfl, hb1⟩; have hC1 := Lib.hid (hC.out.below hb1); have Hb1 := Lib.hid hb1; clear hb1; obtain ⟨d0, d1, d2, d3, d4, d5, d6⟩ := hC1.out.b.cells; obtain ⟨b0, b1, b2, b3⟩ := quad_cell hC1.out.call; clear c0 c1 c2 c3 c4 c5 c6 a0 a1 a2 a3)
    | (refine wpList_load_row rfl 36 (.tmp 2) rfl B0 rfl _ _ _ _ hC1.out.b.box Tryz.underlying36 rfl size_rf ?_)
    | (go_at_call 45; refine (rfails_any (p.sev s) _ _).mono ?_; rintro e w2 ⟨rfl, hb2⟩; have hC2 := Lib.hid (hC1.out.below hb2); have hE := Lib.hid (hC2.out.endd (o := (s, 80, [], [])) hC2.out.arg (ReR.err _ _ _)); have e3 := Lib.hid hE.out.1; clear hb2)
    | (refine wpList_store_row rfl 36 (.tmp 4) (.tmp 81) rfl B2 _ rfl rfl _ _ hC2.out.r1 size_rf rfl (p.sev s).one ?_)
    | (refine wpList_store_row rfl 53 (.tmp 5) (.tmp 82) rfl B3 _ rfl rfl _ _ e3.out size_rr rfl (by simp [Value.oneCell']) ?_))
  exact ret_rfr rfl B2 B3 (p.cs s) _ rfl rfl _ _ (0, 0) (0, 0) rfl rfl hE.out.2.1 hE.out.2.2.1 rfl hE.out.2.2.2
set_option maxHeartbeats 8000000 in
set_option maxRecDepth 100000 in
theorem rno3_any {v : Value} {n t : List UInt8} {Ab : Option Addr} {nl cb : Nat} (hr : RefF w X v s) (hok : s.Ok N) (hN : N ≤ 880) (hg : getE s.d.now n = none) :
    Calls Tryz.prog 14 #[v, .agg #[.int .u8 3, .string (txt n), .string (txt t), .slice Ab nl cb]] w fun e w' => RdD w X (s, 80, [], []) e w' := by
  obtain ⟨p, rfl, hp0⟩ := hr
  have hp := Lib.hid hp0
  obtain ⟨B0, hB0⟩ : ∃ B, Hid (w.heap.size = B) := ⟨_, rfl⟩
  obtain ⟨B1, hB1⟩ : ∃ B, Hid (w.heap.size + 1 = B) := ⟨_, rfl⟩
  obtain ⟨B2, hB2⟩ : ∃ B, Hid (w.heap.size + 1 + 1 = B) := ⟨_, rfl⟩
  obtain ⟨B3, hB3⟩ : ∃ B, Hid (w.heap.size + 1 + 1 + 1 = B) := ⟨_, rfl⟩
  obtain ⟨W, HWW⟩ : ∃ W, Hid ((((w.alloc (.cells (p.cs s) 36)).alloc (.cells #[.int .u8 3, .string (txt n), .string (txt t), .slice Ab nl cb] 46)).alloc (.cells #[.slice none 0 0, .slice none 0 0, .slice none 0 0, .int .i64 0, .int .i64 0, .int .i64 0, .slice none 0 0] 36)).alloc (.cells #[.int .i64 0, .slice none 0 0, .slice none 0 0] 53) = W) := ⟨_, rfl⟩
  have hC0 := RfC.startP (cc := #[.int .u8 3, .string (txt n), .string (txt t), .slice Ab nl cb]) hp0 HWW.out
  rw [hB3.out, hB2.out, hB1.out, hB0.out] at hC0
  have hC := Lib.hid hC0
  clear hp0 hC0
  obtain ⟨c0, c1, c2, c3, c4, c5, c6⟩ := hC.out.b.cells
  obtain ⟨a0, a1, a2, a3⟩ := quad_cell hC.out.call
  have hget := Lib.hid (hC.out.get hok (by omega) n)
  rw [getE_none hg, hg] at hget
  simp only [Option.getD_none] at hget
  go_enter Tryz.func14, Tryz.ntmps14
  go_upto_region 1 with fail
  rw [hB3.out, hB2.out, hB1.out, hB0.out, HWW.out]
  go_wp2_with (first
    | (go_at_call 41; refine hget.out.mono ?_; rintro e w1 ⟨rfl, hb1⟩; have hC1 := Lib.hid (hC.out.below hb1); have Hb1 := Lib.hid hb1; clear hb1; obtain ⟨d0, d1, d2, d3, d4, d5, d6⟩ := hC1.out.b.cells; obtain ⟨b0, b1, b2, b3⟩ := quad_cell hC1.out.call; clear c0 c1 c2 c3 c4 c5 c6 a0 a1 a2 a3)
    | (refine wpList_load_row rfl 36 (.tmp 2) rfl B0 rfl _ _ _ _ hC1.out.b.box Tryz.underlying36 rfl size_rf ?_)
    | (go_at_call 45; refine (rfails_any (p.sev s) _ _).mono ?_; rintro e w2 ⟨rfl, hb2⟩; have hC2 := Lib.hid (hC1.out.below hb2); have hE := Lib.hid (hC2.out.endd (o := (s, 80, [], [])) hC2.out.arg (ReR.err _ _ _)); have e3 := Lib.hid hE.out.1; clear hb2)
    | (refine wpList_store_row rfl 36 (.tmp 4) (.tmp 81) rfl B2 _ rfl rfl _ _ hC2.out.r1 size_rf rfl (p.sev s).one ?_)
    | (refine wpList_store_row rfl 53 (.tmp 5) (.tmp 82) rfl B3 _ rfl rfl _ _ e3.out size_rr rfl (by simp [Value.oneCell']) ?_))
  exact ret_rfr rfl B2 B3 (p.cs s) _ rfl rfl _ _ (0, 0) (0, 0) rfl rfl hE.out.2.1 hE.out.2.2.1 rfl hE.out.2.2.2
set_option maxHeartbeats 8000000 in
set_option maxRecDepth 100000 in
theorem rno6_any {v : Value} {n t : List UInt8} {Ab : Option Addr} {nl cb : Nat} (hr : RefF w X v s) (hok : s.Ok N) (hN : N ≤ 880) (hg : getE s.d.now n = none) :
    Calls Tryz.prog 14 #[v, .agg #[.int .u8 6, .string (txt n), .string (txt t), .slice Ab nl cb]] w fun e w' => RdD w X (s, 80, [], []) e w' := by
  obtain ⟨p, rfl, hp0⟩ := hr
  have hp := Lib.hid hp0
  obtain ⟨B0, hB0⟩ : ∃ B, Hid (w.heap.size = B) := ⟨_, rfl⟩
  obtain ⟨B1, hB1⟩ : ∃ B, Hid (w.heap.size + 1 = B) := ⟨_, rfl⟩
  obtain ⟨B2, hB2⟩ : ∃ B, Hid (w.heap.size + 1 + 1 = B) := ⟨_, rfl⟩
  obtain ⟨B3, hB3⟩ : ∃ B, Hid (w.heap.size + 1 + 1 + 1 = B) := ⟨_, rfl⟩
  obtain ⟨W, HWW⟩ : ∃ W, Hid ((((w.alloc (.cells (p.cs s) 36)).alloc (.cells #[.int .u8 6, .string (txt n), .string (txt t), .slice Ab nl cb] 46)).alloc (.cells #[.slice none 0 0, .slice none 0 0, .slice none 0 0, .int .i64 0, .int .i64 0, .int .i64 0, .slice none 0 0] 36)).alloc (.cells #[.int .i64 0, .slice none 0 0, .slice none 0 0] 53) = W) := ⟨_, rfl⟩
  have hC0 := RfC.startP (cc := #[.int .u8 6, .string (txt n), .string (txt t), .slice Ab nl cb]) hp0 HWW.out
  rw [hB3.out, hB2.out, hB1.out, hB0.out] at hC0
  have hC := Lib.hid hC0
  clear hp0 hC0
  obtain ⟨c0, c1, c2, c3, c4, c5, c6⟩ := hC.out.b.cells
  obtain ⟨a0, a1, a2, a3⟩ := quad_cell hC.out.call
  have hget := Lib.hid (hC.out.get hok (by omega) n)
  rw [getE_none hg, hg] at hget
  simp only [Option.getD_none] at hget
  go_enter Tryz.func14, Tryz.ntmps14
  go_upto_region 1 with fail
  rw [hB3.out, hB2.out, hB1.out, hB0.out, HWW.out]
  go_wp2_with (first
    | (go_at_call 41; refine hget.out.mono ?_; rintro e w1 ⟨rfl, hb1⟩; have hC1 := Lib.hid (hC.out.below hb1); have Hb1 := Lib.hid hb1; clear hb1; obtain ⟨d0, d1, d2, d3, d4, d5, d6⟩ := hC1.out.b.cells; obtain ⟨b0, b1, b2, b3⟩ := quad_cell hC1.out.call; clear c0 c1 c2 c3 c4 c5 c6 a0 a1 a2 a3)
    | (refine wpList_load_row rfl 36 (.tmp 2) rfl B0 rfl _ _ _ _ hC1.out.b.box Tryz.underlying36 rfl size_rf ?_)
    | (go_at_call 45; refine (rfails_any (p.sev s) _ _).mono ?_; rintro e w2 ⟨rfl, hb2⟩; have hC2 := Lib.hid (hC1.out.below hb2); have hE := Lib.hid (hC2.out.endd (o := (s, 80, [], [])) hC2.out.arg (ReR.err _ _ _)); have e3 := Lib.hid hE.out.1; clear hb2)
    | (refine wpList_store_row rfl 36 (.tmp 4) (.tmp 81) rfl B2 _ rfl rfl _ _ hC2.out.r1 size_rf rfl (p.sev s).one ?_)
    | (refine wpList_store_row rfl 53 (.tmp 5) (.tmp 82) rfl B3 _ rfl rfl _ _ e3.out size_rr rfl (by simp [Value.oneCell']) ?_))
  exact ret_rfr rfl B2 B3 (p.cs s) _ rfl rfl _ _ (0, 0) (0, 0) rfl rfl hE.out.2.1 hE.out.2.2.1 rfl hE.out.2.2.2
set_option maxHeartbeats 8000000 in
set_option maxRecDepth 100000 in
theorem rno8_any {v : Value} {n t : List UInt8} {Ab : Option Addr} {nl cb : Nat} (hr : RefF w X v s) (hok : s.Ok N) (hN : N ≤ 880) (hg : getE s.d.now n = none) :
    Calls Tryz.prog 14 #[v, .agg #[.int .u8 8, .string (txt n), .string (txt t), .slice Ab nl cb]] w fun e w' => RdD w X (s, 80, [], []) e w' := by
  obtain ⟨p, rfl, hp0⟩ := hr
  have hp := Lib.hid hp0
  obtain ⟨B0, hB0⟩ : ∃ B, Hid (w.heap.size = B) := ⟨_, rfl⟩
  obtain ⟨B1, hB1⟩ : ∃ B, Hid (w.heap.size + 1 = B) := ⟨_, rfl⟩
  obtain ⟨B2, hB2⟩ : ∃ B, Hid (w.heap.size + 1 + 1 = B) := ⟨_, rfl⟩
  obtain ⟨B3, hB3⟩ : ∃ B, Hid (w.heap.size + 1 + 1 + 1 = B) := ⟨_, rfl⟩
  obtain ⟨W, HWW⟩ : ∃ W, Hid ((((w.alloc (.cells (p.cs s) 36)).alloc (.cells #[.int .u8 8, .string (txt n), .string (txt t), .slice Ab nl cb] 46)).alloc (.cells #[.slice none 0 0, .slice none 0 0, .slice none 0 0, .int .i64 0, .int .i64 0, .int .i64 0, .slice none 0 0] 36)).alloc (.cells #[.int .i64 0, .slice none 0 0, .slice none 0 0] 53) = W) := ⟨_, rfl⟩
  have hC0 := RfC.startP (cc := #[.int .u8 8, .string (txt n), .string (txt t), .slice Ab nl cb]) hp0 HWW.out
  rw [hB3.out, hB2.out, hB1.out, hB0.out] at hC0
  have hC := Lib.hid hC0
  clear hp0 hC0
  obtain ⟨c0, c1, c2, c3, c4, c5, c6⟩ := hC.out.b.cells
  obtain ⟨a0, a1, a2, a3⟩ := quad_cell hC.out.call
  have hget := Lib.hid (hC.out.get hok (by omega) n)
  rw [getE_none hg, hg] at hget
  simp only [Option.getD_none] at hget
  go_enter Tryz.func14, Tryz.ntmps14
  go_upto_region 1 with fail
  rw [hB3.out, hB2.out, hB1.out, hB0.out, HWW.out]
  go_wp2_with (first
    | (go_at_call 41; refine hget.out.mono ?_; rintro e w1 ⟨rfl, hb1⟩; have hC1 := Lib.hid (hC.out.below hb1); have Hb1 := Lib.hid hb1; clear hb1; obtain ⟨d0, d1, d2, d3, d4, d5, d6⟩ := hC1.out.b.cells; obtain ⟨b0, b1, b2, b3⟩ := quad_cell hC1.out.call; clear c0 c1 c2 c3 c4 c5 c6 a0 a1 a2 a3)
    | (refine wpList_load_row rfl 36 (.tmp 2) rfl B0 rfl _ _ _ _ hC1.out.b.box Tryz.underlying36 rfl size_rf ?_)
    | (go_at_call 45; refine (rfails_any (p.sev s) _ _).mono ?_; rintro e w2 ⟨rfl, hb2⟩; have hC2 := Lib.hid (hC1.out.below hb2); have hE := Lib.hid (hC2.out.endd (o := (s, 80, [], [])) hC2.out.arg (ReR.err _ _ _)); have e3 := Lib.hid hE.out.1; clear hb2)
    | (refine wpList_store_row rfl 36 (.tmp 4) (.tmp 81) rfl B2 _ rfl rfl _ _ hC2.out.r1 size_rf rfl (p.sev s).one ?_)
    | (refine wpList_store_row rfl 53 (.tmp 5) (.tmp 82) rfl B3 _ rfl rfl _ _ e3.out size_rr rfl (by simp [Value.oneCell']) ?_))
  exact ret_rfr rfl B2 B3 (p.cs s) _ rfl rfl _ _ (0, 0) (0, 0) rfl rfl hE.out.2.1 hE.out.2.2.1 rfl hE.out.2.2.2
end
end Go.Proofs.YtbhmnmmockmibaaGreat

namespace Go.Proofs.YtbhmnmmockmibaaGreat
open Go.RowKit
section
variable {w W w1 w2 w3 : World} {X Y : Nat → Prop} {g0 g1 g2 g3 N : Nat} {p : Rp} {s : Fo}
set_option maxHeartbeats 8000000 in
set_option maxRecDepth 100000 in
theorem rdo4_any {v : Value} {n t : List UInt8} {Ab : Option Addr} {nl cb : Nat} (hr : RefF w X v s) (hok : s.Ok N) (hN : N ≤ 880) :
    Calls Tryz.prog 14 #[v, .agg #[.int .u8 4, .string (txt n), .string (txt t), .slice Ab nl cb]] w fun e w' => RdD w X (s.sync, 0, [], []) e w' := by
  obtain ⟨p, rfl, hp0⟩ := hr
  have hp := Lib.hid hp0
  obtain ⟨B0, hB0⟩ : ∃ B, Hid (w.heap.size = B) := ⟨_, rfl⟩
  obtain ⟨B1, hB1⟩ : ∃ B, Hid (w.heap.size + 1 = B) := ⟨_, rfl⟩
  obtain ⟨B2, hB2⟩ : ∃ B, Hid (w.heap.size + 1 + 1 = B) := ⟨_, rfl⟩
  obtain ⟨B3, hB3⟩ : ∃ B, Hid (w.heap.size + 1 + 1 + 1 = B) := ⟨_, rfl⟩
  obtain ⟨W, HWW⟩ : ∃ W, Hid ((((w.alloc (.cells (p.cs s) 36)).alloc (.cells #[.int .u8 4, .string (txt n), .string (txt t), .slice Ab nl cb] 46)).alloc (.cells #[.slice none 0 0, .slice none 0 0, .slice none 0 0, .int .i64 0, .int .i64 0, .int .i64 0, .slice none 0 0] 36)).alloc (.cells #[.int .i64 0, .slice none 0 0, .slice none 0 0] 53) = W) := ⟨_, rfl⟩
  have hC0 := RfC.startP (cc := #[.int .u8 4, .string (txt n), .string (txt t), .slice Ab nl cb]) hp0 HWW.out
  rw [hB3.out, hB2.out, hB1.out, hB0.out] at hC0
  have hC := Lib.hid hC0
  clear hp0 hC0
  obtain ⟨c0, c1, c2, c3, c4, c5, c6⟩ := hC.out.b.cells
  obtain ⟨a0, a1, a2, a3⟩ := quad_cell hC.out.call
  have hget := Lib.hid (hC.out.get hok (by omega) n)
  obtain ⟨zz, hzz⟩ : ∃ z, Hid ((getE s.d.now n).getD 0 = z) := ⟨_, rfl⟩
  obtain ⟨bb, hbb⟩ : ∃ b, Hid (hasE s.d.now n = b) := ⟨_, rfl⟩
  rw [hzz.out, hbb.out] at hget
  have hsd := Lib.hid (fun wx (hx : RfC w W wx X B0 B1 B2 B3 #[.int .u8 4, .string (txt n), .string (txt t), .slice Ab nl cb] p s) => rsyncDir_any hx.arg hok hN)
  go_enter Tryz.func14, Tryz.ntmps14
  go_upto_region 1 with fail
  rw [hB3.out, hB2.out, hB1.out, hB0.out, HWW.out]
  go_wp2_with (first
    | (go_at_call 41; refine hget.out.mono ?_; rintro e w1 ⟨rfl, hb1⟩; have hC1 := Lib.hid (hC.out.below hb1); have Hb1 := Lib.hid hb1; clear hb1; obtain ⟨d0, d1, d2, d3, d4, d5, d6⟩ := hC1.out.b.cells; obtain ⟨b0, b1, b2, b3⟩ := quad_cell hC1.out.call; clear c0 c1 c2 c3 c4 c5 c6 a0 a1 a2 a3)
    | (refine wpList_load_row rfl 36 (.tmp 2) rfl B0 rfl _ _ _ _ hC1.out.b.box Tryz.underlying36 rfl size_rf ?_)
    | (go_at_call 43; refine (hsd.out _ hC1.out).mono ?_; rintro e w2 ⟨u, rfl, hb2, hu2⟩; obtain ⟨cs', rfl, hsv⟩ := hu2.agg; have hC2 := Lib.hid (hC1.out.below hb2); have hE := Lib.hid (hC2.out.endd (o := (s.sync, 0, [], [])) (hC1.out.back hu2) (ReR.err _ _ _)); have e3 := Lib.hid hE.out.1; have Hsv := Lib.hid hsv; clear hb2 hu2 hsv)
    | (refine wpList_store_row rfl 36 (.tmp 4) (.tmp 33) rfl B2 _ rfl rfl _ _ hC2.out.r1 (by rw [Hsv.out.n]; exact size_rf) (by rw [Hsv.out.n]; rfl) Hsv.out.one ?_)
    | (refine wpList_store_row rfl 53 (.tmp 5) (.tmp 34) rfl B3 _ rfl rfl _ _ e3.out size_rr rfl (by simp [Value.oneCell']) ?_))
  exact ret_rfr rfl B2 B3 cs' _ Hsv.out.n rfl _ _ (0, 0) (0, 0) rfl rfl hE.out.2.1 hE.out.2.2.1 rfl hE.out.2.2.2
end
end Go.Proofs.YtbhmnmmockmibaaGreat

namespace Go.Proofs.YtbhmnmmockmibaaGreat
open Go.RowKit
section
variable {w W w1 w2 w3 : World} {X Y : Nat → Prop} {g0 g1 g2 g3 N : Nat} {p : Rp} {s : Fo}
set_option maxHeartbeats 8000000 in
set_option maxRecDepth 100000 in
theorem rdo8_any {v : Value} {n t : List UInt8} {Ab : Option Addr} {nl cb : Nat} (hr : RefF w X v s) (hok : s.Ok N) (hN : N ≤ 880) {vv : Int} (hg : getE s.d.now n = some vv) :
    Calls Tryz.prog 14 #[v, .agg #[.int .u8 8, .string (txt n), .string (txt t), .slice Ab nl cb]] w fun e w' => RdD w X (s, 0, [], (bytesF s.fs vv).1) e w' := by
  obtain ⟨p, rfl, hp0⟩ := hr
  have hp := Lib.hid hp0
  obtain ⟨B0, hB0⟩ : ∃ B, Hid (w.heap.size = B) := ⟨_, rfl⟩
  obtain ⟨B1, hB1⟩ : ∃ B, Hid (w.heap.size + 1 = B) := ⟨_, rfl⟩
  obtain ⟨B2, hB2⟩ : ∃ B, Hid (w.heap.size + 1 + 1 = B) := ⟨_, rfl⟩
  obtain ⟨B3, hB3⟩ : ∃ B, Hid (w.heap.size + 1 + 1 + 1 = B) := ⟨_, rfl⟩
  obtain ⟨W, HWW⟩ : ∃ W, Hid ((((w.alloc (.cells (p.cs s) 36)).alloc (.cells #[.int .u8 8, .string (txt n), .string (txt t), .slice Ab nl cb] 46)).alloc (.cells #[.slice none 0 0, .slice none 0 0, .slice none 0 0, .int .i64 0, .int .i64 0, .int .i64 0, .slice none 0 0] 36)).alloc (.cells #[.int .i64 0, .slice none 0 0, .slice none 0 0] 53) = W) := ⟨_, rfl⟩
  have hC0 := RfC.startP (cc := #[.int .u8 8, .string (txt n), .string (txt t), .slice Ab nl cb]) hp0 HWW.out
  rw [hB3.out, hB2.out, hB1.out, hB0.out] at hC0
  have hC := Lib.hid hC0
  clear hp0 hC0
  obtain ⟨c0, c1, c2, c3, c4, c5, c6⟩ := hC.out.b.cells
  obtain ⟨a0, a1, a2, a3⟩ := quad_cell hC.out.call
  have hget := Lib.hid (hC.out.get hok (by omega) n)
  have hhas : hasE s.d.now n = true := by rw [← getE_has, hg]; rfl
  rw [hhas, hg] at hget
  simp only [Option.getD_some] at hget
  have hby := Lib.hid (fun wx wz (hx : RfC w wz wx X B0 B1 B2 B3 #[.int .u8 8, .string (txt n), .string (txt t), .slice Ab nl cb] p s) => hx.bytes hok (by omega) vv)
  go_enter Tryz.func14, Tryz.ntmps14
  go_upto_region 1 with fail
  rw [hB3.out, hB2.out, hB1.out, hB0.out, HWW.out]
  go_upto_region 21 with (first | (go_at_call 41; refine hget.out.mono ?_; rintro e w1 ⟨rfl, hb1⟩; have hC1 := Lib.hid (hC.out.below hb1); have Hb1 := Lib.hid hb1; clear hb1; obtain ⟨d0, d1, d2, d3, d4, d5, d6⟩ := hC1.out.b.cells; obtain ⟨b0, b1, b2, b3⟩ := quad_cell hC1.out.call; clear c0 c1 c2 c3 c4 c5 c6 a0 a1 a2 a3))
  obtain ⟨B4, hB4⟩ : ∃ B, Hid (w1.heap.size = B) := ⟨_, rfl⟩
  obtain ⟨W5, hW5⟩ : ∃ W', Hid (w1.alloc (.cells #[.int .i64 0, .slice none 0 0, .slice none 0 0] 53) = W') := ⟨_, rfl⟩
  have hb5 : Hid (Below w1.heap.size w1 W5) := by rw [← hW5.out]; exact below_new _ _
  have hq5 : Hid (W5.heap[B4]? = some (.cells zres 53 (0, 0))) := by rw [← hW5.out, ← hB4.out]; exact heap_alloc_new _ _
  have hC5 := Lib.hid (hC1.out.again hp.out hb5.out)
  have hlt5 : Hid (B4 < W5.heap.size ∧ B0 < B4 ∧ B1 < B4 ∧ B2 < B4 ∧ B3 < B4 ∧ B2 ≠ B3 ∧ w.heap.size ≤ B4) := by
    have h1 := hC.out.ne
    have h2 := hC1.out.b.ge
    have h3 := (Array.getElem?_eq_some_iff.1 hq5.out).1
    have h4 := hB4.out
    exact ⟨h3, by omega, by omega, by omega, by omega, by omega, by omega⟩
  clear d0 d1 d2 d3 d4 d5 d6 b0 b1 b2 b3
  obtain ⟨d0, d1, d2, d3, d4, d5, d6⟩ := hC5.out.b.cells
  obtain ⟨b0, b1, b2, b3⟩ := quad_cell hC5.out.call
  obtain ⟨q0, q1, q2⟩ := tri_cell hq5.out
  have qf := fun i => d_frozen (i := i) hq5.out
  go_upto_region 22 with fail
  rw [hB4.out, hW5.out]
  go_upto_region 33 with (first | (go_at_call 49; refine (hby.out _ _ hC5.out).mono ?_; rintro e w6 ⟨A6, k6, n6, rfl, hn6, hr6, _, hb6⟩; have hC6 := Lib.hid (hC5.out.below hb6); have Hn6 := Lib.hid hn6; have Hr6 := Lib.hid hr6; have hq6 := Lib.hid ((hb6.block _ (Array.getElem?_eq_some_iff.1 hq5.out).1).trans hq5.out); have s0 := tri_cell hq6.out; have sf := fun i => d_frozen (i := i) hq6.out; clear hn6 hr6 hb6))
  obtain ⟨W9, hW9⟩ : ∃ W', Hid (w6.setCell ⟨B4, 2, none⟩ (.slice A6 n6 k6) = W') := ⟨_, rfl⟩
  have ht9 := Touch.cell1 w6 B4 2 (.slice A6 n6 k6)
  have hq9 := heap_setCell_same w6 B4 2 _ _ (.slice A6 n6 k6) hq6.out
  rw [hW9.out] at ht9 hq9 ⊢
  have Ha := Lib.hid (hC6.out.at4 hlt5.out ht9)
  have hC9 := Lib.hid Ha.out.1
  have hq9 := Lib.hid (show W9.heap[B4]? = some (.cells #[.int .i64 0, .slice none 0 0, .slice A6 n6 k6] 53 (0, 0)) from hq9)
  clear ht9
  have hC10 := Lib.hid (hC9.out.below (Below.refl _ _).drew)
  have hE := Lib.hid (hC10.out.endd (o := (s, 0, [], (bytesF s.fs vv).1)) hC10.out.arg (⟨none, 0, 0, A6, n6, k6, rfl, rfl, RdX.none_, Hn6.out, by rw [Hn6.out]; exact (Hr6.out.keep Ha.out.2).below (Below.refl _ _).drew⟩))
  refine wp_region_copy2 (by kernel_rfl) (by kernel_rfl) (by kernel_rfl) (by kernel_rfl) (by kernel_rfl) (by kernel_rfl) (by kernel_rfl) (by kernel_rfl) rfl rfl rfl rfl 36 53 rfl rfl rfl rfl 137 138 rfl rfl rfl rfl (by decide) B0 B4 B2 B3 (p.cs s) #[.int .i64 0, .slice none 0 0, .slice A6 n6 k6] rfl rfl rfl rfl rfl rfl rfl rfl rfl rfl hC9.out.b.box hq9.out hC9.out.r1 hC9.out.r2 (by have := hlt5.out; omega) hlt5.out.2.2.2.2.2.1 Tryz.underlying36 rfl size_rf Tryz.underlying53 rfl size_rr rfl rfl (p.sev s).one (by simp [Value.oneCell']) ?_
  go_wp2
  exact ret_rfr rfl B2 B3 (p.cs s) _ rfl rfl _ _ (0, 0) (0, 0) rfl rfl hE.out.2.1 hE.out.2.2.1 rfl hE.out.2.2.2
end
end Go.Proofs.YtbhmnmmockmibaaGreat

namespace Go.Proofs.YtbhmnmmockmibaaGreat
open Go.RowKit
section
variable {w W w1 w2 w3 : World} {X Y : Nat → Prop} {g0 g1 g2 g3 N : Nat} {p : Rp} {s : Fo}
set_option maxHeartbeats 8000000 in
set_option maxRecDepth 100000 in
theorem rdo3_any {v : Value} {n t : List UInt8} {Ab : Option Addr} {nl cb : Nat} (hr : RefF w X v s) (hok : s.Ok N) (hN : N ≤ 880) {vv : Int} (hg : getE s.d.now n = some vv) :
    Calls Tryz.prog 14 #[v, .agg #[.int .u8 3, .string (txt n), .string (txt t), .slice Ab nl cb]] w fun e w' => RdD w X ({ s with fs := (doSync s.fs vv).1 }, 0, [], []) e w' := by
  obtain ⟨p, rfl, hp0⟩ := hr
  have hp := Lib.hid hp0
  obtain ⟨B0, hB0⟩ : ∃ B, Hid (w.heap.size = B) := ⟨_, rfl⟩
  obtain ⟨B1, hB1⟩ : ∃ B, Hid (w.heap.size + 1 = B) := ⟨_, rfl⟩
  obtain ⟨B2, hB2⟩ : ∃ B, Hid (w.heap.size + 1 + 1 = B) := ⟨_, rfl⟩
  obtain ⟨B3, hB3⟩ : ∃ B, Hid (w.heap.size + 1 + 1 + 1 = B) := ⟨_, rfl⟩
  obtain ⟨W, HWW⟩ : ∃ W, Hid ((((w.alloc (.cells (p.cs s) 36)).alloc (.cells #[.int .u8 3, .string (txt n), .string (txt t), .slice Ab nl cb] 46)).alloc (.cells #[.slice none 0 0, .slice none 0 0, .slice none 0 0, .int .i64 0, .int .i64 0, .int .i64 0, .slice none 0 0] 36)).alloc (.cells #[.int .i64 0, .slice none 0 0, .slice none 0 0] 53) = W) := ⟨_, rfl⟩
  have hC0 := RfC.startP (cc := #[.int .u8 3, .string (txt n), .string (txt t), .slice Ab nl cb]) hp0 HWW.out
  rw [hB3.out, hB2.out, hB1.out, hB0.out] at hC0
  have hC := Lib.hid hC0
  clear hp0 hC0
  obtain ⟨c0, c1, c2, c3, c4, c5, c6⟩ := hC.out.b.cells
  obtain ⟨a0, a1, a2, a3⟩ := quad_cell hC.out.call
  have hget := Lib.hid (hC.out.get hok (by omega) n)
  have hhas : hasE s.d.now n = true := by rw [← getE_has, hg]; rfl
  rw [hhas, hg] at hget
  simp only [Option.getD_some] at hget
  have hby := Lib.hid (fun wx wz (hx : RfC w wz wx X B0 B1 B2 B3 #[.int .u8 3, .string (txt n), .string (txt t), .slice Ab nl cb] p s) => hx.syncB hok (by omega) vv)
  go_enter Tryz.func14, Tryz.ntmps14
  go_upto_region 1 with fail
  rw [hB3.out, hB2.out, hB1.out, hB0.out, HWW.out]
  go_upto_region 21 with (first | (go_at_call 41; refine hget.out.mono ?_; rintro e w1 ⟨rfl, hb1⟩; have hC1 := Lib.hid (hC.out.below hb1); have Hb1 := Lib.hid hb1; clear hb1; obtain ⟨d0, d1, d2, d3, d4, d5, d6⟩ := hC1.out.b.cells; obtain ⟨b0, b1, b2, b3⟩ := quad_cell hC1.out.call; clear c0 c1 c2 c3 c4 c5 c6 a0 a1 a2 a3))
  obtain ⟨B4, hB4⟩ : ∃ B, Hid (w1.heap.size = B) := ⟨_, rfl⟩
  obtain ⟨W5, hW5⟩ : ∃ W', Hid (w1.alloc (.cells #[.int .i64 0, .slice none 0 0, .slice none 0 0] 53) = W') := ⟨_, rfl⟩
  have hb5 : Hid (Below w1.heap.size w1 W5) := by rw [← hW5.out]; exact below_new _ _
  have hq5 : Hid (W5.heap[B4]? = some (.cells zres 53 (0, 0))) := by rw [← hW5.out, ← hB4.out]; exact heap_alloc_new _ _
  have hC5 := Lib.hid (hC1.out.again hp.out hb5.out)
  have hlt5 : Hid (B4 < W5.heap.size ∧ B0 < B4 ∧ B1 < B4 ∧ B2 < B4 ∧ B3 < B4 ∧ B2 ≠ B3 ∧ w.heap.size ≤ B4) := by
    have h1 := hC.out.ne
    have h2 := hC1.out.b.ge
    have h3 := (Array.getElem?_eq_some_iff.1 hq5.out).1
    have h4 := hB4.out
    exact ⟨h3, by omega, by omega, by omega, by omega, by omega, by omega⟩
  clear d0 d1 d2 d3 d4 d5 d6 b0 b1 b2 b3
  obtain ⟨d0, d1, d2, d3, d4, d5, d6⟩ := hC5.out.b.cells
  obtain ⟨b0, b1, b2, b3⟩ := quad_cell hC5.out.call
  obtain ⟨q0, q1, q2⟩ := tri_cell hq5.out
  have qf := fun i => d_frozen (i := i) hq5.out
  go_upto_region 22 with fail
  rw [hB4.out, hW5.out]
  go_upto_region 33 with (first | (go_at_call 47; refine (hby.out _ _ hC5.out).mono ?_; rintro e w6 ⟨u, rfl, ⟨A6, n6, k6, rfl, hC6, hD6⟩, hb6⟩; have hq6 := Lib.hid ((hb6.block _ (Array.getElem?_eq_some_iff.1 hq5.out).1).trans hq5.out); have HC6 := Lib.hid hC6; have HD6 := Lib.hid hD6; clear hb6 hC6 hD6; obtain ⟨m0, m1, m2, m3, m4, m5, m6⟩ := HC6.out.b.cells; have mf := HC6.out.b.fz; have s0 := tri_cell hq6.out; have sf := fun i => d_frozen (i := i) hq6.out))
  have ht6 := ((Touch.cell1 w6 B0 2 (.slice A6 n6 k6)).trans (Touch.cell1 _ B0 3 (.int .i64 s.q))).trans (Touch.cell1 _ B0 4 (.int .i64 (s.made : Int)))
  obtain ⟨W7, hW7⟩ : ∃ W', Hid (((w6.setCell ⟨B0, 2, none⟩ (.slice A6 n6 k6)).setCell ⟨B0, 3, none⟩ (.int .i64 s.q)).setCell ⟨B0, 4, none⟩ (.int .i64 (s.made : Int)) = W') := ⟨_, rfl⟩
  have hD7 := HD6.out
  rw [show tset w6 B0 A6 n6 k6 s.q (s.made : Int) = W7 from hW7.out] at hD7
  rw [hW7.out] at ht6 ⊢
  have hq7 := Lib.hid (ht6.heap (show ¬ B4 = B0 by have := hlt5.out; omega) hq6.out)
  have HD7 := Lib.hid hD7
  obtain ⟨p9, hp9⟩ : ∃ q : Rp, Hid (RfC w W5 W7 X B0 B1 B2 B3 #[.int .u8 3, .string (txt n), .string (txt t), .slice Ab nl cb] q { s with fs := (doSync s.fs vv).1 }) := ⟨_, HD7⟩
  clear hD7 HD7 HD6 m0 m1 m2 m3 m4 m5 m6 mf s0 sf ht6
  obtain ⟨W9, rfl⟩ : ∃ W', W' = W7 := ⟨_, rfl⟩
  have hC9 := hp9
  have hq9 := hq7
  have hC10 := Lib.hid (hC9.out.below (Below.refl _ _).drew)
  have hE := Lib.hid (hC10.out.endd (o := ({ s with fs := (doSync s.fs vv).1 }, 0, [], [])) hC10.out.arg (ReR.err _ _ _))
  refine wp_region_copy2 (by kernel_rfl) (by kernel_rfl) (by kernel_rfl) (by kernel_rfl) (by kernel_rfl) (by kernel_rfl) (by kernel_rfl) (by kernel_rfl) rfl rfl rfl rfl 36 53 rfl rfl rfl rfl 137 138 rfl rfl rfl rfl (by decide) B0 B4 B2 B3 (p9.cs { s with fs := (doSync s.fs vv).1 }) zres rfl rfl rfl rfl rfl rfl rfl rfl rfl rfl hC9.out.b.box hq9.out hC9.out.r1 hC9.out.r2 (by have := hlt5.out; omega) hlt5.out.2.2.2.2.2.1 Tryz.underlying36 rfl size_rf Tryz.underlying53 rfl size_rr rfl rfl (p9.sev { s with fs := (doSync s.fs vv).1 }).one (by simp [Value.oneCell']) ?_
  go_wp2
  exact ret_rfr rfl B2 B3 (p9.cs { s with fs := (doSync s.fs vv).1 }) _ rfl rfl _ _ (0, 0) (0, 0) rfl rfl hE.out.2.1 hE.out.2.2.1 rfl hE.out.2.2.2
end
end Go.Proofs.YtbhmnmmockmibaaGreat
