/- The walk of FrameKnown: it returns true. Conditions: none. -/
import Derived.Test.YtfjgmbnnmobkbaaFrE
namespace Go.Proofs.Ytfjgmbnnmobkbaa
open Go.RowKit

theorem exec_call3 {P : Program} {b : Act} {w : World} {o : Oper} {f : FuncId} {x y z : Operand} {t u r : TypeId} {v v' v'' : Value} (hf : ∀ args, (callFunc f args).run P w = .ok (.enter f args) w) (ho : o.op = .call { callee := .value (.func f), args := #[x, y, z], argTypes := #[t, u, r] }) (h : b.eval x = v) (h' : b.eval y = v') (h'' : b.eval z = v'') : (execOp b.eval o).run P w = .ok (.enter f #[v, v', v'']) w := by
  subst h h' h''
  unfold execOp
  simp only [ho]
  go_simp
-- FN1<
/-- What the test of FrameKnown's first loop lays, operation by operation. -/
def FnF (f : Fr) (g n m : Nat) : Nat → Value → World → Prop
  | 0, v, _ => v = f.v
  | 1, v, _ => v = (bare 1).v
  | 2, v, w => LsF w v [f, bare 1]
  | 3, v, _ => v = .bool true
  | 4, v, _ => v = .bool false
  | 5, v, _ => v = .bool false
  | 6, v, _ => v = f.v
  | 7, v, _ => v = (bare 0).v
  | 8, v, _ => v = f.v
  | 9, v, w => LsF w v [f, bare 0, f]
  | 10, v, _ => v = .pointer (some ⟨g, 1, none⟩)
  | 11, v, _ => v = .slice f.r.A f.r.l.length f.r.c
  | 12, v, _ => v = .int .i64 (n : Int)
  | 13, v, _ => v = .int .i64 (m : Int)
  | 14, v, _ => v = .slice f.r.A m f.r.c
  | 15, v, _ => v = .int .i64 (n : Int)
  | 16, v, _ => v = .int .i64 ((n : Int) * 5)
  | 17, v, _ => v = .bool true
  | 18, v, _ => v = .bool false
  | 19, v, _ => v = .bool false
  | 20, v, _ => v = .bool false
  | 21, v, _ => v = f.v
  | 22, v, _ => v = .int .i64 (n : Int)
  | 23, v, _ => v = .int .i64 ((n : Int) * 11)
  | 24, v, _ => v = .bool true
  | 25, v, _ => v = .bool false
  | 26, v, _ => v = .bool false
  | _, _, _ => True
theorem FnF.keep {f : Fr} {g n m : Nat} (j : Nat) (u : Value) (w w' : World) (hb : Below w.heap.size w w') (h : FnF f g n m j u w) : FnF f g n m j u w' :=
  match j, h with
  | 0, h => h
  | 1, h => h
  | 2, h => LsF.keep h hb
  | 3, h => h
  | 4, h => h
  | 5, h => h
  | 6, h => h
  | 7, h => h
  | 8, h => h
  | 9, h => LsF.keep h hb
  | 10, h => h
  | 11, h => h
  | 12, h => h
  | 13, h => h
  | 14, h => h
  | 15, h => h
  | 16, h => h
  | 17, h => h
  | 18, h => h
  | 19, h => h
  | 20, h => h
  | 21, h => h
  | 22, h => h
  | 23, h => h
  | 24, h => h
  | 25, h => h
  | 26, h => h
  | _ + 27, h => h
-- FN1>
/-- The rows that FrameKnown's second loop takes frames of. -/
def knownW (w : World) : World :=
  (((((((((w.alloc (.cells #[.int .u8 1] 5)).alloc (.cells #[.int .u8 1, .int .u8 0] 5)).alloc (.cells #[.int .u8 1, .int .u8 0, .int .u8 0, .int .u8 0, .int .u8 0] 5)).alloc (.cells #[.int .u8 1, .int .u8 128] 5)).alloc (.cells #[.int .u8 1, .int .u8 128, .int .u8 0, .int .u8 1, .int .u8 1, .int .u8 1, .int .u8 1] 5)).alloc
    (.cells #[.int .u8 1, .int .u8 128, .int .u8 128, .int .u8 4, .int .u8 1, .int .u8 1, .int .u8 1, .int .u8 1] 5)).alloc (.cells #[.int .u8 1, .int .u8 255, .int .u8 255, .int .u8 3, .int .u8 1, .int .u8 1, .int .u8 1, .int .u8 1] 5)).alloc (.cells #[.int .u8 0, .int .u8 0, .int .u8 0, .int .u8 0, .int .u8 0, .int .u8 0] 5)).alloc
    (.cells #[.slice none 0 0, .slice (some ⟨w.heap.size, 0, none⟩) 1 1, .slice (some ⟨w.heap.size + 1, 0, none⟩) 2 2, .slice (some ⟨w.heap.size + 1 + 1, 0, none⟩) 5 5, .slice (some ⟨w.heap.size + 1 + 1 + 1, 0, none⟩) 2 2, .slice (some ⟨w.heap.size + 1 + 1 + 1 + 1, 0, none⟩) 7 7,
      .slice (some ⟨w.heap.size + 1 + 1 + 1 + 1 + 1, 0, none⟩) 8 8, .slice (some ⟨w.heap.size + 1 + 1 + 1 + 1 + 1 + 1, 0, none⟩) 8 8, .slice (some ⟨w.heap.size + 1 + 1 + 1 + 1 + 1 + 1 + 1, 0, none⟩) 6 6] 24))
/-- A row that is listed anew. -/
theorem rows_lit {w : World} {rs : List Row} (h : ∀ r ∈ rs, RdB w w.heap.size r.A r.l) (l : List UInt8) (cs : Array Value) (t : TypeId) (g : Nat) (hc : cs = (bs l).toArray) (hg : g = w.heap.size) :
    ∀ r ∈ rs ++ [⟨some ⟨g, 0, none⟩, l.length, l⟩], RdB (w.alloc (.cells cs t)) (w.alloc (.cells cs t)).heap.size r.A r.l := by
  subst hc hg
  intro r hr
  rw [List.mem_append, List.mem_singleton] at hr
  rcases hr with hr | rfl
  · exact Reads.more ((h r hr).alloc (Nat.le_refl _) _) (by simp)
  · have := reads_new w t (bs l)
    rw [bs_len] at this
    have hz : (w.alloc (.cells (bs l).toArray t)).heap.size = w.heap.size + 1 := by simp
    rw [hz]
    exact this
theorem size_alloc_ (w : World) (o : Obj) : (w.alloc o).heap.size = w.heap.size + 1 := by simp
theorem known_rows (w : World) : ∃ rows : List Row, rows.length = 9 ∧ (∀ r ∈ rows, r.l.length ≤ r.c ∧ r.l.length ≤ 10) ∧ RdR (knownW w) (knownW w).heap.size (some ⟨w.heap.size + 1 + 1 + 1 + 1 + 1 + 1 + 1 + 1, 0, none⟩) rows ∧ Below w.heap.size w (knownW w) := by
  have h0 : ∀ r ∈ [(⟨none, 0, []⟩ : Row)], RdB w w.heap.size r.A r.l := by
    intro r hr
    rw [List.mem_singleton] at hr
    subst hr
    exact Reads.none_
  have h1 := rows_lit h0 [1] #[.int .u8 1] 5 w.heap.size rfl rfl
  have h2 := rows_lit h1 [1, 0] #[.int .u8 1, .int .u8 0] 5 (w.heap.size + 1) rfl (by simp)
  have h3 := rows_lit h2 [1, 0, 0, 0, 0] #[.int .u8 1, .int .u8 0, .int .u8 0, .int .u8 0, .int .u8 0] 5 (w.heap.size + 1 + 1) rfl (by simp)
  have h4 := rows_lit h3 [1, 128] #[.int .u8 1, .int .u8 128] 5 (w.heap.size + 1 + 1 + 1) rfl (by simp)
  have h5 := rows_lit h4 [1, 128, 0, 1, 1, 1, 1] #[.int .u8 1, .int .u8 128, .int .u8 0, .int .u8 1, .int .u8 1, .int .u8 1, .int .u8 1] 5 (w.heap.size + 1 + 1 + 1 + 1) rfl (by simp)
  have h6 := rows_lit h5 [1, 128, 128, 4, 1, 1, 1, 1] #[.int .u8 1, .int .u8 128, .int .u8 128, .int .u8 4, .int .u8 1, .int .u8 1, .int .u8 1, .int .u8 1] 5 (w.heap.size + 1 + 1 + 1 + 1 + 1) rfl (by simp)
  have h7 := rows_lit h6 [1, 255, 255, 3, 1, 1, 1, 1] #[.int .u8 1, .int .u8 255, .int .u8 255, .int .u8 3, .int .u8 1, .int .u8 1, .int .u8 1, .int .u8 1] 5 (w.heap.size + 1 + 1 + 1 + 1 + 1 + 1) rfl (by simp)
  have h8 := rows_lit h7 [0, 0, 0, 0, 0, 0] #[.int .u8 0, .int .u8 0, .int .u8 0, .int .u8 0, .int .u8 0, .int .u8 0] 5 (w.heap.size + 1 + 1 + 1 + 1 + 1 + 1 + 1) rfl (by simp)
  have hR := RdR.new _ _ ([⟨none, 0, []⟩, ⟨some ⟨w.heap.size, 0, none⟩, 1, [1]⟩, ⟨some ⟨w.heap.size + 1, 0, none⟩, 2, [1, 0]⟩, ⟨some ⟨w.heap.size + 1 + 1, 0, none⟩, 5, [1, 0, 0, 0, 0]⟩, ⟨some ⟨w.heap.size + 1 + 1 + 1, 0, none⟩, 2, [1, 128]⟩, ⟨some ⟨w.heap.size + 1 + 1 + 1 + 1, 0, none⟩, 7, [1, 128, 0, 1, 1, 1, 1]⟩, ⟨some ⟨w.heap.size + 1 + 1 + 1 + 1 + 1, 0, none⟩, 8, [1, 128, 128, 4, 1, 1, 1, 1]⟩, ⟨some ⟨w.heap.size + 1 + 1 + 1 + 1 + 1 + 1, 0, none⟩, 8, [1, 255, 255, 3, 1, 1, 1, 1]⟩, ⟨some ⟨w.heap.size + 1 + 1 + 1 + 1 + 1 + 1 + 1, 0, none⟩, 6, [0, 0, 0, 0, 0, 0]⟩] : List Row) 24 (Nat.le_refl _) h8
  refine ⟨[⟨none, 0, []⟩, ⟨some ⟨w.heap.size, 0, none⟩, 1, [1]⟩, ⟨some ⟨w.heap.size + 1, 0, none⟩, 2, [1, 0]⟩, ⟨some ⟨w.heap.size + 1 + 1, 0, none⟩, 5, [1, 0, 0, 0, 0]⟩, ⟨some ⟨w.heap.size + 1 + 1 + 1, 0, none⟩, 2, [1, 128]⟩, ⟨some ⟨w.heap.size + 1 + 1 + 1 + 1, 0, none⟩, 7, [1, 128, 0, 1, 1, 1, 1]⟩, ⟨some ⟨w.heap.size + 1 + 1 + 1 + 1 + 1, 0, none⟩, 8, [1, 128, 128, 4, 1, 1, 1, 1]⟩, ⟨some ⟨w.heap.size + 1 + 1 + 1 + 1 + 1 + 1, 0, none⟩, 8, [1, 255, 255, 3, 1, 1, 1, 1]⟩, ⟨some ⟨w.heap.size + 1 + 1 + 1 + 1 + 1 + 1 + 1, 0, none⟩, 6, [0, 0, 0, 0, 0, 0]⟩], rfl, ?h2, ?h3, ?h4⟩
  case h3 =>
    have hz : (knownW w).heap.size = w.heap.size + 1 + 1 + 1 + 1 + 1 + 1 + 1 + 1 + 1 := by simp [knownW]
    rw [hz]
    simp only [size_alloc_] at hR
    exact hR
  case h4 =>
    unfold knownW
    exact (((((((((Below.refl _ _).alloc (Nat.le_refl _) _).alloc (by simp only [size_alloc_]; omega) _).alloc (by simp only [size_alloc_]; omega) _).alloc (by simp only [size_alloc_]; omega) _).alloc (by simp only [size_alloc_]; omega) _).alloc (by simp only [size_alloc_]; omega) _).alloc (by simp only [size_alloc_]; omega) _).alloc (by simp only [size_alloc_]; omega) _).alloc (by simp only [size_alloc_]; omega) _
  case h2 =>
    intro r hr
    simp only [List.mem_cons, List.not_mem_nil, or_false] at hr
    rcases hr with rfl | rfl | rfl | rfl | rfl | rfl | rfl | rfl | rfl <;> simp


set_option maxHeartbeats 4000000 in
set_option maxRecDepth 100000 in
theorem frameKnown_any (w : World) : Calls Try.prog 7 #[] w fun e w' => e = .returned (.bool true) ∧ Below w.heap.size w w' := by
  go_enter Try.func7, Try.ntmps7
  go_wp2
  go_loopw [1] (fun i wr => ∃ n : Nat, n ≤ 160 ∧ i = .int .i64 (n : Int) ∧ Below w.heap.size w wr) (fun i _ => 140 - (intOf i).toNat)
  case atStart => exact ⟨0, by omega, rfl, .refl _ _⟩
  case round =>
    obtain ⟨n, hn, rfl, hb⟩ := hrel
    by_cases hlt : n < 140
    · have hnI : (n : Int) < 140 := by omega
      obtain ⟨kk, hkk⟩ := u8_of ((n : Int) * 7)
      go_wp2_with fail
      obtain ⟨wo, rfl⟩ : ∃ wo : World, wo = wr := ⟨_, rfl⟩
      obtain ⟨g, hg⟩ : ∃ g, g = wo.heap.size := ⟨_, rfl⟩
      obtain ⟨W1, hW1⟩ : ∃ W1 : World, W1 = wo.alloc (.cells #[.int .u8 (kk.toNat : Int), .slice none 0 0] 26) := ⟨_, rfl⟩
      have X1 : BoxAt W1 g kk (.slice none 0 0) 26 := by rw [hW1, hg]; exact heap_alloc_new _ _
      have B1 : Below g wo W1 := by rw [hW1, hg]; exact (Below.refl _ _).alloc (Nat.le_refl _) _
      have Z1 : g + 1 ≤ W1.heap.size := by rw [hW1, hg]; simp
      have Hg := Lib.hid (show w.heap.size ≤ g by rw [hg]; exact hb.size)
      have Hg' := Lib.hid hg
      rw [← hW1, ← hg]
      clear hW1 hkk hg
      go_loopw [3] (fun i wx => ∃ (k : Nat) (v : Value) (l : List UInt8), k ≤ n ∧ i = .int .i64 (k : Int) ∧ Hid (l.length = k) ∧ Hid (BoxAt wx g kk v 26) ∧ Hid (wx.ownsRow (g + 1) 5 1 v l.length (bs l)) ∧ Below g wo wx ∧ g + 1 ≤ wx.heap.size) (fun i _ => n - (intOf i).toNat)
      case atStart => exact ⟨0, .slice none 0 0, [], by omega, rfl, rfl, X1, World.ownsRow_nil _ _ _ _, B1, Z1⟩
      case round =>
        clear X1 B1 Z1
        obtain ⟨k, v, l, hk, rfl, hl, hX, hO, hbx, hz⟩ := hrel
        by_cases hlt2 : k < n
        · have hkI : (k : Int) < (n : Int) := by omega
          obtain ⟨p, hp⟩ : ∃ p, p = k * n := ⟨_, rfl⟩
          have hpI : (k : Int) * (n : Int) = (p : Int) := by rw [hp]; push_cast; rfl
          have hpl : (p : Int) ≤ 25600 := by
            have : k * n ≤ 160 * 160 := Nat.mul_le_mul (by omega) hn
            omega
          have hl' := Lib.hid (show l.length ≤ 160 by rw [hl.out]; omega)
          clear hp
          obtain ⟨y, hy⟩ := u8_of (p : Int)
          have hx1 := (two_cells hX.out).2
          go_wp2_with (at_builtin
                       refine push_byteK (.tmp 30) (.tmp 35) _ y hO.out hz (by have := hl'.out; omega) rfl rfl rfl rfl rfl rfl ?_
                       intro v1 w1 hown1 hb1 hbs1 hz1 hk1
                       have hg1 := (hk1 g (by omega) (by intro e; have := (hO.out.lt g e).1; omega)).2.trans hX.out
                       have hap1 := hk1.apart (M := g) (by omega) (by intro e; have := (hO.out.lt g e).1; omega)
                       have hc1 : w1.cell? ⟨g, 1, none⟩ = some v := by rw [cell_of_row w1 g 1 _ _ _ hg1]; rfl
                       have hf1 := frozen_of_row w1 g 1 _ _ hg1
                       obtain ⟨L, hL⟩ : ∃ L, L = l ++ [y] := ⟨_, rfl⟩
                       rw [← hL] at hown1
                       have HL := Lib.hid hL
                       clear hL
                       obtain ⟨A1, c1, rfl, _, _, _⟩ := own_form hown1)
          go_roundw
          case rel => exact ⟨k + 1, _, L, by omega, by go_num, by show _ = _; rw [HL.out, List.length_append, hl.out]; rfl, heap_setCell_same w1 g 1 _ _ _ hg1, own_setCell hown1 hap1 _, (hbx.trans (hb1.mono (by omega))).setCell (Nat.le_refl _) _, by simpa using hbs1⟩
          case measure => simp [intOf]; omega
        · obtain rfl : k = n := by omega
          obtain ⟨A, c, rfl, hlc, _, hr⟩ := own_form hO.out
          obtain ⟨f, hf⟩ : ∃ f : Fr, f = ⟨kk, ⟨A, c, l⟩⟩ := ⟨_, rfl⟩
          have hkI : ¬ (k : Int) < (k : Int) := by omega
          obtain ⟨m, hm⟩ : ∃ m, m = k / 2 := ⟨_, rfl⟩
          have Hm := Lib.hid hm
          have Hf := Lib.hid hf
          clear hlt2 hm hf
          go_wp2_with fail
          go_cut [64] from 38 to 64 (fun s wz => s = .bool false ∧ Below g wo wz)
          case first =>
            rename_i J K1 hJ hK
            refine wp_region_facts (n := 138) (FnF f g k m) (FkC wr) (by kernel_rfl) (by kernel_rfl) rfl (Below.refl _ wr).drew ?_ ?_
            · have hl' := hl.out
              have hm := Hm.out
              have hf := Hf.out
              have hfl0 : f.r.l.length = k := by rw [hf]; exact hl'
              have hfc : f.r.l.length ≤ f.r.c := by rw [hf]; exact hlc
              have hbx : ∀ wz : World, FkC wr wz → wz.cell? ⟨g, 0, none⟩ = some (.int .u8 (f.k.toNat : Int)) ∧ wz.cell? ⟨g, 1, none⟩ = some (.slice f.r.A f.r.l.length f.r.c) :=
                fun wz hc => by rw [hf]; exact two_cells ((hc.block g (by omega)).trans hX.out)
              have hfr : ∀ wz : World, FkC wr wz → RdB wz wz.heap.size f.r.A f.r.l := fun wz hc => by rw [hf]; exact Reads.more (Reads.below hr hc) hc.size
              have hrows1 : ∀ wz : World, FkC wr wz → ∀ q ∈ [f, bare 1], RdB wz wz.heap.size q.r.A q.r.l := by
                intro wz hc q hq
                simp only [List.mem_cons, List.not_mem_nil, or_false] at hq
                rcases hq with rfl | rfl
                · exact hfr wz hc
                · exact Reads.none_
              have hrows2 : ∀ wz : World, FkC wr wz → ∀ q ∈ [f, bare 0, f], RdB wz wz.heap.size q.r.A q.r.l := by
                intro wz hc q hq
                simp only [List.mem_cons, List.not_mem_nil, or_false] at hq
                rcases hq with rfl | rfl | rfl
                · exact hfr wz hc
                · exact Reads.none_
                · exact hfr wz hc
              have hfl : f.r.l.length ≤ 100000 := by omega
              have hlen1 : ∀ q ∈ [f, bare 1], q.r.l.length ≤ 100000 := by
                intro q hq
                simp only [List.mem_cons, List.not_mem_nil, or_false] at hq
                rcases hq with rfl | rfl
                · exact hfl
                · exact Nat.zero_le _
              have hlen2 : ∀ q ∈ [f, bare 0, f], q.r.l.length ≤ 100000 := by
                intro q hq
                simp only [List.mem_cons, List.not_mem_nil, or_false] at hq
                rcases hq with rfl | rfl | rfl
                · exact hfl
                · exact Nat.zero_le _
                · exact hfl
              have hn1 : k ≤ 1000 := by omega
              have hml' : m ≤ f.r.l.length := by omega
              have hml : (f.r.l.take m).length = m := by rw [List.length_take]; omega
              have hmc : m ≤ f.r.c := by omega
              have hm5 : m ≤ 100000 := by omega
              have hr5 : -9223372036854775808 ≤ (k : Int) * 5 ∧ (k : Int) * 5 ≤ 9223372036854775807 := by omega
              have hr11 : -9223372036854775808 ≤ (k : Int) * 11 ∧ (k : Int) * 11 ≤ 9223372036854775807 := by omega
              have hw5 : IntKind.i64.wrap ((k : Int) * 5) = (k : Int) * 5 := IntWalk.i64_in _ (by omega)
              have hw11 : IntKind.i64.wrap ((k : Int) * 11) = (k : Int) * 11 := IntWalk.i64_in _ (by omega)
              -- FN2<
              refine OpsOk.cons _ _ (OpOk.run _ _ FnF.keep FkC.keep fun b v hs hc hg => ⟨rfl, _, _, exec_loadF rfl (hs 2 (by kernel_rfl)) (hbx _ hc).1 (hbx _ hc).2, .refl _ _, rfl⟩) ?_
              refine OpsOk.cons _ _ (OpOk.run _ _ FnF.keep FkC.keep fun b v hs hc hg => ⟨rfl, _, _, exec_build1 rfl rfl, .refl _ _, rfl⟩) ?_
              refine OpsOk.cons _ _ (OpOk.run _ _ FnF.keep FkC.keep fun b v hs hc hg => ⟨rfl, _, _, exec_listF2 rfl (dep hg 0 rfl rfl rfl rfl) (dep hg 1 rfl rfl rfl rfl), (Below.refl _ _).alloc (Nat.le_refl _) _, LsF.new v _ _ _ _ 2 (Nat.le_refl _) (hrows1 _ hc) rfl rfl⟩) ?_
              refine OpsOk.cons _ _ (OpOk.call _ _ FnF.keep FkC.keep fun b v hs hc hg => ⟨rfl, _, _, exec_call1 (enter_puts _) rfl rfl, puts_ls (dep hg 0 rfl rfl rfl rfl) (by simp) hlen1⟩) ?_
              refine OpsOk.cons _ _ (OpOk.run _ _ FnF.keep FkC.keep fun b v hs hc hg => ⟨rfl, _, _, exec_not rfl (dep hg 0 rfl rfl rfl rfl), .refl _ _, rfl⟩) ?_
              refine OpsOk.cons _ _ (OpOk.run _ _ FnF.keep FkC.keep fun b v hs hc hg => ⟨rfl, _, _, exec_move rfl (dep hg 0 rfl rfl rfl rfl), .refl _ _, rfl⟩) ?_
              refine OpsOk.cons _ _ (OpOk.run _ _ FnF.keep FkC.keep fun b v hs hc hg => ⟨wanted_of rfl rfl rfl (dep hg 0 rfl rfl rfl rfl), _, _, exec_loadF rfl (hs 2 (by kernel_rfl)) (hbx _ hc).1 (hbx _ hc).2, .refl _ _, rfl⟩) ?_
              refine OpsOk.cons _ _ (OpOk.run _ _ FnF.keep FkC.keep fun b v hs hc hg => ⟨wanted_of rfl rfl rfl (dep hg 0 rfl rfl rfl rfl), _, _, exec_build0 rfl, .refl _ _, rfl⟩) ?_
              refine OpsOk.cons _ _ (OpOk.run _ _ FnF.keep FkC.keep fun b v hs hc hg => ⟨wanted_of rfl rfl rfl (dep hg 0 rfl rfl rfl rfl), _, _, exec_loadF rfl (hs 2 (by kernel_rfl)) (hbx _ hc).1 (hbx _ hc).2, .refl _ _, rfl⟩) ?_
              refine OpsOk.cons _ _ (OpOk.run _ _ FnF.keep FkC.keep fun b v hs hc hg => ⟨wanted_of rfl rfl rfl (dep hg 3 rfl rfl rfl rfl), _, _, exec_listF3 rfl (dep hg 0 rfl rfl rfl rfl) (dep hg 1 rfl rfl rfl rfl) (dep hg 2 rfl rfl rfl rfl), (Below.refl _ _).alloc (Nat.le_refl _) _, LsF.new v _ _ _ _ 3 (Nat.le_refl _) (hrows2 _ hc) rfl rfl⟩) ?_
              refine OpsOk.cons _ _ (OpOk.run _ _ FnF.keep FkC.keep fun b v hs hc hg => ⟨wanted_of rfl rfl rfl (dep hg 0 rfl rfl rfl rfl), _, _, exec_field1 rfl (hs 2 (by kernel_rfl)), .refl _ _, rfl⟩) ?_
              refine OpsOk.cons _ _ (OpOk.run _ _ FnF.keep FkC.keep fun b v hs hc hg => ⟨wanted_of rfl rfl rfl (dep hg 1 rfl rfl rfl rfl), _, _, exec_loadS rfl (dep hg 0 rfl rfl rfl rfl) (hbx _ hc).2, .refl _ _, rfl⟩) ?_
              refine OpsOk.cons _ _ (OpOk.run _ _ FnF.keep FkC.keep fun b v hs hc hg => ⟨wanted_of rfl rfl rfl (dep hg 0 rfl rfl rfl rfl), _, _, exec_move rfl (hs 1 (by kernel_rfl)), .refl _ _, rfl⟩) ?_
              refine OpsOk.cons _ _ (OpOk.run _ _ FnF.keep FkC.keep fun b v hs hc hg => ⟨wanted_of rfl rfl rfl (dep hg 1 rfl rfl rfl rfl), _, _, exec_half rfl (dep hg 0 rfl rfl rfl rfl) rfl hn1 hm, .refl _ _, rfl⟩) ?_
              refine OpsOk.cons _ _ (OpOk.run _ _ FnF.keep FkC.keep fun b v hs hc hg => ⟨wanted_of rfl rfl rfl (dep hg 2 rfl rfl rfl rfl), _, _, exec_front rfl (dep hg 0 rfl rfl rfl rfl) (dep hg 1 rfl rfl rfl rfl) hmc, .refl _ _, rfl⟩) ?_
              refine OpsOk.cons _ _ (OpOk.run _ _ FnF.keep FkC.keep fun b v hs hc hg => ⟨wanted_of rfl rfl rfl (dep hg 0 rfl rfl rfl rfl), _, _, exec_move rfl (hs 1 (by kernel_rfl)), .refl _ _, rfl⟩) ?_
              refine OpsOk.cons _ _ (OpOk.run _ _ FnF.keep FkC.keep fun b v hs hc hg => ⟨wanted_of rfl rfl rfl (dep hg 1 rfl rfl rfl rfl), _, _, exec_mulI rfl (dep hg 0 rfl rfl rfl rfl) rfl rfl hw5, .refl _ _, rfl⟩) ?_
              refine OpsOk.cons _ _ (OpOk.call _ _ FnF.keep FkC.keep fun b v hs hc hg => ⟨wanted_of rfl rfl rfl (dep hg 4 rfl rfl rfl rfl), _, _, exec_call3 (enter_back _) rfl rfl (dep hg 1 rfl rfl rfl rfl) (dep hg 2 rfl rfl rfl rfl), back_ls (dep hg 0 rfl rfl rfl rfl) (by simp) hlen2 hml hm5 hr5 (RdB.first (hfr _ hc) hml')⟩) ?_
              refine OpsOk.cons _ _ (OpOk.run _ _ FnF.keep FkC.keep fun b v hs hc hg => ⟨wanted_of rfl rfl rfl (dep hg 1 rfl rfl rfl rfl), _, _, exec_not rfl (dep hg 0 rfl rfl rfl rfl), .refl _ _, rfl⟩) ?_
              refine OpsOk.cons _ _ (OpOk.run _ _ FnF.keep FkC.keep fun b v hs hc hg => ⟨rfl, _, _, exec_pick rfl (dep hg 0 rfl rfl rfl rfl) (dep hg 1 rfl rfl rfl rfl), .refl _ _, rfl⟩) ?_
              refine OpsOk.cons _ _ (OpOk.run _ _ FnF.keep FkC.keep fun b v hs hc hg => ⟨rfl, _, _, exec_move rfl (dep hg 0 rfl rfl rfl rfl), .refl _ _, rfl⟩) ?_
              refine OpsOk.cons _ _ (OpOk.run _ _ FnF.keep FkC.keep fun b v hs hc hg => ⟨wanted_of rfl rfl rfl (dep hg 0 rfl rfl rfl rfl), _, _, exec_loadF rfl (hs 2 (by kernel_rfl)) (hbx _ hc).1 (hbx _ hc).2, .refl _ _, rfl⟩) ?_
              refine OpsOk.cons _ _ (OpOk.run _ _ FnF.keep FkC.keep fun b v hs hc hg => ⟨wanted_of rfl rfl rfl (dep hg 0 rfl rfl rfl rfl), _, _, exec_move rfl (hs 1 (by kernel_rfl)), .refl _ _, rfl⟩) ?_
              refine OpsOk.cons _ _ (OpOk.run _ _ FnF.keep FkC.keep fun b v hs hc hg => ⟨wanted_of rfl rfl rfl (dep hg 1 rfl rfl rfl rfl), _, _, exec_mulI rfl (dep hg 0 rfl rfl rfl rfl) rfl rfl hw11, .refl _ _, rfl⟩) ?_
              refine OpsOk.cons _ _ (OpOk.call _ _ FnF.keep FkC.keep fun b v hs hc hg => ⟨wanted_of rfl rfl rfl (dep hg 3 rfl rfl rfl rfl), _, _, exec_call2 (enter_bits _) rfl (dep hg 0 rfl rfl rfl rfl) (dep hg 1 rfl rfl rfl rfl), bits_f hfl hr11 (hfr _ hc)⟩) ?_
              refine OpsOk.cons _ _ (OpOk.run _ _ FnF.keep FkC.keep fun b v hs hc hg => ⟨wanted_of rfl rfl rfl (dep hg 1 rfl rfl rfl rfl), _, _, exec_not rfl (dep hg 0 rfl rfl rfl rfl), .refl _ _, rfl⟩) ?_
              refine OpsOk.cons _ _ (OpOk.run _ _ FnF.keep FkC.keep fun b v hs hc hg => ⟨rfl, _, _, exec_pick rfl (dep hg 0 rfl rfl rfl rfl) (dep hg 1 rfl rfl rfl rfl), .refl _ _, rfl⟩) ?_
              exact OpsOk.nil _ _
              -- FN2>
            · intro b' w' hsz hd hs hc hall
              refine hK _ _ (Met.intro (hJ _ _ ?_))
              exact ⟨b'.tmps.getD 38 undef, b'.tmps.getD 39 undef, b'.tmps.getD 40 undef, b'.tmps.getD 41 undef, b'.tmps.getD 42 undef, b'.tmps.getD 43 undef, b'.tmps.getD 44 undef, b'.tmps.getD 45 undef, b'.tmps.getD 46 undef, b'.tmps.getD 47 undef, b'.tmps.getD 48 undef, b'.tmps.getD 49 undef, b'.tmps.getD 50 undef, b'.tmps.getD 51 undef, b'.tmps.getD 52 undef, b'.tmps.getD 53 undef, b'.tmps.getD 54 undef, b'.tmps.getD 55 undef, b'.tmps.getD 56 undef, b'.tmps.getD 57 undef, b'.tmps.getD 58 undef, b'.tmps.getD 59 undef, b'.tmps.getD 60 undef, b'.tmps.getD 61 undef, b'.tmps.getD 62 undef, b'.tmps.getD 63 undef, b'.tmps.getD 64 undef, ⟨hall 26 _ _ rfl rfl, hbx.trans (Below.mono hc (by omega))⟩, (act_known hsz hd hs).trans (by kernel_rfl)⟩
          case rest =>
            obtain ⟨rfl, hbz⟩ := hcut
            obtain ⟨q, hq⟩ : ∃ q, q = k / 20 := ⟨_, rfl⟩
            have hqI : (k : Int).tdiv 20 = (q : Int) := by rw [hq]; rfl
            have hqb : (q : Int) ≤ 7 := by omega
            go_wp2
            go_roundw
            case rel => exact ⟨k + 1 + q, by omega, by go_num, hb.trans (hbz.mono Hg.out)⟩
            case measure => simp [intOf]; omega
    · have hnI : ¬ (n : Int) < 140 := by omega
      clear hlt
      obtain ⟨wo, rfl⟩ : ∃ wo : World, wo = wr := ⟨_, rfl⟩
      obtain ⟨rows, hrl, hrows, hR, hbW⟩ := known_rows wo
      have Hrows := Lib.hid hrows
      obtain ⟨W, hW⟩ : ∃ W, W = knownW wo := ⟨_, rfl⟩
      rw [← hW] at hR hbW
      obtain ⟨N, hN⟩ : ∃ N, N = wo.heap.size + 1 + 1 + 1 + 1 + 1 + 1 + 1 + 1 := ⟨_, rfl⟩
      rw [← hN] at hR
      have HR : Hid (RdR W W.heap.size (some ⟨N, 0, none⟩) rows) := hR
      have HbW := Lib.hid (hb.trans (hbW.mono hb.size))
      have HW := Lib.hid hW
      have HN := Lib.hid hN
      clear hrows hR hbW hb hW hN
      go_wp2_with fail
      show Code.wp Try.prog _ _ _ (knownW wo)
      rw [← HW.out, ← HN.out]
      clear HW HN
      go_loopw [75] (fun i wx => ∃ k : Nat, k ≤ 9 ∧ i = .int .i64 (k : Int) ∧ Below W.heap.size W wx) (fun i _ => 9 - (intOf i).toNat)
      case atStart => exact ⟨0, by omega, rfl, .refl _ _⟩
      case round =>
        obtain ⟨k, hk, rfl, hb⟩ := hrel
        by_cases hlt : k < 9
        · have hkI : (k : Int) < 9 := by omega
          obtain ⟨ad, r, had, _, hc, hx, _⟩ := (RdR.below HR.out hb).at_ (k := k) (by omega)
          injection had with had
          subst had
          have hadd : (⟨N, 0, none⟩ : Addr).add k = ⟨N, k, none⟩ := by unfold Addr.add; split <;> simp_all
          rw [hadd] at hc
          clear hadd
          have Hrow : Hid (RdB W W.heap.size r.A r.l) := HR.out.row r (mem_of_get hx)
          obtain ⟨hcap, h10⟩ := Hrows.out r (mem_of_get hx)
          have Hcap := Lib.hid hcap
          have Hl := Lib.hid h10
          have hbk := hb
          clear hcap h10 hb
          go_wp2_with fail
          clear hc
          go_loopw [6] (fun i wx => ∃ z : Int, -1 ≤ z ∧ z ≤ 4 ∧ i = .int .i64 z ∧ Below W.heap.size W wx) (fun i _ => (4 - intOf i).toNat)
          case atStart => exact ⟨-1, by omega, by omega, rfl, hbk⟩
          case round =>
            clear hbk
            obtain ⟨z, hz1, hz2, rfl, hb⟩ := hrel
            by_cases hz : z < 4
            · go_wp2_with fail
              refine (takesLaw_any r.A r.c r.l z wr (by have := Hl.out; omega) Hcap.out (Reads.more (Reads.below Hrow.out hb) hb.size)).mono ?_
              rintro e w1 ⟨rfl, hb1⟩
              go_wp2
              go_roundw
              case rel => exact ⟨z + 1, by omega, by omega, rfl, hb.trans (hb1.mono hb.size)⟩
              case measure => simp [intOf]; omega
            · go_wp2
              go_roundw
              case rel => exact ⟨k + 1, by omega, by go_num, hb⟩
              case measure => simp [intOf]; omega
        · obtain rfl : k = 9 := by omega
          have HbR := Lib.hid (HbW.out.trans (hb.mono HbW.out.size))
          clear hb HR HbW Hrows hrl hlt
          obtain ⟨w0, rfl⟩ : ∃ w0 : World, w0 = wr := ⟨_, rfl⟩
          obtain ⟨M, hM⟩ : ∃ M : Nat, M = 65535 := ⟨_, rfl⟩
          obtain ⟨M2, hM2⟩ : ∃ M : Nat, M = 65536 := ⟨_, rfl⟩
          have hMI : (65535 : Int) = (M : Int) := by rw [hM]; rfl
          have hM2I : (65536 : Int) = (M2 : Int) := by rw [hM2]; rfl
          obtain ⟨Z, hZ⟩ : ∃ Z, Z = noughts M := ⟨_, rfl⟩
          obtain ⟨Y, hY⟩ : ∃ Y, Y = noughts M2 := ⟨_, rfl⟩
          have HZl := Lib.hid (show Z.length = M by rw [hZ, noughts_len])
          have HYl := Lib.hid (show Y.length = M2 by rw [hY, noughts_len])
          have hmk1 := fun w : World => run_make_bytes w M 65535 hMI (by omega)
          have hmk2 := fun w : World => run_make_bytes w M2 65536 hM2I (by omega)
          rw [← hZ] at hmk1
          rw [← hY] at hmk2
          have HM := Lib.hid hM
          have HM2 := Lib.hid hM2
          clear hZ hY hM hM2 hMI hM2I
          go_upto_region 21 with fail
          obtain ⟨W1, hW1⟩ : ∃ W1 : World, W1 = (w0.alloc (.cells (bs Z).toArray 5)).alloc (.cells #[.int .u8 3, .slice (some ⟨w0.heap.size, 0, none⟩) M M] 26) := ⟨_, rfl⟩
          have hrZ : RdB W1 (w0.heap.size + 1) (some ⟨w0.heap.size, 0, none⟩) Z := by rw [hW1]; exact Reads.alloc (reads_lit w0 rfl) (by simp) _
          have hz1 : W1.heap.size = w0.heap.size + 1 + 1 := by rw [hW1]; simp
          have hb01 : Below w0.heap.size w0 W1 := by rw [hW1]; exact ((Below.refl _ _).alloc (Nat.le_refl _) _).alloc (by simp) _
          have hg1 : W1.heap[w0.heap.size + 1]? = some (.cells #[.int .u8 3, .slice (some ⟨w0.heap.size, 0, none⟩) M M] 26 (0, 0)) := by
            have h := heap_alloc_new (w0.alloc (.cells (bs Z).toArray 5)) (.cells #[.int .u8 3, .slice (some ⟨w0.heap.size, 0, none⟩) M M] 26)
            rw [← hW1] at h
            simpa using h
          obtain ⟨hx10, hx11⟩ := two_cells hg1
          have HB1 := Lib.hid (HbR.out.trans (hb01.mono HbR.out.size))
          rw [← hW1]
          clear hW1 hb01 hg1 HbR
          go_wp2_with fail
          clear hx10 hx11
          refine (frPut_n (k := 3) (n := M) HZl.out rfl (by have := HM.out; omega) (by omega) hrZ).mono ?_
          rintro e w1 ⟨⟨v1, rfl, hown1⟩, hb1⟩
          obtain ⟨L, hL⟩ : ∃ L, L = encFr 3 Z := ⟨_, rfl⟩
          simp only at hown1 ⊢
          rw [← hL] at hown1
          have hLl : L.length = 65543 := by rw [hL, encFr_len, HZl.out, HM.out, fsz_max]
          rw [hLl] at hown1
          obtain ⟨A1, c1, rfl, hc1, _, hr1⟩ := own_form hown1
          have HL := Lib.hid hL
          have HLl := Lib.hid hLl
          have Hr1 : Hid (RdB w1 w1.heap.size A1 L) := by show Reads _ _ _ _ _ _; rw [hLl]; exact hr1
          have HB2 := Lib.hid (HB1.out.trans (hb1.mono HB1.out.size))
          have Hc1 : Hid (65543 ≤ c1) := hc1
          clear hL hLl hown1 hr1 hb1 hrZ hz1 hc1 HB1
          go_wp2_with fail
          refine (frOne_n (k := 3) (l := Z) HLl.out HL.out (by rw [HZl.out, HM.out]; omega) (by omega) Hc1.out (Nat.le_refl _) Hr1.out).mono ?_
          rintro e w2 ⟨⟨v2, rfl, hown2⟩, hb2⟩
          simp only at hown2 ⊢
          rw [HZl.out] at hown2
          obtain ⟨A2, c2, rfl, _, _, _⟩ := own_form hown2
          have HB3 := Lib.hid (HB2.out.trans (hb2.mono HB2.out.size))
          clear hown2 hb2 HB2 Hr1 HL HLl Hc1
          go_upto_region 24 with fail
          obtain ⟨W3, hW3⟩ : ∃ W3 : World, W3 = ((w2.alloc (.cells #[.int .u8 3, .slice A2 M c2] 26)).alloc (.cells (bs Y).toArray 5)).alloc (.cells #[.int .u8 3, .slice (some ⟨w2.heap.size + 1, 0, none⟩) M2 M2] 26) := ⟨_, rfl⟩
          have hz3 : W3.heap.size = w2.heap.size + 1 + 1 + 1 := by rw [hW3]; simp
          have hb23 : Below w2.heap.size w2 W3 := by rw [hW3]; exact (((Below.refl _ _).alloc (Nat.le_refl _) _).alloc (by simp) _).alloc (by simp only [size_alloc_]; omega) _
          have hgA : W3.heap[w2.heap.size]? = some (.cells #[.int .u8 3, .slice A2 M c2] 26 (0, 0)) := by
            rw [hW3, heap_alloc_old _ _ (by simp only [size_alloc_]; omega), heap_alloc_old _ _ (by simp only [size_alloc_]; omega)]
            exact heap_alloc_new _ _
          have hgB : W3.heap[w2.heap.size + 1 + 1]? = some (.cells #[.int .u8 3, .slice (some ⟨w2.heap.size + 1, 0, none⟩) M2 M2] 26 (0, 0)) := by
            have h := heap_alloc_new ((w2.alloc (.cells #[.int .u8 3, .slice A2 M c2] 26)).alloc (.cells (bs Y).toArray 5)) (.cells #[.int .u8 3, .slice (some ⟨w2.heap.size + 1, 0, none⟩) M2 M2] 26)
            rw [← hW3] at h
            simpa only [size_alloc_] using h
          have hrY : RdB W3 (w2.heap.size + 1 + 1) (some ⟨w2.heap.size + 1, 0, none⟩) Y := by
            rw [hW3]
            have h := reads_lit (w2.alloc (.cells #[.int .u8 3, .slice A2 M c2] 26)) (xs := bs Y) (l := Y) rfl
            rw [size_alloc_] at h
            exact Reads.alloc h (by simp only [size_alloc_]; omega) _
          have hxA := (two_cells hgA).2
          obtain ⟨hxB0, hxB1⟩ := two_cells hgB
          have hMI : (M : Int) = 65535 := by rw [HM.out]; rfl
          have HgB := Lib.hid hgB
          have HB4 := Lib.hid (HB3.out.trans (hb23.mono HB3.out.size))
          rw [← hW3]
          clear hW3 hb23 hgA hgB HB3
          go_wp2_with fail
          clear hxA hxB0 hxB1
          refine (puts_one (k := 3) (n := M2) hz3 HYl.out rfl (by have := HM2.out; omega) (by omega) hrY).mono ?_
          rintro e w4 ⟨rfl, hb4⟩
          obtain ⟨hxB0, hxB1⟩ := two_cells ((hb4.block (w2.heap.size + 1 + 1) (by omega)).trans HgB.out)
          have HB5 := Lib.hid (HB4.out.trans (hb4.mono HB4.out.size))
          clear hb4 HB4
          go_wp2_with fail
          clear hxB0 hxB1
          refine (size_n (k := 3) (n := M2) (Z := 65544) HYl.out rfl (by have := HM2.out; omega) (by rw [HM2.out]; exact fsz_over)).mono ?_
          rintro e w5 ⟨rfl, hb5⟩
          have HB6 := Lib.hid (HB5.out.trans (hb5.mono HB5.out.size))
          clear hb5 HB5
          go_wp2_with fail
          refine (putsLaw_any none 0 [] w5 (by simp) (by simp) RdF.nil).mono ?_
          rintro e w6 ⟨rfl, hb6⟩
          have HB7 := Lib.hid (HB6.out.trans (hb6.mono HB6.out.size))
          clear hb6 HB6
          go_wp2_with fail
          refine (backLaw_any none none 0 0 [] [] 0 w6 (by simp) (by simp) (Nat.le_refl _) (by simp) (by omega) RdF.nil Reads.none_).mono ?_
          rintro e w7 ⟨rfl, hb7⟩
          have HB8 := Lib.hid (HB7.out.trans (hb7.mono HB7.out.size))
          clear hb7 HB7
          go_wp2_with fail
          refine (worksF_any _).mono ?_
          rintro e w8 ⟨rfl, hb8⟩
          go_wp2
          go_ret
          exact ⟨rfl, HB8.out.trans (hb8.mono HB8.out.size)⟩
end Go.Proofs.Ytfjgmbnnmobkbaa
