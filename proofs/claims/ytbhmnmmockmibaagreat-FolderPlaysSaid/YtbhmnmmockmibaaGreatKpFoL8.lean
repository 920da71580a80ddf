/- Do of the kinds 7, 8 leaves what there was as it was; what an answer is made of is the caller's own. Conditions: at most 880 calls. -/
import Derived.Test.YtbhmnmmockmibaaGreatKpFoL
namespace Go.Proofs.YtbhmnmmockmibaaGreat
open Go.RowKit Go.Maps
section
variable {w0 w w' W : World} {Y Y' : Nat → Prop} {F N M B R L : Nat} {s s' : Fo} {k nm tt by_ : Value}
theorem Cb.low (hc : Cb w W B R k nm tt by_) {w1 : World} (hb : Below W.heap.size W w1) (x y z : Value) : Below w.heap.size w (((w1.setCell ⟨R, 0, none⟩ x).setCell ⟨R, 1, none⟩ y).setCell ⟨R, 2, none⟩ z) := by
  have hR : w.heap.size ≤ R := by have := hc.r; omega
  exact (((hc.below.trans (hb.mono hc.below.size)).setCell hR _).setCell hR _).setCell hR _
def HCB (w0 : World) (Y : Nat → Prop) (F : Nat) (s : Fo) (N : Nat) (f : FuncId) (cv : Value) (out : Nat → OutF) (W : World) : Prop :=
  ∀ W5, Below W.heap.size W W5 → FS w0 Y F s N W5 → Calls Tryz.prog f #[.pointer (some ⟨F, 0, none⟩), cv] W5 fun e w' => (∃ g, Dn w0 W5 Y F (N + 2) (out g) e w') ∧ Below W5.heap.size W5 w'
set_option maxHeartbeats 2000000 in
set_option maxRecDepth 100000 in
theorem freadB_any (h : FS w0 Y F s N w) (hN : N ≤ 900) (k : Value) (n t : List UInt8) (hn : n.length ≤ 1000) (b : Value) (hb1 : ∃ A n c, b = .slice A n c) :
    Calls Tryz.prog 40 #[.pointer (some ⟨F, 0, none⟩), .agg #[k, .string (txt n), .string (txt t), b]] w fun e w' => Dn w0 w Y F N (s.doRead n) e w' ∧ Below w.heap.size w w' := by
  obtain ⟨Ab, nl, cb, rfl⟩ := hb1
  obtain ⟨W, hW⟩ : ∃ W, Hid ((w.alloc (.cells #[k, .string (txt n), .string (txt t), .slice Ab nl cb] 40)).alloc (.cells #[.int .i64 0, .slice none 0 0, .slice none 0 0] 51) = W) := ⟨_, rfl⟩
  obtain ⟨B, hb⟩ : ∃ B, Hid (w.heap.size = B) := ⟨_, rfl⟩
  obtain ⟨R, hR⟩ : ∃ R, Hid (w.heap.size + 1 = R) := ⟨_, rfl⟩
  have hc := Lib.hid (Cb.of hW.out hb.out hR.out)
  have h1 := Lib.hid (hc.out.enter h)
  obtain ⟨c0, c1, c2, c3⟩ := quad_cell hc.out.call
  have r0 := tri_cell hc.out.res
  have rf := fun i => d_frozen (i := i) hc.out.res
  clear h
  have hf := Lib.hid (fun m => (h1.out.drewN m).nfind n hn)
  unfold Fo.doRead
  cases hg : getE s.d.now n with
  | none =>
    have ef : s.find n = (0, 80) := ((s.find_has n).2 (getE_none hg)).2
    rw [ef] at hf
    clear hg ef
    go_enter Tryz.func40, Tryz.ntmps40
    go_upto_region 1 with fail
    rw [hW.out, hR.out, hb.out]
    go_quiet (first | (go_at_call 72; refine Calls.quiet_of_same (hf.out _)))
    go_wp2
    have ht : Touch (Fr w0 (YB Y B R)) W (W.drewN nq) := .of (below_drewN (Below.refl _ _) _)
    refine ret_res rfl R _ _ _ _ (0, 0) rfl (tri_set _ _ _ (hc.out.at_ ht).2) rfl ?_
    exact ⟨hc.out.err ht ((h1.out.drewN _).mono (by omega)), hc.out.low (below_drewN (Below.refl _ _) _) _ _ _⟩
  | some v =>
    have ef : s.find n = (v, 0) := by obtain ⟨v', e1, e2⟩ := (s.find_has n).1 (by rw [← getE_has, hg]; rfl); rw [hg] at e1; injection e1 with e1; rw [e1]; exact e2
    rw [ef] at hf
    have hv := (h1.out.ok.d.now.2 _ (getE_some hg)).v
    clear hg ef
    go_enter Tryz.func40, Tryz.ntmps40
    go_upto_region 1 with fail
    rw [hW.out, hR.out, hb.out]
    go_quiet (first | (go_at_call 72; refine Calls.quiet_of_same (hf.out _)))
    obtain ⟨W2, hW2⟩ : ∃ W2, Hid (W.drewN nq = W2) := ⟨_, rfl⟩
    have hb2 : Hid (Below W.heap.size W W2) := by rw [← hW2.out]; exact below_drewN (Below.refl _ _) _
    have h2 := Lib.hid (h1.out.quiet hb2.out)
    have hby := Lib.hid (h2.out.1.tbytes hN hv)
    go_wp2_with (first | (go_at_call 56; rw [hW2.out]; refine hby.out.mono ?_; rintro e w3 ⟨u, rfl, ho, hb3⟩; obtain ⟨A', cap', rfl, _, _, _⟩ := own_form ho; have Ho := Lib.hid ho; have HB3 := Lib.hid hb3; have Hf3 := Lib.hid (h2.out.1.quiet hb3); have Ht3 := Lib.hid (h2.out.2.trans Hf3.out.2); clear ho hb3; have s0 := tri_cell (hc.out.at_ Ht3.out).2; have sf := fun i => d_frozen (i := i) (hc.out.at_ Ht3.out).2))
    refine ret_res rfl R _ _ _ _ (0, 0) rfl (tri_set _ _ _ (hc.out.at_ Ht3.out).2) rfl ?_
    refine ⟨?_, hc.out.low (hb2.out.trans (HB3.out.mono hb2.out.size)) _ _ _⟩
    refine hc.out.done (r := (s, (bytesF s.fs v).2, [], (bytesF s.fs v).1)) Ht3.out Hf3.out.1 _ _ _ fun w4 ht4 => ⟨none, 0, 0, A', _, cap', rfl, World.ownsRow_nil _ _ _ _, rfl, own_base (own_touch Ho.out ht4 fun b hb e => ?_) (Nat.le_trans hc.out.below.size hb2.out.size), rfl⟩
    exact (hc.out.nb (Nat.le_trans hb2.out.size (Ho.out.lt b hb).1)).1 e
set_option maxHeartbeats 2000000 in
set_option maxRecDepth 100000 in
theorem freaddirB_any (h : FS w0 Y F s N w) (hN : N ≤ 900) (k : Value) (n t : List UInt8) (b : Value) (hb1 : ∃ A n c, b = .slice A n c) :
    Calls Tryz.prog 39 #[.pointer (some ⟨F, 0, none⟩), .agg #[k, .string (txt n), .string (txt t), b]] w fun e w' => Dn w0 w Y F N (s, 0, s.d.now.map Prod.fst, []) e w' ∧ Below w.heap.size w w' := by
  obtain ⟨Ab, nl, cb, rfl⟩ := hb1
  obtain ⟨W, hW⟩ : ∃ W, Hid ((w.alloc (.cells #[k, .string (txt n), .string (txt t), .slice Ab nl cb] 40)).alloc (.cells #[.int .i64 0, .slice none 0 0, .slice none 0 0] 51) = W) := ⟨_, rfl⟩
  obtain ⟨B, hb⟩ : ∃ B, Hid (w.heap.size = B) := ⟨_, rfl⟩
  obtain ⟨R, hR⟩ : ∃ R, Hid (w.heap.size + 1 = R) := ⟨_, rfl⟩
  have hc := Lib.hid (Cb.of hW.out hb.out hR.out)
  have h1 := Lib.hid (hc.out.enter h)
  obtain ⟨c0, c1, c2, c3⟩ := quad_cell hc.out.call
  have r0 := tri_cell hc.out.res
  have rf := fun i => d_frozen (i := i) hc.out.res
  clear h
  have hl := Lib.hid (h1.out.dlist hN)
  have hlen : Hid (s.d.now.length ≤ 900) := Nat.le_trans h1.out.ok.d.now.1 hN
  obtain ⟨m, hm⟩ : ∃ m, Hid (s.d.now = m) := ⟨_, rfl⟩
  rw [hm.out] at hl hlen ⊢
  obtain ⟨len, hln⟩ : ∃ l, Hid (m.length = l) := ⟨_, rfl⟩
  have hlenI : (len : Int) ≤ 900 := by have := hlen.out; have := hln.out; omega
  go_enter Tryz.func39, Tryz.ntmps39
  go_upto_region 2 with fail
  rw [hW.out, hR.out, hb.out]
  go_wp2_with (first | (go_at_call 55; refine hl.out.mono ?_; rintro e w1 ⟨u, rfl, ho, hb1⟩; obtain ⟨A, cap, rfl, hcap, hcm, hrd⟩ := own_form ho; have Ho := Lib.hid ho; have Hrd := Lib.hid hrd; have Hb1 := Lib.hid hb1; clear ho hrd hb1; rw [hln.out]; rw [hln.out] at hcap))
  clear c0 c1 c2 c3 r0 rf hcap hcm
  go_loopw [5, 14] (fun r i wr => ∃ (j : Nat), j ≤ len ∧ i = .int .i64 (j : Int) ∧ wr.ownsRow w1.heap.size 9 1 r j ((m.take j).map fun x => .string (txt x.1)) ∧ Hid (Below w1.heap.size w1 wr)) (fun _ i _ => len - (intOf i).toNat)
  case atStart => exact ⟨0, by omega, rfl, World.ownsRow_nil _ _ _ _, .refl _ _⟩
  case round =>
    obtain ⟨j, hj, rfl, hrow, hB1⟩ := hrel
    have Hrow := Lib.hid hrow
    clear hrow
    by_cases hlt : j < len
    · obtain ⟨ad, e, rfl, _, _, d0, d1, hx⟩ := EnXD.at_ (X := fun _ => False) ((RdX.of Hrd.out (Nat.le_refl _) fun _ _ h => h).below hB1.out) (k := j) (by rw [hln.out]; exact hlt)
      have Hx := Lib.hid hx.out
      clear hx
      obtain ⟨Wa, hWa⟩ : ∃ Wa, Hid (wr.alloc (.cells #[.string (txt e.1), .int .i64 e.2] 120) = Wa) := ⟨_, rfl⟩
      obtain ⟨g, hg⟩ : ∃ g, Hid (wr.heap.size = g) := ⟨_, rfl⟩
      have e0 : Wa.cell? ⟨g, 0, none⟩ = some (.string (txt e.1)) := by rw [← hWa.out, ← hg.out]; exact (two_cells (heap_alloc_new wr _)).1
      have hba : Hid (Below wr.heap.size wr Wa) := by rw [← hWa.out]; exact below_new _ _
      have hrow2 := Hrow.out.alloc (.cells #[.string (txt e.1), .int .i64 e.2] 120)
      rw [hWa.out] at hrow2
      have Hrow2 := Lib.hid hrow2
      clear hrow2
      go_upto_region 5 with fail
      rw [hWa.out, hg.out]
      go_wp2_with (at_builtin; refine push_one oneStr rfl (by omega) (.tmp 18) (.tmp 21) (.string (txt e.1)) rfl Hrow2.out (Nat.le_trans hB1.out.size hba.out.size) (by omega) rfl rfl rfl rfl rfl ?_; intro v' w3 hown' hg3 hblk3 hb3; go_frame)
      have hb5 : Hid (Below w1.heap.size w1 w3) := (hB1.out.trans (hba.out.mono hB1.out.size)).trans hb3
      go_roundw
      case rel => exact ⟨j + 1, by omega, by go_num, by rw [keys_snoc Hx.out]; exact hown', hb5⟩
      case measure => simp [intOf]; omega
    · obtain rfl : j = len := by omega
      have hfull : m.take j = m := by rw [← hln.out, List.take_length]
      rw [hfull] at Hrow
      have Hr2 := Lib.hid (h1.out.quiet (Hb1.out.trans (hB1.out.mono Hb1.out.size)))
      have Ht3 := Lib.hid Hr2.out.2
      obtain ⟨A', cap', rfl, _, _, _⟩ := own_form Hrow.out
      have s0 := tri_cell (hc.out.at_ Ht3.out).2
      have sf := fun i => d_frozen (i := i) (hc.out.at_ Ht3.out).2
      go_wp2
      refine ret_res rfl R _ _ _ _ (0, 0) rfl (tri_set _ _ _ (hc.out.at_ Ht3.out).2) rfl ?_
      refine ⟨?_, hc.out.low (Hb1.out.trans (hB1.out.mono Hb1.out.size)) _ _ _⟩
      refine hc.out.done (r := (s, 0, m.map Prod.fst, [])) Ht3.out Hr2.out.1 _ _ _ fun w4 ht4 => ⟨A', j, cap', none, 0, 0, rfl, ?_, by rw [List.length_map, hln.out], World.ownsRow_nil _ _ _ _, rfl⟩
      rw [List.length_map, hln.out, List.map_map]
      refine own_base (own_touch Hrow.out ht4 fun b hb e => ?_) (Nat.le_trans hc.out.below.size Hb1.out.size)
      exact (hc.out.nb (Nat.le_trans Hb1.out.size (Hrow.out.lt b hb).1)).1 e
set_option maxHeartbeats 4000000 in
set_option maxRecDepth 100000 in
theorem fdo7B_any {n t : List UInt8} {Ab : Option Addr} {nl cb : Nat} {out : Nat → OutF} (h : FS w0 Y F s N w)
    (hcall : ∀ B R L W4, Below w.heap.size w W4 → HCB w0 (YL Y B R L) F s N 39 (.agg #[.int .u8 7, .string (txt n), .string (txt t), .slice Ab nl cb]) out W4) :
    Calls Tryz.prog 13 #[.pointer (some ⟨F, 0, none⟩), .agg #[.int .u8 7, .string (txt n), .string (txt t), .slice Ab nl cb]] w fun e w' => (∃ g, Dn w0 w Y F (N + 2) (out g) e w') ∧ Below w.heap.size w w' := by
  obtain ⟨W, hW⟩ : ∃ W, Hid ((w.alloc (.cells #[.int .u8 7, .string (txt n), .string (txt t), .slice Ab nl cb] 40)).alloc (.cells #[.int .i64 0, .slice none 0 0, .slice none 0 0] 51) = W) := ⟨_, rfl⟩
  obtain ⟨B, hb⟩ : ∃ B, Hid (w.heap.size = B) := ⟨_, rfl⟩
  obtain ⟨R, hR⟩ : ∃ R, Hid (w.heap.size + 1 = R) := ⟨_, rfl⟩
  obtain ⟨L, hL⟩ : ∃ L, Hid (W.heap.size = L) := ⟨_, rfl⟩
  obtain ⟨W4, hW4⟩ : ∃ W4, Hid ((W.alloc (.cells #[.nilFunc, .nilFunc, .nilFunc, .nilFunc, .nilFunc, .nilFunc, .nilFunc, .nilFunc, .nilFunc] 101)).setRow L doFns = W4) := ⟨_, rfl⟩
  have hcb := Lib.hid (Cb.of hW.out hb.out hR.out)
  have hc : Hid (Cl w W W4 B R L (.int .u8 7) (.string (txt n)) (.string (txt t)) (.slice Ab nl cb)) := by
    rw [← hW4.out]
    have hg := heap_alloc_new W (.cells #[.nilFunc, .nilFunc, .nilFunc, .nilFunc, .nilFunc, .nilFunc, .nilFunc, .nilFunc, .nilFunc] 101)
    rw [hL.out] at hg
    exact ⟨hcb.out, setRow_heap _ _ _ _ _ _ hg, below_setRow (below_new _ _) (by rw [hL.out]; exact Nat.le_refl _) _, hL.out, by rw [size_setRow]; simp⟩
  have h4 := Lib.hid (hc.out.enter h)
  have hcl := Lib.hid (hcall B R L W4 (hcb.out.below.trans (hc.out.below.mono hcb.out.below.size)))
  obtain ⟨c0, c1, c2, c3⟩ := quad_cell (hc.out.at_ (Touch.refl (Fr w0 (YL Y B R L)) _)).1
  have l0 : W4.cell? ⟨L, 7, none⟩ = some (.func (.func 39) #[] #[]) := by rw [cell_of_row _ L 7 _ _ _ hc.out.arr]; rfl
  have r0 := tri_cell (hc.out.at_ (Touch.refl (Fr w0 (YL Y B R L)) _)).2.1
  have rf := fun i => d_frozen (i := i) (hc.out.at_ (Touch.refl (Fr w0 (YL Y B R L)) _)).2.1
  clear h hcall
  have hgL : (W.alloc (.cells #[.nilFunc, .nilFunc, .nilFunc, .nilFunc, .nilFunc, .nilFunc, .nilFunc, .nilFunc, .nilFunc] 101)).heap[L]? = some (.cells #[.nilFunc, .nilFunc, .nilFunc, .nilFunc, .nilFunc, .nilFunc, .nilFunc, .nilFunc, .nilFunc] 101 (0, 0)) := by rw [← hL.out]; exact heap_alloc_new _ _
  have hq := run_eqFn 39
  go_enter Tryz.func13, Tryz.ntmps13
  go_upto_region 1 with fail
  rw [hW.out, hR.out, hb.out]
  go_upto_region 4 with (rw [hL.out]; refine wpList_store_row rfl 101 (.tmp 5) (.tmp 9) rfl L _ rfl rfl _ _ hgL size_arr rfl doFns_one ?_; rw [show (W.alloc (.cells #[.nilFunc, .nilFunc, .nilFunc, .nilFunc, .nilFunc, .nilFunc, .nilFunc, .nilFunc, .nilFunc] 101)).setRow L #[.nilFunc, .func (.func 33) #[] #[], .func (.func 34) #[] #[], .func (.func 35) #[] #[], .func (.func 36) #[] #[], .func (.func 37) #[] #[], .func (.func 38) #[] #[], .func (.func 39) #[] #[], .func (.func 40) #[] #[]] = W4 from hW4.out]; clear hgL)
  go_upto_region 6 with fail
  obtain ⟨W5, hW5⟩ : ∃ W5, Hid (W4.drew = W5) := ⟨_, rfl⟩
  have hb5 : Hid (Below W4.heap.size W4 W5) := by rw [← hW5.out]; exact (Below.refl _ _).drew
  have h5 := Lib.hid (h4.out.quiet hb5.out)
  have hcl5 := Lib.hid (hcl.out W5 hb5.out h5.out.1)
  go_region_held3 (fun wx => wx.cell? ⟨B, 0, none⟩ = some (.int .u8 7) ∧ wx.cell? ⟨B, 1, none⟩ = some (.string (txt n)) ∧ wx.cell? ⟨B, 2, none⟩ = some (.string (txt t)) ∧ wx.cell? ⟨B, 3, none⟩ = some (.slice Ab nl cb) ∧ wx.cell? ⟨L, 7, none⟩ = some (.func (.func 39) #[] #[])) (first | exact ⟨c0, c1, c2, c3, l0⟩ | exact kk6.out | exact kk7.out _ _ _) (first | (go_at_call 39; rw [hW5.out]; refine hcl5.out.mono ?_; rintro e w6 ⟨⟨g, v, rfl, hr6, hf6, ht6⟩, hb6⟩; have Hb6 := Lib.hid hb6; obtain ⟨A6, n6, d6, A7, n7, d7, rfl, hr7⟩ := hr6; have Hr := Lib.hid hr7; have Hf6 := Lib.hid hf6; have Ht6 := Lib.hid ht6; have Ht7 := Lib.hid (h5.out.2.trans ht6); clear hr7 hf6 ht6 hb6; have k6 := hc.out.at_ Ht7.out; have s0 := tri_cell k6.2.1; have sf := fun i => d_frozen (i := i) k6.2.1; have kk6 := Lib.hid (hc.out.cells Ht7.out (i := 7) rfl); have kk7 := Lib.hid (fun x y z => hc.out.cells2 Ht7.out (i := 7) rfl x y z); clear k6))
  go_wp2
  refine ret_res rfl R _ _ _ _ (0, 0) rfl (tri_set _ _ _ (hc.out.at_ Ht7.out).2.1) rfl ?_
  exact ⟨⟨g, hc.out.done h5.out.2 Ht6.out Hf6.out _ _ _ ⟨A6, n6, d6, A7, n7, d7, rfl, Hr.out⟩⟩, hcb.out.low (hc.out.below.trans ((hb5.out.trans (Hb6.out.mono hb5.out.size)).mono hc.out.below.size)) _ _ _⟩
set_option maxHeartbeats 4000000 in
set_option maxRecDepth 100000 in
theorem fdo8B_any {n t : List UInt8} {Ab : Option Addr} {nl cb : Nat} {out : Nat → OutF} (h : FS w0 Y F s N w)
    (hcall : ∀ B R L W4, Below w.heap.size w W4 → HCB w0 (YL Y B R L) F s N 40 (.agg #[.int .u8 8, .string (txt n), .string (txt t), .slice Ab nl cb]) out W4) :
    Calls Tryz.prog 13 #[.pointer (some ⟨F, 0, none⟩), .agg #[.int .u8 8, .string (txt n), .string (txt t), .slice Ab nl cb]] w fun e w' => (∃ g, Dn w0 w Y F (N + 2) (out g) e w') ∧ Below w.heap.size w w' := by
  obtain ⟨W, hW⟩ : ∃ W, Hid ((w.alloc (.cells #[.int .u8 8, .string (txt n), .string (txt t), .slice Ab nl cb] 40)).alloc (.cells #[.int .i64 0, .slice none 0 0, .slice none 0 0] 51) = W) := ⟨_, rfl⟩
  obtain ⟨B, hb⟩ : ∃ B, Hid (w.heap.size = B) := ⟨_, rfl⟩
  obtain ⟨R, hR⟩ : ∃ R, Hid (w.heap.size + 1 = R) := ⟨_, rfl⟩
  obtain ⟨L, hL⟩ : ∃ L, Hid (W.heap.size = L) := ⟨_, rfl⟩
  obtain ⟨W4, hW4⟩ : ∃ W4, Hid ((W.alloc (.cells #[.nilFunc, .nilFunc, .nilFunc, .nilFunc, .nilFunc, .nilFunc, .nilFunc, .nilFunc, .nilFunc] 101)).setRow L doFns = W4) := ⟨_, rfl⟩
  have hcb := Lib.hid (Cb.of hW.out hb.out hR.out)
  have hc : Hid (Cl w W W4 B R L (.int .u8 8) (.string (txt n)) (.string (txt t)) (.slice Ab nl cb)) := by
    rw [← hW4.out]
    have hg := heap_alloc_new W (.cells #[.nilFunc, .nilFunc, .nilFunc, .nilFunc, .nilFunc, .nilFunc, .nilFunc, .nilFunc, .nilFunc] 101)
    rw [hL.out] at hg
    exact ⟨hcb.out, setRow_heap _ _ _ _ _ _ hg, below_setRow (below_new _ _) (by rw [hL.out]; exact Nat.le_refl _) _, hL.out, by rw [size_setRow]; simp⟩
  have h4 := Lib.hid (hc.out.enter h)
  have hcl := Lib.hid (hcall B R L W4 (hcb.out.below.trans (hc.out.below.mono hcb.out.below.size)))
  obtain ⟨c0, c1, c2, c3⟩ := quad_cell (hc.out.at_ (Touch.refl (Fr w0 (YL Y B R L)) _)).1
  have l0 : W4.cell? ⟨L, 8, none⟩ = some (.func (.func 40) #[] #[]) := by rw [cell_of_row _ L 8 _ _ _ hc.out.arr]; rfl
  have r0 := tri_cell (hc.out.at_ (Touch.refl (Fr w0 (YL Y B R L)) _)).2.1
  have rf := fun i => d_frozen (i := i) (hc.out.at_ (Touch.refl (Fr w0 (YL Y B R L)) _)).2.1
  clear h hcall
  have hgL : (W.alloc (.cells #[.nilFunc, .nilFunc, .nilFunc, .nilFunc, .nilFunc, .nilFunc, .nilFunc, .nilFunc, .nilFunc] 101)).heap[L]? = some (.cells #[.nilFunc, .nilFunc, .nilFunc, .nilFunc, .nilFunc, .nilFunc, .nilFunc, .nilFunc, .nilFunc] 101 (0, 0)) := by rw [← hL.out]; exact heap_alloc_new _ _
  have hq := run_eqFn 40
  go_enter Tryz.func13, Tryz.ntmps13
  go_upto_region 1 with fail
  rw [hW.out, hR.out, hb.out]
  go_upto_region 4 with (rw [hL.out]; refine wpList_store_row rfl 101 (.tmp 5) (.tmp 9) rfl L _ rfl rfl _ _ hgL size_arr rfl doFns_one ?_; rw [show (W.alloc (.cells #[.nilFunc, .nilFunc, .nilFunc, .nilFunc, .nilFunc, .nilFunc, .nilFunc, .nilFunc, .nilFunc] 101)).setRow L #[.nilFunc, .func (.func 33) #[] #[], .func (.func 34) #[] #[], .func (.func 35) #[] #[], .func (.func 36) #[] #[], .func (.func 37) #[] #[], .func (.func 38) #[] #[], .func (.func 39) #[] #[], .func (.func 40) #[] #[]] = W4 from hW4.out]; clear hgL)
  go_upto_region 6 with fail
  obtain ⟨W5, hW5⟩ : ∃ W5, Hid (W4.drew = W5) := ⟨_, rfl⟩
  have hb5 : Hid (Below W4.heap.size W4 W5) := by rw [← hW5.out]; exact (Below.refl _ _).drew
  have h5 := Lib.hid (h4.out.quiet hb5.out)
  have hcl5 := Lib.hid (hcl.out W5 hb5.out h5.out.1)
  go_region_held3 (fun wx => wx.cell? ⟨B, 0, none⟩ = some (.int .u8 8) ∧ wx.cell? ⟨B, 1, none⟩ = some (.string (txt n)) ∧ wx.cell? ⟨B, 2, none⟩ = some (.string (txt t)) ∧ wx.cell? ⟨B, 3, none⟩ = some (.slice Ab nl cb) ∧ wx.cell? ⟨L, 8, none⟩ = some (.func (.func 40) #[] #[])) (first | exact ⟨c0, c1, c2, c3, l0⟩ | exact kk6.out | exact kk7.out _ _ _) (first | (go_at_call 40; rw [hW5.out]; refine hcl5.out.mono ?_; rintro e w6 ⟨⟨g, v, rfl, hr6, hf6, ht6⟩, hb6⟩; have Hb6 := Lib.hid hb6; obtain ⟨A6, n6, d6, A7, n7, d7, rfl, hr7⟩ := hr6; have Hr := Lib.hid hr7; have Hf6 := Lib.hid hf6; have Ht6 := Lib.hid ht6; have Ht7 := Lib.hid (h5.out.2.trans ht6); clear hr7 hf6 ht6 hb6; have k6 := hc.out.at_ Ht7.out; have s0 := tri_cell k6.2.1; have sf := fun i => d_frozen (i := i) k6.2.1; have kk6 := Lib.hid (hc.out.cells Ht7.out (i := 8) rfl); have kk7 := Lib.hid (fun x y z => hc.out.cells2 Ht7.out (i := 8) rfl x y z); clear k6))
  go_wp2
  refine ret_res rfl R _ _ _ _ (0, 0) rfl (tri_set _ _ _ (hc.out.at_ Ht7.out).2.1) rfl ?_
  exact ⟨⟨g, hc.out.done h5.out.2 Ht6.out Hf6.out _ _ _ ⟨A6, n6, d6, A7, n7, d7, rfl, Hr.out⟩⟩, hcb.out.low (hc.out.below.trans ((hb5.out.trans (Hb6.out.mono hb5.out.size)).mono hc.out.below.size)) _ _ _⟩
def DnP (w0 w : World) (Y : Nat → Prop) (F N : Nat) (r : OutF) (e : Ending) (w' : World) : Prop :=
  ∃ v Y', e = .returned v ∧ ReV w' w.heap.size v r.2.1 r.2.2.1 r.2.2.2 ∧ FS w0 Y' F r.1 N w' ∧ Touch (Fr w0 Y) w w' ∧ (∀ b, Y b → Y' b) ∧ (∀ b, Y' b → Y b ∨ w.heap.size ≤ b) ∧ ((r.2.2.1 = [] ∧ r.2.2.2 = []) ∨ ∀ g, w.heap.size ≤ g → g < w'.heap.size → Y' g)
theorem Dn.none {r : OutF} {e : Ending} (h : Dn w0 w Y F N r e w') (h1 : r.2.2.1 = []) (h2 : r.2.2.2 = []) : DnP w0 w Y F N r e w' := by
  obtain ⟨v, h3, h4, h5, h6⟩ := h
  exact ⟨v, Y, h3, h4, h5, h6, fun _ h => h, fun _ h => .inl h, .inl ⟨h1, h2⟩⟩
theorem Dn.own {r : OutF} {e : Ending} (h : Dn w0 w Y F N r e w') (hb : Below w.heap.size w w') (hs : r.1 = s) (hN : M ≤ N) (hf : FS w0 Y F s M w) : DnP w0 w Y F N r e w' := by
  obtain ⟨v, h3, h4, _, h6⟩ := h
  refine ⟨v, fun b => Y b ∨ (w.heap.size ≤ b ∧ b < w'.heap.size), h3, h4, ?_, h6, fun _ h => .inl h, fun _ h => h.imp id And.left, .inr fun g h1 h2 => .inr ⟨h1, h2⟩⟩
  rw [hs]
  exact (hf.more hb fun k hk => hk).mono hN
theorem Fo.doC_none {g kk : Nat} {n t l : List UInt8} (h7 : kk ≠ 7) (h8 : kk ≠ 8) : (s.doC g kk n t l).2.2.1 = [] ∧ (s.doC g kk n t l).2.2.2 = [] := by
  match kk with
  | 0 => exact ⟨rfl, rfl⟩
  | 1 =>
    show (s.doCreate g n).2.2.1 = [] ∧ (s.doCreate g n).2.2.2 = []
    unfold Fo.doCreate
    split <;> exact ⟨rfl, rfl⟩
  | 2 =>
    show (s.doWrite n l).2.2.1 = [] ∧ (s.doWrite n l).2.2.2 = []
    unfold Fo.doWrite
    split <;> first | exact ⟨rfl, rfl⟩ | (split <;> exact ⟨rfl, rfl⟩)
  | 3 =>
    show (s.doFsync n).2.2.1 = [] ∧ (s.doFsync n).2.2.2 = []
    unfold Fo.doFsync
    split <;> first | exact ⟨rfl, rfl⟩ | (split <;> exact ⟨rfl, rfl⟩)
  | 4 => exact ⟨rfl, rfl⟩
  | 5 =>
    show (s.doLink n t).2.2.1 = [] ∧ (s.doLink n t).2.2.2 = []
    unfold Fo.doLink
    split <;> first | exact ⟨rfl, rfl⟩ | (split <;> exact ⟨rfl, rfl⟩)
  | 6 => exact ⟨rfl, rfl⟩
  | 7 => exact absurd rfl h7
  | 8 => exact absurd rfl h8
  | j + 9 => exact ⟨rfl, rfl⟩
theorem fdoP_any (h : FS w0 Y F s N w) (hN : N ≤ 880) {kk : Nat} (hk : kk ≤ 255) {n t : List UInt8} (hn : n.length ≤ 1000) (ht : t.length ≤ 1000) {Ab : Option Addr} {cb nl Bb : Nat} {l : List UInt8} (hnl : l.length = nl) (hl : nl ≤ 60) (hB : Bb ≤ w.heap.size) (hr : RdB w Bb Ab l) (hpos : ∀ e ∈ s.d.now, 0 ≤ e.2) :
    Calls Tryz.prog 13 #[.pointer (some ⟨F, 0, none⟩), .agg #[.int .u8 (kk : Int), .string (txt n), .string (txt t), .slice Ab nl cb]] w fun e w' => ∃ g, DnP w0 w Y F (N + 2) (s.doC g kk n t l) e w' := by
  have hbs : ∃ A n c, (Value.slice Ab nl cb) = .slice A n c := ⟨_, _, _, rfl⟩
  by_cases h7 : kk = 7
  · subst h7
    refine (fdo7B_any (out := fun _ => s.doC 0 7 n t l) h fun B R L W4 hb W5 hb5 h5 => (freaddirB_any h5 (by omega) _ n t _ hbs).mono fun e w' hd => ⟨⟨0, hd.1.mono (by omega)⟩, hd.2⟩).mono fun e w' hd => ?_
    obtain ⟨⟨_, hd⟩, hb⟩ := hd
    exact ⟨0, hd.own hb rfl (by omega) h⟩
  · by_cases h8 : kk = 8
    · subst h8
      refine (fdo8B_any (out := fun _ => s.doC 0 8 n t l) h fun B R L W4 hb W5 hb5 h5 => (freadB_any h5 (by omega) _ n t hn _ hbs).mono fun e w' hd => ⟨⟨0, hd.1.mono (by omega)⟩, hd.2⟩).mono fun e w' hd => ?_
      obtain ⟨⟨_, hd⟩, hb⟩ := hd
      refine ⟨0, hd.own hb ?_ (by omega) h⟩
      show (s.doRead n).1 = s
      unfold Fo.doRead
      split <;> rfl
    · refine (fdo_any h hN hk hn ht hnl hl hB hr hpos).mono fun e w' hd => ?_
      obtain ⟨g, hd⟩ := hd
      obtain ⟨e1, e2⟩ := Fo.doC_none (s := s) (g := g) (n := n) (t := t) (l := l) h7 h8
      exact ⟨g, hd.none e1 e2⟩
end
end Go.Proofs.YtbhmnmmockmibaaGreat
