/- A call's box and its answer's; the walks of write, fsync, unlink, create, link. Conditions: at most 900 calls; names of at most 1000 bytes, 60 bytes written. The walks of create, link, read. Conditions: at most 900 calls; names of at most 1000 bytes. The walks of read, readdir, fsyncDir. -/
import Derived.Test.YtbhmnmmockmibaaGreatKpFoF
import Derived.Deep.RegionHeld3
namespace Go.Proofs.YtbhmnmmockmibaaGreat
open Go.RowKit Go.Maps
theorem size_res : (Tryz.prog.info? 51).map (·.size) = some 3 := by kernel_rfl
theorem ret_res {fn : Func} {R : Ending → World → Prop} {p : Tmp} (h : fn.results = #[.cell p 51]) {a : Act} {w : World} (g : Nat) (x y z : Value) (t : TypeId) (fr : Nat × Nat)
    (hp : a.tmps.getD p undef = .pointer (some ⟨g, 0, none⟩)) (hg : w.heap[g]? = some (.cells #[x, y, z] t fr)) (hd : a.defers = []) (hR : R (.returned (.agg #[x, y, z])) w) : bodyPost Tryz.prog fn R .ret a w := by
  refine bodyPost_ret (v := .agg #[x, y, z]) ?_ hd hR
  have hp' : a.tmps[p]?.getD undef = .pointer (some ⟨g, 0, none⟩) := by simpa using hp
  have hty := run_loadVar_row (P := Tryz.prog) w g t 51 #[x, y, z] fr _ hg Tryz.underlying51 rfl size_res
  simp [results, h, hp', asAddr, hty]
theorem tri_cell {w : World} {g : Nat} {x y z : Value} {T : TypeId} (h : w.heap[g]? = some (.cells #[x, y, z] T (0, 0))) : w.cell? ⟨g, 0, none⟩ = some x ∧ w.cell? ⟨g, 1, none⟩ = some y ∧ w.cell? ⟨g, 2, none⟩ = some z :=
  ⟨by rw [cell_of_row w g 0 _ _ _ h]; rfl, by rw [cell_of_row w g 1 _ _ _ h]; rfl, by rw [cell_of_row w g 2 _ _ _ h]; rfl⟩
theorem quad_cell {w : World} {g : Nat} {x y z u : Value} {T : TypeId} (h : w.heap[g]? = some (.cells #[x, y, z, u] T (0, 0))) : w.cell? ⟨g, 0, none⟩ = some x ∧ w.cell? ⟨g, 1, none⟩ = some y ∧ w.cell? ⟨g, 2, none⟩ = some z ∧ w.cell? ⟨g, 3, none⟩ = some u :=
  ⟨by rw [cell_of_row w g 0 _ _ _ h]; rfl, by rw [cell_of_row w g 1 _ _ _ h]; rfl, by rw [cell_of_row w g 2 _ _ _ h]; rfl, by rw [cell_of_row w g 3 _ _ _ h]; rfl⟩
theorem tri_set {w : World} {g : Nat} {x y z : Value} {t : TypeId} (a b c : Value) (h : w.heap[g]? = some (.cells #[x, y, z] t (0, 0))) : (((w.setCell ⟨g, 0, none⟩ a).setCell ⟨g, 1, none⟩ b).setCell ⟨g, 2, none⟩ c).heap[g]? = some (.cells #[a, b, c] t (0, 0)) := by
  have h1 := heap_setCell_same w g 0 _ t a h
  have h2 := heap_setCell_same _ g 1 _ t b h1
  have h3 := heap_setCell_same _ g 2 _ t c h2
  exact h3
theorem Touch.tri (w : World) (g : Nat) (a b c : Value) : Touch (fun k => k = g) w (((w.setCell ⟨g, 0, none⟩ a).setCell ⟨g, 1, none⟩ b).setCell ⟨g, 2, none⟩ c) :=
  ((Touch.cell1 w g 0 a).trans (Touch.cell1 _ g 1 b)).trans (Touch.cell1 _ g 2 c)
structure Cb (w W : World) (B R : Nat) (k nm tt by_ : Value) : Prop where
  call : W.heap[B]? = some (.cells #[k, nm, tt, by_] 40 (0, 0))
  res : W.heap[R]? = some (.cells #[.int .i64 0, .slice none 0 0, .slice none 0 0] 51 (0, 0))
  below : Below w.heap.size w W
  b : w.heap.size = B
  r : w.heap.size + 1 = R
  size : W.heap.size = w.heap.size + 2
abbrev YB (Y : Nat → Prop) (B R : Nat) : Nat → Prop := fun b => Y b ∨ b = B ∨ b = R
theorem Cb.of {w W : World} {B R : Nat} {k nm tt by_ : Value} (hW : (w.alloc (.cells #[k, nm, tt, by_] 40)).alloc (.cells #[.int .i64 0, .slice none 0 0, .slice none 0 0] 51) = W) (h0 : w.heap.size = B) (h1 : w.heap.size + 1 = R) : Cb w W B R k nm tt by_ := by
  subst hW h0 h1
  have hs : (w.alloc (.cells #[k, nm, tt, by_] 40)).heap.size = w.heap.size + 1 := by simp
  refine ⟨?_, ?_, (below_new _ _).alloc (by simp) _, rfl, rfl, by simp⟩
  · rw [heap_alloc_old _ _ (by rw [hs]; omega)]
    exact heap_alloc_new _ _
  · have := heap_alloc_new (w.alloc (.cells #[k, nm, tt, by_] 40)) (.cells #[.int .i64 0, .slice none 0 0, .slice none 0 0] 51)
    rw [hs] at this
    exact this
def ReV (w : World) (base : Nat) (v : Value) (e : Int) (ns : List (List UInt8)) (b : List UInt8) : Prop :=
  ∃ A n c A' n' c', v = .agg #[.int .i64 e, .slice A n c, .slice A' n' c'] ∧ w.ownsRow base 9 1 (.slice A n c) ns.length (ns.map fun k => .string (txt k)) ∧ n = ns.length ∧ w.ownsRow base 5 1 (.slice A' n' c') b.length (bs b) ∧ n' = b.length
theorem ReV.err (w : World) (base : Nat) (e : Int) : ReV w base (.agg #[.int .i64 e, .slice none 0 0, .slice none 0 0]) e [] [] :=
  ⟨none, 0, 0, none, 0, 0, rfl, World.ownsRow_nil _ _ _ _, rfl, World.ownsRow_nil _ _ _ _, rfl⟩
abbrev OutF := Fo × Int × List (List UInt8) × List UInt8
def Dn (w0 w : World) (Y : Nat → Prop) (F N : Nat) (r : OutF) (e : Ending) (w' : World) : Prop := ∃ v, e = .returned v ∧ ReV w' w.heap.size v r.2.1 r.2.2.1 r.2.2.2 ∧ FS w0 Y F r.1 N w' ∧ Touch (Fr w0 Y) w w'
section
variable {w0 w w' W : World} {Y Y' : Nat → Prop} {F N M B R : Nat} {s s' : Fo} {k nm tt by_ : Value}
theorem Cb.enter (hc : Cb w W B R k nm tt by_) (h : FS w0 Y F s N w) : FS w0 (YB Y B R) F s N W :=
  h.more hc.below fun b hb => hb.imp id fun e => by
    have h1 := hc.size
    have h2 := hc.b
    have h3 := hc.r
    rcases e with e | e <;> omega
theorem Cb.at_ (hc : Cb w W B R k nm tt by_) {w1 : World} (ht : Touch (Fr w0 (YB Y B R)) W w1) : w1.heap[B]? = some (.cells #[k, nm, tt, by_] 40 (0, 0)) ∧ w1.heap[R]? = some (.cells #[.int .i64 0, .slice none 0 0, .slice none 0 0] 51 (0, 0)) :=
  ⟨ht.heap (fun e => e.2 (.inr (.inl rfl))) hc.call, ht.heap (fun e => e.2 (.inr (.inr rfl))) hc.res⟩
theorem Cb.done (hc : Cb w W B R k nm tt by_) {w1 : World} {r : OutF} (ht : Touch (Fr w0 (YB Y B R)) W w1) (h1 : FS w0 (YB Y B R) F r.1 N w1) (x y z : Value) (hr : ∀ w2, Touch (fun b => b = R) w1 w2 → ReV w2 w.heap.size (.agg #[x, y, z]) r.2.1 r.2.2.1 r.2.2.2) :
    Dn w0 w Y F N r (.returned (.agg #[x, y, z])) (((w1.setCell ⟨R, 0, none⟩ x).setCell ⟨R, 1, none⟩ y).setCell ⟨R, 2, none⟩ z) := by
  have ht3 := Touch.tri w1 R x y z
  refine ⟨_, rfl, hr _ ht3, (h1.write (ht3.mono fun b _ e => .inr (.inr e))).weak fun b hb => .inl hb, ?_⟩
  refine ((Touch.of (X := Fr w0 Y) hc.below).then_ ht fun b _ e => Fr.weak (fun _ e => .inl e) e).then_ ht3 fun b hb e => ?_
  have := hc.r
  omega
theorem Cb.err (hc : Cb w W B R k nm tt by_) {w1 : World} {er : Int} (ht : Touch (Fr w0 (YB Y B R)) W w1) (h1 : FS w0 (YB Y B R) F s N w1) :
    Dn w0 w Y F N (s, er, [], []) (.returned (.agg #[.int .i64 er, .slice none 0 0, .slice none 0 0])) (((w1.setCell ⟨R, 0, none⟩ (.int .i64 er)).setCell ⟨R, 1, none⟩ (.slice none 0 0)).setCell ⟨R, 2, none⟩ (.slice none 0 0)) :=
  hc.done (r := (s, er, [], [])) ht h1 _ _ _ fun w2 _ => ReV.err w2 _ er
theorem Cb.kept (hc : Cb w W B R k nm tt by_) {w1 : World} (ht : Touch (Fr w0 (YB Y B R)) W w1) (x y z : Value) : ((((w1.setCell ⟨R, 0, none⟩ x).setCell ⟨R, 1, none⟩ y).setCell ⟨R, 2, none⟩ z).heap[B]? = some (.cells #[k, nm, tt, by_] 40 (0, 0))) :=
  (Touch.tri w1 R x y z).heap (show ¬ B = R by have := hc.b; have := hc.r; omega) (hc.at_ ht).1
theorem FS.drewN (h : FS w0 Y F s N w) (n : Nat) : FS w0 Y F s N (w.drewN n) := (h.quiet (below_drewN (Below.refl _ _) n)).1
def Fo.doWrite (s : Fo) (k by_ : List UInt8) : OutF := match getE s.d.now k with
  | none => (s, 80, [], [])
  | some v => ({ s with fs := (doApp s.q s.fs v by_).1 }, (doApp s.q s.fs v by_).2, [], [])
set_option maxHeartbeats 2000000 in
set_option maxRecDepth 100000 in
theorem fwrite_any (h : FS w0 Y F s N w) (hN : N ≤ 900) (k : Value) (n t : List UInt8) (hn : n.length ≤ 1000) {Ab : Option Addr} {cb nl Bb : Nat} {l : List UInt8} (hnl : l.length = nl) (hl : nl ≤ 60) (hB : Bb ≤ w.heap.size) (hr : RdB w Bb Ab l) :
    Calls Tryz.prog 34 #[.pointer (some ⟨F, 0, none⟩), .agg #[k, .string (txt n), .string (txt t), .slice Ab nl cb]] w fun e w' => Dn w0 w Y F (N + 1) (s.doWrite n l) e w' := by
  obtain ⟨W, hW⟩ : ∃ W, Hid ((w.alloc (.cells #[k, .string (txt n), .string (txt t), .slice Ab nl cb] 40)).alloc (.cells #[.int .i64 0, .slice none 0 0, .slice none 0 0] 51) = W) := ⟨_, rfl⟩
  obtain ⟨B, hb⟩ : ∃ B, Hid (w.heap.size = B) := ⟨_, rfl⟩
  obtain ⟨R, hR⟩ : ∃ R, Hid (w.heap.size + 1 = R) := ⟨_, rfl⟩
  have hc := Lib.hid (Cb.of hW.out hb.out hR.out)
  have h1 := Lib.hid (hc.out.enter h)
  have hf := Lib.hid (fun m => (h1.out.drewN m).nfind n hn)
  have hrW := Lib.hid (Reads.below hr (hc.out.below.mono hB))
  obtain ⟨c0, c1, c2, c3⟩ := quad_cell hc.out.call
  have r0 := tri_cell hc.out.res
  have rf := fun i => d_frozen (i := i) hc.out.res
  clear h hr
  unfold Fo.doWrite
  cases hg : getE s.d.now n with
  | none =>
    have ef : s.find n = (0, 80) := ((s.find_has n).2 (getE_none hg)).2
    rw [ef] at hf
    clear hg ef
    go_enter Tryz.func34, Tryz.ntmps34
    go_upto_region 1 with fail
    rw [hW.out, hR.out, hb.out]
    go_quiet (first | (go_at_call 72; refine Calls.quiet_of_same (hf.out _)))
    go_wp2
    have ht : Touch (Fr w0 (YB Y B R)) W (W.drewN nq) := .of (below_drewN (Below.refl _ _) _)
    refine ret_res rfl R _ _ _ _ (0, 0) rfl (tri_set _ _ _ (hc.out.at_ ht).2) rfl ?_
    exact hc.out.err ht ((h1.out.drewN _).mono (by omega))
  | some v =>
    have ef : s.find n = (v, 0) := by obtain ⟨v', e1, e2⟩ := (s.find_has n).1 (by rw [← getE_has, hg]; rfl); rw [hg] at e1; injection e1 with e1; rw [e1]; exact e2
    rw [ef] at hf
    have hv := (h1.out.ok.d.now.2 _ (getE_some hg)).v
    clear hg ef
    go_enter Tryz.func34, Tryz.ntmps34
    go_upto_region 1 with fail
    rw [hW.out, hR.out, hb.out]
    go_quiet (first | (go_at_call 72; refine Calls.quiet_of_same (hf.out _)))
    go_upto_region 4 with fail
    obtain ⟨W2, hW2⟩ : ∃ W2, Hid (W.drewN (nq + 1) = W2) := ⟨_, rfl⟩
    have hb2 : Hid (Below W.heap.size W W2) := by rw [← hW2.out]; exact below_drewN (Below.refl _ _) _
    have h2 := Lib.hid (h1.out.quiet hb2.out)
    have happ := Lib.hid (h2.out.1.tapp (Ab := Ab) (cb := cb) (B := Bb) hN hv hnl hl (by have := hb2.out.size; have := hc.out.below.size; omega) (Reads.below hrW.out (hb2.out.mono (by have := hc.out.below.size; omega))))
    go_region_held3 (fun wx => wx.cell? ⟨B, 3, none⟩ = some (.slice Ab nl cb)) (first | exact c3 | exact d3 | exact (quad_cell (hc.out.kept Ht3.out _ _ _)).2.2.2) (first | (go_at_call 73; rw [hW2.out]; refine happ.out.mono ?_; rintro e w3 ⟨rfl, hf3, ht3⟩; have Hf3 := Lib.hid hf3; have Ht3 := Lib.hid (h2.out.2.trans ht3); clear hf3 ht3; have d3 := (quad_cell (hc.out.at_ Ht3.out).1).2.2.2; have s0 := tri_cell (hc.out.at_ Ht3.out).2; have sf := fun i => d_frozen (i := i) (hc.out.at_ Ht3.out).2))
    go_wp2
    refine ret_res rfl R _ _ _ _ (0, 0) rfl (tri_set _ _ _ (hc.out.at_ Ht3.out).2) rfl ?_
    exact hc.out.done (r := ({ s with fs := _ }, _, [], [])) Ht3.out Hf3.out _ _ _ fun w2 _ => ReV.err w2 _ _
def Fo.doFsync (s : Fo) (k : List UInt8) : OutF := match getE s.d.now k with
  | none => (s, 80, [], [])
  | some v => ({ s with fs := (doSync s.fs v).1 }, (doSync s.fs v).2, [], [])
set_option maxHeartbeats 2000000 in
set_option maxRecDepth 100000 in
theorem ffsync_any (h : FS w0 Y F s N w) (hN : N ≤ 900) (k : Value) (n t : List UInt8) (hn : n.length ≤ 1000) (b : Value) (hb1 : ∃ A n c, b = .slice A n c) :
    Calls Tryz.prog 35 #[.pointer (some ⟨F, 0, none⟩), .agg #[k, .string (txt n), .string (txt t), b]] w fun e w' => Dn w0 w Y F N (s.doFsync n) e w' := by
  obtain ⟨Ab, nl, cb, rfl⟩ := hb1
  obtain ⟨W, hW⟩ : ∃ W, Hid ((w.alloc (.cells #[k, .string (txt n), .string (txt t), .slice Ab nl cb] 40)).alloc (.cells #[.int .i64 0, .slice none 0 0, .slice none 0 0] 51) = W) := ⟨_, rfl⟩
  obtain ⟨B, hb⟩ : ∃ B, Hid (w.heap.size = B) := ⟨_, rfl⟩
  obtain ⟨R, hR⟩ : ∃ R, Hid (w.heap.size + 1 = R) := ⟨_, rfl⟩
  have hc := Lib.hid (Cb.of hW.out hb.out hR.out)
  have h1 := Lib.hid (hc.out.enter h)
  obtain ⟨c0, c1, c2, c3⟩ := quad_cell hc.out.call
  have r0 := tri_cell hc.out.res
  have rf := fun i => d_frozen (i := i) hc.out.res
  clear h
  have hf := Lib.hid (fun m => (h1.out.drewN m).nfind n hn)
  unfold Fo.doFsync
  cases hg : getE s.d.now n with
  | none =>
    have ef : s.find n = (0, 80) := ((s.find_has n).2 (getE_none hg)).2
    rw [ef] at hf
    clear hg ef
    go_enter Tryz.func35, Tryz.ntmps35
    go_upto_region 1 with fail
    rw [hW.out, hR.out, hb.out]
    go_quiet (first | (go_at_call 72; refine Calls.quiet_of_same (hf.out _)))
    go_wp2
    have ht : Touch (Fr w0 (YB Y B R)) W (W.drewN nq) := .of (below_drewN (Below.refl _ _) _)
    refine ret_res rfl R _ _ _ _ (0, 0) rfl (tri_set _ _ _ (hc.out.at_ ht).2) rfl ?_
    exact hc.out.err ht ((h1.out.drewN _).mono (by omega))
  | some v =>
    have ef : s.find n = (v, 0) := by obtain ⟨v', e1, e2⟩ := (s.find_has n).1 (by rw [← getE_has, hg]; rfl); rw [hg] at e1; injection e1 with e1; rw [e1]; exact e2
    rw [ef] at hf
    have hv := (h1.out.ok.d.now.2 _ (getE_some hg)).v
    clear hg ef
    go_enter Tryz.func35, Tryz.ntmps35
    go_upto_region 1 with fail
    rw [hW.out, hR.out, hb.out]
    go_quiet (first | (go_at_call 72; refine Calls.quiet_of_same (hf.out _)))
    obtain ⟨W2, hW2⟩ : ∃ W2, Hid (W.drewN nq = W2) := ⟨_, rfl⟩
    have hb2 : Hid (Below W.heap.size W W2) := by rw [← hW2.out]; exact below_drewN (Below.refl _ _) _
    have h2 := Lib.hid (h1.out.quiet hb2.out)
    have hs := Lib.hid (h2.out.1.tsync hN hv)
    go_wp2_with (first | (go_at_call 74; rw [hW2.out]; refine hs.out.mono ?_; rintro e w3 ⟨rfl, hf3, ht3⟩; have Hf3 := Lib.hid hf3; have Ht3 := Lib.hid (h2.out.2.trans ht3); clear hf3 ht3; have s0 := tri_cell (hc.out.at_ Ht3.out).2; have sf := fun i => d_frozen (i := i) (hc.out.at_ Ht3.out).2))
    refine ret_res rfl R _ _ _ _ (0, 0) rfl (tri_set _ _ _ (hc.out.at_ Ht3.out).2) rfl ?_
    exact hc.out.done (r := ({ s with fs := _ }, _, [], [])) Ht3.out Hf3.out _ _ _ fun w2 _ => ReV.err w2 _ _
set_option maxHeartbeats 2000000 in
set_option maxRecDepth 100000 in
theorem funlink_any (h : FS w0 Y F s N w) (hN : N ≤ 900) (k : Value) (n t : List UInt8) (hn : n.length ≤ 1000) (b : Value) (hb1 : ∃ A n c, b = .slice A n c) :
    Calls Tryz.prog 38 #[.pointer (some ⟨F, 0, none⟩), .agg #[k, .string (txt n), .string (txt t), b]] w fun e w' => Dn w0 w Y F (N + 1) ((s.doTake n).1, (s.doTake n).2, [], []) e w' := by
  obtain ⟨Ab, nl, cb, rfl⟩ := hb1
  obtain ⟨W, hW⟩ : ∃ W, Hid ((w.alloc (.cells #[k, .string (txt n), .string (txt t), .slice Ab nl cb] 40)).alloc (.cells #[.int .i64 0, .slice none 0 0, .slice none 0 0] 51) = W) := ⟨_, rfl⟩
  obtain ⟨B, hb⟩ : ∃ B, Hid (w.heap.size = B) := ⟨_, rfl⟩
  obtain ⟨R, hR⟩ : ∃ R, Hid (w.heap.size + 1 = R) := ⟨_, rfl⟩
  have hc := Lib.hid (Cb.of hW.out hb.out hR.out)
  have h1 := Lib.hid (hc.out.enter h)
  obtain ⟨c0, c1, c2, c3⟩ := quad_cell hc.out.call
  have r0 := tri_cell hc.out.res
  have rf := fun i => d_frozen (i := i) hc.out.res
  clear h
  obtain ⟨W2, hW2⟩ : ∃ W2, Hid (W.drew = W2) := ⟨_, rfl⟩
  have hb2 : Hid (Below W.heap.size W W2) := by rw [← hW2.out]; exact (Below.refl _ _).drew
  have h2 := Lib.hid (h1.out.quiet hb2.out)
  have ht := Lib.hid (h2.out.1.ntake hN n hn)
  go_enter Tryz.func38, Tryz.ntmps38
  go_upto_region 1 with fail
  rw [hW.out, hR.out, hb.out]
  go_region_held3 (fun wx => wx.cell? ⟨B, 1, none⟩ = some (.string (txt n))) (first | exact c1 | exact d3 | exact (quad_cell (hc.out.kept Ht3.out _ _ _)).2.1) (first | (go_at_call 77; rw [hW2.out]; refine ht.out.mono ?_; rintro e w3 ⟨rfl, hf3, ht3⟩; have Hf3 := Lib.hid hf3; have Ht3 := Lib.hid (h2.out.2.trans ht3); clear hf3 ht3; have d3 := (quad_cell (hc.out.at_ Ht3.out).1).2.1; have s0 := tri_cell (hc.out.at_ Ht3.out).2; have sf := fun i => d_frozen (i := i) (hc.out.at_ Ht3.out).2))
  go_wp2
  refine ret_res rfl R _ _ _ _ (0, 0) rfl (tri_set _ _ _ (hc.out.at_ Ht3.out).2) rfl ?_
  exact hc.out.done (r := (_, _, [], [])) Ht3.out Hf3.out _ _ _ fun w2 _ => ReV.err w2 _ _
end
end Go.Proofs.YtbhmnmmockmibaaGreat

namespace Go.Proofs.YtbhmnmmockmibaaGreat
open Go.RowKit Go.Maps
theorem Fo.may_zero {s : Fo} {k : List UInt8} (h : s.may k = 0) : k ≠ [] ∧ hasE s.d.now k = false := by
  unfold Fo.may at h
  by_cases h1 : k = []
  · rw [if_pos h1] at h; cases h
  · rw [if_neg h1] at h
    by_cases h2 : hasE s.d.now k = true
    · rw [if_pos h2] at h; cases h
    · exact ⟨h1, by simpa using h2⟩
section
variable {w0 w w' W : World} {Y Y' : Nat → Prop} {F N M B R : Nat} {s s' : Fo}
def Fo.create (s : Fo) (g : Nat) (n : List UInt8) : Fo := { s with d := s.d.addE n ((s.made : Int) + 1), many := s.many + 1, made := s.made + 1, fs := (doLink (s.fs ++ [⟨(s.made : Int) + 1, g, 0, []⟩]) ((s.made : Int) + 1)).1 }
def Fo.doCreate (s : Fo) (g : Nat) (n : List UInt8) : OutF := if s.may n = 0 then (s.create g n, 0, [], []) else (s, s.may n, [], [])
set_option maxHeartbeats 2000000 in
set_option maxRecDepth 100000 in
theorem fcreate_any (h : FS w0 Y F s N w) (hN : N ≤ 890) (k : Value) (n t : List UInt8) (hn : n.length ≤ 1000) (b : Value) (hb1 : ∃ A n c, b = .slice A n c) :
    Calls Tryz.prog 33 #[.pointer (some ⟨F, 0, none⟩), .agg #[k, .string (txt n), .string (txt t), b]] w fun e w' => ∃ g, Dn w0 w Y F (N + 2) (s.doCreate g n) e w' := by
  obtain ⟨Ab, nl, cb, rfl⟩ := hb1
  obtain ⟨W, hW⟩ : ∃ W, Hid ((w.alloc (.cells #[k, .string (txt n), .string (txt t), .slice Ab nl cb] 40)).alloc (.cells #[.int .i64 0, .slice none 0 0, .slice none 0 0] 51) = W) := ⟨_, rfl⟩
  obtain ⟨B, hb⟩ : ∃ B, Hid (w.heap.size = B) := ⟨_, rfl⟩
  obtain ⟨R, hR⟩ : ∃ R, Hid (w.heap.size + 1 = R) := ⟨_, rfl⟩
  have hc := Lib.hid (Cb.of hW.out hb.out hR.out)
  have h1 := Lib.hid (hc.out.enter h)
  obtain ⟨c0, c1, c2, c3⟩ := quad_cell hc.out.call
  have r0 := tri_cell hc.out.res
  have rf := fun i => d_frozen (i := i) hc.out.res
  clear h
  have hm := Lib.hid (fun m => (h1.out.drewN m).nmay n hn)
  by_cases hz : s.may n = 0
  · obtain ⟨hne, hno⟩ := Fo.may_zero hz
    rw [hz] at hm
    have hcr : ∀ g, s.doCreate g n = (s.create g n, 0, [], []) := fun g => if_pos hz
    simp only [hcr]
    clear hcr
    have hmd := (h1.out.ok.t ⟨.map none, .map none, .map none, .map none, .map none⟩ none).made
    have hmdI : (s.made : Int) ≤ 900 := by have : s.made ≤ N := hmd; omega
    have hsz : Hid (SzD (n, (s.made : Int) + 1)) := ⟨hn, by show _ ≤ (s.made : Int) + 1 ∧ (s.made : Int) + 1 ≤ _; omega⟩
    have Hne := Lib.hid hne
    have Hno := Lib.hid hno
    have Hmd := Lib.hid hmdI
    clear hz hne hno hmd
    obtain ⟨md, hmd⟩ : ∃ md : Int, Hid ((s.made : Int) + 1 = md) := ⟨_, rfl⟩
    go_enter Tryz.func33, Tryz.ntmps33
    go_upto_region 1 with fail
    rw [hW.out, hR.out, hb.out]
    go_quiet (first | (go_at_call 69; refine Calls.quiet_of (hm.out _)))
    obtain ⟨W2, hW2⟩ : ∃ W2, Hid (W.drewN nq = W2) := ⟨_, rfl⟩
    have hb2 : Hid (Below W.heap.size W W2) := by rw [← hW2.out]; exact below_drewN (Below.refl _ _) _
    have h2 := Lib.hid (h1.out.quiet hb2.out)
    have hmk := Lib.hid (h2.out.1.tmake (by omega))
    rw [hmd.out] at hmk
    go_upto_region 5 with (first | (go_at_call 70; rw [hW2.out]; refine hmk.out.mono ?_; rintro e w3 ⟨rfl, g, hf3, ht3⟩; have Hf3 := Lib.hid hf3; have Ht3 := Lib.hid (h2.out.2.trans ht3); clear hf3 ht3; have c1' := (quad_cell (hc.out.at_ Ht3.out).1).2.1))
    have hnm := Lib.hid (Hf3.out.fname (N := N + 1) (by omega) n ((s.made : Int) + 1) hsz.out Hne.out (by have := Hmd.out; omega) Hno.out)
    rw [hmd.out] at hnm
    go_wp2_with (first | (go_at_call 71; refine hnm.out.mono ?_; rintro e w4 ⟨rfl, hf4, ht4⟩; have Hf4 := Lib.hid hf4; have Ht4 := Lib.hid (Ht3.out.trans ht4); clear hf4 ht4; have s0 := tri_cell (hc.out.at_ Ht4.out).2; have sf := fun i => d_frozen (i := i) (hc.out.at_ Ht4.out).2))
    refine ret_res rfl R _ _ _ _ (0, 0) rfl (tri_set _ _ _ (hc.out.at_ Ht4.out).2) rfl ?_
    refine ⟨g, ?_⟩
    have Hf5 := Hf4.out
    rw [← hmd.out] at Hf5
    exact hc.out.done (r := (s.create g n, 0, [], [])) Ht4.out Hf5 _ _ _ fun w2 _ => ReV.err w2 _ _
  · have hcr : ∀ g, s.doCreate g n = (s, s.may n, [], []) := fun g => if_neg hz
    simp only [hcr]
    clear hcr
    obtain ⟨er, her⟩ : ∃ er, Hid (s.may n = er) := ⟨_, rfl⟩
    rw [her.out] at hm hz ⊢
    have hd : decide (er = 0) = false := decide_eq_false hz
    go_enter Tryz.func33, Tryz.ntmps33
    go_upto_region 1 with fail
    rw [hW.out, hR.out, hb.out]
    go_quiet (first | (go_at_call 69; refine Calls.quiet_of (hm.out _)))
    go_wp2
    have ht : Touch (Fr w0 (YB Y B R)) W (W.drewN nq) := .of (below_drewN (Below.refl _ _) _)
    refine ret_res rfl R _ _ _ _ (0, 0) rfl (tri_set _ _ _ (hc.out.at_ ht).2) rfl ?_
    exact ⟨0, hc.out.err ht ((h1.out.drewN _).mono (by omega))⟩
def Fo.doLink (s : Fo) (n t : List UInt8) : OutF := match getE s.d.now n with
  | none => (s, 80, [], [])
  | some v => if s.may t = 0 then ({ s with d := s.d.addE t v, many := s.many + 1, fs := (Proofs.YtbhmnmmockmibaaGreat.doLink s.fs v).1 }, 0, [], []) else (s, s.may t, [], [])
set_option maxHeartbeats 2000000 in
set_option maxRecDepth 100000 in
theorem flink_any (h : FS w0 Y F s N w) (hN : N ≤ 900) (k : Value) (n t : List UInt8) (hn : n.length ≤ 1000) (ht : t.length ≤ 1000) (b : Value) (hb1 : ∃ A n c, b = .slice A n c) (hpos : ∀ e ∈ s.d.now, 0 ≤ e.2) :
    Calls Tryz.prog 37 #[.pointer (some ⟨F, 0, none⟩), .agg #[k, .string (txt n), .string (txt t), b]] w fun e w' => Dn w0 w Y F (N + 1) (s.doLink n t) e w' := by
  obtain ⟨Ab, nl, cb, rfl⟩ := hb1
  obtain ⟨W, hW⟩ : ∃ W, Hid ((w.alloc (.cells #[k, .string (txt n), .string (txt t), .slice Ab nl cb] 40)).alloc (.cells #[.int .i64 0, .slice none 0 0, .slice none 0 0] 51) = W) := ⟨_, rfl⟩
  obtain ⟨B, hb⟩ : ∃ B, Hid (w.heap.size = B) := ⟨_, rfl⟩
  obtain ⟨R, hR⟩ : ∃ R, Hid (w.heap.size + 1 = R) := ⟨_, rfl⟩
  have hc := Lib.hid (Cb.of hW.out hb.out hR.out)
  have h1 := Lib.hid (hc.out.enter h)
  obtain ⟨c0, c1, c2, c3⟩ := quad_cell hc.out.call
  have r0 := tri_cell hc.out.res
  have rf := fun i => d_frozen (i := i) hc.out.res
  clear h
  have hf := Lib.hid (fun m => (h1.out.drewN m).nfind n hn)
  unfold Fo.doLink
  cases hg : getE s.d.now n with
  | none =>
    have ef : s.find n = (0, 80) := ((s.find_has n).2 (getE_none hg)).2
    rw [ef] at hf
    clear hg ef
    go_enter Tryz.func37, Tryz.ntmps37
    go_upto_region 1 with fail
    rw [hW.out, hR.out, hb.out]
    go_quiet (first | (go_at_call 72; refine Calls.quiet_of_same (hf.out _)))
    go_wp2
    have ht : Touch (Fr w0 (YB Y B R)) W (W.drewN nq) := .of (below_drewN (Below.refl _ _) _)
    refine ret_res rfl R _ _ _ _ (0, 0) rfl (tri_set _ _ _ (hc.out.at_ ht).2) rfl ?_
    exact hc.out.err ht ((h1.out.drewN _).mono (by omega))
  | some v =>
    have ef : s.find n = (v, 0) := by obtain ⟨v', e1, e2⟩ := (s.find_has n).1 (by rw [← getE_has, hg]; rfl); rw [hg] at e1; injection e1 with e1; rw [e1]; exact e2
    rw [ef] at hf
    have hv := (h1.out.ok.d.now.2 _ (getE_some hg)).v
    have hv0 := hpos _ (getE_some hg)
    clear hg ef
    have Hv := Lib.hid hv
    have Hv0 := Lib.hid hv0
    clear hv hv0 hpos
    simp only
    by_cases hz : s.may t = 0
    · obtain ⟨hne, hno⟩ := Fo.may_zero hz
      rw [if_pos hz]
      have Hne := Lib.hid hne
      have Hno := Lib.hid hno
      have Hz := Lib.hid hz
      clear hz hne hno
      go_enter Tryz.func37, Tryz.ntmps37
      go_upto_region 1 with fail
      rw [hW.out, hR.out, hb.out]
      go_quiet (first | (go_at_call 72; refine Calls.quiet_of_same (hf.out _)))
      obtain ⟨W2, hW2⟩ : ∃ W2, Hid (W.drewN nq = W2) := ⟨_, rfl⟩
      have hb2 : Hid (Below W.heap.size W W2) := by rw [← hW2.out]; exact below_drewN (Below.refl _ _) _
      have h2 := Lib.hid (h1.out.quiet hb2.out)
      have hm2 := Lib.hid (fun m => (h2.out.1.drewN m).nmay t ht)
      have hz2 : s.may t = 0 := Hz.out
      rw [hz2] at hm2
      clear hz2
      rw [hW2.out]
      have c2' := (quad_cell (hc.out.at_ h2.out.2).1).2.2.1
      have r0' := tri_cell (hc.out.at_ h2.out.2).2
      have rf' := fun i => d_frozen (i := i) (hc.out.at_ h2.out.2).2
      clear c0 c1 c2 c3 r0 rf
      go_upto_region 4 with fail
      go_quiet (first | (go_at_call 69; refine Calls.quiet_of (hm2.out _)))
      obtain ⟨W3, hW3⟩ : ∃ W3, Hid (W2.drewN nq = W3) := ⟨_, rfl⟩
      have hb3 : Hid (Below W2.heap.size W2 W3) := by rw [← hW3.out]; exact below_drewN (Below.refl _ _) _
      have h3 := Lib.hid (h2.out.1.quiet hb3.out)
      have Ht3 := Lib.hid (h2.out.2.trans h3.out.2)
      rw [hW3.out]
      have c2'' := (quad_cell (hc.out.at_ Ht3.out).1).2.2.1
      have r0'' := tri_cell (hc.out.at_ Ht3.out).2
      have rf'' := fun i => d_frozen (i := i) (hc.out.at_ Ht3.out).2
      clear c2' r0' rf'
      have hnm := Lib.hid (h3.out.1.fname (N := N) hN t v ⟨ht, Hv.out⟩ Hne.out Hv0.out Hno.out)
      go_wp2_with (first | (go_at_call 71; refine hnm.out.mono ?_; rintro e w4 ⟨rfl, hf4, ht4⟩; have Hf4 := Lib.hid hf4; have Ht4 := Lib.hid (Ht3.out.trans ht4); clear hf4 ht4; have s0 := tri_cell (hc.out.at_ Ht4.out).2; have sf := fun i => d_frozen (i := i) (hc.out.at_ Ht4.out).2))
      refine ret_res rfl R _ _ _ _ (0, 0) rfl (tri_set _ _ _ (hc.out.at_ Ht4.out).2) rfl ?_
      exact hc.out.done (r := (_, 0, [], [])) Ht4.out Hf4.out _ _ _ fun w2 _ => ReV.err w2 _ _
    · rw [if_neg hz]
      obtain ⟨er, her⟩ : ∃ er, Hid (s.may t = er) := ⟨_, rfl⟩
      rw [her.out] at hz ⊢
      have hd : decide (er = 0) = false := decide_eq_false hz
      go_enter Tryz.func37, Tryz.ntmps37
      go_upto_region 1 with fail
      rw [hW.out, hR.out, hb.out]
      go_quiet (first | (go_at_call 72; refine Calls.quiet_of_same (hf.out _)))
      obtain ⟨W2, hW2⟩ : ∃ W2, Hid (W.drewN nq = W2) := ⟨_, rfl⟩
      have hb2 : Hid (Below W.heap.size W W2) := by rw [← hW2.out]; exact below_drewN (Below.refl _ _) _
      have h2 := Lib.hid (h1.out.quiet hb2.out)
      have hm2 := Lib.hid (fun m => (h2.out.1.drewN m).nmay t ht)
      rw [her.out] at hm2
      rw [hW2.out]
      have c2' := (quad_cell (hc.out.at_ h2.out.2).1).2.2.1
      have r0' := tri_cell (hc.out.at_ h2.out.2).2
      have rf' := fun i => d_frozen (i := i) (hc.out.at_ h2.out.2).2
      clear c0 c1 c2 c3 r0 rf
      go_upto_region 4 with fail
      go_quiet (first | (go_at_call 69; refine Calls.quiet_of (hm2.out _)))
      obtain ⟨W3, hW3⟩ : ∃ W3, Hid (W2.drewN nq = W3) := ⟨_, rfl⟩
      have hb3 : Hid (Below W2.heap.size W2 W3) := by rw [← hW3.out]; exact below_drewN (Below.refl _ _) _
      have h3 := Lib.hid (h2.out.1.quiet hb3.out)
      have Ht3 := Lib.hid (h2.out.2.trans h3.out.2)
      rw [hW3.out]
      have c2'' := (quad_cell (hc.out.at_ Ht3.out).1).2.2.1
      have r0'' := tri_cell (hc.out.at_ Ht3.out).2
      have rf'' := fun i => d_frozen (i := i) (hc.out.at_ Ht3.out).2
      clear c2' r0' rf'
      go_wp2
      refine ret_res rfl R _ _ _ _ (0, 0) rfl (tri_set _ _ _ (hc.out.at_ Ht3.out).2) rfl ?_
      exact hc.out.err Ht3.out (h3.out.1.mono (by omega))
end
end Go.Proofs.YtbhmnmmockmibaaGreat

namespace Go.Proofs.YtbhmnmmockmibaaGreat
open Go.RowKit Go.Maps
section
variable {w0 w w' W : World} {Y Y' : Nat → Prop} {F N M B R : Nat} {s s' : Fo} {k nm tt by_ : Value}
theorem Cb.nb (hc : Cb w W B R k nm tt by_) {b : Nat} (h : W.heap.size ≤ b) : ¬ b = R ∧ ¬ b = B ∧ w.heap.size ≤ b := by
  have := hc.size
  have := hc.b
  have := hc.r
  omega
def Fo.doRead (s : Fo) (n : List UInt8) : OutF := match getE s.d.now n with
  | none => (s, 80, [], [])
  | some v => (s, (bytesF s.fs v).2, [], (bytesF s.fs v).1)
set_option maxHeartbeats 2000000 in
set_option maxRecDepth 100000 in
theorem fread_any (h : FS w0 Y F s N w) (hN : N ≤ 900) (k : Value) (n t : List UInt8) (hn : n.length ≤ 1000) (b : Value) (hb1 : ∃ A n c, b = .slice A n c) :
    Calls Tryz.prog 40 #[.pointer (some ⟨F, 0, none⟩), .agg #[k, .string (txt n), .string (txt t), b]] w fun e w' => Dn w0 w Y F N (s.doRead n) e w' := by
  obtain ⟨Ab, nl, cb, rfl⟩ := hb1
  obtain ⟨W, hW⟩ : ∃ W, Hid ((w.alloc (.cells #[k, .string (txt n), .string (txt t), .slice Ab nl cb] 40)).alloc (.cells #[.int .i64 0, .slice none 0 0, .slice none 0 0] 51) = W) := ⟨_, rfl⟩
  obtain ⟨B, hb⟩ : ∃ B, Hid (w.heap.size = B) := ⟨_, rfl⟩
  obtain ⟨R, hR⟩ : ∃ R, Hid (w.heap.size + 1 = R) := ⟨_, rfl⟩
  have hc := Lib.hid (Cb.of hW.out hb.out hR.out)
  have h1 := Lib.hid (hc.out.enter h)
  obtain ⟨c0, c1, c2, c3⟩ := quad_cell hc.out.call
  have r0 := tri_cell hc.out.res
  have rf := fun i => d_frozen (i := i) hc.out.res
  clear h
  have hf := Lib.hid (fun m => (h1.out.drewN m).nfind n hn)
  unfold Fo.doRead
  cases hg : getE s.d.now n with
  | none =>
    have ef : s.find n = (0, 80) := ((s.find_has n).2 (getE_none hg)).2
    rw [ef] at hf
    clear hg ef
    go_enter Tryz.func40, Tryz.ntmps40
    go_upto_region 1 with fail
    rw [hW.out, hR.out, hb.out]
    go_quiet (first | (go_at_call 72; refine Calls.quiet_of_same (hf.out _)))
    go_wp2
    have ht : Touch (Fr w0 (YB Y B R)) W (W.drewN nq) := .of (below_drewN (Below.refl _ _) _)
    refine ret_res rfl R _ _ _ _ (0, 0) rfl (tri_set _ _ _ (hc.out.at_ ht).2) rfl ?_
    exact hc.out.err ht ((h1.out.drewN _).mono (by omega))
  | some v =>
    have ef : s.find n = (v, 0) := by obtain ⟨v', e1, e2⟩ := (s.find_has n).1 (by rw [← getE_has, hg]; rfl); rw [hg] at e1; injection e1 with e1; rw [e1]; exact e2
    rw [ef] at hf
    have hv := (h1.out.ok.d.now.2 _ (getE_some hg)).v
    clear hg ef
    go_enter Tryz.func40, Tryz.ntmps40
    go_upto_region 1 with fail
    rw [hW.out, hR.out, hb.out]
    go_quiet (first | (go_at_call 72; refine Calls.quiet_of_same (hf.out _)))
    obtain ⟨W2, hW2⟩ : ∃ W2, Hid (W.drewN nq = W2) := ⟨_, rfl⟩
    have hb2 : Hid (Below W.heap.size W W2) := by rw [← hW2.out]; exact below_drewN (Below.refl _ _) _
    have h2 := Lib.hid (h1.out.quiet hb2.out)
    have hby := Lib.hid (h2.out.1.tbytes hN hv)
    go_wp2_with (first | (go_at_call 56; rw [hW2.out]; refine hby.out.mono ?_; rintro e w3 ⟨u, rfl, ho, hb3⟩; obtain ⟨A', cap', rfl, _, _, _⟩ := own_form ho; have Ho := Lib.hid ho; have Hf3 := Lib.hid (h2.out.1.quiet hb3); have Ht3 := Lib.hid (h2.out.2.trans Hf3.out.2); clear ho hb3; have s0 := tri_cell (hc.out.at_ Ht3.out).2; have sf := fun i => d_frozen (i := i) (hc.out.at_ Ht3.out).2))
    refine ret_res rfl R _ _ _ _ (0, 0) rfl (tri_set _ _ _ (hc.out.at_ Ht3.out).2) rfl ?_
    refine hc.out.done (r := (s, (bytesF s.fs v).2, [], (bytesF s.fs v).1)) Ht3.out Hf3.out.1 _ _ _ fun w4 ht4 => ⟨none, 0, 0, A', _, cap', rfl, World.ownsRow_nil _ _ _ _, rfl, own_base (own_touch Ho.out ht4 fun b hb e => ?_) (Nat.le_trans hc.out.below.size hb2.out.size), rfl⟩
    exact (hc.out.nb (Nat.le_trans hb2.out.size (Ho.out.lt b hb).1)).1 e
theorem keys_snoc {m : List EnD} {j : Nat} {e : EnD} (h : m[j]? = some e) : (m.take (j + 1)).map (fun x => Value.string (txt x.1)) = (m.take j).map (fun x => Value.string (txt x.1)) ++ [.string (txt e.1)] := by
  obtain ⟨hj, e'⟩ := List.getElem?_eq_some_iff.1 h
  rw [List.take_succ_eq_append_getElem hj, List.map_append, e']
  rfl
set_option maxHeartbeats 2000000 in
set_option maxRecDepth 100000 in
theorem freaddir_any (h : FS w0 Y F s N w) (hN : N ≤ 900) (k : Value) (n t : List UInt8) (b : Value) (hb1 : ∃ A n c, b = .slice A n c) :
    Calls Tryz.prog 39 #[.pointer (some ⟨F, 0, none⟩), .agg #[k, .string (txt n), .string (txt t), b]] w fun e w' => Dn w0 w Y F N (s, 0, s.d.now.map Prod.fst, []) e w' := by
  obtain ⟨Ab, nl, cb, rfl⟩ := hb1
  obtain ⟨W, hW⟩ : ∃ W, Hid ((w.alloc (.cells #[k, .string (txt n), .string (txt t), .slice Ab nl cb] 40)).alloc (.cells #[.int .i64 0, .slice none 0 0, .slice none 0 0] 51) = W) := ⟨_, rfl⟩
  obtain ⟨B, hb⟩ : ∃ B, Hid (w.heap.size = B) := ⟨_, rfl⟩
  obtain ⟨R, hR⟩ : ∃ R, Hid (w.heap.size + 1 = R) := ⟨_, rfl⟩
  have hc := Lib.hid (Cb.of hW.out hb.out hR.out)
  have h1 := Lib.hid (hc.out.enter h)
  obtain ⟨c0, c1, c2, c3⟩ := quad_cell hc.out.call
  have r0 := tri_cell hc.out.res
  have rf := fun i => d_frozen (i := i) hc.out.res
  clear h
  have hl := Lib.hid (h1.out.dlist hN)
  have hlen : Hid (s.d.now.length ≤ 900) := Nat.le_trans h1.out.ok.d.now.1 hN
  obtain ⟨m, hm⟩ : ∃ m, Hid (s.d.now = m) := ⟨_, rfl⟩
  rw [hm.out] at hl hlen ⊢
  obtain ⟨len, hln⟩ : ∃ l, Hid (m.length = l) := ⟨_, rfl⟩
  have hlenI : (len : Int) ≤ 900 := by have := hlen.out; have := hln.out; omega
  go_enter Tryz.func39, Tryz.ntmps39
  go_upto_region 2 with fail
  rw [hW.out, hR.out, hb.out]
  go_wp2_with (first | (go_at_call 55; refine hl.out.mono ?_; rintro e w1 ⟨u, rfl, ho, hb1⟩; obtain ⟨A, cap, rfl, hcap, hcm, hrd⟩ := own_form ho; have Ho := Lib.hid ho; have Hrd := Lib.hid hrd; have Hb1 := Lib.hid hb1; clear ho hrd hb1; rw [hln.out]; rw [hln.out] at hcap))
  clear c0 c1 c2 c3 r0 rf hcap hcm
  go_loopw [5, 14] (fun r i wr => ∃ (j : Nat), j ≤ len ∧ i = .int .i64 (j : Int) ∧ wr.ownsRow w1.heap.size 9 1 r j ((m.take j).map fun x => .string (txt x.1)) ∧ Hid (Below w1.heap.size w1 wr)) (fun _ i _ => len - (intOf i).toNat)
  case atStart => exact ⟨0, by omega, rfl, World.ownsRow_nil _ _ _ _, .refl _ _⟩
  case round =>
    obtain ⟨j, hj, rfl, hrow, hB1⟩ := hrel
    have Hrow := Lib.hid hrow
    clear hrow
    by_cases hlt : j < len
    · obtain ⟨ad, e, rfl, _, _, d0, d1, hx⟩ := EnXD.at_ (X := fun _ => False) ((RdX.of Hrd.out (Nat.le_refl _) fun _ _ h => h).below hB1.out) (k := j) (by rw [hln.out]; exact hlt)
      have Hx := Lib.hid hx.out
      clear hx
      obtain ⟨Wa, hWa⟩ : ∃ Wa, Hid (wr.alloc (.cells #[.string (txt e.1), .int .i64 e.2] 120) = Wa) := ⟨_, rfl⟩
      obtain ⟨g, hg⟩ : ∃ g, Hid (wr.heap.size = g) := ⟨_, rfl⟩
      have e0 : Wa.cell? ⟨g, 0, none⟩ = some (.string (txt e.1)) := by rw [← hWa.out, ← hg.out]; exact (two_cells (heap_alloc_new wr _)).1
      have hba : Hid (Below wr.heap.size wr Wa) := by rw [← hWa.out]; exact below_new _ _
      have hrow2 := Hrow.out.alloc (.cells #[.string (txt e.1), .int .i64 e.2] 120)
      rw [hWa.out] at hrow2
      have Hrow2 := Lib.hid hrow2
      clear hrow2
      go_upto_region 5 with fail
      rw [hWa.out, hg.out]
      go_wp2_with (at_builtin; refine push_one oneStr rfl (by omega) (.tmp 18) (.tmp 21) (.string (txt e.1)) rfl Hrow2.out (Nat.le_trans hB1.out.size hba.out.size) (by omega) rfl rfl rfl rfl rfl ?_; intro v' w3 hown' hg3 hblk3 hb3; go_frame)
      have hb5 : Hid (Below w1.heap.size w1 w3) := (hB1.out.trans (hba.out.mono hB1.out.size)).trans hb3
      go_roundw
      case rel => exact ⟨j + 1, by omega, by go_num, by rw [keys_snoc Hx.out]; exact hown', hb5⟩
      case measure => simp [intOf]; omega
    · obtain rfl : j = len := by omega
      have hfull : m.take j = m := by rw [← hln.out, List.take_length]
      rw [hfull] at Hrow
      have Hr2 := Lib.hid (h1.out.quiet (Hb1.out.trans (hB1.out.mono Hb1.out.size)))
      have Ht3 := Lib.hid Hr2.out.2
      obtain ⟨A', cap', rfl, _, _, _⟩ := own_form Hrow.out
      have s0 := tri_cell (hc.out.at_ Ht3.out).2
      have sf := fun i => d_frozen (i := i) (hc.out.at_ Ht3.out).2
      go_wp2
      refine ret_res rfl R _ _ _ _ (0, 0) rfl (tri_set _ _ _ (hc.out.at_ Ht3.out).2) rfl ?_
      refine hc.out.done (r := (s, 0, m.map Prod.fst, [])) Ht3.out Hr2.out.1 _ _ _ fun w4 ht4 => ⟨A', j, cap', none, 0, 0, rfl, ?_, by rw [List.length_map, hln.out], World.ownsRow_nil _ _ _ _, rfl⟩
      rw [List.length_map, hln.out, List.map_map]
      refine own_base (own_touch Hrow.out ht4 fun b hb e => ?_) (Nat.le_trans hc.out.below.size Hb1.out.size)
      exact (hc.out.nb (Nat.le_trans Hb1.out.size (Hrow.out.lt b hb).1)).1 e
end
end Go.Proofs.YtbhmnmmockmibaaGreat
