/- The walk of fsyncDir. Conditions: at most 900 calls. The walk of Do: of a kind that there is, of another one, of no folder. Conditions: at most 880 calls; names of at most 1000 bytes, 60 bytes written. The walk of Do, of the kinds 1, 2, 3. Conditions: none. -/
import Derived.Test.YtbhmnmmockmibaaGreatKpFoI
import Derived.BigQuiet
namespace Go.Proofs.YtbhmnmmockmibaaGreat
open Go.RowKit Go.Maps
section
variable {w0 w w' W : World} {Y Y' : Nat → Prop} {F N M B R : Nat} {s s' : Fo} {k nm tt by_ : Value}
def dropsF (fs : List Fi) (l : List Int) : List Fi := l.foldl (fun fs z => (doDrop fs z).1) fs
theorem dropsF_snoc (fs : List Fi) {l : List Int} {j : Nat} {z : Int} (h : l[j]? = some z) : dropsF fs (l.take (j + 1)) = (doDrop (dropsF fs (l.take j)) z).1 := by
  obtain ⟨hj, e⟩ := List.getElem?_eq_some_iff.1 h
  unfold dropsF
  rw [List.take_succ_eq_append_getElem hj, List.foldl_append, e]
  rfl
def Fo.sync (s : Fo) : Fo := { s with d := s.d.sync, tk := [], fs := dropsF s.fs s.tk }
set_option maxHeartbeats 2000000 in
set_option maxRecDepth 100000 in
theorem ffsyncDir_any (h : FS w0 Y F s N w) (hN : N ≤ 900) (k : Value) (n t : List UInt8) (b : Value) (hb1 : ∃ A n c, b = .slice A n c) :
    Calls Tryz.prog 36 #[.pointer (some ⟨F, 0, none⟩), .agg #[k, .string (txt n), .string (txt t), b]] w fun e w' => Dn w0 w Y F N (s.sync, 0, [], []) e w' := by
  obtain ⟨Ab, nl, cb, rfl⟩ := hb1
  obtain ⟨W, hW⟩ : ∃ W, Hid ((w.alloc (.cells #[k, .string (txt n), .string (txt t), .slice Ab nl cb] 40)).alloc (.cells #[.int .i64 0, .slice none 0 0, .slice none 0 0] 51) = W) := ⟨_, rfl⟩
  obtain ⟨B, hb⟩ : ∃ B, Hid (w.heap.size = B) := ⟨_, rfl⟩
  obtain ⟨R, hR⟩ : ∃ R, Hid (w.heap.size + 1 = R) := ⟨_, rfl⟩
  have hc := Lib.hid (Cb.of hW.out hb.out hR.out)
  have h1 := Lib.hid (hc.out.enter h)
  clear h
  have hs := Lib.hid h1.out.nsettle
  have htk := h1.out.ok.tk
  obtain ⟨len, hln⟩ : ∃ l, Hid (s.tk.length = l) := ⟨_, rfl⟩
  have hlenI : (len : Int) ≤ 900 := by have := hln.out; omega
  have hnum := Lib.hid h1.out.ok.num
  clear htk
  go_enter Tryz.func36, Tryz.ntmps36
  go_upto_region 1 with fail
  rw [hW.out, hR.out, hb.out]
  go_wp2_with (first | (go_at_call 75; refine hs.out.mono ?_; rintro e w1 ⟨u, rfl, ho, hf1, ht1⟩; obtain ⟨A, cap, rfl, hcap, hcm, hrd⟩ := own_form ho; have Ho := Lib.hid ho; have Hf1 := Lib.hid hf1; have Ht1 := Lib.hid ht1; clear ho hrd hf1 ht1 hcap hcm; rw [hln.out]))
  go_loopw [12] (fun i wr => ∃ (j : Nat), j ≤ len ∧ i = .int .i64 (j : Int) ∧ Hid (FS w0 (fun b => YB Y B R b ∨ (Value.slice A s.tk.length cap).ownBlock = some b) F { s with d := s.d.sync, tk := [], fs := dropsF s.fs (s.tk.take j) } N wr) ∧ Hid (Touch (Fr w0 (fun b => YB Y B R b ∨ (Value.slice A s.tk.length cap).ownBlock = some b)) w1 wr)) (fun i _ => len - (intOf i).toNat)
  case atStart => exact ⟨0, by omega, rfl, Hf1.out, .refl _ _⟩
  case round =>
    obtain ⟨j, hj, rfl, hf, ht⟩ := hrel
    by_cases hlt : j < len
    · obtain ⟨A2, cap2, ee, _, _, hr⟩ := own_form (own_touch Ho.out ht.out fun b hb e => e.2 (.inr hb))
      injection ee with ee _ _
      subst ee
      obtain ⟨ad, rfl, _, hcell⟩ := hr.2 (by rw [hln.out]; omega)
      have hz : s.tk[j]? = some (s.tk[j]'(by rw [hln.out]; exact hlt)) := List.getElem?_eq_getElem _
      obtain ⟨z, hzz⟩ : ∃ z, s.tk[j]'(by rw [hln.out]; exact hlt) = z := ⟨_, rfl⟩
      rw [hzz] at hz
      have d0 := hcell j (.int .i64 z) (by rw [List.getElem?_map, hz]; rfl)
      have hzb := Lib.hid (hnum.out z (List.mem_of_getElem? hz))
      have hd := Lib.hid (hf.out.tdrop hzb.out)
      have Hz := Lib.hid hz
      clear hr hcell hz hzz
      go_wp2_with (first | (go_at_call 76; refine hd.out.mono ?_; rintro e w3 ⟨rfl, hf3, ht3⟩; have Hf3 := Lib.hid hf3; have Ht3 := Lib.hid (ht.out.trans ht3); clear hf3 ht3; go_frame))
      go_roundw
      case rel => exact ⟨j + 1, by omega, by go_num, by rw [dropsF_snoc _ Hz.out]; exact Hf3.out, Ht3.out⟩
      case measure => simp [intOf]; omega
    · obtain rfl : j = len := by omega
      have hfull : s.tk.take j = s.tk := by rw [← hln.out, List.take_length]
      rw [hfull] at hf
      have Ht3 : Hid (Touch (Fr w0 (YB Y B R)) W wr) := Ht1.out.trans (ht.out.mono fun b _ e => Fr.weak (fun _ e => .inl e) e)
      have s0 := tri_cell (hc.out.at_ Ht3.out).2
      have sf := fun i => d_frozen (i := i) (hc.out.at_ Ht3.out).2
      go_wp2
      refine ret_res rfl R _ _ _ _ (0, 0) rfl (tri_set _ _ _ (hc.out.at_ Ht3.out).2) rfl ?_
      exact hc.out.done (r := (s.sync, 0, [], [])) Ht3.out (hf.out.weak fun b hb => .inl hb) _ _ _ fun w2 _ => ReV.err w2 _ _
end
end Go.Proofs.YtbhmnmmockmibaaGreat

namespace Go.Proofs.YtbhmnmmockmibaaGreat
open Go.RowKit Go.Maps
theorem run_eqFnIn (d : Nat) (f : FuncId) (w : World) : (Op.equalIn (d + 1) 100 (.func (.func f) #[] #[]) .nilFunc).run Tryz.prog w = .ok false w := by
  simp [Op.equalIn, run_underlying Tryz.underlying100]
theorem run_eqNilIn (d : Nat) (w : World) : (Op.equalIn (d + 1) 100 .nilFunc .nilFunc).run Tryz.prog w = .ok true w := by
  simp [Op.equalIn, run_underlying Tryz.underlying100]
theorem run_eqFn (f : FuncId) (w : World) : (binOp .eql 100 (.func (.func f) #[] #[]) .nilFunc).run Tryz.prog w = .ok (.bool false) w := by
  simp only [binOp]
  have h : (Op.equal 100 (.func (.func f) #[] #[]) .nilFunc).run Tryz.prog w = .ok false w := run_eqFnIn 9999 f w
  simp [h]
theorem run_eqFnN (w : World) : (binOp .eql 100 .nilFunc .nilFunc).run Tryz.prog w = .ok (.bool true) w := by
  simp only [binOp]
  have h : (Op.equal 100 .nilFunc .nilFunc).run Tryz.prog w = .ok true w := run_eqNilIn 9999 w
  simp [h]
def doFns : Array Value := #[.nilFunc, .func (.func 33) #[] #[], .func (.func 34) #[] #[], .func (.func 35) #[] #[], .func (.func 36) #[] #[], .func (.func 37) #[] #[], .func (.func 38) #[] #[], .func (.func 39) #[] #[], .func (.func 40) #[] #[]]
theorem size_arr : (Tryz.prog.info? 101).map (·.size) = some 9 := by kernel_rfl
theorem doFns_one : doFns.all (·.oneCell') = true := by kernel_rfl
section
variable {w0 w w' W : World} {Y Y' : Nat → Prop} {F N M B R L : Nat} {s s' : Fo} {k nm tt by_ : Value}
theorem Dn.mono {r : OutF} {e : Ending} (h : Dn w0 w Y F N r e w') (hN : N ≤ M) : Dn w0 w Y F M r e w' := by
  obtain ⟨v, e1, e2, e3, e4⟩ := h
  exact ⟨v, e1, e2, e3.mono hN, e4⟩
abbrev YL (Y : Nat → Prop) (B R L : Nat) : Nat → Prop := fun b => YB Y B R b ∨ b = L
def HC (w0 : World) (Y : Nat → Prop) (F : Nat) (s : Fo) (N : Nat) (f : FuncId) (cv : Value) (out : Nat → OutF) (W : World) : Prop :=
  ∀ W5, Below W.heap.size W W5 → FS w0 Y F s N W5 → Calls Tryz.prog f #[.pointer (some ⟨F, 0, none⟩), cv] W5 fun e w' => ∃ g, Dn w0 W5 Y F (N + 2) (out g) e w'
structure Cl (w W W4 : World) (B R L : Nat) (k nm tt by_ : Value) : Prop where
  cb : Cb w W B R k nm tt by_
  arr : W4.heap[L]? = some (.cells doFns 101 (0, 0))
  below : Below W.heap.size W W4
  l : W.heap.size = L
  size : W4.heap.size = W.heap.size + 1
variable {W4 : World}
theorem Cl.enter (hc : Cl w W W4 B R L k nm tt by_) (h : FS w0 Y F s N w) : FS w0 (YL Y B R L) F s N W4 :=
  (hc.cb.enter h).more hc.below fun b hb => hb.imp id fun e => by
    have h1 := hc.size
    have h2 := hc.l
    omega
theorem Cl.at_ (hc : Cl w W W4 B R L k nm tt by_) {w1 : World} (ht : Touch (Fr w0 (YL Y B R L)) W4 w1) : w1.heap[B]? = some (.cells #[k, nm, tt, by_] 40 (0, 0)) ∧ w1.heap[R]? = some (.cells #[.int .i64 0, .slice none 0 0, .slice none 0 0] 51 (0, 0)) ∧ w1.heap[L]? = some (.cells doFns 101 (0, 0)) := by
  have hb := (hc.below.block B (Array.getElem?_eq_some_iff.1 hc.cb.call).1).trans hc.cb.call
  have hr := (hc.below.block R (Array.getElem?_eq_some_iff.1 hc.cb.res).1).trans hc.cb.res
  exact ⟨ht.heap (fun e => e.2 (.inl (.inr (.inl rfl)))) hb, ht.heap (fun e => e.2 (.inl (.inr (.inr rfl)))) hr, ht.heap (fun e => e.2 (.inr rfl)) hc.arr⟩
theorem Cl.done (hc : Cl w W W4 B R L k nm tt by_) {w5 w1 : World} {r : OutF} (h5 : Touch (Fr w0 (YL Y B R L)) W4 w5) (ht : Touch (Fr w0 (YL Y B R L)) w5 w1) (h1 : FS w0 (YL Y B R L) F r.1 N w1) (x y z : Value) (hr : ReV w1 w5.heap.size (.agg #[x, y, z]) r.2.1 r.2.2.1 r.2.2.2) :
    Dn w0 w Y F N r (.returned (.agg #[x, y, z])) (((w1.setCell ⟨R, 0, none⟩ x).setCell ⟨R, 1, none⟩ y).setCell ⟨R, 2, none⟩ z) := by
  have ht3 := Touch.tri w1 R x y z
  have hbW := hc.cb.below.trans (hc.below.mono hc.cb.below.size)
  have h45 := h5.size
  have hsz := hbW.size
  have hR : R < w5.heap.size := by have := hc.cb.r; have := hc.cb.size; have := hc.size; omega
  refine ⟨_, rfl, ?_, (h1.write (ht3.mono fun b _ e => .inl (.inr (.inr e)))).weak fun b hb => .inl (.inl hb), ?_⟩
  · obtain ⟨A, n, c, A', n', c', e, h2, h3, h4, h6⟩ := hr
    exact ⟨A, n, c, A', n', c', e, own_base (own_touch h2 ht3 fun b hb e => by have := (h2.lt b hb).1; omega) (by omega), h3, own_base (own_touch h4 ht3 fun b hb e => by have := (h4.lt b hb).1; omega) (by omega), h6⟩
  · refine ((Touch.of (X := Fr w0 Y) hbW).then_ (h5.trans ht) fun b _ e => Fr.weak (fun _ e => .inl (.inl e)) e).then_ ht3 fun b hb e => ?_
    have := hc.cb.r
    omega
theorem Cl.kept (hc : Cl w W W4 B R L k nm tt by_) {w1 : World} (ht : Touch (Fr w0 (YL Y B R L)) W4 w1) (x y z : Value) : (((w1.setCell ⟨R, 0, none⟩ x).setCell ⟨R, 1, none⟩ y).setCell ⟨R, 2, none⟩ z).heap[B]? = some (.cells #[k, nm, tt, by_] 40 (0, 0)) ∧ (((w1.setCell ⟨R, 0, none⟩ x).setCell ⟨R, 1, none⟩ y).setCell ⟨R, 2, none⟩ z).heap[L]? = some (.cells doFns 101 (0, 0)) :=
  ⟨(Touch.tri w1 R x y z).heap (show ¬ B = R by have := hc.cb.b; have := hc.cb.r; omega) (hc.at_ ht).1, (Touch.tri w1 R x y z).heap (show ¬ L = R by have := hc.cb.size; have := hc.cb.r; have := hc.l; omega) (hc.at_ ht).2.2⟩
theorem Cl.cells (hc : Cl w W W4 B R L k nm tt by_) {w1 : World} (ht : Touch (Fr w0 (YL Y B R L)) W4 w1) {i : Nat} {u : Value} (hu : doFns[i]? = some u) : w1.cell? ⟨B, 0, none⟩ = some k ∧ w1.cell? ⟨B, 1, none⟩ = some nm ∧ w1.cell? ⟨B, 2, none⟩ = some tt ∧ w1.cell? ⟨B, 3, none⟩ = some by_ ∧ w1.cell? ⟨L, i, none⟩ = some u := by
  obtain ⟨h1, _, h3⟩ := hc.at_ ht
  obtain ⟨c0, c1, c2, c3⟩ := quad_cell h1
  exact ⟨c0, c1, c2, c3, by rw [cell_of_row _ L i _ _ _ h3]; exact hu⟩
theorem Cl.cells2 (hc : Cl w W W4 B R L k nm tt by_) {w1 : World} (ht : Touch (Fr w0 (YL Y B R L)) W4 w1) {i : Nat} {u : Value} (hu : doFns[i]? = some u) (x y z : Value) : ((((w1.setCell ⟨R, 0, none⟩ x).setCell ⟨R, 1, none⟩ y).setCell ⟨R, 2, none⟩ z)).cell? ⟨B, 0, none⟩ = some k ∧ ((((w1.setCell ⟨R, 0, none⟩ x).setCell ⟨R, 1, none⟩ y).setCell ⟨R, 2, none⟩ z)).cell? ⟨B, 1, none⟩ = some nm ∧ ((((w1.setCell ⟨R, 0, none⟩ x).setCell ⟨R, 1, none⟩ y).setCell ⟨R, 2, none⟩ z)).cell? ⟨B, 2, none⟩ = some tt ∧ ((((w1.setCell ⟨R, 0, none⟩ x).setCell ⟨R, 1, none⟩ y).setCell ⟨R, 2, none⟩ z)).cell? ⟨B, 3, none⟩ = some by_ ∧ ((((w1.setCell ⟨R, 0, none⟩ x).setCell ⟨R, 1, none⟩ y).setCell ⟨R, 2, none⟩ z)).cell? ⟨L, i, none⟩ = some u := by
  obtain ⟨h1, h3⟩ := hc.kept ht x y z
  obtain ⟨c0, c1, c2, c3⟩ := quad_cell h1
  exact ⟨c0, c1, c2, c3, by rw [cell_of_row _ L i _ _ _ h3]; exact hu⟩
end
end Go.Proofs.YtbhmnmmockmibaaGreat

namespace Go.Proofs.YtbhmnmmockmibaaGreat
open Go.RowKit Go.Maps
section
variable {w0 w w' W : World} {Y Y' : Nat → Prop} {F N M B R L : Nat} {s s' : Fo} {k nm tt by_ : Value}
set_option maxHeartbeats 4000000 in
set_option maxRecDepth 100000 in
theorem fdo1_any {n t : List UInt8} {Ab : Option Addr} {nl cb : Nat} {out : Nat → OutF} (h : FS w0 Y F s N w)
    (hcall : ∀ B R L W4, Below w.heap.size w W4 → HC w0 (YL Y B R L) F s N 33 (.agg #[.int .u8 1, .string (txt n), .string (txt t), .slice Ab nl cb]) out W4) :
    Calls Tryz.prog 13 #[.pointer (some ⟨F, 0, none⟩), .agg #[.int .u8 1, .string (txt n), .string (txt t), .slice Ab nl cb]] w fun e w' => ∃ g, Dn w0 w Y F (N + 2) (out g) e w' := by
  obtain ⟨W, hW⟩ : ∃ W, Hid ((w.alloc (.cells #[.int .u8 1, .string (txt n), .string (txt t), .slice Ab nl cb] 40)).alloc (.cells #[.int .i64 0, .slice none 0 0, .slice none 0 0] 51) = W) := ⟨_, rfl⟩
  obtain ⟨B, hb⟩ : ∃ B, Hid (w.heap.size = B) := ⟨_, rfl⟩
  obtain ⟨R, hR⟩ : ∃ R, Hid (w.heap.size + 1 = R) := ⟨_, rfl⟩
  obtain ⟨L, hL⟩ : ∃ L, Hid (W.heap.size = L) := ⟨_, rfl⟩
  obtain ⟨W4, hW4⟩ : ∃ W4, Hid ((W.alloc (.cells #[.nilFunc, .nilFunc, .nilFunc, .nilFunc, .nilFunc, .nilFunc, .nilFunc, .nilFunc, .nilFunc] 101)).setRow L doFns = W4) := ⟨_, rfl⟩
  have hcb := Lib.hid (Cb.of hW.out hb.out hR.out)
  have hc : Hid (Cl w W W4 B R L (.int .u8 1) (.string (txt n)) (.string (txt t)) (.slice Ab nl cb)) := by
    rw [← hW4.out]
    have hg := heap_alloc_new W (.cells #[.nilFunc, .nilFunc, .nilFunc, .nilFunc, .nilFunc, .nilFunc, .nilFunc, .nilFunc, .nilFunc] 101)
    rw [hL.out] at hg
    exact ⟨hcb.out, setRow_heap _ _ _ _ _ _ hg, below_setRow (below_new _ _) (by rw [hL.out]; exact Nat.le_refl _) _, hL.out, by rw [size_setRow]; simp⟩
  have h4 := Lib.hid (hc.out.enter h)
  have hcl := Lib.hid (hcall B R L W4 (hcb.out.below.trans (hc.out.below.mono hcb.out.below.size)))
  obtain ⟨c0, c1, c2, c3⟩ := quad_cell (hc.out.at_ (Touch.refl (Fr w0 (YL Y B R L)) _)).1
  have l0 : W4.cell? ⟨L, 1, none⟩ = some (.func (.func 33) #[] #[]) := by rw [cell_of_row _ L 1 _ _ _ hc.out.arr]; rfl
  have r0 := tri_cell (hc.out.at_ (Touch.refl (Fr w0 (YL Y B R L)) _)).2.1
  have rf := fun i => d_frozen (i := i) (hc.out.at_ (Touch.refl (Fr w0 (YL Y B R L)) _)).2.1
  clear h hcall
  have hgL : (W.alloc (.cells #[.nilFunc, .nilFunc, .nilFunc, .nilFunc, .nilFunc, .nilFunc, .nilFunc, .nilFunc, .nilFunc] 101)).heap[L]? = some (.cells #[.nilFunc, .nilFunc, .nilFunc, .nilFunc, .nilFunc, .nilFunc, .nilFunc, .nilFunc, .nilFunc] 101 (0, 0)) := by rw [← hL.out]; exact heap_alloc_new _ _
  have hq := run_eqFn 33
  go_enter Tryz.func13, Tryz.ntmps13
  go_upto_region 1 with fail
  rw [hW.out, hR.out, hb.out]
  go_upto_region 4 with (rw [hL.out]; refine wpList_store_row rfl 101 (.tmp 5) (.tmp 9) rfl L _ rfl rfl _ _ hgL size_arr rfl doFns_one ?_; rw [show (W.alloc (.cells #[.nilFunc, .nilFunc, .nilFunc, .nilFunc, .nilFunc, .nilFunc, .nilFunc, .nilFunc, .nilFunc] 101)).setRow L #[.nilFunc, .func (.func 33) #[] #[], .func (.func 34) #[] #[], .func (.func 35) #[] #[], .func (.func 36) #[] #[], .func (.func 37) #[] #[], .func (.func 38) #[] #[], .func (.func 39) #[] #[], .func (.func 40) #[] #[]] = W4 from hW4.out]; clear hgL)
  go_upto_region 6 with fail
  obtain ⟨W5, hW5⟩ : ∃ W5, Hid (W4.drew = W5) := ⟨_, rfl⟩
  have hb5 : Hid (Below W4.heap.size W4 W5) := by rw [← hW5.out]; exact (Below.refl _ _).drew
  have h5 := Lib.hid (h4.out.quiet hb5.out)
  have hcl5 := Lib.hid (hcl.out W5 hb5.out h5.out.1)
  go_region_held3 (fun wx => wx.cell? ⟨B, 0, none⟩ = some (.int .u8 1) ∧ wx.cell? ⟨B, 1, none⟩ = some (.string (txt n)) ∧ wx.cell? ⟨B, 2, none⟩ = some (.string (txt t)) ∧ wx.cell? ⟨B, 3, none⟩ = some (.slice Ab nl cb) ∧ wx.cell? ⟨L, 1, none⟩ = some (.func (.func 33) #[] #[])) (first | exact ⟨c0, c1, c2, c3, l0⟩ | exact kk6.out | exact kk7.out _ _ _) (first | (go_at_call 33; rw [hW5.out]; refine hcl5.out.mono ?_; rintro e w6 ⟨g, v, rfl, hr6, hf6, ht6⟩; obtain ⟨A6, n6, d6, A7, n7, d7, rfl, hr7⟩ := hr6; have Hr := Lib.hid hr7; have Hf6 := Lib.hid hf6; have Ht6 := Lib.hid ht6; have Ht7 := Lib.hid (h5.out.2.trans ht6); clear hr7 hf6 ht6; have k6 := hc.out.at_ Ht7.out; have s0 := tri_cell k6.2.1; have sf := fun i => d_frozen (i := i) k6.2.1; have kk6 := Lib.hid (hc.out.cells Ht7.out (i := 1) rfl); have kk7 := Lib.hid (fun x y z => hc.out.cells2 Ht7.out (i := 1) rfl x y z); clear k6))
  go_wp2
  refine ret_res rfl R _ _ _ _ (0, 0) rfl (tri_set _ _ _ (hc.out.at_ Ht7.out).2.1) rfl ?_
  exact ⟨g, hc.out.done h5.out.2 Ht6.out Hf6.out _ _ _ ⟨A6, n6, d6, A7, n7, d7, rfl, Hr.out⟩⟩
set_option maxHeartbeats 4000000 in
set_option maxRecDepth 100000 in
theorem fdo2_any {n t : List UInt8} {Ab : Option Addr} {nl cb : Nat} {out : Nat → OutF} (h : FS w0 Y F s N w)
    (hcall : ∀ B R L W4, Below w.heap.size w W4 → HC w0 (YL Y B R L) F s N 34 (.agg #[.int .u8 2, .string (txt n), .string (txt t), .slice Ab nl cb]) out W4) :
    Calls Tryz.prog 13 #[.pointer (some ⟨F, 0, none⟩), .agg #[.int .u8 2, .string (txt n), .string (txt t), .slice Ab nl cb]] w fun e w' => ∃ g, Dn w0 w Y F (N + 2) (out g) e w' := by
  obtain ⟨W, hW⟩ : ∃ W, Hid ((w.alloc (.cells #[.int .u8 2, .string (txt n), .string (txt t), .slice Ab nl cb] 40)).alloc (.cells #[.int .i64 0, .slice none 0 0, .slice none 0 0] 51) = W) := ⟨_, rfl⟩
  obtain ⟨B, hb⟩ : ∃ B, Hid (w.heap.size = B) := ⟨_, rfl⟩
  obtain ⟨R, hR⟩ : ∃ R, Hid (w.heap.size + 1 = R) := ⟨_, rfl⟩
  obtain ⟨L, hL⟩ : ∃ L, Hid (W.heap.size = L) := ⟨_, rfl⟩
  obtain ⟨W4, hW4⟩ : ∃ W4, Hid ((W.alloc (.cells #[.nilFunc, .nilFunc, .nilFunc, .nilFunc, .nilFunc, .nilFunc, .nilFunc, .nilFunc, .nilFunc] 101)).setRow L doFns = W4) := ⟨_, rfl⟩
  have hcb := Lib.hid (Cb.of hW.out hb.out hR.out)
  have hc : Hid (Cl w W W4 B R L (.int .u8 2) (.string (txt n)) (.string (txt t)) (.slice Ab nl cb)) := by
    rw [← hW4.out]
    have hg := heap_alloc_new W (.cells #[.nilFunc, .nilFunc, .nilFunc, .nilFunc, .nilFunc, .nilFunc, .nilFunc, .nilFunc, .nilFunc] 101)
    rw [hL.out] at hg
    exact ⟨hcb.out, setRow_heap _ _ _ _ _ _ hg, below_setRow (below_new _ _) (by rw [hL.out]; exact Nat.le_refl _) _, hL.out, by rw [size_setRow]; simp⟩
  have h4 := Lib.hid (hc.out.enter h)
  have hcl := Lib.hid (hcall B R L W4 (hcb.out.below.trans (hc.out.below.mono hcb.out.below.size)))
  obtain ⟨c0, c1, c2, c3⟩ := quad_cell (hc.out.at_ (Touch.refl (Fr w0 (YL Y B R L)) _)).1
  have l0 : W4.cell? ⟨L, 2, none⟩ = some (.func (.func 34) #[] #[]) := by rw [cell_of_row _ L 2 _ _ _ hc.out.arr]; rfl
  have r0 := tri_cell (hc.out.at_ (Touch.refl (Fr w0 (YL Y B R L)) _)).2.1
  have rf := fun i => d_frozen (i := i) (hc.out.at_ (Touch.refl (Fr w0 (YL Y B R L)) _)).2.1
  clear h hcall
  have hgL : (W.alloc (.cells #[.nilFunc, .nilFunc, .nilFunc, .nilFunc, .nilFunc, .nilFunc, .nilFunc, .nilFunc, .nilFunc] 101)).heap[L]? = some (.cells #[.nilFunc, .nilFunc, .nilFunc, .nilFunc, .nilFunc, .nilFunc, .nilFunc, .nilFunc, .nilFunc] 101 (0, 0)) := by rw [← hL.out]; exact heap_alloc_new _ _
  have hq := run_eqFn 34
  go_enter Tryz.func13, Tryz.ntmps13
  go_upto_region 1 with fail
  rw [hW.out, hR.out, hb.out]
  go_upto_region 4 with (rw [hL.out]; refine wpList_store_row rfl 101 (.tmp 5) (.tmp 9) rfl L _ rfl rfl _ _ hgL size_arr rfl doFns_one ?_; rw [show (W.alloc (.cells #[.nilFunc, .nilFunc, .nilFunc, .nilFunc, .nilFunc, .nilFunc, .nilFunc, .nilFunc, .nilFunc] 101)).setRow L #[.nilFunc, .func (.func 33) #[] #[], .func (.func 34) #[] #[], .func (.func 35) #[] #[], .func (.func 36) #[] #[], .func (.func 37) #[] #[], .func (.func 38) #[] #[], .func (.func 39) #[] #[], .func (.func 40) #[] #[]] = W4 from hW4.out]; clear hgL)
  go_upto_region 6 with fail
  obtain ⟨W5, hW5⟩ : ∃ W5, Hid (W4.drew = W5) := ⟨_, rfl⟩
  have hb5 : Hid (Below W4.heap.size W4 W5) := by rw [← hW5.out]; exact (Below.refl _ _).drew
  have h5 := Lib.hid (h4.out.quiet hb5.out)
  have hcl5 := Lib.hid (hcl.out W5 hb5.out h5.out.1)
  go_region_held3 (fun wx => wx.cell? ⟨B, 0, none⟩ = some (.int .u8 2) ∧ wx.cell? ⟨B, 1, none⟩ = some (.string (txt n)) ∧ wx.cell? ⟨B, 2, none⟩ = some (.string (txt t)) ∧ wx.cell? ⟨B, 3, none⟩ = some (.slice Ab nl cb) ∧ wx.cell? ⟨L, 2, none⟩ = some (.func (.func 34) #[] #[])) (first | exact ⟨c0, c1, c2, c3, l0⟩ | exact kk6.out | exact kk7.out _ _ _) (first | (go_at_call 34; rw [hW5.out]; refine hcl5.out.mono ?_; rintro e w6 ⟨g, v, rfl, hr6, hf6, ht6⟩; obtain ⟨A6, n6, d6, A7, n7, d7, rfl, hr7⟩ := hr6; have Hr := Lib.hid hr7; have Hf6 := Lib.hid hf6; have Ht6 := Lib.hid ht6; have Ht7 := Lib.hid (h5.out.2.trans ht6); clear hr7 hf6 ht6; have k6 := hc.out.at_ Ht7.out; have s0 := tri_cell k6.2.1; have sf := fun i => d_frozen (i := i) k6.2.1; have kk6 := Lib.hid (hc.out.cells Ht7.out (i := 2) rfl); have kk7 := Lib.hid (fun x y z => hc.out.cells2 Ht7.out (i := 2) rfl x y z); clear k6))
  go_wp2
  refine ret_res rfl R _ _ _ _ (0, 0) rfl (tri_set _ _ _ (hc.out.at_ Ht7.out).2.1) rfl ?_
  exact ⟨g, hc.out.done h5.out.2 Ht6.out Hf6.out _ _ _ ⟨A6, n6, d6, A7, n7, d7, rfl, Hr.out⟩⟩
set_option maxHeartbeats 4000000 in
set_option maxRecDepth 100000 in
theorem fdo3_any {n t : List UInt8} {Ab : Option Addr} {nl cb : Nat} {out : Nat → OutF} (h : FS w0 Y F s N w)
    (hcall : ∀ B R L W4, Below w.heap.size w W4 → HC w0 (YL Y B R L) F s N 35 (.agg #[.int .u8 3, .string (txt n), .string (txt t), .slice Ab nl cb]) out W4) :
    Calls Tryz.prog 13 #[.pointer (some ⟨F, 0, none⟩), .agg #[.int .u8 3, .string (txt n), .string (txt t), .slice Ab nl cb]] w fun e w' => ∃ g, Dn w0 w Y F (N + 2) (out g) e w' := by
  obtain ⟨W, hW⟩ : ∃ W, Hid ((w.alloc (.cells #[.int .u8 3, .string (txt n), .string (txt t), .slice Ab nl cb] 40)).alloc (.cells #[.int .i64 0, .slice none 0 0, .slice none 0 0] 51) = W) := ⟨_, rfl⟩
  obtain ⟨B, hb⟩ : ∃ B, Hid (w.heap.size = B) := ⟨_, rfl⟩
  obtain ⟨R, hR⟩ : ∃ R, Hid (w.heap.size + 1 = R) := ⟨_, rfl⟩
  obtain ⟨L, hL⟩ : ∃ L, Hid (W.heap.size = L) := ⟨_, rfl⟩
  obtain ⟨W4, hW4⟩ : ∃ W4, Hid ((W.alloc (.cells #[.nilFunc, .nilFunc, .nilFunc, .nilFunc, .nilFunc, .nilFunc, .nilFunc, .nilFunc, .nilFunc] 101)).setRow L doFns = W4) := ⟨_, rfl⟩
  have hcb := Lib.hid (Cb.of hW.out hb.out hR.out)
  have hc : Hid (Cl w W W4 B R L (.int .u8 3) (.string (txt n)) (.string (txt t)) (.slice Ab nl cb)) := by
    rw [← hW4.out]
    have hg := heap_alloc_new W (.cells #[.nilFunc, .nilFunc, .nilFunc, .nilFunc, .nilFunc, .nilFunc, .nilFunc, .nilFunc, .nilFunc] 101)
    rw [hL.out] at hg
    exact ⟨hcb.out, setRow_heap _ _ _ _ _ _ hg, below_setRow (below_new _ _) (by rw [hL.out]; exact Nat.le_refl _) _, hL.out, by rw [size_setRow]; simp⟩
  have h4 := Lib.hid (hc.out.enter h)
  have hcl := Lib.hid (hcall B R L W4 (hcb.out.below.trans (hc.out.below.mono hcb.out.below.size)))
  obtain ⟨c0, c1, c2, c3⟩ := quad_cell (hc.out.at_ (Touch.refl (Fr w0 (YL Y B R L)) _)).1
  have l0 : W4.cell? ⟨L, 3, none⟩ = some (.func (.func 35) #[] #[]) := by rw [cell_of_row _ L 3 _ _ _ hc.out.arr]; rfl
  have r0 := tri_cell (hc.out.at_ (Touch.refl (Fr w0 (YL Y B R L)) _)).2.1
  have rf := fun i => d_frozen (i := i) (hc.out.at_ (Touch.refl (Fr w0 (YL Y B R L)) _)).2.1
  clear h hcall
  have hgL : (W.alloc (.cells #[.nilFunc, .nilFunc, .nilFunc, .nilFunc, .nilFunc, .nilFunc, .nilFunc, .nilFunc, .nilFunc] 101)).heap[L]? = some (.cells #[.nilFunc, .nilFunc, .nilFunc, .nilFunc, .nilFunc, .nilFunc, .nilFunc, .nilFunc, .nilFunc] 101 (0, 0)) := by rw [← hL.out]; exact heap_alloc_new _ _
  have hq := run_eqFn 35
  go_enter Tryz.func13, Tryz.ntmps13
  go_upto_region 1 with fail
  rw [hW.out, hR.out, hb.out]
  go_upto_region 4 with (rw [hL.out]; refine wpList_store_row rfl 101 (.tmp 5) (.tmp 9) rfl L _ rfl rfl _ _ hgL size_arr rfl doFns_one ?_; rw [show (W.alloc (.cells #[.nilFunc, .nilFunc, .nilFunc, .nilFunc, .nilFunc, .nilFunc, .nilFunc, .nilFunc, .nilFunc] 101)).setRow L #[.nilFunc, .func (.func 33) #[] #[], .func (.func 34) #[] #[], .func (.func 35) #[] #[], .func (.func 36) #[] #[], .func (.func 37) #[] #[], .func (.func 38) #[] #[], .func (.func 39) #[] #[], .func (.func 40) #[] #[]] = W4 from hW4.out]; clear hgL)
  go_upto_region 6 with fail
  obtain ⟨W5, hW5⟩ : ∃ W5, Hid (W4.drew = W5) := ⟨_, rfl⟩
  have hb5 : Hid (Below W4.heap.size W4 W5) := by rw [← hW5.out]; exact (Below.refl _ _).drew
  have h5 := Lib.hid (h4.out.quiet hb5.out)
  have hcl5 := Lib.hid (hcl.out W5 hb5.out h5.out.1)
  go_region_held3 (fun wx => wx.cell? ⟨B, 0, none⟩ = some (.int .u8 3) ∧ wx.cell? ⟨B, 1, none⟩ = some (.string (txt n)) ∧ wx.cell? ⟨B, 2, none⟩ = some (.string (txt t)) ∧ wx.cell? ⟨B, 3, none⟩ = some (.slice Ab nl cb) ∧ wx.cell? ⟨L, 3, none⟩ = some (.func (.func 35) #[] #[])) (first | exact ⟨c0, c1, c2, c3, l0⟩ | exact kk6.out | exact kk7.out _ _ _) (first | (go_at_call 35; rw [hW5.out]; refine hcl5.out.mono ?_; rintro e w6 ⟨g, v, rfl, hr6, hf6, ht6⟩; obtain ⟨A6, n6, d6, A7, n7, d7, rfl, hr7⟩ := hr6; have Hr := Lib.hid hr7; have Hf6 := Lib.hid hf6; have Ht6 := Lib.hid ht6; have Ht7 := Lib.hid (h5.out.2.trans ht6); clear hr7 hf6 ht6; have k6 := hc.out.at_ Ht7.out; have s0 := tri_cell k6.2.1; have sf := fun i => d_frozen (i := i) k6.2.1; have kk6 := Lib.hid (hc.out.cells Ht7.out (i := 3) rfl); have kk7 := Lib.hid (fun x y z => hc.out.cells2 Ht7.out (i := 3) rfl x y z); clear k6))
  go_wp2
  refine ret_res rfl R _ _ _ _ (0, 0) rfl (tri_set _ _ _ (hc.out.at_ Ht7.out).2.1) rfl ?_
  exact ⟨g, hc.out.done h5.out.2 Ht6.out Hf6.out _ _ _ ⟨A6, n6, d6, A7, n7, d7, rfl, Hr.out⟩⟩
end
end Go.Proofs.YtbhmnmmockmibaaGreat
