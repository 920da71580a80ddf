/- The walk of is: is a file the reference's? Conditions: files of at most 1000 parts of 100000 bytes. -/
import Derived.Test.YtnlcohijopokjaaExP
namespace Go.Proofs.Ytnlcohijopokjaa
open Go.RowKit

section
variable {b : Act} {w : World} {o : Oper}
theorem exec_lenB {x : Operand} {A : Option Addr} {n c : Nat} (ho : o.op = .call { callee := .builtin .len, args := #[x], argTypes := #[26] }) (h : b.eval x = .slice A n c) : (execOp b.eval o).run Try.prog w = .ok (.value (.int .i64 (n : Int))) w := by
  unfold execOp
  simp only [ho, resolve, invoke, builtin, Sem.run_bind, Sem.run_pure, Result.andThen_ok, List.map_toArray, List.map_cons, List.map_nil, h]
  go_simp
theorem exec_eqInt {x y : Operand} {i : Int} (ho : o.op = .binOp .eql 3 x y 3) (h : b.eval x = .int .i64 i) (h' : b.eval y = .int .i64 i) : (execOp b.eval o).run Try.prog w = .ok (.value (.bool true)) w := by
  unfold execOp
  simp only [ho, h, h']
  go_simp
theorem exec_neInt {x y : Operand} {i : Int} (ho : o.op = .binOp .neq 3 x y 3) (h : b.eval x = .int .i64 i) (h' : b.eval y = .int .i64 i) : (execOp b.eval o).run Try.prog w = .ok (.value (.bool false)) w := by
  unfold execOp
  simp only [ho, h, h']
  go_simp
end
theorem enter_lref (w : World) (args : Array Value) : (callFunc 31 args).run Try.prog w = .ok (.enter 31 args) w := by kernel_rfl
theorem enter_lsame (w : World) (args : Array Value) : (callFunc 30 args).run Try.prog w = .ok (.enter 30 args) w := by kernel_rfl
theorem enter_rbytes (w : World) (args : Array Value) : (callFunc 32 args).run Try.prog w = .ok (.enter 32 args) w := by kernel_rfl
theorem enter_bytes (w : World) (args : Array Value) : (callFunc 21 args).run Try.prog w = .ok (.enter 21 args) w := by kernel_rfl
theorem enter_len (w : World) (args : Array Value) : (callFunc 20 args).run Try.prog w = .ok (.enter 20 args) w := by kernel_rfl
theorem enter_vol (w : World) (args : Array Value) : (callFunc 22 args).run Try.prog w = .ok (.enter 22 args) w := by kernel_rfl
theorem enter_rvol (w : World) (args : Array Value) : (callFunc 33 args).run Try.prog w = .ok (.enter 33 args) w := by kernel_rfl
theorem enter_sb (w : World) (args : Array Value) : (callFunc 23 args).run Try.prog w = .ok (.enter 23 args) w := by kernel_rfl
section
variable {w : World} {X Y : Nat → Prop} {v u : Value} {m : List Pt} {l : List UInt8} {nm vm : Nat}
theorem lrefX (hm : SmM m) (hv : FileV w X v m) : Calls Try.prog 31 #[.agg #[v]] w fun e w' => ∃ u, e = .returned u ∧ Below w.heap.size w w' ∧ ∃ u', u = .agg #[u'] ∧ FileV w' (fun _ => False) u' m := by
  obtain ⟨A, c, ps, rfl, hc, hp, rfl⟩ := hv
  refine (lref_any hm hp).mono ?_
  rintro e w' ⟨u, rfl, hb, hf⟩
  exact ⟨_, rfl, hb, u, rfl, hf.mono fun _ _ h => h.elim⟩
theorem lsameX (hm : SmM m) (hv : FileV w X v m) (hu : FileV w Y u m) : Calls Try.prog 30 #[.agg #[v], .agg #[u]] w fun e w' => ∃ r, e = .returned r ∧ Below w.heap.size w w' ∧ r = .bool true := by
  obtain ⟨A, c, ps, rfl, hc, hp, rfl⟩ := hv
  obtain ⟨A', c', qs, rfl, hc', hq, he⟩ := hu
  refine (lsame_any hm (by rw [he]; exact hm) hp hq).mono ?_
  rintro e w' ⟨rfl, hb⟩
  exact ⟨_, rfl, hb, by rw [decide_eq_true he.symm]⟩
theorem rbytesX (hm : SmM m) (hl : contM m = l) (hn : l.length = nm) (hv : FileV w X v m) : Calls Try.prog 32 #[.agg #[v]] w fun e w' => ∃ u, e = .returned u ∧ Below w.heap.size w w' ∧ ∃ A c, u = .slice A nm c ∧ RdB w' w'.heap.size A l := by
  obtain ⟨A, c, ps, rfl, hc, hp, rfl⟩ := hv
  subst hl hn
  refine (rbytes_any A c ps w hm hp).mono ?_
  rintro e w' ⟨u, rfl, hown, hb⟩
  obtain ⟨A2, c2, rfl, _, _, hr⟩ := own_form hown
  exact ⟨_, rfl, hb, A2, c2, rfl, hr⟩
theorem bytesX (hm : SmM m) (hl : contM m = l) (hn : l.length = nm) (hv : FileV w X v m) : Calls Try.prog 21 #[.agg #[v]] w fun e w' => ∃ u, e = .returned u ∧ Below w.heap.size w w' ∧ ∃ A c, u = .slice A nm c ∧ RdB w' w'.heap.size A l := by
  obtain ⟨A, c, ps, rfl, hc, hp, rfl⟩ := hv
  subst hl hn
  refine (bytes_any A c ps w hm hp).mono ?_
  rintro e w' ⟨u, rfl, hown, hb⟩
  obtain ⟨A2, c2, rfl, _, _, hr⟩ := own_form hown
  exact ⟨_, rfl, hb, A2, c2, rfl, hr⟩
theorem lenX (hm : SmM m) (hl : contM m = l) (hn : l.length = nm) (hv : FileV w X v m) : Calls Try.prog 20 #[.agg #[v]] w fun e w' => ∃ u, e = .returned u ∧ Below w.heap.size w w' ∧ u = .int .i64 (nm : Int) := by
  obtain ⟨A, c, ps, rfl, hc, hp, rfl⟩ := hv
  subst hl hn
  refine (len_any A c ps w hm hp).mono ?_
  rintro e w' ⟨rfl, hb⟩
  exact ⟨_, rfl, hb, rfl⟩
theorem volX (hm : SmM m) (hn : volM m = vm) (hv : FileV w X v m) : Calls Try.prog 22 #[.agg #[v]] w fun e w' => ∃ u, e = .returned u ∧ Below w.heap.size w w' ∧ u = .int .i64 (vm : Int) := by
  obtain ⟨A, c, ps, rfl, hc, hp, rfl⟩ := hv
  subst hn
  refine (vol_any A c ps w hm hp).mono ?_
  rintro e w' ⟨rfl, hb⟩
  exact ⟨_, rfl, hb, rfl⟩
theorem rvolX (hm : SmM m) (hn : volM m = vm) (hv : FileV w X v m) : Calls Try.prog 33 #[.agg #[v]] w fun e w' => ∃ u, e = .returned u ∧ Below w.heap.size w w' ∧ u = .int .i64 (vm : Int) := by
  obtain ⟨A, c, ps, rfl, hc, hp, rfl⟩ := hv
  subst hn
  refine (rvol_any A c ps w hm hp).mono ?_
  rintro e w' ⟨rfl, hb⟩
  exact ⟨_, rfl, hb, rfl⟩
theorem sbX {A A' : Option Addr} {c c' B B' : Nat} (hn : l.length = nm) (hle : nm ≤ 140737488351232) (hr : RdB w B A l) (hr' : RdB w B' A' l) : Calls Try.prog 23 #[.slice A nm c, .slice A' nm c'] w fun e w' => ∃ u, e = .returned u ∧ Below w.heap.size w w' ∧ u = .bool true := by
  subst hn
  refine (sameBytes_any A A' c c' B B' l l w hle hr hr').mono ?_
  rintro e w' ⟨rfl, n, rfl⟩
  exact ⟨_, rfl, below_drewN (.refl _ _) n, by rw [decide_eq_true rfl]⟩
end
def IsF (m : List Pt) (l : List UInt8) (nm vm : Nat) (Af : Option Addr) (nf cf : Nat) (Ar : Option Addr) (nr cr : Nat) (Ab : Option Addr) (nb cb : Nat) : Nat → Value → World → Prop
  | 0, v, _ => v = .agg #[.slice Af nf cf]
  | 1, v, w => ∃ u, v = .agg #[u] ∧ FileV w (fun _ => False) u m
  | 2, v, _ => v = .agg #[.slice Ar nr cr]
  | 3, v, _ => v = .bool true
  | 4, v, _ => v = .bool true
  | 5, v, _ => v = .slice Ab nb cb
  | 6, v, _ => v = .agg #[.slice Ar nr cr]
  | 7, v, w => ∃ A c, v = .slice A nm c ∧ RdB w w.heap.size A l
  | 8, v, _ => v = .bool true
  | 9, v, _ => v = .bool true
  | 10, v, _ => v = .bool true
  | 11, v, _ => v = .agg #[.slice Af nf cf]
  | 12, v, _ => v = .int .i64 (nm : Int)
  | 13, v, _ => v = .agg #[.slice Ar nr cr]
  | 14, v, w => ∃ A c, v = .slice A nm c ∧ RdB w w.heap.size A l
  | 15, v, _ => v = .int .i64 (nm : Int)
  | 16, v, _ => v = .bool true
  | 17, v, _ => v = .bool true
  | 18, v, _ => v = .bool true
  | 19, v, _ => v = .agg #[.slice Af nf cf]
  | 20, v, _ => v = .int .i64 (vm : Int)
  | 21, v, _ => v = .agg #[.slice Ar nr cr]
  | 22, v, _ => v = .int .i64 (vm : Int)
  | 23, v, _ => v = .bool true
  | 24, v, _ => v = .bool true
  | 25, v, _ => v = .bool true
  | _, _, _ => True
theorem IsF.keep {m : List Pt} {l : List UInt8} {nm vm : Nat} {Af : Option Addr} {nf cf : Nat} {Ar : Option Addr} {nr cr : Nat} {Ab : Option Addr} {nb cb : Nat} (j : Nat) (u : Value) (w w' : World) (hb : Below w.heap.size w w') (hfact : IsF m l nm vm Af nf cf Ar nr cr Ab nb cb j u w) : IsF m l nm vm Af nf cf Ar nr cr Ab nb cb j u w' :=
  match j, hfact with
  | 0, h => h
  | 1, h => by obtain ⟨u, e, h⟩ := h; exact ⟨u, e, h.below hb⟩
  | 2, h => h
  | 3, h => h
  | 4, h => h
  | 5, h => h
  | 6, h => h
  | 7, h => by obtain ⟨A, c, e, h⟩ := h; exact ⟨A, c, e, (Reads.below h hb).more hb.size⟩
  | 8, h => h
  | 9, h => h
  | 10, h => h
  | 11, h => h
  | 12, h => h
  | 13, h => h
  | 14, h => by obtain ⟨A, c, e, h⟩ := h; exact ⟨A, c, e, (Reads.below h hb).more hb.size⟩
  | 15, h => h
  | 16, h => h
  | 17, h => h
  | 18, h => h
  | 19, h => h
  | 20, h => h
  | 21, h => h
  | 22, h => h
  | 23, h => h
  | 24, h => h
  | 25, h => h
  | _ + 26, h => h
def ItF (l : List UInt8) (nm : Nat) (Af : Option Addr) (nf cf : Nat) (Ar : Option Addr) (nr cr : Nat) : Nat → Value → World → Prop
  | 0, v, _ => v = .bool true
  | 1, v, _ => v = .bool true
  | 2, v, _ => v = .agg #[.slice Af nf cf]
  | 3, v, w => ∃ A c, v = .slice A nm c ∧ RdB w w.heap.size A l
  | 4, v, _ => v = .agg #[.slice Ar nr cr]
  | 5, v, w => ∃ A c, v = .slice A nm c ∧ RdB w w.heap.size A l
  | 6, v, _ => v = .bool true
  | 7, v, _ => v = .bool true
  | 8, v, _ => v = .bool true
  | _, _, _ => True
theorem ItF.keep {l : List UInt8} {nm : Nat} {Af : Option Addr} {nf cf : Nat} {Ar : Option Addr} {nr cr : Nat} (j : Nat) (u : Value) (w w' : World) (hb : Below w.heap.size w w') (hfact : ItF l nm Af nf cf Ar nr cr j u w) : ItF l nm Af nf cf Ar nr cr j u w' :=
  match j, hfact with
  | 0, h => h
  | 1, h => h
  | 2, h => h
  | 3, h => by obtain ⟨A, c, e, h⟩ := h; exact ⟨A, c, e, (Reads.below h hb).more hb.size⟩
  | 4, h => h
  | 5, h => by obtain ⟨A, c, e, h⟩ := h; exact ⟨A, c, e, (Reads.below h hb).more hb.size⟩
  | 6, h => h
  | 7, h => h
  | 8, h => h
  | _ + 9, h => h

set_option maxHeartbeats 2000000 in
set_option maxRecDepth 100000 in
theorem is_any {X Y : Nat → Prop} {v u : Value} {m : List Pt} {w : World} (hm : SmM m) (hv : FileV w X v m) (hu : FileV w Y u m) :
    Calls Try.prog 19 #[.agg #[v], .agg #[u]] w fun e w' => e = .returned (.bool true) ∧ Below w.heap.size w w' := by
  obtain ⟨Af, cf, pf, rfl, _, _, _⟩ := id hv
  obtain ⟨Ar, cr, pr, rfl, _, _, _⟩ := id hu
  obtain ⟨nf, hnf⟩ : ∃ n, Hid (pf.length = n) := ⟨_, rfl⟩
  obtain ⟨nr, hnr⟩ : ∃ n, Hid (pr.length = n) := ⟨_, rfl⟩
  rw [hnf.out] at hv ⊢
  rw [hnr.out] at hu ⊢
  obtain ⟨l, hl⟩ : ∃ l, Hid (contM m = l) := ⟨_, rfl⟩
  obtain ⟨nm, hnm⟩ : ∃ n, Hid (l.length = n) := ⟨_, rfl⟩
  obtain ⟨vm, hvm⟩ : ∃ n, Hid (volM m = n) := ⟨_, rfl⟩
  have hnmle : Hid (nm ≤ 140737488351232) := by rw [← hnm.out, ← hl.out]; have := contM_le' hm; show _ ≤ _; omega
  have Hsm := Lib.hid hm
  obtain ⟨ga, h0⟩ : ∃ g, Hid (w.heap.size = g) := ⟨_, rfl⟩
  obtain ⟨gb, h1⟩ : ∃ g, Hid (w.heap.size + 1 = g) := ⟨_, rfl⟩
  obtain ⟨W, hW⟩ : ∃ W, Hid ((w.alloc (.cells #[.slice Af nf cf] 30)).alloc (.cells #[.slice Ar nr cr] 34) = W) := ⟨_, rfl⟩
  have hbW : Hid (Below w.heap.size w W) := by rw [← hW.out]; exact (below_new _ _).alloc (by simp) _
  have fa : Hid (W.heap[ga]? = some (.cells #[.slice Af nf cf] 30 (0, 0))) := by
    rw [← hW.out, ← h0.out]; show _ = _
    rw [heap_alloc_old _ _ (by simp)]
    exact heap_alloc_new _ _
  have fb : Hid (W.heap[gb]? = some (.cells #[.slice Ar nr cr] 34 (0, 0))) := by
    rw [← hW.out, ← h1.out]; show _ = _
    have := heap_alloc_new (w.alloc (.cells #[.slice Af nf cf] 30)) (.cells #[.slice Ar nr cr] 34)
    simpa using this
  have hvW := Lib.hid (hv.below hbW.out)
  have huW := Lib.hid (hu.below hbW.out)
  have hcall : Calls Try.prog 21 #[.agg #[.slice Af nf cf]] W fun e w' => ∃ v, e = .returned v ∧ w'.ownsRow W.heap.size 5 1 v nm (bs l) ∧ Below W.heap.size W w' := by
    obtain ⟨A', c', ps', e, _, hp, hsy⟩ := hvW.out
    injection e with e1 e2 e3
    subst e1 e2 e3
    have := bytes_any _ cf ps' W (by rw [hsy]; exact hm) hp
    rw [hsy, hl.out, hnm.out] at this
    exact this
  have Hcall := Lib.hid hcall
  have ca0 := box_cell fa.out
  clear hm hv hu hcall
  go_enter Try.func19, Try.ntmps19
  go_upto_region 1 with fail
  rw [hW.out, h1.out, h0.out]
  go_upto_region 2 with (go_at_call 21; refine Hcall.out.mono ?_; rintro e w1 ⟨v1, rfl, hown1, hb1⟩; obtain ⟨Ab, cb, rfl, _, _, hrb⟩ := own_form hown1; have Hown1 := Lib.hid hown1; have Hb : Hid (RdB w1 w1.heap.size Ab l) := (by show Reads _ _ _ _ _ _; rw [hnm.out]; exact hrb); have Hb1 := Lib.hid hb1; clear hown1 hrb hb1)
  have Hf := Lib.hid (hvW.out.below Hb1.out)
  have Hr := Lib.hid (huW.out.below Hb1.out)
  have f1a := Lib.hid ((Hb1.out.block ga (Array.getElem?_eq_some_iff.1 fa.out).1).trans fa.out)
  have f1b := Lib.hid ((Hb1.out.block gb (Array.getElem?_eq_some_iff.1 fb.out).1).trans fb.out)
  have ca := Lib.hid (box_cell f1a.out)
  have cb0 := Lib.hid (box_cell f1b.out)
  have hal : Hid (ga < w1.heap.size) := (Array.getElem?_eq_some_iff.1 f1a.out).1
  have hbl : Hid (gb < w1.heap.size) := (Array.getElem?_eq_some_iff.1 f1b.out).1
  clear ca0
  go_cut [6] from 9 to 33 (fun s wx => s = .bool true ∧ Below w1.heap.size w1 wx)
  case first =>
    rename_i J K1 hJ hK
    refine wp_region_facts (n := 44) (IsF m l nm vm Af nf cf Ar nr cr Ab nm cb) (BelC w1) (by kernel_rfl) (by kernel_rfl) rfl ?_ ?_ ?_
    · exact (Below.refl _ _).drew
    rotate_left
    · intro b' w' hsz hd hs hc hall
      have e25 : b'.tmps.getD 6 undef = .bool true := hall 25 _ _ rfl rfl
      refine hK _ _ (Met.intro (hJ _ _ ?_))
      exact ⟨b'.tmps.getD 6 undef, b'.tmps.getD 9 undef, b'.tmps.getD 10 undef, b'.tmps.getD 11 undef, b'.tmps.getD 12 undef, b'.tmps.getD 13 undef, b'.tmps.getD 14 undef, b'.tmps.getD 15 undef, b'.tmps.getD 16 undef, b'.tmps.getD 17 undef, b'.tmps.getD 18 undef, b'.tmps.getD 19 undef, b'.tmps.getD 20 undef, b'.tmps.getD 21 undef, b'.tmps.getD 22 undef, b'.tmps.getD 23 undef, b'.tmps.getD 24 undef, b'.tmps.getD 25 undef, b'.tmps.getD 26 undef, b'.tmps.getD 27 undef, b'.tmps.getD 28 undef, b'.tmps.getD 29 undef, b'.tmps.getD 30 undef, b'.tmps.getD 31 undef, b'.tmps.getD 32 undef, b'.tmps.getD 33 undef, ⟨e25, hc⟩, (act_known hsz hd hs).trans (by kernel_rfl)⟩
    refine OpsOk.cons _ _ (OpOk.run _ _ IsF.keep BelC.keep fun b v hs hc hg => ⟨rfl, _, _, exec_loadFileE rfl (hs 2 (by kernel_rfl)) ((hc.cell (p := ⟨ga, 0, none⟩) hal.out).trans ca.out), .refl _ _, rfl⟩) ?_
    refine OpsOk.cons _ _ (OpOk.call _ _ IsF.keep BelC.keep fun b v hs hc hg => ⟨rfl, _, _, exec_call1 (enter_lref _) rfl (dep hg 0 rfl rfl rfl rfl), lrefX Hsm.out (Hf.out.below hc)⟩) ?_
    refine OpsOk.cons _ _ (OpOk.run _ _ IsF.keep BelC.keep fun b v hs hc hg => ⟨rfl, _, _, exec_loadFile rfl (hs 3 (by kernel_rfl)) ((hc.cell (p := ⟨gb, 0, none⟩) hbl.out).trans cb0.out), .refl _ _, rfl⟩) ?_
    refine OpsOk.cons _ _ (OpOk.call _ _ IsF.keep BelC.keep fun b v hs hc hg => by
        obtain ⟨u3, e3, h3⟩ : IsF m l nm vm Af nf cf Ar nr cr Ab nm cb 1 (b.tmps.getD 10 undef) v := (dep hg 0 rfl rfl rfl rfl)
        exact ⟨rfl, _, _, exec_call2 (enter_lsame _) rfl e3 (dep hg 1 rfl rfl rfl rfl), lsameX Hsm.out h3 (Hr.out.below hc)⟩) ?_
    refine OpsOk.cons _ _ (OpOk.run _ _ IsF.keep BelC.keep fun b v hs hc hg => ⟨rfl, _, _, exec_move rfl (dep hg 0 rfl rfl rfl rfl), .refl _ _, rfl⟩) ?_
    refine OpsOk.cons _ _ (OpOk.run _ _ IsF.keep BelC.keep fun b v hs hc hg => ⟨wanted_of rfl rfl rfl (dep hg 0 rfl rfl rfl rfl), _, _, exec_move rfl (hs 5 (by kernel_rfl)), .refl _ _, rfl⟩) ?_
    refine OpsOk.cons _ _ (OpOk.run _ _ IsF.keep BelC.keep fun b v hs hc hg => ⟨wanted_of rfl rfl rfl (dep hg 0 rfl rfl rfl rfl), _, _, exec_loadFile rfl (hs 3 (by kernel_rfl)) ((hc.cell (p := ⟨gb, 0, none⟩) hbl.out).trans cb0.out), .refl _ _, rfl⟩) ?_
    refine OpsOk.cons _ _ (OpOk.call _ _ IsF.keep BelC.keep fun b v hs hc hg => ⟨wanted_of rfl rfl rfl (dep hg 1 rfl rfl rfl rfl), _, _, exec_call1 (enter_rbytes _) rfl (dep hg 0 rfl rfl rfl rfl), rbytesX Hsm.out hl.out hnm.out (Hr.out.below hc)⟩) ?_
    refine OpsOk.cons _ _ (OpOk.call _ _ IsF.keep BelC.keep fun b v hs hc hg => by
        obtain ⟨A3, c3, e3, h3⟩ : IsF m l nm vm Af nf cf Ar nr cr Ab nm cb 7 (b.tmps.getD 16 undef) v := (dep hg 1 rfl rfl rfl rfl)
        exact ⟨wanted_of rfl rfl rfl (dep hg 3 rfl rfl rfl rfl), _, _, exec_call2 (enter_sb _) rfl (dep hg 0 rfl rfl rfl rfl) e3, sbX hnm.out hnmle.out (Reads.below Hb.out hc) h3⟩) ?_
    refine OpsOk.cons _ _ (OpOk.run _ _ IsF.keep BelC.keep fun b v hs hc hg => ⟨rfl, _, _, exec_pick rfl (dep hg 0 rfl rfl rfl rfl) (dep hg 1 rfl rfl rfl rfl), .refl _ _, rfl⟩) ?_
    refine OpsOk.cons _ _ (OpOk.run _ _ IsF.keep BelC.keep fun b v hs hc hg => ⟨rfl, _, _, exec_move rfl (dep hg 0 rfl rfl rfl rfl), .refl _ _, rfl⟩) ?_
    refine OpsOk.cons _ _ (OpOk.run _ _ IsF.keep BelC.keep fun b v hs hc hg => ⟨wanted_of rfl rfl rfl (dep hg 0 rfl rfl rfl rfl), _, _, exec_loadFileE rfl (hs 2 (by kernel_rfl)) ((hc.cell (p := ⟨ga, 0, none⟩) hal.out).trans ca.out), .refl _ _, rfl⟩) ?_
    refine OpsOk.cons _ _ (OpOk.call _ _ IsF.keep BelC.keep fun b v hs hc hg => ⟨wanted_of rfl rfl rfl (dep hg 1 rfl rfl rfl rfl), _, _, exec_call1 (enter_len _) rfl (dep hg 0 rfl rfl rfl rfl), lenX Hsm.out hl.out hnm.out (Hf.out.below hc)⟩) ?_
    refine OpsOk.cons _ _ (OpOk.run _ _ IsF.keep BelC.keep fun b v hs hc hg => ⟨wanted_of rfl rfl rfl (dep hg 0 rfl rfl rfl rfl), _, _, exec_loadFile rfl (hs 3 (by kernel_rfl)) ((hc.cell (p := ⟨gb, 0, none⟩) hbl.out).trans cb0.out), .refl _ _, rfl⟩) ?_
    refine OpsOk.cons _ _ (OpOk.call _ _ IsF.keep BelC.keep fun b v hs hc hg => ⟨wanted_of rfl rfl rfl (dep hg 2 rfl rfl rfl rfl), _, _, exec_call1 (enter_rbytes _) rfl (dep hg 0 rfl rfl rfl rfl), rbytesX Hsm.out hl.out hnm.out (Hr.out.below hc)⟩) ?_
    refine OpsOk.cons _ _ (OpOk.run _ _ IsF.keep BelC.keep fun b v hs hc hg => by
        obtain ⟨A3, c3, e3, h3⟩ : IsF m l nm vm Af nf cf Ar nr cr Ab nm cb 14 (b.tmps.getD 23 undef) v := (dep hg 0 rfl rfl rfl rfl)
        exact ⟨wanted_of rfl rfl rfl (dep hg 1 rfl rfl rfl rfl), _, _, exec_lenB rfl e3, .refl _ _, rfl⟩) ?_
    refine OpsOk.cons _ _ (OpOk.run _ _ IsF.keep BelC.keep fun b v hs hc hg => ⟨wanted_of rfl rfl rfl (dep hg 2 rfl rfl rfl rfl), _, _, exec_eqInt rfl (dep hg 0 rfl rfl rfl rfl) (dep hg 1 rfl rfl rfl rfl), .refl _ _, rfl⟩) ?_
    refine OpsOk.cons _ _ (OpOk.run _ _ IsF.keep BelC.keep fun b v hs hc hg => ⟨rfl, _, _, exec_pick rfl (dep hg 0 rfl rfl rfl rfl) (dep hg 1 rfl rfl rfl rfl), .refl _ _, rfl⟩) ?_
    refine OpsOk.cons _ _ (OpOk.run _ _ IsF.keep BelC.keep fun b v hs hc hg => ⟨rfl, _, _, exec_move rfl (dep hg 0 rfl rfl rfl rfl), .refl _ _, rfl⟩) ?_
    refine OpsOk.cons _ _ (OpOk.run _ _ IsF.keep BelC.keep fun b v hs hc hg => ⟨wanted_of rfl rfl rfl (dep hg 0 rfl rfl rfl rfl), _, _, exec_loadFileE rfl (hs 2 (by kernel_rfl)) ((hc.cell (p := ⟨ga, 0, none⟩) hal.out).trans ca.out), .refl _ _, rfl⟩) ?_
    refine OpsOk.cons _ _ (OpOk.call _ _ IsF.keep BelC.keep fun b v hs hc hg => ⟨wanted_of rfl rfl rfl (dep hg 1 rfl rfl rfl rfl), _, _, exec_call1 (enter_vol _) rfl (dep hg 0 rfl rfl rfl rfl), volX Hsm.out hvm.out (Hf.out.below hc)⟩) ?_
    refine OpsOk.cons _ _ (OpOk.run _ _ IsF.keep BelC.keep fun b v hs hc hg => ⟨wanted_of rfl rfl rfl (dep hg 0 rfl rfl rfl rfl), _, _, exec_loadFile rfl (hs 3 (by kernel_rfl)) ((hc.cell (p := ⟨gb, 0, none⟩) hbl.out).trans cb0.out), .refl _ _, rfl⟩) ?_
    refine OpsOk.cons _ _ (OpOk.call _ _ IsF.keep BelC.keep fun b v hs hc hg => ⟨wanted_of rfl rfl rfl (dep hg 2 rfl rfl rfl rfl), _, _, exec_call1 (enter_rvol _) rfl (dep hg 0 rfl rfl rfl rfl), rvolX Hsm.out hvm.out (Hr.out.below hc)⟩) ?_
    refine OpsOk.cons _ _ (OpOk.run _ _ IsF.keep BelC.keep fun b v hs hc hg => ⟨wanted_of rfl rfl rfl (dep hg 2 rfl rfl rfl rfl), _, _, exec_eqInt rfl (dep hg 0 rfl rfl rfl rfl) (dep hg 1 rfl rfl rfl rfl), .refl _ _, rfl⟩) ?_
    refine OpsOk.cons _ _ (OpOk.run _ _ IsF.keep BelC.keep fun b v hs hc hg => ⟨rfl, _, _, exec_pick rfl (dep hg 0 rfl rfl rfl rfl) (dep hg 1 rfl rfl rfl rfl), .refl _ _, rfl⟩) ?_
    refine OpsOk.cons _ _ (OpOk.run _ _ IsF.keep BelC.keep fun b v hs hc hg => ⟨rfl, _, _, exec_assign rfl (dep hg 0 rfl rfl rfl rfl), .refl _ _, rfl⟩) ?_
    exact OpsOk.nil _ _

  obtain ⟨rfl, hb2⟩ := hcut
  obtain ⟨w2, hw2⟩ : ∃ w2 : World, w2 = wc := ⟨_, rfl⟩
  subst hw2
  have Hb2 := Lib.hid hb2
  have Hsp := Lib.hid (spoil_any W.heap.size nm _ _ w2 hnmle.out (own_below Hown1.out hb2 (Nat.le_refl _)))
  clear hb2
  go_upto_region 4 with (go_at_call 11; refine Hsp.out.mono ?_; rintro e w3 ⟨rfl, _, hg3⟩; have Hg3 := Lib.hid hg3; clear hg3)
  have hb3 : Hid (Below W.heap.size W w3) := (Hb1.out.trans (Hb2.out.mono Hb1.out.size)).grown Hg3.out (Nat.le_trans Hb1.out.size Hb2.out.size) (fun k hk => (Hown1.out.lt k hk).1)
  have Hf := Lib.hid (hvW.out.below hb3.out)
  have Hr := Lib.hid (huW.out.below hb3.out)
  have f3a := Lib.hid ((hb3.out.block ga (Array.getElem?_eq_some_iff.1 fa.out).1).trans fa.out)
  have f3b := Lib.hid ((hb3.out.block gb (Array.getElem?_eq_some_iff.1 fb.out).1).trans fb.out)
  have ca := Lib.hid (box_cell f3a.out)
  have cb0 := Lib.hid (box_cell f3b.out)
  have hal : Hid (ga < w3.heap.size) := (Array.getElem?_eq_some_iff.1 f3a.out).1
  have hbl : Hid (gb < w3.heap.size) := (Array.getElem?_eq_some_iff.1 f3b.out).1
  go_cut [4] from 36 to 43 (fun s wx => s = .bool true ∧ Below w3.heap.size w3 wx)
  case first =>
    rename_i J K1 hJ hK
    refine wp_region_facts (n := 44) (ItF l nm Af nf cf Ar nr cr) (BelC w3) (by kernel_rfl) (by kernel_rfl) rfl ?_ ?_ ?_
    · exact (Below.refl _ _).drew
    rotate_left
    · intro b' w' hsz hd hs hc hall
      have e8 : b'.tmps.getD 4 undef = .bool true := hall 8 _ _ rfl rfl
      refine hK _ _ (Met.intro (hJ _ _ ?_))
      exact ⟨b'.tmps.getD 4 undef, b'.tmps.getD 36 undef, b'.tmps.getD 37 undef, b'.tmps.getD 38 undef, b'.tmps.getD 39 undef, b'.tmps.getD 40 undef, b'.tmps.getD 41 undef, b'.tmps.getD 42 undef, b'.tmps.getD 43 undef, ⟨e8, hc⟩, (act_known hsz hd hs).trans (by kernel_rfl)⟩
    refine OpsOk.cons _ _ (OpOk.run _ _ ItF.keep BelC.keep fun b v hs hc hg => ⟨rfl, _, _, exec_move rfl (hs 6 (by kernel_rfl)), .refl _ _, rfl⟩) ?_
    refine OpsOk.cons _ _ (OpOk.run _ _ ItF.keep BelC.keep fun b v hs hc hg => ⟨rfl, _, _, exec_move rfl (dep hg 0 rfl rfl rfl rfl), .refl _ _, rfl⟩) ?_
    refine OpsOk.cons _ _ (OpOk.run _ _ ItF.keep BelC.keep fun b v hs hc hg => ⟨wanted_of rfl rfl rfl (dep hg 0 rfl rfl rfl rfl), _, _, exec_loadFileE rfl (hs 2 (by kernel_rfl)) ((hc.cell (p := ⟨ga, 0, none⟩) hal.out).trans ca.out), .refl _ _, rfl⟩) ?_
    refine OpsOk.cons _ _ (OpOk.call _ _ ItF.keep BelC.keep fun b v hs hc hg => ⟨wanted_of rfl rfl rfl (dep hg 1 rfl rfl rfl rfl), _, _, exec_call1 (enter_bytes _) rfl (dep hg 0 rfl rfl rfl rfl), bytesX Hsm.out hl.out hnm.out (Hf.out.below hc)⟩) ?_
    refine OpsOk.cons _ _ (OpOk.run _ _ ItF.keep BelC.keep fun b v hs hc hg => ⟨wanted_of rfl rfl rfl (dep hg 0 rfl rfl rfl rfl), _, _, exec_loadFile rfl (hs 3 (by kernel_rfl)) ((hc.cell (p := ⟨gb, 0, none⟩) hbl.out).trans cb0.out), .refl _ _, rfl⟩) ?_
    refine OpsOk.cons _ _ (OpOk.call _ _ ItF.keep BelC.keep fun b v hs hc hg => ⟨wanted_of rfl rfl rfl (dep hg 2 rfl rfl rfl rfl), _, _, exec_call1 (enter_rbytes _) rfl (dep hg 0 rfl rfl rfl rfl), rbytesX Hsm.out hl.out hnm.out (Hr.out.below hc)⟩) ?_
    refine OpsOk.cons _ _ (OpOk.call _ _ ItF.keep BelC.keep fun b v hs hc hg => by
        obtain ⟨A2, c2, e2, h2⟩ : ItF l nm Af nf cf Ar nr cr 3 (b.tmps.getD 39 undef) v := (dep hg 0 rfl rfl rfl rfl)
        obtain ⟨A3, c3, e3, h3⟩ : ItF l nm Af nf cf Ar nr cr 5 (b.tmps.getD 41 undef) v := (dep hg 1 rfl rfl rfl rfl)
        exact ⟨wanted_of rfl rfl rfl (dep hg 3 rfl rfl rfl rfl), _, _, exec_call2 (enter_sb _) rfl e2 e3, sbX hnm.out hnmle.out h2 h3⟩) ?_
    refine OpsOk.cons _ _ (OpOk.run _ _ ItF.keep BelC.keep fun b v hs hc hg => ⟨rfl, _, _, exec_pick rfl (dep hg 0 rfl rfl rfl rfl) (dep hg 1 rfl rfl rfl rfl), .refl _ _, rfl⟩) ?_
    refine OpsOk.cons _ _ (OpOk.run _ _ ItF.keep BelC.keep fun b v hs hc hg => ⟨rfl, _, _, exec_assign rfl (dep hg 0 rfl rfl rfl rfl), .refl _ _, rfl⟩) ?_
    exact OpsOk.nil _ _

  obtain ⟨rfl, hb4⟩ := hcut
  go_wp2
  go_ret
  exact ⟨rfl, hbW.out.trans ((hb3.out.mono hbW.out.size).trans (hb4.mono (Nat.le_trans hbW.out.size hb3.out.size)))⟩
end Go.Proofs.Ytnlcohijopokjaa
