/- A look into the table of kinds, as Right, Put and Parse have it; the walk of Right. Conditions: none. -/
import Derived.Test.YtfhcpjnjemojgaaKRcL
namespace Go.Proofs.Ytfhcpjnjemojgaa
open Go.RowKit

theorem pair_one {x y : Value} (hx : x.oneCell' = true) (hy : y.oneCell' = true) : #[x, y].all (·.oneCell') = true := by simp [hx, hy]
theorem size_form : (Try.prog.info? 58).map (·.size) = some 2 := by kernel_rfl
/-- What is said of a kind, in a variable. -/
def FormBox (k : Nat) (v : Value) (w : World) : Prop := ∃ q, v = .pointer (some ⟨q, 0, none⟩) ∧ ∃ A c, w.heap[q]? = some (.cells #[.string (txt (wordOf k)), .slice A (parts k).length c] 58 (0, 0)) ∧ PartsAt w A (parts k)
theorem FormBox.keep {k : Nat} {v : Value} {w w' : World} (h : FormBox k v w) (hb : Below w.heap.size w w') : FormBox k v w' := by
  obtain ⟨q, e, A, c, hq, hp⟩ := h
  exact ⟨q, e, A, c, (hb.block q (Array.getElem?_eq_some_iff.1 hq).1).trans hq, hp.below hb⟩
/-- What the look's operations say. -/
def LookF (W0 : World) (p : Addr) (k : Nat) : Nat → Value → World → Prop
  | 0, v, w => FormsAt w v
  | 1, v, _ => v = .pointer (some p)
  | 2, v, _ => v = .int .u8 (k : Int)
  | 3, v, w | 4, v, w => ∃ fv, v = .tuple #[fv, .bool (isK k)] ∧ FormV w k fv
  | 5, v, w => FormV w k v
  | 6, v, _ | 9, v, _ => v = .bool (isK k)
  | 7, v, w => ∃ q, v = .pointer (some ⟨q, 0, none⟩) ∧ W0.heap.size ≤ q ∧ ∃ cs : Array Value, cs.size = 2 ∧ w.heap[q]? = some (.cells cs 58 (0, 0))
  | _, _, _ => True
theorem LookF.keep {W0 : World} {p : Addr} {k : Nat} (j : Nat) (u : Value) (w w' : World) (hb : Below w.heap.size w w') (h : LookF W0 p k j u w) : LookF W0 p k j u w' :=
  match j, h with
  | 0, h => FormsAt.keep h hb
  | 1, h | 2, h | 6, h | 8, h | 9, h => h
  | 3, h | 4, h => let ⟨fv, e, hf⟩ := h; ⟨fv, e, hf.keep (keep_below hb)⟩
  | 5, h => FormV.keep h (keep_below hb)
  | 7, h => let ⟨q, e, l, cs, hs, hq⟩ := h; ⟨q, e, l, cs, hs, (hb.block q (Array.getElem?_eq_some_iff.1 hq).1).trans hq⟩
  | _ + 10, h => h
theorem keep_setForm {w : World} {q : Nat} {cs x : Array Value} {fr : Nat × Nat} (hq : w.heap[q]? = some (.cells cs 58 fr)) : KeepP w (w.setRow q x) := by
  intro g c hg
  rw [setRow_other w q g x (by rintro rfl; rw [hq] at hg; simp at hg)]
  exact hg
theorem LookF.store {W0 : World} {p : Addr} {k : Nat} {j : Nat} {u : Value} {w : World} {q : Nat} {cs x : Array Value} (hq : w.heap[q]? = some (.cells cs 58 (0, 0))) (hx : x.size = 2) (h : LookF W0 p k j u w) : LookF W0 p k j u (w.setRow q x) :=
  match j, h with
  | 0, h => let ⟨m, es, c, e, hm, h1, h2⟩ := h; ⟨m, es, c, e, (setRow_other w q m x (by rintro rfl; rw [hq] at hm; cases hm)).trans hm, fun y hy => (let ⟨k, e, l1, l2, hf⟩ := h1 y hy; ⟨k, e, l1, l2, hf.keep (keep_setForm hq)⟩), h2⟩
  | 1, h | 2, h | 6, h | 8, h | 9, h => h
  | 3, h | 4, h => let ⟨fv, e, hf⟩ := h; ⟨fv, e, hf.keep (keep_setForm hq)⟩
  | 5, h => FormV.keep h (keep_setForm hq)
  | 7, h => let ⟨r, e, l, c, hs, hr⟩ := h; (by
      by_cases hrq : r = q
      · subst hrq
        exact ⟨r, e, l, x, hx, setRow_heap _ _ _ _ _ _ hq⟩
      · exact ⟨r, e, l, c, hs, (setRow_other w q r x hrq).trans hr⟩)
  | _ + 10, h => h
section
variable {b : Act} {w : World} {o : Oper}
theorem exec_look {x y : Operand} {v : Value} {k : Nat} {fv : Value} {c : Bool} (ho : o.op = .lookup 60 x y true) (h : b.eval x = v) (h' : b.eval y = .int .u8 (k : Int)) (hr : (Instr.lookup 60 v (.int .u8 (k : Int)) true).run Try.prog w = .ok (.tuple #[fv, .bool c]) w) : (execOp b.eval o).run Try.prog w = .ok (.value (.tuple #[fv, .bool c])) w := by
  unfold execOp
  simp only [ho, h, h']
  simp [hr, Result.andThen]
theorem exec_allocForm (ho : o.op = .alloc 58) : (execOp b.eval o).run Try.prog w = .ok (.value (.pointer (some ⟨w.heap.size, 0, none⟩))) (w.alloc (.cells #[.string ⟨#[]⟩, .slice none 0 0] 58)) := by
  unfold execOp
  simp only [ho]
  go_simp
theorem exec_fieldForm {x : Operand} {g : Nat} (ho : o.op = .fieldAddr 58 x 1) (h : b.eval x = .pointer (some ⟨g, 0, none⟩)) : (execOp b.eval o).run Try.prog w = .ok (.value (.pointer (some ⟨g, 1, none⟩))) w := by
  unfold execOp
  simp only [ho, h]
  go_simp
end
set_option maxHeartbeats 2000000 in
set_option maxRecDepth 100000 in
theorem Right_any (x : Rc) (w : World) : Calls Try.prog 14 #[x.v] w fun e w' => e = .returned (.bool (rightM x)) ∧ Below w.heap.size w w' := by
  obtain ⟨W, hW⟩ : ∃ W, Hid (W = w.alloc (.cells x.cells.toArray 24)) := ⟨_, rfl⟩
  have hbW : Hid (Below w.heap.size w W) := by rw [hW.out]; exact below_new _ _
  have hx : Hid (RecAt x W w.heap.size) := by rw [hW.out]; exact recAt_new x w
  have hsz := Lib.hid (show W.heap.size = w.heap.size + 1 by rw [hW.out]; simp)
  have hlt := Lib.hid (show w.heap.size < W.heap.size by rw [hsz.out]; omega)
  have HW' := Lib.hid (show w.alloc (.cells #[.int .u8 (x.k : Int), .int .u64 (x.p : Int), .int .u64 (x.i : Int), .int .u64 (x.q : Int), .int .u64 (x.e : Int), .int .u64 (x.u : Int), .int .u64 (x.r : Int), .int .u64 (x.c : Int), .int .u64 (x.z : Int), .int .u64 (x.s : Int), .string (txt x.n), .string (txt x.t)] 24) = W from hW.out.symm)
  unfold Rc.v
  go_enter Try.func14, Try.ntmps14
  go_upto_region 1 with fail
  rw [HW'.out]
  go_cut [3, 4] from 3 to 11 (fun s u wx => u = .bool (isK x.k) ∧ Below W.heap.size W wx ∧ FormBox x.k s wx)
  case first =>
    rename_i J K1 hJ hK
    refine wp_region_ph (n := 19) (LookF W ⟨w.heap.size, 0, none⟩ x.k) (Ph 8 9 3 3 (fun w' => Below W.heap.size W w') (fun v w' => Below W.heap.size W w' ∧ FormBox x.k v w') (fun v _ w' => Below W.heap.size W w' ∧ FormBox x.k v w')) (by kernel_rfl) (by kernel_rfl) rfl ?_ ?_ ?_
    · intro L hL
      exact Ph.start hL (Below.refl _ _).drew
    · have hA : ∀ u u' : World, Below u.heap.size u u' → Below W.heap.size W u → Below W.heap.size W u' := fun u u' hb h => h.trans (hb.mono h.size)
      refine OpsPh.cons _ _ (OpPh.preC (by decide) (by decide) (fun L hcl hn => have h8 : L.getD 8 false = false := notyet hcl (ho := rfl) (he := (rfl : _[2]? = _)) rfl hn; ⟨h8, notyet hcl (ho := rfl) (he := (rfl : _[1]? = _)) rfl h8⟩) LookF.keep hA fun b v hs hv hg => ⟨rfl, _, _, exec_call0 (enter_forms _) rfl, forms_any v⟩) ?_
      refine OpsPh.cons _ _ (OpPh.free (by decide) (by decide) rfl (by decide) fun b v hs hg => ⟨rfl, _, exec_fieldC 0 (by decide) rfl (hs 1 (by kernel_rfl)), rfl⟩) ?_
      refine OpsPh.cons _ _ (OpPh.pre (by decide) (by decide) (fun L hcl hn => have h8 : L.getD 8 false = false := notyet hcl (ho := rfl) (he := (rfl : _[5]? = _)) rfl hn; ⟨h8, notyet hcl (ho := rfl) (he := (rfl : _[1]? = _)) rfl h8⟩) LookF.keep hA fun b v hs hv hg => ⟨rfl, _, _, exec_load8 rfl (dep hg 0 rfl rfl rfl rfl) ((hv.cell (p := ⟨w.heap.size, 0, none⟩) hlt.out).trans (hx.out.cell 0)), .refl _ _, rfl⟩) ?_
      refine OpsPh.cons _ _ (OpPh.free (by decide) (by decide) rfl (by decide) fun b v hs hg => (by
        obtain ⟨fv, hf, hr⟩ := look_forms (dep hg 0 rfl rfl rfl rfl : LookF _ _ _ 0 _ _) x.k true
        exact ⟨rfl, _, exec_look rfl rfl (dep hg 1 rfl rfl rfl rfl) hr, fv, rfl, hf⟩)) ?_
      refine OpsPh.cons _ _ (OpPh.free (by decide) (by decide) rfl (by decide) fun b v hs hg => (by
        obtain ⟨fv, e, hf⟩ := (dep hg 0 rfl rfl rfl rfl : LookF _ _ _ 3 _ _)
        exact ⟨rfl, _, exec_move rfl e, fv, rfl, hf⟩)) ?_
      refine OpsPh.cons _ _ (OpPh.free (by decide) (by decide) rfl (by decide) fun b v hs hg => (by
        obtain ⟨fv, e, hf⟩ := (dep hg 0 rfl rfl rfl rfl : LookF _ _ _ 4 _ _)
        exact ⟨rfl, _, exec_ext 0 rfl e rfl, hf⟩)) ?_
      refine OpsPh.cons _ _ (OpPh.free (by decide) (by decide) rfl (by decide) fun b v hs hg => (by
        obtain ⟨fv, e, hf⟩ := (dep hg 0 rfl rfl rfl rfl : LookF _ _ _ 4 _ _)
        exact ⟨rfl, _, exec_ext 1 rfl e rfl, rfl⟩)) ?_
      refine OpsPh.cons _ _ (OpPh.pre (by decide) (by decide) (fun L hcl hn => have h8 : L.getD 8 false = false := notyet hcl (ho := rfl) (he := (rfl : _[0]? = _)) rfl hn; ⟨h8, notyet hcl (ho := rfl) (he := (rfl : _[1]? = _)) rfl h8⟩) LookF.keep hA fun b v hs hv hg => ⟨rfl, _, _, exec_allocForm rfl, below_new _ _, v.heap.size, rfl, hv.size, _, rfl, heap_alloc_new _ _⟩) ?_
      refine OpsPh.cons _ _ (OpPh.mid (by decide) (fun L hcl h8 => notyet hcl (ho := rfl) (he := (rfl : _[1]? = _)) rfl h8) fun b v hs hsz hv hg => ⟨rfl, ?_⟩) ?_
      · obtain ⟨q, e, hql, cs, hcs, hq⟩ := (dep hg 0 rfl rfl rfl rfl : LookF _ _ _ 7 _ _)
        obtain ⟨A, c, e5, _, hp⟩ := (dep hg 1 rfl rfl rfl rfl : LookF _ _ _ 5 _ _)
        refine wp_store_row 58 (.tmp 3) (.tmp 10) rfl q #[.string (txt (wordOf x.k)), .slice A (parts x.k).length c] e e5 _ cs hq size_form hcs (pair_one rfl rfl) ?_
        have hb' : Below W.heap.size W (v.setRow q #[.string (txt (wordOf x.k)), .slice A (parts x.k).length c]) := ⟨hv.os, hv.tape, hv.output, by rw [size_setRow]; exact hv.size, fun i hi => (setRow_other v q i _ (by omega)).trans (hv.block i hi)⟩
        exact ⟨undef, rfl, ⟨hb', q, e, A, c, setRow_heap _ _ _ _ _ _ hq, hp.keep (keep_setForm hq)⟩, fun h => by simp at h, fun j u hj h => h.store hq rfl⟩
      refine OpsPh.cons _ _ (OpPh.last (k := 1) rfl rfl rfl fun b v hs hsz hv hg => ⟨rfl, ?_⟩) (OpsPh.nil _ _)
      refine wp_valued (exec_assign rfl (dep hg 0 rfl rfl rfl rfl)) ⟨_, rfl, ?_, fun _ => rfl, fun j u hj h => h⟩
      rw [getD_put _ _ _ _ (by rw [hsz]; decide), if_neg (by decide)]
      exact hv
    · intro L b' w' hL hsz hd hs hC hall
      have h := hC.end_ (hL 9 (by decide))
      have h9 : b'.tmps.getD 4 undef = .bool (isK x.k) := (hall 9 _ _ rfl rfl : LookF _ _ _ 9 _ _)
      refine hK _ _ (Met.intro (hJ _ _ ?_))
      exact ⟨b'.tmps.getD 3 undef, b'.tmps.getD 4 undef, b'.tmps.getD 5 undef, b'.tmps.getD 6 undef, b'.tmps.getD 7 undef, b'.tmps.getD 8 undef, b'.tmps.getD 9 undef, b'.tmps.getD 10 undef, b'.tmps.getD 11 undef, ⟨h9, h⟩, (act_known hsz hd hs).trans (by kernel_rfl)⟩
  obtain ⟨rfl, hbc, q, rfl, A, c, hq, hp⟩ := hcut
  have hb : Below w.heap.size w wc := hbW.out.trans (hbc.mono (by rw [hsz.out]; omega))
  have hxc : RecAt x wc w.heap.size := hx.out.below hbc hlt.out
  have x0 : wc.cell? ⟨w.heap.size, 0, none⟩ = _ := hxc.cell 0
  have x1 : wc.cell? ⟨w.heap.size, 1, none⟩ = _ := hxc.cell 1
  have x2 : wc.cell? ⟨w.heap.size, 2, none⟩ = _ := hxc.cell 2
  have x3 : wc.cell? ⟨w.heap.size, 3, none⟩ = _ := hxc.cell 3
  have x4 : wc.cell? ⟨w.heap.size, 4, none⟩ = _ := hxc.cell 4
  have x5 : wc.cell? ⟨w.heap.size, 5, none⟩ = _ := hxc.cell 5
  have x6 : wc.cell? ⟨w.heap.size, 6, none⟩ = _ := hxc.cell 6
  have x7 : wc.cell? ⟨w.heap.size, 7, none⟩ = _ := hxc.cell 7
  have x8 : wc.cell? ⟨w.heap.size, 8, none⟩ = _ := hxc.cell 8
  have x9 : wc.cell? ⟨w.heap.size, 9, none⟩ = _ := hxc.cell 9
  have x10 : wc.cell? ⟨w.heap.size, 10, none⟩ = _ := hxc.cell 10
  have x11 : wc.cell? ⟨w.heap.size, 11, none⟩ = _ := hxc.cell 11
  simp only [Rc.cells, List.getElem?_cons_zero, List.getElem?_cons_succ] at x0 x1 x2 x3 x4 x5 x6 x7 x8 x9 x10 x11
  have q1 : wc.cell? ⟨q, 1, none⟩ = some (.slice A (parts x.k).length c) := cell_of_row wc q 1 _ _ _ hq
  have hM := rightM_eq x
  have Hb := Lib.hid hb
  clear hq hb hbc hxc
  cases hk : isK x.k
  · rw [hk, Bool.false_and] at hM
    have HM := Lib.hid hM
    clear hM
    go_wp2
    go_ret
    exact ⟨ret_bool HM.out.symm, Hb.out⟩
  · rw [hk, Bool.true_and] at hM
    have HM := Lib.hid hM
    have Hcall := Lib.hid (right_any x A c wc hp)
    clear hM hp
    go_wp2_with (go_at_call 31; refine Hcall.out.mono ?_; rintro e w2 ⟨rfl, hb2⟩)
    go_ret
    exact ⟨ret_bool HM.out.symm, Hb.out.trans (hb2.mono Hb.out.size)⟩
end Go.Proofs.Ytfhcpjnjemojgaa
