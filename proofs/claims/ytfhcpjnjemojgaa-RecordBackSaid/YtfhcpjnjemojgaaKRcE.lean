/- A part, visited by whoever goes through a record's parts: what comes of it is what comes of the visitor's own method, called at the part's place. Conditions: none. -/
import Derived.Test.YtfhcpjnjemojgaaKRcC
import Derived.Deep.CutRange
namespace Go.Proofs.Ytfhcpjnjemojgaa
open Go.RowKit Go.Lib

/-- Who visits: a type, a value, and what its method of a name is. -/
structure Disp (T : TypeId) (rv : Value) (name : String) (f : FuncId) : Prop where
  m : ∀ w, (method (Try.prog.types.size + Made.depth) T rv name).run Try.prog w = .ok (f, rv) w
  a : ∀ w, (nilAhead (Try.prog.types.size + Made.depth) T rv name).run Try.prog w = .ok (some false) w
  c : ∀ w args, (callFunc f args).run Try.prog w = .ok (.enter f args) w
theorem disp_wn (a : Addr) : Disp 66 (.pointer (some a)) "chartroom/record.number" 81 := ⟨fun _ => by kernel_rfl, fun _ => by kernel_rfl, fun _ _ => by kernel_rfl⟩
theorem disp_wt (a : Addr) : Disp 66 (.pointer (some a)) "chartroom/record.text" 82 := ⟨fun _ => by kernel_rfl, fun _ => by kernel_rfl, fun _ _ => by kernel_rfl⟩
theorem disp_rn (a : Addr) : Disp 76 (.pointer (some a)) "chartroom/record.number" 84 := ⟨fun _ => by kernel_rfl, fun _ => by kernel_rfl, fun _ _ => by kernel_rfl⟩
theorem disp_rt (a : Addr) : Disp 76 (.pointer (some a)) "chartroom/record.text" 85 := ⟨fun _ => by kernel_rfl, fun _ => by kernel_rfl, fun _ _ => by kernel_rfl⟩
theorem disp_en : Disp 89 (.agg #[]) "chartroom/record.number" 87 := ⟨fun _ => by kernel_rfl, fun _ => by kernel_rfl, fun _ _ => by kernel_rfl⟩
theorem disp_et : Disp 89 (.agg #[]) "chartroom/record.text" 88 := ⟨fun _ => by kernel_rfl, fun _ => by kernel_rfl, fun _ _ => by kernel_rfl⟩
section
variable {P : Program} {b : Act} {w w' : World} {o : Oper} {K : Act → World → Prop} {Q : Exit → Act → World → Prop}
theorem wp_entered {f : FuncId} {args : Array Value} (hr : (execOp b.eval o).run P w = .ok (.enter f args) w) (hc : Calls P f args w fun e w' => ∃ v, e = .returned v ∧ K (b.put o.dst v) w') : o.wp P b w K Q := by
  unfold Oper.wp
  rw [hr, Oper.upon_enter]
  refine hc.mono ?_
  rintro e w' ⟨v, rfl, h⟩
  exact h
theorem wp_valued {v : Value} (hr : (execOp b.eval o).run P w = .ok (.value v) w') (hk : K (b.put o.dst v) w') : o.wp P b w K Q := by
  unfold Oper.wp
  rw [hr, Oper.upon_value]
  exact hk
end
section
variable {b : Act} {w : World} {o : Oper}
theorem exec_invoke {T : TypeId} {rv : Value} {name : String} {f : FuncId} (hd : Disp T rv name f) {x y : Operand} {t : TypeId} {v : Value} (ho : o.op = .call { callee := .invoke x name, args := #[y], argTypes := #[t] }) (h : b.eval x = .iface T rv) (h' : b.eval y = v) : (execOp b.eval o).run Try.prog w = .ok (.enter f #[rv, v]) w := by
  subst h'
  have hm := hd.m w
  have hc := hd.c w
  unfold execOp
  simp at hm
  simp [ho, resolve, invoke, callMethod, h, hm, hc, Result.andThen]
theorem exec_method {x : Operand} {name : String} {v : Value} (ho : o.op = .makeFunc (.method name) #[x] #[]) (h : b.eval x = v) : (execOp b.eval o).run Try.prog w = .ok (.value (.func (.method name) #[v] #[])) w := by
  subst h
  unfold execOp
  simp [ho, Instr.makeFunc]
theorem exec_nilM {T : TypeId} {rv : Value} {name : String} {f : FuncId} (hd : Disp T rv name f) {x : Operand} (ho : o.op = .nilCheck x) (h : b.eval x = .func (.method name) #[.iface T rv] #[]) : (execOp b.eval o).run Try.prog w = .ok (.value (.func (.method name) #[.iface T rv] #[])) w := by
  have ha := hd.a w
  unfold execOp
  simp at ha
  simp [ho, h, ha, Result.andThen]
theorem exec_nilP {x : Operand} {a : Addr} (ho : o.op = .nilCheck x) (h : b.eval x = .pointer (some a)) : (execOp b.eval o).run Try.prog w = .ok (.value (.pointer (some a))) w := by
  unfold execOp
  simp [ho, h]
theorem exec_fieldC {x : Operand} {g : Nat} (i : Nat) (hi : i < 12) (ho : o.op = .fieldAddr 24 x i) (h : b.eval x = .pointer (some ⟨g, 0, none⟩)) : (execOp b.eval o).run Try.prog w = .ok (.value (.pointer (some ⟨g, i, none⟩))) w := by
  match i, hi with
  | 0, _ | 1, _ | 2, _ | 3, _ | 4, _ | 5, _ | 6, _ | 7, _ | 8, _ | 9, _ | 10, _ | 11, _ => unfold execOp; simp only [ho, h]; go_simp
end
/-- The last statement of a block: what follows the block follows it. -/
theorem wp_last {P : Program} {co : Code} {id : Nat} {K : Act → World → Prop} {Q' : Exit → Act → World → Prop} {a : Act} {w : World} (h : co.wp P (Exit.then K (Exit.inBlock id (Exit.then K Q'))) a w) : co.wp P (Exit.inBlock id (Exit.then K Q')) a w :=
  wp_mono h (fun e a w h => by cases e <;> exact h)
/-- What the visit's operations say. -/
def VisF (iv : Value) (g i : Nat) (name : String) : Nat → Value → World → Prop
  | 0, v, _ => v = iv
  | 1, v, _ => v = .pointer (some ⟨g, 0, none⟩)
  | 2, v, _ => v = .pointer (some ⟨g, 0, none⟩)
  | 3, v, _ => v = .pointer (some ⟨g, i, none⟩)
  | 4, v, _ => v = .func (.method name) #[iv] #[]
  | 5, v, _ => v = .func (.method name) #[iv] #[]
  | 6, v, _ => v = iv
  | _, _, _ => True
theorem VisF.world {iv : Value} {g i : Nat} {name : String} {j : Nat} {u : Value} {w w' : World} (h : VisF iv g i name j u w) : VisF iv g i name j u w' :=
  match j, h with
  | 0, h | 1, h | 2, h | 3, h | 4, h | 5, h | 6, h => h
  | _ + 7, h => h
set_option maxHeartbeats 2000000 in
set_option maxRecDepth 100000 in
theorem visit_0 {T : TypeId} {rv : Value} {f : FuncId} (hD : Disp T rv "chartroom/record.number" f) (g : Nat) (w : World) {R : Ending → World → Prop} (hc : Calls Try.prog f #[rv, .pointer (some ⟨g, 1, none⟩)] w.drew fun e w' => ∃ v, e = .returned v ∧ R e w') :
    Calls Try.prog 42 #[.iface T rv, .pointer (some ⟨g, 0, none⟩), .int .i64 0] w R := by
  go_enter Try.func42, Try.ntmps42
  go_upto_region 3 with fail
  refine wp_last ?_
  go_cut [6] from 10 to 17 (fun s wx => R (.returned s) wx)
  case first =>
    rename_i J K1 hJ hK
    refine wp_region_ph (n := 119) (VisF (.iface T rv) g 1 "chartroom/record.number") (Ph 7 8 17 6 (fun w' => w' = w.drew) (fun v w' => R (.returned v) w') (fun _ v w' => R (.returned v) w')) (by kernel_rfl) (by kernel_rfl) rfl ?_ ?_ ?_
    · intro L hL
      exact Ph.start hL rfl
    · skip
      refine OpsPh.cons _ _ (OpPh.free (by decide) (by decide) rfl (by decide) fun b v hs hg => ⟨rfl, _, exec_move rfl (hs 0 (by kernel_rfl)), rfl⟩) ?_
      refine OpsPh.cons _ _ (OpPh.free (by decide) (by decide) rfl (by decide) fun b v hs hg => ⟨rfl, _, exec_move rfl (hs 1 (by kernel_rfl)), rfl⟩) ?_
      refine OpsPh.cons _ _ (OpPh.free (by decide) (by decide) rfl (by decide) fun b v hs hg => ⟨rfl, _, exec_nilP rfl (dep hg 0 rfl rfl rfl rfl), rfl⟩) ?_
      refine OpsPh.cons _ _ (OpPh.free (by decide) (by decide) rfl (by decide) fun b v hs hg => ⟨rfl, _, exec_fieldC 1 (by decide) rfl (dep hg 0 rfl rfl rfl rfl), rfl⟩) ?_
      refine OpsPh.cons _ _ (OpPh.free (by decide) (by decide) rfl (by decide) fun b v hs hg => ⟨rfl, _, exec_method rfl (dep hg 0 rfl rfl rfl rfl), rfl⟩) ?_
      refine OpsPh.cons _ _ (OpPh.free (by decide) (by decide) rfl (by decide) fun b v hs hg => ⟨rfl, _, exec_nilM hD rfl (dep hg 0 rfl rfl rfl rfl), rfl⟩) ?_
      refine OpsPh.cons _ _ (OpPh.free (by decide) (by decide) rfl (by decide) fun b v hs hg => ⟨rfl, _, exec_move rfl (dep hg 0 rfl rfl rfl rfl), rfl⟩) ?_
      refine OpsPh.cons _ _ (OpPh.mid (by decide) (fun L hcl hn => notyet hcl (ho := rfl) (he := (rfl : _[0]? = _)) rfl hn) fun b v hs hsz hv hg => ⟨rfl, ?_⟩) ?_
      · subst hv
        refine wp_entered (exec_invoke hD rfl (dep hg 0 rfl rfl rfl rfl) (dep hg 1 rfl rfl rfl rfl)) (hc.mono ?_)
        rintro e w' ⟨v, rfl, hR⟩
        refine ⟨v, rfl, v, rfl, ?_, fun _ => trivial, fun j u hj h => ?_⟩
        · rw [getD_put _ _ _ _ (by rw [hsz]; decide), if_pos rfl]
          exact hR
        · exact VisF.world h
      refine OpsPh.cons _ _ (OpPh.last (k := 0) rfl rfl rfl fun b v hs hsz hv hg => ⟨rfl, ?_⟩) (OpsPh.nil _ _)
      refine wp_valued (exec_assign rfl rfl) ⟨_, rfl, ?_, fun _ => trivial, fun j u hj h => h⟩
      rw [getD_put _ _ _ _ (by rw [hsz]; decide), if_pos rfl]
      exact hv
    · intro L b' w' hL hsz hd hs hC hall
      have h := hC.end_ (hL 8 (by decide))
      refine hK _ _ (Met.intro (hJ _ _ ?_))
      exact ⟨b'.tmps.getD 6 undef, b'.tmps.getD 10 undef, b'.tmps.getD 11 undef, b'.tmps.getD 12 undef, b'.tmps.getD 13 undef, b'.tmps.getD 14 undef, b'.tmps.getD 15 undef, b'.tmps.getD 16 undef, b'.tmps.getD 17 undef, h, (act_known hsz hd hs).trans (by kernel_rfl)⟩
  go_wp2
  exact hcut
set_option maxHeartbeats 2000000 in
set_option maxRecDepth 100000 in
theorem visit_1 {T : TypeId} {rv : Value} {f : FuncId} (hD : Disp T rv "chartroom/record.number" f) (g : Nat) (w : World) {R : Ending → World → Prop} (hc : Calls Try.prog f #[rv, .pointer (some ⟨g, 2, none⟩)] w.drew fun e w' => ∃ v, e = .returned v ∧ R e w') :
    Calls Try.prog 42 #[.iface T rv, .pointer (some ⟨g, 0, none⟩), .int .i64 1] w R := by
  go_enter Try.func42, Try.ntmps42
  go_upto_region 5 with fail
  refine wp_last ?_
  go_cut [6] from 20 to 27 (fun s wx => R (.returned s) wx)
  case first =>
    rename_i J K1 hJ hK
    refine wp_region_ph (n := 119) (VisF (.iface T rv) g 2 "chartroom/record.number") (Ph 7 8 27 6 (fun w' => w' = w.drew) (fun v w' => R (.returned v) w') (fun _ v w' => R (.returned v) w')) (by kernel_rfl) (by kernel_rfl) rfl ?_ ?_ ?_
    · intro L hL
      exact Ph.start hL rfl
    · skip
      refine OpsPh.cons _ _ (OpPh.free (by decide) (by decide) rfl (by decide) fun b v hs hg => ⟨rfl, _, exec_move rfl (hs 0 (by kernel_rfl)), rfl⟩) ?_
      refine OpsPh.cons _ _ (OpPh.free (by decide) (by decide) rfl (by decide) fun b v hs hg => ⟨rfl, _, exec_move rfl (hs 1 (by kernel_rfl)), rfl⟩) ?_
      refine OpsPh.cons _ _ (OpPh.free (by decide) (by decide) rfl (by decide) fun b v hs hg => ⟨rfl, _, exec_nilP rfl (dep hg 0 rfl rfl rfl rfl), rfl⟩) ?_
      refine OpsPh.cons _ _ (OpPh.free (by decide) (by decide) rfl (by decide) fun b v hs hg => ⟨rfl, _, exec_fieldC 2 (by decide) rfl (dep hg 0 rfl rfl rfl rfl), rfl⟩) ?_
      refine OpsPh.cons _ _ (OpPh.free (by decide) (by decide) rfl (by decide) fun b v hs hg => ⟨rfl, _, exec_method rfl (dep hg 0 rfl rfl rfl rfl), rfl⟩) ?_
      refine OpsPh.cons _ _ (OpPh.free (by decide) (by decide) rfl (by decide) fun b v hs hg => ⟨rfl, _, exec_nilM hD rfl (dep hg 0 rfl rfl rfl rfl), rfl⟩) ?_
      refine OpsPh.cons _ _ (OpPh.free (by decide) (by decide) rfl (by decide) fun b v hs hg => ⟨rfl, _, exec_move rfl (dep hg 0 rfl rfl rfl rfl), rfl⟩) ?_
      refine OpsPh.cons _ _ (OpPh.mid (by decide) (fun L hcl hn => notyet hcl (ho := rfl) (he := (rfl : _[0]? = _)) rfl hn) fun b v hs hsz hv hg => ⟨rfl, ?_⟩) ?_
      · subst hv
        refine wp_entered (exec_invoke hD rfl (dep hg 0 rfl rfl rfl rfl) (dep hg 1 rfl rfl rfl rfl)) (hc.mono ?_)
        rintro e w' ⟨v, rfl, hR⟩
        refine ⟨v, rfl, v, rfl, ?_, fun _ => trivial, fun j u hj h => ?_⟩
        · rw [getD_put _ _ _ _ (by rw [hsz]; decide), if_pos rfl]
          exact hR
        · exact VisF.world h
      refine OpsPh.cons _ _ (OpPh.last (k := 0) rfl rfl rfl fun b v hs hsz hv hg => ⟨rfl, ?_⟩) (OpsPh.nil _ _)
      refine wp_valued (exec_assign rfl rfl) ⟨_, rfl, ?_, fun _ => trivial, fun j u hj h => h⟩
      rw [getD_put _ _ _ _ (by rw [hsz]; decide), if_pos rfl]
      exact hv
    · intro L b' w' hL hsz hd hs hC hall
      have h := hC.end_ (hL 8 (by decide))
      refine hK _ _ (Met.intro (hJ _ _ ?_))
      exact ⟨b'.tmps.getD 6 undef, b'.tmps.getD 20 undef, b'.tmps.getD 21 undef, b'.tmps.getD 22 undef, b'.tmps.getD 23 undef, b'.tmps.getD 24 undef, b'.tmps.getD 25 undef, b'.tmps.getD 26 undef, b'.tmps.getD 27 undef, h, (act_known hsz hd hs).trans (by kernel_rfl)⟩
  go_wp2
  exact hcut
set_option maxHeartbeats 2000000 in
set_option maxRecDepth 100000 in
theorem visit_2 {T : TypeId} {rv : Value} {f : FuncId} (hD : Disp T rv "chartroom/record.number" f) (g : Nat) (w : World) {R : Ending → World → Prop} (hc : Calls Try.prog f #[rv, .pointer (some ⟨g, 3, none⟩)] w.drew fun e w' => ∃ v, e = .returned v ∧ R e w') :
    Calls Try.prog 42 #[.iface T rv, .pointer (some ⟨g, 0, none⟩), .int .i64 2] w R := by
  go_enter Try.func42, Try.ntmps42
  go_upto_region 7 with fail
  refine wp_last ?_
  go_cut [6] from 30 to 37 (fun s wx => R (.returned s) wx)
  case first =>
    rename_i J K1 hJ hK
    refine wp_region_ph (n := 119) (VisF (.iface T rv) g 3 "chartroom/record.number") (Ph 7 8 37 6 (fun w' => w' = w.drew) (fun v w' => R (.returned v) w') (fun _ v w' => R (.returned v) w')) (by kernel_rfl) (by kernel_rfl) rfl ?_ ?_ ?_
    · intro L hL
      exact Ph.start hL rfl
    · skip
      refine OpsPh.cons _ _ (OpPh.free (by decide) (by decide) rfl (by decide) fun b v hs hg => ⟨rfl, _, exec_move rfl (hs 0 (by kernel_rfl)), rfl⟩) ?_
      refine OpsPh.cons _ _ (OpPh.free (by decide) (by decide) rfl (by decide) fun b v hs hg => ⟨rfl, _, exec_move rfl (hs 1 (by kernel_rfl)), rfl⟩) ?_
      refine OpsPh.cons _ _ (OpPh.free (by decide) (by decide) rfl (by decide) fun b v hs hg => ⟨rfl, _, exec_nilP rfl (dep hg 0 rfl rfl rfl rfl), rfl⟩) ?_
      refine OpsPh.cons _ _ (OpPh.free (by decide) (by decide) rfl (by decide) fun b v hs hg => ⟨rfl, _, exec_fieldC 3 (by decide) rfl (dep hg 0 rfl rfl rfl rfl), rfl⟩) ?_
      refine OpsPh.cons _ _ (OpPh.free (by decide) (by decide) rfl (by decide) fun b v hs hg => ⟨rfl, _, exec_method rfl (dep hg 0 rfl rfl rfl rfl), rfl⟩) ?_
      refine OpsPh.cons _ _ (OpPh.free (by decide) (by decide) rfl (by decide) fun b v hs hg => ⟨rfl, _, exec_nilM hD rfl (dep hg 0 rfl rfl rfl rfl), rfl⟩) ?_
      refine OpsPh.cons _ _ (OpPh.free (by decide) (by decide) rfl (by decide) fun b v hs hg => ⟨rfl, _, exec_move rfl (dep hg 0 rfl rfl rfl rfl), rfl⟩) ?_
      refine OpsPh.cons _ _ (OpPh.mid (by decide) (fun L hcl hn => notyet hcl (ho := rfl) (he := (rfl : _[0]? = _)) rfl hn) fun b v hs hsz hv hg => ⟨rfl, ?_⟩) ?_
      · subst hv
        refine wp_entered (exec_invoke hD rfl (dep hg 0 rfl rfl rfl rfl) (dep hg 1 rfl rfl rfl rfl)) (hc.mono ?_)
        rintro e w' ⟨v, rfl, hR⟩
        refine ⟨v, rfl, v, rfl, ?_, fun _ => trivial, fun j u hj h => ?_⟩
        · rw [getD_put _ _ _ _ (by rw [hsz]; decide), if_pos rfl]
          exact hR
        · exact VisF.world h
      refine OpsPh.cons _ _ (OpPh.last (k := 0) rfl rfl rfl fun b v hs hsz hv hg => ⟨rfl, ?_⟩) (OpsPh.nil _ _)
      refine wp_valued (exec_assign rfl rfl) ⟨_, rfl, ?_, fun _ => trivial, fun j u hj h => h⟩
      rw [getD_put _ _ _ _ (by rw [hsz]; decide), if_pos rfl]
      exact hv
    · intro L b' w' hL hsz hd hs hC hall
      have h := hC.end_ (hL 8 (by decide))
      refine hK _ _ (Met.intro (hJ _ _ ?_))
      exact ⟨b'.tmps.getD 6 undef, b'.tmps.getD 30 undef, b'.tmps.getD 31 undef, b'.tmps.getD 32 undef, b'.tmps.getD 33 undef, b'.tmps.getD 34 undef, b'.tmps.getD 35 undef, b'.tmps.getD 36 undef, b'.tmps.getD 37 undef, h, (act_known hsz hd hs).trans (by kernel_rfl)⟩
  go_wp2
  exact hcut
set_option maxHeartbeats 2000000 in
set_option maxRecDepth 100000 in
theorem visit_3 {T : TypeId} {rv : Value} {f : FuncId} (hD : Disp T rv "chartroom/record.number" f) (g : Nat) (w : World) {R : Ending → World → Prop} (hc : Calls Try.prog f #[rv, .pointer (some ⟨g, 4, none⟩)] w.drew fun e w' => ∃ v, e = .returned v ∧ R e w') :
    Calls Try.prog 42 #[.iface T rv, .pointer (some ⟨g, 0, none⟩), .int .i64 3] w R := by
  go_enter Try.func42, Try.ntmps42
  go_upto_region 9 with fail
  refine wp_last ?_
  go_cut [6] from 40 to 47 (fun s wx => R (.returned s) wx)
  case first =>
    rename_i J K1 hJ hK
    refine wp_region_ph (n := 119) (VisF (.iface T rv) g 4 "chartroom/record.number") (Ph 7 8 47 6 (fun w' => w' = w.drew) (fun v w' => R (.returned v) w') (fun _ v w' => R (.returned v) w')) (by kernel_rfl) (by kernel_rfl) rfl ?_ ?_ ?_
    · intro L hL
      exact Ph.start hL rfl
    · skip
      refine OpsPh.cons _ _ (OpPh.free (by decide) (by decide) rfl (by decide) fun b v hs hg => ⟨rfl, _, exec_move rfl (hs 0 (by kernel_rfl)), rfl⟩) ?_
      refine OpsPh.cons _ _ (OpPh.free (by decide) (by decide) rfl (by decide) fun b v hs hg => ⟨rfl, _, exec_move rfl (hs 1 (by kernel_rfl)), rfl⟩) ?_
      refine OpsPh.cons _ _ (OpPh.free (by decide) (by decide) rfl (by decide) fun b v hs hg => ⟨rfl, _, exec_nilP rfl (dep hg 0 rfl rfl rfl rfl), rfl⟩) ?_
      refine OpsPh.cons _ _ (OpPh.free (by decide) (by decide) rfl (by decide) fun b v hs hg => ⟨rfl, _, exec_fieldC 4 (by decide) rfl (dep hg 0 rfl rfl rfl rfl), rfl⟩) ?_
      refine OpsPh.cons _ _ (OpPh.free (by decide) (by decide) rfl (by decide) fun b v hs hg => ⟨rfl, _, exec_method rfl (dep hg 0 rfl rfl rfl rfl), rfl⟩) ?_
      refine OpsPh.cons _ _ (OpPh.free (by decide) (by decide) rfl (by decide) fun b v hs hg => ⟨rfl, _, exec_nilM hD rfl (dep hg 0 rfl rfl rfl rfl), rfl⟩) ?_
      refine OpsPh.cons _ _ (OpPh.free (by decide) (by decide) rfl (by decide) fun b v hs hg => ⟨rfl, _, exec_move rfl (dep hg 0 rfl rfl rfl rfl), rfl⟩) ?_
      refine OpsPh.cons _ _ (OpPh.mid (by decide) (fun L hcl hn => notyet hcl (ho := rfl) (he := (rfl : _[0]? = _)) rfl hn) fun b v hs hsz hv hg => ⟨rfl, ?_⟩) ?_
      · subst hv
        refine wp_entered (exec_invoke hD rfl (dep hg 0 rfl rfl rfl rfl) (dep hg 1 rfl rfl rfl rfl)) (hc.mono ?_)
        rintro e w' ⟨v, rfl, hR⟩
        refine ⟨v, rfl, v, rfl, ?_, fun _ => trivial, fun j u hj h => ?_⟩
        · rw [getD_put _ _ _ _ (by rw [hsz]; decide), if_pos rfl]
          exact hR
        · exact VisF.world h
      refine OpsPh.cons _ _ (OpPh.last (k := 0) rfl rfl rfl fun b v hs hsz hv hg => ⟨rfl, ?_⟩) (OpsPh.nil _ _)
      refine wp_valued (exec_assign rfl rfl) ⟨_, rfl, ?_, fun _ => trivial, fun j u hj h => h⟩
      rw [getD_put _ _ _ _ (by rw [hsz]; decide), if_pos rfl]
      exact hv
    · intro L b' w' hL hsz hd hs hC hall
      have h := hC.end_ (hL 8 (by decide))
      refine hK _ _ (Met.intro (hJ _ _ ?_))
      exact ⟨b'.tmps.getD 6 undef, b'.tmps.getD 40 undef, b'.tmps.getD 41 undef, b'.tmps.getD 42 undef, b'.tmps.getD 43 undef, b'.tmps.getD 44 undef, b'.tmps.getD 45 undef, b'.tmps.getD 46 undef, b'.tmps.getD 47 undef, h, (act_known hsz hd hs).trans (by kernel_rfl)⟩
  go_wp2
  exact hcut
set_option maxHeartbeats 2000000 in
set_option maxRecDepth 100000 in
theorem visit_4 {T : TypeId} {rv : Value} {f : FuncId} (hD : Disp T rv "chartroom/record.number" f) (g : Nat) (w : World) {R : Ending → World → Prop} (hc : Calls Try.prog f #[rv, .pointer (some ⟨g, 5, none⟩)] w.drew fun e w' => ∃ v, e = .returned v ∧ R e w') :
    Calls Try.prog 42 #[.iface T rv, .pointer (some ⟨g, 0, none⟩), .int .i64 4] w R := by
  go_enter Try.func42, Try.ntmps42
  go_upto_region 11 with fail
  refine wp_last ?_
  go_cut [6] from 50 to 57 (fun s wx => R (.returned s) wx)
  case first =>
    rename_i J K1 hJ hK
    refine wp_region_ph (n := 119) (VisF (.iface T rv) g 5 "chartroom/record.number") (Ph 7 8 57 6 (fun w' => w' = w.drew) (fun v w' => R (.returned v) w') (fun _ v w' => R (.returned v) w')) (by kernel_rfl) (by kernel_rfl) rfl ?_ ?_ ?_
    · intro L hL
      exact Ph.start hL rfl
    · skip
      refine OpsPh.cons _ _ (OpPh.free (by decide) (by decide) rfl (by decide) fun b v hs hg => ⟨rfl, _, exec_move rfl (hs 0 (by kernel_rfl)), rfl⟩) ?_
      refine OpsPh.cons _ _ (OpPh.free (by decide) (by decide) rfl (by decide) fun b v hs hg => ⟨rfl, _, exec_move rfl (hs 1 (by kernel_rfl)), rfl⟩) ?_
      refine OpsPh.cons _ _ (OpPh.free (by decide) (by decide) rfl (by decide) fun b v hs hg => ⟨rfl, _, exec_nilP rfl (dep hg 0 rfl rfl rfl rfl), rfl⟩) ?_
      refine OpsPh.cons _ _ (OpPh.free (by decide) (by decide) rfl (by decide) fun b v hs hg => ⟨rfl, _, exec_fieldC 5 (by decide) rfl (dep hg 0 rfl rfl rfl rfl), rfl⟩) ?_
      refine OpsPh.cons _ _ (OpPh.free (by decide) (by decide) rfl (by decide) fun b v hs hg => ⟨rfl, _, exec_method rfl (dep hg 0 rfl rfl rfl rfl), rfl⟩) ?_
      refine OpsPh.cons _ _ (OpPh.free (by decide) (by decide) rfl (by decide) fun b v hs hg => ⟨rfl, _, exec_nilM hD rfl (dep hg 0 rfl rfl rfl rfl), rfl⟩) ?_
      refine OpsPh.cons _ _ (OpPh.free (by decide) (by decide) rfl (by decide) fun b v hs hg => ⟨rfl, _, exec_move rfl (dep hg 0 rfl rfl rfl rfl), rfl⟩) ?_
      refine OpsPh.cons _ _ (OpPh.mid (by decide) (fun L hcl hn => notyet hcl (ho := rfl) (he := (rfl : _[0]? = _)) rfl hn) fun b v hs hsz hv hg => ⟨rfl, ?_⟩) ?_
      · subst hv
        refine wp_entered (exec_invoke hD rfl (dep hg 0 rfl rfl rfl rfl) (dep hg 1 rfl rfl rfl rfl)) (hc.mono ?_)
        rintro e w' ⟨v, rfl, hR⟩
        refine ⟨v, rfl, v, rfl, ?_, fun _ => trivial, fun j u hj h => ?_⟩
        · rw [getD_put _ _ _ _ (by rw [hsz]; decide), if_pos rfl]
          exact hR
        · exact VisF.world h
      refine OpsPh.cons _ _ (OpPh.last (k := 0) rfl rfl rfl fun b v hs hsz hv hg => ⟨rfl, ?_⟩) (OpsPh.nil _ _)
      refine wp_valued (exec_assign rfl rfl) ⟨_, rfl, ?_, fun _ => trivial, fun j u hj h => h⟩
      rw [getD_put _ _ _ _ (by rw [hsz]; decide), if_pos rfl]
      exact hv
    · intro L b' w' hL hsz hd hs hC hall
      have h := hC.end_ (hL 8 (by decide))
      refine hK _ _ (Met.intro (hJ _ _ ?_))
      exact ⟨b'.tmps.getD 6 undef, b'.tmps.getD 50 undef, b'.tmps.getD 51 undef, b'.tmps.getD 52 undef, b'.tmps.getD 53 undef, b'.tmps.getD 54 undef, b'.tmps.getD 55 undef, b'.tmps.getD 56 undef, b'.tmps.getD 57 undef, h, (act_known hsz hd hs).trans (by kernel_rfl)⟩
  go_wp2
  exact hcut
set_option maxHeartbeats 2000000 in
set_option maxRecDepth 100000 in
theorem visit_5 {T : TypeId} {rv : Value} {f : FuncId} (hD : Disp T rv "chartroom/record.number" f) (g : Nat) (w : World) {R : Ending → World → Prop} (hc : Calls Try.prog f #[rv, .pointer (some ⟨g, 6, none⟩)] w.drew fun e w' => ∃ v, e = .returned v ∧ R e w') :
    Calls Try.prog 42 #[.iface T rv, .pointer (some ⟨g, 0, none⟩), .int .i64 5] w R := by
  go_enter Try.func42, Try.ntmps42
  go_upto_region 13 with fail
  refine wp_last ?_
  go_cut [6] from 60 to 67 (fun s wx => R (.returned s) wx)
  case first =>
    rename_i J K1 hJ hK
    refine wp_region_ph (n := 119) (VisF (.iface T rv) g 6 "chartroom/record.number") (Ph 7 8 67 6 (fun w' => w' = w.drew) (fun v w' => R (.returned v) w') (fun _ v w' => R (.returned v) w')) (by kernel_rfl) (by kernel_rfl) rfl ?_ ?_ ?_
    · intro L hL
      exact Ph.start hL rfl
    · skip
      refine OpsPh.cons _ _ (OpPh.free (by decide) (by decide) rfl (by decide) fun b v hs hg => ⟨rfl, _, exec_move rfl (hs 0 (by kernel_rfl)), rfl⟩) ?_
      refine OpsPh.cons _ _ (OpPh.free (by decide) (by decide) rfl (by decide) fun b v hs hg => ⟨rfl, _, exec_move rfl (hs 1 (by kernel_rfl)), rfl⟩) ?_
      refine OpsPh.cons _ _ (OpPh.free (by decide) (by decide) rfl (by decide) fun b v hs hg => ⟨rfl, _, exec_nilP rfl (dep hg 0 rfl rfl rfl rfl), rfl⟩) ?_
      refine OpsPh.cons _ _ (OpPh.free (by decide) (by decide) rfl (by decide) fun b v hs hg => ⟨rfl, _, exec_fieldC 6 (by decide) rfl (dep hg 0 rfl rfl rfl rfl), rfl⟩) ?_
      refine OpsPh.cons _ _ (OpPh.free (by decide) (by decide) rfl (by decide) fun b v hs hg => ⟨rfl, _, exec_method rfl (dep hg 0 rfl rfl rfl rfl), rfl⟩) ?_
      refine OpsPh.cons _ _ (OpPh.free (by decide) (by decide) rfl (by decide) fun b v hs hg => ⟨rfl, _, exec_nilM hD rfl (dep hg 0 rfl rfl rfl rfl), rfl⟩) ?_
      refine OpsPh.cons _ _ (OpPh.free (by decide) (by decide) rfl (by decide) fun b v hs hg => ⟨rfl, _, exec_move rfl (dep hg 0 rfl rfl rfl rfl), rfl⟩) ?_
      refine OpsPh.cons _ _ (OpPh.mid (by decide) (fun L hcl hn => notyet hcl (ho := rfl) (he := (rfl : _[0]? = _)) rfl hn) fun b v hs hsz hv hg => ⟨rfl, ?_⟩) ?_
      · subst hv
        refine wp_entered (exec_invoke hD rfl (dep hg 0 rfl rfl rfl rfl) (dep hg 1 rfl rfl rfl rfl)) (hc.mono ?_)
        rintro e w' ⟨v, rfl, hR⟩
        refine ⟨v, rfl, v, rfl, ?_, fun _ => trivial, fun j u hj h => ?_⟩
        · rw [getD_put _ _ _ _ (by rw [hsz]; decide), if_pos rfl]
          exact hR
        · exact VisF.world h
      refine OpsPh.cons _ _ (OpPh.last (k := 0) rfl rfl rfl fun b v hs hsz hv hg => ⟨rfl, ?_⟩) (OpsPh.nil _ _)
      refine wp_valued (exec_assign rfl rfl) ⟨_, rfl, ?_, fun _ => trivial, fun j u hj h => h⟩
      rw [getD_put _ _ _ _ (by rw [hsz]; decide), if_pos rfl]
      exact hv
    · intro L b' w' hL hsz hd hs hC hall
      have h := hC.end_ (hL 8 (by decide))
      refine hK _ _ (Met.intro (hJ _ _ ?_))
      exact ⟨b'.tmps.getD 6 undef, b'.tmps.getD 60 undef, b'.tmps.getD 61 undef, b'.tmps.getD 62 undef, b'.tmps.getD 63 undef, b'.tmps.getD 64 undef, b'.tmps.getD 65 undef, b'.tmps.getD 66 undef, b'.tmps.getD 67 undef, h, (act_known hsz hd hs).trans (by kernel_rfl)⟩
  go_wp2
  exact hcut
set_option maxHeartbeats 2000000 in
set_option maxRecDepth 100000 in
theorem visit_6 {T : TypeId} {rv : Value} {f : FuncId} (hD : Disp T rv "chartroom/record.number" f) (g : Nat) (w : World) {R : Ending → World → Prop} (hc : Calls Try.prog f #[rv, .pointer (some ⟨g, 7, none⟩)] w.drew fun e w' => ∃ v, e = .returned v ∧ R e w') :
    Calls Try.prog 42 #[.iface T rv, .pointer (some ⟨g, 0, none⟩), .int .i64 6] w R := by
  go_enter Try.func42, Try.ntmps42
  go_upto_region 15 with fail
  refine wp_last ?_
  go_cut [6] from 70 to 77 (fun s wx => R (.returned s) wx)
  case first =>
    rename_i J K1 hJ hK
    refine wp_region_ph (n := 119) (VisF (.iface T rv) g 7 "chartroom/record.number") (Ph 7 8 77 6 (fun w' => w' = w.drew) (fun v w' => R (.returned v) w') (fun _ v w' => R (.returned v) w')) (by kernel_rfl) (by kernel_rfl) rfl ?_ ?_ ?_
    · intro L hL
      exact Ph.start hL rfl
    · skip
      refine OpsPh.cons _ _ (OpPh.free (by decide) (by decide) rfl (by decide) fun b v hs hg => ⟨rfl, _, exec_move rfl (hs 0 (by kernel_rfl)), rfl⟩) ?_
      refine OpsPh.cons _ _ (OpPh.free (by decide) (by decide) rfl (by decide) fun b v hs hg => ⟨rfl, _, exec_move rfl (hs 1 (by kernel_rfl)), rfl⟩) ?_
      refine OpsPh.cons _ _ (OpPh.free (by decide) (by decide) rfl (by decide) fun b v hs hg => ⟨rfl, _, exec_nilP rfl (dep hg 0 rfl rfl rfl rfl), rfl⟩) ?_
      refine OpsPh.cons _ _ (OpPh.free (by decide) (by decide) rfl (by decide) fun b v hs hg => ⟨rfl, _, exec_fieldC 7 (by decide) rfl (dep hg 0 rfl rfl rfl rfl), rfl⟩) ?_
      refine OpsPh.cons _ _ (OpPh.free (by decide) (by decide) rfl (by decide) fun b v hs hg => ⟨rfl, _, exec_method rfl (dep hg 0 rfl rfl rfl rfl), rfl⟩) ?_
      refine OpsPh.cons _ _ (OpPh.free (by decide) (by decide) rfl (by decide) fun b v hs hg => ⟨rfl, _, exec_nilM hD rfl (dep hg 0 rfl rfl rfl rfl), rfl⟩) ?_
      refine OpsPh.cons _ _ (OpPh.free (by decide) (by decide) rfl (by decide) fun b v hs hg => ⟨rfl, _, exec_move rfl (dep hg 0 rfl rfl rfl rfl), rfl⟩) ?_
      refine OpsPh.cons _ _ (OpPh.mid (by decide) (fun L hcl hn => notyet hcl (ho := rfl) (he := (rfl : _[0]? = _)) rfl hn) fun b v hs hsz hv hg => ⟨rfl, ?_⟩) ?_
      · subst hv
        refine wp_entered (exec_invoke hD rfl (dep hg 0 rfl rfl rfl rfl) (dep hg 1 rfl rfl rfl rfl)) (hc.mono ?_)
        rintro e w' ⟨v, rfl, hR⟩
        refine ⟨v, rfl, v, rfl, ?_, fun _ => trivial, fun j u hj h => ?_⟩
        · rw [getD_put _ _ _ _ (by rw [hsz]; decide), if_pos rfl]
          exact hR
        · exact VisF.world h
      refine OpsPh.cons _ _ (OpPh.last (k := 0) rfl rfl rfl fun b v hs hsz hv hg => ⟨rfl, ?_⟩) (OpsPh.nil _ _)
      refine wp_valued (exec_assign rfl rfl) ⟨_, rfl, ?_, fun _ => trivial, fun j u hj h => h⟩
      rw [getD_put _ _ _ _ (by rw [hsz]; decide), if_pos rfl]
      exact hv
    · intro L b' w' hL hsz hd hs hC hall
      have h := hC.end_ (hL 8 (by decide))
      refine hK _ _ (Met.intro (hJ _ _ ?_))
      exact ⟨b'.tmps.getD 6 undef, b'.tmps.getD 70 undef, b'.tmps.getD 71 undef, b'.tmps.getD 72 undef, b'.tmps.getD 73 undef, b'.tmps.getD 74 undef, b'.tmps.getD 75 undef, b'.tmps.getD 76 undef, b'.tmps.getD 77 undef, h, (act_known hsz hd hs).trans (by kernel_rfl)⟩
  go_wp2
  exact hcut
set_option maxHeartbeats 2000000 in
set_option maxRecDepth 100000 in
theorem visit_7 {T : TypeId} {rv : Value} {f : FuncId} (hD : Disp T rv "chartroom/record.number" f) (g : Nat) (w : World) {R : Ending → World → Prop} (hc : Calls Try.prog f #[rv, .pointer (some ⟨g, 8, none⟩)] w.drew fun e w' => ∃ v, e = .returned v ∧ R e w') :
    Calls Try.prog 42 #[.iface T rv, .pointer (some ⟨g, 0, none⟩), .int .i64 7] w R := by
  go_enter Try.func42, Try.ntmps42
  go_upto_region 17 with fail
  refine wp_last ?_
  go_cut [6] from 80 to 87 (fun s wx => R (.returned s) wx)
  case first =>
    rename_i J K1 hJ hK
    refine wp_region_ph (n := 119) (VisF (.iface T rv) g 8 "chartroom/record.number") (Ph 7 8 87 6 (fun w' => w' = w.drew) (fun v w' => R (.returned v) w') (fun _ v w' => R (.returned v) w')) (by kernel_rfl) (by kernel_rfl) rfl ?_ ?_ ?_
    · intro L hL
      exact Ph.start hL rfl
    · skip
      refine OpsPh.cons _ _ (OpPh.free (by decide) (by decide) rfl (by decide) fun b v hs hg => ⟨rfl, _, exec_move rfl (hs 0 (by kernel_rfl)), rfl⟩) ?_
      refine OpsPh.cons _ _ (OpPh.free (by decide) (by decide) rfl (by decide) fun b v hs hg => ⟨rfl, _, exec_move rfl (hs 1 (by kernel_rfl)), rfl⟩) ?_
      refine OpsPh.cons _ _ (OpPh.free (by decide) (by decide) rfl (by decide) fun b v hs hg => ⟨rfl, _, exec_nilP rfl (dep hg 0 rfl rfl rfl rfl), rfl⟩) ?_
      refine OpsPh.cons _ _ (OpPh.free (by decide) (by decide) rfl (by decide) fun b v hs hg => ⟨rfl, _, exec_fieldC 8 (by decide) rfl (dep hg 0 rfl rfl rfl rfl), rfl⟩) ?_
      refine OpsPh.cons _ _ (OpPh.free (by decide) (by decide) rfl (by decide) fun b v hs hg => ⟨rfl, _, exec_method rfl (dep hg 0 rfl rfl rfl rfl), rfl⟩) ?_
      refine OpsPh.cons _ _ (OpPh.free (by decide) (by decide) rfl (by decide) fun b v hs hg => ⟨rfl, _, exec_nilM hD rfl (dep hg 0 rfl rfl rfl rfl), rfl⟩) ?_
      refine OpsPh.cons _ _ (OpPh.free (by decide) (by decide) rfl (by decide) fun b v hs hg => ⟨rfl, _, exec_move rfl (dep hg 0 rfl rfl rfl rfl), rfl⟩) ?_
      refine OpsPh.cons _ _ (OpPh.mid (by decide) (fun L hcl hn => notyet hcl (ho := rfl) (he := (rfl : _[0]? = _)) rfl hn) fun b v hs hsz hv hg => ⟨rfl, ?_⟩) ?_
      · subst hv
        refine wp_entered (exec_invoke hD rfl (dep hg 0 rfl rfl rfl rfl) (dep hg 1 rfl rfl rfl rfl)) (hc.mono ?_)
        rintro e w' ⟨v, rfl, hR⟩
        refine ⟨v, rfl, v, rfl, ?_, fun _ => trivial, fun j u hj h => ?_⟩
        · rw [getD_put _ _ _ _ (by rw [hsz]; decide), if_pos rfl]
          exact hR
        · exact VisF.world h
      refine OpsPh.cons _ _ (OpPh.last (k := 0) rfl rfl rfl fun b v hs hsz hv hg => ⟨rfl, ?_⟩) (OpsPh.nil _ _)
      refine wp_valued (exec_assign rfl rfl) ⟨_, rfl, ?_, fun _ => trivial, fun j u hj h => h⟩
      rw [getD_put _ _ _ _ (by rw [hsz]; decide), if_pos rfl]
      exact hv
    · intro L b' w' hL hsz hd hs hC hall
      have h := hC.end_ (hL 8 (by decide))
      refine hK _ _ (Met.intro (hJ _ _ ?_))
      exact ⟨b'.tmps.getD 6 undef, b'.tmps.getD 80 undef, b'.tmps.getD 81 undef, b'.tmps.getD 82 undef, b'.tmps.getD 83 undef, b'.tmps.getD 84 undef, b'.tmps.getD 85 undef, b'.tmps.getD 86 undef, b'.tmps.getD 87 undef, h, (act_known hsz hd hs).trans (by kernel_rfl)⟩
  go_wp2
  exact hcut
set_option maxHeartbeats 2000000 in
set_option maxRecDepth 100000 in
theorem visit_8 {T : TypeId} {rv : Value} {f : FuncId} (hD : Disp T rv "chartroom/record.number" f) (g : Nat) (w : World) {R : Ending → World → Prop} (hc : Calls Try.prog f #[rv, .pointer (some ⟨g, 9, none⟩)] w.drew fun e w' => ∃ v, e = .returned v ∧ R e w') :
    Calls Try.prog 42 #[.iface T rv, .pointer (some ⟨g, 0, none⟩), .int .i64 8] w R := by
  go_enter Try.func42, Try.ntmps42
  go_upto_region 19 with fail
  refine wp_last ?_
  go_cut [6] from 90 to 97 (fun s wx => R (.returned s) wx)
  case first =>
    rename_i J K1 hJ hK
    refine wp_region_ph (n := 119) (VisF (.iface T rv) g 9 "chartroom/record.number") (Ph 7 8 97 6 (fun w' => w' = w.drew) (fun v w' => R (.returned v) w') (fun _ v w' => R (.returned v) w')) (by kernel_rfl) (by kernel_rfl) rfl ?_ ?_ ?_
    · intro L hL
      exact Ph.start hL rfl
    · skip
      refine OpsPh.cons _ _ (OpPh.free (by decide) (by decide) rfl (by decide) fun b v hs hg => ⟨rfl, _, exec_move rfl (hs 0 (by kernel_rfl)), rfl⟩) ?_
      refine OpsPh.cons _ _ (OpPh.free (by decide) (by decide) rfl (by decide) fun b v hs hg => ⟨rfl, _, exec_move rfl (hs 1 (by kernel_rfl)), rfl⟩) ?_
      refine OpsPh.cons _ _ (OpPh.free (by decide) (by decide) rfl (by decide) fun b v hs hg => ⟨rfl, _, exec_nilP rfl (dep hg 0 rfl rfl rfl rfl), rfl⟩) ?_
      refine OpsPh.cons _ _ (OpPh.free (by decide) (by decide) rfl (by decide) fun b v hs hg => ⟨rfl, _, exec_fieldC 9 (by decide) rfl (dep hg 0 rfl rfl rfl rfl), rfl⟩) ?_
      refine OpsPh.cons _ _ (OpPh.free (by decide) (by decide) rfl (by decide) fun b v hs hg => ⟨rfl, _, exec_method rfl (dep hg 0 rfl rfl rfl rfl), rfl⟩) ?_
      refine OpsPh.cons _ _ (OpPh.free (by decide) (by decide) rfl (by decide) fun b v hs hg => ⟨rfl, _, exec_nilM hD rfl (dep hg 0 rfl rfl rfl rfl), rfl⟩) ?_
      refine OpsPh.cons _ _ (OpPh.free (by decide) (by decide) rfl (by decide) fun b v hs hg => ⟨rfl, _, exec_move rfl (dep hg 0 rfl rfl rfl rfl), rfl⟩) ?_
      refine OpsPh.cons _ _ (OpPh.mid (by decide) (fun L hcl hn => notyet hcl (ho := rfl) (he := (rfl : _[0]? = _)) rfl hn) fun b v hs hsz hv hg => ⟨rfl, ?_⟩) ?_
      · subst hv
        refine wp_entered (exec_invoke hD rfl (dep hg 0 rfl rfl rfl rfl) (dep hg 1 rfl rfl rfl rfl)) (hc.mono ?_)
        rintro e w' ⟨v, rfl, hR⟩
        refine ⟨v, rfl, v, rfl, ?_, fun _ => trivial, fun j u hj h => ?_⟩
        · rw [getD_put _ _ _ _ (by rw [hsz]; decide), if_pos rfl]
          exact hR
        · exact VisF.world h
      refine OpsPh.cons _ _ (OpPh.last (k := 0) rfl rfl rfl fun b v hs hsz hv hg => ⟨rfl, ?_⟩) (OpsPh.nil _ _)
      refine wp_valued (exec_assign rfl rfl) ⟨_, rfl, ?_, fun _ => trivial, fun j u hj h => h⟩
      rw [getD_put _ _ _ _ (by rw [hsz]; decide), if_pos rfl]
      exact hv
    · intro L b' w' hL hsz hd hs hC hall
      have h := hC.end_ (hL 8 (by decide))
      refine hK _ _ (Met.intro (hJ _ _ ?_))
      exact ⟨b'.tmps.getD 6 undef, b'.tmps.getD 90 undef, b'.tmps.getD 91 undef, b'.tmps.getD 92 undef, b'.tmps.getD 93 undef, b'.tmps.getD 94 undef, b'.tmps.getD 95 undef, b'.tmps.getD 96 undef, b'.tmps.getD 97 undef, h, (act_known hsz hd hs).trans (by kernel_rfl)⟩
  go_wp2
  exact hcut
set_option maxHeartbeats 2000000 in
set_option maxRecDepth 100000 in
theorem visit_9 {T : TypeId} {rv : Value} {f : FuncId} (hD : Disp T rv "chartroom/record.text" f) (g : Nat) (w : World) {R : Ending → World → Prop} (hc : Calls Try.prog f #[rv, .pointer (some ⟨g, 10, none⟩)] w.drew fun e w' => ∃ v, e = .returned v ∧ R e w') :
    Calls Try.prog 42 #[.iface T rv, .pointer (some ⟨g, 0, none⟩), .int .i64 9] w R := by
  go_enter Try.func42, Try.ntmps42
  go_upto_region 21 with fail
  refine wp_last ?_
  go_cut [6] from 100 to 107 (fun s wx => R (.returned s) wx)
  case first =>
    rename_i J K1 hJ hK
    refine wp_region_ph (n := 119) (VisF (.iface T rv) g 10 "chartroom/record.text") (Ph 7 8 107 6 (fun w' => w' = w.drew) (fun v w' => R (.returned v) w') (fun _ v w' => R (.returned v) w')) (by kernel_rfl) (by kernel_rfl) rfl ?_ ?_ ?_
    · intro L hL
      exact Ph.start hL rfl
    · skip
      refine OpsPh.cons _ _ (OpPh.free (by decide) (by decide) rfl (by decide) fun b v hs hg => ⟨rfl, _, exec_move rfl (hs 0 (by kernel_rfl)), rfl⟩) ?_
      refine OpsPh.cons _ _ (OpPh.free (by decide) (by decide) rfl (by decide) fun b v hs hg => ⟨rfl, _, exec_move rfl (hs 1 (by kernel_rfl)), rfl⟩) ?_
      refine OpsPh.cons _ _ (OpPh.free (by decide) (by decide) rfl (by decide) fun b v hs hg => ⟨rfl, _, exec_nilP rfl (dep hg 0 rfl rfl rfl rfl), rfl⟩) ?_
      refine OpsPh.cons _ _ (OpPh.free (by decide) (by decide) rfl (by decide) fun b v hs hg => ⟨rfl, _, exec_fieldC 10 (by decide) rfl (dep hg 0 rfl rfl rfl rfl), rfl⟩) ?_
      refine OpsPh.cons _ _ (OpPh.free (by decide) (by decide) rfl (by decide) fun b v hs hg => ⟨rfl, _, exec_method rfl (dep hg 0 rfl rfl rfl rfl), rfl⟩) ?_
      refine OpsPh.cons _ _ (OpPh.free (by decide) (by decide) rfl (by decide) fun b v hs hg => ⟨rfl, _, exec_nilM hD rfl (dep hg 0 rfl rfl rfl rfl), rfl⟩) ?_
      refine OpsPh.cons _ _ (OpPh.free (by decide) (by decide) rfl (by decide) fun b v hs hg => ⟨rfl, _, exec_move rfl (dep hg 0 rfl rfl rfl rfl), rfl⟩) ?_
      refine OpsPh.cons _ _ (OpPh.mid (by decide) (fun L hcl hn => notyet hcl (ho := rfl) (he := (rfl : _[0]? = _)) rfl hn) fun b v hs hsz hv hg => ⟨rfl, ?_⟩) ?_
      · subst hv
        refine wp_entered (exec_invoke hD rfl (dep hg 0 rfl rfl rfl rfl) (dep hg 1 rfl rfl rfl rfl)) (hc.mono ?_)
        rintro e w' ⟨v, rfl, hR⟩
        refine ⟨v, rfl, v, rfl, ?_, fun _ => trivial, fun j u hj h => ?_⟩
        · rw [getD_put _ _ _ _ (by rw [hsz]; decide), if_pos rfl]
          exact hR
        · exact VisF.world h
      refine OpsPh.cons _ _ (OpPh.last (k := 0) rfl rfl rfl fun b v hs hsz hv hg => ⟨rfl, ?_⟩) (OpsPh.nil _ _)
      refine wp_valued (exec_assign rfl rfl) ⟨_, rfl, ?_, fun _ => trivial, fun j u hj h => h⟩
      rw [getD_put _ _ _ _ (by rw [hsz]; decide), if_pos rfl]
      exact hv
    · intro L b' w' hL hsz hd hs hC hall
      have h := hC.end_ (hL 8 (by decide))
      refine hK _ _ (Met.intro (hJ _ _ ?_))
      exact ⟨b'.tmps.getD 6 undef, b'.tmps.getD 100 undef, b'.tmps.getD 101 undef, b'.tmps.getD 102 undef, b'.tmps.getD 103 undef, b'.tmps.getD 104 undef, b'.tmps.getD 105 undef, b'.tmps.getD 106 undef, b'.tmps.getD 107 undef, h, (act_known hsz hd hs).trans (by kernel_rfl)⟩
  go_wp2
  exact hcut
set_option maxHeartbeats 2000000 in
set_option maxRecDepth 100000 in
theorem visit_10 {T : TypeId} {rv : Value} {f : FuncId} (hD : Disp T rv "chartroom/record.text" f) (g : Nat) (w : World) {R : Ending → World → Prop} (hc : Calls Try.prog f #[rv, .pointer (some ⟨g, 11, none⟩)] w.drew fun e w' => ∃ v, e = .returned v ∧ R e w') :
    Calls Try.prog 42 #[.iface T rv, .pointer (some ⟨g, 0, none⟩), .int .i64 10] w R := by
  go_enter Try.func42, Try.ntmps42
  go_upto_region 23 with fail
  refine wp_last ?_
  go_cut [6] from 110 to 117 (fun s wx => R (.returned s) wx)
  case first =>
    rename_i J K1 hJ hK
    refine wp_region_ph (n := 119) (VisF (.iface T rv) g 11 "chartroom/record.text") (Ph 7 8 117 6 (fun w' => w' = w.drew) (fun v w' => R (.returned v) w') (fun _ v w' => R (.returned v) w')) (by kernel_rfl) (by kernel_rfl) rfl ?_ ?_ ?_
    · intro L hL
      exact Ph.start hL rfl
    · skip
      refine OpsPh.cons _ _ (OpPh.free (by decide) (by decide) rfl (by decide) fun b v hs hg => ⟨rfl, _, exec_move rfl (hs 0 (by kernel_rfl)), rfl⟩) ?_
      refine OpsPh.cons _ _ (OpPh.free (by decide) (by decide) rfl (by decide) fun b v hs hg => ⟨rfl, _, exec_move rfl (hs 1 (by kernel_rfl)), rfl⟩) ?_
      refine OpsPh.cons _ _ (OpPh.free (by decide) (by decide) rfl (by decide) fun b v hs hg => ⟨rfl, _, exec_nilP rfl (dep hg 0 rfl rfl rfl rfl), rfl⟩) ?_
      refine OpsPh.cons _ _ (OpPh.free (by decide) (by decide) rfl (by decide) fun b v hs hg => ⟨rfl, _, exec_fieldC 11 (by decide) rfl (dep hg 0 rfl rfl rfl rfl), rfl⟩) ?_
      refine OpsPh.cons _ _ (OpPh.free (by decide) (by decide) rfl (by decide) fun b v hs hg => ⟨rfl, _, exec_method rfl (dep hg 0 rfl rfl rfl rfl), rfl⟩) ?_
      refine OpsPh.cons _ _ (OpPh.free (by decide) (by decide) rfl (by decide) fun b v hs hg => ⟨rfl, _, exec_nilM hD rfl (dep hg 0 rfl rfl rfl rfl), rfl⟩) ?_
      refine OpsPh.cons _ _ (OpPh.free (by decide) (by decide) rfl (by decide) fun b v hs hg => ⟨rfl, _, exec_move rfl (dep hg 0 rfl rfl rfl rfl), rfl⟩) ?_
      refine OpsPh.cons _ _ (OpPh.mid (by decide) (fun L hcl hn => notyet hcl (ho := rfl) (he := (rfl : _[0]? = _)) rfl hn) fun b v hs hsz hv hg => ⟨rfl, ?_⟩) ?_
      · subst hv
        refine wp_entered (exec_invoke hD rfl (dep hg 0 rfl rfl rfl rfl) (dep hg 1 rfl rfl rfl rfl)) (hc.mono ?_)
        rintro e w' ⟨v, rfl, hR⟩
        refine ⟨v, rfl, v, rfl, ?_, fun _ => trivial, fun j u hj h => ?_⟩
        · rw [getD_put _ _ _ _ (by rw [hsz]; decide), if_pos rfl]
          exact hR
        · exact VisF.world h
      refine OpsPh.cons _ _ (OpPh.last (k := 0) rfl rfl rfl fun b v hs hsz hv hg => ⟨rfl, ?_⟩) (OpsPh.nil _ _)
      refine wp_valued (exec_assign rfl rfl) ⟨_, rfl, ?_, fun _ => trivial, fun j u hj h => h⟩
      rw [getD_put _ _ _ _ (by rw [hsz]; decide), if_pos rfl]
      exact hv
    · intro L b' w' hL hsz hd hs hC hall
      have h := hC.end_ (hL 8 (by decide))
      refine hK _ _ (Met.intro (hJ _ _ ?_))
      exact ⟨b'.tmps.getD 6 undef, b'.tmps.getD 110 undef, b'.tmps.getD 111 undef, b'.tmps.getD 112 undef, b'.tmps.getD 113 undef, b'.tmps.getD 114 undef, b'.tmps.getD 115 undef, b'.tmps.getD 116 undef, b'.tmps.getD 117 undef, h, (act_known hsz hd hs).trans (by kernel_rfl)⟩
  go_wp2
  exact hcut
theorem visit_num {T : TypeId} {rv : Value} {f : FuncId} (hD : Disp T rv "chartroom/record.number" f) {j : Nat} (hj : j < 9) (g : Nat) (w : World) {R : Ending → World → Prop} (hc : Calls Try.prog f #[rv, .pointer (some ⟨g, j + 1, none⟩)] w.drew fun e w' => ∃ v, e = .returned v ∧ R e w') :
    Calls Try.prog 42 #[.iface T rv, .pointer (some ⟨g, 0, none⟩), .int .i64 (j : Int)] w R := by
  match j, hj, hc with
  | 0, _, hc => exact visit_0 hD g w hc
  | 1, _, hc => exact visit_1 hD g w hc
  | 2, _, hc => exact visit_2 hD g w hc
  | 3, _, hc => exact visit_3 hD g w hc
  | 4, _, hc => exact visit_4 hD g w hc
  | 5, _, hc => exact visit_5 hD g w hc
  | 6, _, hc => exact visit_6 hD g w hc
  | 7, _, hc => exact visit_7 hD g w hc
  | 8, _, hc => exact visit_8 hD g w hc
theorem visit_txt {T : TypeId} {rv : Value} {f : FuncId} (hD : Disp T rv "chartroom/record.text" f) {j : Nat} (hj : 9 ≤ j ∧ j ≤ 10) (g : Nat) (w : World) {R : Ending → World → Prop} (hc : Calls Try.prog f #[rv, .pointer (some ⟨g, j + 1, none⟩)] w.drew fun e w' => ∃ v, e = .returned v ∧ R e w') :
    Calls Try.prog 42 #[.iface T rv, .pointer (some ⟨g, 0, none⟩), .int .i64 (j : Int)] w R := by
  obtain rfl | rfl : j = 9 ∨ j = 10 := by omega
  · exact visit_9 hD g w hc
  · exact visit_10 hD g w hc
end Go.Proofs.Ytfhcpjnjemojgaa
