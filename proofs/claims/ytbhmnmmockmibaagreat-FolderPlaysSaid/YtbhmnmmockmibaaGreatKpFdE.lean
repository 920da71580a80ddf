/- The walk of do: an operation is done, and pending from then on. Conditions: names of at most 1000 bytes, at most 1000 operations. The walks of Add and Remove. Conditions: names of at most 1000 bytes, at most 1000 operations. -/
import Derived.Test.YtbhmnmmockmibaaGreatKpFdC
import Derived.Test.YtbhmnmmockmibaaGreatKpFull
namespace Go.Proofs.YtbhmnmmockmibaaGreat
open Go.RowKit Go.Maps
section
variable {b : Act} {w : World} {o : Oper}
theorem exec_callV {P : Program} {f : FuncId} {x y : Operand} {t : TypeId} {v : Value} {cs : Array Value} (hf : ∀ args, (callFunc f args).run P w = .ok (.enter f args) w) (ho : o.op = .call { callee := .value x, args := #[y], argTypes := #[t] }) (h : b.eval x = .func (.func f) #[] cs) (h' : b.eval y = v) :
    (execOp b.eval o).run P w = .ok (.enter f (#[v] ++ cs)) w := by
  subst h'
  unfold execOp
  simp only [ho, resolve, h, List.map_toArray, List.map_cons, List.map_nil]
  simp [invoke, go_sem, hf]
theorem exec_fieldD0 {x : Operand} {g : Nat} (ho : o.op = .fieldAddr 75 x 0) (h : b.eval x = .pointer (some ⟨g, 0, none⟩)) : (execOp b.eval o).run Tryz.prog w = .ok (.value (.pointer (some ⟨g, 0, none⟩))) w := by
  unfold execOp
  simp only [ho, h]
  go_simp
theorem exec_fieldD1 {x : Operand} {g : Nat} (ho : o.op = .fieldAddr 75 x 1) (h : b.eval x = .pointer (some ⟨g, 0, none⟩)) : (execOp b.eval o).run Tryz.prog w = .ok (.value (.pointer (some ⟨g, 1, none⟩))) w := by
  unfold execOp
  simp only [ho, h]
  go_simp
theorem exec_fieldP0D {x : Operand} {g : Nat} (ho : o.op = .fieldAddr 171 x 0) (h : b.eval x = .pointer (some ⟨g, 0, none⟩)) : (execOp b.eval o).run Tryz.prog w = .ok (.value (.pointer (some ⟨g, 0, none⟩))) w := by
  unfold execOp
  simp only [ho, h]
  go_simp
theorem exec_loadM {x : Operand} {a : Addr} {u : Value} (ho : o.op = .load 72 x) (h : b.eval x = .pointer (some a)) (hc : w.cell? a = some u) : (execOp b.eval o).run Tryz.prog w = .ok (.value u) w := by
  unfold execOp
  simp only [ho, h]
  go_simp
theorem exec_loadPn {x : Operand} {a : Addr} {u : Value} (ho : o.op = .load 73 x) (h : b.eval x = .pointer (some a)) (hc : w.cell? a = some u) : (execOp b.eval o).run Tryz.prog w = .ok (.value u) w := by
  unfold execOp
  simp only [ho, h]
  go_simp
theorem exec_loadFn {x : Operand} {a : Addr} {u : Value} (ho : o.op = .load 169 x) (h : b.eval x = .pointer (some a)) (hc : w.cell? a = some u) : (execOp b.eval o).run Tryz.prog w = .ok (.value u) w := by
  unfold execOp
  simp only [ho, h]
  go_simp
theorem exec_loadOp {x : Operand} {g : Nat} {u v : Value} (ho : o.op = .load 171 x) (h : b.eval x = .pointer (some ⟨g, 0, none⟩)) (h1 : w.cell? ⟨g, 0, none⟩ = some u) (h2 : w.cell? ⟨g, 1, none⟩ = some v) : (execOp b.eval o).run Tryz.prog w = .ok (.value (.agg #[u, v])) w := by
  unfold execOp
  simp only [ho, h]
  go_simp
theorem exec_listOp {x : Operand} {p : Pn} (ho : o.op = .buildSlice 73 1 #[(0, x)]) (h : b.eval x = p.v) : (execOp b.eval o).run Tryz.prog w = .ok (.value (.slice (some ⟨w.heap.size, 0, none⟩) 1 1)) (w.alloc (.cells (pncells [p]).toArray 171)) := by
  have e : p.v = .agg #[p.f p.o.add, p.f (!p.o.add)] := rfl
  have e2 : pncells [p] = [p.f p.o.add, p.f (!p.o.add)] := rfl
  rw [e2]
  rw [e] at h
  unfold execOp
  simp only [ho, List.map_toArray, List.map_cons, List.map_nil, h]
  cases p.o.add <;> (simp only [Pn.f, Pn.fa, Pn.fd, Bool.not_true, Bool.not_false, if_true, Bool.false_eq_true, if_false]; go_simp)
end
theorem wp_storePn {o : Oper} {a : Act} {w : World} {K : Act → World → Prop} {Q : Exit → Act → World → Prop} (x y : Operand) {g n c : Nat} {A : Option Addr} {u v : Value} {zz : Rs} {t : TypeId} (ho : o.op = .store 73 x y) (hx : a.eval x = .pointer (some ⟨g, 1, none⟩)) (hy : a.eval y = .slice A n c)
    (hg : w.heap[g]? = some (.cells #[u, v, zz.m, zz.n, zz.tk, zz.q, zz.k, zz.mp] t (0, 0))) (h : K (a.put o.dst undef) (w.setCell ⟨g, 1, none⟩ (.slice A n c))) : o.wp Tryz.prog a w K Q := by
  have hc := (d_cells hg).2
  have hf := d_frozen (i := 1) hg
  unfold Oper.wp execOp
  simp only [ho, hx, hy]
  go_simp
  exact h
theorem wpList_callV {P : Program} {ops : Array Oper} {Q : Exit → Act → World → Prop} {o : Oper} {rest : List Oper} {a : Act} {w : World} {f : FuncId} (x y : Operand) {t : TypeId} {v : Value} {cs : Array Value} (hgd : o.guard = none) (hf : ∀ args, (callFunc f args).run P w = .ok (.enter f args) w)
    (ho : o.op = .call { callee := .value x, args := #[y], argTypes := #[t] }) (h : a.eval x = .func (.func f) #[] cs) (h' : a.eval y = v) (hc : Calls P f (#[v] ++ cs) w fun e w2 => ∃ u, e = .returned u ∧ wpList P ops Q rest (a.put o.dst u) w2) : wpList P ops Q (o :: rest) a w := by
  refine wpList_plain hgd fun K hK => ?_
  unfold Oper.wp
  rw [exec_callV hf ho h h', Oper.upon_enter]
  refine hc.mono ?_
  rintro e w2 ⟨u, rfl, hk⟩
  exact hK _ _ hk
theorem enter_fa (w : World) (args : Array Value) : (callFunc 155 args).run Tryz.prog w = .ok (.enter 155 args) w := by kernel_rfl
theorem enter_fd (w : World) (args : Array Value) : (callFunc 156 args).run Tryz.prog w = .ok (.enter 156 args) w := by kernel_rfl
theorem info_op : (Tryz.prog.info? 171).map (fun i => (i.zero, i.size, i.bytes)) = some (some (.agg #[.nilFunc, .nilFunc]), 2, 16) := by kernel_rfl
def Pn.fn (_p : Pn) (b : Bool) : FuncId := if b then 155 else 156
def Pn.cap (p : Pn) (b : Bool) : Array Value := if b then #[.pointer (some ⟨p.bi, 0, none⟩), .pointer (some ⟨p.bo, 0, none⟩)] else #[.pointer (some ⟨p.bo, 0, none⟩)]
theorem Pn.f_eq (p : Pn) (b : Bool) : p.f b = .func (.func (p.fn b)) #[] (p.cap b) := by cases b <;> rfl
theorem enter_pn (p : Pn) (b : Bool) (w : World) (args : Array Value) : (callFunc (p.fn b) args).run Tryz.prog w = .ok (.enter (p.fn b) args) w := by
  cases b
  · exact enter_fd w args
  · exact enter_fa w args
def doB (o : Pr) (b : Bool) (m : List EnD) : List EnD := if b then putE m (o.k, o.v) else delE m o.k
theorem doB_does (o : Pr) (m : List EnD) : doB o o.add m = o.does m := rfl
theorem doB_undoes (o : Pr) (m : List EnD) : doB o (!o.add) m = o.undoes m := by
  unfold doB Pr.undoes
  cases o.add <;> rfl
theorem pn_any {X : Nat → Prop} {p : Pn} {bl : Bool} {b n : Nat} {m : List EnD} {w : World} (h : w.ownsMap (H := Unit) Tryz.prog 9 (plainElem Tryz.prog 3) b n (mapD m)) (hn : n ≤ 1000000) (hs : SzD (p.o.k, p.o.v)) (hp : PnAt w X p) :
    Calls Tryz.prog (p.fn bl) (#[.map (some b)] ++ p.cap bl) w fun e w' => e = .returned (.tuple #[]) ∧ w'.ownsMap (H := Unit) Tryz.prog 9 (plainElem Tryz.prog 3) b (doB p.o bl m).length (mapD (doB p.o bl m)) ∧ Touch (fun x => x = b) w w' := by
  cases bl
  · exact fd_any h hs.k hp.name
  · exact fa_any h hn hs hp.name hp.num
structure Mid (w : World) (c : Nat → Nat) (i g bx : Nat) (zz : Rs) (pv : Value) (ops : List Pr) (p : Pn) (m : List EnD) (wx : World) (b : Nat) (c' : Nat → Nat) : Prop where
  same : Same w c c'
  touch : Touch (Ow c i) w wx
  col : c' b = i
  map : wx.ownsMap (H := Unit) Tryz.prog 9 (plainElem Tryz.prog 3) b m.length (mapD m)
  dir : wx.heap[g]? = some (.cells #[.map (some b), pv, zz.m, zz.n, zz.tk, zz.q, zz.k, zz.mp] 84 (0, 0))
  box : wx.heap[bx]? = some (.cells #[p.f p.o.add, p.f (!p.o.add)] 171 (0, 0))
  cbox : c' bx ≠ i
  pend : PendV wx c' i g pv ops
  pn : PnAt wx (Mu c') p
theorem Mid.done {w wx w2 : World} {c c' : Nat → Nat} {i g bx b : Nat} {zz : Rs} {pv : Value} {ops : List Pr} {p : Pn} {m m' : List EnD} (hi : i ≠ 0) (h : Mid w c i g bx zz pv ops p m wx b c') (ht : Touch (fun x => x = b) wx w2)
    (hm : w2.ownsMap (H := Unit) Tryz.prog 9 (plainElem Tryz.prog 3) b m'.length (mapD m')) : Mid w c i g bx zz pv ops p m' w2 b c' := by
  obtain ⟨es, clock, hb, _⟩ := h.map
  have hne : ∀ r cs t fr, wx.heap[r]? = some (.cells cs t fr) → ¬ r = b := fun r cs t fr hr e => by rw [e, hb] at hr; cases hr
  refine ⟨h.same, h.touch.then_ ht fun x hx e => ?_, h.col, hm, ht.heap (hne _ _ _ _ h.dir) h.dir, ht.heap (hne _ _ _ _ h.box) h.box, h.cbox, h.pend.keep ht (fun r cs t fr hr _ _ => hne r cs t fr hr) (fun x e => by rw [e, h.col]; exact hi) (Same.refl _ _), h.pn.keepC ht (fun x e => by rw [e, h.col]; exact hi) (Same.refl _ _)⟩
  show c x = i
  rw [← h.same x hx, e]
  exact h.col
def MdF (g bx b : Nat) (p : Pn) : Nat → Value → World → Prop
  | 0, v, _ => v = .pointer (some ⟨bx, 0, none⟩)
  | 1, v, _ => v = p.f p.o.add
  | 2, v, _ => v = .pointer (some ⟨g, 0, none⟩)
  | 3, v, _ => v = .pointer (some ⟨g, 0, none⟩)
  | 4, v, _ => v = .pointer (some ⟨g, 0, none⟩)
  | 5, v, _ => v = .map (some b)
  | _, _, _ => True
theorem MdF.keep {g bx b : Nat} {p : Pn} (j : Nat) (u : Value) (w w' : World) (_hb : Below w.heap.size w w') (h : MdF g bx b p j u w) : MdF g bx b p j u w' :=
  match j, h with
  | 0, h => h
  | 1, h => h
  | 2, h => h
  | 3, h => h
  | 4, h => h
  | 5, h => h
  | _ + 6, h => h
def MpF (W : World) (g : Nat) (pv : Value) (p : Pn) : Nat → Value → World → Prop
  | 0, v, _ => v = .pointer (some ⟨g, 0, none⟩)
  | 1, v, _ => v = .pointer (some ⟨g, 0, none⟩)
  | 2, v, _ => v = .pointer (some ⟨g, 0, none⟩)
  | 3, v, _ => v = .pointer (some ⟨g, 1, none⟩)
  | 4, v, _ => v = pv
  | 5, v, _ => v = p.v
  | 6, v, w => ∃ m, v = .slice (some ⟨m, 0, none⟩) 1 1 ∧ W.heap.size ≤ m ∧ w.heap[m]? = some (.cells (pncells [p]).toArray 171 (0, 0))
  | 8, v, _ => v = .pointer (some ⟨g, 0, none⟩)
  | 9, v, _ => v = .pointer (some ⟨g, 1, none⟩)
  | _, _, _ => True
theorem MpF.keep {W : World} {g : Nat} {pv : Value} {p : Pn} (j : Nat) (u : Value) (w w' : World) (hb : ∀ m o, W.heap.size ≤ m → w.heap[m]? = some o → w'.heap[m]? = some o) (h : MpF W g pv p j u w) : MpF W g pv p j u w' :=
  match j, h with
  | 0, h => h
  | 1, h => h
  | 2, h => h
  | 3, h => h
  | 4, h => h
  | 5, h => h
  | 6, ⟨m, e, hm, hh⟩ => ⟨m, e, hm, hb m _ hm hh⟩
  | 7, h => h
  | 8, h => h
  | 9, h => h
  | _ + 10, h => h
theorem MpF.below {W : World} {g : Nat} {pv : Value} {p : Pn} (j : Nat) (u : Value) (w w' : World) (hb : Below w.heap.size w w') (h : MpF W g pv p j u w) : MpF W g pv p j u w' :=
  MpF.keep j u w w' (fun m _ _ hh => (hb.block m (Array.getElem?_eq_some_iff.1 hh).1).trans hh) h
structure Apd (W : World) (pv : Value) (ps : List Pn) (u : Value) (w : World) : Prop where
  touch : Touch (fun x => pv.ownBlock = some x) W w
  own : w.ownsRow 0 171 2 u ps.length (pncells ps)
  blk : u.ownBlock = pv.ownBlock ∨ ∃ r, u.ownBlock = some r ∧ W.heap.size ≤ r
structure ApdS (W : World) (g : Nat) (zz : Rs) (mv pv : Value) (ps : List Pn) (u : Value) (w : World) : Prop where
  touch : Touch (fun x => pv.ownBlock = some x ∨ x = g) W w
  own : w.ownsRow 0 171 2 u ps.length (pncells ps)
  blk : u.ownBlock = pv.ownBlock ∨ ∃ r, u.ownBlock = some r ∧ W.heap.size ≤ r
  dir : w.heap[g]? = some (.cells #[mv, u, zz.m, zz.n, zz.tk, zz.q, zz.k, zz.mp] 84 (0, 0))
set_option maxHeartbeats 4000000 in
set_option maxRecDepth 100000 in
theorem do_anyD {w : World} {c : Nat → Nat} {i g N : Nat} {zz : Rs} {s : St} {p : Pn} (h : DirAt w c i g zz s) (hi : i ≠ 0) (hg : Good s N) (hN : N ≤ 1000) (hp : PnAt w (Mu c) p) (hs : SzD (p.o.k, p.o.v)) :
    Calls Tryz.prog 124 #[.pointer (some ⟨g, 0, none⟩), p.v] w fun e w' => e = .returned (.tuple #[]) ∧ ∃ c', Same w c c' ∧ Touch (Ow c i) w w' ∧ DirAt w' c' i g zz ⟨s.dur, s.ops ++ [p.o]⟩ := by
  have hgl := h.lt
  obtain ⟨hcol, hne, mv, pv, hd, hm, hpd⟩ := h
  have ev : p.v = .agg #[p.f p.o.add, p.f (!p.o.add)] := rfl
  obtain ⟨x, hx⟩ : ∃ x, Hid (p.f p.o.add = x) := ⟨_, rfl⟩
  obtain ⟨y, hy⟩ : ∃ y, Hid (p.f (!p.o.add) = y) := ⟨_, rfl⟩
  rw [hx.out, hy.out] at ev
  rw [ev]
  obtain ⟨bx, hbx⟩ : ∃ bx, Hid (w.heap.size = bx) := ⟨_, rfl⟩
  obtain ⟨W, hW⟩ : ∃ W, Hid (w.alloc (.cells #[x, y] 171) = W) := ⟨_, rfl⟩
  have hbW : Hid (Below w.heap.size w W) := by rw [← hW.out]; exact below_new _ _
  have hsW : Hid (W.heap.size = bx + 1) := by rw [← hW.out, ← hbx.out]; show _ = _; simp
  have hbxW : Hid (W.heap[bx]? = some (.cells #[x, y] 171 (0, 0))) := by rw [← hW.out, ← hbx.out]; exact heap_alloc_new _ _
  have hdW : Hid (W.heap[g]? = some (.cells #[mv, pv, zz.m, zz.n, zz.tk, zz.q, zz.k, zz.mp] 84 (0, 0))) := (hbW.out.block g hgl).trans hd
  have hSm : Hid (Same w c (ext w c 0)) := ext_same w c 0
  have hpdW : Hid (PendV W (ext w c 0) i g pv s.ops) := hpd.keep (Touch.of (X := fun _ => False) hbW.out) (fun _ _ _ _ _ _ _ e => e.elim) (fun _ e => e.elim) hSm.out
  have hpW : Hid (PnAt W (Mu (ext w c 0)) p) := hp.keepC (Touch.of (X := fun _ => False) hbW.out) (fun _ e => e.elim) hSm.out
  have Hm := Lib.hid hm
  have Hcol := Lib.hid hcol
  have Hg := Lib.hid hg
  have Hs := Lib.hid hs
  have Hgl := Lib.hid hgl
  have HN := Lib.hid hN
  have Hi := Lib.hid hi
  clear hd hm hpd hp hcol hne hg hs hgl hN hi ev
  go_enter Tryz.func124, Tryz.ntmps124
  go_upto_region 1 with fail
  rw [hbx.out, hW.out]
  rename_i Q K1 hK1 K hK
  have key : ∀ (t4 t5 t6 t7 t8 t9 t10 t11 t12 : Value) (wx : World) (b : Nat) (c' : Nat → Nat), Hid (Mid w c i g bx zz pv s.ops p s.now wx b c') →
      K1 { tmps := #[.pointer (some ⟨g, 0, none⟩), .agg #[x, y], undef, .pointer (some ⟨bx, 0, none⟩), t4, t5, t6, t7, t8, t9, t10, t11, t12, undef, undef, undef, undef, undef, undef, undef, undef, undef, undef, undef, undef, undef, undef, undef, undef, undef], defers := [] } wx := by
    intro t4 t5 t6 t7 t8 t9 t10 t11 t12 wx b c' hmid
    apply hK1
    clear hK1 hK
    have hbxl : Hid (bx < wx.heap.size) := (Array.getElem?_eq_some_iff.1 hmid.out.box).1
    have hgl : Hid (g < wx.heap.size) := (Array.getElem?_eq_some_iff.1 hmid.out.dir).1
    have hcb := Lib.hid (two_cells hmid.out.box)
    have hcd := Lib.hid (d_cells hmid.out.dir)
    go_upto_region 3 with fail
    go_cut [] from 13 to 19 (fun wy => Hid (Mid w c i g bx zz pv s.ops p (p.o.does s.now) wy b c'))
    case first =>
      rename_i J K2 hJ hK2
      refine wp_region_tailP (n := 30) (m := 6) (MdF g bx b p) (BelC wx) (by kernel_rfl) (by kernel_rfl) rfl rfl (by decide) (by kernel_rfl) (by kernel_rfl) (Below.refl _ _).drew ?_ ?_
      rotate_left
      · intro b' w' hsz hd hs' hc hall
        have e1 : b'.tmps.getD 14 undef = p.f p.o.add := hall 1 _ _ (by decide) rfl rfl
        have e5 : b'.tmps.getD 18 undef = .map (some b) := hall 5 _ _ (by decide) rfl rfl
        rw [Pn.f_eq] at e1
        have hm2 : Mid w c i g bx zz pv s.ops p s.now w' b c' := by
          have hx : Touch (fun _ => False) wx w' := .of hc
          have h := hmid.out
          exact ⟨h.same, h.touch.then_ hx fun _ _ e => e.elim, h.col, owns_touchD h.map hx fun e => e, hx.heap (fun e => e) h.dir, hx.heap (fun e => e) h.box, h.cbox, h.pend.keep hx (fun _ _ _ _ _ _ _ e => e) (fun _ e => e.elim) (Same.refl _ _), h.pn.keepC hx (fun _ e => e.elim) (Same.refl _ _)⟩
        refine wpList_callV (.tmp 14) (.tmp 18) rfl (enter_pn p p.o.add w') rfl e1 e5 ((pn_any hm2.map (by have := Hg.out.now.1; have := HN.out; omega) Hs.out hm2.pn).mono ?_)
        rintro e w2 ⟨rfl, hown, ht⟩
        rw [doB_does] at hown
        refine ⟨_, rfl, hK2 _ _ (Met.intro (hJ _ _ ?_))⟩
        refine ⟨b'.tmps.getD 13 undef, b'.tmps.getD 14 undef, b'.tmps.getD 15 undef, b'.tmps.getD 16 undef, b'.tmps.getD 17 undef, b'.tmps.getD 18 undef, .tuple #[], hm2.done Hi.out ht hown, (congrArg (fun a : Act => a.put (some 19) _) (act_known hsz hd hs')).trans (by kernel_rfl)⟩
      refine OpsOk.cons _ _ (OpOk.run _ _ MdF.keep BelC.keep fun b v hs hc hg => ⟨rfl, _, _, exec_fieldP0D rfl (hs 3 (by kernel_rfl)), .refl _ _, rfl⟩) ?_
      refine OpsOk.cons _ _ (OpOk.run _ _ MdF.keep BelC.keep fun b v hs hc hg => ⟨rfl, _, _, exec_loadFn rfl (dep hg 0 rfl rfl rfl rfl) ((hc.cell (p := ⟨bx, 0, none⟩) hbxl.out).trans hcb.out.1), .refl _ _, rfl⟩) ?_
      refine OpsOk.cons _ _ (OpOk.run _ _ MdF.keep BelC.keep fun b v hs hc hg => ⟨rfl, _, _, exec_move rfl (hs 0 (by kernel_rfl)), .refl _ _, rfl⟩) ?_
      refine OpsOk.cons _ _ (OpOk.run _ _ MdF.keep BelC.keep fun b v hs hc hg => ⟨rfl, _, _, exec_nil rfl (dep hg 0 rfl rfl rfl rfl), .refl _ _, rfl⟩) ?_
      refine OpsOk.cons _ _ (OpOk.run _ _ MdF.keep BelC.keep fun b v hs hc hg => ⟨rfl, _, _, exec_fieldD0 rfl (dep hg 0 rfl rfl rfl rfl), .refl _ _, rfl⟩) ?_
      refine OpsOk.cons _ _ (OpOk.run _ _ MdF.keep BelC.keep fun b v hs hc hg => ⟨rfl, _, _, exec_loadM rfl (dep hg 0 rfl rfl rfl rfl) ((hc.cell (p := ⟨g, 0, none⟩) hgl.out).trans hcd.out.1), .refl _ _, rfl⟩) ?_
      exact OpsOk.nil _ _
    rename_i K3 hK3
    apply hK3
    clear hK3 hmid hbxl hgl hcb hcd
    obtain ⟨hsame, htouch, hcolb, hmap, hdir, hbox, hcbox, ⟨ps, hps, hown, hblk, hpns⟩, hpn⟩ := hcut.out
    have hbxl : Hid (bx < wc.heap.size) := (Array.getElem?_eq_some_iff.1 hbox).1
    have hgl : Hid (g < wc.heap.size) := (Array.getElem?_eq_some_iff.1 hdir).1
    have hcb := Lib.hid (two_cells hbox)
    have hcd := Lib.hid (d_cells hdir)
    have hpl : Hid (ps.length ≤ 1000) := by
      have h1 := Hg.out.n
      rw [← hps, List.length_map] at h1
      have := HN.out
      show _ ≤ _
      omega
    have Hown := Lib.hid hown
    have Hdir := Lib.hid hdir
    clear hcut
    refine wp_region_ph (n := 30) (MpF wc g pv p) (Ph 7 10 27 2 (fun w' => Below wc.heap.size wc w') (fun u w' => Apd wc pv (ps ++ [p]) u w') (fun u _ w' => ApdS wc g zz (.map (some b)) pv (ps ++ [p]) u w')) (by kernel_rfl) (by kernel_rfl) rfl ?_ ?_ ?_
    · intro L hL
      exact Ph.start hL (Below.refl _ _).drew
    rotate_left
    · intro L b' w' hall hsz hd hs' hc hf
      have hD := hc.end_ (hall 10 (by decide))
      generalize b'.tmps.getD 27 undef = u at hD
      refine bodyPost_end (results_none rfl _ _ _) hd ⟨rfl, ext wc c' i, hsame.trans (ext_same wc c' i) htouch.size, htouch.then_ hD.touch fun x hx e => ?_, ?_⟩
      · show c x = i
        rw [← hsame x hx]
        rcases e with e | e
        · exact (hblk x e).1
        · rw [e, hsame g Hgl.out]; exact Hcol.out
      · have hcg : c' g = i := (hsame g Hgl.out).trans Hcol.out
        have hX2 : ∀ x, (pv.ownBlock = some x ∨ x = g) → c' x ≠ 0 := by
          rintro x (e | e)
          · rw [(hblk x e).1]; exact Hi.out
          · rw [e, hcg]; exact Hi.out
        obtain ⟨es, clock, hbm, hrest⟩ := hmap
        have hmap2 : wc.ownsMap (H := Unit) Tryz.prog 9 (plainElem Tryz.prog 3) b (p.o.does s.now).length (mapD (p.o.does s.now)) := ⟨es, clock, hbm, hrest⟩
        refine ⟨(ext_same wc c' i g hgl.out).trans hcg, fun pv' h' => (by rw [hD.dir] at h'; simp at h'), .map (some b), u, hD.dir, .inr ⟨b, rfl, (ext_same wc c' i b hmap2.lt).trans hcolb, ?_⟩, ps ++ [p], by rw [List.map_append, hps]; rfl, hD.own, fun r hr => ?_, fun q hq => ?_⟩
        · have e3 : St.now ⟨s.dur, s.ops ++ [p.o]⟩ = p.o.does s.now := runs_snoc _ _ _
          rw [e3]
          refine owns_touchD hmap2 hD.touch ?_
          rintro (e | e)
          · obtain ⟨cs, t, fr, hh⟩ := own_cells Hown.out e
            rw [hbm] at hh; cases hh
          · rw [e, Hdir.out] at hbm; cases hbm
        · rcases hD.blk with e | ⟨r', e, hr'⟩
          · rw [e] at hr
            exact ⟨(ext_same wc c' i r (Hown.out.lt r hr).2).trans (hblk r hr).1, (hblk r hr).2⟩
          · rw [e] at hr
            injection hr with hr
            subst hr
            exact ⟨ext_new wc c' i hr', fun e2 => by have := hgl.out; omega⟩
        · rcases List.mem_append.1 hq with hq | hq
          · exact (hpns q hq).keepC hD.touch hX2 (ext_same wc c' i)
          · rw [List.mem_singleton] at hq
            rw [hq]
            exact hpn.keepC hD.touch hX2 (ext_same wc c' i)
    refine OpsPh.cons _ _ (OpPh.free (by decide) (by decide) rfl (by decide) fun b v hs hg => ⟨rfl, _, exec_move rfl (hs 0 (by kernel_rfl)), rfl⟩) ?_
    refine OpsPh.cons _ _ (OpPh.free (by decide) (by decide) rfl (by decide) fun b v hs hg => ⟨rfl, _, exec_move rfl (hs 0 (by kernel_rfl)), rfl⟩) ?_
    refine OpsPh.cons _ _ (OpPh.free (by decide) (by decide) rfl (by decide) fun b v hs hg => ⟨rfl, _, exec_nil rfl (dep hg 0 rfl rfl rfl rfl), rfl⟩) ?_
    refine OpsPh.cons _ _ (OpPh.free (by decide) (by decide) rfl (by decide) fun b v hs hg => ⟨rfl, _, exec_fieldD1 rfl (dep hg 0 rfl rfl rfl rfl), rfl⟩) ?_
    refine OpsPh.cons _ _ (OpPh.pre (by decide) (by decide) (fun L hcl hn => ⟨notyet hcl (ho := rfl) (he := (rfl : _[0]? = _)) rfl hn, notyet hcl (ho := rfl) (he := (rfl : _[7]? = _)) rfl hn⟩) MpF.below (fun _ _ hb h => Below.trans h (hb.mono h.size)) fun b v hs hc hg => ⟨rfl, _, _, exec_loadPn rfl (dep hg 0 rfl rfl rfl rfl) ((hc.cell (p := ⟨g, 1, none⟩) hgl.out).trans hcd.out.2), .refl _ _, rfl⟩) ?_
    refine OpsPh.cons _ _ (OpPh.pre (by decide) (by decide) (fun L hcl hn => ⟨notyet hcl (ho := rfl) (he := (rfl : _[1]? = _)) rfl (notyet hcl (ho := rfl) (he := (rfl : _[0]? = _)) rfl hn), notyet hcl (ho := rfl) (he := (rfl : _[8]? = _)) rfl hn⟩) MpF.below (fun _ _ hb h => Below.trans h (hb.mono h.size)) fun b v hs hc hg => ⟨rfl, _, _, exec_loadOp rfl (hs 3 (by kernel_rfl)) ((hc.cell (p := ⟨bx, 0, none⟩) hbxl.out).trans hcb.out.1) ((hc.cell (p := ⟨bx, 1, none⟩) hbxl.out).trans hcb.out.2), .refl _ _, rfl⟩) ?_
    refine OpsPh.cons _ _ (OpPh.pre (by decide) (by decide) (fun L hcl hn => ⟨notyet hcl (ho := rfl) (he := (rfl : _[1]? = _)) rfl hn, notyet hcl (ho := rfl) (he := (rfl : _[9]? = _)) rfl hn⟩) MpF.below (fun _ _ hb h => Below.trans h (hb.mono h.size)) fun b v hs hc hg => ⟨rfl, _, _, exec_listOp (p := p) rfl (dep hg 0 rfl rfl rfl rfl), below_new _ _, v.heap.size, rfl, hc.size, heap_alloc_new _ _⟩) ?_
    refine OpsPh.cons _ _ (OpPh.mid (by decide) (fun L hcl hn => notyet hcl (ho := rfl) (he := (rfl : _[1]? = _)) rfl hn) fun b v hs hsz hc hg => ⟨rfl, ?_⟩) ?_
    · obtain ⟨m, e6, hm6, hh6⟩ : MpF wc g pv p 6 (b.tmps.getD 26 undef) v := (dep hg 1 rfl rfl rfl rfl)
      have e4 : b.tmps.getD 24 undef = pv := (dep hg 0 rfl rfl rfl rfl)
      have hrd : Reads v v.heap.size 2 (some ⟨m, 0, none⟩) 1 (pncells [p]) := by
        refine ⟨pncells_len _, fun _ => ⟨_, rfl, (Array.getElem?_eq_some_iff.1 hh6).1, fun j u hu => ?_⟩⟩
        rw [lit_add, Nat.zero_add, cell_of_row v m j _ _ _ hh6]
        simpa using hu
      have hO : v.ownsRow 0 171 2 pv ps.length (pncells ps) := own_below Hown.out hc (Nat.le_refl _)
      obtain ⟨i0, hi0, hz0, hz1, hz2⟩ := info_parts info_op
      obtain ⟨v', w', hrun, h1, h2, h3⟩ := run_append_any v 0 73 73 171 i0 _ 2 16 Tryz.underlying73 hi0 hz0 hz1 hz2 rfl (by omega) _ _ _ hO v.heap.size (some ⟨m, 0, none⟩) 1 1 _ hrd (pncells_one _) (by have := hpl.out; simp only [maxLen]; omega) (by have := hpl.out; omega) (Nat.zero_le _)
      unfold Oper.wp execOp
      simp only [resolve, invoke, builtin, Sem.run_bind, Sem.run_pure, Result.andThen_ok, List.map_toArray, List.map_cons, List.map_nil]
      have e4' : b.eval (.tmp 24) = pv := e4
      have e6' : b.eval (.tmp 26) = .slice (some ⟨m, 0, none⟩) 1 1 := e6
      simp only [e4', e6', hrun]
      refine ⟨v', rfl, ?_, fun _ => trivial, fun j u _ hf => MpF.keep j u v w' (fun m' o hm' ho => ?_) hf⟩
      · have e9 : (b.put (some 27) v').tmps.getD 27 undef = v' := eval_put_eq hsz (by decide)
        show Apd wc pv (ps ++ [p]) ((b.put (some 27) v').tmps.getD 27 undef) w'
        rw [e9]
        refine ⟨(Touch.of hc).trans (Touch.grown h2 fun k hk => hk), ?_, ?_⟩
        · rw [pncells_append, List.length_append]
          exact h1
        · rcases h3 with h3 | h3
          · exact .inl h3
          · exact .inr ⟨_, h3, hc.size⟩
      · rw [h2.block m' (Array.getElem?_eq_some_iff.1 ho).1 (fun e => by have := (Hown.out.lt m' e.symm).2; omega)]
        exact ho
    refine OpsPh.cons _ _ (OpPh.free (by decide) (by decide) rfl (by decide) fun b v hs hg => ⟨rfl, _, exec_nil rfl (dep hg 0 rfl rfl rfl rfl), rfl⟩) ?_
    refine OpsPh.cons _ _ (OpPh.free (by decide) (by decide) rfl (by decide) fun b v hs hg => ⟨rfl, _, exec_fieldD1 rfl (dep hg 0 rfl rfl rfl rfl), rfl⟩) ?_
    refine OpsPh.cons _ _ (OpPh.last (k := 1) rfl rfl rfl fun b v hs hsz hc hg => ⟨rfl, ?_⟩) (OpsPh.nil _ _)
    obtain ⟨A9, c9, e9, _, _, _⟩ := own_form hc.own
    have e11 : b.eval (.tmp 29) = .pointer (some ⟨g, 1, none⟩) := (dep hg 0 rfl rfl rfl rfl)
    have e9' : b.eval (.tmp 27) = .slice A9 (ps ++ [p]).length c9 := e9
    have hvg : ¬ pv.ownBlock = some g := fun e => (hblk g e).2 rfl
    have hF' := hc.touch.heap hvg Hdir.out
    refine wp_storePn (.tmp 29) (.tmp 27) rfl e11 e9' hF' ?_
    refine ⟨undef, rfl, ?_, fun h => by simp at h, fun j u _ hf => MpF.keep j u v _ (fun m' o hm' ho => ?_) hf⟩
    · show ApdS wc g zz (.map (some _)) pv (ps ++ [p]) (b.tmps.getD 27 undef) _
      rw [e9]
      rw [e9] at hc
      have ht := Touch.cell1 v g 1 (.slice A9 (ps ++ [p]).length c9)
      refine ⟨(hc.touch.mono fun _ _ h => Or.inl h).trans (ht.mono fun _ _ h => Or.inr h), own_touch hc.own ht (fun x hx e => ?_), hc.blk, d_set1 _ hF'⟩
      rw [e] at hx
      rcases hc.blk with h | ⟨r, h, hr⟩
      · exact hvg (h.symm.trans hx)
      · rw [hx] at h
        injection h with h
        have := hgl.out
        omega
    · rw [heap_setCell_other _ _ _ _ (by show m' ≠ g; have := hgl.out; omega)]
      exact ho
  clear hK1
  rcases Hm.out with ⟨e1, e2⟩ | ⟨b, e1, e2, e3⟩
  · obtain ⟨rfl⟩ : mv = .map none := e1
    have hq := run_eql_map_nil_sl (P := Tryz.prog) W 72 _ _ none Tryz.underlying72
    have hc0 := (d_cells hdW.out).1
    have hc0' : (W.alloc (.map #[] 0)).cell? ⟨g, 0, none⟩ = some (.map none) := (World.cell?_alloc_lt W _ _ (by rw [hsW.out, ← hbx.out]; have := Hgl.out; show g < _; omega)).trans hc0
    have hf0 : (W.alloc (.map #[] 0)).frozen? ⟨g, 0, none⟩ = false := d_frozen (heap_alloc_old W _ (by rw [hsW.out, ← hbx.out]; have := Hgl.out; omega) |>.trans hdW.out)
    have hmm := @run_makeMap Tryz.prog
    go_wp2
    refine key _ _ _ _ _ _ _ _ _ _ W.heap.size (ext W (ext w c 0) i) ?_
    have hgb : ¬ W.heap.size = g := by rw [hsW.out, ← hbx.out]; have := Hgl.out; omega
    have ha := below_new W (.map #[] 0)
    have ht := Touch.cell1 (W.alloc (.map #[] 0)) g 0 (.map (some W.heap.size))
    have hdA := (ha.block g (by rw [hsW.out, ← hbx.out]; have := Hgl.out; omega)).trans hdW.out
    have hbA := (ha.block bx (by rw [hsW.out]; omega)).trans hbxW.out
    have hcg : ext w c 0 g = i := (hSm.out g Hgl.out).trans Hcol.out
    have htA : Touch (fun k => k = g) W ((W.alloc (.map #[] 0)).setCell ⟨g, 0, none⟩ (.map (some W.heap.size))) := (Touch.of ha).trans ht
    have hcg' : ∀ b, b = g → ext w c 0 b ≠ 0 := fun b e => by rw [e, hcg]; exact Hi.out
    refine ⟨hSm.out.trans (ext_same W _ i) hbW.out.size, ((Touch.of hbW.out).then_ htA fun x _ e => by show c x = i; rw [e]; exact Hcol.out), ext_new W _ i (Nat.le_refl _), ?_, d_set0 _ hdA, ?_, ?_, hpdW.out.keep htA (fun r _ _ _ _ _ hr e => hr e) hcg' (ext_same W _ i), hpW.out.keepC htA hcg' (ext_same W _ i)⟩
    · rw [e2]
      exact owns_touchD (World.ownsMap_made W Tryz.prog 9 _) ht hgb
    · have := ht.heap (show ¬ bx = g by rw [← hbx.out]; have := Hgl.out; omega) hbA
      rw [hx.out, hy.out]
      exact this
    · rw [ext_same W _ i bx (by rw [hsW.out]; omega), ext_new w c 0 (by rw [← hbx.out]; exact Nat.le_refl _)]
      exact fun e => Hi.out e.symm
  · subst e1
    have hq := run_eql_map_nil_sl (P := Tryz.prog) W 72 _ _ (some b) Tryz.underlying72
    have hc0 := (d_cells hdW.out).1
    go_wp2
    refine key _ _ _ _ _ _ _ _ _ _ b (ext w c 0) ?_
    refine ⟨hSm.out, .of hbW.out, (hSm.out b e3.lt).trans e2, owns_touchD e3 (Touch.of (X := fun _ => False) hbW.out) fun e => e, hdW.out, by rw [hx.out, hy.out]; exact hbxW.out, ?_, hpdW.out, hpW.out⟩
    rw [ext_new w c 0 (by rw [← hbx.out]; exact Nat.le_refl _)]
    exact fun e => Hi.out e.symm
end Go.Proofs.YtbhmnmmockmibaaGreat

namespace Go.Proofs.YtbhmnmmockmibaaGreat
open Go.RowKit Go.Maps
def St.add (s : St) (k : List UInt8) (n : Int) : St × Int := if k = [] ∨ n < 0 then (s, 2) else if hasE s.now k = true then (s, 81) else (s.addE k n, 0)
def St.remove (s : St) (k : List UInt8) : St × Int × Int := match getE s.now k with
  | none => (s, 0, 80)
  | some v => (s.rem k v, v, 0)
theorem St.remove_none {s : St} {k : List UInt8} (h : hasE s.now k = false) : s.remove k = (s, 0, 80) := by
  unfold St.remove
  cases hg : getE s.now k with
  | none => rfl
  | some v => rw [← getE_has, hg] at h; cases h
theorem St.remove_some {s : St} {k : List UInt8} (h : hasE s.now k = true) : s.remove k = (s.rem k ((getE s.now k).getD 0), (getE s.now k).getD 0, 0) ∧ getE s.now k = some ((getE s.now k).getD 0) := by
  unfold St.remove
  cases hg : getE s.now k with
  | none => rw [← getE_has, hg] at h; cases h
  | some v => exact ⟨rfl, rfl⟩
def Did (w : World) (c : Nat → Nat) (i g : Nat) (zz : Rs) (s : St) (w' : World) : Prop := ∃ c', Same w c c' ∧ Touch (Ow c i) w w' ∧ DirAt w' c' i g zz s
theorem Did.refl {w : World} {c : Nat → Nat} {i g : Nat} {zz : Rs} {s : St} (h : DirAt w c i g zz s) : Did w c i g zz s w := ⟨c, Same.refl _ _, Touch.refl _ _, h⟩
section
variable {w : World} {c : Nat → Nat} {i g N : Nat} {zz : Rs} {s : St}
theorem pn_free {w1 : World} {p : Pn} (h : PnAt w1 (fun b => b < w.heap.size) p) : PnAt w1 (Mu (ext w c 0)) p :=
  h.mono fun b _ e => by
    show b < w.heap.size
    by_cases hb : b < w.heap.size
    · exact hb
    · exact absurd (ext_new w c 0 (by omega)) e
theorem did_then {w1 w2 : World} {c1 : Nat → Nat} (hb : Below w.heap.size w w1) (hs : Same w c c1) (h : Did w1 c1 i g zz s w2) : Did w c i g zz s w2 := by
  obtain ⟨c2, h1, h2, h3⟩ := h
  refine ⟨c2, hs.trans h1 hb.size, (Touch.of (X := Ow c i) hb).then_ h2 fun b hl e => ?_, h3⟩
  show c b = i
  rw [← hs b hl]
  exact e
set_option maxHeartbeats 1000000 in
set_option maxRecDepth 100000 in
theorem add_anyD (h : DirAt w c i g zz s) (hi : i ≠ 0) (hg : Good s N) (hN : N ≤ 1000) (k : List UInt8) (n : Int) (hs : SzD (k, n)) :
    Calls Tryz.prog 122 #[.pointer (some ⟨g, 0, none⟩), .string (txt k), .int .i64 n] w fun e w' => e = .returned (.int .i64 (s.add k n).2) ∧ Did w c i g zz (s.add k n).1 w' := by
  have hb := hs.v
  simp only at hb
  obtain ⟨hb1, hb2⟩ := hb
  by_cases hk : k = [] ∨ n < 0
  · have e0 : Hid (s.add k n = (s, 2)) := by show s.add k n = _; unfold St.add; rw [if_pos hk]
    have H := Lib.hid h
    clear h hi hg hN hs
    rw [e0.out]
    by_cases hkk : k = []
    · have he1 : (txt k).toList.isEmpty = true := by rw [txt_isEmpty, hkk]; rfl
      have he2 : (txt k).toList = [] := List.isEmpty_iff.1 he1
      clear hk hkk
      go_enter Tryz.func122, Tryz.ntmps122
      go_wp2
      go_ret
      exact ⟨rfl, .refl H.out⟩
    · have hn : n < 0 := hk.resolve_left hkk
      clear hk
      have he1 : (txt k).toList.isEmpty = false := by
        rw [txt_isEmpty]
        cases k with
        | nil => exact absurd rfl hkk
        | cons _ _ => rfl
      have he2 : ¬ (txt k).toList = [] := fun e => by rw [e] at he1; cases he1
      clear hkk
      go_enter Tryz.func122, Tryz.ntmps122
      go_wp2
      go_ret
      exact ⟨rfl, .refl H.out⟩
  · have hkk : ¬ k = [] := fun e => hk (.inl e)
    have hn : ¬ n < 0 := fun e => hk (.inr e)
    have hn' : 0 ≤ n := by omega
    have he1 : (txt k).toList.isEmpty = false := by
      rw [txt_isEmpty]
      cases k with
      | nil => exact absurd rfl hkk
      | cons _ _ => rfl
    have he2 : ¬ (txt k).toList = [] := fun e => by rw [e] at he1; cases he1
    have hget := Lib.hid (get_anyD h k hs.k)
    have H := Lib.hid h
    have Hg := Lib.hid hg
    have HN := Lib.hid hN
    have Hs := Lib.hid hs
    have Hi := Lib.hid hi
    have Hk := Lib.hid hk
    clear h hi hg hN hs hkk hk
    obtain ⟨z, hz⟩ : ∃ z, Hid ((getE s.now k).getD 0 = z) := ⟨_, rfl⟩
    rw [hz.out] at hget
    by_cases hh : hasE s.now k = true
    · have e0 : Hid (s.add k n = (s, 81)) := by show s.add k n = _; unfold St.add; rw [if_neg Hk.out, if_pos hh]
      rw [hh] at hget
      rw [e0.out]
      clear hh
      go_enter Tryz.func122, Tryz.ntmps122
      go_wp2_with (go_at_call 106; refine hget.out.mono ?_; rintro e w1 ⟨rfl, rfl⟩)
      go_ret
      exact ⟨rfl, .refl H.out⟩
    · have hh' : hasE s.now k = false := by simpa using hh
      have e0 : Hid (s.add k n = (s.addE k n, 0)) := by show s.add k n = _; unfold St.add; rw [if_neg Hk.out, if_neg hh]
      rw [hh'] at hget
      rw [e0.out]
      have hadd := Lib.hid (adding_any k n w Hs.out.k)
      clear hh hh'
      go_enter Tryz.func122, Tryz.ntmps122
      go_wp2_with (first
        | (go_at_call 106; refine hget.out.mono ?_; rintro e w1 ⟨rfl, rfl⟩)
        | (go_at_call 139; refine hadd.out.mono ?_; rintro e w1 ⟨p, hp, rfl, hat, hb⟩; obtain ⟨u, hu⟩ : ∃ u, Hid (p.v = u) := ⟨_, rfl⟩; rw [hu.out]; have Hp := Lib.hid hp; have Hat := Lib.hid hat; have Hb := Lib.hid hb; clear hp hat hb)
        | (go_at_call 124; rw [← hu.out]; refine (do_anyD (H.out.belowS Hb.out (ext_same _ c 0)) Hi.out Hg.out HN.out (pn_free Hat.out) (by rw [Hp.out]; exact Hs.out)).mono ?_; rintro e w2 ⟨rfl, hdo⟩))
      go_ret
      refine ⟨rfl, ?_⟩
      rw [Hp.out] at hdo
      exact did_then Hb.out (ext_same _ c 0) hdo
set_option maxHeartbeats 1000000 in
set_option maxRecDepth 100000 in
theorem remove_anyD (h : DirAt w c i g zz s) (hi : i ≠ 0) (hg : Good s N) (hN : N ≤ 1000) (k : List UInt8) (hk : k.length ≤ 1000) :
    Calls Tryz.prog 110 #[.pointer (some ⟨g, 0, none⟩), .string (txt k)] w fun e w' => e = .returned (.tuple #[.int .i64 (s.remove k).2.1, .int .i64 (s.remove k).2.2]) ∧ Did w c i g zz (s.remove k).1 w' := by
  have hget := Lib.hid (get_anyD h k hk)
  have H := Lib.hid h
  have Hg := Lib.hid hg
  have HN := Lib.hid hN
  have Hi := Lib.hid hi
  have Hk := Lib.hid hk
  clear h hi hg hN hk
  obtain ⟨z, hz⟩ : ∃ z, Hid ((getE s.now k).getD 0 = z) := ⟨_, rfl⟩
  rw [hz.out] at hget
  by_cases hh : hasE s.now k = true
  · obtain ⟨e1, e2⟩ := St.remove_some hh
    rw [hz.out] at e1 e2
    have E1 := Lib.hid e1
    have E2 := Lib.hid e2
    rw [hh] at hget
    rw [e1]
    have hadd := Lib.hid (removing_any k z w Hk.out)
    clear hh e1 e2
    go_enter Tryz.func110, Tryz.ntmps110
    go_wp2_with (first
      | (go_at_call 106; refine hget.out.mono ?_; rintro e w1 ⟨rfl, rfl⟩)
      | (go_at_call 125; refine hadd.out.mono ?_; rintro e w1 ⟨p, hp, rfl, hat, hb⟩; obtain ⟨u, hu⟩ : ∃ u, Hid (p.v = u) := ⟨_, rfl⟩; rw [hu.out]; have Hp := Lib.hid hp; have Hat := Lib.hid hat; have Hb := Lib.hid hb; clear hp hat hb)
      | (go_at_call 124; rw [← hu.out]; refine (do_anyD (H.out.belowS Hb.out (ext_same _ c 0)) Hi.out Hg.out HN.out (pn_free Hat.out) (by rw [Hp.out]; exact Hg.out.now.2 _ (getE_some E2.out))).mono ?_; rintro e w2 ⟨rfl, hdo⟩))
    go_ret2
    refine ⟨rfl, ?_⟩
    rw [Hp.out] at hdo
    exact did_then Hb.out (ext_same _ c 0) hdo
  · have hh' : hasE s.now k = false := by simpa using hh
    have e1 := St.remove_none hh'
    rw [hh'] at hget
    rw [e1]
    clear hh hh' e1
    go_enter Tryz.func110, Tryz.ntmps110
    go_wp2_with (go_at_call 106; refine hget.out.mono ?_; rintro e w1 ⟨rfl, rfl⟩)
    go_ret2
    exact ⟨rfl, .refl H.out⟩
end
end Go.Proofs.YtbhmnmmockmibaaGreat
