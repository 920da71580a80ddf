/- A region that draws its order, by facts: each operation, in whatever world it comes up, lays what is said of it, and takes nothing away of what has been said. No order is walked. Conditions: none. -/
import Derived.Test.YtbhmnmmockmibaaGreatKpMany
import Derived.Orders
import Derived.ProofKit
import Derived.OpenShut
import Derived.Deep.QuietTactic
import Derived.BigQuiet
import Derived.Sort.Grow
namespace Go.Proofs.YtbhmnmmockmibaaGreat
open Go.RowKit
def isDst (ops : List Oper) (t : Nat) : Bool := ops.any fun o => o.dst == some t
def inOrder (ops : List Oper) (n : Nat) : Bool :=
  (ops.zipIdx.all fun (o, i) => o.after.all fun e => !Region.binds .any e || decide (e.on < i)) &&
  (ops.filterMap (·.dst)).Nodup && ((ops.filterMap (·.dst)).all fun d => decide (d < n))
section
variable {P : Program} {Q : Exit → Act → World → Prop} (F : Nat → Value → World → Prop) (C : World → Prop)
def OpOk (P : Program) (Q : Exit → Act → World → Prop) (F : Nat → Value → World → Prop) (C : World → Prop) (ops : List Oper) (a : Act) (i : Nat) (o : Oper) : Prop :=
  ∀ (b : Act) (w : World), (∀ t, isDst ops t = false → b.tmps.getD t undef = a.tmps.getD t undef) → C w →
    (∀ e ∈ o.after.toList, Region.binds .any e = true → ∀ oj d, ops[e.on]? = some oj → oj.dst = some d → F e.on (b.tmps.getD d undef) w) →
    Region.wanted o (yielded ops.toArray b.tmps) = true ∧
    o.wp P b w (fun b' w' => ∃ v, b' = b.put o.dst v ∧ C w' ∧ (o.dst.isSome = true → F i v w') ∧ ∀ j u, F j u w → F j u w') Q
def OpsOk (P : Program) (Q : Exit → Act → World → Prop) (F : Nat → Value → World → Prop) (C : World → Prop) (ops : List Oper) (a : Act) : Nat → List Oper → Prop
  | _, [] => True
  | i, o :: l => OpOk P Q F C ops a i o ∧ OpsOk P Q F C ops a (i + 1) l
theorem OpsOk.cons {ops : List Oper} {a : Act} {i : Nat} {o : Oper} {l : List Oper} (h : OpOk P Q F C ops a i o) (hl : OpsOk P Q F C ops a (i + 1) l) : OpsOk P Q F C ops a i (o :: l) := ⟨h, hl⟩
theorem OpsOk.nil {ops : List Oper} {a : Act} {i : Nat} : OpsOk P Q F C ops a i [] := trivial
theorem OpsOk.get {ops : List Oper} {a : Act} : ∀ {l : List Oper} {i j : Nat} {o : Oper}, OpsOk P Q F C ops a i l → l[j]? = some o → OpOk P Q F C ops a (i + j) o
  | [], _, _, _, _, h => by simp at h
  | x :: l, i, 0, o, h, ho => by
    simp only [List.getElem?_cons_zero, Option.some.injEq] at ho
    subst ho
    exact h.1
  | x :: l, i, j + 1, o, h, ho => by
    simp only [List.getElem?_cons_succ] at ho
    have := OpsOk.get h.2 ho
    rwa [show i + 1 + j = i + (j + 1) by omega] at this
structure Upto (F : Nat → Value → World → Prop) (C : World → Prop) (ops : List Oper) (n : Nat) (a : Act) (listed : Array Bool) (b : Act) (w : World) : Prop where
  size : listed.size = ops.length
  slots : b.tmps.size = n
  defers : b.defers = a.defers
  same : ∀ t, isDst ops t = false → b.tmps.getD t undef = a.tmps.getD t undef
  common : C w
  fact : ∀ j o d, listed.getD j false = true → ops[j]? = some o → o.dst = some d → F j (b.tmps.getD d undef) w
theorem dst_mem {ops : List Oper} {j d : Nat} {o : Oper} (ho : ops[j]? = some o) (hd : o.dst = some d) : d ∈ ops.filterMap (·.dst) :=
  List.mem_filterMap.2 ⟨o, List.mem_of_getElem? ho, hd⟩
theorem isDst_of {ops : List Oper} {j d : Nat} {o : Oper} (ho : ops[j]? = some o) (hd : o.dst = some d) : isDst ops d = true := by
  unfold isDst
  rw [List.any_eq_true]
  exact ⟨o, List.mem_of_getElem? ho, by simp [hd]⟩
theorem dst_inj : ∀ {ops : List Oper} {j k d : Nat} {o p : Oper}, (ops.filterMap (·.dst)).Nodup → ops[j]? = some o → ops[k]? = some p → o.dst = some d → p.dst = some d → j = k
  | [], _, _, _, _, _, _, h, _, _, _ => by simp at h
  | x :: l, j, k, d, o, p, hn, hj, hk, ho, hp => by
    have hx : ∀ {i : Nat} {q : Oper}, l[i]? = some q → q.dst = some d → x.dst = some d → False := by
      intro i q hi hq hxd
      rw [List.filterMap_cons_some hxd, List.nodup_cons] at hn
      exact hn.1 (dst_mem hi hq)
    have hn' : (l.filterMap (·.dst)).Nodup := by
      cases hxd : x.dst with
      | none => rwa [List.filterMap_cons_none hxd] at hn
      | some y =>
        rw [List.filterMap_cons_some hxd, List.nodup_cons] at hn
        exact hn.2
    cases j with
    | zero =>
      cases k with
      | zero => rfl
      | succ k =>
        simp only [List.getElem?_cons_zero, List.getElem?_cons_succ, Option.some.injEq] at hj hk
        subst hj
        exact (hx hk hp ho).elim
    | succ j =>
      cases k with
      | zero =>
        simp only [List.getElem?_cons_zero, List.getElem?_cons_succ, Option.some.injEq] at hj hk
        subst hk
        exact (hx hj ho hp).elim
      | succ k =>
        simp only [List.getElem?_cons_succ] at hj hk
        rw [dst_inj hn' hj hk ho hp]
theorem getD_put (b : Act) (d t : Nat) (v : Value) (h : d < b.tmps.size) : (b.put (some d) v).tmps.getD t undef = if d = t then v else b.tmps.getD t undef := by
  show (b.tmps.setIfInBounds d v).getD t undef = _
  rw [Array.getD_eq_getD_getElem?, Array.getD_eq_getD_getElem?, Array.getElem?_setIfInBounds]
  by_cases hdt : d = t
  · subst hdt
    rw [if_pos rfl, if_pos rfl, if_pos h]
    rfl
  · rw [if_neg hdt, if_neg hdt]
theorem getD_set {l : Array Bool} {i j : Nat} (h : i < l.size) : (l.setIfInBounds i true).getD j false = (decide (i = j) || l.getD j false) := by
  rw [Array.getD_eq_getD_getElem?, Array.getD_eq_getD_getElem?, Array.getElem?_setIfInBounds]
  by_cases hij : i = j
  · subst hij
    rw [if_pos rfl, if_pos h]
    simp
  · rw [if_neg hij]
    simp [hij]
theorem ready_mem {ops : List Oper} {listed : Array Bool} (hs : listed.size = ops.length) {i : Nat} (h : i ∈ Region.ready .any ops.toArray listed) :
    ∃ o, ops[i]? = some o ∧ listed[i]? = some false ∧ ∀ e ∈ o.after.toList, Region.binds .any e = true → listed.getD e.on false = true := by
  unfold Region.ready at h
  simp only [List.mem_filter, List.mem_range, List.size_toArray, List.getElem?_toArray, Bool.and_eq_true, Bool.not_eq_true'] at h
  obtain ⟨hi, h1, h2⟩ := h
  have ho : ops[i]? = some ops[i] := List.getElem?_eq_getElem hi
  refine ⟨ops[i], ho, ?_, ?_⟩
  · rw [Array.getD_eq_getD_getElem?] at h1
    have hl : listed[i]? = some listed[i] := Array.getElem?_eq_getElem (by omega)
    rw [hl] at h1 ⊢
    simpa using h1
  · rw [ho] at h2
    simp only [Option.map_some, Option.getD_some, Array.all_eq_true_iff_forall_mem, Bool.or_eq_true, Bool.not_eq_true'] at h2
    intro e he hb
    rcases h2 e (by simpa using he) with h | h
    · rw [hb] at h; cases h
    · exact h
theorem ready_nil {ops : List Oper} {listed : Array Bool} (hs : listed.size = ops.length) (hord : ∀ (i : Nat) (o : Oper), ops[i]? = some o → ∀ e ∈ o.after.toList, Region.binds .any e = true → e.on < i) (h : Region.ready .any ops.toArray listed = []) :
    ∀ j, j < ops.length → listed.getD j false = true := by
  intro j
  induction j using Nat.strongRecOn with
  | _ j ih =>
    intro hj
    cases hl : listed.getD j false with
    | true => rfl
    | false =>
      exfalso
      have hmem : j ∈ Region.ready .any ops.toArray listed := by
        unfold Region.ready
        simp only [List.mem_filter, List.mem_range, List.size_toArray, List.getElem?_toArray, Bool.and_eq_true, Bool.not_eq_true']
        have hlj : listed[j]? = some listed[j] := Array.getElem?_eq_getElem (by omega)
        refine ⟨hj, ?_, ?_⟩
        · rw [Array.getD_eq_getD_getElem?, hlj] at hl ⊢
          exact hl
        · rw [List.getElem?_eq_getElem hj]
          simp only [Option.map_some, Option.getD_some, Array.all_eq_true_iff_forall_mem, Bool.or_eq_true, Bool.not_eq_true']
          intro e he
          cases hbe : Region.binds .any e with
          | false => left; rfl
          | true =>
            right
            have := hord j _ (List.getElem?_eq_getElem hj) e (by simpa using he) hbe
            exact ih e.on this (by omega)
      rw [h] at hmem
      cases hmem
theorem Upto.go {ops : List Oper} {n : Nat} {a b : Act} {listed : Array Bool} {w w' : World} {i : Nat} {o : Oper} {v : Value} (hn : (ops.filterMap (·.dst)).Nodup) (hb : ∀ d ∈ ops.filterMap (·.dst), d < n)
    (h : Upto F C ops n a listed b w) (ho : ops[i]? = some o) (hC : C w') (hF : o.dst.isSome = true → F i v w') (hK : ∀ j u, F j u w → F j u w') :
    Upto F C ops n a (listed.setIfInBounds i true) (b.put o.dst v) w' := by
  have hi : i < listed.size := by rw [h.size]; exact (List.getElem?_eq_some_iff.1 ho).1
  refine ⟨by simpa using h.size, ?_, ?_, ?_, hC, ?_⟩
  · cases hd : o.dst with
    | none => exact h.slots
    | some d => show (b.tmps.setIfInBounds d v).size = n; simpa using h.slots
  · cases hd : o.dst with
    | none => exact h.defers
    | some d => exact h.defers
  · intro t ht
    cases hd : o.dst with
    | none => exact h.same t ht
    | some d =>
      rw [getD_put b d t v (by rw [h.slots]; exact hb d (dst_mem ho hd)), if_neg, h.same t ht]
      rintro rfl
      rw [isDst_of ho hd] at ht
      cases ht
  · intro j oj d hl hoj hd
    rw [getD_set hi] at hl
    cases hod : o.dst with
    | none =>
      by_cases hij : i = j
      · subst hij
        rw [ho] at hoj
        injection hoj with hoj
        subst hoj
        rw [hod] at hd
        cases hd
      · rw [decide_eq_false hij, Bool.false_or] at hl
        exact hK _ _ (h.fact j oj d hl hoj hd)
    | some d' =>
      rw [getD_put b d' d v (by rw [h.slots]; exact hb d' (dst_mem ho hod))]
      by_cases hij : i = j
      · subst hij
        rw [ho] at hoj
        injection hoj with hoj
        subst hoj
        rw [hod] at hd
        injection hd with hd
        rw [if_pos hd]
        exact hF (by rw [hod]; rfl)
      · rw [decide_eq_false hij, Bool.false_or] at hl
        rw [if_neg]
        · exact hK _ _ (h.fact j oj d hl hoj hd)
        · rintro rfl
          exact hij (dst_inj hn ho hoj hod hd)
theorem OpOk.run {ops : List Oper} {a : Act} {i : Nat} {o : Oper} (hF : ∀ j u w w', Below w.heap.size w w' → F j u w → F j u w') (hCm : ∀ w w', Below w.heap.size w w' → C w → C w')
    (h : ∀ (b : Act) (w : World), (∀ t, isDst ops t = false → b.tmps.getD t undef = a.tmps.getD t undef) → C w →
      (∀ e ∈ o.after.toList, Region.binds .any e = true → ∀ oj d, ops[e.on]? = some oj → oj.dst = some d → F e.on (b.tmps.getD d undef) w) →
      Region.wanted o (yielded ops.toArray b.tmps) = true ∧ ∃ v w', (execOp b.eval o).run P w = .ok (.value v) w' ∧ Below w.heap.size w w' ∧ F i v w') : OpOk P Q F C ops a i o := by
  intro b w hs hC hg
  obtain ⟨hw, v, w', hr, hb, hf⟩ := h b w hs hC hg
  refine ⟨hw, ?_⟩
  unfold Oper.wp
  rw [hr, Oper.upon_value]
  exact ⟨v, rfl, hCm w w' hb hC, fun _ => hf, fun j u hj => hF j u w w' hb hj⟩
theorem OpOk.call {ops : List Oper} {a : Act} {i : Nat} {o : Oper} (hF : ∀ j u w w', Below w.heap.size w w' → F j u w → F j u w') (hCm : ∀ w w', Below w.heap.size w w' → C w → C w')
    (h : ∀ (b : Act) (w : World), (∀ t, isDst ops t = false → b.tmps.getD t undef = a.tmps.getD t undef) → C w →
      (∀ e ∈ o.after.toList, Region.binds .any e = true → ∀ oj d, ops[e.on]? = some oj → oj.dst = some d → F e.on (b.tmps.getD d undef) w) →
      Region.wanted o (yielded ops.toArray b.tmps) = true ∧ ∃ f args, (execOp b.eval o).run P w = .ok (.enter f args) w ∧ Calls P f args w fun e w' => ∃ v, e = .returned v ∧ Below w.heap.size w w' ∧ F i v w') : OpOk P Q F C ops a i o := by
  intro b w hs hC hg
  obtain ⟨hw, f, args, hr, hc⟩ := h b w hs hC hg
  refine ⟨hw, ?_⟩
  unfold Oper.wp
  rw [hr, Oper.upon_enter]
  refine hc.mono ?_
  rintro e w' ⟨v, rfl, hb, hf⟩
  exact ⟨v, rfl, hCm w w' hb hC, fun _ => hf, fun j u hj => hF j u w w' hb hj⟩
end
theorem dep {F : Nat → Value → World → Prop} {ops : List Oper} {b : Act} {w : World} {o : Oper}
    (hg : ∀ e ∈ o.after.toList, Region.binds .any e = true → ∀ oj d, ops[e.on]? = some oj → oj.dst = some d → F e.on (b.tmps.getD d undef) w)
    (k : Nat) {e : Edge} {oj : Oper} {d : Tmp} (he : o.after.toList[k]? = some e) (hb : Region.binds .any e = true) (ho : ops[e.on]? = some oj) (hd : oj.dst = some d) : F e.on (b.tmps.getD d undef) w :=
  hg e (List.mem_of_getElem? he) hb oj d ho hd
section
variable {P : Program} {b : Act} {w : World} {o : Oper}
theorem exec_move {x : Operand} {v : Value} (ho : o.op = .move x) (h : b.eval x = v) : (execOp b.eval o).run P w = .ok (.value v) w := by
  subst h
  unfold execOp
  rw [ho]
  rfl
theorem exec_assign {x : Operand} {v : Value} (ho : o.op = .assign x) (h : b.eval x = v) : (execOp b.eval o).run P w = .ok (.value v) w := by
  subst h
  unfold execOp
  rw [ho]
  rfl
theorem exec_call1 {f : FuncId} {x : Operand} {t : TypeId} {v : Value} (hf : ∀ args, (callFunc f args).run P w = .ok (.enter f args) w) (ho : o.op = .call { callee := .value (.func f), args := #[x], argTypes := #[t] }) (h : b.eval x = v) : (execOp b.eval o).run P w = .ok (.enter f #[v]) w := by
  subst h
  unfold execOp
  simp only [ho]
  go_simp
theorem exec_call2 {f : FuncId} {x y : Operand} {t u : TypeId} {v v' : Value} (hf : ∀ args, (callFunc f args).run P w = .ok (.enter f args) w) (ho : o.op = .call { callee := .value (.func f), args := #[x, y], argTypes := #[t, u] }) (h : b.eval x = v) (h' : b.eval y = v') : (execOp b.eval o).run P w = .ok (.enter f #[v, v']) w := by
  subst h h'
  unfold execOp
  simp only [ho]
  go_simp
end
end Go.Proofs.YtbhmnmmockmibaaGreat

namespace Go.Proofs.YtbhmnmmockmibaaGreat
open Go.ChangeShapes Go.WideShapes Go.ChangeAt Go.RowKit
theorem Tryz.own : ownKnob Tryz.prog.godebug = none := by kernel_rfl
theorem Tryz.laidOut : laidOutB Tryz.prog = true := by kernel_rfl
section
variable {H : Type} {enc : TypeId × Value → H} {P : Program}
theorem trodAll_stays (hl : laidOutB P = true) {W W' : World} {sp : Nat → Bool} (hb : Below W.heap.size W W') :
    ∀ {ts : List TypeId} {vs : List Value} {ds : List (DataW H)} {ps : List MemPlace}, (∀ t ∈ ts, P.readableRec t = true ∧ t < P.types.size) → DataW.TrodAll enc P W 0 (fun _ => true) true ts vs ds ps →
      (∀ x ∈ ps, x.block < W.heap.size) → (∀ x ∈ ps, sp x.block = true) → DataW.TrodAll enc P W' 0 sp true ts vs ds ps
  | [], vs, ds, ps, _, h, _, _ => by
    obtain ⟨rfl, rfl, rfl⟩ := trodAll_nil h
    exact rfl
  | t :: ts, vs, ds, ps, ht, h, hlt, hs => by
    obtain ⟨v0, vs0, d0, ds0, p0, q0, rfl, rfl, rfl, h0, r0⟩ := trodAll_cons h
    obtain ⟨h1, h2⟩ := ht t (by simp)
    exact ⟨p0, q0, WideElems.Trod_stays hl h1 h2 h0 (fun x hx => hb.same (hlt x (List.mem_append_left _ hx))) (fun x hx => hs x (List.mem_append_left _ hx)),
      trodAll_stays hl hb (fun t' h' => ht t' (by simp [h'])) r0 (fun x hx => hlt x (List.mem_append_right _ hx)) (fun x hx => hs x (List.mem_append_right _ hx)), rfl⟩
theorem post_of_below {f : Func} {s : ChangeSpec} {apart fresh handsOn again : Bool} {W W' : World} {args : Array Value} {v : Value} {ds gs : List (DataW H)} {before pa pv : List MemPlace}
    (hW : DataW.Whole enc P f.params.toList s.vars apart W args.toList ds gs before)
    (hres : ∀ (b : Nat) (sp : Nat → Bool) (hd : Bool), DataW.TrodAll enc P W' b sp hd f.resultTypes.toList (v.resultList f.resultTypes.size) (s.fn H (ds ++ gs)).results [])
    (hargs : ∀ sp : Nat → Bool, (∀ p ∈ before, sp p.block = true) → DataW.TrodAll enc P W' 0 sp true f.params.toList args.toList (s.fn H (ds ++ gs)).args pa)
    (hvars : ∀ sp : Nat → Bool, (∀ p ∈ before, sp p.block = true) → DataW.TrodVars enc P W' sp s.vars (s.fn H (ds ++ gs)).vars pv)
    (hps : before = pa ++ pv) (hb : Below W.heap.size W W')
    (hok : ∀ (j : Nat) (t : TypeId) (r : Value), f.resultTypes[j]? = some t → (v.resultList f.resultTypes.size)[j]? = some r → Value.okWide P W' .any 0 t r) :
    s.post enc P f apart fresh handsOn again W args v W' := by
  have hlt : ∀ p ∈ before, p.block < W.heap.size := fun p hp => hW.lt p hp
  have hold : ∀ p ∈ before, (fun b => decide (b < W.heap.size)) p.block = true := fun p hp => by simpa using hlt p hp
  refine ⟨ds, gs, before, [], pa, pv, hW, hres _ _ _, hargs _ hold, hvars _ hold, World.keptBut_mono (fun p hp => ⟨hp, ?_⟩) (hb.frame (· ∈ before)), fun _ => ?_⟩
  · rw [hps, List.mem_append] at hp
    exact Or.inr hp
  · obtain ⟨_, _, _, _, _, hz, hn⟩ := hW
    refine ⟨hok, _, _, ([] ++ pa) ++ pv, ⟨[] ++ pa, pv, trodAll_append (hargs _ (fun _ _ => rfl)) (hres _ _ _), hvars _ (fun _ _ => rfl), rfl, ?_, ?_⟩, ?_⟩
    · intro b off hp
      have hin : MemPlace.cell b off ∈ before := by rw [hps]; simpa using hp
      rw [hb.frozen (hlt _ hin)]
      exact hz b off hin
    · intro ha
      have := hn ha
      rw [hps] at this
      simpa using this
    · intro p hp _
      rw [hps]
      simpa using hp
theorem law_post {f : Func} {s : ChangeSpec} {tb : TypeId} {apart fresh handsOn again : Bool} {W W' : World} {args : Array Value} {ds gs : List (DataW H)} {before : List MemPlace}
    (hl : laidOutB P = true) (hb4 : P.underlying tb = some .bool) (hrt : f.resultTypes = #[tb]) (hts : (f.params.toList.all fun t => P.readableRec t && decide (t < P.types.size)) = true) (hv : s.vars = [])
    (hW : DataW.Whole enc P f.params.toList s.vars apart W args.toList ds gs before)
    (hfn : ∀ gs', gs' = [] → s.fn H (ds ++ gs') = { results := [.lit (.bool true)], args := ds }) (hb : Below W.heap.size W W') : s.post enc P f apart fresh handsOn again W args (.bool true) W' := by
  have hW' := hW
  obtain ⟨p, q, hA, hV, rfl, hfz, hnd⟩ := hW
  rw [hv] at hV
  obtain ⟨rfl, rfl⟩ := trodVars_none hV
  have e := hfn [] rfl
  refine post_of_below (pa := p) (pv := []) hW' (fun _ _ _ => ?_) (fun sp hsp => ?_) (fun _ _ => ?_) rfl hb ?_
  · rw [e, hrt]
    exact trodAll_mk1 (shut_bool hb4 true)
  · rw [e]
    exact trodAll_stays hl hb (fun t ht => by have := List.all_eq_true.1 hts t ht; simpa using this) hA (fun x hx => hW'.lt x (List.mem_append_left _ hx)) (fun x hx => hsp x (List.mem_append_left _ hx))
  · rw [e, hv]
    rfl
  · exact ok_one hrt rfl (okWide_bool_mk hb4 true)
end
theorem lit_u8 {n : Int} (h : (Lit.int .u8 n).wf = true) : 0 ≤ n ∧ n ≤ 255 := by
  simpa [Lit.wf, IntKind.min, IntKind.max, IntKind.signed, IntKind.bits] using h
theorem lit_i64 {n : Int} (h : (Lit.int .i64 n).wf = true) : -9223372036854775808 ≤ n ∧ n ≤ 9223372036854775807 := by
  simpa [Lit.wf, IntKind.min, IntKind.max, IntKind.signed, IntKind.bits] using h
end Go.Proofs.YtbhmnmmockmibaaGreat

namespace Go.Proofs.YtbhmnmmockmibaaGreat
open Go.RowKit
def Kept (v v' : Value) (w w' : World) : Prop := ∀ M, M < w.heap.size → v.ownBlock ≠ some M → v'.ownBlock ≠ some M ∧ w'.heap[M]? = w.heap[M]?
theorem Kept.of {v v' : Value} {w w' : World} (hg : w.grownBy w' v.ownBlock) (h : v'.ownBlock = v.ownBlock ∨ v'.ownBlock = some w.heap.size) : Kept v v' w w' := by
  intro M hM hne
  refine ⟨?_, hg.block M hM (fun e => hne e.symm)⟩
  rcases h with h | h
  · rw [h]; exact hne
  · rw [h]
    intro e
    injection e with e
    omega
theorem Kept.alloc {v v' : Value} {w w' : World} {o : Obj} (h : Kept v v' (w.alloc o) w') : Kept v v' w w' := by
  intro M hM hne
  obtain ⟨h1, h2⟩ := h M (by simp; omega) hne
  exact ⟨h1, h2.trans (heap_alloc_old w o hM)⟩
theorem Kept.cell {v v' : Value} {w w' : World} (h : Kept v v' w w') {p : Addr} (hp : p.block < w.heap.size) (hne : v.ownBlock ≠ some p.block) : w'.cell? p = w.cell? p :=
  World.cell?_of_block (h p.block hp hne).2
theorem Kept.apart {v v' : Value} {w w' : World} (h : Kept v v' w w') {M : Nat} (hp : M < w.heap.size) (hne : v.ownBlock ≠ some M) : v'.ownBlock ≠ some M := (h M hp hne).1
theorem own_setCell {w : World} {base n size : Nat} {e : TypeId} {v : Value} {xs : List Value} {p : Addr} (h : w.ownsRow base e size v n xs) (hg : v.ownBlock ≠ some p.block) (u : Value) : (w.setCell p u).ownsRow base e size v n xs := by
  refine ⟨h.1, ?_⟩
  rcases h.2 with hn | ⟨b, cap, cur, rfl, hb, hgg, rest⟩
  · exact .inl hn
  · refine .inr ⟨b, cap, cur, rfl, hb, ?_, rest⟩
    rw [heap_setCell_other w _ _ _ (by intro e; subst e; exact hg rfl)]
    exact hgg
section
variable {ops : Array Oper} {rest : List Oper} {o : Oper} {a : Act} {Q : Exit → Act → World → Prop} {w : World} {base : Nat} {v : Value}
theorem push_byteK {N : Nat} (s x : Operand) {l : List UInt8} (xi : Int) (c : UInt8) (hown : w.ownsRow base 5 1 v l.length (bs l)) (hbase : base ≤ w.heap.size) (hl : l.length ≤ 140737488355327) (hc : xi = (c.toNat : Int))
    (hgd : o.guard = none) (ho : o.op = .call { callee := .builtin .append, args := #[s, x], argTypes := #[38, 38] })
    (hs : a.eval s = v) (hx : a.eval x = .slice (some ⟨N, 0, none⟩) 1 1) (hN : w.heap.size = N)
    (h : ∀ v' w', w'.ownsRow base 5 1 v' (l ++ [c]).length (bs (l ++ [c])) → Below base w w' → base ≤ w'.heap.size → w.heap.size ≤ w'.heap.size → Kept v v' w w' → wpList Tryz.prog ops Q rest (a.put o.dst v') w') :
    wpList Tryz.prog ops Q (o :: rest) a (w.alloc (.cells #[.int .u8 xi] 5)) := by
  subst hN
  obtain ⟨i0, hi0, hz0, hz1, hz2⟩ := info_parts Tryz.info5
  refine wpList_append_any _ hgd s x _ ho base 5 i0 _ 1 1 Tryz.underlying38 hi0 hz0 hz1 hz2 rfl (by omega) v _ _ hs (hown.alloc _) (w.heap.size + 1) _ 1 1 (bs [c]) hx (reads_byte _ _ _ _ hc) (bs_one _) (by simp only [maxLen]; omega) (by omega) (by simp; omega) ?_
  intro v1 w1 h1 h2 h3
  have hb := ((Below.refl base w).alloc hbase _).trans (grown_below (hown.alloc (.cells #[.int .u8 xi] 5)) h2 (by simp; omega))
  have hsz : w.heap.size ≤ w1.heap.size := by have := h2.size; simp at this; omega
  refine h v1 w1 ?_ hb (Nat.le_trans hbase hb.size) hsz (Kept.alloc (Kept.of h2 h3))
  rw [bs_append]
  simpa using h1
theorem push_rowK (s x : Operand) {l m : List UInt8} {B : Nat} {A : Option Addr} {c : Nat} (hown : w.ownsRow base 5 1 v l.length (bs l)) (hbase : base ≤ w.heap.size) (hr : RdB w B A m) (hl : l.length + m.length ≤ 140737488355327)
    (hgd : o.guard = none) (ho : o.op = .call { callee := .builtin .append, args := #[s, x], argTypes := #[38, 38] })
    (hs : a.eval s = v) (hx : a.eval x = .slice A m.length c)
    (h : ∀ v' w', w'.ownsRow base 5 1 v' (l ++ m).length (bs (l ++ m)) → Below base w w' → base ≤ w'.heap.size → w.heap.size ≤ w'.heap.size → Kept v v' w w' → wpList Tryz.prog ops Q rest (a.put o.dst v') w') :
    wpList Tryz.prog ops Q (o :: rest) a w := by
  obtain ⟨i0, hi0, hz0, hz1, hz2⟩ := info_parts Tryz.info5
  refine wpList_append_any _ hgd s x _ ho base 5 i0 _ 1 1 Tryz.underlying38 hi0 hz0 hz1 hz2 rfl (by omega) v _ _ hs hown B A m.length c (bs m) hx hr (bs_one _) (by simp only [maxLen]; omega) (by omega) hbase ?_
  intro v1 w1 h1 h2 h3
  have hb := grown_below hown h2 hbase
  refine h v1 w1 ?_ hb (Nat.le_trans hbase hb.size) h2.size (Kept.of h2 h3)
  rw [bs_append, List.length_append]
  exact h1
end
end Go.Proofs.YtbhmnmmockmibaaGreat

namespace Go.Proofs.YtbhmnmmockmibaaGreat
open Go.RowKit
theorem take_eq_of_len {α : Type} [DecidableEq α] {l m : List α} (h : l.length ≠ m.length) : decide (l = m) = false := by
  rw [decide_eq_false_iff_not]
  intro e
  exact h (by rw [e])
theorem ne_of_get {α : Type} [DecidableEq α] {l m : List α} {k : Nat} {x y : α} (hx : Hid (l[k]? = some x)) (hy : Hid (m[k]? = some y)) (h : x ≠ y) : decide (l = m) = false := by
  rw [decide_eq_false_iff_not]
  intro e
  subst e
  have := hx.out.symm.trans hy.out
  injection this with this
  exact h this
theorem eq_of_takes {α : Type} [DecidableEq α] {l m : List α} (hl : l.length = m.length) (h : Hid (l.take l.length = m.take l.length)) : decide (l = m) = true := by
  rw [decide_eq_true_iff]
  have := h.out
  rw [List.take_length, hl, List.take_length] at this
  exact this
theorem takes_snoc {α : Type} {l m : List α} {k : Nat} {x : α} (h : Hid (l.take k = m.take k)) (hx : Hid (l[k]? = some x)) (hy : Hid (m[k]? = some x)) : Hid (l.take (k + 1) = m.take (k + 1)) := by
  show l.take (k + 1) = m.take (k + 1)
  rw [take_snoc hx, take_snoc hy, h.out]
set_option maxHeartbeats 1000000 in
theorem sameBytes_any (A A' : Option Addr) (c c' B B' : Nat) (l m : List UInt8) (w : World) (hl : l.length ≤ 140737488351232) (hr : RdB w B A l) (hm : RdB w B' A' m) :
    Calls Tryz.prog 51 #[.slice A l.length c, .slice A' m.length c'] w fun e w' => e = .returned (.bool (decide (l = m))) ∧ ∃ n, w' = w.drewN n := by
  have hlen : (l.length : Int) ≤ 140737488351232 := by omega
  clear hl
  by_cases hlm : l.length = m.length
  · have hne : ((l.length : Int) != (m.length : Int)) = false := by rw [hlm]; simp
    have hne' : (l.length != m.length) = false := by rw [hlm]; simp
    have Hlm := Lib.hid hlm
    clear hlm
    go_enter Tryz.func51, Tryz.ntmps51
    go_wp2
    go_loopw [5] (fun i wr => ∃ k n : Nat, k ≤ l.length ∧ i = .int .i64 (k : Int) ∧ wr = w.drewN n ∧ Hid (l.take k = m.take k)) (fun i _ => l.length - (intOf i).toNat)
    case atStart => exact ⟨0, 0, by omega, rfl, rfl, by exact rfl⟩
    case round =>
      obtain ⟨k, n, hk, rfl, rfl, ht⟩ := hrel
      by_cases hlt : k < l.length
      · have hlt' : k < m.length := by have := Hlm.out; omega
        obtain ⟨ad, x, rfl, _, hc, hx⟩ := RdB.at_ hr hlt
        obtain ⟨ad', y, rfl, _, hc', hy⟩ := RdB.at_ hm hlt'
        by_cases hxy : x = y
        · subst hxy
          go_wp2
          go_quiet (fail)
          go_wp2
          go_roundw
          case rel => exact ⟨k + 1, _, by omega, by go_num, rfl, takes_snoc ht hx hy⟩
          case measure => simp [intOf]; omega
        · have hv : ((x.toNat : Int) != (y.toNat : Int)) = true := by
            rw [bne_iff_ne]
            intro e
            exact hxy (UInt8.toNat_inj.1 (by omega))
          have hv' : (x.toNat != y.toNat) = true := by
            rw [bne_iff_ne]
            intro e
            exact hxy (UInt8.toNat_inj.1 e)
          have Hxy := Lib.hid hxy
          clear hxy
          go_wp2
          go_quiet (fail)
          go_wp2
          go_ret
          exact ⟨ret_bool (ne_of_get hx hy Hxy.out).symm, _, World.drewN_drewN _ _ _⟩
      · obtain rfl : k = l.length := by omega
        go_wp2
        go_ret
        exact ⟨ret_bool (eq_of_takes Hlm.out ht).symm, _, rfl⟩
  · have hne : ((l.length : Int) != (m.length : Int)) = true := by rw [bne_iff_ne]; omega
    have hne' : (l.length != m.length) = true := by rw [bne_iff_ne]; omega
    have Hlm := Lib.hid hlm
    clear hlm
    go_enter Tryz.func51, Tryz.ntmps51
    go_wp2
    go_ret
    exact ⟨ret_bool (take_eq_of_len Hlm.out).symm, 0, rfl⟩
end Go.Proofs.YtbhmnmmockmibaaGreat

namespace Go.Proofs.YtbhmnmmockmibaaGreat
open Go.RowKit
section
variable {P : Program} {Q : Exit → Act → World → Prop} (F : Nat → Value → World → Prop) (C : World → Prop)
theorem count_set_true {listed : Array Bool} {i fuel : Nat} (hl : listed[i]? = some false) (hc : listed.toList.count false ≤ fuel + 1) : (listed.setIfInBounds i true).toList.count false ≤ fuel := by
  have hil : i < listed.toList.length := by
    have := (Array.getElem?_eq_some_iff.1 hl).1
    simpa using this
  have hlv : listed.toList[i] = false := by
    have := (Array.getElem?_eq_some_iff.1 hl).2
    simpa using this
  rw [Array.toList_setIfInBounds, List.count_set hil, hlv]
  have h1 : (if (false == false) = true then 1 else 0) = 1 := rfl
  have h2 : (if (true == false) = true then 1 else 0) = 0 := rfl
  rw [h1, h2]
  omega
end
theorem act_known {ops : List Oper} {a b : Act} {n : Nat} (hsz : b.tmps.size = n) (hd : b.defers = a.defers) (hs : ∀ t, isDst ops t = false → b.tmps.getD t undef = a.tmps.getD t undef) :
    b = ⟨((List.range n).map fun t => if isDst ops t then b.tmps.getD t undef else a.tmps.getD t undef).toArray, a.defers⟩ := by
  obtain ⟨tm, df⟩ := b
  simp only at hsz hd hs ⊢
  subst hd
  congr 1
  apply Array.ext
  · simp [hsz]
  · intro i h1 h2
    simp only [List.getElem_toArray, List.getElem_map, List.getElem_range]
    cases hi : isDst ops i with
    | true => simp [h1]
    | false =>
      rw [← hs i hi]
      simp [h1]
section
variable {P : Program} {Q : Exit → Act → World → Prop} (F : Nat → Value → World → Prop) (C : World → Prop) (R : World → World → Prop)
theorem OpOk.skip {ops : List Oper} {a : Act} {i : Nat} {o : Oper} (h : False) : OpOk P Q F C ops a i o := h.elim
end
def Grew (w w' : World) : Prop := Below w.heap.size w w' ∧ w.drawn ≤ w'.drawn
theorem Grew.refl (w : World) : Grew w w := ⟨.refl _ _, Nat.le_refl _⟩
theorem Grew.trans {a b c : World} (h : Grew a b) (k : Grew b c) : Grew a c := ⟨h.1.trans (k.1.mono h.1.size), Nat.le_trans h.2 k.2⟩
theorem Grew.out {w w' : World} (h : Grew w w') : ∃ q os, w' = Sort.grow (w.drewN q) os := by
  obtain ⟨hb, hd⟩ := h
  refine ⟨w'.drawn - w.drawn, w'.heap.extract w.heap.size w'.heap.size, ?_⟩
  obtain ⟨h', t', d', o', p'⟩ := w'
  obtain ⟨h0, t0, d0, o0, p0⟩ := w
  obtain ⟨e1, e2, e3, e4, e5⟩ := hb
  simp only at e1 e2 e3 e4 e5 hd
  subst e1 e2 e3
  unfold Sort.grow World.drewN
  simp only [World.mk.injEq, and_true, true_and]
  refine ⟨?_, by omega⟩
  apply Array.ext_getElem?
  intro i
  rw [Array.getElem?_append]
  by_cases hi : i < h0.size
  · rw [if_pos hi]; exact e5 i hi
  · rw [if_neg hi, Array.getElem?_extract]
    by_cases hj : i < h'.size
    · rw [if_pos (by omega)]; congr 1; omega
    · rw [if_neg (by omega)]; exact Array.getElem?_eq_none (by omega)
end Go.Proofs.YtbhmnmmockmibaaGreat

namespace Go.Proofs.YtbhmnmmockmibaaGreat
open Go.RowKit
section
variable {P : Program} {Q : Exit → Act → World → Prop} (F : Nat → Value → World → Prop) (C : Array Bool → World → Prop)
def Closed (ops : List Oper) (L : Array Bool) : Prop := ∀ (j : Nat) (o : Oper), L.getD j false = true → ops[j]? = some o → ∀ e ∈ o.after.toList, Region.binds .any e = true → L.getD e.on false = true
def OpSt (P : Program) (Q : Exit → Act → World → Prop) (F : Nat → Value → World → Prop) (C : Array Bool → World → Prop) (ops : List Oper) (a : Act) (i : Nat) (o : Oper) : Prop :=
  ∀ (L : Array Bool) (b : Act) (w : World), L.size = ops.length → i < ops.length → Closed ops L → L.getD i false = false → (∀ e ∈ o.after.toList, Region.binds .any e = true → L.getD e.on false = true) →
    (∀ t, isDst ops t = false → b.tmps.getD t undef = a.tmps.getD t undef) → C L w →
    (∀ e ∈ o.after.toList, Region.binds .any e = true → ∀ oj d, ops[e.on]? = some oj → oj.dst = some d → F e.on (b.tmps.getD d undef) w) →
    Region.wanted o (yielded ops.toArray b.tmps) = true ∧
    o.wp P b w (fun b' w' => ∃ v, b' = b.put o.dst v ∧ C (L.setIfInBounds i true) w' ∧ (o.dst.isSome = true → F i v w') ∧ ∀ j u, F j u w → F j u w') Q
def OpsSt (P : Program) (Q : Exit → Act → World → Prop) (F : Nat → Value → World → Prop) (C : Array Bool → World → Prop) (ops : List Oper) (a : Act) : Nat → List Oper → Prop
  | _, [] => True
  | i, o :: l => OpSt P Q F C ops a i o ∧ OpsSt P Q F C ops a (i + 1) l
theorem OpsSt.cons {ops : List Oper} {a : Act} {i : Nat} {o : Oper} {l : List Oper} (h : OpSt P Q F C ops a i o) (hl : OpsSt P Q F C ops a (i + 1) l) : OpsSt P Q F C ops a i (o :: l) := ⟨h, hl⟩
theorem OpsSt.nil {ops : List Oper} {a : Act} {i : Nat} : OpsSt P Q F C ops a i [] := trivial
theorem OpsSt.get {ops : List Oper} {a : Act} : ∀ {l : List Oper} {i j : Nat} {o : Oper}, OpsSt P Q F C ops a i l → l[j]? = some o → OpSt P Q F C ops a (i + j) o
  | [], _, _, _, _, h => by simp at h
  | x :: l, i, 0, o, h, ho => by
    simp only [List.getElem?_cons_zero, Option.some.injEq] at ho
    subst ho
    exact h.1
  | x :: l, i, j + 1, o, h, ho => by
    simp only [List.getElem?_cons_succ] at ho
    have := OpsSt.get h.2 ho
    rwa [show i + 1 + j = i + (j + 1) by omega] at this
end
def TwoW (s t : Nat) (W0 W1 W2 : World) (L : Array Bool) (w : World) : Prop := w = if L.getD t false = true then W2 else if L.getD s false = true then W1 else W0
section
variable {P : Program} {Q : Exit → Act → World → Prop} {F : Nat → Value → World → Prop} {s t : Nat} {W0 W1 W2 : World} {ops : List Oper} {a : Act} {i : Nat} {o : Oper}
theorem notyet {L : Array Bool} {k : Nat} {os : Oper} {e : Edge} (hcl : Closed ops L) (ho : ops[s]? = some os) (he : os.after.toList[k]? = some e) (hb : Region.binds .any e = true) (hn : L.getD e.on false = false) : L.getD s false = false := by
  cases h : L.getD s false with
  | false => rfl
  | true =>
    have := hcl s os h ho e (List.mem_of_getElem? he) hb
    rw [hn] at this
    cases this
theorem OpSt.load (hs : i ≠ s) (ht : i ≠ t) (hno : ∀ L : Array Bool, Closed ops L → L.getD i false = false → L.getD s false = false ∧ L.getD t false = false)
    (h : ∀ (b : Act), (∀ t, isDst ops t = false → b.tmps.getD t undef = a.tmps.getD t undef) →
      (∀ e ∈ o.after.toList, Region.binds .any e = true → ∀ oj d, ops[e.on]? = some oj → oj.dst = some d → F e.on (b.tmps.getD d undef) W0) →
      Region.wanted o (yielded ops.toArray b.tmps) = true ∧ ∃ v, (execOp b.eval o).run P W0 = .ok (.value v) W0 ∧ F i v W0) : OpSt P Q F (TwoW s t W0 W1 W2) ops a i o := by
  intro L b w hL hi hcl hni _ hsm hC hg
  obtain ⟨h1, h2⟩ := hno L hcl hni
  have hw0 : w = W0 := by
    unfold TwoW at hC
    rw [h1, h2] at hC
    exact hC
  subst hw0
  obtain ⟨hw, v, hr, hf⟩ := h b hsm hg
  refine ⟨hw, ?_⟩
  unfold Oper.wp
  rw [hr, Oper.upon_value]
  refine ⟨v, rfl, ?_, fun _ => hf, fun _ _ h => h⟩
  unfold TwoW at hC ⊢
  rw [getD_set (by omega), getD_set (by omega), decide_eq_false hs, decide_eq_false ht, Bool.false_or, Bool.false_or]
  exact hC
theorem OpSt.first (hst : s ≠ t) (hF : ∀ j u w w', F j u w → F j u w') (hd : o.dst = none) (hno : ∀ L : Array Bool, Closed ops L → L.getD s false = false → L.getD t false = false)
    (h : ∀ (b : Act), (∀ t, isDst ops t = false → b.tmps.getD t undef = a.tmps.getD t undef) →
      (∀ e ∈ o.after.toList, Region.binds .any e = true → ∀ oj d, ops[e.on]? = some oj → oj.dst = some d → F e.on (b.tmps.getD d undef) W0) →
      Region.wanted o (yielded ops.toArray b.tmps) = true ∧ ∀ K : Act → World → Prop, K (b.put o.dst undef) W1 → o.wp P b W0 K Q) : OpSt P Q F (TwoW s t W0 W1 W2) ops a s o := by
  intro L b w hL hi hcl hni _ hsm hC hg
  have h2 := hno L hcl hni
  have hw0 : w = W0 := by
    unfold TwoW at hC
    rw [hni, h2] at hC
    exact hC
  subst hw0
  obtain ⟨hw, hk⟩ := h b hsm hg
  refine ⟨hw, hk _ ⟨undef, rfl, ?_, fun hsome => (by rw [hd] at hsome; cases hsome), fun j u hj => hF j u _ _ hj⟩⟩
  unfold TwoW
  rw [getD_set (by omega), getD_set (by omega), decide_eq_false hst, decide_eq_true rfl, Bool.false_or, Bool.true_or, h2]
  rfl
theorem OpSt.last (hF : ∀ j u w w', F j u w → F j u w') (hd : o.dst = none) {k : Nat} {e : Edge} (he : o.after.toList[k]? = some e) (hb : Region.binds .any e = true) (hes : e.on = s)
    (h : ∀ (b : Act), (∀ t, isDst ops t = false → b.tmps.getD t undef = a.tmps.getD t undef) →
      (∀ e ∈ o.after.toList, Region.binds .any e = true → ∀ oj d, ops[e.on]? = some oj → oj.dst = some d → F e.on (b.tmps.getD d undef) W1) →
      Region.wanted o (yielded ops.toArray b.tmps) = true ∧ ∀ K : Act → World → Prop, K (b.put o.dst undef) W2 → o.wp P b W1 K Q) : OpSt P Q F (TwoW s t W0 W1 W2) ops a t o := by
  intro L b w hL hi hcl hni hdep hsm hC hg
  have h1 := hdep e (List.mem_of_getElem? he) hb
  rw [hes] at h1
  have hw0 : w = W1 := by
    unfold TwoW at hC
    rw [hni, h1] at hC
    exact hC
  subst hw0
  obtain ⟨hw, hk⟩ := h b hsm hg
  refine ⟨hw, hk _ ⟨undef, rfl, ?_, fun hsome => (by rw [hd] at hsome; cases hsome), fun j u hj => hF j u _ _ hj⟩⟩
  unfold TwoW
  rw [getD_set (by omega), decide_eq_true rfl, Bool.true_or]
  rfl
end
end Go.Proofs.YtbhmnmmockmibaaGreat
