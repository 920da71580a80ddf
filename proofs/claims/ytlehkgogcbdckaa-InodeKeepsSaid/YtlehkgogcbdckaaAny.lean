/- A region that draws its order, by facts: each operation, in whatever world it comes up, lays what is said of it, and takes nothing away of what has been said. No order is walked. Conditions: none. -/
import Derived.Test.YtlehkgogcbdckaaBase
import Derived.Orders
namespace Go.Proofs.Ytlehkgogcbdckaa
open Go.RowKit

/-- Is t a slot that one of the operations writes? -/
def isDst (ops : List Oper) (t : Nat) : Bool := ops.any fun o => o.dst == some t
/-- The operations wait for earlier ones alone; no two write one slot; the slots are there. -/
def inOrder (ops : List Oper) (n : Nat) : Bool :=
  (ops.zipIdx.all fun (o, i) => o.after.all fun e => !Region.binds .any e || decide (e.on < i)) &&
  (ops.filterMap (·.dst)).Nodup && ((ops.filterMap (·.dst)).all fun d => decide (d < n))

section
variable {P : Program} {Q : Exit → Act → World → Prop} (F : Nat → Value → World → Prop) (C : World → Prop)

/-- What is asked of operation number i. -/
def OpOk (P : Program) (Q : Exit → Act → World → Prop) (F : Nat → Value → World → Prop) (C : World → Prop) (ops : List Oper) (a : Act) (i : Nat) (o : Oper) : Prop :=
  ∀ (b : Act) (w : World), (∀ t, isDst ops t = false → b.tmps.getD t undef = a.tmps.getD t undef) → C w →
    (∀ e ∈ o.after.toList, Region.binds .any e = true → ∀ oj d, ops[e.on]? = some oj → oj.dst = some d → F e.on (b.tmps.getD d undef) w) →
    Region.wanted o (yielded ops.toArray b.tmps) = true ∧
    o.wp P b w (fun b' w' => ∃ v, b' = b.put o.dst v ∧ C w' ∧ (o.dst.isSome = true → F i v w') ∧ ∀ j u, F j u w → F j u w') Q
def OpsOk (P : Program) (Q : Exit → Act → World → Prop) (F : Nat → Value → World → Prop) (C : World → Prop) (ops : List Oper) (a : Act) : Nat → List Oper → Prop
  | _, [] => True
  | i, o :: l => OpOk P Q F C ops a i o ∧ OpsOk P Q F C ops a (i + 1) l

theorem OpsOk.cons {ops : List Oper} {a : Act} {i : Nat} {o : Oper} {l : List Oper} (h : OpOk P Q F C ops a i o) (hl : OpsOk P Q F C ops a (i + 1) l) : OpsOk P Q F C ops a i (o :: l) := ⟨h, hl⟩
theorem OpsOk.nil {ops : List Oper} {a : Act} {i : Nat} : OpsOk P Q F C ops a i [] := trivial
theorem OpsOk.get {ops : List Oper} {a : Act} : ∀ {l : List Oper} {i j : Nat} {o : Oper}, OpsOk P Q F C ops a i l → l[j]? = some o → OpOk P Q F C ops a (i + j) o
  | [], _, _, _, _, h => by simp at h
  | x :: l, i, 0, o, h, ho => by
    simp only [List.getElem?_cons_zero, Option.some.injEq] at ho
    subst ho
    exact h.1
  | x :: l, i, j + 1, o, h, ho => by
    simp only [List.getElem?_cons_succ] at ho
    have := OpsOk.get h.2 ho
    rwa [show i + 1 + j = i + (j + 1) by omega] at this

/-- What holds when these have come up. -/
structure Upto (F : Nat → Value → World → Prop) (C : World → Prop) (ops : List Oper) (n : Nat) (a : Act) (listed : Array Bool) (b : Act) (w : World) : Prop where
  size : listed.size = ops.length
  slots : b.tmps.size = n
  defers : b.defers = a.defers
  same : ∀ t, isDst ops t = false → b.tmps.getD t undef = a.tmps.getD t undef
  common : C w
  fact : ∀ j o d, listed.getD j false = true → ops[j]? = some o → o.dst = some d → F j (b.tmps.getD d undef) w

theorem dst_mem {ops : List Oper} {j d : Nat} {o : Oper} (ho : ops[j]? = some o) (hd : o.dst = some d) : d ∈ ops.filterMap (·.dst) :=
  List.mem_filterMap.2 ⟨o, List.mem_of_getElem? ho, hd⟩
theorem isDst_of {ops : List Oper} {j d : Nat} {o : Oper} (ho : ops[j]? = some o) (hd : o.dst = some d) : isDst ops d = true := by
  unfold isDst
  rw [List.any_eq_true]
  exact ⟨o, List.mem_of_getElem? ho, by simp [hd]⟩
theorem dst_inj : ∀ {ops : List Oper} {j k d : Nat} {o p : Oper}, (ops.filterMap (·.dst)).Nodup → ops[j]? = some o → ops[k]? = some p → o.dst = some d → p.dst = some d → j = k
  | [], _, _, _, _, _, _, h, _, _, _ => by simp at h
  | x :: l, j, k, d, o, p, hn, hj, hk, ho, hp => by
    have hx : ∀ {i : Nat} {q : Oper}, l[i]? = some q → q.dst = some d → x.dst = some d → False := by
      intro i q hi hq hxd
      rw [List.filterMap_cons_some hxd, List.nodup_cons] at hn
      exact hn.1 (dst_mem hi hq)
    have hn' : (l.filterMap (·.dst)).Nodup := by
      cases hxd : x.dst with
      | none => rwa [List.filterMap_cons_none hxd] at hn
      | some y =>
        rw [List.filterMap_cons_some hxd, List.nodup_cons] at hn
        exact hn.2
    cases j with
    | zero =>
      cases k with
      | zero => rfl
      | succ k =>
        simp only [List.getElem?_cons_zero, List.getElem?_cons_succ, Option.some.injEq] at hj hk
        subst hj
        exact (hx hk hp ho).elim
    | succ j =>
      cases k with
      | zero =>
        simp only [List.getElem?_cons_zero, List.getElem?_cons_succ, Option.some.injEq] at hj hk
        subst hk
        exact (hx hj ho hp).elim
      | succ k =>
        simp only [List.getElem?_cons_succ] at hj hk
        rw [dst_inj hn' hj hk ho hp]

theorem getD_put (b : Act) (d t : Nat) (v : Value) (h : d < b.tmps.size) : (b.put (some d) v).tmps.getD t undef = if d = t then v else b.tmps.getD t undef := by
  show (b.tmps.setIfInBounds d v).getD t undef = _
  rw [Array.getD_eq_getD_getElem?, Array.getD_eq_getD_getElem?, Array.getElem?_setIfInBounds]
  by_cases hdt : d = t
  · subst hdt
    rw [if_pos rfl, if_pos rfl, if_pos h]
    rfl
  · rw [if_neg hdt, if_neg hdt]
theorem getD_set {l : Array Bool} {i j : Nat} (h : i < l.size) : (l.setIfInBounds i true).getD j false = (decide (i = j) || l.getD j false) := by
  rw [Array.getD_eq_getD_getElem?, Array.getD_eq_getD_getElem?, Array.getElem?_setIfInBounds]
  by_cases hij : i = j
  · subst hij
    rw [if_pos rfl, if_pos h]
    simp
  · rw [if_neg hij]
    simp [hij]

theorem ready_mem {ops : List Oper} {listed : Array Bool} (hs : listed.size = ops.length) {i : Nat} (h : i ∈ Region.ready .any ops.toArray listed) :
    ∃ o, ops[i]? = some o ∧ listed[i]? = some false ∧ ∀ e ∈ o.after.toList, Region.binds .any e = true → listed.getD e.on false = true := by
  unfold Region.ready at h
  simp only [List.mem_filter, List.mem_range, List.size_toArray, List.getElem?_toArray, Bool.and_eq_true, Bool.not_eq_true'] at h
  obtain ⟨hi, h1, h2⟩ := h
  have ho : ops[i]? = some ops[i] := List.getElem?_eq_getElem hi
  refine ⟨ops[i], ho, ?_, ?_⟩
  · rw [Array.getD_eq_getD_getElem?] at h1
    have hl : listed[i]? = some listed[i] := Array.getElem?_eq_getElem (by omega)
    rw [hl] at h1 ⊢
    simpa using h1
  · rw [ho] at h2
    simp only [Option.map_some, Option.getD_some, Array.all_eq_true_iff_forall_mem, Bool.or_eq_true, Bool.not_eq_true'] at h2
    intro e he hb
    rcases h2 e (by simpa using he) with h | h
    · rw [hb] at h; cases h
    · exact h
theorem ready_nil {ops : List Oper} {listed : Array Bool} (hs : listed.size = ops.length) (hord : ∀ (i : Nat) (o : Oper), ops[i]? = some o → ∀ e ∈ o.after.toList, Region.binds .any e = true → e.on < i) (h : Region.ready .any ops.toArray listed = []) :
    ∀ j, j < ops.length → listed.getD j false = true := by
  intro j
  induction j using Nat.strongRecOn with
  | _ j ih =>
    intro hj
    cases hl : listed.getD j false with
    | true => rfl
    | false =>
      exfalso
      have hmem : j ∈ Region.ready .any ops.toArray listed := by
        unfold Region.ready
        simp only [List.mem_filter, List.mem_range, List.size_toArray, List.getElem?_toArray, Bool.and_eq_true, Bool.not_eq_true']
        have hlj : listed[j]? = some listed[j] := Array.getElem?_eq_getElem (by omega)
        refine ⟨hj, ?_, ?_⟩
        · rw [Array.getD_eq_getD_getElem?, hlj] at hl ⊢
          exact hl
        · rw [List.getElem?_eq_getElem hj]
          simp only [Option.map_some, Option.getD_some, Array.all_eq_true_iff_forall_mem, Bool.or_eq_true, Bool.not_eq_true']
          intro e he
          cases hbe : Region.binds .any e with
          | false => left; rfl
          | true =>
            right
            have := hord j _ (List.getElem?_eq_getElem hj) e (by simpa using he) hbe
            exact ih e.on this (by omega)
      rw [h] at hmem
      cases hmem

theorem Upto.go {ops : List Oper} {n : Nat} {a b : Act} {listed : Array Bool} {w w' : World} {i : Nat} {o : Oper} {v : Value} (hn : (ops.filterMap (·.dst)).Nodup) (hb : ∀ d ∈ ops.filterMap (·.dst), d < n)
    (h : Upto F C ops n a listed b w) (ho : ops[i]? = some o) (hC : C w') (hF : o.dst.isSome = true → F i v w') (hK : ∀ j u, F j u w → F j u w') :
    Upto F C ops n a (listed.setIfInBounds i true) (b.put o.dst v) w' := by
  have hi : i < listed.size := by rw [h.size]; exact (List.getElem?_eq_some_iff.1 ho).1
  refine ⟨by simpa using h.size, ?_, ?_, ?_, hC, ?_⟩
  · cases hd : o.dst with
    | none => exact h.slots
    | some d => show (b.tmps.setIfInBounds d v).size = n; simpa using h.slots
  · cases hd : o.dst with
    | none => exact h.defers
    | some d => exact h.defers
  · intro t ht
    cases hd : o.dst with
    | none => exact h.same t ht
    | some d =>
      rw [getD_put b d t v (by rw [h.slots]; exact hb d (dst_mem ho hd)), if_neg, h.same t ht]
      rintro rfl
      rw [isDst_of ho hd] at ht
      cases ht
  · intro j oj d hl hoj hd
    rw [getD_set hi] at hl
    cases hod : o.dst with
    | none =>
      by_cases hij : i = j
      · subst hij
        rw [ho] at hoj
        injection hoj with hoj
        subst hoj
        rw [hod] at hd
        cases hd
      · rw [decide_eq_false hij, Bool.false_or] at hl
        exact hK _ _ (h.fact j oj d hl hoj hd)
    | some d' =>
      rw [getD_put b d' d v (by rw [h.slots]; exact hb d' (dst_mem ho hod))]
      by_cases hij : i = j
      · subst hij
        rw [ho] at hoj
        injection hoj with hoj
        subst hoj
        rw [hod] at hd
        injection hd with hd
        rw [if_pos hd]
        exact hF (by rw [hod]; rfl)
      · rw [decide_eq_false hij, Bool.false_or] at hl
        rw [if_neg]
        · exact hK _ _ (h.fact j oj d hl hoj hd)
        · rintro rfl
          exact hij (dst_inj hn ho hoj hod hd)

theorem wpAny_facts {ops : List Oper} {n : Nat} {a : Act} (hn : (ops.filterMap (·.dst)).Nodup) (hb : ∀ d ∈ ops.filterMap (·.dst), d < n) (hord : ∀ (i : Nat) (o : Oper), ops[i]? = some o → ∀ e ∈ o.after.toList, Region.binds .any e = true → e.on < i)
    (hop : OpsOk P Q F C ops a 0 ops)
    (hend : ∀ (b : Act) (w : World), b.tmps.size = n → b.defers = a.defers → (∀ t, isDst ops t = false → b.tmps.getD t undef = a.tmps.getD t undef) → C w →
      (∀ j o d, ops[j]? = some o → o.dst = some d → F j (b.tmps.getD d undef) w) → Q .normal b w) :
    ∀ (fuel : Nat) (listed : Array Bool) (b : Act) (w : World), listed.toList.count false ≤ fuel → Upto F C ops n a listed b w → wpAny P .any ops.toArray Q fuel listed b w := by
  have hfin : ∀ (listed : Array Bool) (b : Act) (w : World), Upto F C ops n a listed b w → Region.ready .any ops.toArray listed = [] → Q .normal b w := by
    intro listed b w h hr
    have hall := ready_nil h.size hord hr
    exact hend b w h.slots h.defers h.same h.common (fun j o d hj hd => h.fact j o d (hall j (List.getElem?_eq_some_iff.1 hj).1) hj hd)
  intro fuel
  induction fuel with
  | zero =>
    intro listed b w hc h
    have hr : Region.ready .any ops.toArray listed = [] := by
      rw [List.eq_nil_iff_forall_not_mem]
      intro i hi
      obtain ⟨o, _, hl, _⟩ := ready_mem h.size hi
      have : false ∈ listed.toList := List.mem_of_getElem? (i := i) (by simpa using hl)
      have := List.count_pos_iff.2 this
      omega
    exact ⟨hr, hfin listed b w h hr⟩
  | succ fuel ih =>
    intro listed b w hc h
    refine ⟨hfin listed b w h, fun i hi => ?_⟩
    obtain ⟨o, ho, hl, hdep⟩ := ready_mem h.size hi
    have hok := OpsOk.get F C hop ho
    rw [Nat.zero_add] at hok
    obtain ⟨hw, hwp⟩ := hok b w h.same h.common (fun e he hbe oj d hoj hd => h.fact e.on oj d (hdep e he hbe) hoj hd)
    unfold wpOp
    rw [List.getElem?_toArray, ho]
    simp only [hw, if_true]
    refine Or.inl (Oper.wp_mono ?_ hwp)
    rintro b' w' ⟨v, rfl, hC, hF, hK⟩
    refine ih _ _ _ ?_ (h.go F C hn hb ho hC hF hK)
    have hil : i < listed.toList.length := by
      have := (Array.getElem?_eq_some_iff.1 hl).1
      simpa using this
    have hlv : listed.toList[i] = false := by
      have := (Array.getElem?_eq_some_iff.1 hl).2
      simpa using this
    rw [Array.toList_setIfInBounds, List.count_set hil, hlv]
    have h1 : (if (false == false) = true then 1 else 0) = 1 := rfl
    have h2 : (if (true == false) = true then 1 else 0) = 0 := rfl
    rw [h1, h2]
    omega

/-- THE RULE. -/
theorem wp_region_facts {id n : Nat} {ops : List Oper} {a : Act} {w : World} (hm : P.follows .mixedOrders = true) (hin : inOrder ops n = true) (hsz : a.tmps.size = n) (hC : C w.drew)
    (hop : OpsOk P Q F C ops a 0 ops)
    (hend : ∀ (b : Act) (w : World), b.tmps.size = n → b.defers = a.defers → (∀ t, isDst ops t = false → b.tmps.getD t undef = a.tmps.getD t undef) → C w →
      (∀ j o d, ops[j]? = some o → o.dst = some d → F j (b.tmps.getD d undef) w) → Q .normal b w) :
    (Code.region id ops.toArray true).wp P Q a w := by
  unfold inOrder at hin
  simp only [Bool.and_eq_true, decide_eq_true_eq, List.all_eq_true] at hin
  obtain ⟨⟨h1, h2⟩, h3⟩ := hin
  refine wp_region_any hm ?_
  refine wpAny_facts F C h2 h3 ?_ hop hend _ _ _ _ ?_ ⟨by simp, hsz, rfl, fun _ _ => rfl, hC, ?_⟩
  · intro i o ho e he hbe
    have := h1 (o, i) (by rw [List.mem_zipIdx_iff_getElem?]; exact ho)
    simp only [Array.all_eq_true_iff_forall_mem, Bool.or_eq_true, Bool.not_eq_true', decide_eq_true_eq] at this
    rcases this e (by simpa using he) with h | h
    · rw [hbe] at h; cases h
    · exact h
  · simp
  · intro j o d hl
    rw [Array.getD_eq_getD_getElem?] at hl
    rw [Array.getElem?_replicate] at hl
    exfalso
    revert hl
    split <;> simp

/-! ### facts that stay while memory grows -/
theorem OpOk.run {ops : List Oper} {a : Act} {i : Nat} {o : Oper} (hF : ∀ j u w w', Below w.heap.size w w' → F j u w → F j u w') (hCm : ∀ w w', Below w.heap.size w w' → C w → C w')
    (h : ∀ (b : Act) (w : World), (∀ t, isDst ops t = false → b.tmps.getD t undef = a.tmps.getD t undef) → C w →
      (∀ e ∈ o.after.toList, Region.binds .any e = true → ∀ oj d, ops[e.on]? = some oj → oj.dst = some d → F e.on (b.tmps.getD d undef) w) →
      Region.wanted o (yielded ops.toArray b.tmps) = true ∧ ∃ v w', (execOp b.eval o).run P w = .ok (.value v) w' ∧ Below w.heap.size w w' ∧ F i v w') : OpOk P Q F C ops a i o := by
  intro b w hs hC hg
  obtain ⟨hw, v, w', hr, hb, hf⟩ := h b w hs hC hg
  refine ⟨hw, ?_⟩
  unfold Oper.wp
  rw [hr, Oper.upon_value]
  exact ⟨v, rfl, hCm w w' hb hC, fun _ => hf, fun j u hj => hF j u w w' hb hj⟩
theorem OpOk.call {ops : List Oper} {a : Act} {i : Nat} {o : Oper} (hF : ∀ j u w w', Below w.heap.size w w' → F j u w → F j u w') (hCm : ∀ w w', Below w.heap.size w w' → C w → C w')
    (h : ∀ (b : Act) (w : World), (∀ t, isDst ops t = false → b.tmps.getD t undef = a.tmps.getD t undef) → C w →
      (∀ e ∈ o.after.toList, Region.binds .any e = true → ∀ oj d, ops[e.on]? = some oj → oj.dst = some d → F e.on (b.tmps.getD d undef) w) →
      Region.wanted o (yielded ops.toArray b.tmps) = true ∧ ∃ f args, (execOp b.eval o).run P w = .ok (.enter f args) w ∧ Calls P f args w fun e w' => ∃ v, e = .returned v ∧ Below w.heap.size w w' ∧ F i v w') : OpOk P Q F C ops a i o := by
  intro b w hs hC hg
  obtain ⟨hw, f, args, hr, hc⟩ := h b w hs hC hg
  refine ⟨hw, ?_⟩
  unfold Oper.wp
  rw [hr, Oper.upon_enter]
  refine hc.mono ?_
  rintro e w' ⟨v, rfl, hb, hf⟩
  exact ⟨v, rfl, hCm w w' hb hC, fun _ => hf, fun j u hj => hF j u w w' hb hj⟩
end

/-- What an operation that has come up has laid: by the place of the edge. -/
theorem dep {F : Nat → Value → World → Prop} {ops : List Oper} {b : Act} {w : World} {o : Oper}
    (hg : ∀ e ∈ o.after.toList, Region.binds .any e = true → ∀ oj d, ops[e.on]? = some oj → oj.dst = some d → F e.on (b.tmps.getD d undef) w)
    (k : Nat) {e : Edge} {oj : Oper} {d : Tmp} (he : o.after.toList[k]? = some e) (hb : Region.binds .any e = true) (ho : ops[e.on]? = some oj) (hd : oj.dst = some d) : F e.on (b.tmps.getD d undef) w :=
  hg e (List.mem_of_getElem? he) hb oj d ho hd
/-- A guarded operation is wanted. -/
theorem wanted_of {ops : List Oper} {b : Act} {o oj : Oper} {j : Nat} {c : Bool} {d : Tmp} (hgd : o.guard = some (j, c)) (ho : ops[j]? = some oj) (hd : oj.dst = some d) (h : b.tmps.getD d undef = .bool c) : Region.wanted o (yielded ops.toArray b.tmps) = true := by
  have hy : yielded ops.toArray b.tmps j = some c := by
    unfold yielded
    rw [List.getElem?_toArray, ho]
    rw [Array.getD_eq_getD_getElem?] at h
    cases ht : b.tmps[d]? with
    | none =>
      rw [ht] at h
      cases h
    | some v =>
      rw [ht] at h
      simp only [Option.getD_some] at h
      subst h
      simp [hd, ht]
  unfold Region.wanted
  rw [hgd]
  simp [hy]

/-! ### single operations -/
section
variable {P : Program} {b : Act} {w : World} {o : Oper}
theorem exec_move {x : Operand} {v : Value} (ho : o.op = .move x) (h : b.eval x = v) : (execOp b.eval o).run P w = .ok (.value v) w := by
  subst h
  unfold execOp
  rw [ho]
  rfl
theorem exec_assign {x : Operand} {v : Value} (ho : o.op = .assign x) (h : b.eval x = v) : (execOp b.eval o).run P w = .ok (.value v) w := by
  subst h
  unfold execOp
  rw [ho]
  rfl
theorem exec_pick {x y z : Operand} {c : Bool} {v : Value} (ho : o.op = .pick x y z) (h : b.eval x = .bool c) (hv : (if c then b.eval y else b.eval z) = v) : (execOp b.eval o).run P w = .ok (.value v) w := by
  subst hv
  unfold execOp
  simp only [ho, h]
  cases c <;> rfl
theorem exec_call0 {f : FuncId} (hf : ∀ args, (callFunc f args).run P w = .ok (.enter f args) w) (ho : o.op = .call { callee := .value (.func f), args := #[], argTypes := #[] }) : (execOp b.eval o).run P w = .ok (.enter f #[]) w := by
  unfold execOp
  simp only [ho]
  go_simp
theorem exec_call1 {f : FuncId} {x : Operand} {t : TypeId} {v : Value} (hf : ∀ args, (callFunc f args).run P w = .ok (.enter f args) w) (ho : o.op = .call { callee := .value (.func f), args := #[x], argTypes := #[t] }) (h : b.eval x = v) : (execOp b.eval o).run P w = .ok (.enter f #[v]) w := by
  subst h
  unfold execOp
  simp only [ho]
  go_simp
theorem exec_call2 {f : FuncId} {x y : Operand} {t u : TypeId} {v v' : Value} (hf : ∀ args, (callFunc f args).run P w = .ok (.enter f args) w) (ho : o.op = .call { callee := .value (.func f), args := #[x, y], argTypes := #[t, u] }) (h : b.eval x = v) (h' : b.eval y = v') : (execOp b.eval o).run P w = .ok (.enter f #[v, v']) w := by
  subst h h'
  unfold execOp
  simp only [ho]
  go_simp
end
/-- Below a bound that is there: as below all that is there. -/
theorem below_all {B : Nat} {w w' : World} (hb : Below B w w') (hB : B = w.heap.size) : Below w.heap.size w w' := hB ▸ hb
end Go.Proofs.Ytlehkgogcbdckaa
