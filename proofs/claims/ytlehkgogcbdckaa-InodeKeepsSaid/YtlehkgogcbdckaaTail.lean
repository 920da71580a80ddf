/- A region that draws its order, by facts, whose last operations wait for all that stand ahead of them: those are walked in their order. Conditions: none. -/
import Derived.Test.YtlehkgogcbdckaaAny
import Derived.Sort.Grow
namespace Go.Proofs.Ytlehkgogcbdckaa
open Go.RowKit

section
variable {P : Program} {Q : Exit → Act → World → Prop} (F : Nat → Value → World → Prop) (C : World → Prop)

/-- From place m on each operation waits for all ahead of it, and has no guard. -/
def lastWait (ops : List Oper) (m : Nat) : Bool :=
  ops.zipIdx.all fun (o, i) => decide (i < m) || (o.guard.isNone && (List.range i).all fun j => o.after.toList.any fun e => Region.binds .any e && (e.on == j || ((ops[e.on]?).toList.any fun o' => o'.after.toList.any fun e' => Region.binds .any e' && e'.on == j)))

theorem lastWait_get {ops : List Oper} {m : Nat} (h : lastWait ops m = true) {i : Nat} {o : Oper} (ho : ops[i]? = some o) (hi : m ≤ i) :
    o.guard = none ∧ ∀ (S : Nat → Prop), (∀ e ∈ o.after.toList, Region.binds .any e = true → S e.on) → (∀ (j : Nat) (o' : Oper), S j → ops[j]? = some o' → ∀ e ∈ o'.after.toList, Region.binds .any e = true → S e.on) → ∀ j, j < i → S j := by
  unfold lastWait at h
  rw [List.all_eq_true] at h
  have := h (o, i) (by rw [List.mem_zipIdx_iff_getElem?]; exact ho)
  simp only [Bool.or_eq_true, decide_eq_true_eq, Bool.and_eq_true, Option.isNone_iff_eq_none, List.all_eq_true, List.mem_range, List.any_eq_true, beq_iff_eq, Option.mem_toList] at this
  rcases this with h' | ⟨h1, h2⟩
  · omega
  · refine ⟨h1, fun S hd hc j hj => ?_⟩
    obtain ⟨e, he, h3, h4⟩ := h2 j hj
    rcases h4 with h4 | ⟨o', h5, e', h6, h7, h8⟩
    · rw [← h4]; exact hd e he h3
    · rw [← h8]; exact hc e.on o' (hd e he h3) h5 e' h6 h7

theorem count_set_true {listed : Array Bool} {i fuel : Nat} (hl : listed[i]? = some false) (hc : listed.toList.count false ≤ fuel + 1) : (listed.setIfInBounds i true).toList.count false ≤ fuel := by
  have hil : i < listed.toList.length := by
    have := (Array.getElem?_eq_some_iff.1 hl).1
    simpa using this
  have hlv : listed.toList[i] = false := by
    have := (Array.getElem?_eq_some_iff.1 hl).2
    simpa using this
  rw [Array.toList_setIfInBounds, List.count_set hil, hlv]
  have h1 : (if (false == false) = true then 1 else 0) = 1 := rfl
  have h2 : (if (true == false) = true then 1 else 0) = 0 := rfl
  rw [h1, h2]
  omega

theorem wpAny_tail {ops : List Oper} {m : Nat} (hord : ∀ (i : Nat) (o : Oper), ops[i]? = some o → ∀ e ∈ o.after.toList, Region.binds .any e = true → e.on < i) (hlast : lastWait ops m = true) :
    ∀ (fuel t : Nat) (listed : Array Bool) (b : Act) (w : World), listed.toList.count false ≤ fuel → listed.size = ops.length → (∀ j, j < ops.length → (listed.getD j false = true ↔ j < m + t)) →
      wpList P ops.toArray Q (ops.drop (m + t)) b w → wpAny P .any ops.toArray Q fuel listed b w := by
  intro fuel
  have hend : ∀ (t : Nat) (listed : Array Bool) (b : Act) (w : World), listed.size = ops.length → (∀ j, j < ops.length → (listed.getD j false = true ↔ j < m + t)) → Region.ready .any ops.toArray listed = [] → wpList P ops.toArray Q (ops.drop (m + t)) b w → Q .normal b w := by
    intro t listed b w hsz hj hr h
    have hall := ready_nil hsz hord hr
    have : ops.length ≤ m + t := by
      rcases Nat.lt_or_ge (m + t) ops.length with h1 | h1
      · have := (hj _ h1).1 (hall _ h1)
        omega
      · exact h1
    rw [List.drop_of_length_le this] at h
    exact h
  induction fuel with
  | zero =>
    intro t listed b w hc hsz hj h
    have hr : Region.ready .any ops.toArray listed = [] := by
      rw [List.eq_nil_iff_forall_not_mem]
      intro i hi
      obtain ⟨o, _, hl, _⟩ := ready_mem hsz hi
      have : false ∈ listed.toList := List.mem_of_getElem? (i := i) (by simpa using hl)
      have := List.count_pos_iff.2 this
      omega
    exact ⟨hr, hend t listed b w hsz hj hr h⟩
  | succ fuel ih =>
    intro t listed b w hc hsz hj h
    refine ⟨fun hr => hend t listed b w hsz hj hr h, fun i hi => ?_⟩
    obtain ⟨o, ho, hl, hdep⟩ := ready_mem hsz hi
    have hio : i < ops.length := (List.getElem?_eq_some_iff.1 ho).1
    have hnl : ¬ listed.getD i false = true := by
      rw [Array.getD_eq_getD_getElem?, hl]
      simp
    have hge : m + t ≤ i := by
      rcases Nat.lt_or_ge i (m + t) with h1 | h1
      · exact absurd ((hj i hio).2 h1) hnl
      · exact h1
    obtain ⟨hgd, hw⟩ := lastWait_get hlast ho (by omega)
    have hle : i = m + t := by
      rcases Nat.eq_or_lt_of_le hge with h1 | h1
      · exact h1.symm
      · have h4 := hw (fun j => listed.getD j false = true) (fun e he h3 => hdep e he h3) (fun j o' hs ho' e he hbe => by
          have hjl := (List.getElem?_eq_some_iff.1 ho').1
          have h5 := (hj j hjl).1 hs
          have h6 := hord j o' ho' e he hbe
          exact (hj e.on (by omega)).2 (by omega)) (m + t) h1
        have := (hj (m + t) (by omega)).1 h4
        omega
    subst hle
    have hd : ops.drop (m + t) = o :: ops.drop (m + t + 1) := by
      rw [List.drop_eq_getElem_cons hio]
      congr 1
      exact (List.getElem?_eq_some_iff.1 ho).2
    rw [hd] at h
    unfold wpList at h
    have hwant : Region.wanted o (yielded ops.toArray b.tmps) = true := by simp [Region.wanted, hgd]
    rw [if_pos hwant] at h
    unfold wpOp
    rw [List.getElem?_toArray, ho]
    simp only [hwant, if_true]
    refine h.imp (Oper.wp_mono fun b' w' hb' => ?_) id
    refine ih (t + 1) _ _ _ (count_set_true hl hc) (by simpa using hsz) ?_ (by rw [← Nat.add_assoc]; exact hb')
    intro j hjl
    rw [getD_set (by omega)]
    by_cases hij : m + t = j
    · subst hij
      simp
    · rw [decide_eq_false hij, Bool.false_or, hj j hjl]
      omega

/-- THE RULE. -/
theorem wp_region_tail {id n m : Nat} {ops pre : List Oper} {a : Act} {w : World} (hm : P.follows .mixedOrders = true) (hin : inOrder ops n = true) (hsz : a.tmps.size = n) (hpre : ops.take m = pre) (hml : m ≤ ops.length) (hlast : lastWait ops m = true) (hC : C w.drew)
    (hop : OpsOk P Q F C ops a 0 pre)
    (hend : ∀ (b : Act) (w : World), b.tmps.size = n → b.defers = a.defers → (∀ t, isDst ops t = false → b.tmps.getD t undef = a.tmps.getD t undef) → C w →
      (∀ j o d, j < m → ops[j]? = some o → o.dst = some d → F j (b.tmps.getD d undef) w) → wpList P ops.toArray Q (ops.drop m) b w) :
    (Code.region id ops.toArray true).wp P Q a w := by
  unfold inOrder at hin
  simp only [Bool.and_eq_true, decide_eq_true_eq, List.all_eq_true] at hin
  obtain ⟨⟨h1, h2⟩, h3⟩ := hin
  have hord : ∀ (i : Nat) (o : Oper), ops[i]? = some o → ∀ e ∈ o.after.toList, Region.binds .any e = true → e.on < i := by
    intro i o ho e he hbe
    have := h1 (o, i) (by rw [List.mem_zipIdx_iff_getElem?]; exact ho)
    simp only [Array.all_eq_true_iff_forall_mem, Bool.or_eq_true, Bool.not_eq_true', decide_eq_true_eq] at this
    rcases this e (by simpa using he) with h | h
    · rw [hbe] at h; cases h
    · exact h
  refine wp_region_any hm ?_
  have key : ∀ (fuel : Nat) (listed : Array Bool) (b : Act) (w : World), listed.toList.count false ≤ fuel → (∀ j, listed.getD j false = true → j < m) → (∀ (j : Nat) (o' : Oper), listed.getD j false = true → ops[j]? = some o' → ∀ e ∈ o'.after.toList, Region.binds .any e = true → listed.getD e.on false = true) → Upto F C ops n a listed b w → wpAny P .any ops.toArray Q fuel listed b w := by
    have hfull : ∀ (fuel : Nat) (listed : Array Bool) (b : Act) (w : World), listed.toList.count false ≤ fuel → (∀ j, listed.getD j false = true → j < m) → Upto F C ops n a listed b w → (∀ j, j < m → listed.getD j false = true) → wpAny P .any ops.toArray Q fuel listed b w := by
      intro fuel listed b w hc hlm h hall
      refine wpAny_tail hord hlast fuel 0 listed b w hc h.size (fun j _ => ⟨fun h' => by have := hlm j h'; omega, fun h' => hall j (by omega)⟩) ?_
      rw [Nat.add_zero]
      exact hend b w h.slots h.defers h.same h.common (fun j o d hj ho hd => h.fact j o d (hall j hj) ho hd)
    intro fuel
    induction fuel with
    | zero =>
      intro listed b w hc hlm _ h
      refine hfull 0 listed b w hc hlm h fun j hj => ?_
      have hjs : j < listed.size := by rw [h.size]; omega
      cases hv : listed.getD j false with
      | true => rfl
      | false =>
        exfalso
        rw [Array.getD_eq_getD_getElem?, Array.getElem?_eq_getElem hjs] at hv
        simp only [Option.getD_some] at hv
        have : false ∈ listed.toList := by rw [← hv]; simp
        have := List.count_pos_iff.2 this
        omega
    | succ fuel ih =>
      intro listed b w hc hlm hcl h
      by_cases hall : ∀ j, j < m → listed.getD j false = true
      · exact hfull _ listed b w hc hlm h hall
      · refine ⟨fun hr => ?_, fun i hi => ?_⟩
        · exact absurd (fun j hj => ready_nil h.size hord hr j (by omega)) hall
        · obtain ⟨o, ho, hl, hdep⟩ := ready_mem h.size hi
          have him : i < m := by
            rcases Nat.lt_or_ge i m with h1 | h1
            · exact h1
            · exfalso
              obtain ⟨_, hw⟩ := lastWait_get hlast ho h1
              exact hall fun j hj => hw (fun j => listed.getD j false = true) (fun e he h3 => hdep e he h3) hcl j (by omega)
          have hok := OpsOk.get F C hop (show pre[i]? = some o by rw [← hpre, List.getElem?_take, if_pos him]; exact ho)
          rw [Nat.zero_add] at hok
          obtain ⟨hw, hwp⟩ := hok b w h.same h.common (fun e he hbe oj d hoj hd => h.fact e.on oj d (hdep e he hbe) hoj hd)
          unfold wpOp
          rw [List.getElem?_toArray, ho]
          simp only [hw, if_true]
          refine Or.inl (Oper.wp_mono ?_ hwp)
          rintro b' w' ⟨v, rfl, hC, hF, hK⟩
          have his : i < listed.size := (Array.getElem?_eq_some_iff.1 hl).1
          refine ih _ _ _ (count_set_true hl hc) ?_ ?_ (h.go F C h2 h3 ho hC hF hK)
          rotate_left
          · intro j o' hj ho' e he hbe
            rw [getD_set his] at hj ⊢
            by_cases hij : i = j
            · subst hij
              rw [ho] at ho'
              obtain rfl : o = o' := by injection ho'
              rw [hdep e he hbe, Bool.or_true]
            · rw [decide_eq_false hij, Bool.false_or] at hj
              rw [hcl j o' hj ho' e he hbe, Bool.or_true]
          intro j hj
          rw [getD_set his] at hj
          by_cases hij : i = j
          · omega
          · rw [decide_eq_false hij, Bool.false_or] at hj
            exact hlm j hj
  refine key _ _ _ _ ?_ ?_ ?_ ⟨by simp, hsz, rfl, fun _ _ => rfl, hC, ?_⟩
  · simp
  rotate_left
  · intro j o' hl
    rw [Array.getD_eq_getD_getElem?] at hl
    rw [Array.getElem?_replicate] at hl
    exfalso
    revert hl
    split <;> simp
  rotate_left
  · intro j hl
    rw [Array.getD_eq_getD_getElem?] at hl
    rw [Array.getElem?_replicate] at hl
    exfalso
    revert hl
    split <;> simp
  · intro j o d hl
    rw [Array.getD_eq_getD_getElem?] at hl
    rw [Array.getElem?_replicate] at hl
    exfalso
    revert hl
    split <;> simp
end

/-- A frame whose slots are known: those that the operations write, and those that they leave. -/
theorem act_known {ops : List Oper} {a b : Act} {n : Nat} (hsz : b.tmps.size = n) (hd : b.defers = a.defers) (hs : ∀ t, isDst ops t = false → b.tmps.getD t undef = a.tmps.getD t undef) :
    b = ⟨((List.range n).map fun t => if isDst ops t then b.tmps.getD t undef else a.tmps.getD t undef).toArray, a.defers⟩ := by
  obtain ⟨tm, df⟩ := b
  simp only at hsz hd hs ⊢
  subst hd
  congr 1
  apply Array.ext
  · simp [hsz]
  · intro i h1 h2
    simp only [List.getElem_toArray, List.getElem_map, List.getElem_range]
    cases hi : isDst ops i with
    | true => simp [h1]
    | false =>
      rw [← hs i hi]
      simp [h1]

/-! ### facts that stay under a relation of one's own -/
section
variable {P : Program} {Q : Exit → Act → World → Prop} (F : Nat → Value → World → Prop) (C : World → Prop) (R : World → World → Prop)
theorem OpOk.runR {ops : List Oper} {a : Act} {i : Nat} {o : Oper} (hF : ∀ j u w w', R w w' → F j u w → F j u w') (hCm : ∀ w w', R w w' → C w → C w')
    (h : ∀ (b : Act) (w : World), (∀ t, isDst ops t = false → b.tmps.getD t undef = a.tmps.getD t undef) → C w →
      (∀ e ∈ o.after.toList, Region.binds .any e = true → ∀ oj d, ops[e.on]? = some oj → oj.dst = some d → F e.on (b.tmps.getD d undef) w) →
      Region.wanted o (yielded ops.toArray b.tmps) = true ∧ ∃ v w', (execOp b.eval o).run P w = .ok (.value v) w' ∧ R w w' ∧ F i v w') : OpOk P Q F C ops a i o := by
  intro b w hs hC hg
  obtain ⟨hw, v, w', hr, hb, hf⟩ := h b w hs hC hg
  refine ⟨hw, ?_⟩
  unfold Oper.wp
  rw [hr, Oper.upon_value]
  exact ⟨v, rfl, hCm w w' hb hC, fun _ => hf, fun j u hj => hF j u w w' hb hj⟩
theorem OpOk.callR {ops : List Oper} {a : Act} {i : Nat} {o : Oper} (hF : ∀ j u w w', R w w' → F j u w → F j u w') (hCm : ∀ w w', R w w' → C w → C w')
    (h : ∀ (b : Act) (w : World), (∀ t, isDst ops t = false → b.tmps.getD t undef = a.tmps.getD t undef) → C w →
      (∀ e ∈ o.after.toList, Region.binds .any e = true → ∀ oj d, ops[e.on]? = some oj → oj.dst = some d → F e.on (b.tmps.getD d undef) w) →
      Region.wanted o (yielded ops.toArray b.tmps) = true ∧ ∃ f args, (execOp b.eval o).run P w = .ok (.enter f args) w ∧ Calls P f args w fun e w' => ∃ v, e = .returned v ∧ R w w' ∧ F i v w') : OpOk P Q F C ops a i o := by
  intro b w hs hC hg
  obtain ⟨hw, f, args, hr, hc⟩ := h b w hs hC hg
  refine ⟨hw, ?_⟩
  unfold Oper.wp
  rw [hr, Oper.upon_enter]
  refine hc.mono ?_
  rintro e w' ⟨v, rfl, hb, hf⟩
  exact ⟨v, rfl, hCm w w' hb hC, fun _ => hf, fun j u hj => hF j u w w' hb hj⟩
/-- An operation whose guard says that it is not wanted. -/
theorem OpOk.skip {ops : List Oper} {a : Act} {i : Nat} {o : Oper} (h : False) : OpOk P Q F C ops a i o := h.elim
end
/-- Nothing that was there has changed, and no fewer draws. -/
def Grew (w w' : World) : Prop := Below w.heap.size w w' ∧ w.drawn ≤ w'.drawn
theorem Grew.refl (w : World) : Grew w w := ⟨.refl _ _, Nat.le_refl _⟩
theorem Grew.trans {a b c : World} (h : Grew a b) (k : Grew b c) : Grew a c := ⟨h.1.trans (k.1.mono h.1.size), Nat.le_trans h.2 k.2⟩
theorem Grew.out {w w' : World} (h : Grew w w') : ∃ q os, w' = Sort.grow (w.drewN q) os := by
  obtain ⟨hb, hd⟩ := h
  refine ⟨w'.drawn - w.drawn, w'.heap.extract w.heap.size w'.heap.size, ?_⟩
  obtain ⟨h', t', d', o', p'⟩ := w'
  obtain ⟨h0, t0, d0, o0, p0⟩ := w
  obtain ⟨e1, e2, e3, e4, e5⟩ := hb
  simp only at e1 e2 e3 e4 e5 hd
  subst e1 e2 e3
  unfold Sort.grow World.drewN
  simp only [World.mk.injEq, and_true, true_and]
  refine ⟨?_, by omega⟩
  apply Array.ext_getElem?
  intro i
  rw [Array.getElem?_append]
  by_cases hi : i < h0.size
  · rw [if_pos hi]; exact e5 i hi
  · rw [if_neg hi, Array.getElem?_extract]
    by_cases hj : i < h'.size
    · rw [if_pos (by omega)]; congr 1; omega
    · rw [if_neg (by omega)]; exact Array.getElem?_eq_none (by omega)
end Go.Proofs.Ytlehkgogcbdckaa
