/- A region that draws its order, by facts, whose last operations wait for all that stand ahead of them: those are walked in their order. Conditions: none. -/
/- A region that draws its order, by facts, with two stores, one behind the other; what stands ahead of a store in the text may come behind it, but for what the store waits for. Conditions: none. -/
/- A region that draws its order, by facts, some of whose guarded operations are not wanted. Conditions: none. -/
/- A region in its order, by facts, some of whose guarded operations are not wanted. Conditions: none. -/
/- A region that draws its order, by facts, in phases: ahead of a first operation that changes what was there, behind it, and behind a second one; what only reckons may come at any time. Conditions: none. -/
/- A region that draws its order but for a tail, by facts: the tail may write what is read ahead of it. Conditions: none. -/
/- Memory that changes in some blocks alone; readings that avoid blocks; boxes; single operations. Conditions: none. -/
import Derived.Test.YtogoaihimepboaaKGa
import Derived.Sort.Grow
import Derived.Deep.CutRange
import Derived.Lib.SmallJoins

namespace Go.Proofs.Ytogoaihimepboaa
open Go.RowKit

section
variable {P : Program} {Q : Exit → Act → World → Prop} (F : Nat → Value → World → Prop) (C : World → Prop)

/-- From place m on each operation waits for all ahead of it, and has no guard. -/
def lastWait (ops : List Oper) (m : Nat) : Bool :=
  ops.zipIdx.all fun (o, i) => decide (i < m) || (o.guard.isNone && (List.range i).all fun j => o.after.toList.any fun e => Region.binds .any e && (e.on == j || ((ops[e.on]?).toList.any fun o' => o'.after.toList.any fun e' => Region.binds .any e' && e'.on == j)))

theorem lastWait_get {ops : List Oper} {m : Nat} (h : lastWait ops m = true) {i : Nat} {o : Oper} (ho : ops[i]? = some o) (hi : m ≤ i) :
    o.guard = none ∧ ∀ (S : Nat → Prop), (∀ e ∈ o.after.toList, Region.binds .any e = true → S e.on) → (∀ (j : Nat) (o' : Oper), S j → ops[j]? = some o' → ∀ e ∈ o'.after.toList, Region.binds .any e = true → S e.on) → ∀ j, j < i → S j := by
  unfold lastWait at h
  rw [List.all_eq_true] at h
  have := h (o, i) (by rw [List.mem_zipIdx_iff_getElem?]; exact ho)
  simp only [Bool.or_eq_true, decide_eq_true_eq, Bool.and_eq_true, Option.isNone_iff_eq_none, List.all_eq_true, List.mem_range, List.any_eq_true, beq_iff_eq, Option.mem_toList] at this
  rcases this with h' | ⟨h1, h2⟩
  · omega
  · refine ⟨h1, fun S hd hc j hj => ?_⟩
    obtain ⟨e, he, h3, h4⟩ := h2 j hj
    rcases h4 with h4 | ⟨o', h5, e', h6, h7, h8⟩
    · rw [← h4]; exact hd e he h3
    · rw [← h8]; exact hc e.on o' (hd e he h3) h5 e' h6 h7

theorem count_set_true {listed : Array Bool} {i fuel : Nat} (hl : listed[i]? = some false) (hc : listed.toList.count false ≤ fuel + 1) : (listed.setIfInBounds i true).toList.count false ≤ fuel := by
  have hil : i < listed.toList.length := by
    have := (Array.getElem?_eq_some_iff.1 hl).1
    simpa using this
  have hlv : listed.toList[i] = false := by
    have := (Array.getElem?_eq_some_iff.1 hl).2
    simpa using this
  rw [Array.toList_setIfInBounds, List.count_set hil, hlv]
  have h1 : (if (false == false) = true then 1 else 0) = 1 := rfl
  have h2 : (if (true == false) = true then 1 else 0) = 0 := rfl
  rw [h1, h2]
  omega

theorem wpAny_tail {ops : List Oper} {m : Nat} (hord : ∀ (i : Nat) (o : Oper), ops[i]? = some o → ∀ e ∈ o.after.toList, Region.binds .any e = true → e.on < i) (hlast : lastWait ops m = true) :
    ∀ (fuel t : Nat) (listed : Array Bool) (b : Act) (w : World), listed.toList.count false ≤ fuel → listed.size = ops.length → (∀ j, j < ops.length → (listed.getD j false = true ↔ j < m + t)) →
      wpList P ops.toArray Q (ops.drop (m + t)) b w → wpAny P .any ops.toArray Q fuel listed b w := by
  intro fuel
  have hend : ∀ (t : Nat) (listed : Array Bool) (b : Act) (w : World), listed.size = ops.length → (∀ j, j < ops.length → (listed.getD j false = true ↔ j < m + t)) → Region.ready .any ops.toArray listed = [] → wpList P ops.toArray Q (ops.drop (m + t)) b w → Q .normal b w := by
    intro t listed b w hsz hj hr h
    have hall := ready_nil hsz hord hr
    have : ops.length ≤ m + t := by
      rcases Nat.lt_or_ge (m + t) ops.length with h1 | h1
      · have := (hj _ h1).1 (hall _ h1)
        omega
      · exact h1
    rw [List.drop_of_length_le this] at h
    exact h
  induction fuel with
  | zero =>
    intro t listed b w hc hsz hj h
    have hr : Region.ready .any ops.toArray listed = [] := by
      rw [List.eq_nil_iff_forall_not_mem]
      intro i hi
      obtain ⟨o, _, hl, _⟩ := ready_mem hsz hi
      have : false ∈ listed.toList := List.mem_of_getElem? (i := i) (by simpa using hl)
      have := List.count_pos_iff.2 this
      omega
    exact ⟨hr, hend t listed b w hsz hj hr h⟩
  | succ fuel ih =>
    intro t listed b w hc hsz hj h
    refine ⟨fun hr => hend t listed b w hsz hj hr h, fun i hi => ?_⟩
    obtain ⟨o, ho, hl, hdep⟩ := ready_mem hsz hi
    have hio : i < ops.length := (List.getElem?_eq_some_iff.1 ho).1
    have hnl : ¬ listed.getD i false = true := by
      rw [Array.getD_eq_getD_getElem?, hl]
      simp
    have hge : m + t ≤ i := by
      rcases Nat.lt_or_ge i (m + t) with h1 | h1
      · exact absurd ((hj i hio).2 h1) hnl
      · exact h1
    obtain ⟨hgd, hw⟩ := lastWait_get hlast ho (by omega)
    have hle : i = m + t := by
      rcases Nat.eq_or_lt_of_le hge with h1 | h1
      · exact h1.symm
      · have h4 := hw (fun j => listed.getD j false = true) (fun e he h3 => hdep e he h3) (fun j o' hs ho' e he hbe => by
          have hjl := (List.getElem?_eq_some_iff.1 ho').1
          have h5 := (hj j hjl).1 hs
          have h6 := hord j o' ho' e he hbe
          exact (hj e.on (by omega)).2 (by omega)) (m + t) h1
        have := (hj (m + t) (by omega)).1 h4
        omega
    subst hle
    have hd : ops.drop (m + t) = o :: ops.drop (m + t + 1) := by
      rw [List.drop_eq_getElem_cons hio]
      congr 1
      exact (List.getElem?_eq_some_iff.1 ho).2
    rw [hd] at h
    unfold wpList at h
    have hwant : Region.wanted o (yielded ops.toArray b.tmps) = true := by simp [Region.wanted, hgd]
    rw [if_pos hwant] at h
    unfold wpOp
    rw [List.getElem?_toArray, ho]
    simp only [hwant, if_true]
    refine h.imp (Oper.wp_mono fun b' w' hb' => ?_) id
    refine ih (t + 1) _ _ _ (count_set_true hl hc) (by simpa using hsz) ?_ (by rw [← Nat.add_assoc]; exact hb')
    intro j hjl
    rw [getD_set (by omega)]
    by_cases hij : m + t = j
    · subst hij
      simp
    · rw [decide_eq_false hij, Bool.false_or, hj j hjl]
      omega

/-- THE RULE. -/
theorem wp_region_tail {id n m : Nat} {ops pre : List Oper} {a : Act} {w : World} (hm : P.follows .mixedOrders = true) (hin : inOrder ops n = true) (hsz : a.tmps.size = n) (hpre : ops.take m = pre) (hml : m ≤ ops.length) (hlast : lastWait ops m = true) (hC : C w.drew)
    (hop : OpsOk P Q F C ops a 0 pre)
    (hend : ∀ (b : Act) (w : World), b.tmps.size = n → b.defers = a.defers → (∀ t, isDst ops t = false → b.tmps.getD t undef = a.tmps.getD t undef) → C w →
      (∀ j o d, j < m → ops[j]? = some o → o.dst = some d → F j (b.tmps.getD d undef) w) → wpList P ops.toArray Q (ops.drop m) b w) :
    (Code.region id ops.toArray true).wp P Q a w := by
  unfold inOrder at hin
  simp only [Bool.and_eq_true, decide_eq_true_eq, List.all_eq_true] at hin
  obtain ⟨⟨h1, h2⟩, h3⟩ := hin
  have hord : ∀ (i : Nat) (o : Oper), ops[i]? = some o → ∀ e ∈ o.after.toList, Region.binds .any e = true → e.on < i := by
    intro i o ho e he hbe
    have := h1 (o, i) (by rw [List.mem_zipIdx_iff_getElem?]; exact ho)
    simp only [Array.all_eq_true_iff_forall_mem, Bool.or_eq_true, Bool.not_eq_true', decide_eq_true_eq] at this
    rcases this e (by simpa using he) with h | h
    · rw [hbe] at h; cases h
    · exact h
  refine wp_region_any hm ?_
  have key : ∀ (fuel : Nat) (listed : Array Bool) (b : Act) (w : World), listed.toList.count false ≤ fuel → (∀ j, listed.getD j false = true → j < m) → (∀ (j : Nat) (o' : Oper), listed.getD j false = true → ops[j]? = some o' → ∀ e ∈ o'.after.toList, Region.binds .any e = true → listed.getD e.on false = true) → Upto F C ops n a listed b w → wpAny P .any ops.toArray Q fuel listed b w := by
    have hfull : ∀ (fuel : Nat) (listed : Array Bool) (b : Act) (w : World), listed.toList.count false ≤ fuel → (∀ j, listed.getD j false = true → j < m) → Upto F C ops n a listed b w → (∀ j, j < m → listed.getD j false = true) → wpAny P .any ops.toArray Q fuel listed b w := by
      intro fuel listed b w hc hlm h hall
      refine wpAny_tail hord hlast fuel 0 listed b w hc h.size (fun j _ => ⟨fun h' => by have := hlm j h'; omega, fun h' => hall j (by omega)⟩) ?_
      rw [Nat.add_zero]
      exact hend b w h.slots h.defers h.same h.common (fun j o d hj ho hd => h.fact j o d (hall j hj) ho hd)
    intro fuel
    induction fuel with
    | zero =>
      intro listed b w hc hlm _ h
      refine hfull 0 listed b w hc hlm h fun j hj => ?_
      have hjs : j < listed.size := by rw [h.size]; omega
      cases hv : listed.getD j false with
      | true => rfl
      | false =>
        exfalso
        rw [Array.getD_eq_getD_getElem?, Array.getElem?_eq_getElem hjs] at hv
        simp only [Option.getD_some] at hv
        have : false ∈ listed.toList := by rw [← hv]; simp
        have := List.count_pos_iff.2 this
        omega
    | succ fuel ih =>
      intro listed b w hc hlm hcl h
      by_cases hall : ∀ j, j < m → listed.getD j false = true
      · exact hfull _ listed b w hc hlm h hall
      · refine ⟨fun hr => ?_, fun i hi => ?_⟩
        · exact absurd (fun j hj => ready_nil h.size hord hr j (by omega)) hall
        · obtain ⟨o, ho, hl, hdep⟩ := ready_mem h.size hi
          have him : i < m := by
            rcases Nat.lt_or_ge i m with h1 | h1
            · exact h1
            · exfalso
              obtain ⟨_, hw⟩ := lastWait_get hlast ho h1
              exact hall fun j hj => hw (fun j => listed.getD j false = true) (fun e he h3 => hdep e he h3) hcl j (by omega)
          have hok := OpsOk.get F C hop (show pre[i]? = some o by rw [← hpre, List.getElem?_take, if_pos him]; exact ho)
          rw [Nat.zero_add] at hok
          obtain ⟨hw, hwp⟩ := hok b w h.same h.common (fun e he hbe oj d hoj hd => h.fact e.on oj d (hdep e he hbe) hoj hd)
          unfold wpOp
          rw [List.getElem?_toArray, ho]
          simp only [hw, if_true]
          refine Or.inl (Oper.wp_mono ?_ hwp)
          rintro b' w' ⟨v, rfl, hC, hF, hK⟩
          have his : i < listed.size := (Array.getElem?_eq_some_iff.1 hl).1
          refine ih _ _ _ (count_set_true hl hc) ?_ ?_ (h.go F C h2 h3 ho hC hF hK)
          rotate_left
          · intro j o' hj ho' e he hbe
            rw [getD_set his] at hj ⊢
            by_cases hij : i = j
            · subst hij
              rw [ho] at ho'
              obtain rfl : o = o' := by injection ho'
              rw [hdep e he hbe, Bool.or_true]
            · rw [decide_eq_false hij, Bool.false_or] at hj
              rw [hcl j o' hj ho' e he hbe, Bool.or_true]
          intro j hj
          rw [getD_set his] at hj
          by_cases hij : i = j
          · omega
          · rw [decide_eq_false hij, Bool.false_or] at hj
            exact hlm j hj
  refine key _ _ _ _ ?_ ?_ ?_ ⟨by simp, hsz, rfl, fun _ _ => rfl, hC, ?_⟩
  · simp
  rotate_left
  · intro j o' hl
    rw [Array.getD_eq_getD_getElem?] at hl
    rw [Array.getElem?_replicate] at hl
    exfalso
    revert hl
    split <;> simp
  rotate_left
  · intro j hl
    rw [Array.getD_eq_getD_getElem?] at hl
    rw [Array.getElem?_replicate] at hl
    exfalso
    revert hl
    split <;> simp
  · intro j o d hl
    rw [Array.getD_eq_getD_getElem?] at hl
    rw [Array.getElem?_replicate] at hl
    exfalso
    revert hl
    split <;> simp
end

/-- A frame whose slots are known: those that the operations write, and those that they leave. -/
theorem act_known {ops : List Oper} {a b : Act} {n : Nat} (hsz : b.tmps.size = n) (hd : b.defers = a.defers) (hs : ∀ t, isDst ops t = false → b.tmps.getD t undef = a.tmps.getD t undef) :
    b = ⟨((List.range n).map fun t => if isDst ops t then b.tmps.getD t undef else a.tmps.getD t undef).toArray, a.defers⟩ := by
  obtain ⟨tm, df⟩ := b
  simp only at hsz hd hs ⊢
  subst hd
  congr 1
  apply Array.ext
  · simp [hsz]
  · intro i h1 h2
    simp only [List.getElem_toArray, List.getElem_map, List.getElem_range]
    cases hi : isDst ops i with
    | true => simp [h1]
    | false =>
      rw [← hs i hi]
      simp [h1]

/-! ### facts that stay under a relation of one's own -/
section
variable {P : Program} {Q : Exit → Act → World → Prop} (F : Nat → Value → World → Prop) (C : World → Prop) (R : World → World → Prop)
theorem OpOk.runR {ops : List Oper} {a : Act} {i : Nat} {o : Oper} (hF : ∀ j u w w', R w w' → F j u w → F j u w') (hCm : ∀ w w', R w w' → C w → C w')
    (h : ∀ (b : Act) (w : World), (∀ t, isDst ops t = false → b.tmps.getD t undef = a.tmps.getD t undef) → C w →
      (∀ e ∈ o.after.toList, Region.binds .any e = true → ∀ oj d, ops[e.on]? = some oj → oj.dst = some d → F e.on (b.tmps.getD d undef) w) →
      Region.wanted o (yielded ops.toArray b.tmps) = true ∧ ∃ v w', (execOp b.eval o).run P w = .ok (.value v) w' ∧ R w w' ∧ F i v w') : OpOk P Q F C ops a i o := by
  intro b w hs hC hg
  obtain ⟨hw, v, w', hr, hb, hf⟩ := h b w hs hC hg
  refine ⟨hw, ?_⟩
  unfold Oper.wp
  rw [hr, Oper.upon_value]
  exact ⟨v, rfl, hCm w w' hb hC, fun _ => hf, fun j u hj => hF j u w w' hb hj⟩
theorem OpOk.callR {ops : List Oper} {a : Act} {i : Nat} {o : Oper} (hF : ∀ j u w w', R w w' → F j u w → F j u w') (hCm : ∀ w w', R w w' → C w → C w')
    (h : ∀ (b : Act) (w : World), (∀ t, isDst ops t = false → b.tmps.getD t undef = a.tmps.getD t undef) → C w →
      (∀ e ∈ o.after.toList, Region.binds .any e = true → ∀ oj d, ops[e.on]? = some oj → oj.dst = some d → F e.on (b.tmps.getD d undef) w) →
      Region.wanted o (yielded ops.toArray b.tmps) = true ∧ ∃ f args, (execOp b.eval o).run P w = .ok (.enter f args) w ∧ Calls P f args w fun e w' => ∃ v, e = .returned v ∧ R w w' ∧ F i v w') : OpOk P Q F C ops a i o := by
  intro b w hs hC hg
  obtain ⟨hw, f, args, hr, hc⟩ := h b w hs hC hg
  refine ⟨hw, ?_⟩
  unfold Oper.wp
  rw [hr, Oper.upon_enter]
  refine hc.mono ?_
  rintro e w' ⟨v, rfl, hb, hf⟩
  exact ⟨v, rfl, hCm w w' hb hC, fun _ => hf, fun j u hj => hF j u w w' hb hj⟩
/-- An operation whose guard says that it is not wanted. -/
theorem OpOk.skip {ops : List Oper} {a : Act} {i : Nat} {o : Oper} (h : False) : OpOk P Q F C ops a i o := h.elim
end
/-- Nothing that was there has changed, and no fewer draws. -/
def Grew (w w' : World) : Prop := Below w.heap.size w w' ∧ w.drawn ≤ w'.drawn
theorem Grew.refl (w : World) : Grew w w := ⟨.refl _ _, Nat.le_refl _⟩
theorem Grew.trans {a b c : World} (h : Grew a b) (k : Grew b c) : Grew a c := ⟨h.1.trans (k.1.mono h.1.size), Nat.le_trans h.2 k.2⟩
theorem Grew.out {w w' : World} (h : Grew w w') : ∃ q os, w' = Sort.grow (w.drewN q) os := by
  obtain ⟨hb, hd⟩ := h
  refine ⟨w'.drawn - w.drawn, w'.heap.extract w.heap.size w'.heap.size, ?_⟩
  obtain ⟨h', t', d', o', p'⟩ := w'
  obtain ⟨h0, t0, d0, o0, p0⟩ := w
  obtain ⟨e1, e2, e3, e4, e5⟩ := hb
  simp only at e1 e2 e3 e4 e5 hd
  subst e1 e2 e3
  unfold Sort.grow World.drewN
  simp only [World.mk.injEq, and_true, true_and]
  refine ⟨?_, by omega⟩
  apply Array.ext_getElem?
  intro i
  rw [Array.getElem?_append]
  by_cases hi : i < h0.size
  · rw [if_pos hi]; exact e5 i hi
  · rw [if_neg hi, Array.getElem?_extract]
    by_cases hj : i < h'.size
    · rw [if_pos (by omega)]; congr 1; omega
    · rw [if_neg (by omega)]; exact Array.getElem?_eq_none (by omega)
end Go.Proofs.Ytogoaihimepboaa

namespace Go.Proofs.Ytogoaihimepboaa
open Go.RowKit

section
variable {P : Program} {Q : Exit → Act → World → Prop} (F : Nat → Value → World → Prop) (C : Array Bool → World → Prop)

/-- Whoever has come up, those that it waits for have come up. -/
def Closed (ops : List Oper) (L : Array Bool) : Prop := ∀ (j : Nat) (o : Oper), L.getD j false = true → ops[j]? = some o → ∀ e ∈ o.after.toList, Region.binds .any e = true → L.getD e.on false = true
/-- What is asked of operation number i. -/
def OpSt (P : Program) (Q : Exit → Act → World → Prop) (F : Nat → Value → World → Prop) (C : Array Bool → World → Prop) (ops : List Oper) (a : Act) (i : Nat) (o : Oper) : Prop :=
  ∀ (L : Array Bool) (b : Act) (w : World), L.size = ops.length → i < ops.length → Closed ops L → L.getD i false = false → (∀ e ∈ o.after.toList, Region.binds .any e = true → L.getD e.on false = true) →
    (∀ t, isDst ops t = false → b.tmps.getD t undef = a.tmps.getD t undef) → C L w →
    (∀ e ∈ o.after.toList, Region.binds .any e = true → ∀ oj d, ops[e.on]? = some oj → oj.dst = some d → F e.on (b.tmps.getD d undef) w) →
    Region.wanted o (yielded ops.toArray b.tmps) = true ∧
    o.wp P b w (fun b' w' => ∃ v, b' = b.put o.dst v ∧ C (L.setIfInBounds i true) w' ∧ (o.dst.isSome = true → F i v w') ∧ ∀ j u, F j u w → F j u w') Q
def OpsSt (P : Program) (Q : Exit → Act → World → Prop) (F : Nat → Value → World → Prop) (C : Array Bool → World → Prop) (ops : List Oper) (a : Act) : Nat → List Oper → Prop
  | _, [] => True
  | i, o :: l => OpSt P Q F C ops a i o ∧ OpsSt P Q F C ops a (i + 1) l
theorem OpsSt.cons {ops : List Oper} {a : Act} {i : Nat} {o : Oper} {l : List Oper} (h : OpSt P Q F C ops a i o) (hl : OpsSt P Q F C ops a (i + 1) l) : OpsSt P Q F C ops a i (o :: l) := ⟨h, hl⟩
theorem OpsSt.nil {ops : List Oper} {a : Act} {i : Nat} : OpsSt P Q F C ops a i [] := trivial
theorem OpsSt.get {ops : List Oper} {a : Act} : ∀ {l : List Oper} {i j : Nat} {o : Oper}, OpsSt P Q F C ops a i l → l[j]? = some o → OpSt P Q F C ops a (i + j) o
  | [], _, _, _, _, h => by simp at h
  | x :: l, i, 0, o, h, ho => by
    simp only [List.getElem?_cons_zero, Option.some.injEq] at ho
    subst ho
    exact h.1
  | x :: l, i, j + 1, o, h, ho => by
    simp only [List.getElem?_cons_succ] at ho
    have := OpsSt.get h.2 ho
    rwa [show i + 1 + j = i + (j + 1) by omega] at this

theorem wpAny_stages {ops : List Oper} {n : Nat} {a : Act} (hn : (ops.filterMap (·.dst)).Nodup) (hb : ∀ d ∈ ops.filterMap (·.dst), d < n) (hord : ∀ (i : Nat) (o : Oper), ops[i]? = some o → ∀ e ∈ o.after.toList, Region.binds .any e = true → e.on < i)
    (hop : OpsSt P Q F C ops a 0 ops)
    (hend : ∀ (L : Array Bool) (b : Act) (w : World), (∀ j, j < ops.length → L.getD j false = true) → b.tmps.size = n → b.defers = a.defers → (∀ t, isDst ops t = false → b.tmps.getD t undef = a.tmps.getD t undef) → C L w →
      (∀ j o d, ops[j]? = some o → o.dst = some d → F j (b.tmps.getD d undef) w) → Q .normal b w) :
    ∀ (fuel : Nat) (listed : Array Bool) (b : Act) (w : World), listed.toList.count false ≤ fuel → Closed ops listed → C listed w → Upto F (fun _ => True) ops n a listed b w → wpAny P .any ops.toArray Q fuel listed b w := by
  have hfin : ∀ (listed : Array Bool) (b : Act) (w : World), C listed w → Upto F (fun _ => True) ops n a listed b w → Region.ready .any ops.toArray listed = [] → Q .normal b w := by
    intro listed b w hC h hr
    have hall := ready_nil h.size hord hr
    exact hend listed b w hall h.slots h.defers h.same hC (fun j o d hj hd => h.fact j o d (hall j (List.getElem?_eq_some_iff.1 hj).1) hj hd)
  intro fuel
  induction fuel with
  | zero =>
    intro listed b w hc _ hC h
    have hr : Region.ready .any ops.toArray listed = [] := by
      rw [List.eq_nil_iff_forall_not_mem]
      intro i hi
      obtain ⟨o, _, hl, _⟩ := ready_mem h.size hi
      have : false ∈ listed.toList := List.mem_of_getElem? (i := i) (by simpa using hl)
      have := List.count_pos_iff.2 this
      omega
    exact ⟨hr, hfin listed b w hC h hr⟩
  | succ fuel ih =>
    intro listed b w hc hcl hC h
    refine ⟨hfin listed b w hC h, fun i hi => ?_⟩
    obtain ⟨o, ho, hl, hdep⟩ := ready_mem h.size hi
    have hio : i < ops.length := (List.getElem?_eq_some_iff.1 ho).1
    have hnl : listed.getD i false = false := by
      rw [Array.getD_eq_getD_getElem?, hl]
      rfl
    have hok := OpsSt.get F C hop ho
    rw [Nat.zero_add] at hok
    obtain ⟨hw, hwp⟩ := hok listed b w h.size hio hcl hnl hdep h.same hC (fun e he hbe oj d hoj hd => h.fact e.on oj d (hdep e he hbe) hoj hd)
    unfold wpOp
    rw [List.getElem?_toArray, ho]
    simp only [hw, if_true]
    refine Or.inl (Oper.wp_mono ?_ hwp)
    rintro b' w' ⟨v, rfl, hC', hF, hK⟩
    have his : i < listed.size := (Array.getElem?_eq_some_iff.1 hl).1
    refine ih _ _ _ (count_set_true hl hc) ?_ hC' (h.go F _ hn hb ho trivial hF hK)
    intro j o' hj ho' e he hbe
    rw [getD_set his] at hj ⊢
    by_cases hij : i = j
    · subst hij
      rw [ho] at ho'
      obtain rfl : o = o' := by injection ho'
      rw [hdep e he hbe, Bool.or_true]
    · rw [decide_eq_false hij, Bool.false_or] at hj
      rw [hcl j o' hj ho' e he hbe, Bool.or_true]

/-- THE RULE. -/
theorem wp_region_stages {id n : Nat} {ops : List Oper} {a : Act} {w : World} (hm : P.follows .mixedOrders = true) (hin : inOrder ops n = true) (hsz : a.tmps.size = n) (hC : ∀ L : Array Bool, (∀ j, L.getD j false = false) → C L w.drew)
    (hop : OpsSt P Q F C ops a 0 ops)
    (hend : ∀ (L : Array Bool) (b : Act) (w : World), (∀ j, j < ops.length → L.getD j false = true) → b.tmps.size = n → b.defers = a.defers → (∀ t, isDst ops t = false → b.tmps.getD t undef = a.tmps.getD t undef) → C L w →
      (∀ j o d, ops[j]? = some o → o.dst = some d → F j (b.tmps.getD d undef) w) → Q .normal b w) :
    (Code.region id ops.toArray true).wp P Q a w := by
  unfold inOrder at hin
  simp only [Bool.and_eq_true, decide_eq_true_eq, List.all_eq_true] at hin
  obtain ⟨⟨h1, h2⟩, h3⟩ := hin
  have hnone : ∀ j, (Array.replicate ops.toArray.size false).getD j false = false := by
    intro j
    rw [Array.getD_eq_getD_getElem?, Array.getElem?_replicate]
    split <;> rfl
  refine wp_region_any hm ?_
  refine wpAny_stages F C h2 h3 ?_ hop hend _ _ _ _ ?_ ?_ (hC _ hnone) ⟨by simp, hsz, rfl, fun _ _ => rfl, trivial, fun j _ _ h => by rw [hnone j] at h; cases h⟩
  · intro i o ho e he hbe
    have := h1 (o, i) (by rw [List.mem_zipIdx_iff_getElem?]; exact ho)
    simp only [Array.all_eq_true_iff_forall_mem, Bool.or_eq_true, Bool.not_eq_true', decide_eq_true_eq] at this
    rcases this e (by simpa using he) with h | h
    · rw [hbe] at h; cases h
    · exact h
  · simp
  · intro j o hj
    rw [hnone j] at hj
    cases hj
end

/-- The world, by which of two stores have been. -/
def TwoW (s t : Nat) (W0 W1 W2 : World) (L : Array Bool) (w : World) : Prop := w = if L.getD t false = true then W2 else if L.getD s false = true then W1 else W0
section
variable {P : Program} {Q : Exit → Act → World → Prop} {F : Nat → Value → World → Prop} {s t : Nat} {W0 W1 W2 : World} {ops : List Oper} {a : Act} {i : Nat} {o : Oper}
/-- An operation that reads no memory. -/
theorem OpSt.pure (hs : i ≠ s) (ht : i ≠ t) (h : ∀ (b : Act) (w : World), (∀ t, isDst ops t = false → b.tmps.getD t undef = a.tmps.getD t undef) →
      (∀ e ∈ o.after.toList, Region.binds .any e = true → ∀ oj d, ops[e.on]? = some oj → oj.dst = some d → F e.on (b.tmps.getD d undef) w) →
      Region.wanted o (yielded ops.toArray b.tmps) = true ∧ ∃ v, (execOp b.eval o).run P w = .ok (.value v) w ∧ F i v w) : OpSt P Q F (TwoW s t W0 W1 W2) ops a i o := by
  intro L b w hL hi _ _ _ hsm hC hg
  obtain ⟨hw, v, hr, hf⟩ := h b w hsm hg
  refine ⟨hw, ?_⟩
  unfold Oper.wp
  rw [hr, Oper.upon_value]
  refine ⟨v, rfl, ?_, fun _ => hf, fun _ _ h => h⟩
  unfold TwoW at hC ⊢
  rw [getD_set (by omega), getD_set (by omega), decide_eq_false hs, decide_eq_false ht, Bool.false_or, Bool.false_or]
  exact hC
theorem notyet {L : Array Bool} {k : Nat} {os : Oper} {e : Edge} (hcl : Closed ops L) (ho : ops[s]? = some os) (he : os.after.toList[k]? = some e) (hb : Region.binds .any e = true) (hn : L.getD e.on false = false) : L.getD s false = false := by
  cases h : L.getD s false with
  | false => rfl
  | true =>
    have := hcl s os h ho e (List.mem_of_getElem? he) hb
    rw [hn] at this
    cases this
/-- An operation that reads memory ahead of both stores. -/
theorem OpSt.load (hs : i ≠ s) (ht : i ≠ t) (hno : ∀ L : Array Bool, Closed ops L → L.getD i false = false → L.getD s false = false ∧ L.getD t false = false)
    (h : ∀ (b : Act), (∀ t, isDst ops t = false → b.tmps.getD t undef = a.tmps.getD t undef) →
      (∀ e ∈ o.after.toList, Region.binds .any e = true → ∀ oj d, ops[e.on]? = some oj → oj.dst = some d → F e.on (b.tmps.getD d undef) W0) →
      Region.wanted o (yielded ops.toArray b.tmps) = true ∧ ∃ v, (execOp b.eval o).run P W0 = .ok (.value v) W0 ∧ F i v W0) : OpSt P Q F (TwoW s t W0 W1 W2) ops a i o := by
  intro L b w hL hi hcl hni _ hsm hC hg
  obtain ⟨h1, h2⟩ := hno L hcl hni
  have hw0 : w = W0 := by
    unfold TwoW at hC
    rw [h1, h2] at hC
    exact hC
  subst hw0
  obtain ⟨hw, v, hr, hf⟩ := h b hsm hg
  refine ⟨hw, ?_⟩
  unfold Oper.wp
  rw [hr, Oper.upon_value]
  refine ⟨v, rfl, ?_, fun _ => hf, fun _ _ h => h⟩
  unfold TwoW at hC ⊢
  rw [getD_set (by omega), getD_set (by omega), decide_eq_false hs, decide_eq_false ht, Bool.false_or, Bool.false_or]
  exact hC
/-- The store that comes first. -/
theorem OpSt.first (hst : s ≠ t) (hF : ∀ j u w w', F j u w → F j u w') (hd : o.dst = none) (hno : ∀ L : Array Bool, Closed ops L → L.getD s false = false → L.getD t false = false)
    (h : ∀ (b : Act), (∀ t, isDst ops t = false → b.tmps.getD t undef = a.tmps.getD t undef) →
      (∀ e ∈ o.after.toList, Region.binds .any e = true → ∀ oj d, ops[e.on]? = some oj → oj.dst = some d → F e.on (b.tmps.getD d undef) W0) →
      Region.wanted o (yielded ops.toArray b.tmps) = true ∧ ∀ K : Act → World → Prop, K (b.put o.dst undef) W1 → o.wp P b W0 K Q) : OpSt P Q F (TwoW s t W0 W1 W2) ops a s o := by
  intro L b w hL hi hcl hni _ hsm hC hg
  have h2 := hno L hcl hni
  have hw0 : w = W0 := by
    unfold TwoW at hC
    rw [hni, h2] at hC
    exact hC
  subst hw0
  obtain ⟨hw, hk⟩ := h b hsm hg
  refine ⟨hw, hk _ ⟨undef, rfl, ?_, fun hsome => (by rw [hd] at hsome; cases hsome), fun j u hj => hF j u _ _ hj⟩⟩
  unfold TwoW
  rw [getD_set (by omega), getD_set (by omega), decide_eq_false hst, decide_eq_true rfl, Bool.false_or, Bool.true_or, h2]
  rfl
/-- The store that comes last. -/
theorem OpSt.last (hF : ∀ j u w w', F j u w → F j u w') (hd : o.dst = none) {k : Nat} {e : Edge} (he : o.after.toList[k]? = some e) (hb : Region.binds .any e = true) (hes : e.on = s)
    (h : ∀ (b : Act), (∀ t, isDst ops t = false → b.tmps.getD t undef = a.tmps.getD t undef) →
      (∀ e ∈ o.after.toList, Region.binds .any e = true → ∀ oj d, ops[e.on]? = some oj → oj.dst = some d → F e.on (b.tmps.getD d undef) W1) →
      Region.wanted o (yielded ops.toArray b.tmps) = true ∧ ∀ K : Act → World → Prop, K (b.put o.dst undef) W2 → o.wp P b W1 K Q) : OpSt P Q F (TwoW s t W0 W1 W2) ops a t o := by
  intro L b w hL hi hcl hni hdep hsm hC hg
  have h1 := hdep e (List.mem_of_getElem? he) hb
  rw [hes] at h1
  have hw0 : w = W1 := by
    unfold TwoW at hC
    rw [hni, h1] at hC
    exact hC
  subst hw0
  obtain ⟨hw, hk⟩ := h b hsm hg
  refine ⟨hw, hk _ ⟨undef, rfl, ?_, fun hsome => (by rw [hd] at hsome; cases hsome), fun j u hj => hF j u _ _ hj⟩⟩
  unfold TwoW
  rw [getD_set (by omega), decide_eq_true rfl, Bool.true_or]
  rfl
end
end Go.Proofs.Ytogoaihimepboaa

namespace Go.Proofs.Ytogoaihimepboaa
open Go.RowKit

section
variable {P : Program} {Q : Exit → Act → World → Prop} (F : Nat → Value → World → Prop) (C : World → Prop)

/-- What is asked of operation number i: it runs, or it is not wanted. -/
def OkOp (P : Program) (Q : Exit → Act → World → Prop) (F : Nat → Value → World → Prop) (C : World → Prop) (ops : List Oper) (a : Act) (i : Nat) (o : Oper) : Prop :=
  ∀ (b : Act) (w : World), (∀ t, isDst ops t = false → b.tmps.getD t undef = a.tmps.getD t undef) → C w →
    (∀ e ∈ o.after.toList, Region.binds .any e = true → ∀ oj d, ops[e.on]? = some oj → oj.dst = some d → F e.on (b.tmps.getD d undef) w) →
    (Region.wanted o (yielded ops.toArray b.tmps) = true ∧
      o.wp P b w (fun b' w' => ∃ v, b' = b.put o.dst v ∧ C w' ∧ (o.dst.isSome = true → F i v w') ∧ ∀ j u, F j u w → F j u w') Q) ∨
    (Region.wanted o (yielded ops.toArray b.tmps) = false ∧ F i undef w)
def OksOp (P : Program) (Q : Exit → Act → World → Prop) (F : Nat → Value → World → Prop) (C : World → Prop) (ops : List Oper) (a : Act) : Nat → List Oper → Prop
  | _, [] => True
  | i, o :: l => OkOp P Q F C ops a i o ∧ OksOp P Q F C ops a (i + 1) l

theorem OksOp.cons {ops : List Oper} {a : Act} {i : Nat} {o : Oper} {l : List Oper} (h : OkOp P Q F C ops a i o) (hl : OksOp P Q F C ops a (i + 1) l) : OksOp P Q F C ops a i (o :: l) := ⟨h, hl⟩
theorem OksOp.nil {ops : List Oper} {a : Act} {i : Nat} : OksOp P Q F C ops a i [] := trivial
theorem OksOp.get {ops : List Oper} {a : Act} : ∀ {l : List Oper} {i j : Nat} {o : Oper}, OksOp P Q F C ops a i l → l[j]? = some o → OkOp P Q F C ops a (i + j) o
  | [], _, _, _, _, h => by simp at h
  | x :: l, i, 0, o, h, ho => by
    simp only [List.getElem?_cons_zero, Option.some.injEq] at ho
    subst ho
    exact h.1
  | x :: l, i, j + 1, o, h, ho => by
    simp only [List.getElem?_cons_succ] at ho
    have := OksOp.get h.2 ho
    rwa [show i + 1 + j = i + (j + 1) by omega] at this
theorem OkOp.of {ops : List Oper} {a : Act} {i : Nat} {o : Oper} (h : OpOk P Q F C ops a i o) : OkOp P Q F C ops a i o := fun b w hs hc hg => .inl (h b w hs hc hg)
theorem OkOp.skip {ops : List Oper} {a : Act} {i : Nat} {o : Oper} (h : ∀ (b : Act) (w : World), (∀ t, isDst ops t = false → b.tmps.getD t undef = a.tmps.getD t undef) → C w →
    (∀ e ∈ o.after.toList, Region.binds .any e = true → ∀ oj d, ops[e.on]? = some oj → oj.dst = some d → F e.on (b.tmps.getD d undef) w) → Region.wanted o (yielded ops.toArray b.tmps) = false ∧ F i undef w) : OkOp P Q F C ops a i o :=
  fun b w hs hc hg => .inr (h b w hs hc hg)

theorem wpAny_skips {ops : List Oper} {n : Nat} {a : Act} (hn : (ops.filterMap (·.dst)).Nodup) (hb : ∀ d ∈ ops.filterMap (·.dst), d < n) (hord : ∀ (i : Nat) (o : Oper), ops[i]? = some o → ∀ e ∈ o.after.toList, Region.binds .any e = true → e.on < i)
    (hop : OksOp P Q F C ops a 0 ops)
    (hend : ∀ (b : Act) (w : World), b.tmps.size = n → b.defers = a.defers → (∀ t, isDst ops t = false → b.tmps.getD t undef = a.tmps.getD t undef) → C w →
      (∀ j o d, ops[j]? = some o → o.dst = some d → F j (b.tmps.getD d undef) w) → Q .normal b w) :
    ∀ (fuel : Nat) (listed : Array Bool) (b : Act) (w : World), listed.toList.count false ≤ fuel → Upto F C ops n a listed b w → wpAny P .any ops.toArray Q fuel listed b w := by
  have hfin : ∀ (listed : Array Bool) (b : Act) (w : World), Upto F C ops n a listed b w → Region.ready .any ops.toArray listed = [] → Q .normal b w := by
    intro listed b w h hr
    have hall := ready_nil h.size hord hr
    exact hend b w h.slots h.defers h.same h.common (fun j o d hj hd => h.fact j o d (hall j (List.getElem?_eq_some_iff.1 hj).1) hj hd)
  intro fuel
  induction fuel with
  | zero =>
    intro listed b w hc h
    have hr : Region.ready .any ops.toArray listed = [] := by
      rw [List.eq_nil_iff_forall_not_mem]
      intro i hi
      obtain ⟨o, _, hl, _⟩ := ready_mem h.size hi
      have : false ∈ listed.toList := List.mem_of_getElem? (i := i) (by simpa using hl)
      have := List.count_pos_iff.2 this
      omega
    exact ⟨hr, hfin listed b w h hr⟩
  | succ fuel ih =>
    intro listed b w hc h
    refine ⟨hfin listed b w h, fun i hi => ?_⟩
    obtain ⟨o, ho, hl, hdep⟩ := ready_mem h.size hi
    have hok := OksOp.get F C hop ho
    rw [Nat.zero_add] at hok
    unfold wpOp
    rw [List.getElem?_toArray, ho]
    rcases hok b w h.same h.common (fun e he hbe oj d hoj hd => h.fact e.on oj d (hdep e he hbe) hoj hd) with ⟨hw, hwp⟩ | ⟨hw, hf⟩
    · simp only [hw, if_true]
      refine Or.inl (Oper.wp_mono ?_ hwp)
      rintro b' w' ⟨v, rfl, hC, hF, hK⟩
      exact ih _ _ _ (count_set_true hl hc) (h.go F C hn hb ho hC hF hK)
    · simp only [hw]
      exact ih _ _ _ (count_set_true hl hc) (h.go F C hn hb ho h.common (fun _ => hf) (fun _ _ h => h))

/-- THE RULE. -/
theorem wp_region_skips {id n : Nat} {ops : List Oper} {a : Act} {w : World} (hm : P.follows .mixedOrders = true) (hin : inOrder ops n = true) (hsz : a.tmps.size = n) (hC : C w.drew)
    (hop : OksOp P Q F C ops a 0 ops)
    (hend : ∀ (b : Act) (w : World), b.tmps.size = n → b.defers = a.defers → (∀ t, isDst ops t = false → b.tmps.getD t undef = a.tmps.getD t undef) → C w →
      (∀ j o d, ops[j]? = some o → o.dst = some d → F j (b.tmps.getD d undef) w) → Q .normal b w) :
    (Code.region id ops.toArray true).wp P Q a w := by
  unfold inOrder at hin
  simp only [Bool.and_eq_true, decide_eq_true_eq, List.all_eq_true] at hin
  obtain ⟨⟨h1, h2⟩, h3⟩ := hin
  have hnone : ∀ j, (Array.replicate ops.toArray.size false).getD j false = true → False := by
    intro j hl
    rw [Array.getD_eq_getD_getElem?, Array.getElem?_replicate] at hl
    revert hl
    split <;> simp
  refine wp_region_any hm ?_
  refine wpAny_skips F C h2 h3 ?_ hop hend _ _ _ _ ?_ ⟨by simp, hsz, rfl, fun _ _ => rfl, hC, fun j _ _ h => (hnone j h).elim⟩
  · intro i o ho e he hbe
    have := h1 (o, i) (by rw [List.mem_zipIdx_iff_getElem?]; exact ho)
    simp only [Array.all_eq_true_iff_forall_mem, Bool.or_eq_true, Bool.not_eq_true', decide_eq_true_eq] at this
    rcases this e (by simpa using he) with h | h
    · rw [hbe] at h; cases h
    · exact h
  · simp
end

/-- A guarded operation is not wanted: its guard says otherwise. -/
theorem unwanted_of {ops : List Oper} {b : Act} {o oj : Oper} {j : Nat} {c : Bool} {d : Tmp} (hgd : o.guard = some (j, c)) (ho : ops[j]? = some oj) (hd : oj.dst = some d) (h : b.tmps.getD d undef = .bool (!c)) : Region.wanted o (yielded ops.toArray b.tmps) = false := by
  have hy : yielded ops.toArray b.tmps j = some (!c) := by
    unfold yielded
    rw [List.getElem?_toArray, ho]
    rw [Array.getD_eq_getD_getElem?] at h
    cases ht : b.tmps[d]? with
    | none =>
      rw [ht] at h
      cases h
    | some v =>
      rw [ht] at h
      simp only [Option.getD_some] at h
      subst h
      simp [hd, ht]
  unfold Region.wanted
  rw [hgd]
  simp only [hy]
  cases c <;> rfl
/-- A guarded operation is not wanted: neither was its guard. -/
theorem unwanted_un {ops : List Oper} {b : Act} {o oj : Oper} {j : Nat} {c : Bool} {d : Tmp} (hgd : o.guard = some (j, c)) (ho : ops[j]? = some oj) (hd : oj.dst = some d) (h : b.tmps.getD d undef = undef) : Region.wanted o (yielded ops.toArray b.tmps) = false := by
  have hy : yielded ops.toArray b.tmps j = none := by
    unfold yielded
    rw [List.getElem?_toArray, ho]
    rw [Array.getD_eq_getD_getElem?] at h
    cases ht : b.tmps[d]? with
    | none => simp [hd, ht]
    | some v =>
      rw [ht] at h
      simp only [Option.getD_some] at h
      subst h
      simp [hd, ht, undef]
  unfold Region.wanted
  rw [hgd]
  simp only [hy]
  cases c <;> rfl
end Go.Proofs.Ytogoaihimepboaa

namespace Go.Proofs.Ytogoaihimepboaa
open Go.RowKit

section
variable {P : Program} {Q : Exit → Act → World → Prop} (F : Nat → Value → World → Prop) (C : World → Prop)
theorem wpList_skips {ops : List Oper} {n : Nat} {a : Act} (hn : (ops.filterMap (·.dst)).Nodup) (hb : ∀ d ∈ ops.filterMap (·.dst), d < n) (hord : ∀ (i : Nat) (o : Oper), ops[i]? = some o → ∀ e ∈ o.after.toList, Region.binds .any e = true → e.on < i)
    (hop : OksOp P Q F C ops a 0 ops)
    (hend : ∀ (b : Act) (w : World), b.tmps.size = n → b.defers = a.defers → (∀ t, isDst ops t = false → b.tmps.getD t undef = a.tmps.getD t undef) → C w →
      (∀ j o d, ops[j]? = some o → o.dst = some d → F j (b.tmps.getD d undef) w) → Q .normal b w) :
    ∀ (k m : Nat) (L : Array Bool) (b : Act) (w : World), m + k = ops.length → (∀ j, j < ops.length → (L.getD j false = true ↔ j < m)) → Upto F C ops n a L b w → wpList P ops.toArray Q (ops.drop m) b w := by
  intro k
  induction k with
  | zero =>
    intro m L b w hm hL h
    rw [List.drop_of_length_le (by omega)]
    refine hend b w h.slots h.defers h.same h.common (fun j o d hj hd => ?_)
    have hjl := (List.getElem?_eq_some_iff.1 hj).1
    exact h.fact j o d ((hL j hjl).2 (by omega)) hj hd
  | succ k ih =>
    intro m L b w hm hL h
    have hml : m < ops.length := by omega
    have ho : ops[m]? = some ops[m] := List.getElem?_eq_getElem hml
    rw [List.drop_eq_getElem_cons hml]
    have hok := OksOp.get F C hop ho
    rw [Nat.zero_add] at hok
    have hdep : ∀ e ∈ (ops[m]).after.toList, Region.binds .any e = true → L.getD e.on false = true := by
      intro e he hbe
      have := hord m _ ho e he hbe
      exact (hL e.on (by omega)).2 this
    have hLs : m < L.size := by rw [h.size]; exact hml
    have hL' : ∀ j, j < ops.length → ((L.setIfInBounds m true).getD j false = true ↔ j < m + 1) := by
      intro j hj
      rw [getD_set hLs]
      by_cases hmj : m = j
      · subst hmj
        simp
      · rw [decide_eq_false hmj, Bool.false_or, hL j hj]
        omega
    unfold wpList
    rcases hok b w h.same h.common (fun e he hbe oj d hoj hd => h.fact e.on oj d (hdep e he hbe) hoj hd) with ⟨hw, hwp⟩ | ⟨hw, hf⟩
    · rw [if_pos hw]
      refine Or.inl (Oper.wp_mono ?_ hwp)
      rintro b' w' ⟨v, rfl, hC, hF, hK⟩
      exact ih (m + 1) _ _ _ (by omega) hL' (h.go F C hn hb ho hC hF hK)
    · rw [if_neg (by rw [hw]; exact Bool.false_ne_true)]
      exact ih (m + 1) _ _ _ (by omega) hL' (h.go F C hn hb ho h.common (fun _ => hf) (fun _ _ h => h))

/-- THE RULE. -/
theorem wp_region_seq {id n : Nat} {ops : List Oper} {a : Act} {w : World} (hin : inOrder ops n = true) (hsz : a.tmps.size = n) (hC : C w)
    (hop : OksOp P Q F C ops a 0 ops)
    (hend : ∀ (b : Act) (w : World), b.tmps.size = n → b.defers = a.defers → (∀ t, isDst ops t = false → b.tmps.getD t undef = a.tmps.getD t undef) → C w →
      (∀ j o d, ops[j]? = some o → o.dst = some d → F j (b.tmps.getD d undef) w) → Q .normal b w) :
    (Code.region id ops.toArray false).wp P Q a w := by
  unfold inOrder at hin
  simp only [Bool.and_eq_true, decide_eq_true_eq, List.all_eq_true] at hin
  obtain ⟨⟨h1, h2⟩, h3⟩ := hin
  have hnone : ∀ j, (Array.replicate ops.length false).getD j false = true → False := by
    intro j hl
    rw [Array.getD_eq_getD_getElem?, Array.getElem?_replicate] at hl
    revert hl
    split <;> simp
  refine wp_region_lit ?_
  have := wpList_skips F C h2 h3 ?_ hop hend ops.length 0 (Array.replicate ops.length false) a w (by omega) (fun j _ => ⟨fun h => (hnone j h).elim, fun h => absurd h (Nat.not_lt_zero _)⟩) ⟨by simp, hsz, rfl, fun _ _ => rfl, hC, fun j _ _ h => (hnone j h).elim⟩
  · rwa [List.drop_zero] at this
  · intro i o ho e he hbe
    have := h1 (o, i) (by rw [List.mem_zipIdx_iff_getElem?]; exact ho)
    simp only [Array.all_eq_true_iff_forall_mem, Bool.or_eq_true, Bool.not_eq_true', decide_eq_true_eq] at this
    rcases this e (by simpa using he) with h | h
    · rw [hbe] at h; cases h
    · exact h
end
end Go.Proofs.Ytogoaihimepboaa

namespace Go.Proofs.Ytogoaihimepboaa
open Go.RowKit

section
variable {P : Program} {Q : Exit → Act → World → Prop} (F : Nat → Value → World → Prop) (C : Array Bool → Act → World → Prop)

/-- What is asked of operation number i. -/
def OpPh (P : Program) (Q : Exit → Act → World → Prop) (F : Nat → Value → World → Prop) (C : Array Bool → Act → World → Prop) (n : Nat) (ops : List Oper) (a : Act) (i : Nat) (o : Oper) : Prop :=
  ∀ (L : Array Bool) (b : Act) (w : World), L.size = ops.length → i < ops.length → Closed ops L → L.getD i false = false → (∀ e ∈ o.after.toList, Region.binds .any e = true → L.getD e.on false = true) →
    (∀ t, isDst ops t = false → b.tmps.getD t undef = a.tmps.getD t undef) → b.tmps.size = n → C L b w →
    (∀ e ∈ o.after.toList, Region.binds .any e = true → ∀ oj d, ops[e.on]? = some oj → oj.dst = some d → F e.on (b.tmps.getD d undef) w) →
    Region.wanted o (yielded ops.toArray b.tmps) = true ∧
    o.wp P b w (fun b' w' => ∃ v, b' = b.put o.dst v ∧ C (L.setIfInBounds i true) b' w' ∧ (o.dst.isSome = true → F i v w') ∧ ∀ j u, j ≠ i → L.getD j false = true → F j u w → F j u w') Q
def OpsPh (P : Program) (Q : Exit → Act → World → Prop) (F : Nat → Value → World → Prop) (C : Array Bool → Act → World → Prop) (n : Nat) (ops : List Oper) (a : Act) : Nat → List Oper → Prop
  | _, [] => True
  | i, o :: l => OpPh P Q F C n ops a i o ∧ OpsPh P Q F C n ops a (i + 1) l
theorem OpsPh.cons {n : Nat} {ops : List Oper} {a : Act} {i : Nat} {o : Oper} {l : List Oper} (h : OpPh P Q F C n ops a i o) (hl : OpsPh P Q F C n ops a (i + 1) l) : OpsPh P Q F C n ops a i (o :: l) := ⟨h, hl⟩
theorem OpsPh.nil {n : Nat} {ops : List Oper} {a : Act} {i : Nat} : OpsPh P Q F C n ops a i [] := trivial
theorem OpsPh.get {n : Nat} {ops : List Oper} {a : Act} : ∀ {l : List Oper} {i j : Nat} {o : Oper}, OpsPh P Q F C n ops a i l → l[j]? = some o → OpPh P Q F C n ops a (i + j) o
  | [], _, _, _, _, h => by simp at h
  | x :: l, i, 0, o, h, ho => by
    simp only [List.getElem?_cons_zero, Option.some.injEq] at ho
    subst ho
    exact h.1
  | x :: l, i, j + 1, o, h, ho => by
    simp only [List.getElem?_cons_succ] at ho
    have := OpsPh.get h.2 ho
    rwa [show i + 1 + j = i + (j + 1) by omega] at this

theorem Upto.goL {ops : List Oper} {n : Nat} {a b : Act} {listed : Array Bool} {w w' : World} {i : Nat} {o : Oper} {v : Value} (hn : (ops.filterMap (·.dst)).Nodup) (hb : ∀ d ∈ ops.filterMap (·.dst), d < n)
    (h : Upto F (fun _ => True) ops n a listed b w) (ho : ops[i]? = some o) (hF : o.dst.isSome = true → F i v w') (hK : ∀ j u, j ≠ i → listed.getD j false = true → F j u w → F j u w') :
    Upto F (fun _ => True) ops n a (listed.setIfInBounds i true) (b.put o.dst v) w' := by
  have hi : i < listed.size := by rw [h.size]; exact (List.getElem?_eq_some_iff.1 ho).1
  refine ⟨by simpa using h.size, ?_, ?_, ?_, trivial, ?_⟩
  · cases hd : o.dst with
    | none => exact h.slots
    | some d => show (b.tmps.setIfInBounds d v).size = n; simpa using h.slots
  · cases hd : o.dst with
    | none => exact h.defers
    | some d => exact h.defers
  · intro t ht
    cases hd : o.dst with
    | none => exact h.same t ht
    | some d =>
      rw [getD_put b d t v (by rw [h.slots]; exact hb d (dst_mem ho hd)), if_neg, h.same t ht]
      rintro rfl
      rw [isDst_of ho hd] at ht
      cases ht
  · intro j oj d hl hoj hd
    rw [getD_set hi] at hl
    by_cases hij : i = j
    · subst hij
      rw [ho] at hoj
      injection hoj with hoj
      subst hoj
      rw [hd, getD_put b d d v (by rw [h.slots]; exact hb d (dst_mem ho hd)), if_pos rfl]
      exact hF (by rw [hd]; rfl)
    · rw [decide_eq_false hij, Bool.false_or] at hl
      have hf := hK _ _ (fun e => hij e.symm) hl (h.fact j oj d hl hoj hd)
      cases hod : o.dst with
      | none => exact hf
      | some d' =>
        rw [getD_put b d' d v (by rw [h.slots]; exact hb d' (dst_mem ho hod)), if_neg]
        · exact hf
        · rintro rfl
          exact hij (dst_inj hn ho hoj hod hd)

theorem wpAny_ph {ops : List Oper} {n : Nat} {a : Act} (hn : (ops.filterMap (·.dst)).Nodup) (hb : ∀ d ∈ ops.filterMap (·.dst), d < n) (hord : ∀ (i : Nat) (o : Oper), ops[i]? = some o → ∀ e ∈ o.after.toList, Region.binds .any e = true → e.on < i)
    (hop : OpsPh P Q F C n ops a 0 ops)
    (hend : ∀ (L : Array Bool) (b : Act) (w : World), (∀ j, j < ops.length → L.getD j false = true) → b.tmps.size = n → b.defers = a.defers → (∀ t, isDst ops t = false → b.tmps.getD t undef = a.tmps.getD t undef) → C L b w →
      (∀ j o d, ops[j]? = some o → o.dst = some d → F j (b.tmps.getD d undef) w) → Q .normal b w) :
    ∀ (fuel : Nat) (listed : Array Bool) (b : Act) (w : World), listed.toList.count false ≤ fuel → Closed ops listed → C listed b w → Upto F (fun _ => True) ops n a listed b w → wpAny P .any ops.toArray Q fuel listed b w := by
  have hfin : ∀ (listed : Array Bool) (b : Act) (w : World), C listed b w → Upto F (fun _ => True) ops n a listed b w → Region.ready .any ops.toArray listed = [] → Q .normal b w := by
    intro listed b w hC h hr
    have hall := ready_nil h.size hord hr
    exact hend listed b w hall h.slots h.defers h.same hC (fun j o d hj hd => h.fact j o d (hall j (List.getElem?_eq_some_iff.1 hj).1) hj hd)
  intro fuel
  induction fuel with
  | zero =>
    intro listed b w hc _ hC h
    have hr : Region.ready .any ops.toArray listed = [] := by
      rw [List.eq_nil_iff_forall_not_mem]
      intro i hi
      obtain ⟨o, _, hl, _⟩ := ready_mem h.size hi
      have : false ∈ listed.toList := List.mem_of_getElem? (i := i) (by simpa using hl)
      have := List.count_pos_iff.2 this
      omega
    exact ⟨hr, hfin listed b w hC h hr⟩
  | succ fuel ih =>
    intro listed b w hc hcl hC h
    refine ⟨hfin listed b w hC h, fun i hi => ?_⟩
    obtain ⟨o, ho, hl, hdep⟩ := ready_mem h.size hi
    have hio : i < ops.length := (List.getElem?_eq_some_iff.1 ho).1
    have hnl : listed.getD i false = false := by
      rw [Array.getD_eq_getD_getElem?, hl]
      rfl
    have hok := OpsPh.get F C hop ho
    rw [Nat.zero_add] at hok
    obtain ⟨hw, hwp⟩ := hok listed b w h.size hio hcl hnl hdep h.same h.slots hC (fun e he hbe oj d hoj hd => h.fact e.on oj d (hdep e he hbe) hoj hd)
    unfold wpOp
    rw [List.getElem?_toArray, ho]
    simp only [hw, if_true]
    refine Or.inl (Oper.wp_mono ?_ hwp)
    rintro b' w' ⟨v, rfl, hC', hF, hK⟩
    have his : i < listed.size := (Array.getElem?_eq_some_iff.1 hl).1
    refine ih _ _ _ (count_set_true hl hc) ?_ hC' (h.goL F hn hb ho hF hK)
    intro j o' hj ho' e he hbe
    rw [getD_set his] at hj ⊢
    by_cases hij : i = j
    · subst hij
      rw [ho] at ho'
      obtain rfl : o = o' := by injection ho'
      rw [hdep e he hbe, Bool.or_true]
    · rw [decide_eq_false hij, Bool.false_or] at hj
      rw [hcl j o' hj ho' e he hbe, Bool.or_true]

/-- THE RULE. -/
theorem wp_region_ph {id n : Nat} {ops : List Oper} {a : Act} {w : World} (hm : P.follows .mixedOrders = true) (hin : inOrder ops n = true) (hsz : a.tmps.size = n) (hC : ∀ L : Array Bool, (∀ j, L.getD j false = false) → C L a w.drew)
    (hop : OpsPh P Q F C n ops a 0 ops)
    (hend : ∀ (L : Array Bool) (b : Act) (w : World), (∀ j, j < ops.length → L.getD j false = true) → b.tmps.size = n → b.defers = a.defers → (∀ t, isDst ops t = false → b.tmps.getD t undef = a.tmps.getD t undef) → C L b w →
      (∀ j o d, ops[j]? = some o → o.dst = some d → F j (b.tmps.getD d undef) w) → Q .normal b w) :
    (Code.region id ops.toArray true).wp P Q a w := by
  unfold inOrder at hin
  simp only [Bool.and_eq_true, decide_eq_true_eq, List.all_eq_true] at hin
  obtain ⟨⟨h1, h2⟩, h3⟩ := hin
  have hnone : ∀ j, (Array.replicate ops.toArray.size false).getD j false = false := by
    intro j
    rw [Array.getD_eq_getD_getElem?, Array.getElem?_replicate]
    split <;> rfl
  refine wp_region_any hm ?_
  refine wpAny_ph F C h2 h3 ?_ hop hend _ _ _ _ ?_ ?_ (hC _ hnone) ⟨by simp, hsz, rfl, fun _ _ => rfl, trivial, fun j _ _ h => by rw [hnone j] at h; cases h⟩
  · intro i o ho e he hbe
    have := h1 (o, i) (by rw [List.mem_zipIdx_iff_getElem?]; exact ho)
    simp only [Array.all_eq_true_iff_forall_mem, Bool.or_eq_true, Bool.not_eq_true', decide_eq_true_eq] at this
    rcases this e (by simpa using he) with h | h
    · rw [hbe] at h; cases h
    · exact h
  · simp
  · intro j o hj
    rw [hnone j] at hj
    cases hj
end

/-- What holds, by which of two operations have been; what is said behind them may speak of two slots. -/
def Ph (s t ds dt : Nat) (A : World → Prop) (B : Value → World → Prop) (D : Value → Value → World → Prop) (L : Array Bool) (b : Act) (w : World) : Prop :=
  if L.getD t false = true then D (b.tmps.getD ds undef) (b.tmps.getD dt undef) w else if L.getD s false = true then B (b.tmps.getD ds undef) w else A w
section
variable {P : Program} {Q : Exit → Act → World → Prop} {F : Nat → Value → World → Prop} {s t ds dt n : Nat} {A : World → Prop} {B : Value → World → Prop} {D : Value → Value → World → Prop} {ops : List Oper} {a : Act} {i : Nat} {o : Oper}
theorem Ph.start {L : Array Bool} {b : Act} {w : World} (hL : ∀ j, L.getD j false = false) (h : A w) : Ph s t ds dt A B D L b w := by
  unfold Ph
  rw [hL, hL]
  exact h
theorem Ph.end_ {L : Array Bool} {b : Act} {w : World} (h : Ph s t ds dt A B D L b w) (ht : L.getD t false = true) : D (b.tmps.getD ds undef) (b.tmps.getD dt undef) w := by
  unfold Ph at h
  rw [if_pos ht] at h
  exact h
/-- An operation ahead of both, that grows memory at most. -/
theorem OpPh.pre (hs : i ≠ s) (ht : i ≠ t) (hno : ∀ L : Array Bool, Closed ops L → L.getD i false = false → L.getD s false = false ∧ L.getD t false = false)
    (hF : ∀ j u w w', Below w.heap.size w w' → F j u w → F j u w') (hA : ∀ w w', Below w.heap.size w w' → A w → A w')
    (h : ∀ (b : Act) (w : World), (∀ t, isDst ops t = false → b.tmps.getD t undef = a.tmps.getD t undef) → A w →
      (∀ e ∈ o.after.toList, Region.binds .any e = true → ∀ oj d, ops[e.on]? = some oj → oj.dst = some d → F e.on (b.tmps.getD d undef) w) →
      Region.wanted o (yielded ops.toArray b.tmps) = true ∧ ∃ v w', (execOp b.eval o).run P w = .ok (.value v) w' ∧ Below w.heap.size w w' ∧ F i v w') : OpPh P Q F (Ph s t ds dt A B D) n ops a i o := by
  intro L b w hL hi hcl hni _ hsm _ hC hg
  obtain ⟨h1, h2⟩ := hno L hcl hni
  unfold Ph at hC
  rw [h1, h2] at hC
  obtain ⟨hw, v, w', hr, hb, hf⟩ := h b w hsm hC hg
  refine ⟨hw, ?_⟩
  unfold Oper.wp
  rw [hr, Oper.upon_value]
  refine ⟨v, rfl, ?_, fun _ => hf, fun j u _ _ hj => hF j u w w' hb hj⟩
  unfold Ph
  rw [getD_set (by omega), getD_set (by omega), decide_eq_false hs, decide_eq_false ht, Bool.false_or, Bool.false_or, h1, h2]
  exact hA w w' hb hC
/-- The same, a call. -/
theorem OpPh.preC (hs : i ≠ s) (ht : i ≠ t) (hno : ∀ L : Array Bool, Closed ops L → L.getD i false = false → L.getD s false = false ∧ L.getD t false = false)
    (hF : ∀ j u w w', Below w.heap.size w w' → F j u w → F j u w') (hA : ∀ w w', Below w.heap.size w w' → A w → A w')
    (h : ∀ (b : Act) (w : World), (∀ t, isDst ops t = false → b.tmps.getD t undef = a.tmps.getD t undef) → A w →
      (∀ e ∈ o.after.toList, Region.binds .any e = true → ∀ oj d, ops[e.on]? = some oj → oj.dst = some d → F e.on (b.tmps.getD d undef) w) →
      Region.wanted o (yielded ops.toArray b.tmps) = true ∧ ∃ f args, (execOp b.eval o).run P w = .ok (.enter f args) w ∧ Calls P f args w fun e w' => ∃ v, e = .returned v ∧ Below w.heap.size w w' ∧ F i v w') : OpPh P Q F (Ph s t ds dt A B D) n ops a i o := by
  intro L b w hL hi hcl hni _ hsm _ hC hg
  obtain ⟨h1, h2⟩ := hno L hcl hni
  unfold Ph at hC
  rw [h1, h2] at hC
  obtain ⟨hw, f, args, hr, hc⟩ := h b w hsm hC hg
  refine ⟨hw, ?_⟩
  unfold Oper.wp
  rw [hr, Oper.upon_enter]
  refine hc.mono ?_
  rintro e w' ⟨v, rfl, hb, hf⟩
  refine ⟨v, rfl, ?_, fun _ => hf, fun j u _ _ hj => hF j u w w' hb hj⟩
  unfold Ph
  rw [getD_set (by omega), getD_set (by omega), decide_eq_false hs, decide_eq_false ht, Bool.false_or, Bool.false_or, h1, h2]
  exact hA w w' hb hC
/-- An operation that only reckons: at any time. -/
theorem OpPh.free (hs : i ≠ s) (ht : i ≠ t) {d : Nat} (hd : o.dst = some d) (hdn : d ≠ ds ∧ d ≠ dt ∧ d < n)
    (h : ∀ (b : Act) (w : World), (∀ t, isDst ops t = false → b.tmps.getD t undef = a.tmps.getD t undef) →
      (∀ e ∈ o.after.toList, Region.binds .any e = true → ∀ oj d, ops[e.on]? = some oj → oj.dst = some d → F e.on (b.tmps.getD d undef) w) →
      Region.wanted o (yielded ops.toArray b.tmps) = true ∧ ∃ v, (execOp b.eval o).run P w = .ok (.value v) w ∧ F i v w) : OpPh P Q F (Ph s t ds dt A B D) n ops a i o := by
  intro L b w hL hi hcl hni _ hsm hsz hC hg
  obtain ⟨hw, v, hr, hf⟩ := h b w hsm hg
  refine ⟨hw, ?_⟩
  unfold Oper.wp
  rw [hr, Oper.upon_value]
  refine ⟨v, rfl, ?_, fun _ => hf, fun _ _ _ _ h => h⟩
  unfold Ph at hC ⊢
  have hdlt : d < b.tmps.size := by rw [hsz]; exact hdn.2.2
  rw [getD_set (by omega), getD_set (by omega), decide_eq_false hs, decide_eq_false ht, Bool.false_or, Bool.false_or, hd, getD_put b d ds v hdlt, getD_put b d dt v hdlt, if_neg hdn.1, if_neg hdn.2.1]
  exact hC
/-- The first operation that changes what was there. -/
theorem OpPh.mid (hst : s ≠ t) (hno : ∀ L : Array Bool, Closed ops L → L.getD s false = false → L.getD t false = false)
    (h : ∀ (b : Act) (w : World), (∀ t, isDst ops t = false → b.tmps.getD t undef = a.tmps.getD t undef) → b.tmps.size = n → A w →
      (∀ e ∈ o.after.toList, Region.binds .any e = true → ∀ oj d, ops[e.on]? = some oj → oj.dst = some d → F e.on (b.tmps.getD d undef) w) →
      Region.wanted o (yielded ops.toArray b.tmps) = true ∧ o.wp P b w (fun b' w' => ∃ v, b' = b.put o.dst v ∧ B (b'.tmps.getD ds undef) w' ∧ (o.dst.isSome = true → F s v w') ∧ ∀ j u, j ≠ s → F j u w → F j u w') Q) : OpPh P Q F (Ph s t ds dt A B D) n ops a s o := by
  intro L b w hL hi hcl hni _ hsm hsz hC hg
  have h2 := hno L hcl hni
  unfold Ph at hC
  rw [hni, h2] at hC
  obtain ⟨hw, hwp⟩ := h b w hsm hsz hC hg
  refine ⟨hw, Oper.wp_mono ?_ hwp⟩
  rintro b' w' ⟨v, rfl, hB, hf, hk⟩
  refine ⟨v, rfl, ?_, hf, fun j u hj _ h => hk j u hj h⟩
  unfold Ph
  rw [getD_set (by omega), getD_set (by omega), decide_eq_false hst, decide_eq_true rfl, Bool.false_or, Bool.true_or, h2]
  exact hB
/-- The second one. -/
theorem OpPh.last {k : Nat} {e : Edge} (he : o.after.toList[k]? = some e) (hb : Region.binds .any e = true) (hes : e.on = s)
    (h : ∀ (b : Act) (w : World), (∀ t, isDst ops t = false → b.tmps.getD t undef = a.tmps.getD t undef) → b.tmps.size = n → B (b.tmps.getD ds undef) w →
      (∀ e ∈ o.after.toList, Region.binds .any e = true → ∀ oj d, ops[e.on]? = some oj → oj.dst = some d → F e.on (b.tmps.getD d undef) w) →
      Region.wanted o (yielded ops.toArray b.tmps) = true ∧ o.wp P b w (fun b' w' => ∃ v, b' = b.put o.dst v ∧ D (b'.tmps.getD ds undef) (b'.tmps.getD dt undef) w' ∧ (o.dst.isSome = true → F t v w') ∧ ∀ j u, j ≠ t → F j u w → F j u w') Q) : OpPh P Q F (Ph s t ds dt A B D) n ops a t o := by
  intro L b w hL hi hcl hni hdep hsm hsz hC hg
  have h1 := hdep e (List.mem_of_getElem? he) hb
  rw [hes] at h1
  unfold Ph at hC
  rw [hni, h1] at hC
  obtain ⟨hw, hwp⟩ := h b w hsm hsz hC hg
  refine ⟨hw, Oper.wp_mono ?_ hwp⟩
  rintro b' w' ⟨v, rfl, hD, hf, hk⟩
  refine ⟨v, rfl, ?_, hf, fun j u hj _ h => hk j u hj h⟩
  unfold Ph
  rw [getD_set (by omega), decide_eq_true rfl, Bool.true_or]
  exact hD
end
end Go.Proofs.Ytogoaihimepboaa

namespace Go.Proofs.Ytogoaihimepboaa
open Go.RowKit

/-- Does operation i wait for operation j, by others at last? -/
def waits (ops : List Oper) (j : Nat) : Nat → Nat → Bool
  | 0, _ => false
  | f + 1, i => (ops[i]?).toList.any fun o => o.after.toList.any fun e => Region.binds .any e && (e.on == j || waits ops j f e.on)
theorem waits_in {ops : List Oper} {j : Nat} {S : Nat → Prop} (hc : ∀ (j : Nat) (o' : Oper), S j → ops[j]? = some o' → ∀ e ∈ o'.after.toList, Region.binds .any e = true → S e.on) : ∀ (f i : Nat), waits ops j f i = true → S i → S j
  | 0, _, h, _ => by cases h
  | f + 1, i, h, hs => by
    unfold waits at h
    simp only [List.any_eq_true, Bool.and_eq_true, Bool.or_eq_true, beq_iff_eq, Option.mem_toList] at h
    obtain ⟨o, ho, e, he, hb, h | h⟩ := h
    · rw [← h]
      exact hc i o hs ho e he hb
    · exact waits_in hc f e.on h (hc i o hs ho e he hb)
/-- From place m on each operation waits for all ahead of it, and has no guard. -/
def Lasts (ops : List Oper) (m : Nat) : Prop := ∀ {i : Nat} {o : Oper}, ops[i]? = some o → m ≤ i →
    o.guard = none ∧ ∀ (S : Nat → Prop), (∀ e ∈ o.after.toList, Region.binds .any e = true → S e.on) → (∀ (j : Nat) (o' : Oper), S j → ops[j]? = some o' → ∀ e ∈ o'.after.toList, Region.binds .any e = true → S e.on) → ∀ j, j < i → S j
def lastDeep (ops : List Oper) (m : Nat) : Bool :=
  ops.zipIdx.all fun (o, i) => decide (i < m) || (o.guard.isNone && (List.range i).all fun j => o.after.toList.any fun e => Region.binds .any e && (e.on == j || waits ops j i e.on))
theorem lasts_deep {ops : List Oper} {m : Nat} (h : lastDeep ops m = true) : Lasts ops m := by
  intro i o ho hi
  unfold lastDeep at h
  rw [List.all_eq_true] at h
  have := h (o, i) (by rw [List.mem_zipIdx_iff_getElem?]; exact ho)
  simp only [Bool.or_eq_true, decide_eq_true_eq, Bool.and_eq_true, Option.isNone_iff_eq_none, List.all_eq_true, List.mem_range, List.any_eq_true, beq_iff_eq] at this
  rcases this with h' | ⟨h1, h2⟩
  · omega
  · refine ⟨h1, fun S hd hc j hj => ?_⟩
    obtain ⟨e, he, h3, h4⟩ := h2 j hj
    rcases h4 with h4 | h4
    · rw [← h4]; exact hd e he h3
    · exact waits_in hc i e.on h4 (hd e he h3)
section
variable {P : Program} {Q : Exit → Act → World → Prop} (F : Nat → Value → World → Prop) (C : World → Prop)
theorem wpAny_tailP {ops : List Oper} {m : Nat} (hord : ∀ (i : Nat) (o : Oper), ops[i]? = some o → ∀ e ∈ o.after.toList, Region.binds .any e = true → e.on < i) (hlast : Lasts ops m) :
    ∀ (fuel t : Nat) (listed : Array Bool) (b : Act) (w : World), listed.toList.count false ≤ fuel → listed.size = ops.length → (∀ j, j < ops.length → (listed.getD j false = true ↔ j < m + t)) →
      wpList P ops.toArray Q (ops.drop (m + t)) b w → wpAny P .any ops.toArray Q fuel listed b w := by
  intro fuel
  have hend : ∀ (t : Nat) (listed : Array Bool) (b : Act) (w : World), listed.size = ops.length → (∀ j, j < ops.length → (listed.getD j false = true ↔ j < m + t)) → Region.ready .any ops.toArray listed = [] → wpList P ops.toArray Q (ops.drop (m + t)) b w → Q .normal b w := by
    intro t listed b w hsz hj hr h
    have hall := ready_nil hsz hord hr
    have : ops.length ≤ m + t := by
      rcases Nat.lt_or_ge (m + t) ops.length with h1 | h1
      · have := (hj _ h1).1 (hall _ h1)
        omega
      · exact h1
    rw [List.drop_of_length_le this] at h
    exact h
  induction fuel with
  | zero =>
    intro t listed b w hc hsz hj h
    have hr : Region.ready .any ops.toArray listed = [] := by
      rw [List.eq_nil_iff_forall_not_mem]
      intro i hi
      obtain ⟨o, _, hl, _⟩ := ready_mem hsz hi
      have : false ∈ listed.toList := List.mem_of_getElem? (i := i) (by simpa using hl)
      have := List.count_pos_iff.2 this
      omega
    exact ⟨hr, hend t listed b w hsz hj hr h⟩
  | succ fuel ih =>
    intro t listed b w hc hsz hj h
    refine ⟨fun hr => hend t listed b w hsz hj hr h, fun i hi => ?_⟩
    obtain ⟨o, ho, hl, hdep⟩ := ready_mem hsz hi
    have hio : i < ops.length := (List.getElem?_eq_some_iff.1 ho).1
    have hnl : ¬ listed.getD i false = true := by
      rw [Array.getD_eq_getD_getElem?, hl]
      simp
    have hge : m + t ≤ i := by
      rcases Nat.lt_or_ge i (m + t) with h1 | h1
      · exact absurd ((hj i hio).2 h1) hnl
      · exact h1
    obtain ⟨hgd, hw⟩ := hlast ho (by omega)
    have hle : i = m + t := by
      rcases Nat.eq_or_lt_of_le hge with h1 | h1
      · exact h1.symm
      · have h4 := hw (fun j => listed.getD j false = true) (fun e he h3 => hdep e he h3) (fun j o' hs ho' e he hbe => by
          have hjl := (List.getElem?_eq_some_iff.1 ho').1
          have h5 := (hj j hjl).1 hs
          have h6 := hord j o' ho' e he hbe
          exact (hj e.on (by omega)).2 (by omega)) (m + t) h1
        have := (hj (m + t) (by omega)).1 h4
        omega
    subst hle
    have hd : ops.drop (m + t) = o :: ops.drop (m + t + 1) := by
      rw [List.drop_eq_getElem_cons hio]
      congr 1
      exact (List.getElem?_eq_some_iff.1 ho).2
    rw [hd] at h
    unfold wpList at h
    have hwant : Region.wanted o (yielded ops.toArray b.tmps) = true := by simp [Region.wanted, hgd]
    rw [if_pos hwant] at h
    unfold wpOp
    rw [List.getElem?_toArray, ho]
    simp only [hwant, if_true]
    refine h.imp (Oper.wp_mono fun b' w' hb' => ?_) id
    refine ih (t + 1) _ _ _ (count_set_true hl hc) (by simpa using hsz) ?_ (by rw [← Nat.add_assoc]; exact hb')
    intro j hjl
    rw [getD_set (by omega)]
    by_cases hij : m + t = j
    · subst hij
      simp
    · rw [decide_eq_false hij, Bool.false_or, hj j hjl]
      omega

/-- The rule of a tail, where what comes behind may write slots that are read ahead. -/
theorem wp_region_tailP {id n m : Nat} {ops pre : List Oper} {a : Act} {w : World} (hm : P.follows .mixedOrders = true) (hin : inOrder ops n = true) (hsz : a.tmps.size = n) (hpre : ops.take m = pre) (hml : m ≤ ops.length) (hdeep : lastDeep ops m = true) (hun : (pre.all fun o => o.guard.isNone) = true) (hC : C w.drew)
    (hop : OpsOk P Q F C pre a 0 pre)
    (hend : ∀ (b : Act) (w : World), b.tmps.size = n → b.defers = a.defers → (∀ t, isDst pre t = false → b.tmps.getD t undef = a.tmps.getD t undef) → C w →
      (∀ j o d, j < m → ops[j]? = some o → o.dst = some d → F j (b.tmps.getD d undef) w) → wpList P ops.toArray Q (ops.drop m) b w) :
    (Code.region id ops.toArray true).wp P Q a w := by
  have hlast : Lasts ops m := lasts_deep hdeep
  unfold inOrder at hin
  simp only [Bool.and_eq_true, decide_eq_true_eq, List.all_eq_true] at hin
  obtain ⟨⟨h1, h2⟩, h3⟩ := hin
  have hord : ∀ (i : Nat) (o : Oper), ops[i]? = some o → ∀ e ∈ o.after.toList, Region.binds .any e = true → e.on < i := by
    intro i o ho e he hbe
    have := h1 (o, i) (by rw [List.mem_zipIdx_iff_getElem?]; exact ho)
    simp only [Array.all_eq_true_iff_forall_mem, Bool.or_eq_true, Bool.not_eq_true', decide_eq_true_eq] at this
    rcases this e (by simpa using he) with h | h
    · rw [hbe] at h; cases h
    · exact h
  refine wp_region_any hm ?_
  have key : ∀ (fuel : Nat) (listed : Array Bool) (b : Act) (w : World), listed.toList.count false ≤ fuel → (∀ j, listed.getD j false = true → j < m) → (∀ (j : Nat) (o' : Oper), listed.getD j false = true → ops[j]? = some o' → ∀ e ∈ o'.after.toList, Region.binds .any e = true → listed.getD e.on false = true) → Upto F C ops n a listed b w → (∀ t, isDst pre t = false → b.tmps.getD t undef = a.tmps.getD t undef) → wpAny P .any ops.toArray Q fuel listed b w := by
    have hfull : ∀ (fuel : Nat) (listed : Array Bool) (b : Act) (w : World), listed.toList.count false ≤ fuel → (∀ j, listed.getD j false = true → j < m) → Upto F C ops n a listed b w → (∀ t, isDst pre t = false → b.tmps.getD t undef = a.tmps.getD t undef) → (∀ j, j < m → listed.getD j false = true) → wpAny P .any ops.toArray Q fuel listed b w := by
      intro fuel listed b w hc hlm h hs hall
      refine wpAny_tailP hord hlast fuel 0 listed b w hc h.size (fun j _ => ⟨fun h' => by have := hlm j h'; omega, fun h' => hall j (by omega)⟩) ?_
      rw [Nat.add_zero]
      exact hend b w h.slots h.defers hs h.common (fun j o d hj ho hd => h.fact j o d (hall j hj) ho hd)
    intro fuel
    induction fuel with
    | zero =>
      intro listed b w hc hlm _ h hs
      refine hfull 0 listed b w hc hlm h hs fun j hj => ?_
      have hjs : j < listed.size := by rw [h.size]; omega
      cases hv : listed.getD j false with
      | true => rfl
      | false =>
        exfalso
        rw [Array.getD_eq_getD_getElem?, Array.getElem?_eq_getElem hjs] at hv
        simp only [Option.getD_some] at hv
        have : false ∈ listed.toList := by rw [← hv]; simp
        have := List.count_pos_iff.2 this
        omega
    | succ fuel ih =>
      intro listed b w hc hlm hcl h hs
      by_cases hall : ∀ j, j < m → listed.getD j false = true
      · exact hfull _ listed b w hc hlm h hs hall
      · refine ⟨fun hr => ?_, fun i hi => ?_⟩
        · exact absurd (fun j hj => ready_nil h.size hord hr j (by omega)) hall
        · obtain ⟨o, ho, hl, hdep⟩ := ready_mem h.size hi
          have him : i < m := by
            rcases Nat.lt_or_ge i m with h1 | h1
            · exact h1
            · exfalso
              obtain ⟨_, hw⟩ := hlast ho h1
              exact hall fun j hj => hw (fun j => listed.getD j false = true) (fun e he h3 => hdep e he h3) hcl j (by omega)
          have hok := OpsOk.get F C hop (show pre[i]? = some o by rw [← hpre, List.getElem?_take, if_pos him]; exact ho)
          rw [Nat.zero_add] at hok
          have hpo : pre[i]? = some o := by rw [← hpre, List.getElem?_take, if_pos him]; exact ho
          obtain ⟨_, hwp⟩ := hok b w hs h.common (fun e he hbe oj d hoj hd => h.fact e.on oj d (hdep e he hbe) (by
            rw [← hpre, List.getElem?_take] at hoj
            split at hoj
            · exact hoj
            · cases hoj) hd)
          have hgn : o.guard = none := by
            have := List.all_eq_true.1 hun o (List.mem_of_getElem? hpo)
            simpa using this
          have hw : Region.wanted o (yielded ops.toArray b.tmps) = true := by simp [Region.wanted, hgn]
          unfold wpOp
          rw [List.getElem?_toArray, ho]
          simp only [hw, if_true]
          refine Or.inl (Oper.wp_mono ?_ hwp)
          rintro b' w' ⟨v, rfl, hC, hF, hK⟩
          have his : i < listed.size := (Array.getElem?_eq_some_iff.1 hl).1
          refine ih _ _ _ (count_set_true hl hc) ?_ ?_ (h.go F C h2 h3 ho hC hF hK) (fun t ht => by
            cases hod : o.dst with
            | none => exact hs t ht
            | some d =>
              rw [getD_put b d t v (by rw [h.slots]; exact h3 d (dst_mem ho hod)), if_neg, hs t ht]
              rintro rfl
              rw [isDst_of hpo hod] at ht
              cases ht)
          rotate_left
          · intro j o' hj ho' e he hbe
            rw [getD_set his] at hj ⊢
            by_cases hij : i = j
            · subst hij
              rw [ho] at ho'
              obtain rfl : o = o' := by injection ho'
              rw [hdep e he hbe, Bool.or_true]
            · rw [decide_eq_false hij, Bool.false_or] at hj
              rw [hcl j o' hj ho' e he hbe, Bool.or_true]
          intro j hj
          rw [getD_set his] at hj
          by_cases hij : i = j
          · omega
          · rw [decide_eq_false hij, Bool.false_or] at hj
            exact hlm j hj
  refine key _ _ _ _ ?_ ?_ ?_ ⟨by simp, hsz, rfl, fun _ _ => rfl, hC, ?_⟩ (fun _ _ => rfl)
  · simp
  rotate_left
  · intro j o' hl
    rw [Array.getD_eq_getD_getElem?] at hl
    rw [Array.getElem?_replicate] at hl
    exfalso
    revert hl
    split <;> simp
  rotate_left
  · intro j hl
    rw [Array.getD_eq_getD_getElem?] at hl
    rw [Array.getElem?_replicate] at hl
    exfalso
    revert hl
    split <;> simp
  · intro j o d hl
    rw [Array.getD_eq_getD_getElem?] at hl
    rw [Array.getElem?_replicate] at hl
    exfalso
    revert hl
    split <;> simp
end
end Go.Proofs.Ytogoaihimepboaa

namespace Go.Proofs.Ytogoaihimepboaa
open Go.RowKit

/-! ### memory that changes in some blocks alone -/
/-- Of what was there only blocks of X have changed. -/
structure Touch (X : Nat → Prop) (w w' : World) : Prop where
  os : w'.os = w.os
  tape : w'.tape = w.tape
  output : w'.output = w.output
  size : w.heap.size ≤ w'.heap.size
  block : ∀ k, k < w.heap.size → ¬ X k → w'.heap[k]? = w.heap[k]?
theorem Touch.refl (X : Nat → Prop) (w : World) : Touch X w w := ⟨rfl, rfl, rfl, Nat.le_refl _, fun _ _ _ => rfl⟩
theorem Touch.trans {X : Nat → Prop} {a b c : World} (h : Touch X a b) (k : Touch X b c) : Touch X a c :=
  ⟨k.os.trans h.os, k.tape.trans h.tape, k.output.trans h.output, Nat.le_trans h.size k.size, fun i hi hx => (k.block i (Nat.lt_of_lt_of_le hi h.size) hx).trans (h.block i hi hx)⟩
theorem Touch.mono {X Y : Nat → Prop} {w w' : World} (h : Touch X w w') (hx : ∀ b, b < w.heap.size → X b → Y b) : Touch Y w w' := ⟨h.os, h.tape, h.output, h.size, fun k hk hn => h.block k hk (fun hx' => hn (hx k hk hx'))⟩
theorem Touch.of {X : Nat → Prop} {w w' : World} (h : Below w.heap.size w w') : Touch X w w' := ⟨h.os, h.tape, h.output, h.size, fun k hk _ => h.block k hk⟩
theorem Touch.below {X : Nat → Prop} {w w' : World} {B : Nat} (h : Touch X w w') (hB : B ≤ w.heap.size) (hx : ∀ b, X b → B ≤ b) : Below B w w' :=
  ⟨h.os, h.tape, h.output, h.size, fun k hk => h.block k (by omega) (fun hx' => by have := hx k hx'; omega)⟩
theorem Touch.cell {X : Nat → Prop} {w w' : World} (h : Touch X w w') {p : Addr} (hp : p.block < w.heap.size) (hx : ¬ X p.block) : w'.cell? p = w.cell? p := World.cell?_of_block (h.block _ hp hx)
theorem Touch.heap {X : Nat → Prop} {w w' : World} (h : Touch X w w') {g : Nat} {o : Obj} (hx : ¬ X g) (hg : w.heap[g]? = some o) : w'.heap[g]? = some o := by
  rw [h.block g (Array.getElem?_eq_some_iff.1 hg).1 hx]
  exact hg
theorem Touch.grown {X : Nat → Prop} {w w' : World} {row : Option Nat} (h : w.grownBy w' row) (hx : ∀ k, row = some k → X k) : Touch X w w' :=
  ⟨h.os, h.tape, h.output, h.size, fun k hk hn => h.block k hk (fun e => hn (hx k e.symm))⟩
theorem Touch.setCell {X : Nat → Prop} {w w' : World} (h : Touch X w w') {p : Addr} (hp : w.heap.size ≤ p.block ∨ X p.block) (u : Value) : Touch X w (w'.setCell p u) :=
  ⟨h.os, h.tape, h.output, by simpa [World.setCell] using h.size, fun k hk hn => by
    rw [Below.heap_setCell _ _ _ _ (by rintro rfl; rcases hp with hp | hp; omega; exact hn hp)]
    exact h.block k hk hn⟩
theorem Touch.setRow {X : Nat → Prop} {w w' : World} (h : Touch X w w') {g : Nat} (hp : w.heap.size ≤ g ∨ X g) (cs : Array Value) : Touch X w (w'.setRow g cs) :=
  ⟨h.os, h.tape, h.output, by simpa [World.setRow] using h.size, fun k hk hn => by
    rw [setRow_other w' g k cs (by rintro rfl; rcases hp with hp | hp; omega; exact hn hp)]
    exact h.block k hk hn⟩
theorem Touch.drew {X : Nat → Prop} {w w' : World} (h : Touch X w w') : Touch X w w'.drew := ⟨h.os, h.tape, h.output, h.size, h.block⟩

/-! ### readings that avoid blocks -/
def RdX (w : World) (X : Nat → Prop) (size : Nat) (A : Option Addr) (n : Nat) (xs : List Value) : Prop :=
  xs.length = n * size ∧ (0 < n → ∃ ad, A = some ad ∧ ad.block < w.heap.size ∧ ¬ X ad.block ∧ ∀ j u, xs[j]? = some u → w.cell? (ad.add j) = some u)
section
variable {w w' : World} {X Y : Nat → Prop} {size n : Nat} {A : Option Addr} {xs : List Value}
theorem RdX.none_ : RdX w X size A 0 [] := ⟨by simp, fun h => absurd h (by omega)⟩
theorem RdX.keep (h : RdX w X size A n xs) (ht : Touch X w w') : RdX w' X size A n xs :=
  ⟨h.1, fun hn => by
    obtain ⟨ad, e, hb, hx, hc⟩ := h.2 hn
    exact ⟨ad, e, Nat.lt_of_lt_of_le hb ht.size, hx, fun j u hu => (ht.cell (by rw [block_of_add]; exact hb) (by rw [block_of_add]; exact hx)).trans (hc j u hu)⟩⟩
theorem RdX.below (h : RdX w X size A n xs) (ht : Below w.heap.size w w') : RdX w' X size A n xs := h.keep (.of ht)
theorem RdX.mono (h : RdX w X size A n xs) (hx : ∀ b, b < w.heap.size → Y b → X b) : RdX w Y size A n xs :=
  ⟨h.1, fun hn => by
    obtain ⟨ad, e, hb, hX, hc⟩ := h.2 hn
    exact ⟨ad, e, hb, fun hy => hX (hx _ hb hy), hc⟩⟩
theorem RdX.reads (h : RdX w X size A n xs) : Reads w w.heap.size size A n xs :=
  ⟨h.1, fun hn => by
    obtain ⟨ad, e, hb, _, hc⟩ := h.2 hn
    exact ⟨ad, e, hb, hc⟩⟩
theorem RdX.of {B : Nat} (h : Reads w B size A n xs) (hB : B ≤ w.heap.size) (hx : ∀ b, b < B → ¬ X b) : RdX w X size A n xs :=
  ⟨h.1, fun hn => by
    obtain ⟨ad, e, hb, hc⟩ := h.2 hn
    exact ⟨ad, e, by omega, hx _ hb, hc⟩⟩
theorem RdX.drew (h : RdX w X size A n xs) : RdX w.drew X size A n xs := h
end
abbrev BsX (w : World) (X : Nat → Prop) (A : Option Addr) (l : List UInt8) : Prop := RdX w X 1 A l.length (bs l)
theorem padd_next (a : Addr) (n : Nat) : a.add (n + 1) = ⟨(a.add n).block, (a.add n).off + 1, none⟩ := by
  unfold Addr.add
  by_cases h : n = 0 <;> simp [h, Nat.add_assoc]
theorem ret_nat {a b : Nat} (h : a = b) : Ending.returned (.int .i64 (a : Int)) = .returned (.int .i64 (b : Int)) := by rw [h]
theorem below_new (w : World) (o : Obj) : Below w.heap.size w (w.alloc o) := (Below.refl _ _).alloc (Nat.le_refl _) _
theorem below_then {w w' w'' : World} {B : Nat} (h : Below B w w') (h' : Below w'.heap.size w' w'') (hB : B ≤ w.heap.size) : Below B w w'' := h.trans (h'.mono (Nat.le_trans hB h.size))
theorem own_touch {X : Nat → Prop} {base : Nat} {w w' : World} {e : TypeId} {size n : Nat} {v : Value} {xs : List Value} (h : w.ownsRow base e size v n xs) (ht : Touch X w w') (hx : ∀ b, v.ownBlock = some b → ¬ X b) : w'.ownsRow base e size v n xs := by
  refine ⟨h.1, ?_⟩
  rcases h.2 with hn | ⟨g, cap, cur, rfl, hb, hgg, rest⟩
  · exact .inl hn
  · refine .inr ⟨g, cap, cur, rfl, hb, ?_, rest⟩
    exact ht.heap (hx g rfl) hgg
theorem box_set {w : World} {g : Nat} {v : Value} {t : TypeId} (u : Value) (h : w.heap[g]? = some (.cells #[v] t (0, 0))) : (w.setCell ⟨g, 0, none⟩ u).heap[g]? = some (.cells #[u] t (0, 0)) := by
  rw [heap_setCell_same w g 0 #[v] t u h]
  rfl
theorem box_cell {w : World} {g : Nat} {v : Value} {t : TypeId} (h : w.heap[g]? = some (.cells #[v] t (0, 0))) : w.cell? ⟨g, 0, none⟩ = some v := by
  rw [cell_of_row w g 0 _ _ _ h]
  rfl
theorem box_frozen {w : World} {g : Nat} {v : Value} {t : TypeId} (h : w.heap[g]? = some (.cells #[v] t (0, 0))) : w.frozen? ⟨g, 0, none⟩ = false := by
  simp [World.frozen?, h]
theorem Touch.cell1 (w : World) (g i : Nat) (u : Value) : Touch (fun k => k = g) w (w.setCell ⟨g, i, none⟩ u) := Touch.setCell (X := fun k => k = g) (Touch.refl _ _) (p := ⟨g, i, none⟩) (Or.inr rfl) u
theorem Touch.row1 (w : World) (g : Nat) (cs : Array Value) : Touch (fun k => k = g) w (w.setRow g cs) := Touch.setRow (X := fun k => k = g) (Touch.refl _ _) (Or.inr rfl) cs
/-! ### single operations -/
section
variable {b : Act} {w : World} {o : Oper}
theorem exec_call3 {P : Program} {f : FuncId} {x y z : Operand} {t u s : TypeId} {v v' v'' : Value} (hf : ∀ args, (callFunc f args).run P w = .ok (.enter f args) w) (ho : o.op = .call { callee := .value (.func f), args := #[x, y, z], argTypes := #[t, u, s] }) (h : b.eval x = v) (h' : b.eval y = v') (h'' : b.eval z = v'') : (execOp b.eval o).run P w = .ok (.enter f #[v, v', v'']) w := by
  subst h h' h''
  unfold execOp
  simp only [ho]
  go_simp
theorem exec_not' {P : Program} {x : Operand} {t : TypeId} {c : Bool} (ho : o.op = .unOp .not t x) (h : b.eval x = .bool c) : (execOp b.eval o).run P w = .ok (.value (.bool !c)) w := by
  unfold execOp
  simp only [ho, h]
  go_simp
end
section
variable {b : Act} {w : World} {o : Oper}
theorem exec_nil {P : Program} {x : Operand} {a : Addr} (ho : o.op = .nilCheck x) (h : b.eval x = .pointer (some a)) : (execOp b.eval o).run P w = .ok (.value (.pointer (some a))) w := by
  unfold execOp
  simp only [ho, h]
  go_simp
end
theorem eval_put_ne {b : Act} {d t : Nat} {v : Value} (h : d ≠ t) : (b.put (some d) v).eval (.tmp t) = b.tmps.getD t undef := by
  show (b.tmps.setIfInBounds d v).getD t undef = _
  rw [Array.getD_eq_getD_getElem?, Array.getD_eq_getD_getElem?, Array.getElem?_setIfInBounds, if_neg h]
theorem eval_put_eq {b : Act} {d n : Nat} {v : Value} (hn : b.tmps.size = n) (h : d < n) : (b.put (some d) v).eval (.tmp d) = v := by
  show (b.tmps.setIfInBounds d v).getD d undef = _
  rw [Array.getD_eq_getD_getElem?, Array.getElem?_setIfInBounds, if_pos rfl, if_pos (by omega)]
  rfl
theorem size_put {b : Act} {d n : Nat} {v : Value} (hn : b.tmps.size = n) : (b.put (some d) v).tmps.size = n := by
  show (b.tmps.setIfInBounds d v).size = n
  rw [Array.size_setIfInBounds]
  exact hn
/-- What a call made lies apart from what was there. -/
theorem own_avoid {N n c : Nat} {t : TypeId} {A : Option Addr} {xs : List Value} {w : World} {X : Nat → Prop} {size : Nat} (h : w.ownsRow N t size (.slice A n c) n xs) (hX : ∀ b, X b → b < N) : RdX w X size A n xs := by
  obtain ⟨A', c', e, _, _, hr⟩ := own_form h
  injection e with e1 _ _
  subst e1
  refine ⟨hr.1, fun hn => ?_⟩
  obtain ⟨ad, e', hb, hc⟩ := hr.2 hn
  refine ⟨ad, e', hb, fun hx => ?_, hc⟩
  have := (h.lt ad.block (by rw [e']; rfl)).1
  have := hX _ hx
  omega
section
variable {ops : Array Oper} {Q : Exit → Act → World → Prop} {o : Oper} {rest : List Oper} {a : Act} {w : World}
theorem wpList_op {v : Value} {w' : World} (hgd : o.guard = none) (hr : (execOp a.eval o).run Try.prog w = .ok (.value v) w') (hk : wpList Try.prog ops Q rest (a.put o.dst v) w') : wpList Try.prog ops Q (o :: rest) a w := by
  refine wpList_plain hgd fun K hK => ?_
  unfold Oper.wp
  rw [hr, Oper.upon_value]
  exact hK _ _ hk
end
theorem wp_last {P : Program} {co : Code} {id : Nat} {K : Act → World → Prop} {Q' : Exit → Act → World → Prop} {a : Act} {w : World} (h : co.wp P (Exit.then K (Exit.inBlock id (Exit.then K Q'))) a w) : co.wp P (Exit.inBlock id (Exit.then K Q')) a w :=
  wp_mono h (fun e a w h => by cases e <;> exact h)
def BelC (W : World) (w : World) : Prop := Below W.heap.size W w
theorem BelC.keep {W : World} (w w' : World) (hb : Below w.heap.size w w') (h : BelC W w) : BelC W w' := Below.trans h (hb.mono h.size)
theorem Touch.then_ {X Y : Nat → Prop} {w w1 w2 : World} (h : Touch X w w1) (k : Touch Y w1 w2) (hy : ∀ b, b < w.heap.size → Y b → X b) : Touch X w w2 :=
  ⟨k.os.trans h.os, k.tape.trans h.tape, k.output.trans h.output, Nat.le_trans h.size k.size, fun i hi hx => (k.block i (Nat.lt_of_lt_of_le hi h.size) (fun e => hx (hy i hi e))).trans (h.block i hi hx)⟩
theorem lit_add (g o k : Nat) : (⟨g, o, none⟩ : Addr).add k = ⟨g, o + k, none⟩ := by unfold Addr.add; split <;> simp_all
section
variable {w w' : World} {X Y : Nat → Prop}
theorem RdX.both {size n : Nat} {A : Option Addr} {xs : List Value} (h : RdX w X size A n xs) : RdX w (fun b => X b ∨ w.heap.size ≤ b) size A n xs := by
  refine ⟨h.1, fun hn => ?_⟩
  obtain ⟨ad, e, hb, hx, hc⟩ := h.2 hn
  exact ⟨ad, e, hb, fun h => by rcases h with h | h; exact hx h; omega, hc⟩
end
theorem own_base {base base' size n : Nat} {w : World} {e : TypeId} {v : Value} {xs : List Value} (h : w.ownsRow base' e size v n xs) (hb : base ≤ base') : w.ownsRow base e size v n xs := by
  refine ⟨h.1, ?_⟩
  rcases h.2 with hn | ⟨g, cap, cur, rfl, hg, rest⟩
  · exact .inl hn
  · exact .inr ⟨g, cap, cur, rfl, Nat.le_trans hb hg, rest⟩
section
variable {ops : Array Oper} {Q : Exit → Act → World → Prop} {o : Oper} {rest : List Oper} {a : Act} {w : World}
theorem wpList_wanted {P : Program} (hw : Region.wanted o (yielded ops a.tmps) = true) (h : ∀ K : Act → World → Prop, (∀ a w, wpList P ops Q rest a w → K a w) → o.wp P a w K Q) : wpList P ops Q (o :: rest) a w :=
  wpList_step fun K hK => by simp only [hw, if_true]; exact h K hK
end
theorem two_cells {w : World} {g : Nat} {x y : Value} {t : TypeId} {fr : Nat × Nat} (hg : w.heap[g]? = some (.cells #[x, y] t fr)) : w.cell? ⟨g, 0, none⟩ = some x ∧ w.cell? ⟨g, 1, none⟩ = some y := by
  rw [cell_of_row w g 0 _ _ _ hg, cell_of_row w g 1 _ _ _ hg]
  exact ⟨rfl, rfl⟩
theorem two_frozen {w : World} {g i : Nat} {x y : Value} {t : TypeId} (hg : w.heap[g]? = some (.cells #[x, y] t (0, 0))) : w.frozen? ⟨g, i, none⟩ = false := by simp [World.frozen?, hg]
theorem two_set0 {w : World} {g : Nat} {x y : Value} {t : TypeId} (u : Value) (hg : w.heap[g]? = some (.cells #[x, y] t (0, 0))) : (w.setCell ⟨g, 0, none⟩ u).heap[g]? = some (.cells #[u, y] t (0, 0)) := by
  rw [heap_setCell_same w g 0 _ t u hg]
  rfl
theorem two_set1 {w : World} {g : Nat} {x y : Value} {t : TypeId} (u : Value) (hg : w.heap[g]? = some (.cells #[x, y] t (0, 0))) : (w.setCell ⟨g, 1, none⟩ u).heap[g]? = some (.cells #[x, u] t (0, 0)) := by
  rw [heap_setCell_same w g 1 _ t u hg]
  rfl
end Go.Proofs.Ytogoaihimepboaa
