/- A region that draws its order, by facts, in phases: ahead of a first operation that changes what was there, behind it, and behind a second one; what only reckons may come at any time. Conditions: none. -/
import Derived.Test.YtbhmnmmockmibaaGreatKpSwap
namespace Go.Proofs.YtbhmnmmockmibaaGreat
open Go.RowKit
section
variable {P : Program} {Q : Exit → Act → World → Prop} (F : Nat → Value → World → Prop) (C : Array Bool → Act → World → Prop)
def OpPh (P : Program) (Q : Exit → Act → World → Prop) (F : Nat → Value → World → Prop) (C : Array Bool → Act → World → Prop) (n : Nat) (ops : List Oper) (a : Act) (i : Nat) (o : Oper) : Prop :=
  ∀ (L : Array Bool) (b : Act) (w : World), L.size = ops.length → i < ops.length → Closed ops L → L.getD i false = false → (∀ e ∈ o.after.toList, Region.binds .any e = true → L.getD e.on false = true) →
    (∀ t, isDst ops t = false → b.tmps.getD t undef = a.tmps.getD t undef) → b.tmps.size = n → C L b w →
    (∀ e ∈ o.after.toList, Region.binds .any e = true → ∀ oj d, ops[e.on]? = some oj → oj.dst = some d → F e.on (b.tmps.getD d undef) w) →
    Region.wanted o (yielded ops.toArray b.tmps) = true ∧
    o.wp P b w (fun b' w' => ∃ v, b' = b.put o.dst v ∧ C (L.setIfInBounds i true) b' w' ∧ (o.dst.isSome = true → F i v w') ∧ ∀ j u, j ≠ i → L.getD j false = true → F j u w → F j u w') Q
def OpsPh (P : Program) (Q : Exit → Act → World → Prop) (F : Nat → Value → World → Prop) (C : Array Bool → Act → World → Prop) (n : Nat) (ops : List Oper) (a : Act) : Nat → List Oper → Prop
  | _, [] => True
  | i, o :: l => OpPh P Q F C n ops a i o ∧ OpsPh P Q F C n ops a (i + 1) l
theorem OpsPh.cons {n : Nat} {ops : List Oper} {a : Act} {i : Nat} {o : Oper} {l : List Oper} (h : OpPh P Q F C n ops a i o) (hl : OpsPh P Q F C n ops a (i + 1) l) : OpsPh P Q F C n ops a i (o :: l) := ⟨h, hl⟩
theorem OpsPh.nil {n : Nat} {ops : List Oper} {a : Act} {i : Nat} : OpsPh P Q F C n ops a i [] := trivial
theorem OpsPh.get {n : Nat} {ops : List Oper} {a : Act} : ∀ {l : List Oper} {i j : Nat} {o : Oper}, OpsPh P Q F C n ops a i l → l[j]? = some o → OpPh P Q F C n ops a (i + j) o
  | [], _, _, _, _, h => by simp at h
  | x :: l, i, 0, o, h, ho => by
    simp only [List.getElem?_cons_zero, Option.some.injEq] at ho
    subst ho
    exact h.1
  | x :: l, i, j + 1, o, h, ho => by
    simp only [List.getElem?_cons_succ] at ho
    have := OpsPh.get h.2 ho
    rwa [show i + 1 + j = i + (j + 1) by omega] at this
theorem Upto.goL {ops : List Oper} {n : Nat} {a b : Act} {listed : Array Bool} {w w' : World} {i : Nat} {o : Oper} {v : Value} (hn : (ops.filterMap (·.dst)).Nodup) (hb : ∀ d ∈ ops.filterMap (·.dst), d < n)
    (h : Upto F (fun _ => True) ops n a listed b w) (ho : ops[i]? = some o) (hF : o.dst.isSome = true → F i v w') (hK : ∀ j u, j ≠ i → listed.getD j false = true → F j u w → F j u w') :
    Upto F (fun _ => True) ops n a (listed.setIfInBounds i true) (b.put o.dst v) w' := by
  have hi : i < listed.size := by rw [h.size]; exact (List.getElem?_eq_some_iff.1 ho).1
  refine ⟨by simpa using h.size, ?_, ?_, ?_, trivial, ?_⟩
  · cases hd : o.dst with
    | none => exact h.slots
    | some d => show (b.tmps.setIfInBounds d v).size = n; simpa using h.slots
  · cases hd : o.dst with
    | none => exact h.defers
    | some d => exact h.defers
  · intro t ht
    cases hd : o.dst with
    | none => exact h.same t ht
    | some d =>
      rw [getD_put b d t v (by rw [h.slots]; exact hb d (dst_mem ho hd)), if_neg, h.same t ht]
      rintro rfl
      rw [isDst_of ho hd] at ht
      cases ht
  · intro j oj d hl hoj hd
    rw [getD_set hi] at hl
    by_cases hij : i = j
    · subst hij
      rw [ho] at hoj
      injection hoj with hoj
      subst hoj
      rw [hd, getD_put b d d v (by rw [h.slots]; exact hb d (dst_mem ho hd)), if_pos rfl]
      exact hF (by rw [hd]; rfl)
    · rw [decide_eq_false hij, Bool.false_or] at hl
      have hf := hK _ _ (fun e => hij e.symm) hl (h.fact j oj d hl hoj hd)
      cases hod : o.dst with
      | none => exact hf
      | some d' =>
        rw [getD_put b d' d v (by rw [h.slots]; exact hb d' (dst_mem ho hod)), if_neg]
        · exact hf
        · rintro rfl
          exact hij (dst_inj hn ho hoj hod hd)
theorem wpAny_ph {ops : List Oper} {n : Nat} {a : Act} (hn : (ops.filterMap (·.dst)).Nodup) (hb : ∀ d ∈ ops.filterMap (·.dst), d < n) (hord : ∀ (i : Nat) (o : Oper), ops[i]? = some o → ∀ e ∈ o.after.toList, Region.binds .any e = true → e.on < i)
    (hop : OpsPh P Q F C n ops a 0 ops)
    (hend : ∀ (L : Array Bool) (b : Act) (w : World), (∀ j, j < ops.length → L.getD j false = true) → b.tmps.size = n → b.defers = a.defers → (∀ t, isDst ops t = false → b.tmps.getD t undef = a.tmps.getD t undef) → C L b w →
      (∀ j o d, ops[j]? = some o → o.dst = some d → F j (b.tmps.getD d undef) w) → Q .normal b w) :
    ∀ (fuel : Nat) (listed : Array Bool) (b : Act) (w : World), listed.toList.count false ≤ fuel → Closed ops listed → C listed b w → Upto F (fun _ => True) ops n a listed b w → wpAny P .any ops.toArray Q fuel listed b w := by
  have hfin : ∀ (listed : Array Bool) (b : Act) (w : World), C listed b w → Upto F (fun _ => True) ops n a listed b w → Region.ready .any ops.toArray listed = [] → Q .normal b w := by
    intro listed b w hC h hr
    have hall := ready_nil h.size hord hr
    exact hend listed b w hall h.slots h.defers h.same hC (fun j o d hj hd => h.fact j o d (hall j (List.getElem?_eq_some_iff.1 hj).1) hj hd)
  intro fuel
  induction fuel with
  | zero =>
    intro listed b w hc _ hC h
    have hr : Region.ready .any ops.toArray listed = [] := by
      rw [List.eq_nil_iff_forall_not_mem]
      intro i hi
      obtain ⟨o, _, hl, _⟩ := ready_mem h.size hi
      have : false ∈ listed.toList := List.mem_of_getElem? (i := i) (by simpa using hl)
      have := List.count_pos_iff.2 this
      omega
    exact ⟨hr, hfin listed b w hC h hr⟩
  | succ fuel ih =>
    intro listed b w hc hcl hC h
    refine ⟨hfin listed b w hC h, fun i hi => ?_⟩
    obtain ⟨o, ho, hl, hdep⟩ := ready_mem h.size hi
    have hio : i < ops.length := (List.getElem?_eq_some_iff.1 ho).1
    have hnl : listed.getD i false = false := by
      rw [Array.getD_eq_getD_getElem?, hl]
      rfl
    have hok := OpsPh.get F C hop ho
    rw [Nat.zero_add] at hok
    obtain ⟨hw, hwp⟩ := hok listed b w h.size hio hcl hnl hdep h.same h.slots hC (fun e he hbe oj d hoj hd => h.fact e.on oj d (hdep e he hbe) hoj hd)
    unfold wpOp
    rw [List.getElem?_toArray, ho]
    simp only [hw, if_true]
    refine Or.inl (Oper.wp_mono ?_ hwp)
    rintro b' w' ⟨v, rfl, hC', hF, hK⟩
    have his : i < listed.size := (Array.getElem?_eq_some_iff.1 hl).1
    refine ih _ _ _ (count_set_true hl hc) ?_ hC' (h.goL F hn hb ho hF hK)
    intro j o' hj ho' e he hbe
    rw [getD_set his] at hj ⊢
    by_cases hij : i = j
    · subst hij
      rw [ho] at ho'
      obtain rfl : o = o' := by injection ho'
      rw [hdep e he hbe, Bool.or_true]
    · rw [decide_eq_false hij, Bool.false_or] at hj
      rw [hcl j o' hj ho' e he hbe, Bool.or_true]
theorem wp_region_ph {id n : Nat} {ops : List Oper} {a : Act} {w : World} (hm : P.follows .mixedOrders = true) (hin : inOrder ops n = true) (hsz : a.tmps.size = n) (hC : ∀ L : Array Bool, (∀ j, L.getD j false = false) → C L a w.drew)
    (hop : OpsPh P Q F C n ops a 0 ops)
    (hend : ∀ (L : Array Bool) (b : Act) (w : World), (∀ j, j < ops.length → L.getD j false = true) → b.tmps.size = n → b.defers = a.defers → (∀ t, isDst ops t = false → b.tmps.getD t undef = a.tmps.getD t undef) → C L b w →
      (∀ j o d, ops[j]? = some o → o.dst = some d → F j (b.tmps.getD d undef) w) → Q .normal b w) :
    (Code.region id ops.toArray true).wp P Q a w := by
  unfold inOrder at hin
  simp only [Bool.and_eq_true, decide_eq_true_eq, List.all_eq_true] at hin
  obtain ⟨⟨h1, h2⟩, h3⟩ := hin
  have hnone : ∀ j, (Array.replicate ops.toArray.size false).getD j false = false := by
    intro j
    rw [Array.getD_eq_getD_getElem?, Array.getElem?_replicate]
    split <;> rfl
  refine wp_region_any hm ?_
  refine wpAny_ph F C h2 h3 ?_ hop hend _ _ _ _ ?_ ?_ (hC _ hnone) ⟨by simp, hsz, rfl, fun _ _ => rfl, trivial, fun j _ _ h => by rw [hnone j] at h; cases h⟩
  · intro i o ho e he hbe
    have := h1 (o, i) (by rw [List.mem_zipIdx_iff_getElem?]; exact ho)
    simp only [Array.all_eq_true_iff_forall_mem, Bool.or_eq_true, Bool.not_eq_true', decide_eq_true_eq] at this
    rcases this e (by simpa using he) with h | h
    · rw [hbe] at h; cases h
    · exact h
  · simp
  · intro j o hj
    rw [hnone j] at hj
    cases hj
end
def Ph (s t ds dt : Nat) (A : World → Prop) (B : Value → World → Prop) (D : Value → Value → World → Prop) (L : Array Bool) (b : Act) (w : World) : Prop :=
  if L.getD t false = true then D (b.tmps.getD ds undef) (b.tmps.getD dt undef) w else if L.getD s false = true then B (b.tmps.getD ds undef) w else A w
section
variable {P : Program} {Q : Exit → Act → World → Prop} {F : Nat → Value → World → Prop} {s t ds dt n : Nat} {A : World → Prop} {B : Value → World → Prop} {D : Value → Value → World → Prop} {ops : List Oper} {a : Act} {i : Nat} {o : Oper}
theorem Ph.start {L : Array Bool} {b : Act} {w : World} (hL : ∀ j, L.getD j false = false) (h : A w) : Ph s t ds dt A B D L b w := by
  unfold Ph
  rw [hL, hL]
  exact h
theorem Ph.end_ {L : Array Bool} {b : Act} {w : World} (h : Ph s t ds dt A B D L b w) (ht : L.getD t false = true) : D (b.tmps.getD ds undef) (b.tmps.getD dt undef) w := by
  unfold Ph at h
  rw [if_pos ht] at h
  exact h
theorem OpPh.pre (hs : i ≠ s) (ht : i ≠ t) (hno : ∀ L : Array Bool, Closed ops L → L.getD i false = false → L.getD s false = false ∧ L.getD t false = false)
    (hF : ∀ j u w w', Below w.heap.size w w' → F j u w → F j u w') (hA : ∀ w w', Below w.heap.size w w' → A w → A w')
    (h : ∀ (b : Act) (w : World), (∀ t, isDst ops t = false → b.tmps.getD t undef = a.tmps.getD t undef) → A w →
      (∀ e ∈ o.after.toList, Region.binds .any e = true → ∀ oj d, ops[e.on]? = some oj → oj.dst = some d → F e.on (b.tmps.getD d undef) w) →
      Region.wanted o (yielded ops.toArray b.tmps) = true ∧ ∃ v w', (execOp b.eval o).run P w = .ok (.value v) w' ∧ Below w.heap.size w w' ∧ F i v w') : OpPh P Q F (Ph s t ds dt A B D) n ops a i o := by
  intro L b w hL hi hcl hni _ hsm _ hC hg
  obtain ⟨h1, h2⟩ := hno L hcl hni
  unfold Ph at hC
  rw [h1, h2] at hC
  obtain ⟨hw, v, w', hr, hb, hf⟩ := h b w hsm hC hg
  refine ⟨hw, ?_⟩
  unfold Oper.wp
  rw [hr, Oper.upon_value]
  refine ⟨v, rfl, ?_, fun _ => hf, fun j u _ _ hj => hF j u w w' hb hj⟩
  unfold Ph
  rw [getD_set (by omega), getD_set (by omega), decide_eq_false hs, decide_eq_false ht, Bool.false_or, Bool.false_or, h1, h2]
  exact hA w w' hb hC
theorem OpPh.free (hs : i ≠ s) (ht : i ≠ t) {d : Nat} (hd : o.dst = some d) (hdn : d ≠ ds ∧ d ≠ dt ∧ d < n)
    (h : ∀ (b : Act) (w : World), (∀ t, isDst ops t = false → b.tmps.getD t undef = a.tmps.getD t undef) →
      (∀ e ∈ o.after.toList, Region.binds .any e = true → ∀ oj d, ops[e.on]? = some oj → oj.dst = some d → F e.on (b.tmps.getD d undef) w) →
      Region.wanted o (yielded ops.toArray b.tmps) = true ∧ ∃ v, (execOp b.eval o).run P w = .ok (.value v) w ∧ F i v w) : OpPh P Q F (Ph s t ds dt A B D) n ops a i o := by
  intro L b w hL hi hcl hni _ hsm hsz hC hg
  obtain ⟨hw, v, hr, hf⟩ := h b w hsm hg
  refine ⟨hw, ?_⟩
  unfold Oper.wp
  rw [hr, Oper.upon_value]
  refine ⟨v, rfl, ?_, fun _ => hf, fun _ _ _ _ h => h⟩
  unfold Ph at hC ⊢
  have hdlt : d < b.tmps.size := by rw [hsz]; exact hdn.2.2
  rw [getD_set (by omega), getD_set (by omega), decide_eq_false hs, decide_eq_false ht, Bool.false_or, Bool.false_or, hd, getD_put b d ds v hdlt, getD_put b d dt v hdlt, if_neg hdn.1, if_neg hdn.2.1]
  exact hC
theorem OpPh.mid (hst : s ≠ t) (hno : ∀ L : Array Bool, Closed ops L → L.getD s false = false → L.getD t false = false)
    (h : ∀ (b : Act) (w : World), (∀ t, isDst ops t = false → b.tmps.getD t undef = a.tmps.getD t undef) → b.tmps.size = n → A w →
      (∀ e ∈ o.after.toList, Region.binds .any e = true → ∀ oj d, ops[e.on]? = some oj → oj.dst = some d → F e.on (b.tmps.getD d undef) w) →
      Region.wanted o (yielded ops.toArray b.tmps) = true ∧ o.wp P b w (fun b' w' => ∃ v, b' = b.put o.dst v ∧ B (b'.tmps.getD ds undef) w' ∧ (o.dst.isSome = true → F s v w') ∧ ∀ j u, j ≠ s → F j u w → F j u w') Q) : OpPh P Q F (Ph s t ds dt A B D) n ops a s o := by
  intro L b w hL hi hcl hni _ hsm hsz hC hg
  have h2 := hno L hcl hni
  unfold Ph at hC
  rw [hni, h2] at hC
  obtain ⟨hw, hwp⟩ := h b w hsm hsz hC hg
  refine ⟨hw, Oper.wp_mono ?_ hwp⟩
  rintro b' w' ⟨v, rfl, hB, hf, hk⟩
  refine ⟨v, rfl, ?_, hf, fun j u hj _ h => hk j u hj h⟩
  unfold Ph
  rw [getD_set (by omega), getD_set (by omega), decide_eq_false hst, decide_eq_true rfl, Bool.false_or, Bool.true_or, h2]
  exact hB
theorem OpPh.last {k : Nat} {e : Edge} (he : o.after.toList[k]? = some e) (hb : Region.binds .any e = true) (hes : e.on = s)
    (h : ∀ (b : Act) (w : World), (∀ t, isDst ops t = false → b.tmps.getD t undef = a.tmps.getD t undef) → b.tmps.size = n → B (b.tmps.getD ds undef) w →
      (∀ e ∈ o.after.toList, Region.binds .any e = true → ∀ oj d, ops[e.on]? = some oj → oj.dst = some d → F e.on (b.tmps.getD d undef) w) →
      Region.wanted o (yielded ops.toArray b.tmps) = true ∧ o.wp P b w (fun b' w' => ∃ v, b' = b.put o.dst v ∧ D (b'.tmps.getD ds undef) (b'.tmps.getD dt undef) w' ∧ (o.dst.isSome = true → F t v w') ∧ ∀ j u, j ≠ t → F j u w → F j u w') Q) : OpPh P Q F (Ph s t ds dt A B D) n ops a t o := by
  intro L b w hL hi hcl hni hdep hsm hsz hC hg
  have h1 := hdep e (List.mem_of_getElem? he) hb
  rw [hes] at h1
  unfold Ph at hC
  rw [hni, h1] at hC
  obtain ⟨hw, hwp⟩ := h b w hsm hsz hC hg
  refine ⟨hw, Oper.wp_mono ?_ hwp⟩
  rintro b' w' ⟨v, rfl, hD, hf, hk⟩
  refine ⟨v, rfl, ?_, hf, fun j u hj _ h => hk j u hj h⟩
  unfold Ph
  rw [getD_set (by omega), decide_eq_true rfl, Bool.true_or]
  exact hD
end
end Go.Proofs.YtbhmnmmockmibaaGreat

namespace Go.Proofs.YtbhmnmmockmibaaGreat
open Go.RowKit
def waits (ops : List Oper) (j : Nat) : Nat → Nat → Bool
  | 0, _ => false
  | f + 1, i => (ops[i]?).toList.any fun o => o.after.toList.any fun e => Region.binds .any e && (e.on == j || waits ops j f e.on)
theorem waits_in {ops : List Oper} {j : Nat} {S : Nat → Prop} (hc : ∀ (j : Nat) (o' : Oper), S j → ops[j]? = some o' → ∀ e ∈ o'.after.toList, Region.binds .any e = true → S e.on) : ∀ (f i : Nat), waits ops j f i = true → S i → S j
  | 0, _, h, _ => by cases h
  | f + 1, i, h, hs => by
    unfold waits at h
    simp only [List.any_eq_true, Bool.and_eq_true, Bool.or_eq_true, beq_iff_eq, Option.mem_toList] at h
    obtain ⟨o, ho, e, he, hb, h | h⟩ := h
    · rw [← h]
      exact hc i o hs ho e he hb
    · exact waits_in hc f e.on h (hc i o hs ho e he hb)
def Lasts (ops : List Oper) (m : Nat) : Prop := ∀ {i : Nat} {o : Oper}, ops[i]? = some o → m ≤ i →
    o.guard = none ∧ ∀ (S : Nat → Prop), (∀ e ∈ o.after.toList, Region.binds .any e = true → S e.on) → (∀ (j : Nat) (o' : Oper), S j → ops[j]? = some o' → ∀ e ∈ o'.after.toList, Region.binds .any e = true → S e.on) → ∀ j, j < i → S j
def lastDeep (ops : List Oper) (m : Nat) : Bool :=
  ops.zipIdx.all fun (o, i) => decide (i < m) || (o.guard.isNone && (List.range i).all fun j => o.after.toList.any fun e => Region.binds .any e && (e.on == j || waits ops j i e.on))
theorem lasts_deep {ops : List Oper} {m : Nat} (h : lastDeep ops m = true) : Lasts ops m := by
  intro i o ho hi
  unfold lastDeep at h
  rw [List.all_eq_true] at h
  have := h (o, i) (by rw [List.mem_zipIdx_iff_getElem?]; exact ho)
  simp only [Bool.or_eq_true, decide_eq_true_eq, Bool.and_eq_true, Option.isNone_iff_eq_none, List.all_eq_true, List.mem_range, List.any_eq_true, beq_iff_eq] at this
  rcases this with h' | ⟨h1, h2⟩
  · omega
  · refine ⟨h1, fun S hd hc j hj => ?_⟩
    obtain ⟨e, he, h3, h4⟩ := h2 j hj
    rcases h4 with h4 | h4
    · rw [← h4]; exact hd e he h3
    · exact waits_in hc i e.on h4 (hd e he h3)
section
variable {P : Program} {Q : Exit → Act → World → Prop} (F : Nat → Value → World → Prop) (C : World → Prop)
theorem wpAny_tailP {ops : List Oper} {m : Nat} (hord : ∀ (i : Nat) (o : Oper), ops[i]? = some o → ∀ e ∈ o.after.toList, Region.binds .any e = true → e.on < i) (hlast : Lasts ops m) :
    ∀ (fuel t : Nat) (listed : Array Bool) (b : Act) (w : World), listed.toList.count false ≤ fuel → listed.size = ops.length → (∀ j, j < ops.length → (listed.getD j false = true ↔ j < m + t)) →
      wpList P ops.toArray Q (ops.drop (m + t)) b w → wpAny P .any ops.toArray Q fuel listed b w := by
  intro fuel
  have hend : ∀ (t : Nat) (listed : Array Bool) (b : Act) (w : World), listed.size = ops.length → (∀ j, j < ops.length → (listed.getD j false = true ↔ j < m + t)) → Region.ready .any ops.toArray listed = [] → wpList P ops.toArray Q (ops.drop (m + t)) b w → Q .normal b w := by
    intro t listed b w hsz hj hr h
    have hall := ready_nil hsz hord hr
    have : ops.length ≤ m + t := by
      rcases Nat.lt_or_ge (m + t) ops.length with h1 | h1
      · have := (hj _ h1).1 (hall _ h1)
        omega
      · exact h1
    rw [List.drop_of_length_le this] at h
    exact h
  induction fuel with
  | zero =>
    intro t listed b w hc hsz hj h
    have hr : Region.ready .any ops.toArray listed = [] := by
      rw [List.eq_nil_iff_forall_not_mem]
      intro i hi
      obtain ⟨o, _, hl, _⟩ := ready_mem hsz hi
      have : false ∈ listed.toList := List.mem_of_getElem? (i := i) (by simpa using hl)
      have := List.count_pos_iff.2 this
      omega
    exact ⟨hr, hend t listed b w hsz hj hr h⟩
  | succ fuel ih =>
    intro t listed b w hc hsz hj h
    refine ⟨fun hr => hend t listed b w hsz hj hr h, fun i hi => ?_⟩
    obtain ⟨o, ho, hl, hdep⟩ := ready_mem hsz hi
    have hio : i < ops.length := (List.getElem?_eq_some_iff.1 ho).1
    have hnl : ¬ listed.getD i false = true := by
      rw [Array.getD_eq_getD_getElem?, hl]
      simp
    have hge : m + t ≤ i := by
      rcases Nat.lt_or_ge i (m + t) with h1 | h1
      · exact absurd ((hj i hio).2 h1) hnl
      · exact h1
    obtain ⟨hgd, hw⟩ := hlast ho (by omega)
    have hle : i = m + t := by
      rcases Nat.eq_or_lt_of_le hge with h1 | h1
      · exact h1.symm
      · have h4 := hw (fun j => listed.getD j false = true) (fun e he h3 => hdep e he h3) (fun j o' hs ho' e he hbe => by
          have hjl := (List.getElem?_eq_some_iff.1 ho').1
          have h5 := (hj j hjl).1 hs
          have h6 := hord j o' ho' e he hbe
          exact (hj e.on (by omega)).2 (by omega)) (m + t) h1
        have := (hj (m + t) (by omega)).1 h4
        omega
    subst hle
    have hd : ops.drop (m + t) = o :: ops.drop (m + t + 1) := by
      rw [List.drop_eq_getElem_cons hio]
      congr 1
      exact (List.getElem?_eq_some_iff.1 ho).2
    rw [hd] at h
    unfold wpList at h
    have hwant : Region.wanted o (yielded ops.toArray b.tmps) = true := by simp [Region.wanted, hgd]
    rw [if_pos hwant] at h
    unfold wpOp
    rw [List.getElem?_toArray, ho]
    simp only [hwant, if_true]
    refine h.imp (Oper.wp_mono fun b' w' hb' => ?_) id
    refine ih (t + 1) _ _ _ (count_set_true hl hc) (by simpa using hsz) ?_ (by rw [← Nat.add_assoc]; exact hb')
    intro j hjl
    rw [getD_set (by omega)]
    by_cases hij : m + t = j
    · subst hij
      simp
    · rw [decide_eq_false hij, Bool.false_or, hj j hjl]
      omega
theorem wp_region_tailP {id n m : Nat} {ops pre : List Oper} {a : Act} {w : World} (hm : P.follows .mixedOrders = true) (hin : inOrder ops n = true) (hsz : a.tmps.size = n) (hpre : ops.take m = pre) (hml : m ≤ ops.length) (hdeep : lastDeep ops m = true) (hun : (pre.all fun o => o.guard.isNone) = true) (hC : C w.drew)
    (hop : OpsOk P Q F C pre a 0 pre)
    (hend : ∀ (b : Act) (w : World), b.tmps.size = n → b.defers = a.defers → (∀ t, isDst pre t = false → b.tmps.getD t undef = a.tmps.getD t undef) → C w →
      (∀ j o d, j < m → ops[j]? = some o → o.dst = some d → F j (b.tmps.getD d undef) w) → wpList P ops.toArray Q (ops.drop m) b w) :
    (Code.region id ops.toArray true).wp P Q a w := by
  have hlast : Lasts ops m := lasts_deep hdeep
  unfold inOrder at hin
  simp only [Bool.and_eq_true, decide_eq_true_eq, List.all_eq_true] at hin
  obtain ⟨⟨h1, h2⟩, h3⟩ := hin
  have hord : ∀ (i : Nat) (o : Oper), ops[i]? = some o → ∀ e ∈ o.after.toList, Region.binds .any e = true → e.on < i := by
    intro i o ho e he hbe
    have := h1 (o, i) (by rw [List.mem_zipIdx_iff_getElem?]; exact ho)
    simp only [Array.all_eq_true_iff_forall_mem, Bool.or_eq_true, Bool.not_eq_true', decide_eq_true_eq] at this
    rcases this e (by simpa using he) with h | h
    · rw [hbe] at h; cases h
    · exact h
  refine wp_region_any hm ?_
  have key : ∀ (fuel : Nat) (listed : Array Bool) (b : Act) (w : World), listed.toList.count false ≤ fuel → (∀ j, listed.getD j false = true → j < m) → (∀ (j : Nat) (o' : Oper), listed.getD j false = true → ops[j]? = some o' → ∀ e ∈ o'.after.toList, Region.binds .any e = true → listed.getD e.on false = true) → Upto F C ops n a listed b w → (∀ t, isDst pre t = false → b.tmps.getD t undef = a.tmps.getD t undef) → wpAny P .any ops.toArray Q fuel listed b w := by
    have hfull : ∀ (fuel : Nat) (listed : Array Bool) (b : Act) (w : World), listed.toList.count false ≤ fuel → (∀ j, listed.getD j false = true → j < m) → Upto F C ops n a listed b w → (∀ t, isDst pre t = false → b.tmps.getD t undef = a.tmps.getD t undef) → (∀ j, j < m → listed.getD j false = true) → wpAny P .any ops.toArray Q fuel listed b w := by
      intro fuel listed b w hc hlm h hs hall
      refine wpAny_tailP hord hlast fuel 0 listed b w hc h.size (fun j _ => ⟨fun h' => by have := hlm j h'; omega, fun h' => hall j (by omega)⟩) ?_
      rw [Nat.add_zero]
      exact hend b w h.slots h.defers hs h.common (fun j o d hj ho hd => h.fact j o d (hall j hj) ho hd)
    intro fuel
    induction fuel with
    | zero =>
      intro listed b w hc hlm _ h hs
      refine hfull 0 listed b w hc hlm h hs fun j hj => ?_
      have hjs : j < listed.size := by rw [h.size]; omega
      cases hv : listed.getD j false with
      | true => rfl
      | false =>
        exfalso
        rw [Array.getD_eq_getD_getElem?, Array.getElem?_eq_getElem hjs] at hv
        simp only [Option.getD_some] at hv
        have : false ∈ listed.toList := by rw [← hv]; simp
        have := List.count_pos_iff.2 this
        omega
    | succ fuel ih =>
      intro listed b w hc hlm hcl h hs
      by_cases hall : ∀ j, j < m → listed.getD j false = true
      · exact hfull _ listed b w hc hlm h hs hall
      · refine ⟨fun hr => ?_, fun i hi => ?_⟩
        · exact absurd (fun j hj => ready_nil h.size hord hr j (by omega)) hall
        · obtain ⟨o, ho, hl, hdep⟩ := ready_mem h.size hi
          have him : i < m := by
            rcases Nat.lt_or_ge i m with h1 | h1
            · exact h1
            · exfalso
              obtain ⟨_, hw⟩ := hlast ho h1
              exact hall fun j hj => hw (fun j => listed.getD j false = true) (fun e he h3 => hdep e he h3) hcl j (by omega)
          have hok := OpsOk.get F C hop (show pre[i]? = some o by rw [← hpre, List.getElem?_take, if_pos him]; exact ho)
          rw [Nat.zero_add] at hok
          have hpo : pre[i]? = some o := by rw [← hpre, List.getElem?_take, if_pos him]; exact ho
          obtain ⟨_, hwp⟩ := hok b w hs h.common (fun e he hbe oj d hoj hd => h.fact e.on oj d (hdep e he hbe) (by
            rw [← hpre, List.getElem?_take] at hoj
            split at hoj
            · exact hoj
            · cases hoj) hd)
          have hgn : o.guard = none := by
            have := List.all_eq_true.1 hun o (List.mem_of_getElem? hpo)
            simpa using this
          have hw : Region.wanted o (yielded ops.toArray b.tmps) = true := by simp [Region.wanted, hgn]
          unfold wpOp
          rw [List.getElem?_toArray, ho]
          simp only [hw, if_true]
          refine Or.inl (Oper.wp_mono ?_ hwp)
          rintro b' w' ⟨v, rfl, hC, hF, hK⟩
          have his : i < listed.size := (Array.getElem?_eq_some_iff.1 hl).1
          refine ih _ _ _ (count_set_true hl hc) ?_ ?_ (h.go F C h2 h3 ho hC hF hK) (fun t ht => by
            cases hod : o.dst with
            | none => exact hs t ht
            | some d =>
              rw [getD_put b d t v (by rw [h.slots]; exact h3 d (dst_mem ho hod)), if_neg, hs t ht]
              rintro rfl
              rw [isDst_of hpo hod] at ht
              cases ht)
          rotate_left
          · intro j o' hj ho' e he hbe
            rw [getD_set his] at hj ⊢
            by_cases hij : i = j
            · subst hij
              rw [ho] at ho'
              obtain rfl : o = o' := by injection ho'
              rw [hdep e he hbe, Bool.or_true]
            · rw [decide_eq_false hij, Bool.false_or] at hj
              rw [hcl j o' hj ho' e he hbe, Bool.or_true]
          intro j hj
          rw [getD_set his] at hj
          by_cases hij : i = j
          · omega
          · rw [decide_eq_false hij, Bool.false_or] at hj
            exact hlm j hj
  refine key _ _ _ _ ?_ ?_ ?_ ⟨by simp, hsz, rfl, fun _ _ => rfl, hC, ?_⟩ (fun _ _ => rfl)
  · simp
  rotate_left
  · intro j o' hl
    rw [Array.getD_eq_getD_getElem?] at hl
    rw [Array.getElem?_replicate] at hl
    exfalso
    revert hl
    split <;> simp
  rotate_left
  · intro j hl
    rw [Array.getD_eq_getD_getElem?] at hl
    rw [Array.getElem?_replicate] at hl
    exfalso
    revert hl
    split <;> simp
  · intro j o d hl
    rw [Array.getD_eq_getD_getElem?] at hl
    rw [Array.getElem?_replicate] at hl
    exfalso
    revert hl
    split <;> simp
end
end Go.Proofs.YtbhmnmmockmibaaGreat

namespace Go.Proofs.YtbhmnmmockmibaaGreat
open Go.RowKit
section
variable {P : Program} {Q : Exit → Act → World → Prop} (F : Nat → Value → World → Prop) (C : World → Prop)
def OkOp (P : Program) (Q : Exit → Act → World → Prop) (F : Nat → Value → World → Prop) (C : World → Prop) (ops : List Oper) (a : Act) (i : Nat) (o : Oper) : Prop :=
  ∀ (b : Act) (w : World), (∀ t, isDst ops t = false → b.tmps.getD t undef = a.tmps.getD t undef) → C w →
    (∀ e ∈ o.after.toList, Region.binds .any e = true → ∀ oj d, ops[e.on]? = some oj → oj.dst = some d → F e.on (b.tmps.getD d undef) w) →
    (Region.wanted o (yielded ops.toArray b.tmps) = true ∧
      o.wp P b w (fun b' w' => ∃ v, b' = b.put o.dst v ∧ C w' ∧ (o.dst.isSome = true → F i v w') ∧ ∀ j u, F j u w → F j u w') Q) ∨
    (Region.wanted o (yielded ops.toArray b.tmps) = false ∧ F i undef w)
def OksOp (P : Program) (Q : Exit → Act → World → Prop) (F : Nat → Value → World → Prop) (C : World → Prop) (ops : List Oper) (a : Act) : Nat → List Oper → Prop
  | _, [] => True
  | i, o :: l => OkOp P Q F C ops a i o ∧ OksOp P Q F C ops a (i + 1) l
theorem OksOp.cons {ops : List Oper} {a : Act} {i : Nat} {o : Oper} {l : List Oper} (h : OkOp P Q F C ops a i o) (hl : OksOp P Q F C ops a (i + 1) l) : OksOp P Q F C ops a i (o :: l) := ⟨h, hl⟩
theorem OksOp.nil {ops : List Oper} {a : Act} {i : Nat} : OksOp P Q F C ops a i [] := trivial
theorem OksOp.get {ops : List Oper} {a : Act} : ∀ {l : List Oper} {i j : Nat} {o : Oper}, OksOp P Q F C ops a i l → l[j]? = some o → OkOp P Q F C ops a (i + j) o
  | [], _, _, _, _, h => by simp at h
  | x :: l, i, 0, o, h, ho => by
    simp only [List.getElem?_cons_zero, Option.some.injEq] at ho
    subst ho
    exact h.1
  | x :: l, i, j + 1, o, h, ho => by
    simp only [List.getElem?_cons_succ] at ho
    have := OksOp.get h.2 ho
    rwa [show i + 1 + j = i + (j + 1) by omega] at this
theorem OkOp.of {ops : List Oper} {a : Act} {i : Nat} {o : Oper} (h : OpOk P Q F C ops a i o) : OkOp P Q F C ops a i o := fun b w hs hc hg => .inl (h b w hs hc hg)
theorem OkOp.skip {ops : List Oper} {a : Act} {i : Nat} {o : Oper} (h : ∀ (b : Act) (w : World), (∀ t, isDst ops t = false → b.tmps.getD t undef = a.tmps.getD t undef) → C w →
    (∀ e ∈ o.after.toList, Region.binds .any e = true → ∀ oj d, ops[e.on]? = some oj → oj.dst = some d → F e.on (b.tmps.getD d undef) w) → Region.wanted o (yielded ops.toArray b.tmps) = false ∧ F i undef w) : OkOp P Q F C ops a i o :=
  fun b w hs hc hg => .inr (h b w hs hc hg)
end
end Go.Proofs.YtbhmnmmockmibaaGreat

namespace Go.Proofs.YtbhmnmmockmibaaGreat
open Go.RowKit
section
variable {P : Program} {Q : Exit → Act → World → Prop} (F : Nat → Value → World → Prop) (C : Array Bool → Act → World → Prop)
def OpFu (P : Program) (Q : Exit → Act → World → Prop) (F : Nat → Value → World → Prop) (C : Array Bool → Act → World → Prop) (n : Nat) (ops : List Oper) (a : Act) (i : Nat) (o : Oper) : Prop :=
  ∀ (L : Array Bool) (b : Act) (w : World), L.size = ops.length → i < ops.length → Closed ops L → L.getD i false = false → (∀ e ∈ o.after.toList, Region.binds .any e = true → L.getD e.on false = true) →
    (∀ t, isDst ops t = false → b.tmps.getD t undef = a.tmps.getD t undef) → b.tmps.size = n → C L b w →
    (∀ e ∈ o.after.toList, Region.binds .any e = true → ∀ oj d, ops[e.on]? = some oj → oj.dst = some d → F e.on (b.tmps.getD d undef) w) →
    Region.wanted o (yielded ops.toArray b.tmps) = true ∧
    o.wp P b w (fun b' w' => ∃ v, b' = b.put o.dst v ∧ C (L.setIfInBounds i true) b' w' ∧ (o.dst.isSome = true → F i v w') ∧ ∀ j u, F j u w → F j u w') Q
def OpsFu (P : Program) (Q : Exit → Act → World → Prop) (F : Nat → Value → World → Prop) (C : Array Bool → Act → World → Prop) (n : Nat) (ops : List Oper) (a : Act) : Nat → List Oper → Prop
  | _, [] => True
  | i, o :: l => OpFu P Q F C n ops a i o ∧ OpsFu P Q F C n ops a (i + 1) l
theorem OpsFu.cons {n : Nat} {ops : List Oper} {a : Act} {i : Nat} {o : Oper} {l : List Oper} (h : OpFu P Q F C n ops a i o) (hl : OpsFu P Q F C n ops a (i + 1) l) : OpsFu P Q F C n ops a i (o :: l) := ⟨h, hl⟩
theorem OpsFu.nil {n : Nat} {ops : List Oper} {a : Act} {i : Nat} : OpsFu P Q F C n ops a i [] := trivial
theorem OpsFu.get {n : Nat} {ops : List Oper} {a : Act} : ∀ {l : List Oper} {i j : Nat} {o : Oper}, OpsFu P Q F C n ops a i l → l[j]? = some o → OpFu P Q F C n ops a (i + j) o
  | [], _, _, _, _, h => by simp at h
  | x :: l, i, 0, o, h, ho => by
    simp only [List.getElem?_cons_zero, Option.some.injEq] at ho
    subst ho
    exact h.1
  | x :: l, i, j + 1, o, h, ho => by
    simp only [List.getElem?_cons_succ] at ho
    have := OpsFu.get h.2 ho
    rwa [show i + 1 + j = i + (j + 1) by omega] at this
theorem wpAny_full {ops : List Oper} {n : Nat} {a : Act} (hn : (ops.filterMap (·.dst)).Nodup) (hb : ∀ d ∈ ops.filterMap (·.dst), d < n) (hord : ∀ (i : Nat) (o : Oper), ops[i]? = some o → ∀ e ∈ o.after.toList, Region.binds .any e = true → e.on < i)
    (hop : OpsFu P Q F C n ops a 0 ops)
    (hend : ∀ (L : Array Bool) (b : Act) (w : World), (∀ j, j < ops.length → L.getD j false = true) → b.tmps.size = n → b.defers = a.defers → (∀ t, isDst ops t = false → b.tmps.getD t undef = a.tmps.getD t undef) → C L b w →
      (∀ j o d, ops[j]? = some o → o.dst = some d → F j (b.tmps.getD d undef) w) → Q .normal b w) :
    ∀ (fuel : Nat) (listed : Array Bool) (b : Act) (w : World), listed.toList.count false ≤ fuel → Closed ops listed → C listed b w → Upto F (fun _ => True) ops n a listed b w → wpAny P .any ops.toArray Q fuel listed b w := by
  have hfin : ∀ (listed : Array Bool) (b : Act) (w : World), C listed b w → Upto F (fun _ => True) ops n a listed b w → Region.ready .any ops.toArray listed = [] → Q .normal b w := by
    intro listed b w hC h hr
    have hall := ready_nil h.size hord hr
    exact hend listed b w hall h.slots h.defers h.same hC (fun j o d hj hd => h.fact j o d (hall j (List.getElem?_eq_some_iff.1 hj).1) hj hd)
  intro fuel
  induction fuel with
  | zero =>
    intro listed b w hc _ hC h
    have hr : Region.ready .any ops.toArray listed = [] := by
      rw [List.eq_nil_iff_forall_not_mem]
      intro i hi
      obtain ⟨o, _, hl, _⟩ := ready_mem h.size hi
      have : false ∈ listed.toList := List.mem_of_getElem? (i := i) (by simpa using hl)
      have := List.count_pos_iff.2 this
      omega
    exact ⟨hr, hfin listed b w hC h hr⟩
  | succ fuel ih =>
    intro listed b w hc hcl hC h
    refine ⟨hfin listed b w hC h, fun i hi => ?_⟩
    obtain ⟨o, ho, hl, hdep⟩ := ready_mem h.size hi
    have hio : i < ops.length := (List.getElem?_eq_some_iff.1 ho).1
    have hnl : listed.getD i false = false := by
      rw [Array.getD_eq_getD_getElem?, hl]
      rfl
    have hok := OpsFu.get F C hop ho
    rw [Nat.zero_add] at hok
    obtain ⟨hw, hwp⟩ := hok listed b w h.size hio hcl hnl hdep h.same h.slots hC (fun e he hbe oj d hoj hd => h.fact e.on oj d (hdep e he hbe) hoj hd)
    unfold wpOp
    rw [List.getElem?_toArray, ho]
    simp only [hw, if_true]
    refine Or.inl (Oper.wp_mono ?_ hwp)
    rintro b' w' ⟨v, rfl, hC', hF, hK⟩
    have his : i < listed.size := (Array.getElem?_eq_some_iff.1 hl).1
    refine ih _ _ _ (count_set_true hl hc) ?_ hC' (h.go F _ hn hb ho trivial hF hK)
    intro j o' hj ho' e he hbe
    rw [getD_set his] at hj ⊢
    by_cases hij : i = j
    · subst hij
      rw [ho] at ho'
      obtain rfl : o = o' := by injection ho'
      rw [hdep e he hbe, Bool.or_true]
    · rw [decide_eq_false hij, Bool.false_or] at hj
      rw [hcl j o' hj ho' e he hbe, Bool.or_true]
theorem wp_region_full {id n : Nat} {ops : List Oper} {a : Act} {w : World} (hm : P.follows .mixedOrders = true) (hin : inOrder ops n = true) (hsz : a.tmps.size = n) (hC : ∀ L : Array Bool, (∀ j, L.getD j false = false) → C L a w.drew)
    (hop : OpsFu P Q F C n ops a 0 ops)
    (hend : ∀ (L : Array Bool) (b : Act) (w : World), (∀ j, j < ops.length → L.getD j false = true) → b.tmps.size = n → b.defers = a.defers → (∀ t, isDst ops t = false → b.tmps.getD t undef = a.tmps.getD t undef) → C L b w →
      (∀ j o d, ops[j]? = some o → o.dst = some d → F j (b.tmps.getD d undef) w) → Q .normal b w) :
    (Code.region id ops.toArray true).wp P Q a w := by
  unfold inOrder at hin
  simp only [Bool.and_eq_true, decide_eq_true_eq, List.all_eq_true] at hin
  obtain ⟨⟨h1, h2⟩, h3⟩ := hin
  have hnone : ∀ j, (Array.replicate ops.toArray.size false).getD j false = false := by
    intro j
    rw [Array.getD_eq_getD_getElem?, Array.getElem?_replicate]
    split <;> rfl
  refine wp_region_any hm ?_
  refine wpAny_full F C h2 h3 ?_ hop hend _ _ _ _ ?_ ?_ (hC _ hnone) ⟨by simp, hsz, rfl, fun _ _ => rfl, trivial, fun j _ _ h => by rw [hnone j] at h; cases h⟩
  · intro i o ho e he hbe
    have := h1 (o, i) (by rw [List.mem_zipIdx_iff_getElem?]; exact ho)
    simp only [Array.all_eq_true_iff_forall_mem, Bool.or_eq_true, Bool.not_eq_true', decide_eq_true_eq] at this
    rcases this e (by simpa using he) with h | h
    · rw [hbe] at h; cases h
    · exact h
  · simp
  · intro j o hj
    rw [hnone j] at hj
    cases hj
end
end Go.Proofs.YtbhmnmmockmibaaGreat
