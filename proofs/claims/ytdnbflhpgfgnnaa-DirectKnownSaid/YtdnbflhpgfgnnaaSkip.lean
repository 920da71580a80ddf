/- A region that draws its order, by facts, some of whose guarded operations are not wanted. Conditions: none. -/
import Derived.Test.YtdnbflhpgfgnnaaTail
namespace Go.Proofs.Ytdnbflhpgfgnnaa
open Go.RowKit

section
variable {P : Program} {Q : Exit → Act → World → Prop} (F : Nat → Value → World → Prop) (C : World → Prop)

/-- What is asked of operation number i: it runs, or it is not wanted. -/
def OkOp (P : Program) (Q : Exit → Act → World → Prop) (F : Nat → Value → World → Prop) (C : World → Prop) (ops : List Oper) (a : Act) (i : Nat) (o : Oper) : Prop :=
  ∀ (b : Act) (w : World), (∀ t, isDst ops t = false → b.tmps.getD t undef = a.tmps.getD t undef) → C w →
    (∀ e ∈ o.after.toList, Region.binds .any e = true → ∀ oj d, ops[e.on]? = some oj → oj.dst = some d → F e.on (b.tmps.getD d undef) w) →
    (Region.wanted o (yielded ops.toArray b.tmps) = true ∧
      o.wp P b w (fun b' w' => ∃ v, b' = b.put o.dst v ∧ C w' ∧ (o.dst.isSome = true → F i v w') ∧ ∀ j u, F j u w → F j u w') Q) ∨
    (Region.wanted o (yielded ops.toArray b.tmps) = false ∧ F i undef w)
def OksOp (P : Program) (Q : Exit → Act → World → Prop) (F : Nat → Value → World → Prop) (C : World → Prop) (ops : List Oper) (a : Act) : Nat → List Oper → Prop
  | _, [] => True
  | i, o :: l => OkOp P Q F C ops a i o ∧ OksOp P Q F C ops a (i + 1) l

theorem OksOp.cons {ops : List Oper} {a : Act} {i : Nat} {o : Oper} {l : List Oper} (h : OkOp P Q F C ops a i o) (hl : OksOp P Q F C ops a (i + 1) l) : OksOp P Q F C ops a i (o :: l) := ⟨h, hl⟩
theorem OksOp.nil {ops : List Oper} {a : Act} {i : Nat} : OksOp P Q F C ops a i [] := trivial
theorem OksOp.get {ops : List Oper} {a : Act} : ∀ {l : List Oper} {i j : Nat} {o : Oper}, OksOp P Q F C ops a i l → l[j]? = some o → OkOp P Q F C ops a (i + j) o
  | [], _, _, _, _, h => by simp at h
  | x :: l, i, 0, o, h, ho => by
    simp only [List.getElem?_cons_zero, Option.some.injEq] at ho
    subst ho
    exact h.1
  | x :: l, i, j + 1, o, h, ho => by
    simp only [List.getElem?_cons_succ] at ho
    have := OksOp.get h.2 ho
    rwa [show i + 1 + j = i + (j + 1) by omega] at this
theorem OkOp.of {ops : List Oper} {a : Act} {i : Nat} {o : Oper} (h : OpOk P Q F C ops a i o) : OkOp P Q F C ops a i o := fun b w hs hc hg => .inl (h b w hs hc hg)
theorem OkOp.skip {ops : List Oper} {a : Act} {i : Nat} {o : Oper} (h : ∀ (b : Act) (w : World), (∀ t, isDst ops t = false → b.tmps.getD t undef = a.tmps.getD t undef) → C w →
    (∀ e ∈ o.after.toList, Region.binds .any e = true → ∀ oj d, ops[e.on]? = some oj → oj.dst = some d → F e.on (b.tmps.getD d undef) w) → Region.wanted o (yielded ops.toArray b.tmps) = false ∧ F i undef w) : OkOp P Q F C ops a i o :=
  fun b w hs hc hg => .inr (h b w hs hc hg)

theorem wpAny_skips {ops : List Oper} {n : Nat} {a : Act} (hn : (ops.filterMap (·.dst)).Nodup) (hb : ∀ d ∈ ops.filterMap (·.dst), d < n) (hord : ∀ (i : Nat) (o : Oper), ops[i]? = some o → ∀ e ∈ o.after.toList, Region.binds .any e = true → e.on < i)
    (hop : OksOp P Q F C ops a 0 ops)
    (hend : ∀ (b : Act) (w : World), b.tmps.size = n → b.defers = a.defers → (∀ t, isDst ops t = false → b.tmps.getD t undef = a.tmps.getD t undef) → C w →
      (∀ j o d, ops[j]? = some o → o.dst = some d → F j (b.tmps.getD d undef) w) → Q .normal b w) :
    ∀ (fuel : Nat) (listed : Array Bool) (b : Act) (w : World), listed.toList.count false ≤ fuel → Upto F C ops n a listed b w → wpAny P .any ops.toArray Q fuel listed b w := by
  have hfin : ∀ (listed : Array Bool) (b : Act) (w : World), Upto F C ops n a listed b w → Region.ready .any ops.toArray listed = [] → Q .normal b w := by
    intro listed b w h hr
    have hall := ready_nil h.size hord hr
    exact hend b w h.slots h.defers h.same h.common (fun j o d hj hd => h.fact j o d (hall j (List.getElem?_eq_some_iff.1 hj).1) hj hd)
  intro fuel
  induction fuel with
  | zero =>
    intro listed b w hc h
    have hr : Region.ready .any ops.toArray listed = [] := by
      rw [List.eq_nil_iff_forall_not_mem]
      intro i hi
      obtain ⟨o, _, hl, _⟩ := ready_mem h.size hi
      have : false ∈ listed.toList := List.mem_of_getElem? (i := i) (by simpa using hl)
      have := List.count_pos_iff.2 this
      omega
    exact ⟨hr, hfin listed b w h hr⟩
  | succ fuel ih =>
    intro listed b w hc h
    refine ⟨hfin listed b w h, fun i hi => ?_⟩
    obtain ⟨o, ho, hl, hdep⟩ := ready_mem h.size hi
    have hok := OksOp.get F C hop ho
    rw [Nat.zero_add] at hok
    unfold wpOp
    rw [List.getElem?_toArray, ho]
    rcases hok b w h.same h.common (fun e he hbe oj d hoj hd => h.fact e.on oj d (hdep e he hbe) hoj hd) with ⟨hw, hwp⟩ | ⟨hw, hf⟩
    · simp only [hw, if_true]
      refine Or.inl (Oper.wp_mono ?_ hwp)
      rintro b' w' ⟨v, rfl, hC, hF, hK⟩
      exact ih _ _ _ (count_set_true hl hc) (h.go F C hn hb ho hC hF hK)
    · simp only [hw]
      exact ih _ _ _ (count_set_true hl hc) (h.go F C hn hb ho h.common (fun _ => hf) (fun _ _ h => h))

/-- THE RULE. -/
theorem wp_region_skips {id n : Nat} {ops : List Oper} {a : Act} {w : World} (hm : P.follows .mixedOrders = true) (hin : inOrder ops n = true) (hsz : a.tmps.size = n) (hC : C w.drew)
    (hop : OksOp P Q F C ops a 0 ops)
    (hend : ∀ (b : Act) (w : World), b.tmps.size = n → b.defers = a.defers → (∀ t, isDst ops t = false → b.tmps.getD t undef = a.tmps.getD t undef) → C w →
      (∀ j o d, ops[j]? = some o → o.dst = some d → F j (b.tmps.getD d undef) w) → Q .normal b w) :
    (Code.region id ops.toArray true).wp P Q a w := by
  unfold inOrder at hin
  simp only [Bool.and_eq_true, decide_eq_true_eq, List.all_eq_true] at hin
  obtain ⟨⟨h1, h2⟩, h3⟩ := hin
  have hnone : ∀ j, (Array.replicate ops.toArray.size false).getD j false = true → False := by
    intro j hl
    rw [Array.getD_eq_getD_getElem?, Array.getElem?_replicate] at hl
    revert hl
    split <;> simp
  refine wp_region_any hm ?_
  refine wpAny_skips F C h2 h3 ?_ hop hend _ _ _ _ ?_ ⟨by simp, hsz, rfl, fun _ _ => rfl, hC, fun j _ _ h => (hnone j h).elim⟩
  · intro i o ho e he hbe
    have := h1 (o, i) (by rw [List.mem_zipIdx_iff_getElem?]; exact ho)
    simp only [Array.all_eq_true_iff_forall_mem, Bool.or_eq_true, Bool.not_eq_true', decide_eq_true_eq] at this
    rcases this e (by simpa using he) with h | h
    · rw [hbe] at h; cases h
    · exact h
  · simp
end

/-- A guarded operation is not wanted: its guard says otherwise. -/
theorem unwanted_of {ops : List Oper} {b : Act} {o oj : Oper} {j : Nat} {c : Bool} {d : Tmp} (hgd : o.guard = some (j, c)) (ho : ops[j]? = some oj) (hd : oj.dst = some d) (h : b.tmps.getD d undef = .bool (!c)) : Region.wanted o (yielded ops.toArray b.tmps) = false := by
  have hy : yielded ops.toArray b.tmps j = some (!c) := by
    unfold yielded
    rw [List.getElem?_toArray, ho]
    rw [Array.getD_eq_getD_getElem?] at h
    cases ht : b.tmps[d]? with
    | none =>
      rw [ht] at h
      cases h
    | some v =>
      rw [ht] at h
      simp only [Option.getD_some] at h
      subst h
      simp [hd, ht]
  unfold Region.wanted
  rw [hgd]
  simp only [hy]
  cases c <;> rfl
/-- A guarded operation is not wanted: neither was its guard. -/
theorem unwanted_un {ops : List Oper} {b : Act} {o oj : Oper} {j : Nat} {c : Bool} {d : Tmp} (hgd : o.guard = some (j, c)) (ho : ops[j]? = some oj) (hd : oj.dst = some d) (h : b.tmps.getD d undef = undef) : Region.wanted o (yielded ops.toArray b.tmps) = false := by
  have hy : yielded ops.toArray b.tmps j = none := by
    unfold yielded
    rw [List.getElem?_toArray, ho]
    rw [Array.getD_eq_getD_getElem?] at h
    cases ht : b.tmps[d]? with
    | none => simp [hd, ht]
    | some v =>
      rw [ht] at h
      simp only [Option.getD_some] at h
      subst h
      simp [hd, ht, undef]
  unfold Region.wanted
  rw [hgd]
  simp only [hy]
  cases c <;> rfl
end Go.Proofs.Ytdnbflhpgfgnnaa
