/- A region that draws its order, by facts, some of whose guarded operations are not wanted. Conditions: none. A region that draws its order, by facts, and by what holds of the frame and the world as far as it has come. Conditions: none. Files as lists of parts, by definition: what is done to them, and what follows of it. Conditions: none. -/
import Derived.Test.YtbhmnmmockmibaaGreatDoorKnTail
import Derived.Test.YtbhmnmmockmibaaGreatDoorKnTailP
import Derived.Test.YtbhmnmmockmibaaGreatDoorKnMany
namespace Go.Proofs.YtbhmnmmockmibaaGreatDoor
open Go.RowKit
section
variable {P : Program} {Q : Exit → Act → World → Prop} (F : Nat → Value → World → Prop) (C : World → Prop)
/-- What is asked of operation number i: it runs, or it is not wanted. -/
def OkOp (P : Program) (Q : Exit → Act → World → Prop) (F : Nat → Value → World → Prop) (C : World → Prop) (ops : List Oper) (a : Act) (i : Nat) (o : Oper) : Prop :=
  ∀ (b : Act) (w : World), (∀ t, isDst ops t = false → b.tmps.getD t undef = a.tmps.getD t undef) → C w →
    (∀ e ∈ o.after.toList, Region.binds .any e = true → ∀ oj d, ops[e.on]? = some oj → oj.dst = some d → F e.on (b.tmps.getD d undef) w) →
    (Region.wanted o (yielded ops.toArray b.tmps) = true ∧
      o.wp P b w (fun b' w' => ∃ v, b' = b.put o.dst v ∧ C w' ∧ (o.dst.isSome = true → F i v w') ∧ ∀ j u, F j u w → F j u w') Q) ∨
    (Region.wanted o (yielded ops.toArray b.tmps) = false ∧ F i undef w)
def OksOp (P : Program) (Q : Exit → Act → World → Prop) (F : Nat → Value → World → Prop) (C : World → Prop) (ops : List Oper) (a : Act) : Nat → List Oper → Prop
  | _, [] => True
  | i, o :: l => OkOp P Q F C ops a i o ∧ OksOp P Q F C ops a (i + 1) l
theorem OksOp.cons {ops : List Oper} {a : Act} {i : Nat} {o : Oper} {l : List Oper} (h : OkOp P Q F C ops a i o) (hl : OksOp P Q F C ops a (i + 1) l) : OksOp P Q F C ops a i (o :: l) := ⟨h, hl⟩
theorem OksOp.nil {ops : List Oper} {a : Act} {i : Nat} : OksOp P Q F C ops a i [] := trivial
theorem OksOp.get {ops : List Oper} {a : Act} : ∀ {l : List Oper} {i j : Nat} {o : Oper}, OksOp P Q F C ops a i l → l[j]? = some o → OkOp P Q F C ops a (i + j) o
  | [], _, _, _, _, h => by simp at h
  | x :: l, i, 0, o, h, ho => by
    simp only [List.getElem?_cons_zero, Option.some.injEq] at ho
    subst ho
    exact h.1
  | x :: l, i, j + 1, o, h, ho => by
    simp only [List.getElem?_cons_succ] at ho
    have := OksOp.get h.2 ho
    rwa [show i + 1 + j = i + (j + 1) by omega] at this
theorem OkOp.of {ops : List Oper} {a : Act} {i : Nat} {o : Oper} (h : OpOk P Q F C ops a i o) : OkOp P Q F C ops a i o := fun b w hs hc hg => .inl (h b w hs hc hg)
end
end Go.Proofs.YtbhmnmmockmibaaGreatDoor

namespace Go.Proofs.YtbhmnmmockmibaaGreatDoor
open Go.RowKit
section
variable {P : Program} {Q : Exit → Act → World → Prop} (F : Nat → Value → World → Prop) (C : Array Bool → Act → World → Prop)
/-- What is asked of operation number i. -/
def OpFu (P : Program) (Q : Exit → Act → World → Prop) (F : Nat → Value → World → Prop) (C : Array Bool → Act → World → Prop) (n : Nat) (ops : List Oper) (a : Act) (i : Nat) (o : Oper) : Prop :=
  ∀ (L : Array Bool) (b : Act) (w : World), L.size = ops.length → i < ops.length → Closed ops L → L.getD i false = false → (∀ e ∈ o.after.toList, Region.binds .any e = true → L.getD e.on false = true) →
    (∀ t, isDst ops t = false → b.tmps.getD t undef = a.tmps.getD t undef) → b.tmps.size = n → C L b w →
    (∀ e ∈ o.after.toList, Region.binds .any e = true → ∀ oj d, ops[e.on]? = some oj → oj.dst = some d → F e.on (b.tmps.getD d undef) w) →
    Region.wanted o (yielded ops.toArray b.tmps) = true ∧
    o.wp P b w (fun b' w' => ∃ v, b' = b.put o.dst v ∧ C (L.setIfInBounds i true) b' w' ∧ (o.dst.isSome = true → F i v w') ∧ ∀ j u, F j u w → F j u w') Q
def OpsFu (P : Program) (Q : Exit → Act → World → Prop) (F : Nat → Value → World → Prop) (C : Array Bool → Act → World → Prop) (n : Nat) (ops : List Oper) (a : Act) : Nat → List Oper → Prop
  | _, [] => True
  | i, o :: l => OpFu P Q F C n ops a i o ∧ OpsFu P Q F C n ops a (i + 1) l
theorem OpsFu.cons {n : Nat} {ops : List Oper} {a : Act} {i : Nat} {o : Oper} {l : List Oper} (h : OpFu P Q F C n ops a i o) (hl : OpsFu P Q F C n ops a (i + 1) l) : OpsFu P Q F C n ops a i (o :: l) := ⟨h, hl⟩
theorem OpsFu.nil {n : Nat} {ops : List Oper} {a : Act} {i : Nat} : OpsFu P Q F C n ops a i [] := trivial
theorem OpsFu.get {n : Nat} {ops : List Oper} {a : Act} : ∀ {l : List Oper} {i j : Nat} {o : Oper}, OpsFu P Q F C n ops a i l → l[j]? = some o → OpFu P Q F C n ops a (i + j) o
  | [], _, _, _, _, h => by simp at h
  | x :: l, i, 0, o, h, ho => by
    simp only [List.getElem?_cons_zero, Option.some.injEq] at ho
    subst ho
    exact h.1
  | x :: l, i, j + 1, o, h, ho => by
    simp only [List.getElem?_cons_succ] at ho
    have := OpsFu.get h.2 ho
    rwa [show i + 1 + j = i + (j + 1) by omega] at this
theorem wpAny_full {ops : List Oper} {n : Nat} {a : Act} (hn : (ops.filterMap (·.dst)).Nodup) (hb : ∀ d ∈ ops.filterMap (·.dst), d < n) (hord : ∀ (i : Nat) (o : Oper), ops[i]? = some o → ∀ e ∈ o.after.toList, Region.binds .any e = true → e.on < i)
    (hop : OpsFu P Q F C n ops a 0 ops)
    (hend : ∀ (L : Array Bool) (b : Act) (w : World), (∀ j, j < ops.length → L.getD j false = true) → b.tmps.size = n → b.defers = a.defers → (∀ t, isDst ops t = false → b.tmps.getD t undef = a.tmps.getD t undef) → C L b w →
      (∀ j o d, ops[j]? = some o → o.dst = some d → F j (b.tmps.getD d undef) w) → Q .normal b w) :
    ∀ (fuel : Nat) (listed : Array Bool) (b : Act) (w : World), listed.toList.count false ≤ fuel → Closed ops listed → C listed b w → Upto F (fun _ => True) ops n a listed b w → wpAny P .any ops.toArray Q fuel listed b w := by
  have hfin : ∀ (listed : Array Bool) (b : Act) (w : World), C listed b w → Upto F (fun _ => True) ops n a listed b w → Region.ready .any ops.toArray listed = [] → Q .normal b w := by
    intro listed b w hC h hr
    have hall := ready_nil h.size hord hr
    exact hend listed b w hall h.slots h.defers h.same hC (fun j o d hj hd => h.fact j o d (hall j (List.getElem?_eq_some_iff.1 hj).1) hj hd)
  intro fuel
  induction fuel with
  | zero =>
    intro listed b w hc _ hC h
    have hr : Region.ready .any ops.toArray listed = [] := by
      rw [List.eq_nil_iff_forall_not_mem]
      intro i hi
      obtain ⟨o, _, hl, _⟩ := ready_mem h.size hi
      have : false ∈ listed.toList := List.mem_of_getElem? (i := i) (by simpa using hl)
      have := List.count_pos_iff.2 this
      omega
    exact ⟨hr, hfin listed b w hC h hr⟩
  | succ fuel ih =>
    intro listed b w hc hcl hC h
    refine ⟨hfin listed b w hC h, fun i hi => ?_⟩
    obtain ⟨o, ho, hl, hdep⟩ := ready_mem h.size hi
    have hio : i < ops.length := (List.getElem?_eq_some_iff.1 ho).1
    have hnl : listed.getD i false = false := by
      rw [Array.getD_eq_getD_getElem?, hl]
      rfl
    have hok := OpsFu.get F C hop ho
    rw [Nat.zero_add] at hok
    obtain ⟨hw, hwp⟩ := hok listed b w h.size hio hcl hnl hdep h.same h.slots hC (fun e he hbe oj d hoj hd => h.fact e.on oj d (hdep e he hbe) hoj hd)
    unfold wpOp
    rw [List.getElem?_toArray, ho]
    simp only [hw, if_true]
    refine Or.inl (Oper.wp_mono ?_ hwp)
    rintro b' w' ⟨v, rfl, hC', hF, hK⟩
    have his : i < listed.size := (Array.getElem?_eq_some_iff.1 hl).1
    refine ih _ _ _ (count_set_true hl hc) ?_ hC' (h.go F _ hn hb ho trivial hF hK)
    intro j o' hj ho' e he hbe
    rw [getD_set his] at hj ⊢
    by_cases hij : i = j
    · subst hij
      rw [ho] at ho'
      obtain rfl : o = o' := by injection ho'
      rw [hdep e he hbe, Bool.or_true]
    · rw [decide_eq_false hij, Bool.false_or] at hj
      rw [hcl j o' hj ho' e he hbe, Bool.or_true]
/-- THE RULE. -/
theorem wp_region_full {id n : Nat} {ops : List Oper} {a : Act} {w : World} (hm : P.follows .mixedOrders = true) (hin : inOrder ops n = true) (hsz : a.tmps.size = n) (hC : ∀ L : Array Bool, (∀ j, L.getD j false = false) → C L a w.drew)
    (hop : OpsFu P Q F C n ops a 0 ops)
    (hend : ∀ (L : Array Bool) (b : Act) (w : World), (∀ j, j < ops.length → L.getD j false = true) → b.tmps.size = n → b.defers = a.defers → (∀ t, isDst ops t = false → b.tmps.getD t undef = a.tmps.getD t undef) → C L b w →
      (∀ j o d, ops[j]? = some o → o.dst = some d → F j (b.tmps.getD d undef) w) → Q .normal b w) :
    (Code.region id ops.toArray true).wp P Q a w := by
  unfold inOrder at hin
  simp only [Bool.and_eq_true, decide_eq_true_eq, List.all_eq_true] at hin
  obtain ⟨⟨h1, h2⟩, h3⟩ := hin
  have hnone : ∀ j, (Array.replicate ops.toArray.size false).getD j false = false := by
    intro j
    rw [Array.getD_eq_getD_getElem?, Array.getElem?_replicate]
    split <;> rfl
  refine wp_region_any hm ?_
  refine wpAny_full F C h2 h3 ?_ hop hend _ _ _ _ ?_ ?_ (hC _ hnone) ⟨by simp, hsz, rfl, fun _ _ => rfl, trivial, fun j _ _ h => by rw [hnone j] at h; cases h⟩
  · intro i o ho e he hbe
    have := h1 (o, i) (by rw [List.mem_zipIdx_iff_getElem?]; exact ho)
    simp only [Array.all_eq_true_iff_forall_mem, Bool.or_eq_true, Bool.not_eq_true', decide_eq_true_eq] at this
    rcases this e (by simpa using he) with h | h
    · rw [hbe] at h; cases h
    · exact h
  · simp
  · intro j o hj
    rw [hnone j] at hj
    cases hj
end
end Go.Proofs.YtbhmnmmockmibaaGreatDoor

namespace Go.Proofs.YtbhmnmmockmibaaGreatDoor
open Go.RowKit
/-- A part: its bytes, and whether it is durable. -/
abbrev Pt := List UInt8 × Bool
def fullM (m : List Pt) : List Pt := m.filter fun p => !p.1.isEmpty
def contM (m : List Pt) : List UInt8 := m.flatMap fun p => p.1
def volM (m : List Pt) : Nat := (m.filter fun p => !p.2 && !p.1.isEmpty).length
def holdM : List Pt → List Bool → List Pt
  | [], _ => []
  | p :: m, k => if p.2 = true then p :: holdM m k else match k with
    | [] => p :: holdM m []
    | b :: k => (p.1, b) :: holdM m k
def endM : List Pt → Nat
  | [] => 0
  | p :: m => if endM m = 0 then (if p.2 = true then 1 else 0) else endM m + 1
def fillP (p : Pt) : Pt := (if p.2 = true then p.1 else noughts p.1.length, true)
def failH (h : List Pt) : List Pt := (h.take (endM h)).map fillP
def failM (m : List Pt) (k : List Bool) : List Pt := failH (holdM (fullM m) k)
def syncM (m : List Pt) : List Pt := (fullM m).map fun p => (p.1, true)
def appM (m : List Pt) (b : List UInt8) : List Pt := fullM (m ++ [(b, false)])
theorem fullM_append (a b : List Pt) : fullM (a ++ b) = fullM a ++ fullM b := by simp [fullM]
theorem fullM_one {p : Pt} (h : p.1 ≠ []) : fullM [p] = [p] := by
  have : p.1.isEmpty = false := by cases hp : p.1 <;> simp_all
  simp [fullM, this]
theorem fullM_none {p : Pt} (h : p.1 = []) : fullM [p] = [] := by simp [fullM, h]
theorem fullM_mem {m : List Pt} {p : Pt} (h : p ∈ fullM m) : p.1 ≠ [] := by
  unfold fullM at h
  rw [List.mem_filter] at h
  intro e
  rw [e] at h
  simp at h
theorem fullM_id {m : List Pt} (h : ∀ p ∈ m, p.1 ≠ []) : fullM m = m := by
  unfold fullM
  rw [List.filter_eq_self]
  intro p hp
  have := h p hp
  cases hq : p.1 <;> simp_all
theorem fullM_idem (m : List Pt) : fullM (fullM m) = fullM m := fullM_id fun _ h => fullM_mem h
theorem contM_append (a b : List Pt) : contM (a ++ b) = contM a ++ contM b := by simp [contM]
theorem contM_one (p : Pt) : contM [p] = p.1 := by simp [contM]
theorem contM_cons (p : Pt) (m : List Pt) : contM (p :: m) = p.1 ++ contM m := by simp [contM]
theorem contM_full (m : List Pt) : contM (fullM m) = contM m := by
  induction m with
  | nil => rfl
  | cons p m ih =>
    rw [show p :: m = [p] ++ m from rfl, fullM_append, contM_append, contM_append, ih]
    by_cases h : p.1 = []
    · rw [fullM_none h]; simp [contM, h]
    · rw [fullM_one h]
theorem volM_append (a b : List Pt) : volM (a ++ b) = volM a + volM b := by simp [volM]
theorem volM_full (m : List Pt) : volM (fullM m) = volM m := by
  unfold volM fullM
  rw [List.filter_filter]
  congr 1
  apply List.filter_congr
  intro p _
  cases p.1.isEmpty <;> simp
theorem volM_one (p : Pt) : volM [p] = if (!p.2 && !p.1.isEmpty) = true then 1 else 0 := by
  unfold volM
  rw [List.filter_cons]
  split <;> rfl
theorem holdM_len : ∀ (m : List Pt) (k : List Bool), (holdM m k).length = m.length
  | [], _ => rfl
  | p :: m, k => by
    unfold holdM
    split
    · rw [List.length_cons, List.length_cons, holdM_len m]
    · cases k with
      | nil => simp only [List.length_cons, holdM_len m]
      | cons b k => simp only [List.length_cons, holdM_len m]
theorem holdM_d {p : Pt} {m : List Pt} {k : List Bool} (h : p.2 = true) : holdM (p :: m) k = p :: holdM m k := by rw [holdM.eq_def]; simp only; rw [if_pos h]
theorem holdM_none {p : Pt} {m : List Pt} (h : ¬ p.2 = true) : holdM (p :: m) [] = p :: holdM m [] := by rw [holdM.eq_def]; simp only; rw [if_neg h]
theorem holdM_told {p : Pt} {m : List Pt} {b : Bool} {k : List Bool} (h : ¬ p.2 = true) : holdM (p :: m) (b :: k) = (p.1, b) :: holdM m k := by rw [holdM.eq_def]; simp only; rw [if_neg h]
theorem holdM_snoc : ∀ (m : List Pt) (k : List Bool) (p : Pt), (∀ q ∈ m, q.1 ≠ []) → holdM (m ++ [p]) k = holdM m k ++ [if p.2 = true then p else (p.1, (k[volM m]?).getD false)]
  | [], k, p, _ => by
    obtain ⟨b, d⟩ := p
    cases d <;> cases k <;> simp [holdM, volM]
  | q :: m, k, p, h => by
    have ih := fun k => holdM_snoc m k p (fun x hx => h x (by simp [hx]))
    have hq : q.1.isEmpty = false := by
      have := h q (by simp)
      cases hq : q.1 <;> simp_all
    have hv : volM (q :: m) = (if q.2 = true then 0 else 1) + volM m := by
      rw [show q :: m = [q] ++ m from rfl, volM_append, volM_one, hq]
      cases q.2 <;> simp
    rw [List.cons_append, hv]
    by_cases hd : q.2 = true
    · rw [holdM_d hd, holdM_d hd, if_pos hd, ih, Nat.zero_add]
      rfl
    · rw [if_neg hd]
      cases k with
      | nil => rw [holdM_none hd, holdM_none hd, ih]; simp
      | cons b k =>
        rw [holdM_told hd, holdM_told hd, ih, Nat.add_comm 1, List.getElem?_cons_succ]
        rfl
theorem holdM_get {m : List Pt} : ∀ {k : List Bool} {j : Nat} {p : Pt}, m[j]? = some p → ∃ d, (holdM m k)[j]? = some (p.1, d) ∧ (p.2 = true → d = true) := by
  induction m with
  | nil => intro k j p h; simp at h
  | cons q m ih =>
    intro k j p h
    cases j with
    | zero =>
      simp only [List.getElem?_cons_zero, Option.some.injEq] at h
      subst h
      unfold holdM
      by_cases hd : q.2 = true
      · rw [if_pos hd]
        exact ⟨q.2, by simp, fun h => h⟩
      · rw [if_neg hd]
        cases k with
        | nil => exact ⟨q.2, by simp, fun h => absurd h hd⟩
        | cons b k => exact ⟨b, by simp, fun h => absurd h hd⟩
    | succ j =>
      simp only [List.getElem?_cons_succ] at h
      unfold holdM
      by_cases hd : q.2 = true
      · rw [if_pos hd]
        exact ih h
      · rw [if_neg hd]
        cases k with
        | nil => exact ih h
        | cons b k => exact ih h
theorem endM_le : ∀ m : List Pt, endM m ≤ m.length
  | [] => Nat.le_refl _
  | p :: m => by
    have := endM_le m
    unfold endM
    rw [List.length_cons]
    split
    · split <;> omega
    · omega
theorem endM_snoc (m : List Pt) (p : Pt) : endM (m ++ [p]) = if p.2 = true then m.length + 1 else endM m := by
  induction m with
  | nil => simp [endM]
  | cons q m ih =>
    rw [List.cons_append, endM, ih]
    by_cases h : p.2 = true
    · rw [if_pos h, if_pos h, if_neg (by omega), List.length_cons]
    · rw [if_neg h, if_neg h, endM]
/-- No durable part stands behind the end. -/
theorem endM_back {m : List Pt} {n : Nat} {p : Pt} (h : endM (m.take (n + 1)) = endM m) (hp : m[n]? = some p) (hd : p.2 = false) : endM (m.take n) = endM m := by
  rw [← h, List.take_add_one, hp]
  simp only [Option.toList_some]
  rw [endM_snoc, if_neg (by rw [hd]; simp)]
theorem endM_here {m : List Pt} {n : Nat} {p : Pt} (h : endM (m.take (n + 1)) = endM m) (hp : m[n]? = some p) (hd : p.2 = true) : endM m = n + 1 := by
  rw [← h, List.take_add_one, hp]
  simp only [Option.toList_some]
  have hn := (List.getElem?_eq_some_iff.1 hp).1
  rw [endM_snoc, if_pos hd, List.length_take]
  omega
theorem endM_zero {m : List Pt} (h : endM (m.take 0) = endM m) : endM m = 0 := by
  rw [← h]
  simp [endM]
theorem endM_at {m : List Pt} {n : Nat} {p : Pt} (hp : m[n]? = some p) (hd : p.2 = true) : n + 1 ≤ endM m := by
  induction m generalizing n with
  | nil => simp at hp
  | cons q m ih =>
    unfold endM
    cases n with
    | zero =>
      simp only [List.getElem?_cons_zero, Option.some.injEq] at hp
      subst hp
      rw [if_pos hd]
      split <;> omega
    | succ n =>
      have := ih (n := n) (by simpa using hp)
      rw [if_neg (by omega)]
      omega
theorem fillP_len (p : Pt) : (fillP p).1.length = p.1.length := by
  unfold fillP
  split
  · rfl
  · exact noughts_len _
theorem map_snoc_take {α β : Type} {l : List α} {k : Nat} {x : α} (f : α → β) (h : Hid (l[k]? = some x)) : (l.take (k + 1)).map f = (l.take k).map f ++ [f x] := by
  rw [take_snoc h, List.map_append]
  rfl
theorem contM_hold (m : List Pt) (k : List Bool) : contM (holdM m k) = contM m := by
  induction m generalizing k with
  | nil => rfl
  | cons p m ih =>
    unfold holdM
    split
    · rw [contM_cons, contM_cons, ih]
    · cases k with
      | nil => simp only [contM_cons, ih]
      | cons b k => simp only [contM_cons, ih]
/-- Noughts alone are another. -/
def Nought (a b : List UInt8) : Prop := a.length ≤ b.length ∧ ∀ (i : Nat) (x y : UInt8), a[i]? = some x → b[i]? = some y → x = y ∨ x = 0
theorem Nought.refl (a : List UInt8) : Nought a a := ⟨Nat.le_refl _, fun i x y hx hy => .inl (by rw [hx] at hy; injection hy)⟩
theorem Nought.nil (b : List UInt8) : Nought [] b := ⟨Nat.zero_le _, fun i x y hx _ => by simp at hx⟩
theorem Nought.append {a b c d : List UInt8} (h : a.length = b.length) (h1 : Nought a b) (h2 : Nought c d) : Nought (a ++ c) (b ++ d) := by
  refine ⟨by rw [List.length_append, List.length_append]; have := h2.1; omega, fun i x y hx hy => ?_⟩
  by_cases hi : i < a.length
  · rw [List.getElem?_append_left hi] at hx
    rw [List.getElem?_append_left (by omega)] at hy
    exact h1.2 i x y hx hy
  · rw [List.getElem?_append_right (by omega)] at hx
    rw [List.getElem?_append_right (by omega), ← h] at hy
    exact h2.2 _ x y hx hy
theorem Nought.fill (b : List UInt8) : Nought (noughts b.length) b := by
  refine ⟨by rw [noughts_len]; exact Nat.le_refl _, fun i x y hx _ => .inr ?_⟩
  unfold noughts at hx
  rw [List.getElem?_replicate] at hx
  split at hx
  · injection hx with hx; exact hx.symm
  · cases hx
theorem fill_nought (p : Pt) : Nought (fillP p).1 p.1 := by
  unfold fillP
  split
  · exact .refl _
  · exact .fill _
theorem failH_nought (h : List Pt) (n : Nat) : Nought (contM ((h.take n).map fillP)) (contM h) := by
  induction h generalizing n with
  | nil => simp [contM]; exact .nil _
  | cons p h ih =>
    cases n with
    | zero => exact .nil _
    | succ n =>
      rw [List.take_succ_cons, List.map_cons, contM_cons, contM_cons]
      exact .append (fillP_len p) (fill_nought p) (ih n)
/-- A failure leaves a beginning of the content, but for noughts. -/
theorem failM_nought (m : List Pt) (k : List Bool) : Nought (contM (failM m k)) (contM m) := by
  have := failH_nought (holdM (fullM m) k) (endM (holdM (fullM m) k))
  rw [contM_hold, contM_full] at this
  exact this
theorem failM_durable {m : List Pt} {k : List Bool} {p : Pt} (h : p ∈ failM m k) : p.2 = true := by
  unfold failM failH at h
  rw [List.mem_map] at h
  obtain ⟨q, _, rfl⟩ := h
  rfl
/-- What is durable stays: a beginning whose parts are durable. -/
theorem failM_keeps {m : List Pt} {k : List Bool} {j : Nat} (hf : ∀ p ∈ m, p.1 ≠ []) (hd : ∀ p ∈ m.take j, p.2 = true) : contM (m.take j) <+: contM (failM m k) := by
  unfold failM
  rw [fullM_id hf]
  have hh : (holdM m k).take j = m.take j := by
    apply List.ext_getElem?
    intro i
    rw [List.getElem?_take, List.getElem?_take]
    split
    · rename_i hij
      cases hm : m[i]? with
      | none =>
        rw [List.getElem?_eq_none_iff] at hm ⊢
        rw [holdM_len]
        exact hm
      | some p =>
        obtain ⟨d, h1, h2⟩ := holdM_get (k := k) hm
        have hp : p.2 = true := hd p (List.mem_of_getElem? (i := i) (by rw [List.getElem?_take, if_pos hij]; exact hm))
        rw [h1, h2 hp, ← hp]
    · rfl
  have hle : min j m.length ≤ endM (holdM m k) := by
    rcases Nat.eq_zero_or_pos (min j m.length) with h0 | h0
    · omega
    · obtain ⟨n, hn⟩ : ∃ n, min j m.length = n + 1 := ⟨min j m.length - 1, by omega⟩
      have hnl : n < m.length := by omega
      obtain ⟨d, h1, h2⟩ := holdM_get (k := k) (List.getElem?_eq_getElem hnl)
      have hp : (m[n]).2 = true := hd _ (List.mem_of_getElem? (i := n) (by rw [List.getElem?_take, if_pos (by omega)]; exact List.getElem?_eq_getElem hnl))
      have := endM_at h1 (h2 hp)
      omega
  have hj : m.take j = (holdM m k).take (min j m.length) := by
    rw [← hh]
    rcases Nat.le_total j m.length with h | h
    · rw [Nat.min_eq_left h]
    · rw [Nat.min_eq_right h, List.take_of_length_le (by rw [holdM_len]; exact h), List.take_of_length_le (by rw [holdM_len]; exact Nat.le_refl _)]
  have hjd : ∀ p ∈ (holdM m k).take (min j m.length), p.2 = true := by rw [← hj]; exact hd
  have hfi : ((holdM m k).take (min j m.length)).map fillP = (holdM m k).take (min j m.length) := by
    conv => rhs; rw [← List.map_id ((holdM m k).take (min j m.length))]
    apply List.map_congr_left
    intro p hp
    have := hjd p hp
    unfold fillP
    rw [if_pos this]
    obtain ⟨b, d⟩ := p
    simp only at this
    subst this
    rfl
  rw [hj]
  unfold failH
  obtain ⟨x, hx⟩ : ∃ x, endM (holdM m k) = min j m.length + x := ⟨endM (holdM m k) - min j m.length, by omega⟩
  rw [hx, List.take_add, List.map_append, hfi, contM_append]
  exact List.prefix_append _ _
end Go.Proofs.YtbhmnmmockmibaaGreatDoor
