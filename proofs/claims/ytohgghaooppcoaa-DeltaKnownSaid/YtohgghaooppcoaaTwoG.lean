/- Two new variables of some cells each, made and filled in a region that draws its order (TwoF, of any type). Conditions: none. -/
import Derived.Test.YtohgghaooppcoaaFull
namespace Go.Proofs.Ytohgghaooppcoaa
open Go.RowKit Go.Lib

theorem below_setRowA {B : Nat} {a w : World} (h : Below B a w) {g : Nat} (hg : B ≤ g) (cs : Array Value) : Below B a (w.setRow g cs) :=
  ⟨h.os, h.tape, h.output, by rw [size_setRow]; exact h.size, fun k hk => (setRow_other w g k cs (by omega)).trans (h.block k hk)⟩
theorem below_newA (w : World) (x : Obj) : Below w.heap.size w (w.alloc x) := (Below.refl _ w).alloc (Nat.le_refl _) x
def HalfA (W0 : World) (T : TypeId) (Z x : Array Value) (i1 i3 d1 : Nat) (L : Array Bool) (b : Act) (w : World) : Prop :=
  L.getD i1 false = true → ∃ g, b.tmps.getD d1 undef = .pointer (some ⟨g, 0, none⟩) ∧ W0.heap.size ≤ g ∧ w.heap[g]? = some (.cells (if L.getD i3 false = true then x else Z) T (0, 0))
structure KnA (W0 : World) (T : TypeId) (Z x y : Array Value) (i1 i2 i3 i4 d1 d2 : Nat) (L : Array Bool) (b : Act) (w : World) : Prop where
  below : Below W0.heap.size W0 w
  one : HalfA W0 T Z x i1 i3 d1 L b w
  two : HalfA W0 T Z y i2 i4 d2 L b w
  ne : L.getD i1 false = true → L.getD i2 false = true → b.tmps.getD d1 undef ≠ b.tmps.getD d2 undef
theorem KnA.symm {W0 : World} {T : TypeId} {Z x y : Array Value} {i1 i2 i3 i4 d1 d2 : Nat} {L : Array Bool} {b : Act} {w : World} (h : KnA W0 T Z x y i1 i2 i3 i4 d1 d2 L b w) : KnA W0 T Z y x i2 i1 i4 i3 d2 d1 L b w := ⟨h.below, h.two, h.one, fun h1 h2 => (h.ne h2 h1).symm⟩

section
variable {P : Program} {Q : Exit → Act → World → Prop} {F : Nat → Value → World → Prop} {W0 : World} {T : TypeId} {Z x y : Array Value} {i1 i2 i3 i4 d1 d2 n : Nat} {ops : List Oper} {a : Act} {i : Nat} {o : Oper}
theorem OpFu.swapA (h : OpFu P Q F (KnA W0 T Z y x i2 i1 i4 i3 d2 d1) n ops a i o) : OpFu P Q F (KnA W0 T Z x y i1 i2 i3 i4 d1 d2) n ops a i o := by
  intro L b w h1 h2 h3 h4 h5 h6 h7 hC hg
  obtain ⟨hw, hwp⟩ := h L b w h1 h2 h3 h4 h5 h6 h7 hC.symm hg
  exact ⟨hw, Oper.wp_mono (fun b' w' ⟨v, e, hc, r⟩ => ⟨v, e, hc.symm, r⟩) hwp⟩
theorem KnA.start {L : Array Bool} {b : Act} {w : World} (hL : ∀ j, L.getD j false = false) (hb : Below W0.heap.size W0 w) : KnA W0 T Z x y i1 i2 i3 i4 d1 d2 L b w :=
  ⟨hb, fun h => (by rw [hL] at h; cases h), fun h => (by rw [hL] at h; cases h), fun h => (by rw [hL] at h; cases h)⟩
/-- An operation that reads only. -/
theorem OpFu.readA (hi : i ≠ i1 ∧ i ≠ i2 ∧ i ≠ i3 ∧ i ≠ i4) {d : Nat} (hd : o.dst = some d) (hdn : d ≠ d1 ∧ d ≠ d2 ∧ d < n) (h : ∀ (b : Act) (w : World), (∀ t, isDst ops t = false → b.tmps.getD t undef = a.tmps.getD t undef) → Below W0.heap.size W0 w →
      (∀ e ∈ o.after.toList, Region.binds .any e = true → ∀ oj d, ops[e.on]? = some oj → oj.dst = some d → F e.on (b.tmps.getD d undef) w) →
      Region.wanted o (yielded ops.toArray b.tmps) = true ∧ ∃ v, (execOp b.eval o).run P w = .ok (.value v) w ∧ F i v w) : OpFu P Q F (KnA W0 T Z x y i1 i2 i3 i4 d1 d2) n ops a i o := by
  intro L b w hL hlt _ _ _ hsm hsz hC hg
  obtain ⟨hw, v, hr, hf⟩ := h b w hsm hC.below hg
  refine ⟨hw, ?_⟩
  unfold Oper.wp
  rw [hr, Oper.upon_value]
  have hset : ∀ j, j = i1 ∨ j = i2 ∨ j = i3 ∨ j = i4 → (L.setIfInBounds i true).getD j false = L.getD j false := by
    intro j hj
    rw [getD_set (by omega), decide_eq_false (by omega), Bool.false_or]
  have hdlt : d < b.tmps.size := by rw [hsz]; exact hdn.2.2
  have e1 : (b.put o.dst v).tmps.getD d1 undef = b.tmps.getD d1 undef := by rw [hd, getD_put b d d1 v hdlt, if_neg hdn.1]
  have e2 : (b.put o.dst v).tmps.getD d2 undef = b.tmps.getD d2 undef := by rw [hd, getD_put b d d2 v hdlt, if_neg hdn.2.1]
  refine ⟨v, rfl, ⟨hC.below, ?_, ?_, ?_⟩, fun _ => hf, fun _ _ h => h⟩
  · unfold HalfA
    rw [hset i1 (by simp), hset i3 (by simp), e1]
    exact hC.one
  · unfold HalfA
    rw [hset i2 (by simp), hset i4 (by simp), e2]
    exact hC.two
  · rw [hset i1 (by simp), hset i2 (by simp), e1, e2]
    exact hC.ne
/-- The first variable is made. -/
theorem OpFu.makeA (h12 : i1 ≠ i2) (h13 : i1 ≠ i3) (h14 : i1 ≠ i4) (hd : o.dst = some d1) (hne : d1 ≠ d2) (hdn : d1 < n) (hgd : o.guard = none) (hno : ∀ L : Array Bool, Closed ops L → L.getD i1 false = false → L.getD i3 false = false) (hF : ∀ v w, F i1 v w) (hK : ∀ j u w w', F j u w → F j u w')
    (hrun : ∀ (b : Act) (w : World), (execOp b.eval o).run P w = .ok (.value (.pointer (some ⟨w.heap.size, 0, none⟩))) (w.alloc (.cells Z T))) : OpFu P Q F (KnA W0 T Z x y i1 i2 i3 i4 d1 d2) n ops a i1 o := by
  intro L b w hL hlt hcl hni _ _ hsz hC _
  refine ⟨by simp [Region.wanted, hgd], ?_⟩
  unfold Oper.wp
  rw [hrun, Oper.upon_value]
  have hdlt : d1 < b.tmps.size := by rw [hsz]; exact hdn
  have e1 : (b.put o.dst (.pointer (some ⟨w.heap.size, 0, none⟩))).tmps.getD d1 undef = .pointer (some ⟨w.heap.size, 0, none⟩) := by rw [hd, getD_put b d1 d1 _ hdlt, if_pos rfl]
  have e2 : (b.put o.dst (.pointer (some ⟨w.heap.size, 0, none⟩))).tmps.getD d2 undef = b.tmps.getD d2 undef := by rw [hd, getD_put b d1 d2 _ hdlt, if_neg hne]
  have s2 : (L.setIfInBounds i1 true).getD i2 false = L.getD i2 false := by rw [getD_set (by omega), decide_eq_false h12, Bool.false_or]
  have s3 : (L.setIfInBounds i1 true).getD i3 false = false := by rw [getD_set (by omega), decide_eq_false h13, Bool.false_or]; exact hno L hcl hni
  have s4 : (L.setIfInBounds i1 true).getD i4 false = L.getD i4 false := by rw [getD_set (by omega), decide_eq_false h14, Bool.false_or]
  refine ⟨_, rfl, ⟨hC.below.alloc hC.below.size _, ?_, ?_, ?_⟩, fun _ => hF _ _, fun j u hj => hK j u _ _ hj⟩
  · intro _
    refine ⟨w.heap.size, e1, hC.below.size, ?_⟩
    rw [s3]
    exact heap_alloc_new w _
  · unfold HalfA
    rw [s2, s4, e2]
    intro h2
    obtain ⟨g, hg, hB, hh⟩ := hC.two h2
    exact ⟨g, hg, hB, ((below_newA w _).block g (Array.getElem?_eq_some_iff.1 hh).1).trans hh⟩
  · rw [s2, e1, e2]
    intro _ h2 he
    obtain ⟨g, hg, _, hh⟩ := hC.two h2
    rw [hg] at he
    have := (Array.getElem?_eq_some_iff.1 hh).1
    simp only [Value.pointer.injEq, Option.some.injEq, Addr.mk.injEq] at he
    omega
/-- The first variable is filled. -/
theorem OpFu.fillA (h12 : i3 ≠ i1) (h13 : i3 ≠ i2) (h14 : i3 ≠ i4) (hd : o.dst = none) (hgd : o.guard = none) {ty : TypeId} {yo : Operand} (ho : o.op = .store ty (.tmp d1) yo) (hi : (P.info? ty).map (·.size) = some x.size) (hZ : Z.size = x.size) (h1 : x.all (·.oneCell') = true) (hK : ∀ j u w w', F j u w → F j u w')
    (hl : ∀ L : Array Bool, (∀ e ∈ o.after.toList, Region.binds .any e = true → L.getD e.on false = true) → L.getD i1 false = true ∧ L.getD i2 false = true)
    (hv : ∀ (b : Act) (w : World), (∀ e ∈ o.after.toList, Region.binds .any e = true → ∀ oj d, ops[e.on]? = some oj → oj.dst = some d → F e.on (b.tmps.getD d undef) w) → b.eval yo = .agg x) : OpFu P Q F (KnA W0 T Z x y i1 i2 i3 i4 d1 d2) n ops a i3 o := by
  intro L b w hL hlt _ hni hdep _ _ hC hg
  refine ⟨by simp [Region.wanted, hgd], ?_⟩
  obtain ⟨l1, l2⟩ := hl L hdep
  obtain ⟨g, eg, hB, hh⟩ := hC.one l1
  obtain ⟨h, eh, hB2, hh2⟩ := hC.two l2
  have hgh : h ≠ g := by
    rintro rfl
    exact hC.ne l1 l2 (eg.trans eh.symm)
  rw [hni] at hh
  refine wp_store_row ty (.tmp d1) yo ho g x eg (hv b w hg) T Z hh hi hZ h1 ?_
  have s1 : (L.setIfInBounds i3 true).getD i1 false = L.getD i1 false := by rw [getD_set (by omega), decide_eq_false h12, Bool.false_or]
  have s2 : (L.setIfInBounds i3 true).getD i2 false = L.getD i2 false := by rw [getD_set (by omega), decide_eq_false h13, Bool.false_or]
  have s3 : (L.setIfInBounds i3 true).getD i3 false = true := by rw [getD_set (by omega), decide_eq_true rfl, Bool.true_or]
  have s4 : (L.setIfInBounds i3 true).getD i4 false = L.getD i4 false := by rw [getD_set (by omega), decide_eq_false h14, Bool.false_or]
  have eb : ∀ v, b.put o.dst v = b := by rw [hd]; intro v; rfl
  refine ⟨undef, rfl, ⟨below_setRowA hC.below hB _, ?_, ?_, ?_⟩, fun hsome => (by rw [hd] at hsome; cases hsome), fun j u hj => hK j u _ _ hj⟩
  · rw [eb]
    intro _
    refine ⟨g, eg, hB, ?_⟩
    rw [s3]
    exact setRow_heap _ _ _ _ _ _ hh
  · rw [eb]
    intro _
    refine ⟨h, eh, hB2, ?_⟩
    rw [s4, setRow_other w g h _ hgh]
    exact hh2
  · rw [eb, s1, s2]
    exact hC.ne
theorem KnA.both {L : Array Bool} {b : Act} {w : World} (h : KnA W0 T Z x y i1 i2 i3 i4 d1 d2 L b w) (h1 : L.getD i1 false = true) (h2 : L.getD i2 false = true) (h3 : L.getD i3 false = true) (h4 : L.getD i4 false = true) :
    ∃ p q, b.tmps.getD d1 undef = .pointer (some ⟨p, 0, none⟩) ∧ b.tmps.getD d2 undef = .pointer (some ⟨q, 0, none⟩) ∧ w.heap[p]? = some (.cells x T (0, 0)) ∧ w.heap[q]? = some (.cells y T (0, 0)) ∧ W0.heap.size ≤ p ∧ W0.heap.size ≤ q := by
  obtain ⟨p, ep, bp, hp⟩ := h.one h1
  obtain ⟨q, eq, bq, hq⟩ := h.two h2
  rw [h3] at hp
  rw [h4] at hq
  exact ⟨p, q, ep, eq, hp, hq, bp, bq⟩
end
end Go.Proofs.Ytohgghaooppcoaa
