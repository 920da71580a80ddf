/- Any new variables, made and filled in a region that draws its order. Conditions: none. -/
import Derived.Test.YtnlcohijopokjaaFull
namespace Go.Proofs.Ytnlcohijopokjaa
open Go.RowKit

/-- A variable: the place of what makes it, of what fills it, its slot, what it holds at last. -/
structure NewVar where
  i : Nat
  s : Nat
  d : Nat
  x : Array Value
structure KnL (W0 : World) (T : TypeId) (Z : Array Value) (D : List NewVar) (L : Array Bool) (b : Act) (w : World) : Prop where
  below : Below W0.heap.size W0 w
  has : ∀ e ∈ D, L.getD e.i false = true → ∃ g, b.tmps.getD e.d undef = .pointer (some ⟨g, 0, none⟩) ∧ W0.heap.size ≤ g ∧ w.heap[g]? = some (.cells (if L.getD e.s false = true then e.x else Z) T (0, 0))
  ne : ∀ e ∈ D, ∀ e' ∈ D, e.i ≠ e'.i → L.getD e.i false = true → L.getD e'.i false = true → b.tmps.getD e.d undef ≠ b.tmps.getD e'.d undef
/-- No two places, no two slots are one. -/
structure Keys (D : List NewVar) : Prop where
  one : ∀ e ∈ D, ∀ e' ∈ D, e.i = e'.i ∨ e.s = e'.s ∨ e.d = e'.d → e = e'
  two : ∀ e ∈ D, ∀ e' ∈ D, e.i ≠ e'.s
section
variable {P : Program} {Q : Exit → Act → World → Prop} {F : Nat → Value → World → Prop} {W0 : World} {T : TypeId} {Z : Array Value} {D : List NewVar} {n : Nat} {ops : List Oper} {a : Act} {i : Nat} {o : Oper}
theorem KnL.start {L : Array Bool} {b : Act} {w : World} (hL : ∀ j, L.getD j false = false) (hb : Below W0.heap.size W0 w) : KnL W0 T Z D L b w :=
  ⟨hb, fun e _ h => (by rw [hL] at h; cases h), fun e _ e' _ _ h => (by rw [hL] at h; cases h)⟩
theorem OpFu.readL {d : Nat} (hD : ∀ e ∈ D, i ≠ e.i ∧ i ≠ e.s ∧ d ≠ e.d) (hd : o.dst = some d) (hdn : d < n) (h : ∀ (b : Act) (w : World), (∀ t, isDst ops t = false → b.tmps.getD t undef = a.tmps.getD t undef) → Below W0.heap.size W0 w →
      (∀ e ∈ o.after.toList, Region.binds .any e = true → ∀ oj d, ops[e.on]? = some oj → oj.dst = some d → F e.on (b.tmps.getD d undef) w) →
      Region.wanted o (yielded ops.toArray b.tmps) = true ∧ ∃ v, (execOp b.eval o).run P w = .ok (.value v) w ∧ F i v w) : OpFu P Q F (KnL W0 T Z D) n ops a i o := by
  intro L b w hL hlt _ _ _ hsm hsz hC hg
  obtain ⟨hw, v, hr, hf⟩ := h b w hsm hC.below hg
  refine ⟨hw, ?_⟩
  unfold Oper.wp
  rw [hr, Oper.upon_value]
  have hset : ∀ j, i ≠ j → (L.setIfInBounds i true).getD j false = L.getD j false := by
    intro j hj
    rw [getD_set (by omega), decide_eq_false hj, Bool.false_or]
  have hdlt : d < b.tmps.size := by rw [hsz]; exact hdn
  have hb : ∀ e ∈ D, (b.put o.dst v).tmps.getD e.d undef = b.tmps.getD e.d undef := by
    intro e he
    rw [hd, getD_put b d e.d v hdlt, if_neg (hD e he).2.2]
  refine ⟨v, rfl, ⟨hC.below, ?_, ?_⟩, fun _ => hf, fun _ _ h => h⟩
  · intro e he
    rw [hset _ (hD e he).1, hset _ (hD e he).2.1, hb e he]
    exact hC.has e he
  · intro e he e' he'
    rw [hset _ (hD e he).1, hset _ (hD e' he').1, hb e he, hb e' he']
    exact hC.ne e he e' he'
theorem OpFu.makeL (hk : Keys D) {v : NewVar} (hv : v ∈ D) (hi : i = v.i) (hd : o.dst = some v.d) (hdn : v.d < n) (hgd : o.guard = none) (hno : ∀ L : Array Bool, Closed ops L → L.getD i false = false → L.getD v.s false = false) (hF : ∀ v w, F i v w) (hK : ∀ j u w w', F j u w → F j u w')
    (hrun : ∀ (b : Act) (w : World), (execOp b.eval o).run P w = .ok (.value (.pointer (some ⟨w.heap.size, 0, none⟩))) (w.alloc (.cells Z T))) : OpFu P Q F (KnL W0 T Z D) n ops a i o := by
  subst hi
  intro L b w hL hlt hcl hni _ _ hsz hC _
  refine ⟨by simp [Region.wanted, hgd], ?_⟩
  unfold Oper.wp
  rw [hrun, Oper.upon_value]
  have hdlt : v.d < b.tmps.size := by rw [hsz]; exact hdn
  have hb : ∀ e ∈ D, e.d = v.d ∨ (b.put o.dst (.pointer (some ⟨w.heap.size, 0, none⟩))).tmps.getD e.d undef = b.tmps.getD e.d undef := by
    intro e he
    by_cases h : e.d = v.d
    · exact .inl h
    · right
      rw [hd, getD_put b v.d e.d _ hdlt, if_neg (Ne.symm h)]
  have hbv : (b.put o.dst (.pointer (some ⟨w.heap.size, 0, none⟩))).tmps.getD v.d undef = .pointer (some ⟨w.heap.size, 0, none⟩) := by rw [hd, getD_put b v.d v.d _ hdlt, if_pos rfl]
  have hs : ∀ e ∈ D, (L.setIfInBounds v.i true).getD e.s false = L.getD e.s false := by
    intro e he
    rw [getD_set (by omega), decide_eq_false (hk.two v hv e he), Bool.false_or]
  have hold : ∀ e ∈ D, e ≠ v → (L.setIfInBounds v.i true).getD e.i false = L.getD e.i false ∧ (b.put o.dst (.pointer (some ⟨w.heap.size, 0, none⟩))).tmps.getD e.d undef = b.tmps.getD e.d undef := by
    intro e he hne
    refine ⟨?_, (hb e he).resolve_left fun h => hne (hk.one e he v hv (.inr (.inr h)))⟩
    rw [getD_set (by omega), decide_eq_false (fun h => hne (hk.one e he v hv (.inl h.symm))), Bool.false_or]
  have hlt' : ∀ e ∈ D, e ≠ v → (L.setIfInBounds v.i true).getD e.i false = true → ∃ g, (b.put o.dst (.pointer (some ⟨w.heap.size, 0, none⟩))).tmps.getD e.d undef = .pointer (some ⟨g, 0, none⟩) ∧ g < w.heap.size := by
    intro e he hne h
    obtain ⟨h1, h2⟩ := hold e he hne
    rw [h1] at h
    obtain ⟨g, hg, _, hh⟩ := hC.has e he h
    exact ⟨g, h2.trans hg, (Array.getElem?_eq_some_iff.1 hh).1⟩
  refine ⟨_, rfl, ⟨hC.below.alloc hC.below.size _, ?_, ?_⟩, fun _ => hF _ _, fun j u hj => hK j u _ _ hj⟩
  · intro e he h
    rw [hs e he]
    by_cases hev : e = v
    · subst hev
      refine ⟨w.heap.size, hbv, hC.below.size, ?_⟩
      rw [hno L hcl hni]
      exact heap_alloc_new w _
    · obtain ⟨h1, h2⟩ := hold e he hev
      rw [h1] at h
      obtain ⟨g, hg, hB, hh⟩ := hC.has e he h
      exact ⟨g, h2.trans hg, hB, (heap_alloc_old w _ (Array.getElem?_eq_some_iff.1 hh).1).trans hh⟩
  · intro e he e' he' hne h h' heq
    by_cases hev : e = v
    · by_cases hev' : e' = v
      · rw [hev, hev'] at hne; exact hne rfl
      · obtain ⟨g, hg, hlt2⟩ := hlt' e' he' hev' h'
        rw [hev, hbv, hg] at heq
        simp only [Value.pointer.injEq, Option.some.injEq, Addr.mk.injEq] at heq
        omega
    · by_cases hev' : e' = v
      · obtain ⟨g, hg, hlt2⟩ := hlt' e he hev h
        rw [hev', hbv, hg] at heq
        simp only [Value.pointer.injEq, Option.some.injEq, Addr.mk.injEq] at heq
        omega
      · obtain ⟨h1, h2⟩ := hold e he hev
        obtain ⟨h3, h4⟩ := hold e' he' hev'
        rw [h1] at h
        rw [h3] at h'
        rw [h2, h4] at heq
        exact hC.ne e he e' he' hne h h' heq
theorem OpFu.fillL (hk : Keys D) {v : NewVar} (hv : v ∈ D) (hi : i = v.s) (hd : o.dst = none) (hgd : o.guard = none) {ty : TypeId} {yo : Operand} (ho : o.op = .store ty (.tmp v.d) yo) (hin : (P.info? ty).map (·.size) = some v.x.size) (hZ : Z.size = v.x.size) (h1 : v.x.all (·.oneCell') = true) (hK : ∀ j u w w', F j u w → F j u w')
    (hl : ∀ L : Array Bool, (∀ e ∈ o.after.toList, Region.binds .any e = true → L.getD e.on false = true) → L.getD v.i false = true)
    (hval : ∀ (b : Act) (w : World), (∀ e ∈ o.after.toList, Region.binds .any e = true → ∀ oj d, ops[e.on]? = some oj → oj.dst = some d → F e.on (b.tmps.getD d undef) w) → b.eval yo = .agg v.x) : OpFu P Q F (KnL W0 T Z D) n ops a i o := by
  subst hi
  intro L b w hL hlt _ hni hdep _ _ hC hg
  refine ⟨by simp [Region.wanted, hgd], ?_⟩
  have l1 := hl L hdep
  obtain ⟨g, eg, hB, hh⟩ := hC.has v hv l1
  rw [hni] at hh
  refine wp_store_row ty (.tmp v.d) yo ho g v.x eg (hval b w hg) T Z hh hin hZ h1 ?_
  have hii : ∀ e ∈ D, (L.setIfInBounds v.s true).getD e.i false = L.getD e.i false := by
    intro e he
    rw [getD_set (by omega), decide_eq_false (fun h => hk.two e he v hv h.symm), Bool.false_or]
  have eb : ∀ u, b.put o.dst u = b := by rw [hd]; intro u; rfl
  refine ⟨undef, rfl, ⟨⟨hC.below.os, hC.below.tape, hC.below.output, by rw [size_setRow]; exact hC.below.size, fun k hk' => (setRow_other w g k _ (by omega)).trans (hC.below.block k hk')⟩, ?_, ?_⟩, fun hsome => (by rw [hd] at hsome; cases hsome), fun j u hj => hK j u _ _ hj⟩
  · rw [eb]
    intro e he h
    rw [hii e he] at h
    by_cases hev : e = v
    · subst hev
      refine ⟨g, eg, hB, ?_⟩
      rw [getD_set (by omega), decide_eq_true rfl, Bool.true_or]
      exact setRow_heap _ _ _ _ _ _ hh
    · obtain ⟨g', hg', hB', hh'⟩ := hC.has e he h
      have hne : g' ≠ g := by
        rintro rfl
        exact hC.ne e he v hv (fun h2 => hev (hk.one e he v hv (.inl h2))) h l1 (hg'.trans eg.symm)
      refine ⟨g', hg', hB', ?_⟩
      rw [getD_set (by omega), decide_eq_false (fun h2 => hev (hk.one e he v hv (.inr (.inl h2.symm)))), Bool.false_or, setRow_other w g g' _ hne]
      exact hh'
  · rw [eb]
    intro e he e' he'
    rw [hii e he, hii e' he']
    exact hC.ne e he e' he'
end
end Go.Proofs.Ytnlcohijopokjaa
