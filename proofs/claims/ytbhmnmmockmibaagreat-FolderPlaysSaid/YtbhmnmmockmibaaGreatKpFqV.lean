/- A region that draws its order, with calls, and boxes that are made and filled, of any types: what has been done is told by a state. Conditions: none. A statement that calls the reference's Do, and lays both answers into new boxes, in a region that draws its order: what holds as far as it has come. -/
import Derived.Test.YtbhmnmmockmibaaGreatKpFqS
import Derived.Test.YtbhmnmmockmibaaGreatKpFull
namespace Go.Proofs.YtbhmnmmockmibaaGreat
open Go.RowKit
structure Nv where
  i : Nat
  s : Nat
  d : Nat
  src : Nat
  T : TypeId
  Z : Array Value
abbrev sl (b : Act) : Nat → Value := fun t => b.tmps.getD t undef
def BoxAt (e : Nv) (L : Array Bool) (tm : Nat → Value) (w : World) (g : Nat) : Prop :=
  tm e.d = .pointer (some ⟨g, 0, none⟩) ∧ (L.getD e.s false = true → ∃ xs, tm e.src = .agg xs ∧ w.heap[g]? = some (.cells xs e.T (0, 0))) ∧ (L.getD e.s false = false → w.heap[g]? = some (.cells e.Z e.T (0, 0)))
structure KC (S : Array Bool → (Nat → Prop) → (Nat → Value) → World → Prop) (D : List Nv) (Y : Nat → Prop) (L : Array Bool) (b : Act) (w : World) : Prop where
  st : S L Y (sl b) w
  has : ∀ e ∈ D, L.getD e.i false = true → ∃ g, Y g ∧ g < w.heap.size ∧ BoxAt e L (sl b) w g
  ne : ∀ e ∈ D, ∀ e' ∈ D, e.i ≠ e'.i → L.getD e.i false = true → L.getD e'.i false = true → sl b e.d ≠ sl b e'.d
def KX (S : Array Bool → (Nat → Prop) → (Nat → Value) → World → Prop) (D : List Nv) (L : Array Bool) (b : Act) (w : World) : Prop := ∃ Y, KC S D Y L b w
structure KeyS (D : List Nv) : Prop where
  one : ∀ e ∈ D, ∀ e' ∈ D, e.i = e'.i ∨ e.s = e'.s ∨ e.d = e'.d → e = e'
  two : ∀ e ∈ D, ∀ e' ∈ D, e.i ≠ e'.s ∧ e.d ≠ e'.src
section
variable {P : Program} {Q : Exit → Act → World → Prop} {F : Nat → Value → World → Prop} {S : Array Bool → (Nat → Prop) → (Nat → Value) → World → Prop} {D : List Nv} {n : Nat} {ops : List Oper} {a : Act} {i : Nat} {o : Oper}
theorem KX.start {L : Array Bool} {b : Act} {w : World} (hL : ∀ j, L.getD j false = false) (h : S L (fun _ => False) (sl b) w) : KX S D L b w :=
  ⟨_, h, fun e _ h => (by rw [hL] at h; cases h), fun e _ e' _ _ h => (by rw [hL] at h; cases h)⟩
theorem sl_put {b : Act} {d t : Nat} {v : Value} (hd : d < b.tmps.size) (ht : d ≠ t) : sl (b.put (some d) v) t = sl b t := by
  show (b.put (some d) v).tmps.getD t undef = _
  rw [getD_put b d t v hd, if_neg ht]
theorem sl_here {b : Act} {d : Nat} {v : Value} (hd : d < b.tmps.size) : sl (b.put (some d) v) d = v := by
  show (b.put (some d) v).tmps.getD d undef = _
  rw [getD_put b d d v hd, if_pos rfl]
theorem OpFu.stepS {d : Nat} (hd : o.dst = some d) (hdn : d < n) (hD : ∀ e ∈ D, i ≠ e.i ∧ i ≠ e.s ∧ d ≠ e.d) (hsrc : ∀ e ∈ D, d = e.src → ∀ L : Array Bool, Closed ops L → L.getD i false = false → L.getD e.s false = false)
    (h : ∀ (L : Array Bool) (b : Act) (w : World) (Y : Nat → Prop), L.size = ops.length → Closed ops L → L.getD i false = false → (∀ e ∈ o.after.toList, Region.binds .any e = true → L.getD e.on false = true) → (∀ t, isDst ops t = false → b.tmps.getD t undef = a.tmps.getD t undef) → b.tmps.size = n → S L Y (sl b) w →
      (∀ e ∈ o.after.toList, Region.binds .any e = true → ∀ oj d, ops[e.on]? = some oj → oj.dst = some d → F e.on (b.tmps.getD d undef) w) →
      Region.wanted o (yielded ops.toArray b.tmps) = true ∧
      o.wp P b w (fun b' w' => ∃ v, b' = b.put o.dst v ∧ S (L.setIfInBounds i true) Y (sl b') w' ∧ F i v w' ∧ (∀ j u, F j u w → F j u w') ∧ w.heap.size ≤ w'.heap.size ∧ ∀ k, Y k → k < w.heap.size → w'.heap[k]? = w.heap[k]?) Q) : OpFu P Q F (KX S D) n ops a i o := by
  intro L b w hL hlt hcl hni hdep hsm hsz ⟨Y, hC⟩ hg
  obtain ⟨hw, hwp⟩ := h L b w Y hL hcl hni hdep hsm hsz hC.st hg
  refine ⟨hw, Oper.wp_mono ?_ hwp⟩
  rintro b' w' ⟨v, rfl, hS, hF, hK, hsize, hY⟩
  have hset : ∀ j, i ≠ j → (L.setIfInBounds i true).getD j false = L.getD j false := by
    intro j hj
    rw [getD_set (by omega), decide_eq_false hj, Bool.false_or]
  have hdlt : d < b.tmps.size := by rw [hsz]; exact hdn
  have hsd : ∀ e ∈ D, sl (b.put o.dst v) e.d = sl b e.d := fun e he => by rw [hd]; exact sl_put hdlt (hD e he).2.2
  refine ⟨v, rfl, ⟨Y, hS, fun e he hi => ?_, fun e he e' he' hne hi hi' => ?_⟩, fun _ => hF, hK⟩
  · rw [hset _ (hD e he).1] at hi
    obtain ⟨g, hYg, hlt, h1, h2, h3⟩ := hC.has e he hi
    refine ⟨g, hYg, Nat.lt_of_lt_of_le hlt hsize, (hsd e he).trans h1, fun hs => ?_, fun hs => ?_⟩
    · rw [hset _ (hD e he).2.1] at hs
      obtain ⟨xs, h4, h5⟩ := h2 hs
      refine ⟨xs, ?_, (hY g hYg hlt).trans h5⟩
      rw [hd, sl_put hdlt ?_]
      · exact h4
      · intro hds
        rw [hsrc e he hds L hcl hni] at hs
        cases hs
    · rw [hset _ (hD e he).2.1] at hs
      exact (hY g hYg hlt).trans (h3 hs)
  · rw [hset _ (hD e he).1] at hi
    rw [hset _ (hD e' he').1] at hi'
    rw [hsd e he, hsd e' he']
    exact hC.ne e he e' he' hne hi hi'
theorem OpFu.makeS (hk : KeyS D) {v : Nv} (hv : v ∈ D) (hi : i = v.i) (hd : o.dst = some v.d) (hdn : v.d < n) (hgd : o.guard = none) (hno : ∀ L : Array Bool, Closed ops L → L.getD i false = false → L.getD v.s false = false) (hF : ∀ v w, F i v w) (hK : ∀ j u w w', Below w.heap.size w w' → F j u w → F j u w')
    (hS : ∀ L Y b w, b.tmps.size = n → S L Y (sl b) w → S (L.setIfInBounds i true) (fun k => Y k ∨ k = w.heap.size) (sl (b.put o.dst (.pointer (some ⟨w.heap.size, 0, none⟩)))) (w.alloc (.cells v.Z v.T)))
    (hrun : ∀ (b : Act) (w : World), (execOp b.eval o).run P w = .ok (.value (.pointer (some ⟨w.heap.size, 0, none⟩))) (w.alloc (.cells v.Z v.T))) : OpFu P Q F (KX S D) n ops a i o := by
  subst hi
  intro L b w hL hlt hcl hni _ _ hsz ⟨Y, hC⟩ _
  refine ⟨by simp [Region.wanted, hgd], ?_⟩
  unfold Oper.wp
  rw [hrun, Oper.upon_value]
  have hdlt : v.d < b.tmps.size := by rw [hsz]; exact hdn
  have hset : ∀ j, v.i ≠ j → (L.setIfInBounds v.i true).getD j false = L.getD j false := by
    intro j hj
    rw [getD_set (by omega), decide_eq_false hj, Bool.false_or]
  have hsi : ∀ e ∈ D, e ≠ v → (L.setIfInBounds v.i true).getD e.i false = L.getD e.i false := fun e he hne => hset _ fun h => hne (hk.one e he v hv (.inl h.symm))
  have hss : ∀ e ∈ D, (L.setIfInBounds v.i true).getD e.s false = L.getD e.s false := fun e he => hset _ (hk.two v hv e he).1
  have hsd : ∀ e ∈ D, e ≠ v → sl (b.put o.dst (.pointer (some ⟨w.heap.size, 0, none⟩))) e.d = sl b e.d := fun e he hne => by rw [hd]; exact sl_put hdlt fun h => hne (hk.one e he v hv (.inr (.inr h.symm)))
  have hsr : ∀ e ∈ D, sl (b.put o.dst (.pointer (some ⟨w.heap.size, 0, none⟩))) e.src = sl b e.src := fun e he => by rw [hd]; exact sl_put hdlt (hk.two v hv e he).2
  have hsv : sl (b.put o.dst (.pointer (some ⟨w.heap.size, 0, none⟩))) v.d = .pointer (some ⟨w.heap.size, 0, none⟩) := by rw [hd]; exact sl_here hdlt
  have hold : ∀ e ∈ D, e ≠ v → L.getD e.i false = true → ∃ g, g < w.heap.size ∧ sl b e.d = .pointer (some ⟨g, 0, none⟩) := fun e he _ h => by
    obtain ⟨g, _, hlt, h1, _⟩ := hC.has e he h
    exact ⟨g, hlt, h1⟩
  refine ⟨_, rfl, ⟨_, hS L Y b w hsz hC.st, fun e he hi => ?_, fun e he e' he' hne hi hi' => ?_⟩, fun _ => hF _ _, fun j u hj => hK j u _ _ (below_new _ _) hj⟩
  · by_cases hev : e = v
    · subst hev
      refine ⟨w.heap.size, .inr rfl, by simp, hsv, fun hs => ?_, fun _ => heap_alloc_new w _⟩
      rw [hss e he, hno L hcl hni] at hs
      cases hs
    · rw [hsi e he hev] at hi
      obtain ⟨g, hYg, hlt, h1, h2, h3⟩ := hC.has e he hi
      refine ⟨g, .inl hYg, by simp; omega, (hsd e he hev).trans h1, fun hs => ?_, fun hs => ?_⟩
      · rw [hss e he] at hs
        obtain ⟨xs, h4, h5⟩ := h2 hs
        exact ⟨xs, (hsr e he).trans h4, (heap_alloc_old w _ hlt).trans h5⟩
      · rw [hss e he] at hs
        exact (heap_alloc_old w _ hlt).trans (h3 hs)
  · by_cases hev : e = v
    · by_cases hev' : e' = v
      · rw [hev, hev'] at hne; exact absurd rfl hne
      · rw [hsi e' he' hev'] at hi'
        obtain ⟨g, hlt, hg⟩ := hold e' he' hev' hi'
        rw [hev, hsv, hsd e' he' hev', hg]
        intro heq
        simp only [Value.pointer.injEq, Option.some.injEq, Addr.mk.injEq] at heq
        omega
    · rw [hsi e he hev] at hi
      by_cases hev' : e' = v
      · obtain ⟨g, hlt, hg⟩ := hold e he hev hi
        rw [hev', hsv, hsd e he hev, hg]
        intro heq
        simp only [Value.pointer.injEq, Option.some.injEq, Addr.mk.injEq] at heq
        omega
      · rw [hsi e' he' hev'] at hi'
        rw [hsd e he hev, hsd e' he' hev']
        exact hC.ne e he e' he' hne hi hi'
theorem OpFu.fillS (hk : KeyS D) {v : Nv} (hv : v ∈ D) (hi : i = v.s) (hd : o.dst = none) (hgd : o.guard = none) {ty : TypeId} (ho : o.op = .store ty (.tmp v.d) (.tmp v.src)) (hin : (P.info? ty).map (·.size) = some v.Z.size) (hK : ∀ j u w g xs, F j u w → F j u (w.setRow g xs))
    (hl : ∀ L : Array Bool, (∀ e ∈ o.after.toList, Region.binds .any e = true → L.getD e.on false = true) → L.getD v.i false = true)
    (hS : ∀ L Y tm w g xs, Y g → S L Y tm w → S (L.setIfInBounds i true) Y tm (w.setRow g xs))
    (hval : ∀ (L : Array Bool) (b : Act) (w : World) Y, (∀ e ∈ o.after.toList, Region.binds .any e = true → L.getD e.on false = true) → S L Y (sl b) w → (∀ e ∈ o.after.toList, Region.binds .any e = true → ∀ oj d, ops[e.on]? = some oj → oj.dst = some d → F e.on (b.tmps.getD d undef) w) → ∃ xs, sl b v.src = .agg xs ∧ xs.size = v.Z.size ∧ xs.all (·.oneCell') = true) : OpFu P Q F (KX S D) n ops a i o := by
  subst hi
  intro L b w hL hlt _ hni hdep _ _ ⟨Y, hC⟩ hg
  refine ⟨by simp [Region.wanted, hgd], ?_⟩
  have l1 := hl L hdep
  obtain ⟨g, hYg, hlt2, eg, h2, h3⟩ := hC.has v hv l1
  have hh := h3 hni
  obtain ⟨xs, hxs, hsz, hone⟩ := hval L b w Y hdep hC.st hg
  refine wp_store_row ty (.tmp v.d) (.tmp v.src) ho g xs eg hxs v.T v.Z hh (by rw [hsz]; exact hin) hsz.symm hone ?_
  have hset : ∀ j, v.s ≠ j → (L.setIfInBounds v.s true).getD j false = L.getD j false := by
    intro j hj
    rw [getD_set (by omega), decide_eq_false hj, Bool.false_or]
  have hhere : (L.setIfInBounds v.s true).getD v.s false = true := by
    rw [getD_set (by omega), decide_eq_true rfl, Bool.true_or]
  have hsi : ∀ e ∈ D, (L.setIfInBounds v.s true).getD e.i false = L.getD e.i false := fun e he => hset _ fun h => (hk.two e he v hv).1 h.symm
  have hss : ∀ e ∈ D, e ≠ v → (L.setIfInBounds v.s true).getD e.s false = L.getD e.s false := fun e he hne => hset _ fun h => hne (hk.one e he v hv (.inr (.inl h.symm)))
  have eb : ∀ u, b.put o.dst u = b := by rw [hd]; intro u; rfl
  refine ⟨undef, rfl, ⟨Y, ?_, fun e he hi => ?_, fun e he e' he' hne hi hi' => ?_⟩, fun hsome => (by rw [hd] at hsome; cases hsome), fun j u hj => hK j u _ _ _ hj⟩
  · rw [eb]
    exact hS L Y _ w g xs hYg hC.st
  · rw [eb]
    rw [hsi e he] at hi
    by_cases hev : e = v
    · subst hev
      refine ⟨g, hYg, by rw [size_setRow]; exact hlt2, eg, fun _ => ⟨xs, hxs, setRow_heap _ _ _ _ _ _ hh⟩, fun hs => ?_⟩
      rw [hhere] at hs
      cases hs
    · obtain ⟨g', hYg', hlt', h1, h4, h5⟩ := hC.has e he hi
      have hgg : g' ≠ g := by
        intro e1
        refine hC.ne e he v hv (fun h => hev (hk.one e he v hv (.inl h))) hi l1 ?_
        rw [h1, e1]
        exact eg.symm
      refine ⟨g', hYg', by rw [size_setRow]; exact hlt', h1, fun hs => ?_, fun hs => ?_⟩
      · rw [hss e he hev] at hs
        obtain ⟨ys, h6, h7⟩ := h4 hs
        exact ⟨ys, h6, (setRow_other w g g' _ hgg).trans h7⟩
      · rw [hss e he hev] at hs
        exact (setRow_other w g g' _ hgg).trans (h5 hs)
  · rw [eb]
    rw [hsi e he] at hi
    rw [hsi e' he'] at hi'
    exact hC.ne e he e' he' hne hi hi'
end
end Go.Proofs.YtbhmnmmockmibaaGreat

namespace Go.Proofs.YtbhmnmmockmibaaGreat
open Go.RowKit
section
variable {w w1 w' W : World} {X Y : Nat → Prop} {s : Fo} {v : Value} {e : Int} {ns : List (List UInt8)} {b : List UInt8}
theorem RefF.high (h : RefF w X v s) (hb : Below w.heap.size w w1) : RefF w1 (fun b => X b ∨ w.heap.size ≤ b) v s := by
  obtain ⟨p, e, h⟩ := h
  exact ⟨p, e, h.high hb⟩
theorem ReR.high (h : ReR w X v e ns b) (hb : Below w.heap.size w w1) : ReR w1 (fun b => X b ∨ w.heap.size ≤ b) v e ns b := by
  obtain ⟨A, n, c, A', n', c', h0, h1, h2, h3, h4⟩ := h
  exact ⟨A, n, c, A', n', c', h0, h1, h2.high'.below hb, h3, h4.high'.below hb⟩
theorem RefF.swap {s' : Fo} (h : RefF w X v s) (h1 : s'.d = s.d) (h2 : s'.q = s.q) (h3 : s'.made = s.made) (h4 : rmT s'.fs = rmT s.fs) (h5 : s'.most = s.most) (h6 : s'.tk = s.tk) : RefF w X v s' := by
  obtain ⟨p, e, h⟩ := h
  refine ⟨p, ?_, ?_, ?_, ?_⟩
  · rw [e]
    unfold Rp.cs
    rw [h2, h3, h5, h6]
  · rw [h1]; exact h.d
  · rw [h2, h3, h4]; exact h.t
  · rw [h6]; exact h.g
end
theorem Fo.doC_g {s : Fo} {N : Nat} (hok : s.Ok N) (g g' k : Nat) (n t l : List UInt8) : (s.doC g' k n t l).2 = (s.doC g k n t l).2 ∧ (s.doC g' k n t l).1.d = (s.doC g k n t l).1.d ∧ (s.doC g' k n t l).1.q = (s.doC g k n t l).1.q ∧ (s.doC g' k n t l).1.made = (s.doC g k n t l).1.made ∧ rmT (s.doC g' k n t l).1.fs = rmT (s.doC g k n t l).1.fs ∧ (s.doC g' k n t l).1.most = (s.doC g k n t l).1.most ∧ (s.doC g' k n t l).1.tk = (s.doC g k n t l).1.tk := by
  match k with
  | 1 =>
    show (s.doCreate g' n).2 = (s.doCreate g n).2 ∧ (s.doCreate g' n).1.d = (s.doCreate g n).1.d ∧ (s.doCreate g' n).1.q = (s.doCreate g n).1.q ∧ (s.doCreate g' n).1.made = (s.doCreate g n).1.made ∧ rmT (s.doCreate g' n).1.fs = rmT (s.doCreate g n).1.fs ∧ (s.doCreate g' n).1.most = (s.doCreate g n).1.most ∧ (s.doCreate g' n).1.tk = (s.doCreate g n).1.tk
    have hz : ∀ f ∈ s.fs, f.i ≠ (s.made : Int) + 1 := by
      intro f hf e
      have e2 : f.i ≤ (s.made : Int) := ((tabOk hok).num f hf).2
      omega
    unfold Fo.doCreate
    split
    · unfold Fo.create
      rw [made_eq hz, made_eq hz]
      simp [rmT, rmF]
    · exact ⟨rfl, rfl, rfl, rfl, rfl, rfl, rfl⟩
  | 0 => exact ⟨rfl, rfl, rfl, rfl, rfl, rfl, rfl⟩
  | 2 | 3 | 4 | 5 | 6 | 7 | 8 => exact ⟨rfl, rfl, rfl, rfl, rfl, rfl, rfl⟩
  | j + 9 => exact ⟨rfl, rfl, rfl, rfl, rfl, rfl, rfl⟩
structure Sl where
  c : Nat
  d : Nat
  m : Nat
  x : Nat
  y : Nat
  tc : Nat
  td : Nat
  tm : Nat
  tx : Nat
  ty : Nat
structure S7 (z : Sl) (W : World) (X : Nat → Prop) (k : Int) (n t l : List UInt8) (o : OutF) (L : Array Bool) (Y : Nat → Prop) (tm : Nat → Value) (w : World) : Prop where
  below : Below W.heap.size W w
  box : ∀ g, Y g → W.heap.size ≤ g ∧ g < w.heap.size
  copy : L.getD z.c false = true → ∃ A c, tm z.tc = fcv k n t A l.length c ∧ BsX w Y A l
  done : L.getD z.d false = true → ∃ u r, tm z.td = .tuple #[u, r] ∧ RefF w (fun b => X b ∨ Y b) u o.1 ∧ ReR w (fun b => X b ∨ Y b) r o.2.1 o.2.2.1 o.2.2.2 ∧ (L.getD z.m false = true → tm z.tm = .tuple #[u, r]) ∧ (L.getD z.x false = true → tm z.tx = u) ∧ (L.getD z.y false = true → tm z.ty = r)
section
variable {z : Sl} {W w w' : World} {X Y : Nat → Prop} {k : Int} {n t l : List UInt8} {o : OutF} {L L' : Array Bool} {tm tm' : Nat → Value}
theorem S7.congr (h : S7 z W X k n t l o L Y tm w) (hL : ∀ j ∈ [z.c, z.d, z.m, z.x, z.y], L'.getD j false = L.getD j false) (ht : ∀ j ∈ [z.tc, z.td, z.tm, z.tx, z.ty], tm' j = tm j) : S7 z W X k n t l o L' Y tm' w := by
  refine ⟨h.below, h.box, fun h5 => ?_, fun h6 => ?_⟩
  · rw [hL z.c (by simp)] at h5
    rw [ht z.tc (by simp)]
    exact h.copy h5
  · rw [hL z.d (by simp)] at h6
    obtain ⟨u, r, h1, h2, h3, h4, h7, h8⟩ := h.done h6
    rw [hL z.m (by simp), hL z.x (by simp), hL z.y (by simp), ht z.tm (by simp), ht z.td (by simp), ht z.tx (by simp), ht z.ty (by simp)]
    exact ⟨u, r, h1, h2, h3, h4, h7, h8⟩
theorem S7.new (h : S7 z W X k n t l o L Y tm w) (o' : Obj) : S7 z W X k n t l o L (fun b => Y b ∨ b = w.heap.size) tm (w.alloc o') := by
  have hb := below_new w o'
  have hs := h.below.size
  refine ⟨h.below.alloc h.below.size _, fun g hg => ?_, fun h5 => ?_, fun h6 => ?_⟩
  · rw [World.size_alloc]
    rcases hg with hg | hg
    · have := h.box g hg
      omega
    · omega
  · obtain ⟨A, c, h1, h2⟩ := h.copy h5
    refine ⟨A, c, h1, (h2.high'.below hb).mono fun b _ e => ?_⟩
    rcases e with e | e
    · exact .inl e
    · exact .inr (Nat.le_of_eq e.symm)
  · obtain ⟨u, r, h1, h2, h3, h4⟩ := h.done h6
    refine ⟨u, r, h1, (h2.high hb).mono fun b _ e => ?_, (h3.high hb).mono fun b _ e => ?_, h4⟩
    all_goals
      rcases e with e | e | e
      · exact .inl (.inl e)
      · exact .inl (.inr e)
      · exact .inr (Nat.le_of_eq e.symm)
theorem S7.fill (h : S7 z W X k n t l o L Y tm w) {g : Nat} (hg : Y g) (xs : Array Value) : S7 z W X k n t l o L Y tm (w.setRow g xs) := by
  have ht := Touch.row1 w g xs
  refine ⟨h.below.trans (ht.below h.below.size fun b e => by rw [e]; exact (h.box g hg).1), fun g' hg' => by rw [size_setRow]; exact h.box g' hg', fun h5 => ?_, fun h6 => ?_⟩
  · obtain ⟨A, c, h1, h2⟩ := h.copy h5
    exact ⟨A, c, h1, h2.keep (ht.mono fun b _ e => by rw [e]; exact hg)⟩
  · obtain ⟨u, r, h1, h2, h3, h4⟩ := h.done h6
    exact ⟨u, r, h1, h2.keep (ht.mono fun b _ e => by rw [e]; exact .inr hg), h3.keep (ht.mono fun b _ e => by rw [e]; exact .inr hg), h4⟩
end
section
variable {P : Program} {Q : Exit → Act → World → Prop} {F : Nat → Value → World → Prop} {S : Array Bool → (Nat → Prop) → (Nat → Value) → World → Prop} {D : List Nv} {n : Nat} {ops : List Oper} {a : Act} {i : Nat} {o : Oper}
theorem OpFu.readS {d : Nat} (hd : o.dst = some d) (hdn : d < n) (hD : ∀ e ∈ D, i ≠ e.i ∧ i ≠ e.s ∧ d ≠ e.d) (hsrc : ∀ e ∈ D, d = e.src → ∀ L : Array Bool, Closed ops L → L.getD i false = false → L.getD e.s false = false)
    (h : ∀ (L : Array Bool) (b : Act) (w : World) (Y : Nat → Prop), Closed ops L → L.getD i false = false → i < L.size → b.tmps.size = n → (∀ e ∈ o.after.toList, Region.binds .any e = true → L.getD e.on false = true) → (∀ t, isDst ops t = false → b.tmps.getD t undef = a.tmps.getD t undef) → S L Y (sl b) w →
      (∀ e ∈ o.after.toList, Region.binds .any e = true → ∀ oj d, ops[e.on]? = some oj → oj.dst = some d → F e.on (b.tmps.getD d undef) w) →
      Region.wanted o (yielded ops.toArray b.tmps) = true ∧ ∃ v, (execOp b.eval o).run P w = .ok (.value v) w ∧ F i v w ∧ S (L.setIfInBounds i true) Y (sl (b.put o.dst v)) w) : OpFu P Q F (KX S D) n ops a i o := by
  intro L b w hL hlt
  refine OpFu.stepS hd hdn hD hsrc (fun L b w Y hL hcl hni hdep hsm hsz hS hg => ?_) L b w hL hlt
  obtain ⟨hw, v, hr, hF, hS'⟩ := h L b w Y hcl hni (by omega) hsz hdep hsm hS hg
  refine ⟨hw, ?_⟩
  unfold Oper.wp
  rw [hr, Oper.upon_value]
  exact ⟨v, rfl, hS', hF, fun _ _ h => h, Nat.le_refl _, fun _ _ _ => rfl⟩
end
theorem offL {L : Array Bool} {i : Nat} {js : List Nat} (h : i ∉ js) : ∀ j ∈ js, (L.setIfInBounds i true).getD j false = L.getD j false := fun j hj => by
  rcases Decidable.em (i < L.size) with hi | hi
  · rw [getD_set hi, decide_eq_false (fun e => h (by rw [e]; exact hj)), Bool.false_or]
  · rw [Array.setIfInBounds_eq_of_size_le (by omega)]
theorem onL {L : Array Bool} {i : Nat} (hi : i < L.size) : (L.setIfInBounds i true).getD i false = true := by rw [getD_set hi, decide_eq_true rfl, Bool.true_or]
theorem offT {b : Act} {d : Nat} {v : Value} {n : Nat} {ts : List Nat} (hsz : b.tmps.size = n) (hd : d < n) (h : d ∉ ts) : ∀ j ∈ ts, sl (b.put (some d) v) j = sl b j := fun j hj => sl_put (by omega) fun e => h (by rw [e]; exact hj)
end Go.Proofs.YtbhmnmmockmibaaGreat

namespace Go.Proofs.YtbhmnmmockmibaaGreat
open Go.RowKit
section
variable {w : World} {b : Act} {o : Oper}
theorem exec_loadRow {P : Program} {x : Operand} {g : Nat} {ty t : TypeId} {cs : Array Value} {fr : Nat × Nat} {d : TypeDesc} (ho : o.op = .load ty x) (h : b.eval x = .pointer (some ⟨g, 0, none⟩)) (hg : w.heap[g]? = some (.cells cs t fr))
    (hu : P.underlying ty = some d) (hd : (match d with | .struct _ | .array _ _ => true | _ => false) = true) (hi : (P.info? ty).map (·.size) = some cs.size) : (execOp b.eval o).run P w = .ok (.value (.agg cs)) w := by
  unfold execOp
  simp only [ho, h, Instr.loadAt, Instr.sureAddr, Sem.run_bind, Sem.run_pure, Result.andThen_ok, run_loadVar_row w g t ty cs fr d hg hu hd hi]
theorem exec_loadCall {x : Operand} {a : Addr} {k : Int} {n t : List UInt8} {Ab : Option Addr} {nl cb : Nat} (ho : o.op = .load 40 x) (h : b.eval x = .pointer (some a)) (h0 : w.cell? a = some (.int .u8 k)) (h1 : w.cell? ⟨a.block, a.off + 1, none⟩ = some (.string (txt n))) (h2 : w.cell? ⟨a.block, a.off + 2, none⟩ = some (.string (txt t))) (h3 : w.cell? ⟨a.block, a.off + 3, none⟩ = some (.slice Ab nl cb)) :
    (execOp b.eval o).run Tryz.prog w = .ok (.value (fcv k n t Ab nl cb)) w := by
  unfold execOp
  simp only [ho, h]
  go_simp
theorem exec_atCall {x y : Operand} {ad : Addr} {n c k : Nat} (ho : o.op = .indexAddr 68 x y) (h : b.eval x = .slice (some ad) n c) (h' : b.eval y = .int .i64 (k : Int)) (hk : k < n) : (execOp b.eval o).run Tryz.prog w = .ok (.value (.pointer (some (ad.add (k * 4))))) w := by
  have hk' : (k : Int) < n := by omega
  unfold execOp
  simp only [ho, h, h']
  go_simp
theorem exec_allocRf (ho : o.op = .alloc 36) : (execOp b.eval o).run Tryz.prog w = .ok (.value (.pointer (some ⟨w.heap.size, 0, none⟩))) (w.alloc (.cells zrf 36)) := by
  unfold execOp
  simp only [ho]
  go_simp
theorem exec_allocRr (ho : o.op = .alloc 53) : (execOp b.eval o).run Tryz.prog w = .ok (.value (.pointer (some ⟨w.heap.size, 0, none⟩))) (w.alloc (.cells zres 53)) := by
  unfold execOp
  simp only [ho]
  go_simp
theorem exec_allocFr (ho : o.op = .alloc 51) : (execOp b.eval o).run Tryz.prog w = .ok (.value (.pointer (some ⟨w.heap.size, 0, none⟩))) (w.alloc (.cells zres 51)) := by
  unfold execOp
  simp only [ho]
  go_simp
theorem exec_first {P : Program} {x : Operand} {u v : Value} (ho : o.op = .extract x 0) (h : b.eval x = .tuple #[u, v]) : (execOp b.eval o).run P w = .ok (.value u) w := by
  unfold execOp
  simp only [ho, h]
  go_simp
theorem exec_second {P : Program} {x : Operand} {u v : Value} (ho : o.op = .extract x 1) (h : b.eval x = .tuple #[u, v]) : (execOp b.eval o).run P w = .ok (.value v) w := by
  unfold execOp
  simp only [ho, h]
  go_simp
end
theorem enter_call (w : World) (args : Array Value) : (callFunc 12 args).run Tryz.prog w = .ok (.enter 12 args) w := by kernel_rfl
theorem enter_rdo (w : World) (args : Array Value) : (callFunc 14 args).run Tryz.prog w = .ok (.enter 14 args) w := by kernel_rfl
theorem enter_fdo (w : World) (args : Array Value) : (callFunc 13 args).run Tryz.prog w = .ok (.enter 13 args) w := by kernel_rfl
theorem rdo_all {w : World} {X : Nat → Prop} {N : Nat} {s : Fo} {v : Value} (hr : RefF w X v s) (hok : s.Ok N) (hN : N ≤ 880) (hw : s.Well) {k : Nat} (hk : k ≤ 255) {n t : List UInt8} (hn : n.length ≤ 1000) (ht : t.length ≤ 1000) {Ab : Option Addr} {nl cb Bb : Nat} {l : List UInt8} (hnl : l.length = nl) (hl : nl ≤ 60) (hB : Bb ≤ w.heap.size) (hbl : RdB w Bb Ab l) :
    Calls Tryz.prog 14 #[v, fcv (k : Int) n t Ab nl cb] w fun e w' => RdD w X (s.doC 0 k n t l) e w' := rdo_any hr hok hN hw hk hn ht hnl hl hB hbl 0
section
variable {Q : Exit → Act → World → Prop} {F : Nat → Value → World → Prop} {D : List Nv} {nt : Nat} {ops : List Oper} {a : Act} {i : Nat} {o : Oper} {z : Sl} {W : World} {X : Nat → Prop} {k N : Nat} {s : Fo} {n t l : List UInt8} {v0 : Value}
theorem S7.off {L : Array Bool} {Y : Nat → Prop} {b : Act} {w : World} {d : Nat} {u : Value} (h : S7 z W X (k : Int) n t l (s.doC 0 k n t l) L Y (sl b) w) (hz : i ∉ [z.c, z.d, z.m, z.x, z.y]) (hsz : b.tmps.size = nt) (hdn : d < nt) (hd : d ∉ [z.tc, z.td, z.tm, z.tx, z.ty]) : S7 z W X (k : Int) n t l (s.doC 0 k n t l) (L.setIfInBounds i true) Y (sl (b.put (some d) u)) w :=
  h.congr (offL hz) (offT hsz hdn hd)
theorem OpFu.copy7 {x : Operand} {Ab : Option Addr} {cb Bb : Nat} (hi : i = z.c) (hd : o.dst = some z.tc) (hdn : z.tc < nt) (hD : ∀ e ∈ D, i ≠ e.i ∧ i ≠ e.s ∧ z.tc ≠ e.d) (hsrc : ∀ e ∈ D, z.tc = e.src → ∀ L : Array Bool, Closed ops L → L.getD i false = false → L.getD e.s false = false)
    (hz : z.c ∉ [z.d, z.m, z.x, z.y]) (hzt : z.tc ∉ [z.td, z.tm, z.tx, z.ty]) (hgd : o.guard = none) (ho : o.op = .call { callee := .value (.func 12), args := #[x], argTypes := #[40] })
    (hx : ∀ (b : Act) (w : World), (∀ e ∈ o.after.toList, Region.binds .any e = true → ∀ oj d, ops[e.on]? = some oj → oj.dst = some d → F e.on (b.tmps.getD d undef) w) → b.eval x = fcv (k : Int) n t Ab l.length cb)
    (hl : l.length ≤ 60000) (hB : Bb ≤ W.heap.size) (hbl : RdB W Bb Ab l) (hK : ∀ j u w w', Below w.heap.size w w' → F j u w → F j u w') (hF : ∀ u w, F i u w) : OpFu Tryz.prog Q F (KX (S7 z W X (k : Int) n t l (s.doC 0 k n t l)) D) nt ops a i o := by
  subst hi
  refine OpFu.stepS hd hdn hD hsrc fun L b w Y hL hcl hni hdep hsm hsz hS hg => ⟨by simp [Region.wanted, hgd], ?_⟩
  unfold Oper.wp
  rw [exec_call1 (enter_call _) ho (hx b w hg), Oper.upon_enter]
  have hs := hS.below.size
  refine (call_any rfl hl (Nat.le_trans hB hs) (Reads.below hbl (hS.below.mono hB))).mono ?_
  rintro e w' ⟨A, c, rfl, hown, hb⟩
  have hlt : z.c < L.size ∨ ¬ z.c < L.size := Decidable.em _
  refine ⟨_, rfl, ⟨hS.below.trans (hb.mono hs), fun g hg => ⟨(hS.box g hg).1, Nat.lt_of_lt_of_le (hS.box g hg).2 hb.size⟩, fun _ => ?_, fun h6 => ?_⟩, hF _ _, fun j u hj => hK j u _ _ hb hj, hb.size, fun k _ hk => hb.block k hk⟩
  · refine ⟨A, c, by rw [hd]; exact sl_here (by omega), own_avoid hown fun b hb' => (hS.box b hb').2⟩
  · have hoff : ∀ j, j ≠ z.c → (L.setIfInBounds z.c true).getD j false = L.getD j false := fun j hj => by
      rcases hlt with h | h
      · rw [getD_set h, decide_eq_false (fun e => hj e.symm), Bool.false_or]
      · rw [Array.setIfInBounds_eq_of_size_le (by omega)]
    have hsl : ∀ j, j ≠ z.tc → sl (b.put o.dst (fcv (k : Int) n t A l.length c)) j = sl b j := fun j hj => by rw [hd]; exact sl_put (by omega) fun e => hj e.symm
    simp only [List.mem_cons, List.not_mem_nil, or_false, not_or] at hz hzt
    rw [hoff _ (Ne.symm hz.1)] at h6
    obtain ⟨u, r, h1, h2, h3, h4, h7, h8⟩ := hS.done h6
    refine ⟨u, r, (hsl _ (Ne.symm hzt.1)).trans h1, h2.below hb, h3.below hb, fun h => ?_, fun h => ?_, fun h => ?_⟩
    · rw [hoff _ (Ne.symm hz.2.1)] at h; exact (hsl _ (Ne.symm hzt.2.1)).trans (h4 h)
    · rw [hoff _ (Ne.symm hz.2.2.1)] at h; exact (hsl _ (Ne.symm hzt.2.2.1)).trans (h7 h)
    · rw [hoff _ (Ne.symm hz.2.2.2)] at h; exact (hsl _ (Ne.symm hzt.2.2.2)).trans (h8 h)
theorem OpFu.done7 {x : Operand} (hi : i = z.d) (hd : o.dst = some z.td) (hdn : z.td < nt) (hil : i < ops.length) (hD : ∀ e ∈ D, i ≠ e.i ∧ i ≠ e.s ∧ z.td ≠ e.d) (hsrc : ∀ e ∈ D, z.td = e.src → ∀ L : Array Bool, Closed ops L → L.getD i false = false → L.getD e.s false = false)
    (hz : z.d ∉ [z.c, z.m, z.x, z.y]) (hzt : z.td ∉ [z.tc, z.tm, z.tx, z.ty]) (hgd : o.guard = none) (ho : o.op = .call { callee := .value (.func 14), args := #[x, .tmp z.tc], argTypes := #[36, 46] })
    (hx : ∀ (b : Act) (w : World), (∀ e ∈ o.after.toList, Region.binds .any e = true → ∀ oj d, ops[e.on]? = some oj → oj.dst = some d → F e.on (b.tmps.getD d undef) w) → b.eval x = v0)
    (hc : ∀ L : Array Bool, (∀ e ∈ o.after.toList, Region.binds .any e = true → L.getD e.on false = true) → L.getD z.c false = true)
    (hlater : ∀ L : Array Bool, Closed ops L → L.getD i false = false → L.getD z.m false = false ∧ L.getD z.x false = false ∧ L.getD z.y false = false)
    (hX : ∀ b, X b → b < W.heap.size) (hr : RefF W X v0 s) (hok : s.Ok N) (hN : N ≤ 880) (hw : s.Well) (hk : k ≤ 255) (hn : n.length ≤ 1000) (ht : t.length ≤ 1000) (hl : l.length ≤ 60)
    (hK : ∀ j u w w', Below w.heap.size w w' → F j u w → F j u w') (hF : ∀ u w, F i u w) : OpFu Tryz.prog Q F (KX (S7 z W X (k : Int) n t l (s.doC 0 k n t l)) D) nt ops a i o := by
  subst hi
  refine OpFu.stepS hd hdn hD hsrc fun L b w Y hL hcl hni hdep hsm hsz hS hg => ⟨by simp [Region.wanted, hgd], ?_⟩
  obtain ⟨A, c, ec, hbx⟩ := hS.copy (hc L hdep)
  have ec' : b.eval (.tmp z.tc) = fcv (k : Int) n t A l.length c := ec
  unfold Oper.wp
  rw [exec_call2 (enter_rdo _) ho (hx b w hg) ec', Oper.upon_enter]
  have hs := hS.below.size
  have hr' : RefF w (fun b => X b ∨ Y b) v0 s := (hr.high hS.below).mono fun b _ e => e.imp id fun e => (hS.box b e).1
  refine (rdo_all hr' hok hN hw hk hn ht rfl hl (Nat.le_refl _) hbx.reads).mono ?_
  rintro e w' ⟨u, r, rfl, hb, hu, hrr⟩
  have hlt : z.d < L.size := by omega
  have hoff : ∀ j, j ≠ z.d → (L.setIfInBounds z.d true).getD j false = L.getD j false := fun j hj => by rw [getD_set hlt, decide_eq_false (fun e => hj e.symm), Bool.false_or]
  have hsl : ∀ j, j ≠ z.td → sl (b.put o.dst (.tuple #[u, r])) j = sl b j := fun j hj => by rw [hd]; exact sl_put (by omega) fun e => hj e.symm
  simp only [List.mem_cons, List.not_mem_nil, or_false, not_or] at hz hzt
  obtain ⟨l1, l2, l3⟩ := hlater L hcl hni
  have hxy : ∀ b, b < w'.heap.size → (X b ∨ Y b) → AX w (fun b => X b ∨ Y b) b := fun b _ e => ⟨by
    rcases e with e | e
    · exact Nat.lt_of_lt_of_le (hX b e) hs
    · exact (hS.box b e).2, e⟩
  refine ⟨_, rfl, ⟨hS.below.trans (hb.mono hs), fun g hg => ⟨(hS.box g hg).1, Nat.lt_of_lt_of_le (hS.box g hg).2 hb.size⟩, fun h5 => ?_, fun _ => ?_⟩, hF _ _, fun j u hj => hK j u _ _ hb hj, hb.size, fun k _ hk => hb.block k hk⟩
  · exact ⟨A, c, (hsl _ (Ne.symm hzt.1)).trans ec, hbx.below hb⟩
  · refine ⟨u, r, by rw [hd]; exact sl_here (by omega), hu.mono hxy, hrr.mono hxy, fun h => ?_, fun h => ?_, fun h => ?_⟩
    · rw [hoff _ (Ne.symm hz.2.1), l1] at h; cases h
    · rw [hoff _ (Ne.symm hz.2.2.1), l2] at h; cases h
    · rw [hoff _ (Ne.symm hz.2.2.2), l3] at h; cases h
theorem OpFu.move7 (hi : i = z.m) (hd : o.dst = some z.tm) (hdn : z.tm < nt) (hD : ∀ e ∈ D, i ≠ e.i ∧ i ≠ e.s ∧ z.tm ≠ e.d) (hsrc : ∀ e ∈ D, z.tm = e.src → ∀ L : Array Bool, Closed ops L → L.getD i false = false → L.getD e.s false = false)
    (n1 : z.c ≠ z.m ∧ z.d ≠ z.m ∧ z.x ≠ z.m ∧ z.y ≠ z.m) (n2 : z.tc ≠ z.tm ∧ z.td ≠ z.tm ∧ z.tx ≠ z.tm ∧ z.ty ≠ z.tm) (hgd : o.guard = none) (ho : o.op = .move (.tmp z.td))
    (hc : ∀ L : Array Bool, Closed ops L → (∀ e ∈ o.after.toList, Region.binds .any e = true → L.getD e.on false = true) → L.getD z.d false = true) (hF : ∀ u w, F i u w) : OpFu Tryz.prog Q F (KX (S7 z W X (k : Int) n t l (s.doC 0 k n t l)) D) nt ops a i o := by
  subst hi
  refine OpFu.readS hd hdn hD hsrc fun L b w Y hcl hni hlt hsz hdep hsm hS hg => ⟨by simp [Region.wanted, hgd], ?_⟩
  obtain ⟨u, r, h1, h2, h3, h4, h7, h8⟩ := hS.done (hc L hcl hdep)
  have ev : b.eval (.tmp z.td) = .tuple #[u, r] := h1
  have hdlt : z.tm < b.tmps.size := by rw [hsz]; exact hdn
  have hoff : ∀ j, j ≠ z.m → (L.setIfInBounds z.m true).getD j false = L.getD j false := fun j hj => by rw [getD_set hlt, decide_eq_false (fun e => hj e.symm), Bool.false_or]
  have hsl : ∀ j v, j ≠ z.tm → sl (b.put o.dst v) j = sl b j := fun j v hj => by rw [hd]; exact sl_put hdlt fun e => hj e.symm
  have hhere : ∀ v, sl (b.put o.dst v) z.tm = v := fun v => by rw [hd]; exact sl_here hdlt
  refine ⟨.tuple #[u, r], exec_move ho ev, hF _ _, hS.below, hS.box, fun h => ?_, fun h => ?_⟩
  · rw [hoff _ n1.1] at h
    obtain ⟨A, c, e1, e2⟩ := hS.copy h
    exact ⟨A, c, (hsl _ _ n2.1).trans e1, e2⟩
  · refine ⟨u, r, (hsl _ _ n2.2.1).trans h1, h2, h3, fun h => ?_, fun h => ?_, fun h => ?_⟩
    · exact hhere _
    · rw [hoff _ n1.2.2.1] at h; exact (hsl _ _ n2.2.2.1).trans (h7 h)
    · rw [hoff _ n1.2.2.2] at h; exact (hsl _ _ n2.2.2.2).trans (h8 h)
theorem OpFu.fst7 (hi : i = z.x) (hd : o.dst = some z.tx) (hdn : z.tx < nt) (hD : ∀ e ∈ D, i ≠ e.i ∧ i ≠ e.s ∧ z.tx ≠ e.d) (hsrc : ∀ e ∈ D, z.tx = e.src → ∀ L : Array Bool, Closed ops L → L.getD i false = false → L.getD e.s false = false)
    (n1 : z.c ≠ z.x ∧ z.d ≠ z.x ∧ z.m ≠ z.x ∧ z.y ≠ z.x) (n2 : z.tc ≠ z.tx ∧ z.td ≠ z.tx ∧ z.tm ≠ z.tx ∧ z.ty ≠ z.tx) (hgd : o.guard = none) (ho : o.op = .extract (.tmp z.tm) 0)
    (hc : ∀ L : Array Bool, Closed ops L → (∀ e ∈ o.after.toList, Region.binds .any e = true → L.getD e.on false = true) → L.getD z.d false = true ∧ L.getD z.m false = true) (hF : ∀ u w, F i u w) : OpFu Tryz.prog Q F (KX (S7 z W X (k : Int) n t l (s.doC 0 k n t l)) D) nt ops a i o := by
  subst hi
  refine OpFu.readS hd hdn hD hsrc fun L b w Y hcl hni hlt hsz hdep hsm hS hg => ⟨by simp [Region.wanted, hgd], ?_⟩
  obtain ⟨u, r, h1, h2, h3, h4, h7, h8⟩ := hS.done ((hc L hcl hdep).1)
  have ev : b.eval (.tmp z.tm) = .tuple #[u, r] := h4 (hc L hcl hdep).2
  have hdlt : z.tx < b.tmps.size := by rw [hsz]; exact hdn
  have hoff : ∀ j, j ≠ z.x → (L.setIfInBounds z.x true).getD j false = L.getD j false := fun j hj => by rw [getD_set hlt, decide_eq_false (fun e => hj e.symm), Bool.false_or]
  have hsl : ∀ j v, j ≠ z.tx → sl (b.put o.dst v) j = sl b j := fun j v hj => by rw [hd]; exact sl_put hdlt fun e => hj e.symm
  have hhere : ∀ v, sl (b.put o.dst v) z.tx = v := fun v => by rw [hd]; exact sl_here hdlt
  refine ⟨u, exec_first ho ev, hF _ _, hS.below, hS.box, fun h => ?_, fun h => ?_⟩
  · rw [hoff _ n1.1] at h
    obtain ⟨A, c, e1, e2⟩ := hS.copy h
    exact ⟨A, c, (hsl _ _ n2.1).trans e1, e2⟩
  · refine ⟨u, r, (hsl _ _ n2.2.1).trans h1, h2, h3, fun h => ?_, fun h => ?_, fun h => ?_⟩
    · rw [hoff _ n1.2.2.1] at h; exact (hsl _ _ n2.2.2.1).trans (h4 h)
    · exact hhere _
    · rw [hoff _ n1.2.2.2] at h; exact (hsl _ _ n2.2.2.2).trans (h8 h)
theorem OpFu.snd7 (hi : i = z.y) (hd : o.dst = some z.ty) (hdn : z.ty < nt) (hD : ∀ e ∈ D, i ≠ e.i ∧ i ≠ e.s ∧ z.ty ≠ e.d) (hsrc : ∀ e ∈ D, z.ty = e.src → ∀ L : Array Bool, Closed ops L → L.getD i false = false → L.getD e.s false = false)
    (n1 : z.c ≠ z.y ∧ z.d ≠ z.y ∧ z.m ≠ z.y ∧ z.x ≠ z.y) (n2 : z.tc ≠ z.ty ∧ z.td ≠ z.ty ∧ z.tm ≠ z.ty ∧ z.tx ≠ z.ty) (hgd : o.guard = none) (ho : o.op = .extract (.tmp z.tm) 1)
    (hc : ∀ L : Array Bool, Closed ops L → (∀ e ∈ o.after.toList, Region.binds .any e = true → L.getD e.on false = true) → L.getD z.d false = true ∧ L.getD z.m false = true) (hF : ∀ u w, F i u w) : OpFu Tryz.prog Q F (KX (S7 z W X (k : Int) n t l (s.doC 0 k n t l)) D) nt ops a i o := by
  subst hi
  refine OpFu.readS hd hdn hD hsrc fun L b w Y hcl hni hlt hsz hdep hsm hS hg => ⟨by simp [Region.wanted, hgd], ?_⟩
  obtain ⟨u, r, h1, h2, h3, h4, h7, h8⟩ := hS.done ((hc L hcl hdep).1)
  have ev : b.eval (.tmp z.tm) = .tuple #[u, r] := h4 (hc L hcl hdep).2
  have hdlt : z.ty < b.tmps.size := by rw [hsz]; exact hdn
  have hoff : ∀ j, j ≠ z.y → (L.setIfInBounds z.y true).getD j false = L.getD j false := fun j hj => by rw [getD_set hlt, decide_eq_false (fun e => hj e.symm), Bool.false_or]
  have hsl : ∀ j v, j ≠ z.ty → sl (b.put o.dst v) j = sl b j := fun j v hj => by rw [hd]; exact sl_put hdlt fun e => hj e.symm
  have hhere : ∀ v, sl (b.put o.dst v) z.ty = v := fun v => by rw [hd]; exact sl_here hdlt
  refine ⟨r, exec_second ho ev, hF _ _, hS.below, hS.box, fun h => ?_, fun h => ?_⟩
  · rw [hoff _ n1.1] at h
    obtain ⟨A, c, e1, e2⟩ := hS.copy h
    exact ⟨A, c, (hsl _ _ n2.1).trans e1, e2⟩
  · refine ⟨u, r, (hsl _ _ n2.2.1).trans h1, h2, h3, fun h => ?_, fun h => ?_, fun h => ?_⟩
    · rw [hoff _ n1.2.2.1] at h; exact (hsl _ _ n2.2.2.1).trans (h4 h)
    · rw [hoff _ n1.2.2.2] at h; exact (hsl _ _ n2.2.2.2).trans (h7 h)
    · exact hhere _
end
end Go.Proofs.YtbhmnmmockmibaaGreat
