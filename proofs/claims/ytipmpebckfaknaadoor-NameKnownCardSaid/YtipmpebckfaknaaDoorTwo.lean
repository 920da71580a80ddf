/- A region that draws its order, by facts, with two operations that make a block each: the blocks differ. Conditions: none. -/
import Derived.Test.YtipmpebckfaknaaDoorTail
namespace Go.Proofs.YtipmpebckfaknaaDoor
open Go.RowKit

section
variable {P : Program} {Q : Exit → Act → World → Prop} (F : Nat → Value → World → Prop) (C : World → Prop)

/-- THE RULE. -/
theorem wp_region_two {id n m : Nat} {ops pre : List Oper} {a : Act} {w : World} (hm : P.follows .mixedOrders = true) (hin : inOrder ops n = true) (hsz : a.tmps.size = n) (hpre : ops.take m = pre) (hml : m ≤ ops.length) (hlast : lastWait ops m = true) (hC : C w.drew)
    {p q dp dq : Nat} (hp : (ops[p]?).bind (·.dst) = some dp) (hq : (ops[q]?).bind (·.dst) = some dq) (hne : p ≠ q) (hpm : p < m) (hqm : q < m)
    (hal : ∀ (i : Nat) (o : Oper), i = p ∨ i = q → ops[i]? = some o → ∀ (b : Act) (w : World), ∃ w', (execOp b.eval o).run P w = .ok (.value (.pointer (some ⟨w.heap.size, 0, none⟩))) w')
    (hFn : ∀ (i : Nat) (u : Value) (w : World), i = p ∨ i = q → F i u w → u ≠ .pointer (some ⟨w.heap.size, 0, none⟩))
    (hop : OpsOk P Q F C ops a 0 pre)
    (hend : ∀ (b : Act) (w : World), b.tmps.size = n → b.defers = a.defers → (∀ t, isDst ops t = false → b.tmps.getD t undef = a.tmps.getD t undef) → C w →
      (∀ j o d, j < m → ops[j]? = some o → o.dst = some d → F j (b.tmps.getD d undef) w) → b.tmps.getD dp undef ≠ b.tmps.getD dq undef → wpList P ops.toArray Q (ops.drop m) b w) :
    (Code.region id ops.toArray true).wp P Q a w := by
  unfold inOrder at hin
  simp only [Bool.and_eq_true, decide_eq_true_eq, List.all_eq_true] at hin
  obtain ⟨⟨h1, h2⟩, h3⟩ := hin
  have hord : ∀ (i : Nat) (o : Oper), ops[i]? = some o → ∀ e ∈ o.after.toList, Region.binds .any e = true → e.on < i := by
    intro i o ho e he hbe
    have := h1 (o, i) (by rw [List.mem_zipIdx_iff_getElem?]; exact ho)
    simp only [Array.all_eq_true_iff_forall_mem, Bool.or_eq_true, Bool.not_eq_true', decide_eq_true_eq] at this
    rcases this e (by simpa using he) with h | h
    · rw [hbe] at h; cases h
    · exact h
  refine wp_region_any hm ?_
  have key : ∀ (fuel : Nat) (listed : Array Bool) (b : Act) (w : World), listed.toList.count false ≤ fuel → (∀ j, listed.getD j false = true → j < m) → (∀ (j : Nat) (o' : Oper), listed.getD j false = true → ops[j]? = some o' → ∀ e ∈ o'.after.toList, Region.binds .any e = true → listed.getD e.on false = true) → Upto F C ops n a listed b w → (listed.getD p false = true → listed.getD q false = true → b.tmps.getD dp undef ≠ b.tmps.getD dq undef) → wpAny P .any ops.toArray Q fuel listed b w := by
    have hfull : ∀ (fuel : Nat) (listed : Array Bool) (b : Act) (w : World), listed.toList.count false ≤ fuel → (∀ j, listed.getD j false = true → j < m) → Upto F C ops n a listed b w → (listed.getD p false = true → listed.getD q false = true → b.tmps.getD dp undef ≠ b.tmps.getD dq undef) → (∀ j, j < m → listed.getD j false = true) → wpAny P .any ops.toArray Q fuel listed b w := by
      intro fuel listed b w hc hlm h hD hall
      refine wpAny_tail hord hlast fuel 0 listed b w hc h.size (fun j _ => ⟨fun h' => by have := hlm j h'; omega, fun h' => hall j (by omega)⟩) ?_
      rw [Nat.add_zero]
      exact hend b w h.slots h.defers h.same h.common (fun j o d hj ho hd => h.fact j o d (hall j hj) ho hd) (hD (hall p hpm) (hall q hqm))
    intro fuel
    induction fuel with
    | zero =>
      intro listed b w hc hlm _ h hD
      refine hfull 0 listed b w hc hlm h hD fun j hj => ?_
      have hjs : j < listed.size := by rw [h.size]; omega
      cases hv : listed.getD j false with
      | true => rfl
      | false =>
        exfalso
        rw [Array.getD_eq_getD_getElem?, Array.getElem?_eq_getElem hjs] at hv
        simp only [Option.getD_some] at hv
        have : false ∈ listed.toList := by rw [← hv]; simp
        have := List.count_pos_iff.2 this
        omega
    | succ fuel ih =>
      intro listed b w hc hlm hcl h hD
      by_cases hall : ∀ j, j < m → listed.getD j false = true
      · exact hfull _ listed b w hc hlm h hD hall
      · refine ⟨fun hr => ?_, fun i hi => ?_⟩
        · exact absurd (fun j hj => ready_nil h.size hord hr j (by omega)) hall
        · obtain ⟨o, ho, hl, hdep⟩ := ready_mem h.size hi
          have him : i < m := by
            rcases Nat.lt_or_ge i m with h1 | h1
            · exact h1
            · exfalso
              obtain ⟨_, hw⟩ := lastWait_get hlast ho h1
              exact hall fun j hj => hw (fun j => listed.getD j false = true) (fun e he h3 => hdep e he h3) hcl j (by omega)
          have hok := OpsOk.get F C hop (show pre[i]? = some o by rw [← hpre, List.getElem?_take, if_pos him]; exact ho)
          rw [Nat.zero_add] at hok
          obtain ⟨hw, hwp⟩ := hok b w h.same h.common (fun e he hbe oj d hoj hd => h.fact e.on oj d (hdep e he hbe) hoj hd)
          unfold wpOp
          rw [List.getElem?_toArray, ho]
          simp only [hw, if_true]
          have hwp2 : o.wp P b w (fun b' w' => (∃ v, b' = b.put o.dst v ∧ C w' ∧ (o.dst.isSome = true → F i v w') ∧ ∀ j u, F j u w → F j u w') ∧ (i = p ∨ i = q → b' = b.put o.dst (.pointer (some ⟨w.heap.size, 0, none⟩)))) Q := by
            by_cases hpq : i = p ∨ i = q
            · obtain ⟨w2, hx⟩ := hal i o hpq ho b w
              unfold Oper.wp at hwp ⊢
              rw [hx, Oper.upon_value] at hwp ⊢
              exact ⟨hwp, fun _ => rfl⟩
            · exact Oper.wp_mono (fun _ _ hh => ⟨hh, fun h' => absurd h' hpq⟩) hwp
          refine Or.inl (Oper.wp_mono ?_ hwp2)
          rintro b' w' ⟨⟨v, rfl, hC, hF, hK⟩, hnew⟩
          have his : i < listed.size := (Array.getElem?_eq_some_iff.1 hl).1
          have hD' : (listed.setIfInBounds i true).getD p false = true → (listed.setIfInBounds i true).getD q false = true → (b.put o.dst v).tmps.getD dp undef ≠ (b.put o.dst v).tmps.getD dq undef := by
            intro hlp hlq
            rw [getD_set his] at hlp hlq
            obtain ⟨op, hop1, hop2⟩ := Option.bind_eq_some_iff.1 hp
            obtain ⟨oq, hoq1, hoq2⟩ := Option.bind_eq_some_iff.1 hq
            have hdpq : dp ≠ dq := by
              rintro rfl
              exact hne (dst_inj h2 hop1 hoq1 hop2 hoq2)
            have hdp : dp < b.tmps.size := by rw [h.slots]; exact h3 dp (dst_mem hop1 hop2)
            have hdq : dq < b.tmps.size := by rw [h.slots]; exact h3 dq (dst_mem hoq1 hoq2)
            by_cases hip : i = p
            · subst hip
              rw [hop1] at ho
              obtain rfl : op = o := by injection ho
              rw [hnew (Or.inl rfl), hop2, getD_put b dp dp _ hdp, getD_put b dp dq _ hdp, if_pos rfl, if_neg hdpq]
              rw [decide_eq_false hne, Bool.false_or] at hlq
              exact (hFn q _ w (Or.inr rfl) (h.fact q oq dq hlq hoq1 hoq2)).symm
            · by_cases hiq : i = q
              · subst hiq
                rw [hoq1] at ho
                obtain rfl : oq = o := by injection ho
                rw [hnew (Or.inr rfl), hoq2, getD_put b dq dp _ hdq, getD_put b dq dq _ hdq, if_pos rfl, if_neg hdpq.symm]
                rw [decide_eq_false hip, Bool.false_or] at hlp
                exact hFn p _ w (Or.inl rfl) (h.fact p op dp hlp hop1 hop2)
              · rw [decide_eq_false hip, Bool.false_or] at hlp
                rw [decide_eq_false hiq, Bool.false_or] at hlq
                have h0 := hD hlp hlq
                cases hod : o.dst with
                | none => exact h0
                | some d =>
                  have hd : d < b.tmps.size := by rw [h.slots]; exact h3 d (dst_mem ho hod)
                  have e1 : d ≠ dp := by
                    rintro rfl
                    exact hip (dst_inj h2 ho hop1 hod hop2)
                  have e2 : d ≠ dq := by
                    rintro rfl
                    exact hiq (dst_inj h2 ho hoq1 hod hoq2)
                  rw [getD_put b d dp _ hd, getD_put b d dq _ hd, if_neg e1, if_neg e2]
                  exact h0
          refine ih _ _ _ (count_set_true hl hc) ?_ ?_ (h.go F C h2 h3 ho hC hF hK) hD'
          rotate_left
          · intro j o' hj ho' e he hbe
            rw [getD_set his] at hj ⊢
            by_cases hij : i = j
            · subst hij
              rw [ho] at ho'
              obtain rfl : o = o' := by injection ho'
              rw [hdep e he hbe, Bool.or_true]
            · rw [decide_eq_false hij, Bool.false_or] at hj
              rw [hcl j o' hj ho' e he hbe, Bool.or_true]
          intro j hj
          rw [getD_set his] at hj
          by_cases hij : i = j
          · omega
          · rw [decide_eq_false hij, Bool.false_or] at hj
            exact hlm j hj
  have hnone : ∀ j, (Array.replicate ops.toArray.size false).getD j false = true → False := by
    intro j hl
    rw [Array.getD_eq_getD_getElem?, Array.getElem?_replicate] at hl
    revert hl
    split <;> simp
  exact key _ _ _ _ (by simp) (fun j h => (hnone j h).elim) (fun j _ h => (hnone j h).elim) ⟨by simp, hsz, rfl, fun _ _ => rfl, hC, fun j _ _ h => (hnone j h).elim⟩ (fun h => (hnone p h).elim)
end
end Go.Proofs.YtipmpebckfaknaaDoor
