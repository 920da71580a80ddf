/- A region in its order, by facts, some of whose guarded operations are not wanted. Conditions: none. -/
import Derived.Test.YtdnbflhpgfgnnaaSkip
namespace Go.Proofs.Ytdnbflhpgfgnnaa
open Go.RowKit

section
variable {P : Program} {Q : Exit → Act → World → Prop} (F : Nat → Value → World → Prop) (C : World → Prop)
theorem wpList_skips {ops : List Oper} {n : Nat} {a : Act} (hn : (ops.filterMap (·.dst)).Nodup) (hb : ∀ d ∈ ops.filterMap (·.dst), d < n) (hord : ∀ (i : Nat) (o : Oper), ops[i]? = some o → ∀ e ∈ o.after.toList, Region.binds .any e = true → e.on < i)
    (hop : OksOp P Q F C ops a 0 ops)
    (hend : ∀ (b : Act) (w : World), b.tmps.size = n → b.defers = a.defers → (∀ t, isDst ops t = false → b.tmps.getD t undef = a.tmps.getD t undef) → C w →
      (∀ j o d, ops[j]? = some o → o.dst = some d → F j (b.tmps.getD d undef) w) → Q .normal b w) :
    ∀ (k m : Nat) (L : Array Bool) (b : Act) (w : World), m + k = ops.length → (∀ j, j < ops.length → (L.getD j false = true ↔ j < m)) → Upto F C ops n a L b w → wpList P ops.toArray Q (ops.drop m) b w := by
  intro k
  induction k with
  | zero =>
    intro m L b w hm hL h
    rw [List.drop_of_length_le (by omega)]
    refine hend b w h.slots h.defers h.same h.common (fun j o d hj hd => ?_)
    have hjl := (List.getElem?_eq_some_iff.1 hj).1
    exact h.fact j o d ((hL j hjl).2 (by omega)) hj hd
  | succ k ih =>
    intro m L b w hm hL h
    have hml : m < ops.length := by omega
    have ho : ops[m]? = some ops[m] := List.getElem?_eq_getElem hml
    rw [List.drop_eq_getElem_cons hml]
    have hok := OksOp.get F C hop ho
    rw [Nat.zero_add] at hok
    have hdep : ∀ e ∈ (ops[m]).after.toList, Region.binds .any e = true → L.getD e.on false = true := by
      intro e he hbe
      have := hord m _ ho e he hbe
      exact (hL e.on (by omega)).2 this
    have hLs : m < L.size := by rw [h.size]; exact hml
    have hL' : ∀ j, j < ops.length → ((L.setIfInBounds m true).getD j false = true ↔ j < m + 1) := by
      intro j hj
      rw [getD_set hLs]
      by_cases hmj : m = j
      · subst hmj
        simp
      · rw [decide_eq_false hmj, Bool.false_or, hL j hj]
        omega
    unfold wpList
    rcases hok b w h.same h.common (fun e he hbe oj d hoj hd => h.fact e.on oj d (hdep e he hbe) hoj hd) with ⟨hw, hwp⟩ | ⟨hw, hf⟩
    · rw [if_pos hw]
      refine Or.inl (Oper.wp_mono ?_ hwp)
      rintro b' w' ⟨v, rfl, hC, hF, hK⟩
      exact ih (m + 1) _ _ _ (by omega) hL' (h.go F C hn hb ho hC hF hK)
    · rw [if_neg (by rw [hw]; exact Bool.false_ne_true)]
      exact ih (m + 1) _ _ _ (by omega) hL' (h.go F C hn hb ho h.common (fun _ => hf) (fun _ _ h => h))

/-- THE RULE. -/
theorem wp_region_seq {id n : Nat} {ops : List Oper} {a : Act} {w : World} (hin : inOrder ops n = true) (hsz : a.tmps.size = n) (hC : C w)
    (hop : OksOp P Q F C ops a 0 ops)
    (hend : ∀ (b : Act) (w : World), b.tmps.size = n → b.defers = a.defers → (∀ t, isDst ops t = false → b.tmps.getD t undef = a.tmps.getD t undef) → C w →
      (∀ j o d, ops[j]? = some o → o.dst = some d → F j (b.tmps.getD d undef) w) → Q .normal b w) :
    (Code.region id ops.toArray false).wp P Q a w := by
  unfold inOrder at hin
  simp only [Bool.and_eq_true, decide_eq_true_eq, List.all_eq_true] at hin
  obtain ⟨⟨h1, h2⟩, h3⟩ := hin
  have hnone : ∀ j, (Array.replicate ops.length false).getD j false = true → False := by
    intro j hl
    rw [Array.getD_eq_getD_getElem?, Array.getElem?_replicate] at hl
    revert hl
    split <;> simp
  refine wp_region_lit ?_
  have := wpList_skips F C h2 h3 ?_ hop hend ops.length 0 (Array.replicate ops.length false) a w (by omega) (fun j _ => ⟨fun h => (hnone j h).elim, fun h => absurd h (Nat.not_lt_zero _)⟩) ⟨by simp, hsz, rfl, fun _ _ => rfl, hC, fun j _ _ h => (hnone j h).elim⟩
  · rwa [List.drop_zero] at this
  · intro i o ho e he hbe
    have := h1 (o, i) (by rw [List.mem_zipIdx_iff_getElem?]; exact ho)
    simp only [Array.all_eq_true_iff_forall_mem, Bool.or_eq_true, Bool.not_eq_true', decide_eq_true_eq] at this
    rcases this e (by simpa using he) with h | h
    · rw [hbe] at h; cases h
    · exact h
end
end Go.Proofs.Ytdnbflhpgfgnnaa
