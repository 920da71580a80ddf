/- The walks of All and Whole: a range over the payloads. Conditions: bytes of at most 2^40. -/
import Derived.Test.YtogoaihimepboaaKJoE
namespace Go.Proofs.Ytogoaihimepboaa
open Go.RowKit

attribute [local go_sem] Oper.semAt_some

theorem Reads.kept {w w' : World} {B size n : Nat} {A : Option Addr} {xs : List Value} {row : Option Nat} (h : Reads w B size A n xs) (hg : w.grownBy w' row) (hr : ∀ r, row = some r → ∃ o : Obj, w.heap[r]? = some o ∧ o.isCells = false) : Reads w' B size A n xs := by
  refine ⟨h.1, fun hn => ?_⟩
  obtain ⟨ad, e, hb, hc⟩ := h.2 hn
  exact ⟨ad, e, hb, fun j u hu => cell_kept (hc j u hu) hg hr⟩
theorem own_kept {w w' : World} {base size k : Nat} {e : TypeId} {v : Value} {xs : List Value} {row : Option Nat} (h : w.ownsRow base e size v k xs) (hg : w.grownBy w' row) (hr : ∀ r, row = some r → ∃ o : Obj, w.heap[r]? = some o ∧ o.isCells = false) : w'.ownsRow base e size v k xs := by
  refine h.kept hg ?_
  rcases h.2 with ⟨rfl, _⟩ | ⟨g, cap, cur, rfl, _, hgb, _⟩
  · exact .inl rfl
  · refine .inr fun e' => ?_
    obtain ⟨o, ho, hc⟩ := hr g (by simpa [Value.ownBlock] using e'.symm)
    rw [hgb] at ho
    cases ho
    cases hc
theorem Owns.kept {base : Nat} {w w' : World} {v : Value} {own : List Row} {row : Option Nat} (h : Owns base w v own) (hg : w.grownBy w' row) (hr : ∀ r, row = some r → ∃ o : Obj, w.heap[r]? = some o ∧ o.isCells = false) : Owns base w' v own :=
  ⟨own_kept h.head hg hr, fun r hm => Reads.more (Reads.kept (h.row r hm) hg hr) hg.size, fun r hm ad e => ⟨Nat.lt_of_lt_of_le (h.apart r hm ad e).1 hg.size, (h.apart r hm ad e).2⟩⟩
/-- A list of rows that the call owns, and owns the rows of: each in a block of its own. -/
structure OX (base : Nat) (w : World) (v : Value) (own : List Row) : Prop where
  o : Owns base w v own
  r : ∀ r ∈ own, w.ownsRow base 5 1 r.v r.l.length (bs r.l)
  p : own.Pairwise fun r q => ∀ a b : Addr, r.A = some a → q.A = some b → a.block ≠ b.block
theorem OX.nil (base : Nat) (w : World) : OX base w (.slice none 0 0) [] := ⟨Owns.nil _ _, by simp, List.Pairwise.nil⟩
theorem OX.below {base : Nat} {w w' : World} {v : Value} {own : List Row} (h : OX base w v own) (hb : Below w.heap.size w w') : OX base w' v own := ⟨h.o.below hb, fun r hr => own_below (h.r r hr) hb (Nat.le_refl _), h.p⟩
theorem OX.kept {base : Nat} {w w' : World} {v : Value} {own : List Row} {row : Option Nat} (h : OX base w v own) (hg : w.grownBy w' row) (hr : ∀ r, row = some r → ∃ o : Obj, w.heap[r]? = some o ∧ o.isCells = false) : OX base w' v own :=
  ⟨h.o.kept hg hr, fun r hm => own_kept (h.r r hm) hg hr, h.p⟩
theorem OX.box {base bl : Nat} {w : World} {v : Value} {own : List Row} (h : OX base w v own) (hbl : bl < base) (u : Value) : OX base (w.setCell ⟨bl, 0, none⟩ u) v own := by
  have ht := Touch.cell1 w bl 0 u
  have hrow : ∀ r ∈ own, (w.setCell ⟨bl, 0, none⟩ u).ownsRow base 5 1 r.v r.l.length (bs r.l) := fun r hr => own_touch (h.r r hr) ht fun b hb e => by have := ((h.r r hr).lt b hb).1; omega
  refine ⟨⟨own_touch h.o.head ht fun b hb e => ?_, fun r hr => ?_, fun r hr ad e => ⟨Nat.lt_of_lt_of_le (h.o.apart r hr ad e).1 ht.size, (h.o.apart r hr ad e).2⟩⟩, hrow, h.p⟩
  · have := h.o.head.lt b hb
    omega
  · obtain ⟨A', c', e', _, _, h'⟩ := own_form (hrow r hr)
    injection e' with e1 _ _
    rw [e1]
    exact h'
theorem own_other {w : World} {base base' k k' : Nat} {v v' : Value} {xs ys : List Value} (h : w.ownsRow base 22 1 v k xs) (h' : w.ownsRow base' 5 1 v' k' ys) {g : Nat} (hg : v'.ownBlock = some g) : v.ownBlock ≠ some g := by
  intro e
  rcases h'.2 with ⟨rfl, _⟩ | ⟨q', cap', cur', rfl, _, hgb', _⟩
  · simp [Value.ownBlock] at hg
  rcases h.2 with ⟨rfl, _⟩ | ⟨q, cap, cur, rfl, _, hgb, _⟩
  · simp [Value.ownBlock] at e
  · obtain rfl : q = g := by simpa [Value.ownBlock] using e
    obtain rfl : q' = q := by simpa [Value.ownBlock] using hg
    rw [hgb] at hgb'
    simp at hgb'

section
variable {F : Fence} {nF : Nat} {ops : Array Oper} {rest : List Oper} {o : Oper} {a : Act} {Q : Exit → Act → World → Prop} {w : World} {base : Nat} {v : Value}
/-- A row behind a list of the call's own, inside a fence. -/
theorem push_sliceIn (s x : Operand) {own : List Row} {A : Option Addr} {n c : Nat} (r : Row) (hr : Value.slice A n c = r.v) (hownX : OX base w v own) (hbase : base ≤ w.heap.size) (hl : own.length ≤ 1099511627776)
    (hrowX : w.ownsRow base 5 1 r.v r.l.length (bs r.l)) (hdis : ∀ q ∈ own, ∀ a b : Addr, q.A = some a → r.A = some b → a.block ≠ b.block)
    (hgd : o.guard = none) (ho : o.op = .call { callee := .builtin .append, args := #[s, x], argTypes := #[35, 35] })
    (hs : a.eval s = v) (hx : a.eval x = .slice (some ⟨w.heap.size, 0, none⟩) 1 1)
    (h : ∀ v' w', OX base w' v' (own ++ [r]) → Below base w w' → (w.alloc (.cells #[.slice A n c] 22)).grownBy w' v.ownBlock → wpListIn F nF Try.prog ops Q rest (a.put o.dst v') w') :
    wpListIn F nF Try.prog ops Q (o :: rest) a (w.alloc (.cells #[.slice A n c] 22)) := by
  have hown := hownX.o
  have hap : ∀ ad, r.A = some ad → ad.block < w.heap.size ∧ v.ownBlock ≠ some ad.block := fun ad e => by
    have hob : r.v.ownBlock = some ad.block := by unfold Row.v; rw [e]; rfl
    exact ⟨(hrowX.lt _ hob).2, own_other hown.head hrowX hob⟩
  have hrow : RdB w w.heap.size r.A r.l := by
    obtain ⟨A', c', e', _, _, h'⟩ := own_form hrowX
    injection e' with e1 _ _
    rw [e1]
    exact h'
  rw [hr] at h ⊢
  obtain ⟨i0, hi0, hz0, hz1, hz2⟩ := info_parts info_row
  have hnew := reads_new w 22 [r.v]
  refine wpListIn_plain hgd fun K hK => ?_
  obtain ⟨v1, w1, hrun, h1, h2, h3⟩ := run_append_any (P := Try.prog) (w.alloc (.cells [r.v].toArray 22)) base 35 o.type 22 i0 _ 1 24 Try.underlying35 hi0 hz0 hz1 hz2 rfl (by omega) v _ _ (hown.head.alloc _) (w.heap.size + 1) _ 1 1 [r.v] hnew (by intro u hu; simp only [List.mem_singleton] at hu; subst hu; rfl) (by simp only [maxLen]; omega) (by omega) (by simp; omega)
  have hb := ((Below.refl base w).alloc hbase _).trans (grown_below (hown.head.alloc (.cells #[r.v] 22)) h2 (by simp; omega))
  have hsz : w.heap.size + 1 ≤ w1.heap.size := by have := h2.size; simpa using this
  have hall : ∀ q ∈ own ++ [r], RdB w w.heap.size q.A q.l ∧ ∀ ad, q.A = some ad → ad.block < w.heap.size ∧ v.ownBlock ≠ some ad.block := by
    intro q hq
    rw [List.mem_append, List.mem_singleton] at hq
    rcases hq with hq | rfl
    · exact ⟨hown.row q hq, hown.apart q hq⟩
    · exact ⟨hrow, hap⟩
  have hO : Owns base w1 v1 (own ++ [r]) := by
    refine ⟨?_, fun q hq => ?_, fun q hq ad e => ?_⟩
    · rw [List.map_append, List.length_append]
      exact h1
    · have := (Reads.alloc (hall q hq).1 (Nat.le_refl _) (.cells #[r.v] 22)).grown_apart h2 (by simp) (fun ad e => ((hall q hq).2 ad e).2)
      exact this.more (by omega)
    · obtain ⟨hlt, hne⟩ := (hall q hq).2 ad e
      refine ⟨by omega, ?_⟩
      rcases h3 with h3 | h3
      · rw [h3]; exact hne
      · rw [h3]
        intro e'
        injection e' with e'
        simp at e'
        omega
  have hX : OX base w1 v1 (own ++ [r]) := by
    refine ⟨hO, fun q hq => ?_, ?_⟩
    · have hq' : w.ownsRow base 5 1 q.v q.l.length (bs q.l) := by
        rw [List.mem_append, List.mem_singleton] at hq
        rcases hq with hq | rfl
        · exact hownX.r q hq
        · exact hrowX
      have h5 := hq'.alloc (.cells #[r.v] 22)
      refine h5.kept h2 ?_
      rcases h5.2 with ⟨e, _⟩ | ⟨g, cap, cur, e, _, _⟩
      · exact .inl (by rw [e]; rfl)
      · refine .inr fun e' => ?_
        have hob : q.v.ownBlock = some g := by rw [e]; rfl
        have h6 := own_other hown.head hq' hob
        rw [hob] at e'
        exact h6 e'.symm
    · rw [List.pairwise_append]
      refine ⟨hownX.p, List.pairwise_singleton _ _, fun q hq q' hq' => ?_⟩
      rw [List.mem_singleton] at hq'
      subst hq'
      exact hdis q hq
  unfold Oper.wpIn
  refine ⟨by simp [Oper.about, ho, resolve, Target.leads, Sem.run_pure], ?_⟩
  rw [Oper.semAt_plain F _ _ (by rw [ho]; intro c hc'; cases hc')]
  simp only [execOp, ho, resolve, invoke, builtin, Sem.run_bind, Sem.run_pure, Result.andThen_ok, List.map_toArray, List.map_cons, List.map_nil, hs, hx]
  rw [show [r.v].toArray = #[r.v] from rfl] at hrun
  rw [hrun]
  exact hK _ _ (h v1 w1 hX hb h2)
end
end Go.Proofs.Ytogoaihimepboaa
