/- Rows of the call's own that are written over, one by one. Conditions: none. -/
import Derived.Test.YtogoaihimepboaaKJoP
namespace Go.Proofs.Ytogoaihimepboaa
open Go.RowKit

/-- The rows' blocks. -/
def Zf (own : List Row) : Nat → Prop := fun b => ∃ r ∈ own, ∃ ad : Addr, r.A = some ad ∧ b = ad.block
/-- From row k on they may still be written over. -/
structure SpI (base : Nat) (W : World) (own : List Row) (k : Nat) (w : World) : Prop where
  t : Touch (Zf own) W w
  r : ∀ (j : Nat) (r : Row), k ≤ j → own[j]? = some r → ∃ ys, w.ownsRow base 5 1 r.v r.l.length ys
theorem SpI.step {base k : Nat} {W w w' : World} {own : List Row} {r : Row} {ys : List Value} (h : SpI base W own k w) (hp : own.Pairwise fun r q => ∀ a b : Addr, r.A = some a → q.A = some b → a.block ≠ b.block) (hr : own[k]? = some r) (_hy : w'.ownsRow base 5 1 r.v r.l.length ys)
    (hg : w.grownBy w' r.v.ownBlock) : SpI base W own (k + 1) w' := by
  have hob : ∀ b, r.v.ownBlock = some b → ∃ ad, r.A = some ad ∧ b = ad.block := by
    intro b hb
    cases hA : r.A with
    | none => unfold Row.v at hb; rw [hA] at hb; cases hb
    | some ad =>
      unfold Row.v at hb
      rw [hA] at hb
      injection hb with hb
      exact ⟨ad, rfl, hb.symm⟩
  have ht : Touch (fun b => r.v.ownBlock = some b) w w' := Touch.grown hg fun k e => e
  refine ⟨h.t.trans (ht.mono fun b _ e => ?_), fun j q hj hq => ?_⟩
  · obtain ⟨ad, h1, h2⟩ := hob b e
    exact ⟨r, List.mem_of_getElem? hr, ad, h1, h2⟩
  · obtain ⟨zs, hz⟩ := h.r j q (by omega) hq
    refine ⟨zs, own_touch hz ht fun b hb e => ?_⟩
    obtain ⟨ad, h1, h2⟩ := hob b e
    cases hA : q.A with
    | none => unfold Row.v at hb; rw [hA] at hb; cases hb
    | some ad2 =>
      unfold Row.v at hb
      rw [hA] at hb
      injection hb with hb
      have hk1 := (List.getElem?_eq_some_iff.1 hr)
      have hj1 := (List.getElem?_eq_some_iff.1 hq)
      obtain ⟨hk2, ek⟩ := hk1
      obtain ⟨hj2, ej⟩ := hj1
      have := List.pairwise_iff_getElem.1 hp k j hk2 hj2 (by omega)
      rw [ek, ej] at this
      exact this ad ad2 h1 hA (by omega)
/-- Where the blocks of a list and of its rows lie. -/
theorem OX.low {base : Nat} {w : World} {v : Value} {own : List Row} (h : OX base w v own) : (∀ b, v.ownBlock = some b → base ≤ b ∧ b < w.heap.size) ∧ ∀ b, Zf own b → base ≤ b ∧ b < w.heap.size := by
  refine ⟨fun b hb => h.o.head.lt b hb, ?_⟩
  rintro b ⟨r, hr, ad, e, rfl⟩
  exact (h.r r hr).lt ad.block (by unfold Row.v; rw [e]; rfl)
theorem OX.touch {base : Nat} {w w' : World} {v : Value} {own : List Row} {X : Nat → Prop} (h : OX base w v own) (ht : Touch X w w') (hX : ∀ b, (v.ownBlock = some b ∨ Zf own b) → ¬ X b) : OX base w' v own := by
  have hrow : ∀ r ∈ own, w'.ownsRow base 5 1 r.v r.l.length (bs r.l) := fun r hr => own_touch (h.r r hr) ht fun b hb => hX b (.inr ⟨r, hr, by
    cases hA : r.A with
    | none => unfold Row.v at hb; rw [hA] at hb; cases hb
    | some ad =>
      unfold Row.v at hb
      rw [hA] at hb
      injection hb with hb
      exact ⟨ad, rfl, hb.symm⟩⟩)
  refine ⟨⟨own_touch h.o.head ht fun b hb => hX b (.inl hb), fun r hr => ?_, fun r hr ad e => ⟨Nat.lt_of_lt_of_le (h.o.apart r hr ad e).1 ht.size, (h.o.apart r hr ad e).2⟩⟩, hrow, h.p⟩
  obtain ⟨A', c', e', _, _, h'⟩ := own_form (hrow r hr)
  injection e' with e1 _ _
  rw [e1]
  exact h'
/-- The list itself is read while its rows are written over. -/
theorem OX.cell {base k n c : Nat} {w w' : World} {A : Option Addr} {own : List Row} {r : Row} (h : OX base w (.slice A n c) own) (ht : Touch (Zf own) w w') (hr : own[k]? = some r) (hn : own.length = n) : ∃ ad, A = some ad ∧ w'.cell? (ad.add k) = some (.slice r.A r.l.length r.c) := by
  subst hn
  obtain ⟨A1, c1, e1, _, _, hR⟩ := own_form h.o.head
  injection e1 with e1 _ _
  subst e1
  have hk := (List.getElem?_eq_some_iff.1 hr).1
  obtain ⟨ad, e, hb, hc⟩ := hR.2 (by omega)
  refine ⟨ad, e, ?_⟩
  have hc1 := hc k (.slice r.A r.l.length r.c) (by rw [List.getElem?_map, hr]; rfl)
  refine (ht.cell (by rw [block_of_add]; exact hb) ?_).trans hc1
  rw [block_of_add]
  rintro ⟨q, hq, ad2, e2, e3⟩
  refine (h.o.apart q hq ad2 e2).2 ?_
  rw [e, ← e3]
  rfl
end Go.Proofs.Ytogoaihimepboaa
