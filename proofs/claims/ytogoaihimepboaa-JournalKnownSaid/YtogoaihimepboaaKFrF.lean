/- The walk of refs: frames, as the reference has them, in new memory. Conditions: bodies of at most 2^47 - 4096 bytes; at most 2^40 frames. -/
import Derived.Test.YtogoaihimepboaaKFrS
namespace Go.Proofs.Ytogoaihimepboaa
open Go.RowKit

section
variable {ops : Array Oper} {o : Oper} {a : Act} {Q : Exit → Act → World → Prop} {w : World} {base : Nat} {v : Value} {K : Act → World → Prop} {E : Prop}
/-- A frame behind a list of the call's own, at a step of a region that draws its order. -/
theorem step_push_frame {t e : TypeId} (ht : FrSl t e) {N : Nat} (s x : Operand) {own : List Fr} (f : Fr) (hown : OwnsF e base w v own) (hbase : base ≤ w.heap.size) (hl : own.length ≤ 1099511627776) (hrow : RdB w w.heap.size f.r.A f.r.l) (hap : ∀ ad, f.r.A = some ad → ad.block < w.heap.size ∧ v.ownBlock ≠ some ad.block)
    (hgd : o.guard = none) (ho : o.op = .call { callee := .builtin .append, args := #[s, x], argTypes := #[t, t] })
    (hs : a.eval s = v) (hx : a.eval x = .slice (some ⟨N, 0, none⟩) 1 1) (hN : w.heap.size = N)
    (h : ∀ v' w', OwnsF e base w' v' (own ++ [f]) → Below base w w' → base ≤ w'.heap.size → K (a.put o.dst v') w') :
    if Region.wanted o (yielded ops a.tmps) = true then Oper.wp Try.prog o a (w.alloc (.cells #[.int .u8 (f.k.toNat : Int), .slice f.r.A f.r.l.length f.r.c] e)) K Q else E := by
  subst hN
  have hw : Region.wanted o (yielded ops a.tmps) = true := by simp [Region.wanted, hgd]
  rw [if_pos hw]
  obtain ⟨hu, hi⟩ := ht
  obtain ⟨i0, hi0, hz0, hz1, hz2⟩ := info_parts hi
  have hnew := (RdF.new w w.heap.size [f] e (Nat.le_refl _) (by intro g hg; simp only [List.mem_singleton] at hg; subst hg; exact hrow)).top
  refine wp_append_any (w.alloc (.cells #[.int .u8 (f.k.toNat : Int), .slice f.r.A f.r.l.length f.r.c] e)) s x t ho base e i0 _ 2 32 hu hi0 hz0 hz1 hz2 rfl (by omega) v _ _ hs (hown.head.alloc _) (w.heap.size + 1) _ 1 1 (fcells [f]) hx hnew (fcells_one _) (by simp only [maxLen]; omega) (by omega) (by simp; omega) ?_
  intro v1 w1 h1 h2 h3
  obtain ⟨hO, hb⟩ := frames_more f hown hbase hrow hap h1 h2 h3
  exact h v1 w1 hO hb (Nat.le_trans hbase hb.size)
end

end Go.Proofs.Ytogoaihimepboaa
