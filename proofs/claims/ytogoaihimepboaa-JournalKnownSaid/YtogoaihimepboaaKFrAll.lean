/- A list of frames of the call's own; the walks of frame.All, and of the document's All. Conditions: bytes of at most 2^40. -/
import Derived.Test.YtogoaihimepboaaKFrO
namespace Go.Proofs.Ytogoaihimepboaa
open Go.RowKit

/-- A list of frames that the call owns: its block is none of the bodies'. -/
structure OwnsF (e : TypeId) (base : Nat) (w : World) (v : Value) (own : List Fr) : Prop where
  head : w.ownsRow base e 2 v own.length (fcells own)
  row : ∀ f ∈ own, RdB w w.heap.size f.r.A f.r.l
  apart : ∀ f ∈ own, ∀ ad, f.r.A = some ad → ad.block < w.heap.size ∧ v.ownBlock ≠ some ad.block
theorem OwnsF.nil (e : TypeId) (base : Nat) (w : World) : OwnsF e base w (.slice none 0 0) [] := ⟨World.ownsRow_nil _ _ _ _, by simp, by simp⟩
theorem OwnsF.below {e : TypeId} {base : Nat} {w w' : World} {v : Value} {own : List Fr} (h : OwnsF e base w v own) (hb : Below w.heap.size w w') : OwnsF e base w' v own :=
  ⟨own_below h.head hb (Nat.le_refl _), fun r hr => Reads.more (Reads.below (h.row r hr) hb) hb.size, fun r hr ad e => ⟨Nat.lt_of_lt_of_le (h.apart r hr ad e).1 hb.size, (h.apart r hr ad e).2⟩⟩
theorem OwnsF.alloc {e : TypeId} {base : Nat} {w : World} {v : Value} {own : List Fr} (h : OwnsF e base w v own) (o : Obj) : OwnsF e base (w.alloc o) v own := h.below ((Below.refl _ _).alloc (Nat.le_refl _) o)
/-- It reads so. -/
theorem OwnsF.reads {e : TypeId} {base : Nat} {w : World} {v : Value} {own : List Fr} (h : OwnsF e base w v own) : ∃ A c, v = .slice A own.length c ∧ own.length ≤ c ∧ RdF w w.heap.size A own := by
  obtain ⟨A, c, hv, hc, _, hr⟩ := own_form h.head
  exact ⟨A, c, hv, hc, hr, h.row⟩
/-- A type of slices of frames. -/
def FrSl (t e : TypeId) : Prop := Try.prog.underlying t = some (.slice e) ∧ (Try.prog.info? e).map (fun i => (i.zero, i.size, i.bytes)) = some (some (.agg #[.int .u8 0, .slice none 0 0]), 2, 32)
theorem frSl1 : FrSl 68 58 := ⟨Try.underlying68, by kernel_rfl⟩
section
variable {ops : Array Oper} {rest : List Oper} {o : Oper} {a : Act} {Q : Exit → Act → World → Prop} {w : World} {base : Nat} {v : Value}
theorem frames_more {t e : TypeId} {own : List Fr} (f : Fr) (hown : OwnsF e base w v own) (hbase : base ≤ w.heap.size) (hrow : RdB w w.heap.size f.r.A f.r.l) (hap : ∀ ad, f.r.A = some ad → ad.block < w.heap.size ∧ v.ownBlock ≠ some ad.block)
    {v1 : Value} {w1 : World} (h1 : w1.ownsRow base e 2 v1 (own.length + 1) (fcells own ++ fcells [f])) (h2 : (w.alloc (.cells (fcells [f]).toArray t)).grownBy w1 v.ownBlock) (h3 : v1.ownBlock = v.ownBlock ∨ v1.ownBlock = some (w.alloc (.cells (fcells [f]).toArray t)).heap.size) :
    OwnsF e base w1 v1 (own ++ [f]) ∧ Below base w w1 := by
  have hb := ((Below.refl base w).alloc hbase _).trans (grown_below (hown.head.alloc (.cells (fcells [f]).toArray t)) h2 (by simp; omega))
  have hsz : w.heap.size + 1 ≤ w1.heap.size := by have := h2.size; simpa using this
  have hall : ∀ q ∈ own ++ [f], RdB w w.heap.size q.r.A q.r.l ∧ ∀ ad, q.r.A = some ad → ad.block < w.heap.size ∧ v.ownBlock ≠ some ad.block := by
    intro q hq
    rw [List.mem_append, List.mem_singleton] at hq
    rcases hq with hq | rfl
    · exact ⟨hown.row q hq, hown.apart q hq⟩
    · exact ⟨hrow, hap⟩
  refine ⟨⟨?_, fun q hq => ?_, fun q hq ad e => ?_⟩, hb⟩
  · rw [fcells_append, List.length_append]
    exact h1
  · have := (Reads.alloc (hall q hq).1 (Nat.le_refl _) (.cells (fcells [f]).toArray t)).grown_apart h2 (by simp) (fun ad e => ((hall q hq).2 ad e).2)
    exact this.more (by omega)
  · obtain ⟨hlt, hne⟩ := (hall q hq).2 ad e
    refine ⟨by omega, ?_⟩
    rcases h3 with h3 | h3
    · rw [h3]; exact hne
    · rw [h3]
      intro e'
      injection e' with e'
      simp at e'
      omega
/-- A frame behind a list of the call's own. -/
theorem push_frame {t e : TypeId} (ht : FrSl t e) {N : Nat} (s x : Operand) {own : List Fr} (f : Fr) (hown : OwnsF e base w v own) (hbase : base ≤ w.heap.size) (hl : own.length ≤ 1099511627776) (hrow : RdB w w.heap.size f.r.A f.r.l) (hap : ∀ ad, f.r.A = some ad → ad.block < w.heap.size ∧ v.ownBlock ≠ some ad.block)
    (hgd : o.guard = none) (ho : o.op = .call { callee := .builtin .append, args := #[s, x], argTypes := #[t, t] })
    (hs : a.eval s = v) (hx : a.eval x = .slice (some ⟨N, 0, none⟩) 1 1) (hN : w.heap.size = N)
    (h : ∀ v' w', OwnsF e base w' v' (own ++ [f]) → Below base w w' → base ≤ w'.heap.size → wpList Try.prog ops Q rest (a.put o.dst v') w') :
    wpList Try.prog ops Q (o :: rest) a (w.alloc (.cells #[.int .u8 (f.k.toNat : Int), .slice f.r.A f.r.l.length f.r.c] e)) := by
  subst hN
  obtain ⟨hu, hi⟩ := ht
  obtain ⟨i0, hi0, hz0, hz1, hz2⟩ := info_parts hi
  have hnew := (RdF.new w w.heap.size [f] e (Nat.le_refl _) (by intro g hg; simp only [List.mem_singleton] at hg; subst hg; exact hrow)).top
  refine wpList_append_any _ hgd s x t ho base e i0 _ 2 32 hu hi0 hz0 hz1 hz2 rfl (by omega) v _ _ hs (hown.head.alloc _) (w.heap.size + 1) _ 1 1 (fcells [f]) hx hnew (fcells_one _) (by simp only [maxLen]; omega) (by omega) (by simp; omega) ?_
  intro v1 w1 h1 h2 h3
  obtain ⟨hO, hb⟩ := frames_more f hown hbase hrow hap h1 h2 h3
  exact h v1 w1 hO hb (Nat.le_trans hbase hb.size)
end

/-- All's answer as a value, in a world. -/
def AllVal (ty : TypeId) (base : Nat) (b : List UInt8) (e : Ending) (w' : World) : Prop :=
  ∃ (v : Value) (own : List Fr) (g : Nat), e = .returned (.tuple #[v, .int .i64 (g : Int)]) ∧ OwnsF ty base w' v own ∧ AllF b (fks own) g ∧ g ≤ b.length ∧ own.length ≤ b.length ∧ ∀ f ∈ own, f.r.l.length ≤ 65535

end Go.Proofs.Ytogoaihimepboaa
