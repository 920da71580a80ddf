/- One byte, or a row of bytes, behind a row of the call's own; a new row read. Conditions: rows of at most 2^41 bytes. -/
import Derived.Test.YtlehkgogcbdckaaBase
import Derived.OwnWalk
namespace Go.Proofs.Ytlehkgogcbdckaa
open Go.RowKit

theorem Try.info5 : (Try.prog.info? 5).map (fun i => (i.zero, i.size, i.bytes)) = some (some (.int .u8 0), 1, 1) := by kernel_rfl
theorem reads_new (w : World) (t : TypeId) (xs : List Value) : Reads (w.alloc (.cells xs.toArray t)) (w.heap.size + 1) 1 (some ⟨w.heap.size, 0, none⟩) xs.length xs := by
  refine ⟨by omega, fun _ => ⟨_, rfl, by simp, fun j u hu => ?_⟩⟩
  have hadd : (⟨w.heap.size, 0, none⟩ : Addr).add j = ⟨w.heap.size, j, none⟩ := by unfold Addr.add; split <;> simp_all
  rw [hadd, cell_of_row (w.alloc (.cells xs.toArray t)) w.heap.size j xs.toArray t (0, 0) (heap_alloc_new w _)]
  simpa using hu
/-- One byte more at the end of a row. -/
theorem reads_byte (w : World) (t : TypeId) (x : Int) (c : UInt8) (h : x = (c.toNat : Int)) : Reads (w.alloc (.cells #[.int .u8 x] t)) (w.heap.size + 1) 1 (some ⟨w.heap.size, 0, none⟩) 1 (bs [c]) := by
  subst h
  exact reads_new w t (bs [c])
theorem reads_lit (W : World) {xs : List Value} {l : List UInt8} (hx : xs = bs l) : RdB (W.alloc (.cells xs.toArray 5)) (W.heap.size + 1) (some ⟨W.heap.size, 0, none⟩) l := by
  subst hx
  have := reads_new W 5 (bs l)
  rwa [bs_len] at this

section
variable {ops : Array Oper} {rest : List Oper} {o : Oper} {a : Act} {Q : Exit → Act → World → Prop} {w : World} {base : Nat} {v : Value}
theorem push_byte (s x : Operand) {l : List UInt8} (xi : Int) (c : UInt8) (hown : w.ownsRow base 5 1 v l.length (bs l)) (hbase : base ≤ w.heap.size) (hl : l.length ≤ 140737488355327) (hc : xi = (c.toNat : Int))
    (hgd : o.guard = none) (ho : o.op = .call { callee := .builtin .append, args := #[s, x], argTypes := #[29, 29] })
    (hs : a.eval s = v) (hx : a.eval x = .slice (some ⟨w.heap.size, 0, none⟩) 1 1)
    (h : ∀ v' w', w'.ownsRow base 5 1 v' (l ++ [c]).length (bs (l ++ [c])) → Below base w w' → base ≤ w'.heap.size → wpList Try.prog ops Q rest (a.put o.dst v') w') :
    wpList Try.prog ops Q (o :: rest) a (w.alloc (.cells #[.int .u8 xi] 5)) := by
  obtain ⟨i0, hi0, hz0, hz1, hz2⟩ := info_parts Try.info5
  refine wpList_append_any _ hgd s x _ ho base 5 i0 _ 1 1 Try.underlying29 hi0 hz0 hz1 hz2 rfl (by omega) v _ _ hs (hown.alloc _) (w.heap.size + 1) _ 1 1 (bs [c]) hx (reads_byte _ _ _ _ hc) (bs_one _) (by simp only [maxLen]; omega) (by omega) (by simp; omega) ?_
  intro v1 w1 h1 h2 _
  have hb := ((Below.refl base w).alloc hbase _).trans (grown_below (hown.alloc (.cells #[.int .u8 xi] 5)) h2 (by simp; omega))
  refine h v1 w1 ?_ hb (Nat.le_trans hbase hb.size)
  rw [bs_append]
  simpa using h1
/-- A row of bytes behind a row of the call's own. -/
theorem push_row (s x : Operand) {l m : List UInt8} {B : Nat} {A : Option Addr} {c : Nat} (hown : w.ownsRow base 5 1 v l.length (bs l)) (hbase : base ≤ w.heap.size) (hr : RdB w B A m) (hl : l.length + m.length ≤ 140737488355327)
    (hgd : o.guard = none) (ho : o.op = .call { callee := .builtin .append, args := #[s, x], argTypes := #[29, 29] })
    (hs : a.eval s = v) (hx : a.eval x = .slice A m.length c)
    (h : ∀ v' w', w'.ownsRow base 5 1 v' (l ++ m).length (bs (l ++ m)) → Below base w w' → base ≤ w'.heap.size → w.grownBy w' v.ownBlock → wpList Try.prog ops Q rest (a.put o.dst v') w') :
    wpList Try.prog ops Q (o :: rest) a w := by
  obtain ⟨i0, hi0, hz0, hz1, hz2⟩ := info_parts Try.info5
  refine wpList_append_any _ hgd s x _ ho base 5 i0 _ 1 1 Try.underlying29 hi0 hz0 hz1 hz2 rfl (by omega) v _ _ hs hown B A m.length c (bs m) hx hr (bs_one _) (by simp only [maxLen]; omega) (by omega) hbase ?_
  intro v1 w1 h1 h2 _
  have hb := grown_below hown h2 hbase
  refine h v1 w1 ?_ hb (Nat.le_trans hbase hb.size) h2
  rw [bs_append, List.length_append]
  exact h1
end

/-! ### a row of noughts, and one byte of a row of the call's own written over -/
def noughts (n : Nat) : List UInt8 := List.replicate n 0
theorem noughts_len (n : Nat) : (noughts n).length = n := by simp [noughts]
theorem made_noughts (n : Nat) : (madeCells (Value.int .u8 0).cells (n * 1)).toList = bs (noughts n) := by
  unfold madeCells bs noughts
  rw [Array.toList_map, Array.toList_range, Nat.mul_one, List.map_replicate]
  apply List.ext_getElem
  · simp
  · intro i h1 h2
    simp [Value.cells, Nat.mod_one]
section
variable {ops : Array Oper} {rest : List Oper} {o : Oper} {a : Act} {Q : Exit → Act → World → Prop} {w : World}
theorem make_bytes (base : Nat) (l c : Operand) (n : Nat) (L C : Int) (hn : n ≤ 140737488351232) (hbase : base ≤ w.heap.size) (hgd : o.guard = none) (ho : o.op = .makeSlice 29 l c) (hl : a.eval l = .int .i64 L) (hc : a.eval c = .int .i64 C) (hL : L = (n : Int)) (hC : C = (n : Int))
    (h : ∀ w', w'.ownsRow base 5 1 (.slice (some ⟨w.heap.size, 0, none⟩) n n) n (bs (noughts n)) → Below w.heap.size w w' → w.heap.size ≤ w'.heap.size → wpList Try.prog ops Q rest (a.put o.dst (.slice (some ⟨w.heap.size, 0, none⟩) n n)) w') :
    wpList Try.prog ops Q (o :: rest) a w := by
  obtain ⟨i0, hi0, hz0, hz1, hz2⟩ := info_parts Try.info5
  refine wpList_make_full w hgd l c _ ho base 5 i0 _ 1 Try.underlying29 hi0 hz0 hz1 .i64 .i64 L C n hl hc hL hC (by rw [hz2]; omega) (by simp only [maxLen]; omega) hbase ?_
  intro w' hown hg
  rw [made_noughts] at hown
  have hb : Below w.heap.size w w' := (Below.refl _ w).grown hg (Nat.le_refl _) (fun k hk => by cases hk)
  exact h w' hown hb hb.size
end
/-- The same, as a rule for the walk. -/
theorem run_make_bytes (w : World) (n : Nat) (z : Int) (hz : z = (n : Int)) (hn : n ≤ 140737488351232) :
    (Instr.makeSlice 29 (.int .i64 z) (.int .i64 z)).run Try.prog w = .ok (.slice (some ⟨w.heap.size, 0, none⟩) n n) (w.alloc (.cells (bs (noughts n)).toArray 5)) := by
  subst hz
  obtain ⟨i0, hi0, hz0, hz1, hz2⟩ := info_parts Try.info5
  have h := run_make w 29 5 i0 _ Try.underlying29 hi0 hz0 .i64 .i64 (n : Int) (n : Int) (by omega) (by omega) (by rw [hz2]; omega) (by omega)
  have e : madeCells (Value.int .u8 0).cells (n * 1) = (bs (noughts n)).toArray := by rw [← made_noughts]
  rw [hz1, Int.toNat_natCast, e] at h
  exact h
/-- A new row is the call's own. -/
theorem own_new (w : World) (base : Nat) (l : List UInt8) (n : Nat) (hn : l.length = n) (hl : n ≤ 140737488351232) (hbase : base ≤ w.heap.size) :
    (w.alloc (.cells (bs l).toArray 5)).ownsRow base 5 1 (.slice (some ⟨w.heap.size, 0, none⟩) n n) n (bs l) := by
  subst hn
  refine ⟨by rw [bs_len]; omega, .inr ⟨w.heap.size, l.length, (bs l).toArray, rfl, hbase, heap_alloc_new w _, Nat.le_refl _, by simp only [maxLen]; omega, by simp [bs_len], ?_⟩⟩
  rw [List.take_of_length_le (by simp [bs_len])]
theorem bs_set (l : List UInt8) (k : Nat) (x : UInt8) : (bs l).set k (.int .u8 (x.toNat : Int)) = bs (l.set k x) := by
  unfold bs
  rw [List.map_set]
theorem own_set {w : World} {base g n cap k : Nat} {l : List UInt8} {x : Int} (b : UInt8) (h : w.ownsRow base 5 1 (.slice (some ⟨g, 0, none⟩) n cap) n (bs l)) (hx : x = (b.toNat : Int)) :
    (w.setCell ⟨g, k, none⟩ (.int .u8 x)).ownsRow base 5 1 (.slice (some ⟨g, 0, none⟩) n cap) n (bs (l.set k b)) ∧ w.grownBy (w.setCell ⟨g, k, none⟩ (.int .u8 x)) (some g) := by
  subst hx
  have := h.stored k (.int .u8 (b.toNat : Int))
  rwa [bs_set] at this
theorem own_cell {w : World} {base g n cap k : Nat} {l : List UInt8} (h : w.ownsRow base 5 1 (.slice (some ⟨g, 0, none⟩) n cap) n (bs l)) (hk : k < n) : ∃ x : UInt8, w.cell? ⟨g, k, none⟩ = some (.int .u8 (x.toNat : Int)) ∧ Hid (l[k]? = some x) := by
  have hl : l.length = n := by have := h.1; rw [bs_len] at this; omega
  rw [h.cellAt k (by omega), bs_get (by omega)]
  exact ⟨_, rfl, by simp [Hid, hl, hk]⟩
theorem own_len {w : World} {base n : Nat} {e : TypeId} {v : Value} {l : List UInt8} (h : w.ownsRow base e 1 v n (bs l)) : l.length = n := by have := h.1; rw [bs_len] at this; omega
end Go.Proofs.Ytlehkgogcbdckaa
