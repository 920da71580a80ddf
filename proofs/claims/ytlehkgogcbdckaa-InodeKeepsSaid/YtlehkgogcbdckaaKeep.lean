/- Appends that tell which blocks stay: variables of the call that lie apart from the row. Conditions: rows of at most 2^47 bytes. -/
import Derived.Test.YtlehkgogcbdckaaPush
namespace Go.Proofs.Ytlehkgogcbdckaa
open Go.RowKit

/-- What is apart from the row stays as it was, and apart from the row that comes of it. -/
def Kept (v v' : Value) (w w' : World) : Prop := ∀ M, M < w.heap.size → v.ownBlock ≠ some M → v'.ownBlock ≠ some M ∧ w'.heap[M]? = w.heap[M]?
theorem Kept.of {v v' : Value} {w w' : World} (hg : w.grownBy w' v.ownBlock) (h : v'.ownBlock = v.ownBlock ∨ v'.ownBlock = some w.heap.size) : Kept v v' w w' := by
  intro M hM hne
  refine ⟨?_, hg.block M hM (fun e => hne e.symm)⟩
  rcases h with h | h
  · rw [h]; exact hne
  · rw [h]
    intro e
    injection e with e
    omega
theorem Kept.alloc {v v' : Value} {w w' : World} {o : Obj} (h : Kept v v' (w.alloc o) w') : Kept v v' w w' := by
  intro M hM hne
  obtain ⟨h1, h2⟩ := h M (by simp; omega) hne
  exact ⟨h1, h2.trans (heap_alloc_old w o hM)⟩
theorem Kept.cell {v v' : Value} {w w' : World} (h : Kept v v' w w') {p : Addr} (hp : p.block < w.heap.size) (hne : v.ownBlock ≠ some p.block) : w'.cell? p = w.cell? p :=
  World.cell?_of_block (h p.block hp hne).2
theorem Kept.apart {v v' : Value} {w w' : World} (h : Kept v v' w w') {M : Nat} (hp : M < w.heap.size) (hne : v.ownBlock ≠ some M) : v'.ownBlock ≠ some M := (h M hp hne).1
/-- A row that was there is apart from what comes new. -/
theorem own_ne {w : World} {base n : Nat} {e : TypeId} {v : Value} {xs : List Value} {size M : Nat} (h : w.ownsRow base e size v n xs) (hM : w.heap.size ≤ M) : v.ownBlock ≠ some M := by
  intro e
  have := (h.lt M e).2
  omega

theorem own_setCell {w : World} {base n size : Nat} {e : TypeId} {v : Value} {xs : List Value} {p : Addr} (h : w.ownsRow base e size v n xs) (hg : v.ownBlock ≠ some p.block) (u : Value) : (w.setCell p u).ownsRow base e size v n xs := by
  refine ⟨h.1, ?_⟩
  rcases h.2 with hn | ⟨b, cap, cur, rfl, hb, hgg, rest⟩
  · exact .inl hn
  · refine .inr ⟨b, cap, cur, rfl, hb, ?_, rest⟩
    rw [heap_setCell_other w _ _ _ (by intro e; subst e; exact hg rfl)]
    exact hgg
theorem own_setRow {w : World} {base n g size : Nat} {e : TypeId} {v : Value} {xs : List Value} (h : w.ownsRow base e size v n xs) (hg : v.ownBlock ≠ some g) (cs : Array Value) : (w.setRow g cs).ownsRow base e size v n xs := by
  refine ⟨h.1, ?_⟩
  rcases h.2 with hn | ⟨b, cap, cur, rfl, hb, hgg, rest⟩
  · exact .inl hn
  · refine .inr ⟨b, cap, cur, rfl, hb, ?_, rest⟩
    rw [setRow_other w g b cs (by intro e; subst e; exact hg rfl)]
    exact hgg

section
variable {ops : Array Oper} {rest : List Oper} {o : Oper} {a : Act} {Q : Exit → Act → World → Prop} {w : World} {base : Nat} {v : Value}
theorem push_byteK {N : Nat} (s x : Operand) {l : List UInt8} (xi : Int) (c : UInt8) (hown : w.ownsRow base 5 1 v l.length (bs l)) (hbase : base ≤ w.heap.size) (hl : l.length ≤ 140737488355327) (hc : xi = (c.toNat : Int))
    (hgd : o.guard = none) (ho : o.op = .call { callee := .builtin .append, args := #[s, x], argTypes := #[29, 29] })
    (hs : a.eval s = v) (hx : a.eval x = .slice (some ⟨N, 0, none⟩) 1 1) (hN : w.heap.size = N)
    (h : ∀ v' w', w'.ownsRow base 5 1 v' (l ++ [c]).length (bs (l ++ [c])) → Below base w w' → base ≤ w'.heap.size → w.heap.size ≤ w'.heap.size → Kept v v' w w' → wpList Try.prog ops Q rest (a.put o.dst v') w') :
    wpList Try.prog ops Q (o :: rest) a (w.alloc (.cells #[.int .u8 xi] 5)) := by
  subst hN
  obtain ⟨i0, hi0, hz0, hz1, hz2⟩ := info_parts Try.info5
  refine wpList_append_any _ hgd s x _ ho base 5 i0 _ 1 1 Try.underlying29 hi0 hz0 hz1 hz2 rfl (by omega) v _ _ hs (hown.alloc _) (w.heap.size + 1) _ 1 1 (bs [c]) hx (reads_byte _ _ _ _ hc) (bs_one _) (by simp only [maxLen]; omega) (by omega) (by simp; omega) ?_
  intro v1 w1 h1 h2 h3
  have hb := ((Below.refl base w).alloc hbase _).trans (grown_below (hown.alloc (.cells #[.int .u8 xi] 5)) h2 (by simp; omega))
  have hsz : w.heap.size ≤ w1.heap.size := by have := h2.size; simp at this; omega
  refine h v1 w1 ?_ hb (Nat.le_trans hbase hb.size) hsz (Kept.alloc (Kept.of h2 h3))
  rw [bs_append]
  simpa using h1
theorem push_rowK (s x : Operand) {l m : List UInt8} {B : Nat} {A : Option Addr} {c : Nat} (hown : w.ownsRow base 5 1 v l.length (bs l)) (hbase : base ≤ w.heap.size) (hr : RdB w B A m) (hl : l.length + m.length ≤ 140737488355327)
    (hgd : o.guard = none) (ho : o.op = .call { callee := .builtin .append, args := #[s, x], argTypes := #[29, 29] })
    (hs : a.eval s = v) (hx : a.eval x = .slice A m.length c)
    (h : ∀ v' w', w'.ownsRow base 5 1 v' (l ++ m).length (bs (l ++ m)) → Below base w w' → base ≤ w'.heap.size → w.heap.size ≤ w'.heap.size → Kept v v' w w' → wpList Try.prog ops Q rest (a.put o.dst v') w') :
    wpList Try.prog ops Q (o :: rest) a w := by
  obtain ⟨i0, hi0, hz0, hz1, hz2⟩ := info_parts Try.info5
  refine wpList_append_any _ hgd s x _ ho base 5 i0 _ 1 1 Try.underlying29 hi0 hz0 hz1 hz2 rfl (by omega) v _ _ hs hown B A m.length c (bs m) hx hr (bs_one _) (by simp only [maxLen]; omega) (by omega) hbase ?_
  intro v1 w1 h1 h2 h3
  have hb := grown_below hown h2 hbase
  refine h v1 w1 ?_ hb (Nat.le_trans hbase hb.size) h2.size (Kept.of h2 h3)
  rw [bs_append, List.length_append]
  exact h1
theorem push_rowN {n : Nat} (s x : Operand) {l m : List UInt8} {B : Nat} {A : Option Addr} {c : Nat} (hm : m.length = n) (hown : w.ownsRow base 5 1 v l.length (bs l)) (hbase : base ≤ w.heap.size) (hr : RdB w B A m) (hl : l.length + m.length ≤ 140737488355327)
    (hgd : o.guard = none) (ho : o.op = .call { callee := .builtin .append, args := #[s, x], argTypes := #[29, 29] })
    (hs : a.eval s = v) (hx : a.eval x = .slice A n c)
    (h : ∀ v' w', w'.ownsRow base 5 1 v' (l ++ m).length (bs (l ++ m)) → Below base w w' → base ≤ w'.heap.size → w.heap.size ≤ w'.heap.size → Kept v v' w w' → wpList Try.prog ops Q rest (a.put o.dst v') w') :
    wpList Try.prog ops Q (o :: rest) a w := by
  subst hm
  exact push_rowK s x hown hbase hr hl hgd ho hs hx h
/-- The same, at a step of a region that draws its order. -/
theorem step_push {n : Nat} {K : Act → World → Prop} {E : Prop} (s x : Operand) {l m : List UInt8} {B : Nat} {A : Option Addr} {c : Nat} (hm : m.length = n) (hown : w.ownsRow base 5 1 v l.length (bs l)) (hbase : base ≤ w.heap.size) (hr : RdB w B A m) (hl : l.length + m.length ≤ 140737488355327)
    (hgd : o.guard = none) (ho : o.op = .call { callee := .builtin .append, args := #[s, x], argTypes := #[29, 29] })
    (hs : a.eval s = v) (hx : a.eval x = .slice A n c)
    (h : ∀ v' w', w'.ownsRow base 5 1 v' (l ++ m).length (bs (l ++ m)) → Below base w w' → base ≤ w'.heap.size → w.heap.size ≤ w'.heap.size → Kept v v' w w' → K (a.put o.dst v') w') :
    if Region.wanted o (yielded ops a.tmps) = true then Oper.wp Try.prog o a w K Q else E := by
  subst hm
  have hw : Region.wanted o (yielded ops a.tmps) = true := by simp [Region.wanted, hgd]
  rw [if_pos hw]
  obtain ⟨i0, hi0, hz0, hz1, hz2⟩ := info_parts Try.info5
  refine wp_append_any w s x _ ho base 5 i0 _ 1 1 Try.underlying29 hi0 hz0 hz1 hz2 rfl (by omega) v _ _ hs hown B A m.length c (bs m) hx hr (bs_one _) (by simp only [maxLen]; omega) (by omega) hbase ?_
  intro v1 w1 h1 h2 h3
  have hb := grown_below hown h2 hbase
  refine h v1 w1 ?_ hb (Nat.le_trans hbase hb.size) h2.size (Kept.of h2 h3)
  rw [bs_append, List.length_append]
  exact h1
end
/-! ### parts of a row, as rules for the walk -/
theorem run_back (w : World) (A : Option Addr) {n m c : Nat} (hm : m ≤ n) (hc : n ≤ c) :
    (Instr.slice 29 (.slice A n c) (some (.int .i64 (m : Int))) none none).run Try.prog w = .ok (.slice (if c = m then A else A.map (·.add m)) (n - m) (c - m)) w := by
  have hm' : (m : Int) ≤ n := by omega
  have hc' : (n : Int) ≤ c := by omega
  go_simp
theorem run_front (w : World) (A : Option Addr) {n m c : Nat} (hm : m ≤ c) :
    (Instr.slice 29 (.slice A n c) none (some (.int .i64 (m : Int))) none).run Try.prog w = .ok (.slice A m c) w := by
  have hm' : (m : Int) ≤ c := by omega
  go_simp
theorem run_mid (w : World) (A : Option Addr) {n m k c : Nat} (hm : m ≤ k) (hk : k ≤ c) :
    (Instr.slice 29 (.slice A n c) (some (.int .i64 (m : Int))) (some (.int .i64 (k : Int))) none).run Try.prog w = .ok (.slice (if c = m then A else A.map (·.add m)) (k - m) (c - m)) w := by
  have hm' : (m : Int) ≤ k := by omega
  have hc' : (k : Int) ≤ c := by omega
  go_simp
end Go.Proofs.Ytlehkgogcbdckaa
