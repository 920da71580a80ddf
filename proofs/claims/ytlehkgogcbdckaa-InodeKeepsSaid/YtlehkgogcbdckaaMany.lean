/- A slice of rows of bytes, as a slice value reads. Conditions: none. -/
import Derived.Test.YtlehkgogcbdckaaPush
namespace Go.Proofs.Ytlehkgogcbdckaa
open Go.RowKit

/-- A row of bytes as a slice value, and what it reads as. -/
structure Row where
  A : Option Addr
  c : Nat
  l : List UInt8
def Row.v (r : Row) : Value := .slice r.A r.l.length r.c
/-- Rows of bytes, as a slice value reads. -/
structure RdR (w : World) (B : Nat) (A : Option Addr) (rows : List Row) : Prop where
  top : Reads w B 1 A rows.length (rows.map Row.v)
  row : ∀ r ∈ rows, RdB w B r.A r.l
/-- All bytes, one row behind the other. -/
def bytes (rows : List Row) : List UInt8 := rows.flatMap (·.l)
section
variable {w w' : World} {B B' : Nat} {A : Option Addr} {rows : List Row}
theorem RdR.keep (h : RdR w B A rows) (hk : ∀ p : Addr, p.block < B → w'.cell? p = w.cell? p) : RdR w' B A rows := ⟨h.top.keep hk, fun r hr => (h.row r hr).keep hk⟩
theorem RdR.below (h : RdR w B A rows) (hb : Below B w w') : RdR w' B A rows := ⟨h.top.below hb, fun r hr => (h.row r hr).below hb⟩
theorem RdR.more (h : RdR w B A rows) (hB : B ≤ B') : RdR w B' A rows := ⟨h.top.more hB, fun r hr => (h.row r hr).more hB⟩
theorem RdR.drew (h : RdR w B A rows) : RdR w.drew B A rows := ⟨h.top.drew, fun r hr => (h.row r hr).drew⟩
theorem RdR.drewN (h : RdR w B A rows) (k : Nat) : RdR (w.drewN k) B A rows := ⟨h.top.drewN k, fun r hr => (h.row r hr).drewN k⟩
theorem RdR.alloc (h : RdR w B A rows) (hB : B ≤ w.heap.size) (o : Obj) : RdR (w.alloc o) B A rows := ⟨h.top.alloc hB o, fun r hr => (h.row r hr).alloc hB o⟩
theorem RdR.at_ {k : Nat} (h : RdR w B A rows) (hk : k < rows.length) :
    ∃ (ad : Addr) (r : Row), A = some ad ∧ ad.block < B ∧ w.cell? (ad.add k) = some (.slice r.A r.l.length r.c) ∧ Hid (rows[k]? = some r) ∧ RdB w B r.A r.l := by
  obtain ⟨ad, u, e, hb, hx, hc⟩ := Reads.at_ h.top hk
  have hr : rows[k]? = some rows[k] := List.getElem?_eq_getElem hk
  rw [List.getElem?_map, hr] at hx
  injection hx with hx
  subst hx
  exact ⟨ad, _, e, hb, hc, hr, h.row _ (List.mem_of_getElem? hr)⟩
end
theorem bytes_snoc {rows : List Row} {k : Nat} {r : Row} (h : Hid (rows[k]? = some r)) : bytes (rows.take (k + 1)) = bytes (rows.take k) ++ r.l := by
  unfold bytes
  rw [take_snoc h, List.flatMap_append, List.flatMap_singleton]

/-- Rows, listed anew: from their headers' cells. -/
theorem RdR.new (w : World) (B : Nat) (rows : List Row) (t : TypeId) (hB : B ≤ w.heap.size) (h : ∀ r ∈ rows, RdB w B r.A r.l) : RdR (w.alloc (.cells (rows.map Row.v).toArray t)) (w.heap.size + 1) (some ⟨w.heap.size, 0, none⟩) rows := by
  have := reads_new w t (rows.map Row.v)
  rw [List.length_map] at this
  exact ⟨this, fun r hr => Reads.more ((h r hr).alloc hB _) (by omega)⟩

/-! ### a list of rows of the call's own -/
theorem info_row : (Try.prog.info? 29).map (fun i => (i.zero, i.size, i.bytes)) = some (some (.slice none 0 0), 1, 24) := by kernel_rfl
/-- A list of rows that the call owns: its header's block is none of the rows'. -/
structure Owns (base : Nat) (w : World) (v : Value) (own : List Row) : Prop where
  head : w.ownsRow base 29 1 v own.length (own.map Row.v)
  row : ∀ r ∈ own, RdB w w.heap.size r.A r.l
  apart : ∀ r ∈ own, ∀ ad, r.A = some ad → ad.block < w.heap.size ∧ v.ownBlock ≠ some ad.block
theorem Owns.nil (base : Nat) (w : World) : Owns base w (.slice none 0 0) [] := ⟨World.ownsRow_nil _ _ _ _, by simp, by simp⟩
theorem Owns.below {base : Nat} {w w' : World} {v : Value} {own : List Row} (h : Owns base w v own) (hb : Below w.heap.size w w') : Owns base w' v own :=
  ⟨own_below h.head hb (Nat.le_refl _), fun r hr => Reads.more (Reads.below (h.row r hr) hb) hb.size, fun r hr ad e => ⟨Nat.lt_of_lt_of_le (h.apart r hr ad e).1 hb.size, (h.apart r hr ad e).2⟩⟩
theorem Reads.grown_apart {w w' : World} {B size n : Nat} {A : Option Addr} {xs : List Value} {row : Option Nat} (h : Reads w B size A n xs) (hg : w.grownBy w' row) (hB : B ≤ w.heap.size) (hap : ∀ ad, A = some ad → row ≠ some ad.block) : Reads w' B size A n xs := by
  refine ⟨h.1, fun hn => ?_⟩
  obtain ⟨ad, e, hb, hc⟩ := h.2 hn
  refine ⟨ad, e, hb, fun j u hu => ?_⟩
  rw [← hc j u hu]
  refine World.cell?_of_block (hg.block _ ?_ ?_)
  · rw [block_of_add]; omega
  · rw [block_of_add]
    intro e'
    exact hap ad e e'.symm
/-- A row that was made, as one of a list: where it lies. -/
theorem own_apart {base n : Nat} {w : World} {e : TypeId} {A : Option Addr} {m c : Nat} {xs : List Value} (h : w.ownsRow base e 1 (.slice A m c) n xs) : ∀ ad, A = some ad → base ≤ ad.block ∧ ad.block < w.heap.size := by
  intro ad e
  subst e
  exact h.lt ad.block rfl
section
variable {ops : Array Oper} {rest : List Oper} {o : Oper} {a : Act} {Q : Exit → Act → World → Prop} {w : World} {base : Nat} {v : Value}
/-- A row behind a list of the call's own. -/
theorem push_slice (s x : Operand) {own : List Row} {A : Option Addr} {n c : Nat} (r : Row) (hr : Value.slice A n c = r.v) (hown : Owns base w v own) (hbase : base ≤ w.heap.size) (hl : own.length ≤ 1099511627776)
    (hrow : RdB w w.heap.size r.A r.l) (hap : ∀ ad, r.A = some ad → ad.block < w.heap.size ∧ v.ownBlock ≠ some ad.block)
    (hgd : o.guard = none) (ho : o.op = .call { callee := .builtin .append, args := #[s, x], argTypes := #[43, 43] })
    (hs : a.eval s = v) (hx : a.eval x = .slice (some ⟨w.heap.size, 0, none⟩) 1 1)
    (h : ∀ v' w', Owns base w' v' (own ++ [r]) → Below base w w' → base ≤ w'.heap.size → wpList Try.prog ops Q rest (a.put o.dst v') w') :
    wpList Try.prog ops Q (o :: rest) a (w.alloc (.cells #[.slice A n c] 29)) := by
  rw [hr]
  obtain ⟨i0, hi0, hz0, hz1, hz2⟩ := info_parts info_row
  have hnew := reads_new w 29 [r.v]
  refine wpList_append_any _ hgd s x _ ho base 29 i0 _ 1 24 Try.underlying43 hi0 hz0 hz1 hz2 rfl (by omega) v _ _ hs (hown.head.alloc _) (w.heap.size + 1) _ 1 1 [r.v] hx hnew (by intro u hu; simp only [List.mem_singleton] at hu; subst hu; rfl) (by simp only [maxLen]; omega) (by omega) (by simp; omega) ?_
  intro v1 w1 h1 h2 h3
  have hb := ((Below.refl base w).alloc hbase _).trans (grown_below (hown.head.alloc (.cells #[r.v] 29)) h2 (by simp; omega))
  have hsz : w.heap.size + 1 ≤ w1.heap.size := by have := h2.size; simpa using this
  have hall : ∀ q ∈ own ++ [r], RdB w w.heap.size q.A q.l ∧ ∀ ad, q.A = some ad → ad.block < w.heap.size ∧ v.ownBlock ≠ some ad.block := by
    intro q hq
    rw [List.mem_append, List.mem_singleton] at hq
    rcases hq with hq | rfl
    · exact ⟨hown.row q hq, hown.apart q hq⟩
    · exact ⟨hrow, hap⟩
  refine h v1 w1 ⟨?_, fun q hq => ?_, fun q hq ad e => ?_⟩ hb (Nat.le_trans hbase hb.size)
  · rw [List.map_append, List.length_append]
    exact h1
  · have := (Reads.alloc (hall q hq).1 (Nat.le_refl _) (.cells #[r.v] 29)).grown_apart h2 (by simp) (fun ad e => ((hall q hq).2 ad e).2)
    exact this.more (by omega)
  · obtain ⟨hlt, hne⟩ := (hall q hq).2 ad e
    refine ⟨by omega, ?_⟩
    rcases h3 with h3 | h3
    · rw [h3]; exact hne
    · rw [h3]
      intro e'
      injection e' with e'
      simp at e'
      omega
end

/-! ### single operations of a region that draws its order -/
section
variable {b : Act} {w : World} {o : Oper}
theorem exec_list1 {x : Operand} {A : Option Addr} {n c : Nat} (ho : o.op = .buildSlice 43 1 #[(0, x)]) (h : b.eval x = .slice A n c) :
    (execOp b.eval o).run Try.prog w = .ok (.value (.slice (some ⟨w.heap.size, 0, none⟩) 1 1)) (w.alloc (.cells #[.slice A n c] 29)) := by
  unfold execOp
  simp only [ho, List.map_toArray, List.map_cons, List.map_nil, h]
  go_simp
theorem exec_front {x y : Operand} {A : Option Addr} {n m c : Nat} (ho : o.op = .slice 29 x none (some y) none) (h : b.eval x = .slice A n c) (h' : b.eval y = .int .i64 (m : Int)) (hm : m ≤ c) :
    (execOp b.eval o).run Try.prog w = .ok (.value (.slice A m c)) w := by
  have hm' : (m : Int) ≤ c := by omega
  unfold execOp
  simp only [ho, Option.map_none, Option.map_some, h, h']
  go_simp
theorem exec_make {x y : Operand} {n : Nat} (ho : o.op = .makeSlice 29 x y) (h : b.eval x = .int .i64 (n : Int)) (h' : b.eval y = .int .i64 (n : Int)) (hn : n ≤ 140737488351232) :
    (execOp b.eval o).run Try.prog w = .ok (.value (.slice (some ⟨w.heap.size, 0, none⟩) n n)) (w.alloc (.cells (bs (noughts n)).toArray 5)) := by
  unfold execOp
  simp only [ho, h, h', Sem.run_bind, run_make_bytes w n (n : Int) rfl hn, Result.andThen_ok]
  rfl
theorem exec_back {x y : Operand} {A : Option Addr} {n m c : Nat} (ho : o.op = .slice 29 x (some y) none none) (h : b.eval x = .slice A n c) (h' : b.eval y = .int .i64 (m : Int)) (hm : m ≤ n) (hc : n ≤ c) :
    (execOp b.eval o).run Try.prog w = .ok (.value (.slice (if c = m then A else A.map (·.add m)) (n - m) (c - m))) w := by
  have hm' : (m : Int) ≤ n := by omega
  have hc' : (n : Int) ≤ c := by omega
  unfold execOp
  simp only [ho, Option.map_none, Option.map_some, h, h']
  go_simp
theorem exec_mid {x y z : Operand} {A : Option Addr} {n m k c : Nat} (ho : o.op = .slice 29 x (some y) (some z) none) (h : b.eval x = .slice A n c) (h' : b.eval y = .int .i64 (m : Int)) (h'' : b.eval z = .int .i64 (k : Int)) (hm : m ≤ k) (hk : k ≤ c) :
    (execOp b.eval o).run Try.prog w = .ok (.value (.slice (if c = m then A else A.map (·.add m)) (k - m) (c - m))) w := by
  have hm' : (m : Int) ≤ k := by omega
  have hc' : (k : Int) ≤ c := by omega
  unfold execOp
  simp only [ho, Option.map_none, Option.map_some, h, h', h'']
  go_simp
theorem exec_list3 {x y z : Operand} {A A' A'' : Option Addr} {n c n' c' n'' c'' : Nat} (ho : o.op = .buildSlice 43 3 #[(0, x), (1, y), (2, z)]) (h : b.eval x = .slice A n c) (h' : b.eval y = .slice A' n' c') (h'' : b.eval z = .slice A'' n'' c'') :
    (execOp b.eval o).run Try.prog w = .ok (.value (.slice (some ⟨w.heap.size, 0, none⟩) 3 3)) (w.alloc (.cells #[.slice A n c, .slice A' n' c', .slice A'' n'' c''] 29)) := by
  unfold execOp
  simp only [ho, List.map_toArray, List.map_cons, List.map_nil, h, h', h'']
  go_simp
theorem exec_empty (ho : o.op = .buildSlice 29 0 #[]) :
    (execOp b.eval o).run Try.prog w = .ok (.value (.slice (some ⟨w.heap.size, 0, none⟩) 0 0)) (w.alloc (.cells #[] 5)) := by
  unfold execOp
  simp only [ho, List.map_toArray, List.map_nil]
  go_simp
end
/-- A new list of three rows. -/
def Three (w : World) (v : Value) (l : List UInt8) : Prop := ∃ N r1 r2 r3, v = .slice (some ⟨N, 0, none⟩) 3 3 ∧ bytes [r1, r2, r3] = l ∧ RdR w w.heap.size (some ⟨N, 0, none⟩) [r1, r2, r3]
theorem Three.keep {w w' : World} {v : Value} {l : List UInt8} (h : Three w v l) (hb : Below w.heap.size w w') : Three w' v l := by
  obtain ⟨N, r1, r2, r3, e, hl, hr⟩ := h
  exact ⟨N, r1, r2, r3, e, hl, (hr.below hb).more hb.size⟩
theorem Three.new (w : World) (B : Nat) (A A' A'' : Option Addr) (n c n' c' n'' c'' : Nat) (l l' l'' m : List UInt8) (hn : l.length = n) (hn' : l'.length = n') (hn'' : l''.length = n'') (hm : l ++ (l' ++ l'') = m) (hB : B ≤ w.heap.size)
    (hr : RdB w B A l) (hr' : RdB w B A' l') (hr'' : RdB w B A'' l'') :
    Three (w.alloc (.cells #[.slice A n c, .slice A' n' c', .slice A'' n'' c''] 29)) (.slice (some ⟨w.heap.size, 0, none⟩) 3 3) m := by
  subst hn hn' hn'' hm
  have := RdR.new w B [⟨A, c, l⟩, ⟨A', c', l'⟩, ⟨A'', c'', l''⟩] 29 hB (by
    intro r hr'
    simp only [List.mem_cons, List.not_mem_nil, or_false] at hr'
    rcases hr' with rfl | rfl | rfl <;> assumption)
  exact ⟨_, ⟨A, c, l⟩, ⟨A', c', l'⟩, ⟨A'', c'', l''⟩, rfl, by simp [bytes], this.more (by simp)⟩
/-- A new list of one row. -/
def One (w : World) (v : Value) (l : List UInt8) : Prop := ∃ N r, v = .slice (some ⟨N, 0, none⟩) 1 1 ∧ Row.l r = l ∧ RdR w w.heap.size (some ⟨N, 0, none⟩) [r]
theorem One.keep {w w' : World} {v : Value} {l : List UInt8} (h : One w v l) (hb : Below w.heap.size w w') : One w' v l := by
  obtain ⟨N, r, e, hl, hr⟩ := h
  exact ⟨N, r, e, hl, (hr.below hb).more hb.size⟩
theorem One.new (w : World) (B : Nat) (A : Option Addr) (n c : Nat) (l : List UInt8) (hn : l.length = n) (hB : B ≤ w.heap.size) (hr : RdB w B A l) :
    One (w.alloc (.cells #[.slice A n c] 29)) (.slice (some ⟨w.heap.size, 0, none⟩) 1 1) l := by
  subst hn
  have := RdR.new w B [⟨A, c, l⟩] 29 hB (by intro r hr'; simp only [List.mem_singleton] at hr'; subst hr'; exact hr)
  exact ⟨_, ⟨A, c, l⟩, rfl, rfl, this.more (by simp)⟩
/-- What is left of a row behind its first k bytes. -/
theorem RdB.back {w : World} {B : Nat} {A : Option Addr} {l : List UInt8} (h : RdB w B A l) {k c : Nat} (hk : k ≤ l.length) (hc : l.length ≤ c) : RdB w B (if c = k then A else A.map (·.add k)) (l.drop k) := by
  have := Reads.cut h hk hc
  rw [Nat.mul_one] at this
  have e : (bs l).drop k = bs (l.drop k) := by simp [bs]
  rw [e] at this
  have e2 : (l.drop k).length = l.length - k := by simp
  rw [← e2] at this
  exact this
/-- The first n bytes of a row. -/
theorem RdB.first {w : World} {B : Nat} {A : Option Addr} {l : List UInt8} (h : RdB w B A l) {n : Nat} (hn : n ≤ l.length) : RdB w B A (l.take n) := by
  have hl : (l.take n).length = n := by rw [List.length_take]; omega
  refine ⟨by rw [bs_len]; omega, fun h0 => ?_⟩
  obtain ⟨ad, e, hb, hc⟩ := h.2 (by omega)
  refine ⟨ad, e, hb, fun j u hu => hc j u ?_⟩
  unfold bs at hu ⊢
  rw [List.map_take, List.getElem?_take] at hu
  split at hu
  · exact hu
  · cases hu
end Go.Proofs.Ytlehkgogcbdckaa
