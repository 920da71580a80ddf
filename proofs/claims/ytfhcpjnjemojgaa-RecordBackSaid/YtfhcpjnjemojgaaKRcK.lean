/- Single operations over records. Conditions: none. -/
import Derived.Test.YtfhcpjnjemojgaaKRcJ
namespace Go.Proofs.Ytfhcpjnjemojgaa
open Go.RowKit Go.Lib

theorem wpList_runG {P : Program} {ops : Array Oper} {Q : Exit → Act → World → Prop} {o : Oper} {rest : List Oper} {a : Act} {w w' : World} {v : Value} (hw : Region.wanted o (yielded ops a.tmps) = true) (h : (execOp a.eval o).run P w = .ok (.value v) w')
    (hk : wpList P ops Q rest (a.put o.dst v) w') : wpList P ops Q (o :: rest) a w :=
  wpList_step fun K hK => by
    rw [if_pos hw]
    exact wp_valued h (hK _ _ hk)
theorem wpList_skip {P : Program} {ops : Array Oper} {Q : Exit → Act → World → Prop} {o : Oper} {rest : List Oper} {a : Act} {w : World} (hw : Region.wanted o (yielded ops a.tmps) = false)
    (hk : wpList P ops Q rest (a.put o.dst undef) w) : wpList P ops Q (o :: rest) a w :=
  wpList_step fun _ hK => by
    rw [if_neg (by rw [hw]; simp)]
    exact hK _ _ hk
theorem wpList_call {P : Program} {ops : Array Oper} {Q : Exit → Act → World → Prop} {o : Oper} {rest : List Oper} {a : Act} {w : World} {f : FuncId} {args : Array Value} (hg : o.guard = none) (h : (execOp a.eval o).run P w = .ok (.enter f args) w)
    (hk : Calls P f args w fun e w' => ∃ v, e = .returned v ∧ wpList P ops Q rest (a.put o.dst v) w') : wpList P ops Q (o :: rest) a w :=
  wpList_plain hg fun _ hK => wp_entered h (hk.mono fun _ _ ⟨v, e, h⟩ => ⟨v, e, hK _ _ h⟩)
theorem wpList_callG {P : Program} {ops : Array Oper} {Q : Exit → Act → World → Prop} {o : Oper} {rest : List Oper} {a : Act} {w : World} {f : FuncId} {args : Array Value} (hw : Region.wanted o (yielded ops a.tmps) = true) (h : (execOp a.eval o).run P w = .ok (.enter f args) w)
    (hk : Calls P f args w fun e w' => ∃ v, e = .returned v ∧ wpList P ops Q rest (a.put o.dst v) w') : wpList P ops Q (o :: rest) a w :=
  wpList_step fun _ hK => by
    rw [if_pos hw]
    exact wp_entered h (hk.mono fun _ _ ⟨v, e, h⟩ => ⟨v, e, hK _ _ h⟩)
theorem rc_ext {m n : Rc} (h1 : (m.k : Int) = n.k) (h2 : (m.p : Int) = n.p) (h3 : (m.i : Int) = n.i) (h4 : (m.q : Int) = n.q) (h5 : (m.e : Int) = n.e) (h6 : (m.u : Int) = n.u) (h7 : (m.r : Int) = n.r) (h8 : (m.c : Int) = n.c) (h9 : (m.z : Int) = n.z) (h10 : (m.s : Int) = n.s)
    (h11 : (txt m.n).toList = (txt n.n).toList) (h12 : (txt m.t).toList = (txt n.t).toList) : m = n := by
  rw [ByteArray.toList_eq, ByteArray.toList_eq, txt_data, txt_data] at h11 h12
  obtain ⟨k, p, i, q, e, u, r, c, z, s, l, t⟩ := m
  obtain ⟨k', p', i', q', e', u', r', c', z', s', l', t'⟩ := n
  simp only at *
  simp only [Rc.mk.injEq]
  exact ⟨by omega, by omega, by omega, by omega, by omega, by omega, by omega, by omega, by omega, by omega, h11, h12⟩
/-- Twelve cells that a record has. -/
structure Cells12 (x : Rc) (w : World) (g : Nat) : Prop where
  c : ∀ i, w.cell? ⟨g, i, none⟩ = x.cells[i]?
section
variable {b : Act} {w : World} {o : Oper}
theorem exec_loadRec {x : Operand} {g : Nat} {y : Rc} (ho : o.op = .load 24 x) (h : b.eval x = .pointer (some ⟨g, 0, none⟩)) (hc : Cells12 y w g) : (execOp b.eval o).run Try.prog w = .ok (.value y.v) w := by
  have c0 := hc.c 0
  have c1 := hc.c 1
  have c2 := hc.c 2
  have c3 := hc.c 3
  have c4 := hc.c 4
  have c5 := hc.c 5
  have c6 := hc.c 6
  have c7 := hc.c 7
  have c8 := hc.c 8
  have c9 := hc.c 9
  have c10 := hc.c 10
  have c11 := hc.c 11
  simp only [Rc.cells, List.getElem?_cons_zero, List.getElem?_cons_succ] at c0 c1 c2 c3 c4 c5 c6 c7 c8 c9 c10 c11
  unfold execOp
  simp only [ho, h]
  go_simp
  rfl
theorem exec_loadRRec {x : Operand} {g : Nat} {y : Rc} (ho : o.op = .load 31 x) (h : b.eval x = .pointer (some ⟨g, 0, none⟩)) (hc : Cells12 y w g) : (execOp b.eval o).run Try.prog w = .ok (.value y.v) w := by
  have c0 := hc.c 0
  have c1 := hc.c 1
  have c2 := hc.c 2
  have c3 := hc.c 3
  have c4 := hc.c 4
  have c5 := hc.c 5
  have c6 := hc.c 6
  have c7 := hc.c 7
  have c8 := hc.c 8
  have c9 := hc.c 9
  have c10 := hc.c 10
  have c11 := hc.c 11
  simp only [Rc.cells, List.getElem?_cons_zero, List.getElem?_cons_succ] at c0 c1 c2 c3 c4 c5 c6 c7 c8 c9 c10 c11
  unfold execOp
  simp only [ho, h]
  go_simp
  rfl
theorem exec_load8 {x : Operand} {a : Addr} {v : Value} (ho : o.op = .load 5 x) (h : b.eval x = .pointer (some a)) (h1 : w.cell? a = some v) : (execOp b.eval o).run Try.prog w = .ok (.value v) w := by
  unfold execOp
  simp only [ho, h]
  go_simp
theorem exec_buildK {x : Operand} {k : Nat} (ho : o.op = .build 24 #[(0, x)]) (h : b.eval x = .int .u8 (k : Int)) : (execOp b.eval o).run Try.prog w = .ok (.value (Rc.zero k).v) w := by
  unfold execOp
  simp only [ho, List.map_toArray, List.map_cons, List.map_nil, h]
  go_simp
  rfl
theorem exec_eqE {x y : Operand} {n m : Nat} (ho : o.op = .binOp .eql 28 x y 28) (h : b.eval x = .int .i64 (n : Int)) (h' : b.eval y = .int .i64 (m : Int)) : (execOp b.eval o).run Try.prog w = .ok (.value (.bool (decide (n = m)))) w := by
  have e : ((n : Int) == (m : Int)) = decide (n = m) := by
    by_cases hnm : n = m
    · subst hnm; simp
    · rw [decide_eq_false hnm, beq_eq_false_iff_ne]; omega
  unfold execOp
  simp only [ho, h, h']
  rw [← e]
  go_simp
theorem exec_eqRec {x y : Operand} {m n : Rc} (ho : o.op = .binOp .eql 24 x y 24) (h : b.eval x = m.v) (h' : b.eval y = n.v) : (execOp b.eval o).run Try.prog w = .ok (.value (.bool (decide (m = n)))) w := by
  unfold execOp
  simp only [ho, h, h', Rc.v]
  go_simp
  by_cases hmn : m = n
  · subst hmn
    simp
  · rw [decide_eq_false hmn]
    by_cases g0 : (m.k : Int) = n.k
    rotate_left
    · rw [if_neg g0]
    rw [if_pos g0]
    by_cases g1 : (m.p : Int) = n.p
    rotate_left
    · rw [if_neg g1]
    rw [if_pos g1]
    by_cases g2 : (m.i : Int) = n.i
    rotate_left
    · rw [if_neg g2]
    rw [if_pos g2]
    by_cases g3 : (m.q : Int) = n.q
    rotate_left
    · rw [if_neg g3]
    rw [if_pos g3]
    by_cases g4 : (m.e : Int) = n.e
    rotate_left
    · rw [if_neg g4]
    rw [if_pos g4]
    by_cases g5 : (m.u : Int) = n.u
    rotate_left
    · rw [if_neg g5]
    rw [if_pos g5]
    by_cases g6 : (m.r : Int) = n.r
    rotate_left
    · rw [if_neg g6]
    rw [if_pos g6]
    by_cases g7 : (m.c : Int) = n.c
    rotate_left
    · rw [if_neg g7]
    rw [if_pos g7]
    by_cases g8 : (m.z : Int) = n.z
    rotate_left
    · rw [if_neg g8]
    rw [if_pos g8]
    by_cases g9 : (m.s : Int) = n.s
    rotate_left
    · rw [if_neg g9]
    rw [if_pos g9]
    by_cases g10 : (txt m.n).toList = (txt n.n).toList
    rotate_left
    · rw [if_neg g10]
    rw [if_pos g10]
    by_cases g11 : (txt m.t).toList = (txt n.t).toList
    rotate_left
    · rw [if_neg g11]
    rw [if_pos g11]
    exact absurd (rc_ext g0 g1 g2 g3 g4 g5 g6 g7 g8 g9 g10 g11) hmn
theorem exec_eqRRec {x y : Operand} {m n : Rc} (ho : o.op = .binOp .eql 31 x y 31) (h : b.eval x = m.v) (h' : b.eval y = n.v) : (execOp b.eval o).run Try.prog w = .ok (.value (.bool (decide (m = n)))) w := by
  unfold execOp
  simp only [ho, h, h', Rc.v]
  go_simp
  by_cases hmn : m = n
  · subst hmn
    simp
  · rw [decide_eq_false hmn]
    by_cases g0 : (m.k : Int) = n.k
    rotate_left
    · rw [if_neg g0]
    rw [if_pos g0]
    by_cases g1 : (m.p : Int) = n.p
    rotate_left
    · rw [if_neg g1]
    rw [if_pos g1]
    by_cases g2 : (m.i : Int) = n.i
    rotate_left
    · rw [if_neg g2]
    rw [if_pos g2]
    by_cases g3 : (m.q : Int) = n.q
    rotate_left
    · rw [if_neg g3]
    rw [if_pos g3]
    by_cases g4 : (m.e : Int) = n.e
    rotate_left
    · rw [if_neg g4]
    rw [if_pos g4]
    by_cases g5 : (m.u : Int) = n.u
    rotate_left
    · rw [if_neg g5]
    rw [if_pos g5]
    by_cases g6 : (m.r : Int) = n.r
    rotate_left
    · rw [if_neg g6]
    rw [if_pos g6]
    by_cases g7 : (m.c : Int) = n.c
    rotate_left
    · rw [if_neg g7]
    rw [if_pos g7]
    by_cases g8 : (m.z : Int) = n.z
    rotate_left
    · rw [if_neg g8]
    rw [if_pos g8]
    by_cases g9 : (m.s : Int) = n.s
    rotate_left
    · rw [if_neg g9]
    rw [if_pos g9]
    by_cases g10 : (txt m.n).toList = (txt n.n).toList
    rotate_left
    · rw [if_neg g10]
    rw [if_pos g10]
    by_cases g11 : (txt m.t).toList = (txt n.t).toList
    rotate_left
    · rw [if_neg g11]
    rw [if_pos g11]
    exact absurd (rc_ext g0 g1 g2 g3 g4 g5 g6 g7 g8 g9 g10 g11) hmn
end
end Go.Proofs.Ytfhcpjnjemojgaa
