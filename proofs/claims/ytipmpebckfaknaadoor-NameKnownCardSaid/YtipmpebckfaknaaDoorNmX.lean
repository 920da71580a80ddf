/- Single operations of a region that draws its order, over Names; a Name's box. Conditions: none. -/
import Derived.Test.YtipmpebckfaknaaDoorTail
import Derived.Test.YtipmpebckfaknaaDoorNmA
import Derived.Test.YtipmpebckfaknaaDoorNmC
namespace Go.Proofs.YtipmpebckfaknaaDoor
open Go.RowKit

/-- A Name that lies at an address. -/
structure BoxNm (x : Nm) (w : World) (a : Addr) : Prop where
  c0 : w.cell? a = some (.int .u8 (x.k : Int))
  c1 : w.cell? ⟨a.block, a.off + 1, none⟩ = some (.int .u64 (x.d : Int))
  c2 : w.cell? ⟨a.block, a.off + 2, none⟩ = some (.int .u64 (x.n : Int))
  c3 : w.cell? ⟨a.block, a.off + 3, none⟩ = some (.int .u64 (x.p : Int))
  c4 : w.cell? ⟨a.block, a.off + 4, none⟩ = some (.int .u64 (x.i : Int))
  c5 : w.cell? ⟨a.block, a.off + 5, none⟩ = some (.int .u64 (x.c : Int))
  lt : a.block < w.heap.size
theorem BoxNm.below {x : Nm} {w w' : World} {a : Addr} {B : Nat} (h : BoxNm x w a) (hb : Below B w w') (hB : a.block < B) : BoxNm x w' a :=
  ⟨(hb.cell hB).trans h.c0, (hb.cell (p := ⟨a.block, a.off + 1, none⟩) hB).trans h.c1, (hb.cell (p := ⟨a.block, a.off + 2, none⟩) hB).trans h.c2, (hb.cell (p := ⟨a.block, a.off + 3, none⟩) hB).trans h.c3, (hb.cell (p := ⟨a.block, a.off + 4, none⟩) hB).trans h.c4, (hb.cell (p := ⟨a.block, a.off + 5, none⟩) hB).trans h.c5, Nat.lt_of_lt_of_le h.lt hb.size⟩
theorem BoxNm.keep {x : Nm} {w w' : World} {a : Addr} (h : BoxNm x w a) (hb : Below w.heap.size w w') : BoxNm x w' a := h.below hb h.lt
theorem boxNm_of {x : Nm} {w : World} {g : Nat} {t : TypeId} {fr : Nat × Nat} (h : w.heap[g]? = some (.cells x.cells.toArray t fr)) : BoxNm x w ⟨g, 0, none⟩ := by
  have hc := fun j => cell_of_row w g j x.cells.toArray t fr h
  refine ⟨?_, ?_, ?_, ?_, ?_, ?_, (Array.getElem?_eq_some_iff.1 h).1⟩
  all_goals (first | exact hc 0 | exact hc 1 | exact hc 2 | exact hc 3 | exact hc 4 | exact hc 5)
theorem boxNm_new (x : Nm) (w : World) (t : TypeId) : BoxNm x (w.alloc (.cells x.cells.toArray t)) ⟨w.heap.size, 0, none⟩ := boxNm_of (heap_alloc_new w _)

/-- One operation of a region in order, by hand. -/
theorem wpList_run {P : Program} {ops : Array Oper} {Q : Exit → Act → World → Prop} {o : Oper} {rest : List Oper} {a : Act} {w w' : World} {v : Value} (hg : o.guard = none) (h : (execOp a.eval o).run P w = .ok (.value v) w')
    (hk : wpList P ops Q rest (a.put o.dst v) w') : wpList P ops Q (o :: rest) a w :=
  wpList_plain hg fun K hK => by
    unfold Oper.wp
    rw [h, Oper.upon_value]
    exact hK _ _ hk
section
variable {b : Act} {w : World} {o : Oper}
theorem exec_fieldN {x : Operand} {g f : Nat} (i : Nat) (hi : i < 6) (ho : o.op = .fieldAddr 24 x i) (h : b.eval x = .pointer (some ⟨g, f, none⟩)) : (execOp b.eval o).run Tryd.prog w = .ok (.value (.pointer (some ⟨g, f + i, none⟩))) w := by
  match i, hi with
  | 0, _ => unfold execOp; simp only [ho, h]; go_simp
  | 1, _ => unfold execOp; simp only [ho, h]; go_simp
  | 2, _ => unfold execOp; simp only [ho, h]; go_simp
  | 3, _ => unfold execOp; simp only [ho, h]; go_simp
  | 4, _ => unfold execOp; simp only [ho, h]; go_simp
  | 5, _ => unfold execOp; simp only [ho, h]; go_simp
theorem exec_fieldR {x : Operand} {g f : Nat} (i : Nat) (hi : i < 6) (ho : o.op = .fieldAddr 25 x i) (h : b.eval x = .pointer (some ⟨g, f, none⟩)) : (execOp b.eval o).run Tryd.prog w = .ok (.value (.pointer (some ⟨g, f + i, none⟩))) w := by
  match i, hi with
  | 0, _ => unfold execOp; simp only [ho, h]; go_simp
  | 1, _ => unfold execOp; simp only [ho, h]; go_simp
  | 2, _ => unfold execOp; simp only [ho, h]; go_simp
  | 3, _ => unfold execOp; simp only [ho, h]; go_simp
  | 4, _ => unfold execOp; simp only [ho, h]; go_simp
  | 5, _ => unfold execOp; simp only [ho, h]; go_simp
theorem exec_load8 {x : Operand} {a : Addr} {v : Value} (ho : o.op = .load 5 x) (h : b.eval x = .pointer (some a)) (h1 : w.cell? a = some v) : (execOp b.eval o).run Tryd.prog w = .ok (.value v) w := by
  unfold execOp
  simp only [ho, h]
  go_simp
theorem exec_load64 {x : Operand} {a : Addr} {v : Value} (ho : o.op = .load 22 x) (h : b.eval x = .pointer (some a)) (h1 : w.cell? a = some v) : (execOp b.eval o).run Tryd.prog w = .ok (.value v) w := by
  unfold execOp
  simp only [ho, h]
  go_simp
theorem exec_loadT {x : Operand} {a : Addr} {v : Value} (ho : o.op = .load 9 x) (h : b.eval x = .pointer (some a)) (h1 : w.cell? a = some v) : (execOp b.eval o).run Tryd.prog w = .ok (.value v) w := by
  unfold execOp
  simp only [ho, h]
  go_simp
theorem exec_loadN {x : Operand} {a : Addr} {n : Nm} (ho : o.op = .load 24 x) (h : b.eval x = .pointer (some a)) (hx : BoxNm n w a) : (execOp b.eval o).run Tryd.prog w = .ok (.value n.v) w := by
  have h0 := hx.c0
  have h1 := hx.c1
  have h2 := hx.c2
  have h3 := hx.c3
  have h4 := hx.c4
  have h5 := hx.c5
  unfold execOp
  simp only [ho, h]
  go_simp
  rfl
theorem exec_loadR {x : Operand} {a : Addr} {n : Nm} (ho : o.op = .load 25 x) (h : b.eval x = .pointer (some a)) (hx : BoxNm n w a) : (execOp b.eval o).run Tryd.prog w = .ok (.value n.v) w := by
  have h0 := hx.c0
  have h1 := hx.c1
  have h2 := hx.c2
  have h3 := hx.c3
  have h4 := hx.c4
  have h5 := hx.c5
  unfold execOp
  simp only [ho, h]
  go_simp
  rfl
theorem exec_conv8 {x : Operand} {n : Nat} (hn : n < 256) (ho : o.op = .convert 5 22 x) (h : b.eval x = .int .u8 (n : Int)) : (execOp b.eval o).run Tryd.prog w = .ok (.value (.int .u64 (n : Int))) w := by
  have hw : IntKind.u64.wrap (n : Int) = (n : Int) := IntWalk.u64_in _ (by omega)
  unfold execOp
  simp only [ho, h]
  go_simp
theorem exec_eqB {x y : Operand} {c d : Bool} (ho : o.op = .binOp .eql 4 x y 4) (h : b.eval x = .bool c) (h' : b.eval y = .bool d) : (execOp b.eval o).run Tryd.prog w = .ok (.value (.bool (c == d))) w := by
  unfold execOp
  simp only [ho, h, h']
  go_simp
theorem exec_eqT {x y : Operand} {l m : List UInt8} (ho : o.op = .binOp .eql 9 x y 9) (h : b.eval x = .string (txt l)) (h' : b.eval y = .string (txt m)) : (execOp b.eval o).run Tryd.prog w = .ok (.value (.bool (decide (l = m)))) w := by
  unfold execOp
  simp only [ho, h, h']
  rw [← txt_beq]
  go_simp
theorem exec_neT {x y : Operand} {l m : List UInt8} (ho : o.op = .binOp .neq 9 x y 9) (h : b.eval x = .string (txt l)) (h' : b.eval y = .string (txt m)) : (execOp b.eval o).run Tryd.prog w = .ok (.value (.bool (!decide (l = m)))) w := by
  unfold execOp
  simp only [ho, h, h']
  rw [← txt_beq]
  go_simp
theorem exec_eqI {x y : Operand} {i j : Int} (ho : o.op = .binOp .eql 3 x y 3) (h : b.eval x = .int .i64 i) (h' : b.eval y = .int .i64 j) : (execOp b.eval o).run Tryd.prog w = .ok (.value (.bool (i == j))) w := by
  unfold execOp
  simp only [ho, h, h']
  go_simp
theorem exec_eqN {x y : Operand} {m n : Nm} (ho : o.op = .binOp .eql 24 x y 24) (h : b.eval x = m.v) (h' : b.eval y = n.v) : (execOp b.eval o).run Tryd.prog w = .ok (.value (.bool (decide (m = n)))) w := by
  unfold execOp
  simp only [ho, h, h', Nm.v]
  go_simp
  by_cases hmn : m = n
  · subst hmn
    simp
  · rw [decide_eq_false hmn]
    repeat' split
    all_goals (first | rfl | (exfalso; apply hmn; cases m; cases n; simp only [Nm.mk.injEq] at *; omega))
theorem exec_not {x : Operand} {t : TypeId} {c : Bool} (ho : o.op = .unOp .not t x) (h : b.eval x = .bool c) : (execOp b.eval o).run Tryd.prog w = .ok (.value (.bool !c)) w := by
  unfold execOp
  simp only [ho, h]
  go_simp
end
end Go.Proofs.YtipmpebckfaknaaDoor
