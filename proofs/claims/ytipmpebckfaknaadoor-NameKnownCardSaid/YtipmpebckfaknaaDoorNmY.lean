/- More single operations over Names; contracts as the laws' regions want them. Conditions: none. -/
import Derived.Test.YtipmpebckfaknaaDoorNmW
import Derived.Test.YtipmpebckfaknaaDoorNmV
import Derived.Test.YtipmpebckfaknaaDoorNmF
namespace Go.Proofs.YtipmpebckfaknaaDoor
open Go.RowKit Go.Lib

section
variable {b : Act} {w : World} {o : Oper}
theorem exec_eqR {x y : Operand} {m n : Nm} (ho : o.op = .binOp .eql 25 x y 25) (h : b.eval x = m.v) (h' : b.eval y = n.v) : (execOp b.eval o).run Tryd.prog w = .ok (.value (.bool (decide (m = n)))) w := by
  unfold execOp
  simp only [ho, h, h', Nm.v]
  go_simp
  by_cases hmn : m = n
  · subst hmn
    simp
  · rw [decide_eq_false hmn]
    repeat' split
    all_goals (first | rfl | (exfalso; apply hmn; cases m; cases n; simp only [Nm.mk.injEq] at *; omega))
theorem exec_neN {x y : Operand} {m n : Nm} (ho : o.op = .binOp .neq 24 x y 24) (h : b.eval x = m.v) (h' : b.eval y = n.v) : (execOp b.eval o).run Tryd.prog w = .ok (.value (.bool (!decide (m = n)))) w := by
  unfold execOp
  simp only [ho, h, h', Nm.v]
  go_simp
  by_cases hmn : m = n
  · subst hmn
    simp
  · rw [decide_eq_false hmn]
    repeat' split
    all_goals (first | rfl | (exfalso; apply hmn; cases m; cases n; simp only [Nm.mk.injEq] at *; omega))
theorem exec_neR {x y : Operand} {m n : Nm} (ho : o.op = .binOp .neq 25 x y 25) (h : b.eval x = m.v) (h' : b.eval y = n.v) : (execOp b.eval o).run Tryd.prog w = .ok (.value (.bool (!decide (m = n)))) w := by
  unfold execOp
  simp only [ho, h, h', Nm.v]
  go_simp
  by_cases hmn : m = n
  · subst hmn
    simp
  · rw [decide_eq_false hmn]
    repeat' split
    all_goals (first | rfl | (exfalso; apply hmn; cases m; cases n; simp only [Nm.mk.injEq] at *; omega))
end
theorem enter_ref (w : World) (args : Array Value) : (callFunc 9 args).run Tryd.prog w = .ok (.enter 9 args) w := by kernel_rfl
theorem enter_works (w : World) (args : Array Value) : (callFunc 16 args).run Tryd.prog w = .ok (.enter 16 args) w := by kernel_rfl
theorem enter_may (w : World) (args : Array Value) : (callFunc 10 args).run Tryd.prog w = .ok (.enter 10 args) w := by kernel_rfl
theorem enter_rmay (w : World) (args : Array Value) : (callFunc 11 args).run Tryd.prog w = .ok (.enter 11 args) w := by kernel_rfl
theorem enter_put (w : World) (args : Array Value) : (callFunc 12 args).run Tryd.prog w = .ok (.enter 12 args) w := by kernel_rfl
theorem enter_rput (w : World) (args : Array Value) : (callFunc 13 args).run Tryd.prog w = .ok (.enter 13 args) w := by kernel_rfl
theorem enter_compare (w : World) (args : Array Value) : (callFunc 14 args).run Tryd.prog w = .ok (.enter 14 args) w := by kernel_rfl
theorem enter_rcompare (w : World) (args : Array Value) : (callFunc 15 args).run Tryd.prog w = .ok (.enter 15 args) w := by kernel_rfl
theorem enter_parse (w : World) (args : Array Value) : (callFunc 17 args).run Tryd.prog w = .ok (.enter 17 args) w := by kernel_rfl
theorem compare_q (x y : Nm) (w : World) : Calls Tryd.prog 14 #[x.v, y.v] w fun e w' => e = .returned (.int .i64 (cmpOf x y)) ∧ Below w.heap.size w w' := (compare_any x y w).mono fun _ _ ⟨h1, h2⟩ => ⟨h1, h2.1⟩
/-- Both readers' answer. -/
theorem parse_both (s : List UInt8) (hl : s.length ≤ 1048000) : ∃ (x : Nm) (b : Bool),
    (b = true → parseOf s = some x) ∧ (b = false → parseOf s = none ∧ x = Nm.zero) ∧
    (∀ w, Env w → Calls Tryd.prog 17 #[.string (txt s)] w fun e w' => e = .returned (.tuple #[.agg #[.int .u8 (x.k : Int), .int .u64 (x.d : Int), .int .u64 (x.n : Int), .int .u64 (x.p : Int), .int .u64 (x.i : Int), .int .u64 (x.c : Int)], .bool b]) ∧ Below w.heap.size w w') ∧
    (∀ w, Calls Tryd.prog 18 #[.string (txt s)] w fun e w' => e = .returned (.tuple #[.agg #[.int .u8 (x.k : Int), .int .u64 (x.d : Int), .int .u64 (x.n : Int), .int .u64 (x.p : Int), .int .u64 (x.i : Int), .int .u64 (x.c : Int)], .bool b]) ∧ Below w.heap.size w w') := by
  cases h : parseOf s with
  | some x =>
    refine ⟨x, true, fun _ => rfl, (fun hb => by cases hb), fun w hE => parse_yes s x h w hE (by omega), fun w => (rparse_any s w hl).mono ?_⟩
    rintro e w' ⟨hn, hb⟩
    unfold ParseAns at hn
    rw [h] at hn
    exact ⟨hn, hb⟩
  | none =>
    refine ⟨Nm.zero, false, (fun hb => by cases hb), fun _ => ⟨rfl, rfl⟩, fun w hE => parse_no s h w hE (by omega), fun w => (rparse_any s w hl).mono ?_⟩
    rintro e w' ⟨hn, hb⟩
    unfold ParseAns at hn
    rw [h] at hn
    exact ⟨hn, hb⟩
end Go.Proofs.YtipmpebckfaknaaDoor
