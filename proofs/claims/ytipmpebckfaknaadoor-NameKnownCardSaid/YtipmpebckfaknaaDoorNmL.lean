/- Single operations of the closed statement. Conditions: none. -/
import Derived.Test.YtipmpebckfaknaaDoorLawNS
import Derived.Test.YtipmpebckfaknaaDoorLawNP
import Derived.Test.YtipmpebckfaknaaDoorLawNR
import Derived.Test.YtipmpebckfaknaaDoorLawNB
import Derived.Test.YtipmpebckfaknaaDoorFull
namespace Go.Proofs.YtipmpebckfaknaaDoor
open Go.RowKit Go.Lib

def uvs (l : List Nat) : List Value := l.map fun (n : Nat) => .int .u64 (n : Int)
theorem uvs_get {l : List Nat} {j n : Nat} (h : l[j]? = some n) : (uvs l)[j]? = some (.int .u64 (n : Int)) := by
  unfold uvs
  rw [List.getElem?_map, h]
  rfl
section
variable {b : Act} {w : World} {o : Oper}
theorem exec_atU {x y : Operand} {M n c k : Nat} (ho : o.op = .indexAddr 51 x y) (h : b.eval x = .slice (some ⟨M, 0, none⟩) n c) (h' : b.eval y = .int .i64 (k : Int)) (hk : k < n) : (execOp b.eval o).run Tryd.prog w = .ok (.value (.pointer (some ⟨M, k, none⟩))) w := by
  have hk' : (k : Int) < n := by omega
  unfold execOp
  simp only [ho, h, h']
  go_simp
theorem exec_addN {x y : Operand} {q k : Nat} (hb : q + k < 9223372036854775807) (ho : o.op = .binOp .add 3 x y 3) (h : b.eval x = .int .i64 (q : Int)) (h' : b.eval y = .int .i64 (k : Int)) : (execOp b.eval o).run Tryd.prog w = .ok (.value (.int .i64 ((q + k : Nat) : Int))) w := by
  have hw : IntKind.i64.wrap ((q : Int) + (k : Int)) = ((q + k : Nat) : Int) := by rw [IntKind.wrap_i64]; omega
  unfold execOp
  simp only [ho, h, h']
  go_simp
theorem exec_mulN {x y : Operand} {q k : Nat} (hb : q * k < 9223372036854775807) (ho : o.op = .binOp .mul 3 x y 3) (h : b.eval x = .int .i64 (q : Int)) (h' : b.eval y = .int .i64 (k : Int)) : (execOp b.eval o).run Tryd.prog w = .ok (.value (.int .i64 ((q * k : Nat) : Int))) w := by
  have hw : IntKind.i64.wrap ((q : Int) * (k : Int)) = ((q * k : Nat) : Int) := by
    rw [← Int.natCast_mul, IntKind.wrap_i64]
    omega
  unfold execOp
  simp only [ho, h, h']
  go_simp
theorem exec_remN {x : Operand} {v : Value} {q : Nat} (ho : o.op = .binOp .rem 3 x (.const v) 3) (h : b.eval x = .int .i64 (q : Int)) (hv : v = .int .i64 8) : (execOp b.eval o).run Tryd.prog w = .ok (.value (.int .i64 ((q % 8 : Nat) : Int))) w := by
  have hw : IntKind.i64.wrap ((q % 8 : Nat) : Int) = ((q % 8 : Nat) : Int) := by rw [IntKind.wrap_i64]; omega
  have ht : Int.tmod (q : Int) 8 = ((q % 8 : Nat) : Int) := (Int.ofNat_tmod q 8).symm
  subst hv
  unfold execOp
  simp only [ho, h]
  go_simp
theorem exec_sub6 {x : Operand} {v : Value} {k : Nat} (hk : k ≤ 6) (ho : o.op = .binOp .sub 5 (.const v) x 5) (hv : v = .int .u8 6) (h : b.eval x = .int .u8 (k : Int)) : (execOp b.eval o).run Tryd.prog w = .ok (.value (.int .u8 ((6 - k : Nat) : Int))) w := by
  have hw : IntKind.u8.wrap ((6 : Int) - (k : Int)) = ((6 - k : Nat) : Int) := by
    have : ((6 : Int) - (k : Int)) = ((6 - k : Nat) : Int) := by omega
    rw [this]
    exact IntWalk.u8_in _ (by omega)
  subst hv
  unfold execOp
  simp only [ho, h]
  go_simp
theorem exec_bX {x y z : Operand} {k d n : Nat} (ho : o.op = .build 24 #[(0, x), (1, y), (2, z)]) (h : b.eval x = .int .u8 (k : Int)) (h' : b.eval y = .int .u64 (d : Int)) (h'' : b.eval z = .int .u64 (n : Int)) : (execOp b.eval o).run Tryd.prog w = .ok (.value (Nm.v ⟨k, d, n, 0, 0, 0⟩)) w := by
  unfold execOp
  simp only [ho, List.map_toArray, List.map_cons, List.map_nil, h, h', h'']
  go_simp
  rfl
theorem exec_bY {x y z u : Operand} {k p i c : Nat} (ho : o.op = .build 24 #[(0, x), (3, y), (4, z), (5, u)]) (h : b.eval x = .int .u8 (k : Int)) (h' : b.eval y = .int .u64 (p : Int)) (h'' : b.eval z = .int .u64 (i : Int)) (h3 : b.eval u = .int .u64 (c : Int)) : (execOp b.eval o).run Tryd.prog w = .ok (.value (Nm.v ⟨k, 0, 0, p, i, c⟩)) w := by
  unfold execOp
  simp only [ho, List.map_toArray, List.map_cons, List.map_nil, h, h', h'', h3]
  go_simp
  rfl
theorem exec_bZ {x y : Operand} {v : Value} {k d : Nat} (ho : o.op = .build 24 #[(0, x), (1, y), (3, .const v)]) (h : b.eval x = .int .u8 (k : Int)) (h' : b.eval y = .int .u64 (d : Int)) (hv : v = .int .u64 1) : (execOp b.eval o).run Tryd.prog w = .ok (.value (Nm.v ⟨k, d, 0, 1, 0, 0⟩)) w := by
  subst hv
  unfold execOp
  simp only [ho, List.map_toArray, List.map_cons, List.map_nil, h, h']
  go_simp
  rfl
theorem exec_b0 (ho : o.op = .build 24 #[]) : (execOp b.eval o).run Tryd.prog w = .ok (.value (Nm.v Nm.zero)) w := by
  unfold execOp
  simp only [ho, List.map_toArray, List.map_nil]
  go_simp
  rfl
theorem exec_from {x y : Operand} {M n k : Nat} (ho : o.op = .slice 44 x (some y) none none) (h : b.eval x = .slice (some ⟨M, 0, none⟩) n n) (h' : b.eval y = .int .i64 (k : Int)) (hk : k < n) : (execOp b.eval o).run Tryd.prog w = .ok (.value (.slice (some ⟨M, k, none⟩) (n - k) (n - k))) w := by
  have hk' : (k : Int) ≤ n := by omega
  have hne : ¬ n = k := by omega
  unfold execOp
  simp only [ho, Option.map_none, Option.map_some, h, h']
  go_simp
theorem exec_addT {x : Operand} {v : Value} {l m : List UInt8} (hz : (txt l).size + (txt m).size ≤ 9223372036854775807) (ho : o.op = .binOp .add 9 x (.const v) 9) (h : b.eval x = .string (txt l)) (hv : v = .string (txt m)) : (execOp b.eval o).run Tryd.prog w = .ok (.value (.string (txt (l ++ m)))) w := by
  subst hv
  unfold execOp
  simp only [ho, h]
  rw [← txt_append]
  go_simp
theorem exec_call3 {P : Program} {f : FuncId} {x y z : Operand} {t u r : TypeId} {v v' v'' : Value} (hf : ∀ args, (callFunc f args).run P w = .ok (.enter f args) w) (ho : o.op = .call { callee := .value (.func f), args := #[x, y, z], argTypes := #[t, u, r] }) (h : b.eval x = v) (h' : b.eval y = v') (h'' : b.eval z = v'') : (execOp b.eval o).run P w = .ok (.enter f #[v, v', v'']) w := by
  subst h h' h''
  unfold execOp
  simp only [ho]
  go_simp
theorem exec_call4 {P : Program} {f : FuncId} {x y z s : Operand} {t u r q : TypeId} {v v' v'' v3 : Value} (hf : ∀ args, (callFunc f args).run P w = .ok (.enter f args) w) (ho : o.op = .call { callee := .value (.func f), args := #[x, y, z, s], argTypes := #[t, u, r, q] }) (h : b.eval x = v) (h' : b.eval y = v') (h'' : b.eval z = v'') (h3 : b.eval s = v3) : (execOp b.eval o).run P w = .ok (.enter f #[v, v', v'', v3]) w := by
  subst h h' h'' h3
  unfold execOp
  simp only [ho]
  go_simp
end
theorem enter_nameOf (w : World) (args : Array Value) : (callFunc 5 args).run Tryd.prog w = .ok (.enter 5 args) w := by kernel_rfl
theorem enter_namePuts (w : World) (args : Array Value) : (callFunc 3 args).run Tryd.prog w = .ok (.enter 3 args) w := by kernel_rfl
theorem enter_nameReads (w : World) (args : Array Value) : (callFunc 4 args).run Tryd.prog w = .ok (.enter 4 args) w := by kernel_rfl
theorem enter_nameSorts (w : World) (args : Array Value) : (callFunc 6 args).run Tryd.prog w = .ok (.enter 6 args) w := by kernel_rfl
theorem enter_nameBack (w : World) (args : Array Value) : (callFunc 7 args).run Tryd.prog w = .ok (.enter 7 args) w := by kernel_rfl
/-- A list of texts that lies in a block of its own, from one of them on. -/
def TextsAt (TX : List (List UInt8)) (M : Nat) (w : World) : Prop := ∀ j s, TX[j]? = some s → w.cell? ⟨M, j, none⟩ = some (.string (txt s))
theorem TextsAt.keep {TX : List (List UInt8)} {M : Nat} {w w' : World} (h : TextsAt TX M w) (hb : Below w.heap.size w w') : TextsAt TX M w' := fun j s hj => (hb.cell (World.block_lt_of_cell? w _ (h j s hj))).trans (h j s hj)
theorem TextsAt.new (TX : List (List UInt8)) (w : World) (t : TypeId) : TextsAt TX w.heap.size (w.alloc (.cells (ts TX).toArray t)) := by
  intro j s hj
  rw [cell_of_row (w.alloc (.cells (ts TX).toArray t)) w.heap.size j _ _ _ (heap_alloc_new w _), List.getElem?_toArray, ts_get hj]
theorem TextsAt.rd {TX : List (List UInt8)} {M q : Nat} {w : World} (h : TextsAt TX M w) : RdT w w.heap.size (some ⟨M, q, none⟩) (TX.drop q) := by
  refine ⟨by simp [ts], fun hn => ⟨_, rfl, ?_, fun j u hu => ?_⟩⟩
  · have h0 : 0 < (TX.drop q).length := hn
    have h1 : (TX.drop q)[0]? = some (TX.drop q)[0] := List.getElem?_eq_getElem h0
    rw [List.getElem?_drop] at h1
    exact World.block_lt_of_cell? w _ (h _ _ h1)
  · have hadd : (⟨M, q, none⟩ : Addr).add j = ⟨M, q + j, none⟩ := by unfold Addr.add; split <;> simp_all
    rw [hadd]
    unfold ts at hu
    rw [List.getElem?_map] at hu
    obtain ⟨s, hs, rfl⟩ := Option.map_eq_some_iff.1 hu
    rw [List.getElem?_drop] at hs
    exact h _ _ hs
/-- Numbers that lie in a block of their own. -/
def NumsAt (l : List Nat) (N : Nat) (w : World) : Prop := ∀ j n : Nat, l[j]? = some n → w.cell? ⟨N, j, none⟩ = some (.int .u64 (n : Int))
theorem NumsAt.keep {l : List Nat} {N : Nat} {w w' : World} (h : NumsAt l N w) (hb : Below w.heap.size w w') : NumsAt l N w' := fun j s hj => (hb.cell (World.block_lt_of_cell? w _ (h j s hj))).trans (h j s hj)
theorem NumsAt.new (l : List Nat) (w : World) (t : TypeId) : NumsAt l w.heap.size (w.alloc (.cells (uvs l).toArray t)) := by
  intro j n hj
  rw [cell_of_row (w.alloc (.cells (uvs l).toArray t)) w.heap.size j _ _ _ (heap_alloc_new w _), List.getElem?_toArray, uvs_get hj]
end Go.Proofs.YtipmpebckfaknaaDoor
