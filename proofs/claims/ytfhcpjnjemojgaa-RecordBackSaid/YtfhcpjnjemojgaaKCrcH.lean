/- Calls and operations of the laws' last statements. Conditions: rows of at most 2^40 bytes. -/
import Derived.Test.YtfhcpjnjemojgaaKCrcG
import Derived.Test.YtfhcpjnjemojgaaKGa
namespace Go.Proofs.Ytfhcpjnjemojgaa
open Go.RowKit

theorem xor8 (x y : UInt8) : bits .xor .u8 (x.toNat : Int) (y.toNat : Int) = ((x ^^^ y).toNat : Int) := by
  rw [UInt8.toNat_xor]
  exact u8_xor_nat _ _ x.toNat_lt y.toNat_lt
theorem enter_sum (w : World) (args : Array Value) : (callFunc 57 args).run Try.prog w = .ok (.enter 57 args) w := by kernel_rfl
theorem sum_one {w : World} {v : Value} {l : List UInt8} (h : One w v l) (hl : l.length ≤ 140737488351232) :
    Calls Try.prog 57 #[v] w fun e w' => ∃ u, e = .returned u ∧ Below w.heap.size w w' ∧ u = rv (sum l) := by
  obtain ⟨N, r, rfl, rfl, hr⟩ := h
  refine (sum_any _ 1 _ [r] w (by simp) (by intro q hq; simp only [List.mem_singleton] at hq; subst hq; exact hl) (Nat.le_refl _) hr).mono ?_
  rintro e w' ⟨rfl, hb⟩
  exact ⟨_, rfl, hb, by rw [show bytes [r] = r.l by simp [bytes]]⟩
theorem exec_xor32 {b : Act} {w : World} {o : Oper} {x y : Operand} {c d : BitVec 32} (ho : o.op = .binOp .xor 99 x y 99) (h : b.eval x = rv c) (h' : b.eval y = rv d) : (execOp b.eval o).run Try.prog w = .ok (.value (rv (c ^^^ d))) w := by
  have e := u32_xor_nat c.toNat d.toNat c.isLt d.isLt
  rw [← BitVec.toNat_xor] at e
  unfold execOp
  simp only [ho, h, h']
  go_simp
theorem exec_eq32 {b : Act} {w : World} {o : Oper} {x y : Operand} {c : BitVec 32} (ho : o.op = .binOp .eql 99 x y 99) (h : b.eval x = rv c) (h' : b.eval y = rv c) : (execOp b.eval o).run Try.prog w = .ok (.value (.bool true)) w := by
  unfold execOp
  simp only [ho, h, h']
  go_simp

end Go.Proofs.Ytfhcpjnjemojgaa
