/- The walk of the chapter's examples (works): they hold. Conditions: none. -/
import Derived.Test.YtogoaihimepboaaKJoO
import Derived.Lib.SlBytesConst
namespace Go.Proofs.Ytogoaihimepboaa
open Go.RowKit

def b14 : List UInt8 := encJ [[97, 98], []]
theorem b14_len : b14.length = 14 := by decide +kernel
theorem b14_put : putJ [[97, 98], []] = (b14, 0) := putJ_ok (by simp)
theorem b14_all : AllJ b14 [[97, 98], []] 14 := by unfold AllJ; decide +kernel
theorem b13_all : AllJ (b14.take 13) [[97, 98]] 8 := by unfold AllJ; decide +kernel
def s15 : List UInt8 := (b14.take 13).take 8 ++ encFr 9 [99]
theorem s15_len : s15.length = 15 := by decide +kernel
theorem s15_app : appJ (b14.take 13) 8 [99] = (s15, 8, 1, (sum [99]).toNat, 0) := rfl
theorem s15_get : getJ s15 8 1 (sum [99]).toNat = ([99], 0) := by decide +kernel
theorem s15_ref : getJ s15 0 1 (sum [99]).toNat = ([], 110) := by decide +kernel
theorem of_lit (X : World) (S : Nat) (hS : (sum [99]).toNat = S) : Calls Try.prog 27 #[.slice (some ⟨X.heap.size, 0, none⟩) 1 1] (X.alloc (.cells #[.int .u8 99] 5 (1, 2))) fun e w' => e = .returned (.agg #[.int .u64 1, .int .u64 (S : Int)]) ∧ Below X.heap.size X w' := by
  have h := of_any (some ⟨X.heap.size, 0, none⟩) 1 (X.heap.size + 1) 1 [99] (X.alloc (.cells #[.int .u8 99] 5 (1, 2))) rfl (by omega) (by simp) (reads_marked X (xs := bs [99]) rfl (1, 2))
  refine h.mono ?_
  rintro e w' ⟨rfl, hb⟩
  refine ⟨?_, (below_new X _).trans (hb.mono (by simp))⟩
  rw [← hS]
  rfl
theorem putTwo (W : World) (N : Nat) (hN : W.heap.size = N) (A : Option Addr) (c n B : Nat) (l : List UInt8) (hn : l.length = n) (hl : n ≤ 140737488351232) (hB : B ≤ N) (hr : RdB W B A l) :
    Calls Try.prog 24 #[.slice (some ⟨N, 0, none⟩) 2 2] (W.alloc (.cells #[.slice A n c, .slice none 0 0] 22)) fun e w' => BytesErr N (putJ [l, []]) e w' ∧ Below N W w' := by
  subst hn hN
  have h := putJ_any (some ⟨W.heap.size, 0, none⟩) 2 2 (W.heap.size + 1) [⟨A, c, l⟩, ⟨none, 0, []⟩] (W.alloc (.cells #[.slice A l.length c, .slice none 0 0] 22)) rfl (by omega) (by
    intro r hr2
    simp only [List.mem_cons, List.not_mem_nil, or_false] at hr2
    rcases hr2 with rfl | rfl
    · exact hl
    · simp) (by simp) (RdR.new W W.heap.size [⟨A, c, l⟩, ⟨none, 0, []⟩] 22 (Nat.le_refl _) (by
    intro r hr2
    simp only [List.mem_cons, List.not_mem_nil, or_false] at hr2
    rcases hr2 with rfl | rfl
    · exact Reads.more hr hB
    · exact Reads.none_))
  refine h.mono ?_
  rintro e w' ⟨⟨v, rfl, ho⟩, hbw⟩
  exact ⟨⟨v, rfl, own_mono ho (by simp)⟩, (below_new W _).trans (hbw.mono (by simp))⟩
theorem txt_c : txt [99] = { data := #[99] } := rfl

/-! ### the last region, by facts -/
/-- A row of one byte c, marked or not. -/
def Lit (w : World) (g : Nat) : Prop := ∃ fr, (fr = (0, 0) ∨ fr = (1, 2)) ∧ w.heap[g]? = some (.cells #[.int .u8 99] 5 fr)
/-- What the region does to memory. -/
def LitR (B : Nat) (w w' : World) : Prop := Below B w w' ∧ ∀ g, Lit w g → Lit w' g
theorem LitR.refl (B : Nat) (w : World) : LitR B w w := ⟨.refl _ _, fun _ h => h⟩
theorem LitR.of {B : Nat} {w w' : World} (h : Below w.heap.size w w') (hB : B ≤ w.heap.size) : LitR B w w' := ⟨h.mono hB, fun g ⟨fr, h1, h2⟩ => ⟨fr, h1, (h.block g (Array.getElem?_eq_some_iff.1 h2).1).trans h2⟩⟩
theorem Lit.reads {w : World} {g : Nat} (h : Lit w g) : RdB w (g + 1) (some ⟨g, 0, none⟩) [99] := by
  obtain ⟨fr, _, h⟩ := h
  refine ⟨rfl, fun _ => ⟨_, rfl, Nat.lt_succ_self _, fun j u hj => ?_⟩⟩
  match j, hj with
  | 0, hj =>
    injection hj with hj
    subst hj
    rw [show (⟨g, 0, none⟩ : Addr).add 0 = ⟨g, 0, none⟩ from rfl]
    exact cell_of_row w g 0 _ _ fr h
theorem heap_freeze {w : World} {g k : Nat} {C : Array Value} {t : TypeId} {fr : Nat × Nat} (h : w.heap[g]? = some (.cells C t fr)) (j : Nat) : (w.freeze ⟨g, k, none⟩ 1).heap[j]? = if j = g then some (.cells C t (if fr.1 == fr.2 then (k, k + 1) else (min fr.1 k, max fr.2 (k + 1)))) else w.heap[j]? := by
  unfold World.freeze
  rw [if_neg (by decide)]
  show (w.heap.modify g _)[j]? = _
  rw [Array.getElem?_modify]
  by_cases e : g = j
  · subst e
    rw [if_pos rfl, if_pos rfl, h]
    rfl
  · rw [if_neg e, if_neg (fun e' => e e'.symm)]
theorem run_convert_lit {w : World} {g : Nat} (hl : Lit w g) : ∃ w', (convert 22 22 (.slice (some ⟨g, 0, none⟩) 1 1)).run Try.prog w = .ok (.slice (some ⟨g, 0, none⟩) 1 1) w' ∧ Lit w' g ∧ ∀ B, B ≤ g → LitR B w w' := by
  obtain ⟨fr, hfr, h⟩ := hl
  have hsh : w.shape? g = some (5, 1) := by
    unfold World.shape?
    rw [h]
    rfl
  have hz : ∀ j, (w.freeze ⟨g, 1, none⟩ 1).heap[j]? = if j = g then some (.cells #[.int .u8 99] 5 (1, 2)) else w.heap[j]? := by
    intro j
    rw [heap_freeze h j]
    rcases hfr with rfl | rfl <;> rfl
  have hsize : (w.freeze ⟨g, 1, none⟩ 1).heap.size = w.heap.size := by
    unfold World.freeze
    rw [if_neg (by decide)]
    exact Array.size_modify
  refine ⟨w.freeze ⟨g, 1, none⟩ 1, ?_, ⟨(1, 2), .inr rfl, by rw [hz, if_pos rfl]⟩, fun B hB => ⟨⟨?_, ?_, ?_, by rw [hsize]; exact Nat.le_refl _, fun k hk => by rw [hz, if_neg (by omega)]⟩, fun j ⟨f, h1, h2⟩ => ?_⟩⟩
  · simp [convert, run_underlying Try.underlying22, run_underlying Try.underlying5, markStringish, hsh]
  · unfold World.freeze
    rw [if_neg (by decide)]
  · unfold World.freeze
    rw [if_neg (by decide)]
  · unfold World.freeze
    rw [if_neg (by decide)]
  · by_cases e : j = g
    · subst e
      exact ⟨(1, 2), .inr rfl, by rw [hz, if_pos rfl]⟩
    · exact ⟨f, h1, by rw [hz, if_neg e]; exact h2⟩
section
variable {b : Act} {w : World} {o : Oper}
theorem exec_eqE {x : Operand} {n : Int} (ho : o.op = .binOp .eql 28 x (.const (.int .i64 n)) 28) (h : b.eval x = .int .i64 n) : (execOp b.eval o).run Try.prog w = .ok (.value (.bool true)) w := by
  have hc : b.eval (.const (.int .i64 n)) = .int .i64 n := rfl
  unfold execOp
  simp only [ho, h, hc]
  go_simp
theorem exec_eqI' {x : Operand} {n : Int} (ho : o.op = .binOp .eql 3 x (.const (.int .i64 n)) 3) (h : b.eval x = .int .i64 n) : (execOp b.eval o).run Try.prog w = .ok (.value (.bool true)) w := by
  have hc : b.eval (.const (.int .i64 n)) = .int .i64 n := rfl
  unfold execOp
  simp only [ho, h, hc]
  go_simp
theorem exec_lenB {x : Operand} {A : Option Addr} {n c : Nat} (ho : o.op = .call { callee := .builtin .len, args := #[x], argTypes := #[22] }) (h : b.eval x = .slice A n c) : (execOp b.eval o).run Try.prog w = .ok (.value (.int .i64 (n : Int))) w := by
  unfold execOp
  simp only [ho, resolve, invoke, builtin, Sem.run_bind, Sem.run_pure, Result.andThen_ok, List.map_toArray, List.map_cons, List.map_nil, h]
  go_simp
theorem exec_loadRf {x : Operand} {g : Nat} {u v : Value} (ho : o.op = .load 25 x) (h : b.eval x = .pointer (some ⟨g, 0, none⟩)) (h0 : w.cell? ⟨g, 0, none⟩ = some u) (h1 : w.cell? ⟨g, 1, none⟩ = some v) : (execOp b.eval o).run Try.prog w = .ok (.value (.agg #[u, v])) w := by
  unfold execOp
  simp only [ho, h]
  go_simp
theorem exec_lit (ho : o.op = .buildSlice 22 1 #[(0, .const (.int .u8 99))]) : (execOp b.eval o).run Try.prog w = .ok (.value (.slice (some ⟨w.heap.size, 0, none⟩) 1 1)) (w.alloc (.cells #[.int .u8 99] 5)) := by
  have hc : b.eval (.const (.int .u8 99)) = .int .u8 99 := rfl
  unfold execOp
  simp only [ho, List.map_toArray, List.map_cons, List.map_nil, hc]
  go_simp
theorem exec_conv {x : Operand} {v v' : Value} {t t' : TypeId} {w' : World} (ho : o.op = .convert t t' x) (h : b.eval x = v) (hr : (convert t t' v).run Try.prog w = .ok v' w') : (execOp b.eval o).run Try.prog w = .ok (.value v') w' := by
  unfold execOp
  simp only [ho, h]
  simp only [Sem.run_bind, hr, Result.andThen, Sem.run_pure]
theorem exec_eqRf {x y : Operand} {n m : Int} (ho : o.op = .binOp .eql 25 x y 25) (h : b.eval x = .agg #[.int .u64 n, .int .u64 m]) (h' : b.eval y = .agg #[.int .u64 n, .int .u64 m]) : (execOp b.eval o).run Try.prog w = .ok (.value (.bool true)) w := by
  unfold execOp
  simp only [ho, h, h']
  go_simp
theorem exec_eqT {x : Operand} (ho : o.op = .binOp .eql 9 x (.const (.string { data := #[99] })) 9) (h : b.eval x = .string { data := #[99] }) : (execOp b.eval o).run Try.prog w = .ok (.value (.bool true)) w := by
  have hc : b.eval (.const (.string { data := #[99] })) = .string { data := #[99] } := rfl
  unfold execOp
  simp only [ho, h, hc]
  go_simp
end
theorem enter_of (w : World) (args : Array Value) : (callFunc 27 args).run Try.prog w = .ok (.enter 27 args) w := by kernel_rfl
/-- What each operation yields. -/
def WkF (N : Nat) (v4 v6 : Value) (S : Nat) : Nat → Value → World → Prop
  | 0, u, _ => u = .int .i64 0
  | 3, u, _ => u = v4
  | 4, u, _ => u = .int .i64 15
  | 8, u, _ => u = .int .i64 8
  | 12, u, _ => u = .agg #[.int .u64 1, .int .u64 (S : Int)]
  | 13, u, w => ∃ g, u = .slice (some ⟨g, 0, none⟩) 1 1 ∧ N ≤ g ∧ Lit w g
  | 14, u, w => ∃ g, u = .slice (some ⟨g, 0, none⟩) 1 1 ∧ N ≤ g ∧ Lit w g
  | 15, u, _ => u = .agg #[.int .u64 1, .int .u64 (S : Int)]
  | 19, u, _ => u = .int .i64 0
  | 23, u, _ => u = v6
  | 24, u, _ => u = .string { data := #[99] }
  | 28, u, _ => u = .int .i64 110
  | _, u, _ => u = .bool true
theorem WkF.keep {N S : Nat} {v4 v6 : Value} (j : Nat) (u : Value) (w w' : World) (hr : LitR N w w') (hfact : WkF N v4 v6 S j u w) : WkF N v4 v6 S j u w' := by
  unfold WkF at hfact ⊢
  split at hfact
  case h_6 => obtain ⟨g, h1, h2, h3⟩ := hfact; exact ⟨g, h1, h2, hr.2 g h3⟩
  case h_7 => obtain ⟨g, h1, h2, h3⟩ := hfact; exact ⟨g, h1, h2, hr.2 g h3⟩
  all_goals exact hfact

set_option maxHeartbeats 4000000 in
set_option maxRecDepth 100000 in
theorem worksJ_any (w : World) : Calls Try.prog 7 #[] w fun e w' => e = .returned (.bool true) ∧ Below w.heap.size w w' := by
  have kc := fun (W : World) (C : Array Value) (n c : Nat) => Lib.run_convert_bytes_const (P := Try.prog) W 22 5 C n c Try.underlying22 Try.underlying5
  obtain ⟨S, hS⟩ : ∃ S, Hid ((sum [99]).toNat = S) := ⟨_, rfl⟩
  obtain ⟨W0, hW0⟩ : ∃ W0 : World, Hid (w.alloc (.cells #[.int .u8 97, .int .u8 98] 5 (2, 3)) = W0) := ⟨_, rfl⟩
  have hb0 : Hid (Below w.heap.size w W0) := by rw [← hW0.out]; exact below_new _ _
  have hz0 : Hid (W0.heap.size = w.heap.size + 1) := by rw [← hW0.out]; show _ = _; simp
  have hr0 : Hid (RdB W0 (w.heap.size + 1) (some ⟨w.heap.size, 0, none⟩) [97, 98]) := by rw [← hW0.out]; exact reads_marked w (xs := bs [97, 98]) rfl (2, 3)
  have hput := Lib.hid (putTwo W0 (w.heap.size + 1) hz0.out (some ⟨w.heap.size, 0, none⟩) 2 2 (w.heap.size + 1) [97, 98] rfl (by omega) (Nat.le_refl _) hr0.out)
  go_enter Try.func7, Try.ntmps7
  go_upto_region 2 with (first
    | (go_at_call 24; rw [hW0.out]; refine hput.out.mono ?_; rintro e w1 ⟨⟨v1, rfl, hown1⟩, hb1⟩; rw [b14_put] at hown1 ⊢; simp only at hown1 ⊢; obtain ⟨A1, c1, rfl, hc1, _, hr1⟩ := own_form hown1; rw [b14_len] at hc1 ⊢; have Hc1 := Lib.hid hc1; have Hr1 := Lib.hid hr1; have Hb1 := Lib.hid hb1; clear hown1 hc1 hr1 hb1))
  have hbw1 : Hid (Below w.heap.size w w1) := hb0.out.trans (Hb1.out.mono (Nat.le_succ _))
  have hwh1 := Lib.hid (wholeJ_any A1 c1 w1.heap.size 14 b14 w1 b14_len (by omega) Hc1.out (Nat.le_refl _) Hr1.out)
  have hwh2 : Hid (∀ w2, Below w1.heap.size w1 w2 → Calls Try.prog 19 #[.slice A1 13 c1] w2 fun e w' => (∃ own p, AllJ (b14.take 13) own p ∧ e = .returned (.int .i64 (p : Int))) ∧ Below w2.heap.size w2 w') := fun w2 hb => wholeJ_any A1 c1 w1.heap.size 13 (b14.take 13) w2 (by rw [List.length_take, b14_len]; rfl) (by omega) (by have := Hc1.out; omega) hb.size (RdB.first (Reads.below Hr1.out hb) (by rw [b14_len]; omega))
  have hcI : (13 : Int) ≤ (c1 : Int) := by have := Hc1.out; omega
  have tok1 := Lib.hid True.intro
  go_upto_region 4 with (first
    | (go_at_call 19; clear tok1; refine hwh1.out.mono ?_; rintro e w2 ⟨⟨own2, p2, hall2, rfl⟩, hb2⟩; obtain ⟨_, rfl⟩ := allJ_one b14_all hall2; have Hb2 := Lib.hid hb2; clear hb2 hall2)
    | (go_at_call 19; refine (hwh2.out _ Hb2.out).mono ?_; rintro e w3 ⟨⟨own3, p3, hall3, rfl⟩, hb3⟩; obtain ⟨_, rfl⟩ := allJ_one b13_all hall3; have Hb3 := Lib.hid (Hb2.out.trans (hb3.mono Hb2.out.size)); clear hb3 hall3))
  obtain ⟨W3, hW3⟩ : ∃ W3 : World, Hid (w3.alloc (.cells #[.int .u8 99] 5 (1, 2)) = W3) := ⟨_, rfl⟩
  have hb3W : Hid (Below w3.heap.size w3 W3) := by rw [← hW3.out]; exact below_new _ _
  have hbx3 : Hid (Below w1.heap.size w1 W3) := Hb3.out.trans (hb3W.out.mono Hb3.out.size)
  have hz3 : Hid (W3.heap.size = w3.heap.size + 1) := by rw [← hW3.out]; show _ = _; simp
  have hr3 : Hid (RdB W3 (w3.heap.size + 1) (some ⟨w3.heap.size, 0, none⟩) [99]) := by rw [← hW3.out]; exact reads_marked w3 (xs := bs [99]) rfl (1, 2)
  have happ := append_any A1 (some ⟨w3.heap.size, 0, none⟩) c1 w1.heap.size 13 1 (w3.heap.size + 1) 1 (b14.take 13) [99] W3 (by rw [List.length_take, b14_len]; rfl) (by omega) (by have := Hc1.out; omega) hbx3.out.size (RdB.first (Reads.below Hr1.out hbx3.out) (by rw [b14_len]; omega)) rfl (by omega) (by rw [hz3.out]; exact Nat.le_refl _) hr3.out
  have Happ := Lib.hid happ
  clear happ
  go_upto_region 5 with (go_at_call 22; rw [hW3.out]; refine Happ.out.mono ?_; rintro e w4 ⟨⟨own4, p4, hall4, v4, rfl, hown4⟩, hb4⟩; obtain ⟨_, rfl⟩ := allJ_one b13_all hall4; rw [s15_app] at hown4 ⊢; simp only [rfV, hS.out] at hown4 ⊢; obtain ⟨A4, c4, rfl, hc4, _, hr4⟩ := own_form hown4; rw [s15_len] at hc4 ⊢; have Hc4 := Lib.hid hc4; have Hr4 := Lib.hid hr4; have Hb4 := Lib.hid hb4; clear hown4 hc4 hr4 hb4 hall4)
  obtain ⟨W4, hW4⟩ : ∃ W4 : World, Hid (w4.alloc (.cells #[.int .u64 1, .int .u64 (S : Int)] 25) = W4) := ⟨_, rfl⟩
  have hb4W : Hid (Below w4.heap.size w4 W4) := by rw [← hW4.out]; exact below_new _ _
  obtain ⟨g4, hg4⟩ : ∃ g4, Hid (w4.heap.size = g4) := ⟨_, rfl⟩
  have hz4 : Hid (W4.heap.size = g4 + 1) := by rw [← hW4.out, ← hg4.out]; show _ = _; simp
  have hcx4 : Hid (W4.heap[g4]? = some (.cells #[.int .u64 1, .int .u64 (S : Int)] 25 (0, 0))) := by rw [← hW4.out, ← hg4.out]; exact heap_alloc_new w4 _
  have hgt8 : Hid (∀ W, Below w4.heap.size w4 W → Calls Try.prog 11 #[.slice A4 15 c4, .int .i64 8, .agg #[.int .u64 1, .int .u64 (S : Int)]] W fun e w' => BytesErr W.heap.size ([99], 0) e w' ∧ Below W.heap.size W w') := fun W hb => by
    have h := get_any A4 c4 w4.heap.size 15 s15 8 1 S W s15_len (by omega) Hc4.out hb.size (Reads.below Hr4.out hb)
    rw [← hS.out, s15_get] at h
    rw [← hS.out]
    exact h
  have hgt0 : Hid (∀ W, Below w4.heap.size w4 W → Calls Try.prog 11 #[.slice A4 15 c4, .int .i64 0, .agg #[.int .u64 1, .int .u64 (S : Int)]] W fun e w' => BytesErr W.heap.size ([], 110) e w' ∧ Below W.heap.size W w') := fun W hb => by
    have h := get_any A4 c4 w4.heap.size 15 s15 0 1 S W s15_len (by omega) Hc4.out hb.size (Reads.below Hr4.out hb)
    rw [← hS.out, s15_ref] at h
    rw [← hS.out]
    exact h
  rw [hW4.out, hg4.out]
  have hbb4 : Hid (Below w.heap.size w W4) := (hbw1.out.trans ((hbx3.out.trans (Hb4.out.mono hbx3.out.size)).mono hbw1.out.size)).trans (hb4W.out.mono (Nat.le_trans hbw1.out.size (Nat.le_trans hbx3.out.size Hb4.out.size)))
  go_upto_region 6 with (first
    | (go_at_call 27; refine (of_lit _ S hS.out).mono ?_; rintro e w5 ⟨rfl, hb5⟩; have Hb5 := Lib.hid hb5; clear hb5)
    | (go_at_call 11; refine (hgt8.out _ (hb4W.out.trans (Hb5.out.mono hb4W.out.size))).mono ?_; rintro e w6 ⟨⟨v6, rfl, hown6⟩, hb6⟩; simp only at hown6 ⊢; obtain ⟨A6, c6, rfl, _, _, hr6⟩ := own_form hown6; have Hr6 := Lib.hid hr6; have Hb6 := Lib.hid (Hb5.out.trans (hb6.mono Hb5.out.size)); clear hown6 hb6 hr6))
  go_upto_region 7 with (first
    | (go_at_call 27; refine (of_lit _ S hS.out).mono ?_; rintro e w7 ⟨rfl, hb7⟩; have Hb7 := Lib.hid hb7; clear hb7)
    | (go_at_call 11; refine (hgt0.out _ (hb4W.out.trans ((Hb6.out.trans (Hb7.out.mono Hb6.out.size)).mono hb4W.out.size))).mono ?_; rintro e w8 ⟨⟨v8, rfl, hown8⟩, hb8⟩; simp only at hown8 ⊢; obtain ⟨A8, c8, rfl, _, _, _⟩ := own_form hown8; have Hb8 := Lib.hid (Hb7.out.trans (hb8.mono Hb7.out.size)); clear hown8 hb8))
  have hbW8 : Hid (Below W4.heap.size W4 w8) := Hb6.out.trans (Hb8.out.mono Hb6.out.size)
  have HS : Hid (∀ wx, Below w8.heap.size w8 wx → wx.cell? ⟨g4, 0, none⟩ = some (.int .u64 1) ∧ wx.cell? ⟨g4, 1, none⟩ = some (.int .u64 (S : Int))) := fun wx hx => by
    have h1 := hbW8.out.size
    have h2 := hz4.out
    exact two_cells ((hx.block g4 (by omega)).trans ((hbW8.out.block g4 (by omega)).trans hcx4.out))
  have hT : Hid (∀ wx, Below w8.heap.size w8 wx → (convert 22 9 (.slice A6 1 c6)).run Try.prog wx = .ok (.string { data := #[99] }) wx) := fun wx hx => run_text_any (l := [99]) (Reads.below (Reads.below Hr6.out Hb8.out) (hx.mono Hb8.out.size)) c6
  have hofS : Hid (ofV [99] = .agg #[.int .u64 1, .int .u64 (S : Int)]) := by rw [← hS.out]; exact rfl
  have hCm : ∀ w w' : World, LitR w8.heap.size w w' → Below w8.heap.size w8 w → Below w8.heap.size w8 w' := fun w w' hr h => h.trans hr.1
  rename_i K1 hK
  refine wp_region_facts (n := 93) (WkF w8.heap.size (.slice A4 15 c4) (.slice A6 1 c6) S) (Below w8.heap.size w8) (by kernel_rfl) (by kernel_rfl) rfl (Below.refl _ w8).drew ?_ ?_
  rotate_left
  · intro b' w' hsz hd hs hcc hall
    have e31 : b'.tmps.getD 0 undef = .bool true := hall 31 _ _ rfl rfl
    refine hK _ _ ?_
    refine wp_ret ?_
    refine bodyPost_ret (results_tmp rfl _ _ _) hd ?_
    rw [e31]
    exact ⟨rfl, hbb4.out.trans ((hbW8.out.trans (hcc.mono hbW8.out.size)).mono hbb4.out.size)⟩
  refine OpsOk.cons _ _ (OpOk.runR _ _ (LitR w8.heap.size) WkF.keep hCm fun b v hs hc hg => ⟨rfl, _, _, exec_move rfl (hs 6 (by kernel_rfl)), LitR.refl _ _, rfl⟩) ?_
  refine OpsOk.cons _ _ (OpOk.runR _ _ (LitR w8.heap.size) WkF.keep hCm fun b v hs hc hg => ⟨rfl, _, _, exec_eqE rfl (dep hg 0 rfl rfl rfl rfl), LitR.refl _ _, rfl⟩) ?_
  refine OpsOk.cons _ _ (OpOk.runR _ _ (LitR w8.heap.size) WkF.keep hCm fun b v hs hc hg => ⟨rfl, _, _, exec_move rfl (dep hg 0 rfl rfl rfl rfl), LitR.refl _ _, rfl⟩) ?_
  refine OpsOk.cons _ _ (OpOk.runR _ _ (LitR w8.heap.size) WkF.keep hCm fun b v hs hc hg => ⟨wanted_of rfl rfl rfl (dep hg 0 rfl rfl rfl rfl), _, _, exec_move rfl (hs 3 (by kernel_rfl)), LitR.refl _ _, rfl⟩) ?_
  refine OpsOk.cons _ _ (OpOk.runR _ _ (LitR w8.heap.size) WkF.keep hCm fun b v hs hc hg => ⟨wanted_of rfl rfl rfl (dep hg 1 rfl rfl rfl rfl), _, _, exec_lenB rfl (dep hg 0 rfl rfl rfl rfl), LitR.refl _ _, rfl⟩) ?_
  refine OpsOk.cons _ _ (OpOk.runR _ _ (LitR w8.heap.size) WkF.keep hCm fun b v hs hc hg => ⟨wanted_of rfl rfl rfl (dep hg 1 rfl rfl rfl rfl), _, _, exec_eqI' rfl (dep hg 0 rfl rfl rfl rfl), LitR.refl _ _, rfl⟩) ?_
  refine OpsOk.cons _ _ (OpOk.runR _ _ (LitR w8.heap.size) WkF.keep hCm fun b v hs hc hg => ⟨rfl, _, _, exec_pick rfl (dep hg 0 rfl rfl rfl rfl) (dep hg 1 rfl rfl rfl rfl), LitR.refl _ _, rfl⟩) ?_
  refine OpsOk.cons _ _ (OpOk.runR _ _ (LitR w8.heap.size) WkF.keep hCm fun b v hs hc hg => ⟨rfl, _, _, exec_move rfl (dep hg 0 rfl rfl rfl rfl), LitR.refl _ _, rfl⟩) ?_
  refine OpsOk.cons _ _ (OpOk.runR _ _ (LitR w8.heap.size) WkF.keep hCm fun b v hs hc hg => ⟨wanted_of rfl rfl rfl (dep hg 0 rfl rfl rfl rfl), _, _, exec_move rfl (hs 4 (by kernel_rfl)), LitR.refl _ _, rfl⟩) ?_
  refine OpsOk.cons _ _ (OpOk.runR _ _ (LitR w8.heap.size) WkF.keep hCm fun b v hs hc hg => ⟨wanted_of rfl rfl rfl (dep hg 1 rfl rfl rfl rfl), _, _, exec_eqI' rfl (dep hg 0 rfl rfl rfl rfl), LitR.refl _ _, rfl⟩) ?_
  refine OpsOk.cons _ _ (OpOk.runR _ _ (LitR w8.heap.size) WkF.keep hCm fun b v hs hc hg => ⟨rfl, _, _, exec_pick rfl (dep hg 0 rfl rfl rfl rfl) (dep hg 1 rfl rfl rfl rfl), LitR.refl _ _, rfl⟩) ?_
  refine OpsOk.cons _ _ (OpOk.runR _ _ (LitR w8.heap.size) WkF.keep hCm fun b v hs hc hg => ⟨rfl, _, _, exec_move rfl (dep hg 0 rfl rfl rfl rfl), LitR.refl _ _, rfl⟩) ?_
  refine OpsOk.cons _ _ (OpOk.runR _ _ (LitR w8.heap.size) WkF.keep hCm fun b v hs hc hg => ⟨wanted_of rfl rfl rfl (dep hg 0 rfl rfl rfl rfl), _, _, exec_loadRf rfl (hs 5 (by kernel_rfl)) (HS.out _ hc).1 (HS.out _ hc).2, LitR.refl _ _, rfl⟩) ?_
  refine OpsOk.cons _ _ (OpOk.runR _ _ (LitR w8.heap.size) WkF.keep hCm fun b v hs hc hg => ⟨wanted_of rfl rfl rfl (dep hg 0 rfl rfl rfl rfl), _, _, exec_lit rfl, LitR.of (below_new _ _) hc.size, _, rfl, hc.size, (0, 0), .inl rfl, heap_alloc_new v _⟩) ?_
  refine OpsOk.cons _ _ (OpOk.runR _ _ (LitR w8.heap.size) WkF.keep hCm fun b v hs hc hg => by
    obtain ⟨g, e1, e2, e3⟩ := (dep hg 0 rfl rfl rfl rfl : WkF w8.heap.size _ _ S 13 _ v)
    obtain ⟨w', h1, h2, h3⟩ := run_convert_lit e3
    exact ⟨wanted_of rfl rfl rfl (dep hg 1 rfl rfl rfl rfl), _, _, exec_conv rfl e1 h1, h3 _ e2, g, rfl, e2, h2⟩) ?_
  refine OpsOk.cons _ _ (OpOk.callR _ _ (LitR w8.heap.size) WkF.keep hCm fun b v hs hc hg => by
    obtain ⟨g, e1, e2, e3⟩ := (dep hg 0 rfl rfl rfl rfl : WkF w8.heap.size _ _ S 14 _ v)
    refine ⟨wanted_of rfl rfl rfl (dep hg 2 rfl rfl rfl rfl), _, _, exec_call1 (enter_of _) rfl e1, ?_⟩
    have hgl : g + 1 ≤ v.heap.size := by obtain ⟨_, _, h⟩ := e3; exact (Array.getElem?_eq_some_iff.1 h).1
    refine (of_any (some ⟨g, 0, none⟩) 1 (g + 1) 1 [99] v rfl (by omega) hgl e3.reads).mono ?_
    rintro e w9 ⟨rfl, hb9⟩
    exact ⟨_, rfl, LitR.of hb9 hc.size, hofS.out⟩) ?_
  refine OpsOk.cons _ _ (OpOk.runR _ _ (LitR w8.heap.size) WkF.keep hCm fun b v hs hc hg => ⟨wanted_of rfl rfl rfl (dep hg 2 rfl rfl rfl rfl), _, _, exec_eqRf rfl (dep hg 0 rfl rfl rfl rfl) (dep hg 1 rfl rfl rfl rfl), LitR.refl _ _, rfl⟩) ?_
  refine OpsOk.cons _ _ (OpOk.runR _ _ (LitR w8.heap.size) WkF.keep hCm fun b v hs hc hg => ⟨rfl, _, _, exec_pick rfl (dep hg 0 rfl rfl rfl rfl) (dep hg 1 rfl rfl rfl rfl), LitR.refl _ _, rfl⟩) ?_
  refine OpsOk.cons _ _ (OpOk.runR _ _ (LitR w8.heap.size) WkF.keep hCm fun b v hs hc hg => ⟨rfl, _, _, exec_move rfl (dep hg 0 rfl rfl rfl rfl), LitR.refl _ _, rfl⟩) ?_
  refine OpsOk.cons _ _ (OpOk.runR _ _ (LitR w8.heap.size) WkF.keep hCm fun b v hs hc hg => ⟨wanted_of rfl rfl rfl (dep hg 0 rfl rfl rfl rfl), _, _, exec_move rfl (hs 8 (by kernel_rfl)), LitR.refl _ _, rfl⟩) ?_
  refine OpsOk.cons _ _ (OpOk.runR _ _ (LitR w8.heap.size) WkF.keep hCm fun b v hs hc hg => ⟨wanted_of rfl rfl rfl (dep hg 1 rfl rfl rfl rfl), _, _, exec_eqE rfl (dep hg 0 rfl rfl rfl rfl), LitR.refl _ _, rfl⟩) ?_
  refine OpsOk.cons _ _ (OpOk.runR _ _ (LitR w8.heap.size) WkF.keep hCm fun b v hs hc hg => ⟨rfl, _, _, exec_pick rfl (dep hg 0 rfl rfl rfl rfl) (dep hg 1 rfl rfl rfl rfl), LitR.refl _ _, rfl⟩) ?_
  refine OpsOk.cons _ _ (OpOk.runR _ _ (LitR w8.heap.size) WkF.keep hCm fun b v hs hc hg => ⟨rfl, _, _, exec_move rfl (dep hg 0 rfl rfl rfl rfl), LitR.refl _ _, rfl⟩) ?_
  refine OpsOk.cons _ _ (OpOk.runR _ _ (LitR w8.heap.size) WkF.keep hCm fun b v hs hc hg => ⟨wanted_of rfl rfl rfl (dep hg 0 rfl rfl rfl rfl), _, _, exec_move rfl (hs 7 (by kernel_rfl)), LitR.refl _ _, rfl⟩) ?_
  refine OpsOk.cons _ _ (OpOk.runR _ _ (LitR w8.heap.size) WkF.keep hCm fun b v hs hc hg => ⟨wanted_of rfl rfl rfl (dep hg 1 rfl rfl rfl rfl), _, _, exec_conv rfl (dep hg 0 rfl rfl rfl rfl) (hT.out _ hc), LitR.refl _ _, rfl⟩) ?_
  refine OpsOk.cons _ _ (OpOk.runR _ _ (LitR w8.heap.size) WkF.keep hCm fun b v hs hc hg => ⟨wanted_of rfl rfl rfl (dep hg 1 rfl rfl rfl rfl), _, _, exec_eqT rfl (dep hg 0 rfl rfl rfl rfl), LitR.refl _ _, rfl⟩) ?_
  refine OpsOk.cons _ _ (OpOk.runR _ _ (LitR w8.heap.size) WkF.keep hCm fun b v hs hc hg => ⟨rfl, _, _, exec_pick rfl (dep hg 0 rfl rfl rfl rfl) (dep hg 1 rfl rfl rfl rfl), LitR.refl _ _, rfl⟩) ?_
  refine OpsOk.cons _ _ (OpOk.runR _ _ (LitR w8.heap.size) WkF.keep hCm fun b v hs hc hg => ⟨rfl, _, _, exec_move rfl (dep hg 0 rfl rfl rfl rfl), LitR.refl _ _, rfl⟩) ?_
  refine OpsOk.cons _ _ (OpOk.runR _ _ (LitR w8.heap.size) WkF.keep hCm fun b v hs hc hg => ⟨wanted_of rfl rfl rfl (dep hg 0 rfl rfl rfl rfl), _, _, exec_move rfl (hs 10 (by kernel_rfl)), LitR.refl _ _, rfl⟩) ?_
  refine OpsOk.cons _ _ (OpOk.runR _ _ (LitR w8.heap.size) WkF.keep hCm fun b v hs hc hg => ⟨wanted_of rfl rfl rfl (dep hg 1 rfl rfl rfl rfl), _, _, exec_eqE rfl (dep hg 0 rfl rfl rfl rfl), LitR.refl _ _, rfl⟩) ?_
  refine OpsOk.cons _ _ (OpOk.runR _ _ (LitR w8.heap.size) WkF.keep hCm fun b v hs hc hg => ⟨rfl, _, _, exec_pick rfl (dep hg 0 rfl rfl rfl rfl) (dep hg 1 rfl rfl rfl rfl), LitR.refl _ _, rfl⟩) ?_
  refine OpsOk.cons _ _ (OpOk.runR _ _ (LitR w8.heap.size) WkF.keep hCm fun b v hs hc hg => ⟨rfl, _, _, exec_assign rfl (dep hg 0 rfl rfl rfl rfl), LitR.refl _ _, rfl⟩) ?_
  exact OpsOk.nil _ _
end Go.Proofs.Ytogoaihimepboaa
