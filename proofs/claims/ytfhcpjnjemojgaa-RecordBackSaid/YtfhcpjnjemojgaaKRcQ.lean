/- The walk of the reference's Right. Conditions: none. -/
import Derived.Test.YtfhcpjnjemojgaaKRcP
import Derived.Test.YtfhcpjnjemojgaaKGc
namespace Go.Proofs.Ytfhcpjnjemojgaa
open Go.RowKit

/-- A record of the reference, in a block of its own. -/
def RRec (x : Rc) (w : World) (g : Nat) : Prop := w.heap[g]? = some (.cells x.cells.toArray 31 (0, 0))
theorem RRec.lt {x : Rc} {w : World} {g : Nat} (h : RRec x w g) : g < w.heap.size := (Array.getElem?_eq_some_iff.1 h).1
theorem RRec.cell {x : Rc} {w : World} {g : Nat} (h : RRec x w g) (i : Nat) : w.cell? ⟨g, i, none⟩ = x.cells[i]? := by
  have := cell_of_row w g i _ _ _ h
  simpa using this
theorem RRec.cells12 {x : Rc} {w : World} {g : Nat} (h : RRec x w g) : Cells12 x w g := ⟨h.cell⟩
theorem RRec.below {x : Rc} {w w' : World} {g B : Nat} (h : RRec x w g) (hb : Below B w w') (hg : g < B) : RRec x w' g := (hb.block g hg).trans h
theorem RRec.keep {x : Rc} {w w' : World} {g : Nat} (h : RRec x w g) (hb : Below w.heap.size w w') : RRec x w' g := h.below hb h.lt
theorem rrec_new (x : Rc) (w : World) : RRec x (w.alloc (.cells x.cells.toArray 31)) w.heap.size := heap_alloc_new _ _
theorem wpList_storeRRec {ops : Array Oper} {Q : Exit → Act → World → Prop} {o : Oper} {rest : List Oper} {a : Act} {w : World} {x0 x : Rc} {g : Nat} (s y : Operand) (hgd : o.guard = none) (ho : o.op = .store 31 s y) (hs : a.eval s = .pointer (some ⟨g, 0, none⟩)) (hy : a.eval y = x.v) (hg : RRec x0 w g)
    (hk : ∀ w', RRec x w' g → (∀ B, B ≤ g → Below B w w') → (∀ z h, h ≠ g → RRec z w h → RRec z w' h) → (∀ p : Addr, p.block ≠ g → w'.cell? p = w.cell? p) → wpList Try.prog ops Q rest (a.put o.dst undef) w') : wpList Try.prog ops Q (o :: rest) a w :=
  wpList_plain hgd fun _ hK => wp_store_row 31 s y ho g x.cells.toArray hs hy _ _ hg size_rrec rfl (rc_one x) (hK _ _ (hk _ (setRow_heap _ _ _ _ _ _ hg) (fun _ hB => ⟨rfl, rfl, rfl, by rw [size_setRow]; exact Nat.le_refl _, fun k hk' => setRow_other w g k _ (by omega)⟩)
    (fun _ h hne hz => (setRow_other w g h _ hne).trans hz) (fun p hp => cell_setRow_other w g _ p hp)))
theorem letterOf_lt (j : Nat) : letterOf j < 256 := by unfold letterOf; split <;> omega
theorem letters_get {k n j : Nat} (h : (parts k)[n]? = some j) : (lettersOf k)[n]? = some (UInt8.ofNat (letterOf j)) := by
  unfold lettersOf
  rw [List.getElem?_map, h]
  rfl
theorem letters_len (k : Nat) : (lettersOf k).length = (parts k).length := by simp [lettersOf]
section
variable {b : Act} {w : World} {o : Oper}
theorem exec_letter {x y : Operand} {k n j : Nat} {s : ByteArray} (hs : s = txt (lettersOf k)) (hj : (parts k)[n]? = some j) (ho : o.op = .index 9 x y) (h : b.eval x = .string s) (h' : b.eval y = .int .i64 (n : Int)) : (execOp b.eval o).run Try.prog w = .ok (.value (.int .u8 (letterOf j : Int))) w := by
  subst hs
  have hl := letters_get hj
  obtain ⟨hn, he⟩ := List.getElem?_eq_some_iff.1 hl
  have hsz : (n : Int) < ((txt (lettersOf k)).size : Int) := by rw [txt_size]; omega
  have hv : ∀ h, ((txt (lettersOf k))[n]'h).toNat = letterOf j := by
    intro h
    have : (txt (lettersOf k))[n]'h = UInt8.ofNat (letterOf j) := he
    rw [this]
    exact u8_toNat (letterOf_lt j)
  unfold execOp
  simp only [ho, h, h']
  go_simp
theorem exec_lenT {x : Operand} {l : List UInt8} {t : TypeId} (ht : t = 9) (ho : o.op = .call { callee := .builtin .len, args := #[x], argTypes := #[t] }) (h : b.eval x = .string (txt l)) : (execOp b.eval o).run Try.prog w = .ok (.value (.int .i64 (l.length : Int))) w := by
  subst ht
  have hz := txt_size l
  unfold execOp resolve
  simp only [ho, List.map_toArray, List.map_cons, List.map_nil, h]
  go_simp
end
/-- What the operations say that put one part into a record. -/
def B8F (x y : Rc) (k n j : Nat) : Nat → Value → World → Prop
  | 0, v, _ => v = y.v
  | 1, v, _ | 5, v, _ | 10, v, _ => v = .string (txt (lettersOf k))
  | 2, v, _ | 6, v, _ | 11, v, _ => v = .int .i64 (n : Int)
  | 3, v, _ | 7, v, _ | 12, v, _ => v = .int .u8 (letterOf j : Int)
  | 4, v, _ | 9, v, _ => v = x.v
  | 8, v, _ => v = .int .u64 (numR x j : Int)
  | 13, v, _ => v = .string (txt (txR x j))
  | 14, v, _ => v = (withR y j (numR x j) (txR x j)).v
  | _, _, _ => True
theorem B8F.keep {x y : Rc} {k n j : Nat} (i : Nat) (u : Value) (w w' : World) (_hb : Below w.heap.size w w') (h : B8F x y k n j i u w) : B8F x y k n j i u w' :=
  match i, h with
  | 0, h | 1, h | 2, h | 3, h | 4, h | 5, h | 6, h | 7, h | 8, h | 9, h | 10, h | 11, h | 12, h | 13, h | 14, h => h
  | _ + 15, h => h
def B8C (W : World) (x y : Rc) (g h : Nat) (w : World) : Prop := Below W.heap.size W w ∧ RRec x w g ∧ RRec y w h
theorem B8C.keep {W : World} {x y : Rc} {g h : Nat} (w w' : World) (hb : Below w.heap.size w w') (hc : B8C W x y g h w) : B8C W x y g h w' := ⟨hc.1.trans (hb.mono hc.1.size), hc.2.1.keep hb, hc.2.2.keep hb⟩
theorem ans_v {f : FuncId} {args : Array Value} {w : World} {v : Value} (h : Calls Try.prog f args w fun e w' => e = .returned v ∧ Below w.heap.size w w') : Calls Try.prog f args w fun e w' => ∃ u, e = .returned u ∧ Below w.heap.size w w' ∧ u = v := by
  refine h.mono ?_
  rintro e w' ⟨rfl, hb⟩
  exact ⟨_, rfl, hb, rfl⟩
theorem ans_s {f : FuncId} {args : Array Value} {w : World} {v : Value} (h : Calls Try.prog f args w fun e w' => e = .returned v ∧ w = w') : Calls Try.prog f args w fun e w' => ∃ u, e = .returned u ∧ Below w.heap.size w w' ∧ u = v := by
  refine h.mono ?_
  rintro e w' ⟨rfl, rfl⟩
  exact ⟨_, rfl, .refl _ _, rfl⟩
theorem enter_number (w : World) (args : Array Value) : (callFunc 29 args).run Try.prog w = .ok (.enter 29 args) w := by kernel_rfl
theorem enter_textOf (w : World) (args : Array Value) : (callFunc 27 args).run Try.prog w = .ok (.enter 27 args) w := by kernel_rfl
theorem enter_isText (w : World) (args : Array Value) : (callFunc 25 args).run Try.prog w = .ok (.enter 25 args) w := by kernel_rfl
theorem enter_with (w : World) (args : Array Value) : (callFunc 34 args).run Try.prog w = .ok (.enter 34 args) w := by kernel_rfl
theorem exec_call4 {P : Program} {b : Act} {w : World} {o : Oper} {f : FuncId} {x y z s : Operand} {t u r q : TypeId} {v v' v'' v3 : Value} (hf : ∀ args, (callFunc f args).run P w = .ok (.enter f args) w) (ho : o.op = .call { callee := .value (.func f), args := #[x, y, z, s], argTypes := #[t, u, r, q] }) (h : b.eval x = v) (h' : b.eval y = v') (h'' : b.eval z = v'') (h3 : b.eval s = v3) : (execOp b.eval o).run P w = .ok (.enter f #[v, v', v'', v3]) w := by
  subst h h' h'' h3
  unfold execOp
  simp only [ho]
  go_simp
/-- What the operations say that look at a text. -/
def B9F (x : Rc) (k n j : Nat) (t1 t2 : Value) (bad : Value) (T9 u5 u13 : Bool) : Nat → Value → World → Prop
  | 0, v, _ => v = .string (txt (lettersOf k))
  | 1, v, _ => v = .int .i64 (n : Int)
  | 2, v, _ => v = .int .u8 (letterOf j : Int)
  | 3, v, _ => v = .bool (decide (9 ≤ j))
  | 4, v, _ => v = .bool T9
  | 5, v, _ => v = if u5 then x.v else undef
  | 6, v, _ => v = if u5 then .string (txt (lettersOf k)) else undef
  | 7, v, _ => v = if u5 then .int .i64 (n : Int) else undef
  | 8, v, _ => v = if u5 then .int .u8 (letterOf j : Int) else undef
  | 9, v, _ => v = if u5 then .string (txt (txR x j)) else undef
  | 10, v, _ => v = if u5 then .int .i64 ((txR x j).length : Int) else undef
  | 11, v, _ | 12, v, _ => v = if u5 then t1 else undef
  | 13, v, _ => v = if u13 then x.v else undef
  | 14, v, _ => v = if u13 then .string (txt (lettersOf k)) else undef
  | 15, v, _ => v = if u13 then .int .i64 (n : Int) else undef
  | 16, v, _ => v = if u13 then .int .u8 (letterOf j : Int) else undef
  | 17, v, _ => v = if u13 then .string (txt (txR x j)) else undef
  | 18, v, _ => v = if u13 then .int .i64 ((txR x j).length : Int) else undef
  | 19, v, _ => v = if u13 then t2 else undef
  | 20, v, _ => v = if u5 then bad else undef
  | 21, v, _ => v = bad
  | _, _, _ => True
theorem cp_with (x y : Rc) {j : Nat} (hj : 3 ≤ j ∧ j ≤ 10) : withR y j (numR x j) (txR x j) = cpP x y j := by
  obtain rfl | rfl | rfl | rfl | rfl | rfl | rfl | rfl : j = 3 ∨ j = 4 ∨ j = 5 ∨ j = 6 ∨ j = 7 ∨ j = 8 ∨ j = 9 ∨ j = 10 := by omega
  all_goals rfl
theorem tx_txR (x : Rc) {j : Nat} (hj : 9 ≤ j ∧ j ≤ 10) : txR x j = x.tx j := by
  obtain rfl | rfl : j = 9 ∨ j = 10 := by omega
  · rfl
  · rfl
/-- The record of whose it is. -/
def headOf (x : Rc) : Rc := ⟨x.k, x.p, x.i, x.q, 0, 0, 0, 0, 0, 0, [], []⟩
theorem bld_all (x : Rc) : bld x (Rc.zero x.k) (allP x.k) = bld x (headOf x) (parts x.k) := rfl
theorem bld_snoc {x y : Rc} {l : List Nat} {n j : Nat} (h : l[n]? = some j) : bld x y (l.take (n + 1)) = cpP x (bld x y (l.take n)) j := by
  unfold bld
  rw [take_snoc (Lib.hid h), List.foldl_append]
  rfl
/-- May a text not stand there? -/
def badT (x : Rc) (j : Nat) : Bool := decide (9 ≤ j) && (decide ((txR x j).length < 1) || decide (64 < (txR x j).length))
theorem badT_eq (x : Rc) {j : Nat} (hj : 3 ≤ j ∧ j ≤ 10) : (decide (j < 9) || (decide (1 ≤ (x.tx j).length) && decide ((x.tx j).length ≤ 64))) = !badT x j := by
  unfold badT
  by_cases h9 : j < 9
  · simp [h9]
  · rw [tx_txR x (by omega), decide_eq_false h9, decide_eq_true (show 9 ≤ j by omega), Bool.false_or, Bool.true_and]
    by_cases h1 : (x.tx j).length < 1
    · rw [decide_eq_true h1, decide_eq_false (show ¬ 1 ≤ (x.tx j).length by omega)]; rfl
    · rw [decide_eq_false h1, decide_eq_true (show 1 ≤ (x.tx j).length by omega)]
      by_cases h2 : 64 < (x.tx j).length
      · rw [decide_eq_true h2, decide_eq_false (show ¬ (x.tx j).length ≤ 64 by omega)]; rfl
      · rw [decide_eq_false h2, decide_eq_true (show (x.tx j).length ≤ 64 by omega)]; rfl
theorem txOk_snoc {x : Rc} {l : List Nat} {n j : Nat} (h : l[n]? = some j) (hj : 3 ≤ j ∧ j ≤ 10) : txOk x (l.take (n + 1)) = (txOk x (l.take n) && !badT x j) := by
  unfold txOk
  rw [take_snoc (Lib.hid h), List.all_append, ← badT_eq x hj]
  simp
theorem txOk_bad {x : Rc} {l : List Nat} {n j : Nat} (h : l[n]? = some j) (hj : 3 ≤ j ∧ j ≤ 10) (hb : badT x j = true) : txOk x l = false := by
  unfold txOk
  rw [List.all_eq_false]
  refine ⟨j, List.mem_of_getElem? h, ?_⟩
  rw [badT_eq x hj, hb]
  simp
theorem B9F.keep {x : Rc} {k n j : Nat} {t1 t2 bad : Value} {T9 u5 u13 : Bool} (i : Nat) (u : Value) (w w' : World) (_hb : Below w.heap.size w w') (h : B9F x k n j t1 t2 bad T9 u5 u13 i u w) : B9F x k n j t1 t2 bad T9 u5 u13 i u w' :=
  match i, h with
  | 0, h | 1, h | 2, h | 3, h | 4, h | 5, h | 6, h | 7, h | 8, h | 9, h | 10, h | 11, h | 12, h | 13, h | 14, h | 15, h | 16, h | 17, h | 18, h | 19, h | 20, h | 21, h => h
  | _ + 22, h => h
def B9C (W : World) (x : Rc) (g : Nat) (w : World) : Prop := Below W.heap.size W w ∧ RRec x w g
theorem B9C.keep {W : World} {x : Rc} {g : Nat} (w w' : World) (hb : Below w.heap.size w w') (hc : B9C W x g w) : B9C W x g w' := ⟨hc.1.trans (hb.mono hc.1.size), hc.2.keep hb⟩
theorem exec_ltI {b : Act} {w : World} {o : Oper} {x : Operand} {v : Value} {n m : Int} (ho : o.op = .binOp .lss 3 x (.const v) 3) (h : b.eval x = .int .i64 n) (hv : v = .int .i64 m) : (execOp b.eval o).run Try.prog w = .ok (.value (.bool (decide (n < m)))) w := by
  subst hv
  unfold execOp
  simp only [ho, h]
  go_simp
theorem exec_gtI {b : Act} {w : World} {o : Oper} {x : Operand} {v : Value} {n m : Int} (ho : o.op = .binOp .gtr 3 x (.const v) 3) (h : b.eval x = .int .i64 n) (hv : v = .int .i64 m) : (execOp b.eval o).run Try.prog w = .ok (.value (.bool (decide (m < n)))) w := by
  subst hv
  unfold execOp
  simp only [ho, h]
  go_simp
set_option maxHeartbeats 8000000 in
set_option maxRecDepth 100000 in
theorem refRight_any (x : Rc) (w : World) : Calls Try.prog 15 #[x.v] w fun e w' => e = .returned (.bool (rightM x)) ∧ Below w.heap.size w w' := by
  obtain ⟨W, hW⟩ : ∃ W, Hid (W = w.alloc (.cells x.cells.toArray 31)) := ⟨_, rfl⟩
  have hbW : Hid (Below w.heap.size w W) := by rw [hW.out]; exact below_new _ _
  have hx : Hid (RRec x W w.heap.size) := by rw [hW.out]; exact rrec_new x w
  have hsz := Lib.hid (show W.heap.size = w.heap.size + 1 by rw [hW.out]; simp)
  have HW' := Lib.hid (show w.alloc (.cells #[.int .u8 (x.k : Int), .int .u64 (x.p : Int), .int .u64 (x.i : Int), .int .u64 (x.q : Int), .int .u64 (x.e : Int), .int .u64 (x.u : Int), .int .u64 (x.r : Int), .int .u64 (x.c : Int), .int .u64 (x.z : Int), .int .u64 (x.s : Int), .string (txt x.n), .string (txt x.t)] 31) = W from hW.out.symm)
  have hc0 : W.cell? ⟨w.heap.size, 0, none⟩ = some (.int .u8 (x.k : Int)) := hx.out.cell 0
  have hc1 : W.cell? ⟨w.heap.size, 1, none⟩ = some (.int .u64 (x.p : Int)) := hx.out.cell 1
  have hc2 : W.cell? ⟨w.heap.size, 2, none⟩ = some (.int .u64 (x.i : Int)) := hx.out.cell 2
  have hc3 : W.cell? ⟨w.heap.size, 3, none⟩ = some (.int .u64 (x.q : Int)) := hx.out.cell 3
  have hc8 : W.cell? ⟨w.heap.size, 8, none⟩ = some (.int .u64 (x.z : Int)) := hx.out.cell 8
  have hc9 : W.cell? ⟨w.heap.size, 9, none⟩ = some (.int .u64 (x.s : Int)) := hx.out.cell 9
  have hR := Lib.hid (right_eq x)
  unfold Rc.v
  go_enter Try.func15, Try.ntmps15
  go_upto_region 1 with fail
  rw [HW'.out]
  have hno : isK x.k = false → rightM x = false := fun h => by rw [rightM_eq, h, Bool.false_and]
  by_cases hk1 : x.k < 1
  · have hk1' : (x.k : Int) < 1 := by omega
    have hk0 := Lib.hid (hno (by unfold isK; rw [decide_eq_false_iff_not]; omega))
    clear hno
    go_wp2
    go_ret
    exact ⟨ret_bool hk0.out.symm, hbW.out⟩
  by_cases hk2 : 11 < x.k
  · have hk1' : 1 ≤ (x.k : Int) := by omega
    have hk2' : 11 < (x.k : Int) := by omega
    have hk0 := Lib.hid (hno (by unfold isK; rw [decide_eq_false_iff_not]; omega))
    clear hno hk1
    go_wp2
    go_ret
    exact ⟨ret_bool hk0.out.symm, hbW.out⟩
  have hk1' : 1 ≤ (x.k : Int) := by omega
  have hk2' : (x.k : Int) ≤ 11 := by omega
  have hK := Lib.hid (show isK x.k = true by unfold isK; rw [decide_eq_true_eq]; omega)
  clear hno hk1 hk2
  by_cases hz : 65535 < x.z
  · have hz' : (65535 : Int) < (x.z : Int) := by omega
    go_wp2
    go_ret
    exact ⟨ret_bool (by rw [hR.out]; unfold rightR; rw [decide_eq_false (p := x.z ≤ 65535) (by omega)]; simp), hbW.out⟩
  by_cases hs : 4294967295 < x.s
  · have hz' : (x.z : Int) ≤ 65535 := by omega
    have hs' : (4294967295 : Int) < (x.s : Int) := by omega
    go_wp2
    go_ret
    exact ⟨ret_bool (by rw [hR.out]; unfold rightR; rw [decide_eq_false (p := x.s ≤ 4294967295) (by omega)]; simp), hbW.out⟩
  have hz' : (x.z : Int) ≤ 65535 := by omega
  have hs' : (x.s : Int) ≤ 4294967295 := by omega
  have hRR : rightM x = (txOk x (parts x.k) && decide (bld x (headOf x) (parts x.k) = x)) := by
    rw [hR.out]
    unfold rightR
    rw [hK.out, decide_eq_true (p := x.z ≤ 65535) (by omega), decide_eq_true (p := x.s ≤ 4294967295) (by omega), bld_all]
    rfl
  have HRR := Lib.hid hRR
  clear hz hs hRR
  obtain ⟨L, hL⟩ : ∃ L, Hid (L = txt (lettersOf x.k)) := ⟨_, rfl⟩
  have hLz : L.size = (parts x.k).length := by rw [hL.out, txt_size, letters_len]
  obtain ⟨m, hm⟩ : ∃ m, Hid (m = (parts x.k).length) := ⟨_, rfl⟩
  rw [← hm.out] at hLz
  have hm4 : (m : Int) ≤ 4 := by have := parts_len x.k; rw [← hm.out] at this; omega
  have Hparts := Lib.hid (parts_any x.k W)
  rw [← hL.out] at Hparts
  go_upto_region 4 with (go_at_call 24; refine Hparts.out.mono ?_; rintro e w1 ⟨rfl, hb1⟩)
  have hx1 := Lib.hid (hx.out.keep hb1)
  have hb1w := Lib.hid (hbW.out.trans (hb1.mono (by rw [hsz.out]; omega)))
  have d0 : w1.cell? ⟨w.heap.size, 0, none⟩ = some (.int .u8 (x.k : Int)) := hx1.out.cell 0
  have d1 : w1.cell? ⟨w.heap.size, 1, none⟩ = some (.int .u64 (x.p : Int)) := hx1.out.cell 1
  have d2 : w1.cell? ⟨w.heap.size, 2, none⟩ = some (.int .u64 (x.i : Int)) := hx1.out.cell 2
  have d3 : w1.cell? ⟨w.heap.size, 3, none⟩ = some (.int .u64 (x.q : Int)) := hx1.out.cell 3
  have hgl := hx1.out.lt
  clear hc0 hc1 hc2 hc3 hc8 hc9 hb1
  go_upto_region 5 with fail
  obtain ⟨W3, hW3⟩ : ∃ W3, Hid (W3 = w1.alloc (.cells (headOf x).cells.toArray 31)) := ⟨_, rfl⟩
  have HW3 := Lib.hid (show w1.alloc (.cells #[.int .u8 (x.k : Int), .int .u64 (x.p : Int), .int .u64 (x.i : Int), .int .u64 (x.q : Int), .int .u64 0, .int .u64 0, .int .u64 0, .int .u64 0, .int .u64 0, .int .u64 0, .string ⟨#[]⟩, .string ⟨#[]⟩] 31) = W3 from hW3.out.symm)
  rw [HW3.out]
  obtain ⟨g1, hg1⟩ : ∃ g1, Hid (g1 = w1.heap.size) := ⟨_, rfl⟩
  rw [← hg1.out]
  have hx3 := Lib.hid (show RRec x W3 w.heap.size by rw [hW3.out]; exact hx1.out.keep (below_new _ _))
  have hy3 := Lib.hid (show RRec (headOf x) W3 g1 by rw [hW3.out, hg1.out]; exact rrec_new _ _)
  have hb3 := Lib.hid (show Below w.heap.size w W3 by rw [hW3.out]; exact hb1w.out.alloc hb1w.out.size _)
  have hgg := Lib.hid (show w.heap.size < g1 by rw [hg1.out]; exact hgl)
  clear d0 d1 d2 d3 hgl
  go_wp2
  go_loopw [5] (fun i wr => ∃ n : Nat, n ≤ m ∧ i = .int .i64 (n : Int) ∧ Hid (RRec x wr w.heap.size) ∧ Hid (RRec (bld x (headOf x) ((parts x.k).take n)) wr g1) ∧ Hid (Below w.heap.size w wr) ∧ Hid (txOk x ((parts x.k).take n) = true)) (fun i _ => m - (intOf i).toNat)
  case atStart => exact ⟨0, by omega, rfl, hx3, hy3, hb3, by exact rfl⟩
  case round =>
    obtain ⟨n, hn, rfl, hxr, hyr, hbr, htx⟩ := hrel
    by_cases hlt : n < m
    · obtain ⟨j, hj⟩ : ∃ j, Hid ((parts x.k)[n]? = some j) := ⟨_, List.getElem?_eq_getElem (by rw [← hm.out]; exact hlt)⟩
      have hj3 := Lib.hid (parts_le (List.mem_of_getElem? hj.out))
      obtain ⟨y, hy⟩ : ∃ y, Hid (y = bld x (headOf x) ((parts x.k).take n)) := ⟨_, rfl⟩
      rw [← hy.out] at hyr
      have hlt' : (n : Int) < (m : Int) := by omega
      go_upto_region 8 with fail
      obtain ⟨wo, rfl⟩ : ∃ wo : World, wo = wr := ⟨_, rfl⟩
      go_cut [] from 42 to 56 (fun wx => RRec x wx w.heap.size ∧ RRec (cpP x y j) wx g1 ∧ Below w.heap.size w wx)
      case first =>
        rename_i J K1 hJ hK
        rw [hL.out]
        refine wp_region_tail (n := 82) (m := 15) (B8F x y x.k n j) (B8C wo x y w.heap.size g1) (by kernel_rfl) (by kernel_rfl) rfl rfl (by decide) (by kernel_rfl) ?_ ?_ ?_
        · exact ⟨(Below.refl _ _).drew, hxr.out, hyr.out⟩
        rotate_left
        · intro b' w' hsz hd hs hc hall
          have h14 : b'.tmps.getD 56 undef = (withR y j (numR x j) (txR x j)).v := hall 14 _ _ (by decide) rfl rfl
          have h4 : b'.tmps.getD 4 undef = .pointer (some ⟨g1, 0, none⟩) := hs 4 (by kernel_rfl)
          rw [cp_with x y hj3.out] at h14
          refine wpList_storeRRec (.tmp 4) (.tmp 56) rfl rfl h4 h14 hc.2.2 ?_
          intro w4 hy4 hb4 hz4 _
          refine hK _ _ (Met.intro (hJ _ _ ?_))
          refine ⟨b'.tmps.getD 42 undef, b'.tmps.getD 43 undef, b'.tmps.getD 44 undef, b'.tmps.getD 45 undef, b'.tmps.getD 46 undef, b'.tmps.getD 47 undef, b'.tmps.getD 48 undef, b'.tmps.getD 49 undef, b'.tmps.getD 50 undef, b'.tmps.getD 51 undef, b'.tmps.getD 52 undef, b'.tmps.getD 53 undef, b'.tmps.getD 54 undef, b'.tmps.getD 55 undef, b'.tmps.getD 56 undef, ⟨hz4 _ _ (by have := hgg.out; omega) hc.2.1, hy4, ?_⟩, (act_known hsz hd hs).trans (by rw [← hL.out]; kernel_rfl)⟩
          exact (hbr.out.trans (hc.1.mono hbr.out.size)).trans (hb4 _ (Nat.le_of_lt hgg.out))
        refine OpsOk.cons _ _ (OpOk.run _ _ B8F.keep B8C.keep fun b v hs hc hg => ⟨rfl, _, _, exec_loadRRec rfl (hs 4 (by kernel_rfl)) hc.2.2.cells12, .refl _ _, rfl⟩) ?_
        refine OpsOk.cons _ _ (OpOk.run _ _ B8F.keep B8C.keep fun b v hs hc hg => ⟨rfl, _, _, exec_move rfl (hs 3 (by kernel_rfl)), .refl _ _, rfl⟩) ?_
        refine OpsOk.cons _ _ (OpOk.run _ _ B8F.keep B8C.keep fun b v hs hc hg => ⟨rfl, _, _, exec_move rfl (hs 5 (by kernel_rfl)), .refl _ _, rfl⟩) ?_
        refine OpsOk.cons _ _ (OpOk.run _ _ B8F.keep B8C.keep fun b v hs hc hg => ⟨rfl, _, _, exec_letter rfl hj.out rfl (dep hg 0 rfl rfl rfl rfl) (dep hg 1 rfl rfl rfl rfl), .refl _ _, rfl⟩) ?_
        refine OpsOk.cons _ _ (OpOk.run _ _ B8F.keep B8C.keep fun b v hs hc hg => ⟨rfl, _, _, exec_loadRRec rfl (hs 1 (by kernel_rfl)) hc.2.1.cells12, .refl _ _, rfl⟩) ?_
        refine OpsOk.cons _ _ (OpOk.run _ _ B8F.keep B8C.keep fun b v hs hc hg => ⟨rfl, _, _, exec_move rfl (hs 3 (by kernel_rfl)), .refl _ _, rfl⟩) ?_
        refine OpsOk.cons _ _ (OpOk.run _ _ B8F.keep B8C.keep fun b v hs hc hg => ⟨rfl, _, _, exec_move rfl (hs 5 (by kernel_rfl)), .refl _ _, rfl⟩) ?_
        refine OpsOk.cons _ _ (OpOk.run _ _ B8F.keep B8C.keep fun b v hs hc hg => ⟨rfl, _, _, exec_letter rfl hj.out rfl (dep hg 0 rfl rfl rfl rfl) (dep hg 1 rfl rfl rfl rfl), .refl _ _, rfl⟩) ?_
        refine OpsOk.cons _ _ (OpOk.call _ _ B8F.keep B8C.keep fun b v hs hc hg => ⟨rfl, _, _, exec_call2 (enter_number _) rfl (dep hg 0 rfl rfl rfl rfl) (dep hg 1 rfl rfl rfl rfl), ans_v (number_any x hj3.out v)⟩) ?_
        refine OpsOk.cons _ _ (OpOk.run _ _ B8F.keep B8C.keep fun b v hs hc hg => ⟨rfl, _, _, exec_loadRRec rfl (hs 1 (by kernel_rfl)) hc.2.1.cells12, .refl _ _, rfl⟩) ?_
        refine OpsOk.cons _ _ (OpOk.run _ _ B8F.keep B8C.keep fun b v hs hc hg => ⟨rfl, _, _, exec_move rfl (hs 3 (by kernel_rfl)), .refl _ _, rfl⟩) ?_
        refine OpsOk.cons _ _ (OpOk.run _ _ B8F.keep B8C.keep fun b v hs hc hg => ⟨rfl, _, _, exec_move rfl (hs 5 (by kernel_rfl)), .refl _ _, rfl⟩) ?_
        refine OpsOk.cons _ _ (OpOk.run _ _ B8F.keep B8C.keep fun b v hs hc hg => ⟨rfl, _, _, exec_letter rfl hj.out rfl (dep hg 0 rfl rfl rfl rfl) (dep hg 1 rfl rfl rfl rfl), .refl _ _, rfl⟩) ?_
        refine OpsOk.cons _ _ (OpOk.call _ _ B8F.keep B8C.keep fun b v hs hc hg => ⟨rfl, _, _, exec_call2 (enter_textOf _) rfl (dep hg 0 rfl rfl rfl rfl) (dep hg 1 rfl rfl rfl rfl), ans_v (textOf_any x hj3.out v)⟩) ?_
        refine OpsOk.cons _ _ (OpOk.call _ _ B8F.keep B8C.keep fun b v hs hc hg => ⟨rfl, _, _, exec_call4 (enter_with _) rfl (dep hg 0 rfl rfl rfl rfl) (dep hg 1 rfl rfl rfl rfl) (dep hg 2 rfl rfl rfl rfl) (dep hg 3 rfl rfl rfl rfl), ans_v (with_any _ hj3.out _ _ v)⟩) ?_
        exact OpsOk.nil _ _
      obtain ⟨hx9, hy9, hb9⟩ := hcut
      have Hx9 := Lib.hid hx9
      have Hy9 := Lib.hid hy9
      have Hb9 := Lib.hid hb9
      clear hx9 hy9 hb9
      go_upto_region 9 with fail
      have Hc9 := Lib.hid (show x.k ≤ 11 by omega)
      go_cut [78] from 57 to 78 (fun s wx => s = .bool (badT x j) ∧ Below wc.heap.size wc wx)
      case first =>
        rename_i J K1 hJ hK
        rw [hL.out]
        by_cases h9 : 9 ≤ j
        · have h9d : decide (9 ≤ j) = true := decide_eq_true h9
          by_cases hl1 : (txR x j).length < 1
          · have hl1d : decide (((txR x j).length : Int) < 1) = true := decide_eq_true (by omega)
            have hbad : badT x j = true := by unfold badT; rw [h9d, decide_eq_true hl1]; rfl
            refine wp_region_skips (n := 82) (B9F x x.k n j (.bool true) (undef) (.bool true) true true false) (B9C wc x w.heap.size) (by kernel_rfl) (by kernel_rfl) rfl ?_ ?_ ?_
            · exact ⟨(Below.refl _ _).drew, Hx9.out⟩
            rotate_left
            · intro b' w' hsz hd hs hc hall
              have h := (hall 21 _ _ rfl rfl : B9F _ _ _ _ _ _ _ _ _ _ 21 _ _)
              refine hK _ _ (Met.intro (hJ _ _ ?_))
              exact ⟨b'.tmps.getD 57 undef, b'.tmps.getD 58 undef, b'.tmps.getD 59 undef, b'.tmps.getD 60 undef, b'.tmps.getD 61 undef, b'.tmps.getD 62 undef, b'.tmps.getD 63 undef, b'.tmps.getD 64 undef, b'.tmps.getD 65 undef, b'.tmps.getD 66 undef, b'.tmps.getD 67 undef, b'.tmps.getD 68 undef, b'.tmps.getD 69 undef, b'.tmps.getD 70 undef, b'.tmps.getD 71 undef, b'.tmps.getD 72 undef, b'.tmps.getD 73 undef, b'.tmps.getD 74 undef, b'.tmps.getD 75 undef, b'.tmps.getD 76 undef, b'.tmps.getD 77 undef, b'.tmps.getD 78 undef, ⟨h.trans (congrArg Value.bool (hbad.symm)), hc.1⟩, (act_known hsz hd hs).trans (by rw [← hL.out]; kernel_rfl)⟩
            refine OksOp.cons _ _ (OkOp.of _ _ (OpOk.run _ _ (B9F.keep) B9C.keep fun b v hs hc hg => ⟨rfl, _, _, exec_move rfl (hs 3 (by kernel_rfl)), .refl _ _, rfl⟩)) ?_
            refine OksOp.cons _ _ (OkOp.of _ _ (OpOk.run _ _ (B9F.keep) B9C.keep fun b v hs hc hg => ⟨rfl, _, _, exec_move rfl (hs 5 (by kernel_rfl)), .refl _ _, rfl⟩)) ?_
            refine OksOp.cons _ _ (OkOp.of _ _ (OpOk.run _ _ (B9F.keep) B9C.keep fun b v hs hc hg => ⟨rfl, _, _, exec_letter rfl hj.out rfl (dep hg 0 rfl rfl rfl rfl) (dep hg 1 rfl rfl rfl rfl), .refl _ _, rfl⟩)) ?_
            refine OksOp.cons _ _ (OkOp.of _ _ (OpOk.call _ _ (B9F.keep) B9C.keep fun b v hs hc hg => ⟨rfl, _, _, exec_call1 (enter_isText _) rfl (dep hg 0 rfl rfl rfl rfl), ans_s (isText_any hj3.out v)⟩)) ?_
            refine OksOp.cons _ _ (OkOp.of _ _ (OpOk.run _ _ (B9F.keep) B9C.keep fun b v hs hc hg => ⟨rfl, _, _, exec_move rfl (dep hg 0 rfl rfl rfl rfl), .refl _ _, (congrArg Value.bool h9d)⟩)) ?_
            refine OksOp.cons _ _ (OkOp.of _ _ (OpOk.run _ _ (B9F.keep) B9C.keep fun b v hs hc hg => ⟨wanted_of rfl rfl rfl (dep hg 0 rfl rfl rfl rfl), _, _, exec_loadRRec rfl (hs 1 (by kernel_rfl)) hc.2.cells12, .refl _ _, rfl⟩)) ?_
            refine OksOp.cons _ _ (OkOp.of _ _ (OpOk.run _ _ (B9F.keep) B9C.keep fun b v hs hc hg => ⟨wanted_of rfl rfl rfl (dep hg 0 rfl rfl rfl rfl), _, _, exec_move rfl (hs 3 (by kernel_rfl)), .refl _ _, rfl⟩)) ?_
            refine OksOp.cons _ _ (OkOp.of _ _ (OpOk.run _ _ (B9F.keep) B9C.keep fun b v hs hc hg => ⟨wanted_of rfl rfl rfl (dep hg 0 rfl rfl rfl rfl), _, _, exec_move rfl (hs 5 (by kernel_rfl)), .refl _ _, rfl⟩)) ?_
            refine OksOp.cons _ _ (OkOp.of _ _ (OpOk.run _ _ (B9F.keep) B9C.keep fun b v hs hc hg => ⟨wanted_of rfl rfl rfl (dep hg 2 rfl rfl rfl rfl), _, _, exec_letter rfl hj.out rfl (dep hg 0 rfl rfl rfl rfl) (dep hg 1 rfl rfl rfl rfl), .refl _ _, rfl⟩)) ?_
            refine OksOp.cons _ _ (OkOp.of _ _ (OpOk.call _ _ (B9F.keep) B9C.keep fun b v hs hc hg => ⟨wanted_of rfl rfl rfl (dep hg 3 rfl rfl rfl rfl), _, _, exec_call2 (enter_textOf _) rfl (dep hg 0 rfl rfl rfl rfl) (dep hg 1 rfl rfl rfl rfl), ans_v (textOf_any x hj3.out v)⟩)) ?_
            refine OksOp.cons _ _ (OkOp.of _ _ (OpOk.run _ _ (B9F.keep) B9C.keep fun b v hs hc hg => ⟨wanted_of rfl rfl rfl (dep hg 1 rfl rfl rfl rfl), _, _, exec_lenT rfl rfl (dep hg 0 rfl rfl rfl rfl), .refl _ _, rfl⟩)) ?_
            refine OksOp.cons _ _ (OkOp.of _ _ (OpOk.run _ _ (B9F.keep) B9C.keep fun b v hs hc hg => ⟨wanted_of rfl rfl rfl (dep hg 1 rfl rfl rfl rfl), _, _, exec_ltI rfl (dep hg 0 rfl rfl rfl rfl) rfl, .refl _ _, (congrArg Value.bool hl1d)⟩)) ?_
            refine OksOp.cons _ _ (OkOp.of _ _ (OpOk.run _ _ (B9F.keep) B9C.keep fun b v hs hc hg => ⟨wanted_of rfl rfl rfl (dep hg 2 rfl rfl rfl rfl), _, _, exec_move rfl (dep hg 0 rfl rfl rfl rfl), .refl _ _, rfl⟩)) ?_
            refine OksOp.cons _ _ (OkOp.skip _ _ fun b v hs hc hg => ⟨unwanted_of rfl rfl rfl (dep hg 0 rfl rfl rfl rfl), rfl⟩) ?_
            refine OksOp.cons _ _ (OkOp.skip _ _ fun b v hs hc hg => ⟨unwanted_of rfl rfl rfl (dep hg 0 rfl rfl rfl rfl), rfl⟩) ?_
            refine OksOp.cons _ _ (OkOp.skip _ _ fun b v hs hc hg => ⟨unwanted_of rfl rfl rfl (dep hg 0 rfl rfl rfl rfl), rfl⟩) ?_
            refine OksOp.cons _ _ (OkOp.skip _ _ fun b v hs hc hg => ⟨unwanted_of rfl rfl rfl (dep hg 2 rfl rfl rfl rfl), rfl⟩) ?_
            refine OksOp.cons _ _ (OkOp.skip _ _ fun b v hs hc hg => ⟨unwanted_of rfl rfl rfl (dep hg 3 rfl rfl rfl rfl), rfl⟩) ?_
            refine OksOp.cons _ _ (OkOp.skip _ _ fun b v hs hc hg => ⟨unwanted_of rfl rfl rfl (dep hg 1 rfl rfl rfl rfl), rfl⟩) ?_
            refine OksOp.cons _ _ (OkOp.skip _ _ fun b v hs hc hg => ⟨unwanted_of rfl rfl rfl (dep hg 1 rfl rfl rfl rfl), rfl⟩) ?_
            refine OksOp.cons _ _ (OkOp.of _ _ (OpOk.run _ _ (B9F.keep) B9C.keep fun b v hs hc hg => ⟨wanted_of rfl rfl rfl (dep hg 2 rfl rfl rfl rfl), _, _, exec_pick rfl (dep hg 0 rfl rfl rfl rfl) rfl, .refl _ _, rfl⟩)) ?_
            refine OksOp.cons _ _ (OkOp.of _ _ (OpOk.run _ _ (B9F.keep) B9C.keep fun b v hs hc hg => ⟨rfl, _, _, exec_pick rfl (dep hg 0 rfl rfl rfl rfl) (dep hg 1 rfl rfl rfl rfl), .refl _ _, rfl⟩)) ?_
            exact OksOp.nil _ _
          · have hl1d : decide (((txR x j).length : Int) < 1) = false := decide_eq_false (by omega)
            have hbad : decide ((64 : Int) < ((txR x j).length : Int)) = badT x j := by unfold badT; rw [h9d, decide_eq_false hl1, Bool.true_and, Bool.false_or]; exact decide_eq_decide.2 (by omega)
            refine wp_region_skips (n := 82) (B9F x x.k n j (.bool false) (.bool (decide ((64 : Int) < ((txR x j).length : Int)))) (.bool (decide ((64 : Int) < ((txR x j).length : Int)))) true true true) (B9C wc x w.heap.size) (by kernel_rfl) (by kernel_rfl) rfl ?_ ?_ ?_
            · exact ⟨(Below.refl _ _).drew, Hx9.out⟩
            rotate_left
            · intro b' w' hsz hd hs hc hall
              have h := (hall 21 _ _ rfl rfl : B9F _ _ _ _ _ _ _ _ _ _ 21 _ _)
              refine hK _ _ (Met.intro (hJ _ _ ?_))
              exact ⟨b'.tmps.getD 57 undef, b'.tmps.getD 58 undef, b'.tmps.getD 59 undef, b'.tmps.getD 60 undef, b'.tmps.getD 61 undef, b'.tmps.getD 62 undef, b'.tmps.getD 63 undef, b'.tmps.getD 64 undef, b'.tmps.getD 65 undef, b'.tmps.getD 66 undef, b'.tmps.getD 67 undef, b'.tmps.getD 68 undef, b'.tmps.getD 69 undef, b'.tmps.getD 70 undef, b'.tmps.getD 71 undef, b'.tmps.getD 72 undef, b'.tmps.getD 73 undef, b'.tmps.getD 74 undef, b'.tmps.getD 75 undef, b'.tmps.getD 76 undef, b'.tmps.getD 77 undef, b'.tmps.getD 78 undef, ⟨h.trans (congrArg Value.bool (hbad)), hc.1⟩, (act_known hsz hd hs).trans (by rw [← hL.out]; kernel_rfl)⟩
            refine OksOp.cons _ _ (OkOp.of _ _ (OpOk.run _ _ (B9F.keep) B9C.keep fun b v hs hc hg => ⟨rfl, _, _, exec_move rfl (hs 3 (by kernel_rfl)), .refl _ _, rfl⟩)) ?_
            refine OksOp.cons _ _ (OkOp.of _ _ (OpOk.run _ _ (B9F.keep) B9C.keep fun b v hs hc hg => ⟨rfl, _, _, exec_move rfl (hs 5 (by kernel_rfl)), .refl _ _, rfl⟩)) ?_
            refine OksOp.cons _ _ (OkOp.of _ _ (OpOk.run _ _ (B9F.keep) B9C.keep fun b v hs hc hg => ⟨rfl, _, _, exec_letter rfl hj.out rfl (dep hg 0 rfl rfl rfl rfl) (dep hg 1 rfl rfl rfl rfl), .refl _ _, rfl⟩)) ?_
            refine OksOp.cons _ _ (OkOp.of _ _ (OpOk.call _ _ (B9F.keep) B9C.keep fun b v hs hc hg => ⟨rfl, _, _, exec_call1 (enter_isText _) rfl (dep hg 0 rfl rfl rfl rfl), ans_s (isText_any hj3.out v)⟩)) ?_
            refine OksOp.cons _ _ (OkOp.of _ _ (OpOk.run _ _ (B9F.keep) B9C.keep fun b v hs hc hg => ⟨rfl, _, _, exec_move rfl (dep hg 0 rfl rfl rfl rfl), .refl _ _, (congrArg Value.bool h9d)⟩)) ?_
            refine OksOp.cons _ _ (OkOp.of _ _ (OpOk.run _ _ (B9F.keep) B9C.keep fun b v hs hc hg => ⟨wanted_of rfl rfl rfl (dep hg 0 rfl rfl rfl rfl), _, _, exec_loadRRec rfl (hs 1 (by kernel_rfl)) hc.2.cells12, .refl _ _, rfl⟩)) ?_
            refine OksOp.cons _ _ (OkOp.of _ _ (OpOk.run _ _ (B9F.keep) B9C.keep fun b v hs hc hg => ⟨wanted_of rfl rfl rfl (dep hg 0 rfl rfl rfl rfl), _, _, exec_move rfl (hs 3 (by kernel_rfl)), .refl _ _, rfl⟩)) ?_
            refine OksOp.cons _ _ (OkOp.of _ _ (OpOk.run _ _ (B9F.keep) B9C.keep fun b v hs hc hg => ⟨wanted_of rfl rfl rfl (dep hg 0 rfl rfl rfl rfl), _, _, exec_move rfl (hs 5 (by kernel_rfl)), .refl _ _, rfl⟩)) ?_
            refine OksOp.cons _ _ (OkOp.of _ _ (OpOk.run _ _ (B9F.keep) B9C.keep fun b v hs hc hg => ⟨wanted_of rfl rfl rfl (dep hg 2 rfl rfl rfl rfl), _, _, exec_letter rfl hj.out rfl (dep hg 0 rfl rfl rfl rfl) (dep hg 1 rfl rfl rfl rfl), .refl _ _, rfl⟩)) ?_
            refine OksOp.cons _ _ (OkOp.of _ _ (OpOk.call _ _ (B9F.keep) B9C.keep fun b v hs hc hg => ⟨wanted_of rfl rfl rfl (dep hg 3 rfl rfl rfl rfl), _, _, exec_call2 (enter_textOf _) rfl (dep hg 0 rfl rfl rfl rfl) (dep hg 1 rfl rfl rfl rfl), ans_v (textOf_any x hj3.out v)⟩)) ?_
            refine OksOp.cons _ _ (OkOp.of _ _ (OpOk.run _ _ (B9F.keep) B9C.keep fun b v hs hc hg => ⟨wanted_of rfl rfl rfl (dep hg 1 rfl rfl rfl rfl), _, _, exec_lenT rfl rfl (dep hg 0 rfl rfl rfl rfl), .refl _ _, rfl⟩)) ?_
            refine OksOp.cons _ _ (OkOp.of _ _ (OpOk.run _ _ (B9F.keep) B9C.keep fun b v hs hc hg => ⟨wanted_of rfl rfl rfl (dep hg 1 rfl rfl rfl rfl), _, _, exec_ltI rfl (dep hg 0 rfl rfl rfl rfl) rfl, .refl _ _, (congrArg Value.bool hl1d)⟩)) ?_
            refine OksOp.cons _ _ (OkOp.of _ _ (OpOk.run _ _ (B9F.keep) B9C.keep fun b v hs hc hg => ⟨wanted_of rfl rfl rfl (dep hg 2 rfl rfl rfl rfl), _, _, exec_move rfl (dep hg 0 rfl rfl rfl rfl), .refl _ _, rfl⟩)) ?_
            refine OksOp.cons _ _ (OkOp.of _ _ (OpOk.run _ _ (B9F.keep) B9C.keep fun b v hs hc hg => ⟨wanted_of rfl rfl rfl (dep hg 0 rfl rfl rfl rfl), _, _, exec_loadRRec rfl (hs 1 (by kernel_rfl)) hc.2.cells12, .refl _ _, rfl⟩)) ?_
            refine OksOp.cons _ _ (OkOp.of _ _ (OpOk.run _ _ (B9F.keep) B9C.keep fun b v hs hc hg => ⟨wanted_of rfl rfl rfl (dep hg 0 rfl rfl rfl rfl), _, _, exec_move rfl (hs 3 (by kernel_rfl)), .refl _ _, rfl⟩)) ?_
            refine OksOp.cons _ _ (OkOp.of _ _ (OpOk.run _ _ (B9F.keep) B9C.keep fun b v hs hc hg => ⟨wanted_of rfl rfl rfl (dep hg 0 rfl rfl rfl rfl), _, _, exec_move rfl (hs 5 (by kernel_rfl)), .refl _ _, rfl⟩)) ?_
            refine OksOp.cons _ _ (OkOp.of _ _ (OpOk.run _ _ (B9F.keep) B9C.keep fun b v hs hc hg => ⟨wanted_of rfl rfl rfl (dep hg 2 rfl rfl rfl rfl), _, _, exec_letter rfl hj.out rfl (dep hg 0 rfl rfl rfl rfl) (dep hg 1 rfl rfl rfl rfl), .refl _ _, rfl⟩)) ?_
            refine OksOp.cons _ _ (OkOp.of _ _ (OpOk.call _ _ (B9F.keep) B9C.keep fun b v hs hc hg => ⟨wanted_of rfl rfl rfl (dep hg 3 rfl rfl rfl rfl), _, _, exec_call2 (enter_textOf _) rfl (dep hg 0 rfl rfl rfl rfl) (dep hg 1 rfl rfl rfl rfl), ans_v (textOf_any x hj3.out v)⟩)) ?_
            refine OksOp.cons _ _ (OkOp.of _ _ (OpOk.run _ _ (B9F.keep) B9C.keep fun b v hs hc hg => ⟨wanted_of rfl rfl rfl (dep hg 1 rfl rfl rfl rfl), _, _, exec_lenT rfl rfl (dep hg 0 rfl rfl rfl rfl), .refl _ _, rfl⟩)) ?_
            refine OksOp.cons _ _ (OkOp.of _ _ (OpOk.run _ _ (B9F.keep) B9C.keep fun b v hs hc hg => ⟨wanted_of rfl rfl rfl (dep hg 1 rfl rfl rfl rfl), _, _, exec_gtI rfl (dep hg 0 rfl rfl rfl rfl) rfl, .refl _ _, rfl⟩)) ?_
            refine OksOp.cons _ _ (OkOp.of _ _ (OpOk.run _ _ (B9F.keep) B9C.keep fun b v hs hc hg => ⟨wanted_of rfl rfl rfl (dep hg 2 rfl rfl rfl rfl), _, _, exec_pick rfl (dep hg 0 rfl rfl rfl rfl) (dep hg 1 rfl rfl rfl rfl), .refl _ _, rfl⟩)) ?_
            refine OksOp.cons _ _ (OkOp.of _ _ (OpOk.run _ _ (B9F.keep) B9C.keep fun b v hs hc hg => ⟨rfl, _, _, exec_pick rfl (dep hg 0 rfl rfl rfl rfl) (dep hg 1 rfl rfl rfl rfl), .refl _ _, rfl⟩)) ?_
            exact OksOp.nil _ _
        · have h9d : decide (9 ≤ j) = false := decide_eq_false h9
          have hbad : badT x j = false := by unfold badT; rw [h9d, Bool.false_and]
          refine wp_region_skips (n := 82) (B9F x x.k n j (undef) (undef) (.bool false) false false false) (B9C wc x w.heap.size) (by kernel_rfl) (by kernel_rfl) rfl ?_ ?_ ?_
          · exact ⟨(Below.refl _ _).drew, Hx9.out⟩
          rotate_left
          · intro b' w' hsz hd hs hc hall
            have h := (hall 21 _ _ rfl rfl : B9F _ _ _ _ _ _ _ _ _ _ 21 _ _)
            refine hK _ _ (Met.intro (hJ _ _ ?_))
            exact ⟨b'.tmps.getD 57 undef, b'.tmps.getD 58 undef, b'.tmps.getD 59 undef, b'.tmps.getD 60 undef, b'.tmps.getD 61 undef, b'.tmps.getD 62 undef, b'.tmps.getD 63 undef, b'.tmps.getD 64 undef, b'.tmps.getD 65 undef, b'.tmps.getD 66 undef, b'.tmps.getD 67 undef, b'.tmps.getD 68 undef, b'.tmps.getD 69 undef, b'.tmps.getD 70 undef, b'.tmps.getD 71 undef, b'.tmps.getD 72 undef, b'.tmps.getD 73 undef, b'.tmps.getD 74 undef, b'.tmps.getD 75 undef, b'.tmps.getD 76 undef, b'.tmps.getD 77 undef, b'.tmps.getD 78 undef, ⟨h.trans (congrArg Value.bool (hbad.symm)), hc.1⟩, (act_known hsz hd hs).trans (by rw [← hL.out]; kernel_rfl)⟩
          refine OksOp.cons _ _ (OkOp.of _ _ (OpOk.run _ _ (B9F.keep) B9C.keep fun b v hs hc hg => ⟨rfl, _, _, exec_move rfl (hs 3 (by kernel_rfl)), .refl _ _, rfl⟩)) ?_
          refine OksOp.cons _ _ (OkOp.of _ _ (OpOk.run _ _ (B9F.keep) B9C.keep fun b v hs hc hg => ⟨rfl, _, _, exec_move rfl (hs 5 (by kernel_rfl)), .refl _ _, rfl⟩)) ?_
          refine OksOp.cons _ _ (OkOp.of _ _ (OpOk.run _ _ (B9F.keep) B9C.keep fun b v hs hc hg => ⟨rfl, _, _, exec_letter rfl hj.out rfl (dep hg 0 rfl rfl rfl rfl) (dep hg 1 rfl rfl rfl rfl), .refl _ _, rfl⟩)) ?_
          refine OksOp.cons _ _ (OkOp.of _ _ (OpOk.call _ _ (B9F.keep) B9C.keep fun b v hs hc hg => ⟨rfl, _, _, exec_call1 (enter_isText _) rfl (dep hg 0 rfl rfl rfl rfl), ans_s (isText_any hj3.out v)⟩)) ?_
          refine OksOp.cons _ _ (OkOp.of _ _ (OpOk.run _ _ (B9F.keep) B9C.keep fun b v hs hc hg => ⟨rfl, _, _, exec_move rfl (dep hg 0 rfl rfl rfl rfl), .refl _ _, (congrArg Value.bool h9d)⟩)) ?_
          refine OksOp.cons _ _ (OkOp.skip _ _ fun b v hs hc hg => ⟨unwanted_of rfl rfl rfl (dep hg 0 rfl rfl rfl rfl), rfl⟩) ?_
          refine OksOp.cons _ _ (OkOp.skip _ _ fun b v hs hc hg => ⟨unwanted_of rfl rfl rfl (dep hg 0 rfl rfl rfl rfl), rfl⟩) ?_
          refine OksOp.cons _ _ (OkOp.skip _ _ fun b v hs hc hg => ⟨unwanted_of rfl rfl rfl (dep hg 0 rfl rfl rfl rfl), rfl⟩) ?_
          refine OksOp.cons _ _ (OkOp.skip _ _ fun b v hs hc hg => ⟨unwanted_of rfl rfl rfl (dep hg 2 rfl rfl rfl rfl), rfl⟩) ?_
          refine OksOp.cons _ _ (OkOp.skip _ _ fun b v hs hc hg => ⟨unwanted_of rfl rfl rfl (dep hg 3 rfl rfl rfl rfl), rfl⟩) ?_
          refine OksOp.cons _ _ (OkOp.skip _ _ fun b v hs hc hg => ⟨unwanted_of rfl rfl rfl (dep hg 1 rfl rfl rfl rfl), rfl⟩) ?_
          refine OksOp.cons _ _ (OkOp.skip _ _ fun b v hs hc hg => ⟨unwanted_of rfl rfl rfl (dep hg 1 rfl rfl rfl rfl), rfl⟩) ?_
          refine OksOp.cons _ _ (OkOp.skip _ _ fun b v hs hc hg => ⟨unwanted_of rfl rfl rfl (dep hg 2 rfl rfl rfl rfl), rfl⟩) ?_
          refine OksOp.cons _ _ (OkOp.skip _ _ fun b v hs hc hg => ⟨unwanted_un rfl rfl rfl (dep hg 0 rfl rfl rfl rfl), rfl⟩) ?_
          refine OksOp.cons _ _ (OkOp.skip _ _ fun b v hs hc hg => ⟨unwanted_un rfl rfl rfl (dep hg 0 rfl rfl rfl rfl), rfl⟩) ?_
          refine OksOp.cons _ _ (OkOp.skip _ _ fun b v hs hc hg => ⟨unwanted_un rfl rfl rfl (dep hg 0 rfl rfl rfl rfl), rfl⟩) ?_
          refine OksOp.cons _ _ (OkOp.skip _ _ fun b v hs hc hg => ⟨unwanted_un rfl rfl rfl (dep hg 2 rfl rfl rfl rfl), rfl⟩) ?_
          refine OksOp.cons _ _ (OkOp.skip _ _ fun b v hs hc hg => ⟨unwanted_un rfl rfl rfl (dep hg 3 rfl rfl rfl rfl), rfl⟩) ?_
          refine OksOp.cons _ _ (OkOp.skip _ _ fun b v hs hc hg => ⟨unwanted_un rfl rfl rfl (dep hg 1 rfl rfl rfl rfl), rfl⟩) ?_
          refine OksOp.cons _ _ (OkOp.skip _ _ fun b v hs hc hg => ⟨unwanted_un rfl rfl rfl (dep hg 1 rfl rfl rfl rfl), rfl⟩) ?_
          refine OksOp.cons _ _ (OkOp.skip _ _ fun b v hs hc hg => ⟨unwanted_of rfl rfl rfl (dep hg 2 rfl rfl rfl rfl), rfl⟩) ?_
          refine OksOp.cons _ _ (OkOp.of _ _ (OpOk.run _ _ (B9F.keep) B9C.keep fun b v hs hc hg => ⟨rfl, _, _, exec_pick rfl (dep hg 0 rfl rfl rfl rfl) rfl, .refl _ _, rfl⟩)) ?_
          exact OksOp.nil _ _
      obtain ⟨hs78, hb10⟩ := hcut
      have Hx10 := Lib.hid (Hx9.out.keep hb10)
      have Hy10 := Lib.hid (Hy9.out.keep hb10)
      have Hb10 := Lib.hid (Hb9.out.trans (hb10.mono Hb9.out.size))
      clear hb10
      rcases Bool.eq_false_or_eq_true (badT x j) with hbt | hbt
      · rw [hbt] at hs78
        subst hs78
        go_wp2
        go_ret
        exact ⟨ret_bool (by rw [HRR.out, txOk_bad hj.out hj3.out hbt, Bool.false_and]), Hb10.out⟩
      · rw [hbt] at hs78
        subst hs78
        go_wp2
        go_roundw
        · exact ⟨n + 1, by omega, by exact rfl, Hx10, by exact Lib.hid (by rw [bld_snoc hj.out, ← hy.out]; exact Hy10.out), Hb10, by exact Lib.hid (by rw [txOk_snoc hj.out hj3.out, htx.out, hbt]; rfl)⟩
        · show m - (intOf (.int .i64 ((n : Int) + 1))).toNat < m - (intOf (.int .i64 (n : Int))).toNat
          simp only [intOf]
          omega
    · obtain rfl : n = m := by omega
      rw [hm.out, List.take_length] at hyr htx
      obtain ⟨y, hy⟩ : ∃ y, Hid (y = bld x (headOf x) (parts x.k)) := ⟨_, rfl⟩
      rw [← hy.out] at hyr HRR
      rw [htx.out, Bool.true_and] at HRR
      go_upto_region 11 with fail
      refine wp_region_lit ?_
      refine wpList_runG (v := y.v) (w' := wr) (by kernel_rfl) (exec_loadRRec (x := .tmp 4) (g := g1) rfl (by kernel_rfl) hyr.out.cells12) ?_
      go_frame
      refine wpList_runG (v := x.v) (w' := wr) (by kernel_rfl) (exec_loadRRec (x := .tmp 1) (g := w.heap.size) rfl (by kernel_rfl) hxr.out.cells12) ?_
      go_frame
      refine wpList_runG (v := .bool (decide (y = x))) (w' := wr) (by kernel_rfl) (exec_eqRRec (x := .tmp 79) (y := .tmp 80) rfl (by kernel_rfl) (by kernel_rfl)) ?_
      go_frame
      refine wpList_run (v := .bool (decide (y = x))) (w' := wr) rfl (by kernel_rfl) ?_
      go_frame
      go_wp2
      go_ret
      exact ⟨ret_bool HRR.out.symm, hbr.out⟩
end Go.Proofs.Ytfhcpjnjemojgaa
