/- The walk of Parse. Conditions: at most 2^29 bytes. -/
import Derived.Test.YtfhcpjnjemojgaaKRcN
namespace Go.Proofs.Ytfhcpjnjemojgaa
open Go.RowKit

/-- Parse's answer. -/
def parseM (b : List UInt8) : Rc × Nat :=
  if (oneF b).2 ≠ 0 then (Rc.zero 0, (oneF b).2)
  else if isK (oneF b).1.1.toNat = false then (Rc.zero 0, 60)
  else if (runS (rdP (oneF b).1.2) (Rc.zero (oneF b).1.1.toNat, 0) (allP (oneF b).1.1.toNat)).2 ≠ 0 then (Rc.zero 0, (runS (rdP (oneF b).1.2) (Rc.zero (oneF b).1.1.toNat, 0) (allP (oneF b).1.1.toNat)).2)
  else if (runS (rdP (oneF b).1.2) (Rc.zero (oneF b).1.1.toNat, 0) (allP (oneF b).1.1.toNat)).1.2 < (oneF b).1.2.length then (Rc.zero 0, 11)
  else if rightM (runS (rdP (oneF b).1.2) (Rc.zero (oneF b).1.1.toNat, 0) (allP (oneF b).1.1.toNat)).1.1 = true then ((runS (rdP (oneF b).1.2) (Rc.zero (oneF b).1.1.toNat, 0) (allP (oneF b).1.1.toNat)).1.1, 0)
  else (Rc.zero 0, 2)
section
variable {b l : List UInt8} {k : UInt8} {x : Rc} {p : Int} {E : Nat}
theorem parseM_one (h : oneF b = ((k, l), E)) (hE : E ≠ 0) : parseM b = (Rc.zero 0, E) := by
  unfold parseM
  rw [h]
  exact if_pos hE
theorem parseM_kind (h : oneF b = ((k, l), 0)) (hk : isK k.toNat = false) : parseM b = (Rc.zero 0, 60) := by
  unfold parseM
  rw [h]
  simp only [ne_eq, not_true_eq_false, if_false]
  exact if_pos hk
theorem parseM_part (h : oneF b = ((k, l), 0)) (hk : isK k.toNat = true) (hr : runS (rdP l) (Rc.zero k.toNat, 0) (allP k.toNat) = ((x, p), E)) (hE : E ≠ 0) : parseM b = (Rc.zero 0, E) := by
  unfold parseM
  rw [h]
  simp only [ne_eq, not_true_eq_false, if_false, hk, Bool.true_eq_false, hr]
  exact if_pos hE
theorem parseM_long (h : oneF b = ((k, l), 0)) (hk : isK k.toNat = true) (hr : runS (rdP l) (Rc.zero k.toNat, 0) (allP k.toNat) = ((x, p), 0)) (hp : p < l.length) : parseM b = (Rc.zero 0, 11) := by
  unfold parseM
  rw [h]
  simp only [ne_eq, not_true_eq_false, if_false, hk, Bool.true_eq_false, hr]
  exact if_pos hp
theorem parseM_wrong (h : oneF b = ((k, l), 0)) (hk : isK k.toNat = true) (hr : runS (rdP l) (Rc.zero k.toNat, 0) (allP k.toNat) = ((x, p), 0)) (hp : ¬ p < l.length) (hx : rightM x = false) : parseM b = (Rc.zero 0, 2) := by
  unfold parseM
  rw [h]
  simp only [ne_eq, not_true_eq_false, if_false, hk, Bool.true_eq_false, hr]
  rw [if_neg hp, if_neg (by rw [hx]; simp)]
theorem parseM_right (h : oneF b = ((k, l), 0)) (hk : isK k.toNat = true) (hr : runS (rdP l) (Rc.zero k.toNat, 0) (allP k.toNat) = ((x, p), 0)) (hp : ¬ p < l.length) (hx : rightM x = true) : parseM b = (x, 0) := by
  unfold parseM
  rw [h]
  simp only [ne_eq, not_true_eq_false, if_false, hk, Bool.true_eq_false, hr]
  rw [if_neg hp, if_pos hx]
end
theorem rdP_k (b : List UInt8) (s : Rc × Int) (j : Nat) : (rdP b s j).1.1.k = s.1.k := by
  unfold rdP
  split
  · exact k_setN _ _ _
  · exact k_setT _ _ _
theorem runS_rdP_k (b : List UInt8) : ∀ (ps : List Nat) (s : Rc × Int), (runS (rdP b) s ps).1.1.k = s.1.k
  | [], _ => rfl
  | j :: ps, s => by
    rw [runS]
    split
    · exact rdP_k b s j
    · rw [runS_rdP_k b ps, rdP_k]
theorem rc_one (x : Rc) : x.cells.toArray.all (·.oneCell') = true := by
  simp only [Rc.cells, List.all_toArray]
  rfl
theorem ret_rec {fn : Func} {R : Ending → World → Prop} {p u : Tmp} (h : fn.results = #[.cell p 24, .tmp u]) {a : Act} {w : World} (g : Nat) (x : Rc)
    (hp : a.tmps.getD p undef = .pointer (some ⟨g, 0, none⟩)) (hg : RecAt x w g) (hd : a.defers = []) (hR : R (.returned (.tuple #[x.v, a.tmps.getD u undef])) w) : bodyPost Try.prog fn R .ret a w :=
  ret_agg2 h recTy g x.cells.toArray _ _ rfl hp hg hd hR
theorem wpList_storeRec {ops : Array Oper} {Q : Exit → Act → World → Prop} {o : Oper} {rest : List Oper} {a : Act} {w : World} {x0 x : Rc} {g : Nat} (s y : Operand) (hgd : o.guard = none) (ho : o.op = .store 24 s y) (hs : a.eval s = .pointer (some ⟨g, 0, none⟩)) (hy : a.eval y = x.v) (hg : RecAt x0 w g)
    (hk : ∀ w', RecAt x w' g → (∀ B, B ≤ g → Below B w w') → wpList Try.prog ops Q rest (a.put o.dst undef) w') : wpList Try.prog ops Q (o :: rest) a w :=
  wpList_plain hgd fun _ hK => wp_store_row 24 s y ho g x.cells.toArray hs hy _ _ hg size_rec rfl (rc_one x) (hK _ _ (hk _ (setRow_heap _ _ _ _ _ _ hg) fun _ hB => ⟨rfl, rfl, rfl, by rw [size_setRow]; exact Nat.le_refl _, fun k hk' => setRow_other w g k _ (by omega)⟩))
section
variable {b : Act} {w : World} {o : Oper}
theorem exec_fieldFr0 {x : Operand} {g : Nat} (ho : o.op = .fieldAddr 69 x 0) (h : b.eval x = .pointer (some ⟨g, 0, none⟩)) : (execOp b.eval o).run Try.prog w = .ok (.value (.pointer (some ⟨g, 0, none⟩))) w := by
  unfold execOp
  simp only [ho, h]
  go_simp
theorem exec_fieldFr1 {x : Operand} {g : Nat} (ho : o.op = .fieldAddr 69 x 1) (h : b.eval x = .pointer (some ⟨g, 0, none⟩)) : (execOp b.eval o).run Try.prog w = .ok (.value (.pointer (some ⟨g, 1, none⟩))) w := by
  unfold execOp
  simp only [ho, h]
  go_simp
theorem exec_buildRdr {x : Operand} {A : Option Addr} {n c : Nat} (ho : o.op = .build 75 #[(0, x)]) (h : b.eval x = .slice A n c) : (execOp b.eval o).run Try.prog w = .ok (.value (.agg #[.slice A n c, .int .i64 0])) w := by
  unfold execOp
  simp only [ho, List.map_toArray, List.map_cons, List.map_nil, h]
  go_simp
theorem exec_build0 (ho : o.op = .build 24 #[]) : (execOp b.eval o).run Try.prog w = .ok (.value (Rc.zero 0).v) w := by
  unfold execOp
  simp only [ho, List.map_toArray, List.map_nil]
  go_simp
  rfl
theorem exec_allocRec (ho : o.op = .alloc 24) : (execOp b.eval o).run Try.prog w = .ok (.value (.pointer (some ⟨w.heap.size, 0, none⟩))) (w.alloc (.cells (Rc.zero 0).cells.toArray 24)) := by
  unfold execOp
  simp only [ho]
  go_simp
  rfl
theorem exec_allocRdr (ho : o.op = .alloc 75) : (execOp b.eval o).run Try.prog w = .ok (.value (.pointer (some ⟨w.heap.size, 0, none⟩))) (w.alloc (.cells #[.slice none 0 0, .int .i64 0] 75)) := by
  unfold execOp
  simp only [ho]
  go_simp
end
theorem size_rdr : (Try.prog.info? 75).map (·.size) = some 2 := by kernel_rfl
section
variable {P : Program} {Q : Exit → Act → World → Prop} {F : Nat → Value → World → Prop} {s t ds dt n : Nat} {A : World → Prop} {B : Value → World → Prop} {D : Value → Value → World → Prop} {ops : List Oper} {a : Act} {i : Nat} {o : Oper}
/-- An operation that reads memory, ahead of the second change, that the first one leaves alone. -/
theorem OpPh.calm (hs : i ≠ s) (ht : i ≠ t) {d : Nat} (hd : o.dst = some d) (hdn : d ≠ ds ∧ d ≠ dt ∧ d < n) (hno : ∀ L : Array Bool, Closed ops L → L.getD i false = false → L.getD t false = false) (C : World → Prop) (hA : ∀ w, A w → C w) (hB : ∀ v w, B v w → C w)
    (h : ∀ (b : Act) (w : World), (∀ t, isDst ops t = false → b.tmps.getD t undef = a.tmps.getD t undef) → C w →
      (∀ e ∈ o.after.toList, Region.binds .any e = true → ∀ oj d, ops[e.on]? = some oj → oj.dst = some d → F e.on (b.tmps.getD d undef) w) →
      Region.wanted o (yielded ops.toArray b.tmps) = true ∧ ∃ v, (execOp b.eval o).run P w = .ok (.value v) w ∧ F i v w) : OpPh P Q F (Ph s t ds dt A B D) n ops a i o := by
  intro L b w hL hi hcl hni _ hsm hsz hC hg
  have h2 := hno L hcl hni
  have hc : C w := by
    unfold Ph at hC
    rw [h2] at hC
    simp only [Bool.false_eq_true, if_false] at hC
    split at hC
    · exact hB _ _ hC
    · exact hA _ hC
  obtain ⟨hw, v, hr, hf⟩ := h b w hsm hc hg
  refine ⟨hw, ?_⟩
  unfold Oper.wp
  rw [hr, Oper.upon_value]
  refine ⟨v, rfl, ?_, fun _ => hf, fun _ _ _ _ h => h⟩
  unfold Ph at hC ⊢
  have hdlt : d < b.tmps.size := by rw [hsz]; exact hdn.2.2
  rw [getD_set (by omega), getD_set (by omega), decide_eq_false hs, decide_eq_false ht, Bool.false_or, Bool.false_or, hd, getD_put b d ds v hdlt, getD_put b d dt v hdlt, if_neg hdn.1, if_neg hdn.2.1]
  exact hC
end
/-- What the operations say that make a record and a reader. -/
def MakeF (W0 : World) (f k : Nat) (S : Value) : Nat → Value → World → Prop
  | 0, v, _ => v = .pointer (some ⟨f, 0, none⟩)
  | 1, v, _ => v = .int .u8 (k : Int)
  | 2, v, _ => v = (Rc.zero k).v
  | 3, v, _ => v = .pointer (some ⟨f, 1, none⟩)
  | 4, v, _ => v = S
  | 5, v, _ => v = .agg #[S, .int .i64 0]
  | 6, v, w => ∃ q, v = .pointer (some ⟨q, 0, none⟩) ∧ W0.heap.size ≤ q ∧ ∃ cs : Array Value, cs.size = 12 ∧ w.heap[q]? = some (.cells cs 24 (0, 0))
  | 7, v, w => ∃ q, v = .pointer (some ⟨q, 0, none⟩) ∧ W0.heap.size ≤ q ∧ ∃ cs : Array Value, cs.size = 2 ∧ w.heap[q]? = some (.cells cs 75 (0, 0))
  | _, _, _ => True
theorem MakeF.keep {W0 : World} {f k : Nat} {S : Value} (j : Nat) (u : Value) (w w' : World) (hb : Below w.heap.size w w') (h : MakeF W0 f k S j u w) : MakeF W0 f k S j u w' :=
  match j, h with
  | 0, h | 1, h | 2, h | 3, h | 4, h | 5, h => h
  | 6, h | 7, h => let ⟨q, e, l, cs, hs, hq⟩ := h; ⟨q, e, l, cs, hs, (hb.block q (Array.getElem?_eq_some_iff.1 hq).1).trans hq⟩
  | _ + 8, h => h
theorem MakeF.store {W0 : World} {f k : Nat} {S : Value} {j : Nat} {u : Value} {w : World} {q : Nat} {cs x : Array Value} {T : TypeId} (hq : w.heap[q]? = some (.cells cs T (0, 0))) (hx : x.size = cs.size) (h : MakeF W0 f k S j u w) : MakeF W0 f k S j u (w.setRow q x) :=
  match j, h with
  | 0, h | 1, h | 2, h | 3, h | 4, h | 5, h => h
  | 6, h | 7, h => let ⟨r, e, l, c, hs, hr⟩ := h; (by
      by_cases hrq : r = q
      · subst hrq
        rw [hr] at hq
        simp only [Option.some.injEq, Obj.cells.injEq, and_true] at hq
        obtain ⟨rfl, rfl⟩ := hq
        exact ⟨r, e, l, x, hx.trans hs, setRow_heap _ _ _ _ _ _ hr⟩
      · exact ⟨r, e, l, c, hs, (setRow_other w q r x hrq).trans hr⟩)
  | _ + 8, h => h
end Go.Proofs.Ytfhcpjnjemojgaa
