/- Lists of Names in memory: a block that holds them, one behind them, one in another's place. Conditions: at most 2^40. -/
import Derived.Test.YtipmpebckfaknaaDoorNmY
import Derived.Test.YtipmpebckfaknaaDoorNmO
import Derived.Test.YtipmpebckfaknaaDoorKeep
import Derived.Shelf.SlSortCmp.NoneTotal
namespace Go.Proofs.YtipmpebckfaknaaDoor
open Go.RowKit Go.Lib

def ncells (xs : List Nm) : List Value := xs.flatMap Nm.cells
theorem cells_len (x : Nm) : x.cells.length = 6 := rfl
theorem ncells_len (xs : List Nm) : (ncells xs).length = xs.length * 6 := by
  induction xs with
  | nil => rfl
  | cons x xs ih =>
    unfold ncells at ih ⊢
    rw [List.flatMap_cons, List.length_append, ih, List.length_cons, cells_len]
    omega
theorem ncells_append (a b : List Nm) : ncells (a ++ b) = ncells a ++ ncells b := by simp [ncells]
theorem ncells_at {xs : List Nm} {k : Nat} {x : Nm} (h : xs[k]? = some x) : ncells xs = ncells (xs.take k) ++ (x.cells ++ ncells (xs.drop (k + 1))) := by
  obtain ⟨hk, e⟩ := List.getElem?_eq_some_iff.1 h
  conv => lhs; rw [← List.take_append_drop k xs, List.drop_eq_getElem_cons hk, e]
  rw [ncells_append]
  rfl
theorem ncells_get {xs : List Nm} {k : Nat} {x : Nm} (h : xs[k]? = some x) {j : Nat} (hj : j < 6) : (ncells xs)[k * 6 + j]? = x.cells[j]? := by
  obtain ⟨hk, _⟩ := List.getElem?_eq_some_iff.1 h
  have hl : (ncells (xs.take k)).length = k * 6 := by rw [ncells_len, List.length_take]; congr 1; omega
  rw [ncells_at h, List.getElem?_append_right (by omega), hl, show k * 6 + j - k * 6 = j by omega, List.getElem?_append_left (by rw [cells_len]; exact hj)]
theorem cells_one (x : Nm) : ∀ u ∈ x.cells, u.oneCell' = true := by
  intro u hu
  simp only [Nm.cells, List.mem_cons, List.not_mem_nil, or_false] at hu
  rcases hu with rfl | rfl | rfl | rfl | rfl | rfl <;> rfl
theorem ncells_one (xs : List Nm) : ∀ u ∈ ncells xs, u.oneCell' = true := by
  intro u hu
  unfold ncells at hu
  rw [List.mem_flatMap] at hu
  obtain ⟨x, _, hu⟩ := hu
  exact cells_one x u hu
theorem ncells_set {xs : List Nm} {k : Nat} (hk : k < xs.length) (y : Nm) (rest : List Value) : (ncells xs ++ rest).take (k * 6) ++ y.cells ++ (ncells xs ++ rest).drop (k * 6 + 6) = ncells (xs.set k y) ++ rest := by
  have hl : (ncells (xs.take k)).length = k * 6 := by rw [ncells_len, List.length_take]; congr 1; omega
  have hx : xs[k]? = some xs[k] := List.getElem?_eq_getElem hk
  have e1 : ncells xs ++ rest = ncells (xs.take k) ++ (xs[k].cells ++ (ncells (xs.drop (k + 1)) ++ rest)) := by
    rw [ncells_at hx]
    simp only [List.append_assoc]
  have e2 : ncells (xs.set k y) = ncells (xs.take k) ++ (y.cells ++ ncells (xs.drop (k + 1))) := by
    have h : (xs.set k y)[k]? = some y := by simp [hk]
    rw [ncells_at h, List.take_set_of_le (Nat.le_refl _), List.drop_set_of_lt (by omega)]
  rw [e1, e2]
  have t1 : (ncells (xs.take k) ++ (xs[k].cells ++ (ncells (xs.drop (k + 1)) ++ rest))).take (k * 6) = ncells (xs.take k) := by
    rw [← hl]
    exact List.take_left
  have t2 : (ncells (xs.take k) ++ (xs[k].cells ++ (ncells (xs.drop (k + 1)) ++ rest))).drop (k * 6 + 6) = ncells (xs.drop (k + 1)) ++ rest := by
    rw [← List.append_assoc]
    have h6 : (ncells (xs.take k) ++ xs[k].cells).length = k * 6 + 6 := by rw [List.length_append, hl, cells_len]
    rw [← h6]
    exact List.drop_left
  rw [t1, t2]
  simp only [List.append_assoc]

/-- A block that holds these Names, and room behind them. -/
def RowN (w : World) (g : Nat) (e : TypeId) (xs : List Nm) (rest : List Value) : Prop := w.heap[g]? = some (.cells (ncells xs ++ rest).toArray e (0, 0))
theorem RowN.lt {w : World} {g : Nat} {e : TypeId} {xs : List Nm} {rest : List Value} (h : RowN w g e xs rest) : g < w.heap.size := (Array.getElem?_eq_some_iff.1 h).1
theorem RowN.box {w : World} {g : Nat} {e : TypeId} {xs : List Nm} {rest : List Value} (h : RowN w g e xs rest) {k : Nat} {x : Nm} (hk : xs[k]? = some x) : BoxNm x w ⟨g, k * 6, none⟩ := by
  have hc : ∀ j, j < 6 → w.cell? ⟨g, k * 6 + j, none⟩ = x.cells[j]? := by
    intro j hj
    have h1 := cell_of_row w g (k * 6 + j) _ _ _ h
    rw [h1, List.getElem?_toArray, List.getElem?_append_left, ncells_get hk hj]
    have := (List.getElem?_eq_some_iff.1 hk).1
    rw [ncells_len]
    omega
  exact ⟨hc 0 (by decide), hc 1 (by decide), hc 2 (by decide), hc 3 (by decide), hc 4 (by decide), hc 5 (by decide), h.lt⟩
theorem RowN.put {w : World} {g : Nat} {e : TypeId} {xs : List Nm} {rest : List Value} (h : RowN w g e xs rest) (ys : List Nm) : RowN (w.setRow g (ncells ys ++ rest).toArray) g e ys rest := setRow_heap _ _ _ _ _ _ h
theorem RowN.below {w w' : World} {B g : Nat} {e : TypeId} {xs : List Nm} {rest : List Value} (h : RowN w g e xs rest) (hb : Below B w w') (hB : g < B) : RowN w' g e xs rest := (hb.block g hB).trans h
theorem RowN.keep {w w' : World} {g : Nat} {e : TypeId} {xs : List Nm} {rest : List Value} (h : RowN w g e xs rest) (hb : Below w.heap.size w w') : RowN w' g e xs rest := h.below hb h.lt

/-- A list of Names that the call owns. -/
abbrev OwnN (e : TypeId) (base : Nat) (w : World) (v : Value) (xs : List Nm) : Prop := w.ownsRow base e 6 v xs.length (ncells xs)
theorem OwnN.nil (e : TypeId) (base : Nat) (w : World) : OwnN e base w (.slice none 0 0) [] := World.ownsRow_nil _ _ _ _
theorem OwnN.form {e : TypeId} {base : Nat} {w : World} {v : Value} {xs : List Nm} (h : OwnN e base w v xs) : (v = .slice none 0 0 ∧ xs = []) ∨ ∃ g cap rest, v = .slice (some ⟨g, 0, none⟩) xs.length cap ∧ base ≤ g ∧ RowN w g e xs rest ∧ xs.length ≤ cap ∧ cap ≤ maxLen ∧ (ncells xs ++ rest).length = cap * 6 := by
  rcases h.2 with ⟨rfl, hn⟩ | ⟨g, cap, cur, rfl, hb, hg, hnc, hcm, hs, ht⟩
  · exact .inl ⟨rfl, List.eq_nil_of_length_eq_zero hn⟩
  · refine .inr ⟨g, cap, cur.toList.drop (xs.length * 6), rfl, hb, ?_, hnc, hcm, ?_⟩
    · unfold RowN
      rw [← ht, List.take_append_drop, Array.toArray_toList]
      exact hg
    · rw [← ht, List.take_append_drop, Array.length_toList, hs]
theorem OwnN.of {e : TypeId} {base : Nat} {w : World} {xs : List Nm} {g cap : Nat} {rest : List Value} (hb : base ≤ g) (h : RowN w g e xs rest) (h1 : xs.length ≤ cap) (h2 : cap ≤ maxLen) (h3 : (ncells xs ++ rest).length = cap * 6) : OwnN e base w (.slice (some ⟨g, 0, none⟩) xs.length cap) xs := by
  refine ⟨ncells_len xs, .inr ⟨g, cap, _, rfl, hb, h, h1, h2, by simpa using h3, ?_⟩⟩
  rw [← ncells_len]
  exact List.take_left
theorem OwnN.below {e : TypeId} {base : Nat} {w w' : World} {v : Value} {xs : List Nm} (h : OwnN e base w v xs) (hb : Below w.heap.size w w') : OwnN e base w' v xs := own_below h hb (Nat.le_refl _)

/-- A type of slices of Names. -/
def NmSl (t e : TypeId) : Prop := Tryd.prog.underlying t = some (.slice e) ∧ (Tryd.prog.info? e).map (fun i => (i.zero, i.size, i.bytes)) = some (some (.agg #[.int .u8 0, .int .u64 0, .int .u64 0, .int .u64 0, .int .u64 0, .int .u64 0]), 6, 48)
theorem nmSl1 : NmSl 40 24 := ⟨Tryd.underlying40, by kernel_rfl⟩
theorem nmSl2 : NmSl 46 25 := ⟨Tryd.underlying46, by kernel_rfl⟩
section
variable {ops : Array Oper} {rest : List Oper} {o : Oper} {a : Act} {Q : Exit → Act → World → Prop} {w : World} {base : Nat} {v : Value}
/-- A Name behind a list of the call's own. -/
theorem push_name {t e : TypeId} (ht : NmSl t e) {N : Nat} (s x : Operand) {own : List Nm} (f : Nm) (hown : OwnN e base w v own) (hbase : base ≤ w.heap.size) (hl : own.length ≤ 1099511627776)
    (hgd : o.guard = none) (ho : o.op = .call { callee := .builtin .append, args := #[s, x], argTypes := #[t, t] })
    (hs : a.eval s = v) (hx : a.eval x = .slice (some ⟨N, 0, none⟩) 1 1) (hN : w.heap.size = N)
    (h : ∀ v' w', OwnN e base w' v' (own ++ [f]) → Below base w w' → base ≤ w'.heap.size → wpList Tryd.prog ops Q rest (a.put o.dst v') w') :
    wpList Tryd.prog ops Q (o :: rest) a (w.alloc (.cells #[.int .u8 (f.k : Int), .int .u64 (f.d : Int), .int .u64 (f.n : Int), .int .u64 (f.p : Int), .int .u64 (f.i : Int), .int .u64 (f.c : Int)] e)) := by
  subst hN
  obtain ⟨hu, hi⟩ := ht
  obtain ⟨i0, hi0, hz0, hz1, hz2⟩ := info_parts hi
  have hnew : Reads (w.alloc (.cells (ncells [f]).toArray e)) (w.heap.size + 1) 6 (some ⟨w.heap.size, 0, none⟩) 1 (ncells [f]) := by
    refine ⟨ncells_len [f], fun _ => ⟨_, rfl, by simp, fun j u hu => ?_⟩⟩
    have hadd : (⟨w.heap.size, 0, none⟩ : Addr).add j = ⟨w.heap.size, j, none⟩ := by unfold Addr.add; split <;> simp_all
    rw [hadd, cell_of_row (w.alloc (.cells (ncells [f]).toArray e)) w.heap.size j (ncells [f]).toArray e (0, 0) (heap_alloc_new w _)]
    simpa using hu
  refine wpList_append_any _ hgd s x t ho base e i0 _ 6 48 hu hi0 hz0 hz1 hz2 rfl (by omega) v _ _ hs (hown.alloc _) (w.heap.size + 1) _ 1 1 (ncells [f]) hx hnew (ncells_one _) (by simp only [maxLen]; omega) (by omega) (by simp; omega) ?_
  intro v1 w1 h1 h2 h3
  have hb := ((Below.refl base w).alloc hbase _).trans (grown_below (hown.alloc (.cells (ncells [f]).toArray e)) h2 (by simp; omega))
  refine h v1 w1 ?_ hb (Nat.le_trans hbase hb.size)
  have h1' : OwnN e base w1 v1 (own ++ [f]) := by
    unfold OwnN
    rw [ncells_append, List.length_append]
    exact h1
  exact h1'
end
/-- A Name into a row. -/
theorem wp_storeN {o : Oper} {a : Act} {w : World} {K : Act → World → Prop} {Q : Exit → Act → World → Prop} {ty e : TypeId} {x y : Operand} {g k : Nat} {n : Nm} {xs : List Nm} {rest : List Value} (hi : (Tryd.prog.info? ty).map (·.size) = some 6)
    (ho : o.op = .store ty x y) (hx : a.eval x = .pointer (some ⟨g, k * 6, none⟩)) (hy : a.eval y = n.v) (hg : RowN w g e xs rest) (hk : k < xs.length)
    (h : K (a.put o.dst undef) (w.setRow g (ncells (xs.set k n) ++ rest).toArray)) : o.wp Tryd.prog a w K Q := by
  have hsz : k * 6 + 0 + n.cells.length ≤ (ncells xs ++ rest).toArray.size := by
    simp only [List.size_toArray, List.length_append, ncells_len, cells_len]
    omega
  have hrun := run_storeCells_at (P := Tryd.prog) g (k * 6) e n.cells 0 (ncells xs ++ rest).toArray w hg hsz (cells_one n)
  simp only [Nat.add_zero, cells_len] at hrun
  rw [ncells_set hk n rest] at hrun
  have hst : (storeVar ty ⟨g, k * 6, none⟩ (.agg n.cells.toArray)).run Tryd.prog w = .ok () (w.setRow g (ncells (xs.set k n) ++ rest).toArray) := by
    cases hq : Tryd.prog.info? ty with
    | none => simp [hq] at hi
    | some i =>
      have hs : i.size = 6 := by simpa [hq] using hi
      simp [storeVar, sizeOf, typeInfo, hq, Value.cells, hs, hrun, cells_len]
  unfold Oper.wp execOp
  have hy' : a.eval y = .agg n.cells.toArray := hy
  simp only [ho, hx, hy', Instr.storeAt, Instr.sureAddr, Sem.run_bind, Sem.run_pure, Result.andThen_ok, hst]
  exact h
end Go.Proofs.YtipmpebckfaknaaDoor
