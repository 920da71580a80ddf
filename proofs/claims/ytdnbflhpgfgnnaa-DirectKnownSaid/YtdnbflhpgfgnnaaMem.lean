/- Memory that changes in some blocks alone; readings that avoid blocks; boxes; single operations. Conditions: none. -/
import Derived.Test.YtdnbflhpgfgnnaaKeep
import Derived.Test.YtdnbflhpgfgnnaaMany
import Derived.Test.YtdnbflhpgfgnnaaSeq
import Derived.Test.YtdnbflhpgfgnnaaTailP
import Derived.Test.YtdnbflhpgfgnnaaText
import Derived.Deep.CutRange
import Derived.Lib.SmallJoins
namespace Go.Proofs.Ytdnbflhpgfgnnaa
open Go.RowKit

/-! ### memory that changes in some blocks alone -/
/-- Of what was there only blocks of X have changed. -/
structure Touch (X : Nat → Prop) (w w' : World) : Prop where
  os : w'.os = w.os
  tape : w'.tape = w.tape
  output : w'.output = w.output
  size : w.heap.size ≤ w'.heap.size
  block : ∀ k, k < w.heap.size → ¬ X k → w'.heap[k]? = w.heap[k]?
theorem Touch.refl (X : Nat → Prop) (w : World) : Touch X w w := ⟨rfl, rfl, rfl, Nat.le_refl _, fun _ _ _ => rfl⟩
theorem Touch.trans {X : Nat → Prop} {a b c : World} (h : Touch X a b) (k : Touch X b c) : Touch X a c :=
  ⟨k.os.trans h.os, k.tape.trans h.tape, k.output.trans h.output, Nat.le_trans h.size k.size, fun i hi hx => (k.block i (Nat.lt_of_lt_of_le hi h.size) hx).trans (h.block i hi hx)⟩
theorem Touch.mono {X Y : Nat → Prop} {w w' : World} (h : Touch X w w') (hx : ∀ b, b < w.heap.size → X b → Y b) : Touch Y w w' := ⟨h.os, h.tape, h.output, h.size, fun k hk hn => h.block k hk (fun hx' => hn (hx k hk hx'))⟩
theorem Touch.of {X : Nat → Prop} {w w' : World} (h : Below w.heap.size w w') : Touch X w w' := ⟨h.os, h.tape, h.output, h.size, fun k hk _ => h.block k hk⟩
theorem Touch.below {X : Nat → Prop} {w w' : World} {B : Nat} (h : Touch X w w') (hB : B ≤ w.heap.size) (hx : ∀ b, X b → B ≤ b) : Below B w w' :=
  ⟨h.os, h.tape, h.output, h.size, fun k hk => h.block k (by omega) (fun hx' => by have := hx k hx'; omega)⟩
theorem Touch.cell {X : Nat → Prop} {w w' : World} (h : Touch X w w') {p : Addr} (hp : p.block < w.heap.size) (hx : ¬ X p.block) : w'.cell? p = w.cell? p := World.cell?_of_block (h.block _ hp hx)
theorem Touch.heap {X : Nat → Prop} {w w' : World} (h : Touch X w w') {g : Nat} {o : Obj} (hx : ¬ X g) (hg : w.heap[g]? = some o) : w'.heap[g]? = some o := by
  rw [h.block g (Array.getElem?_eq_some_iff.1 hg).1 hx]
  exact hg
theorem Touch.grown {X : Nat → Prop} {w w' : World} {row : Option Nat} (h : w.grownBy w' row) (hx : ∀ k, row = some k → X k) : Touch X w w' :=
  ⟨h.os, h.tape, h.output, h.size, fun k hk hn => h.block k hk (fun e => hn (hx k e.symm))⟩
theorem Touch.setCell {X : Nat → Prop} {w w' : World} (h : Touch X w w') {p : Addr} (hp : w.heap.size ≤ p.block ∨ X p.block) (u : Value) : Touch X w (w'.setCell p u) :=
  ⟨h.os, h.tape, h.output, by simpa [World.setCell] using h.size, fun k hk hn => by
    rw [Below.heap_setCell _ _ _ _ (by rintro rfl; rcases hp with hp | hp; omega; exact hn hp)]
    exact h.block k hk hn⟩
theorem Touch.setRow {X : Nat → Prop} {w w' : World} (h : Touch X w w') {g : Nat} (hp : w.heap.size ≤ g ∨ X g) (cs : Array Value) : Touch X w (w'.setRow g cs) :=
  ⟨h.os, h.tape, h.output, by simpa [World.setRow] using h.size, fun k hk hn => by
    rw [setRow_other w' g k cs (by rintro rfl; rcases hp with hp | hp; omega; exact hn hp)]
    exact h.block k hk hn⟩
theorem Touch.drew {X : Nat → Prop} {w w' : World} (h : Touch X w w') : Touch X w w'.drew := ⟨h.os, h.tape, h.output, h.size, h.block⟩

/-! ### readings that avoid blocks -/
def RdX (w : World) (X : Nat → Prop) (size : Nat) (A : Option Addr) (n : Nat) (xs : List Value) : Prop :=
  xs.length = n * size ∧ (0 < n → ∃ ad, A = some ad ∧ ad.block < w.heap.size ∧ ¬ X ad.block ∧ ∀ j u, xs[j]? = some u → w.cell? (ad.add j) = some u)
section
variable {w w' : World} {X Y : Nat → Prop} {size n : Nat} {A : Option Addr} {xs : List Value}
theorem RdX.none_ : RdX w X size A 0 [] := ⟨by simp, fun h => absurd h (by omega)⟩
theorem RdX.keep (h : RdX w X size A n xs) (ht : Touch X w w') : RdX w' X size A n xs :=
  ⟨h.1, fun hn => by
    obtain ⟨ad, e, hb, hx, hc⟩ := h.2 hn
    exact ⟨ad, e, Nat.lt_of_lt_of_le hb ht.size, hx, fun j u hu => (ht.cell (by rw [block_of_add]; exact hb) (by rw [block_of_add]; exact hx)).trans (hc j u hu)⟩⟩
theorem RdX.below (h : RdX w X size A n xs) (ht : Below w.heap.size w w') : RdX w' X size A n xs := h.keep (.of ht)
theorem RdX.mono (h : RdX w X size A n xs) (hx : ∀ b, b < w.heap.size → Y b → X b) : RdX w Y size A n xs :=
  ⟨h.1, fun hn => by
    obtain ⟨ad, e, hb, hX, hc⟩ := h.2 hn
    exact ⟨ad, e, hb, fun hy => hX (hx _ hb hy), hc⟩⟩
theorem RdX.reads (h : RdX w X size A n xs) : Reads w w.heap.size size A n xs :=
  ⟨h.1, fun hn => by
    obtain ⟨ad, e, hb, _, hc⟩ := h.2 hn
    exact ⟨ad, e, hb, hc⟩⟩
theorem RdX.of {B : Nat} (h : Reads w B size A n xs) (hB : B ≤ w.heap.size) (hx : ∀ b, b < B → ¬ X b) : RdX w X size A n xs :=
  ⟨h.1, fun hn => by
    obtain ⟨ad, e, hb, hc⟩ := h.2 hn
    exact ⟨ad, e, by omega, hx _ hb, hc⟩⟩
theorem RdX.drew (h : RdX w X size A n xs) : RdX w.drew X size A n xs := h
end
abbrev BsX (w : World) (X : Nat → Prop) (A : Option Addr) (l : List UInt8) : Prop := RdX w X 1 A l.length (bs l)
theorem padd_next (a : Addr) (n : Nat) : a.add (n + 1) = ⟨(a.add n).block, (a.add n).off + 1, none⟩ := by
  unfold Addr.add
  by_cases h : n = 0 <;> simp [h, Nat.add_assoc]
theorem ret_nat {a b : Nat} (h : a = b) : Ending.returned (.int .i64 (a : Int)) = .returned (.int .i64 (b : Int)) := by rw [h]
theorem below_new (w : World) (o : Obj) : Below w.heap.size w (w.alloc o) := (Below.refl _ _).alloc (Nat.le_refl _) _
theorem below_then {w w' w'' : World} {B : Nat} (h : Below B w w') (h' : Below w'.heap.size w' w'') (hB : B ≤ w.heap.size) : Below B w w'' := h.trans (h'.mono (Nat.le_trans hB h.size))
theorem own_touch {X : Nat → Prop} {base : Nat} {w w' : World} {e : TypeId} {size n : Nat} {v : Value} {xs : List Value} (h : w.ownsRow base e size v n xs) (ht : Touch X w w') (hx : ∀ b, v.ownBlock = some b → ¬ X b) : w'.ownsRow base e size v n xs := by
  refine ⟨h.1, ?_⟩
  rcases h.2 with hn | ⟨g, cap, cur, rfl, hb, hgg, rest⟩
  · exact .inl hn
  · refine .inr ⟨g, cap, cur, rfl, hb, ?_, rest⟩
    exact ht.heap (hx g rfl) hgg
theorem box_set {w : World} {g : Nat} {v : Value} {t : TypeId} (u : Value) (h : w.heap[g]? = some (.cells #[v] t (0, 0))) : (w.setCell ⟨g, 0, none⟩ u).heap[g]? = some (.cells #[u] t (0, 0)) := by
  rw [heap_setCell_same w g 0 #[v] t u h]
  rfl
theorem box_cell {w : World} {g : Nat} {v : Value} {t : TypeId} (h : w.heap[g]? = some (.cells #[v] t (0, 0))) : w.cell? ⟨g, 0, none⟩ = some v := by
  rw [cell_of_row w g 0 _ _ _ h]
  rfl
theorem box_frozen {w : World} {g : Nat} {v : Value} {t : TypeId} (h : w.heap[g]? = some (.cells #[v] t (0, 0))) : w.frozen? ⟨g, 0, none⟩ = false := by
  simp [World.frozen?, h]
theorem Touch.cell1 (w : World) (g i : Nat) (u : Value) : Touch (fun k => k = g) w (w.setCell ⟨g, i, none⟩ u) := Touch.setCell (X := fun k => k = g) (Touch.refl _ _) (p := ⟨g, i, none⟩) (Or.inr rfl) u
theorem Touch.row1 (w : World) (g : Nat) (cs : Array Value) : Touch (fun k => k = g) w (w.setRow g cs) := Touch.setRow (X := fun k => k = g) (Touch.refl _ _) (Or.inr rfl) cs
/-! ### single operations -/
section
variable {b : Act} {w : World} {o : Oper}
theorem exec_call3 {P : Program} {f : FuncId} {x y z : Operand} {t u s : TypeId} {v v' v'' : Value} (hf : ∀ args, (callFunc f args).run P w = .ok (.enter f args) w) (ho : o.op = .call { callee := .value (.func f), args := #[x, y, z], argTypes := #[t, u, s] }) (h : b.eval x = v) (h' : b.eval y = v') (h'' : b.eval z = v'') : (execOp b.eval o).run P w = .ok (.enter f #[v, v', v'']) w := by
  subst h h' h''
  unfold execOp
  simp only [ho]
  go_simp
theorem exec_not' {P : Program} {x : Operand} {t : TypeId} {c : Bool} (ho : o.op = .unOp .not t x) (h : b.eval x = .bool c) : (execOp b.eval o).run P w = .ok (.value (.bool !c)) w := by
  unfold execOp
  simp only [ho, h]
  go_simp
end
section
variable {b : Act} {w : World} {o : Oper}
theorem exec_nil {P : Program} {x : Operand} {a : Addr} (ho : o.op = .nilCheck x) (h : b.eval x = .pointer (some a)) : (execOp b.eval o).run P w = .ok (.value (.pointer (some a))) w := by
  unfold execOp
  simp only [ho, h]
  go_simp
end
theorem eval_put_ne {b : Act} {d t : Nat} {v : Value} (h : d ≠ t) : (b.put (some d) v).eval (.tmp t) = b.tmps.getD t undef := by
  show (b.tmps.setIfInBounds d v).getD t undef = _
  rw [Array.getD_eq_getD_getElem?, Array.getD_eq_getD_getElem?, Array.getElem?_setIfInBounds, if_neg h]
theorem eval_put_eq {b : Act} {d n : Nat} {v : Value} (hn : b.tmps.size = n) (h : d < n) : (b.put (some d) v).eval (.tmp d) = v := by
  show (b.tmps.setIfInBounds d v).getD d undef = _
  rw [Array.getD_eq_getD_getElem?, Array.getElem?_setIfInBounds, if_pos rfl, if_pos (by omega)]
  rfl
theorem size_put {b : Act} {d n : Nat} {v : Value} (hn : b.tmps.size = n) : (b.put (some d) v).tmps.size = n := by
  show (b.tmps.setIfInBounds d v).size = n
  rw [Array.size_setIfInBounds]
  exact hn
/-- What a call made lies apart from what was there. -/
theorem own_avoid {N n c : Nat} {t : TypeId} {A : Option Addr} {xs : List Value} {w : World} {X : Nat → Prop} {size : Nat} (h : w.ownsRow N t size (.slice A n c) n xs) (hX : ∀ b, X b → b < N) : RdX w X size A n xs := by
  obtain ⟨A', c', e, _, _, hr⟩ := own_form h
  injection e with e1 _ _
  subst e1
  refine ⟨hr.1, fun hn => ?_⟩
  obtain ⟨ad, e', hb, hc⟩ := hr.2 hn
  refine ⟨ad, e', hb, fun hx => ?_, hc⟩
  have := (h.lt ad.block (by rw [e']; rfl)).1
  have := hX _ hx
  omega
section
variable {ops : Array Oper} {Q : Exit → Act → World → Prop} {o : Oper} {rest : List Oper} {a : Act} {w : World}
theorem wpList_op {v : Value} {w' : World} (hgd : o.guard = none) (hr : (execOp a.eval o).run Try.prog w = .ok (.value v) w') (hk : wpList Try.prog ops Q rest (a.put o.dst v) w') : wpList Try.prog ops Q (o :: rest) a w := by
  refine wpList_plain hgd fun K hK => ?_
  unfold Oper.wp
  rw [hr, Oper.upon_value]
  exact hK _ _ hk
end
theorem wp_last {P : Program} {co : Code} {id : Nat} {K : Act → World → Prop} {Q' : Exit → Act → World → Prop} {a : Act} {w : World} (h : co.wp P (Exit.then K (Exit.inBlock id (Exit.then K Q'))) a w) : co.wp P (Exit.inBlock id (Exit.then K Q')) a w :=
  wp_mono h (fun e a w h => by cases e <;> exact h)
def BelC (W : World) (w : World) : Prop := Below W.heap.size W w
theorem BelC.keep {W : World} (w w' : World) (hb : Below w.heap.size w w') (h : BelC W w) : BelC W w' := Below.trans h (hb.mono h.size)
theorem Touch.then_ {X Y : Nat → Prop} {w w1 w2 : World} (h : Touch X w w1) (k : Touch Y w1 w2) (hy : ∀ b, b < w.heap.size → Y b → X b) : Touch X w w2 :=
  ⟨k.os.trans h.os, k.tape.trans h.tape, k.output.trans h.output, Nat.le_trans h.size k.size, fun i hi hx => (k.block i (Nat.lt_of_lt_of_le hi h.size) (fun e => hx (hy i hi e))).trans (h.block i hi hx)⟩
theorem lit_add (g o k : Nat) : (⟨g, o, none⟩ : Addr).add k = ⟨g, o + k, none⟩ := by unfold Addr.add; split <;> simp_all
section
variable {w w' : World} {X Y : Nat → Prop}
theorem RdX.both {size n : Nat} {A : Option Addr} {xs : List Value} (h : RdX w X size A n xs) : RdX w (fun b => X b ∨ w.heap.size ≤ b) size A n xs := by
  refine ⟨h.1, fun hn => ?_⟩
  obtain ⟨ad, e, hb, hx, hc⟩ := h.2 hn
  exact ⟨ad, e, hb, fun h => by rcases h with h | h; exact hx h; omega, hc⟩
end
theorem own_base {base base' size n : Nat} {w : World} {e : TypeId} {v : Value} {xs : List Value} (h : w.ownsRow base' e size v n xs) (hb : base ≤ base') : w.ownsRow base e size v n xs := by
  refine ⟨h.1, ?_⟩
  rcases h.2 with hn | ⟨g, cap, cur, rfl, hg, rest⟩
  · exact .inl hn
  · exact .inr ⟨g, cap, cur, rfl, Nat.le_trans hb hg, rest⟩
section
variable {ops : Array Oper} {Q : Exit → Act → World → Prop} {o : Oper} {rest : List Oper} {a : Act} {w : World}
theorem wpList_wanted {P : Program} (hw : Region.wanted o (yielded ops a.tmps) = true) (h : ∀ K : Act → World → Prop, (∀ a w, wpList P ops Q rest a w → K a w) → o.wp P a w K Q) : wpList P ops Q (o :: rest) a w :=
  wpList_step fun K hK => by simp only [hw, if_true]; exact h K hK
end
theorem two_cells {w : World} {g : Nat} {x y : Value} {t : TypeId} {fr : Nat × Nat} (hg : w.heap[g]? = some (.cells #[x, y] t fr)) : w.cell? ⟨g, 0, none⟩ = some x ∧ w.cell? ⟨g, 1, none⟩ = some y := by
  rw [cell_of_row w g 0 _ _ _ hg, cell_of_row w g 1 _ _ _ hg]
  exact ⟨rfl, rfl⟩
theorem two_frozen {w : World} {g i : Nat} {x y : Value} {t : TypeId} (hg : w.heap[g]? = some (.cells #[x, y] t (0, 0))) : w.frozen? ⟨g, i, none⟩ = false := by simp [World.frozen?, hg]
theorem two_set0 {w : World} {g : Nat} {x y : Value} {t : TypeId} (u : Value) (hg : w.heap[g]? = some (.cells #[x, y] t (0, 0))) : (w.setCell ⟨g, 0, none⟩ u).heap[g]? = some (.cells #[u, y] t (0, 0)) := by
  rw [heap_setCell_same w g 0 _ t u hg]
  rfl
theorem two_set1 {w : World} {g : Nat} {x y : Value} {t : TypeId} (u : Value) (hg : w.heap[g]? = some (.cells #[x, y] t (0, 0))) : (w.setCell ⟨g, 1, none⟩ u).heap[g]? = some (.cells #[x, u] t (0, 0)) := by
  rw [heap_setCell_same w g 1 _ t u hg]
  rfl
end Go.Proofs.Ytdnbflhpgfgnnaa
