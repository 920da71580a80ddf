/- Lists of two numbers each (a file's number, and how many names): as cells, read, and grown. Conditions: none. -/
import Derived.Test.YtlehkgogcbdckaaInG
namespace Go.Proofs.Ytlehkgogcbdckaa
open Go.RowKit

abbrev En := Int × Int
def enC (e : En) : List Value := [.int .i64 e.1, .int .i64 e.2]
def enV (e : En) : Value := .agg #[.int .i64 e.1, .int .i64 e.2]
def ecells (l : List En) : List Value := l.flatMap enC
theorem ecells_len (l : List En) : (ecells l).length = l.length * 2 := by
  induction l with
  | nil => rfl
  | cons f l ih =>
    unfold ecells at ih ⊢
    rw [List.flatMap_cons, List.length_append, ih, List.length_cons]
    simp [enC]
    omega
theorem ecells_append (a b : List En) : ecells (a ++ b) = ecells a ++ ecells b := by simp [ecells]
theorem ecells_split {l : List En} {k : Nat} {e : En} (h : l[k]? = some e) : ecells l = ecells (l.take k) ++ (enC e ++ ecells (l.drop (k + 1))) ∧ (ecells (l.take k)).length = k * 2 := by
  obtain ⟨hk, e'⟩ := List.getElem?_eq_some_iff.1 h
  constructor
  · conv => lhs; rw [← List.take_append_drop k l, List.drop_eq_getElem_cons hk, e']
    rw [ecells_append]
    rfl
  · rw [ecells_len, List.length_take]
    congr 1
    omega
theorem ecells_get {l : List En} {k : Nat} {e : En} (h : l[k]? = some e) : (ecells l)[k * 2]? = some (.int .i64 e.1) ∧ (ecells l)[k * 2 + 1]? = some (.int .i64 e.2) := by
  obtain ⟨hs, hl⟩ := ecells_split h
  rw [hs]
  constructor
  · rw [List.getElem?_append_right (by omega), hl, Nat.sub_self]; rfl
  · rw [List.getElem?_append_right (by omega), hl, show k * 2 + 1 - k * 2 = 1 by omega]; rfl
theorem ecells_one (l : List En) : ∀ u ∈ ecells l, u.oneCell' = true := by
  intro u hu
  unfold ecells at hu
  rw [List.mem_flatMap] at hu
  obtain ⟨p, _, hu⟩ := hu
  simp only [enC, List.mem_cons, List.not_mem_nil, or_false] at hu
  rcases hu with rfl | rfl <;> rfl
/-- Entries, as a slice value reads. -/
abbrev EnX (w : World) (X : Nat → Prop) (A : Option Addr) (l : List En) : Prop := RdX w X 2 A l.length (ecells l)
theorem EnX.at_ {w : World} {X : Nat → Prop} {A : Option Addr} {l : List En} {k : Nat} (h : EnX w X A l) (hk : k < l.length) :
    ∃ (ad : Addr) (e : En), A = some ad ∧ ad.block < w.heap.size ∧ ¬ X ad.block ∧ w.cell? (ad.add (k * 2)) = some (.int .i64 e.1) ∧ w.cell? ⟨(ad.add (k * 2)).block, (ad.add (k * 2)).off + 1, none⟩ = some (.int .i64 e.2) ∧ Hid (l[k]? = some e) := by
  obtain ⟨ad, e, hb, hx, hc⟩ := h.2 (by omega)
  have hr : l[k]? = some l[k] := List.getElem?_eq_getElem hk
  obtain ⟨h1, h2⟩ := ecells_get hr
  exact ⟨ad, _, e, hb, hx, hc _ _ h1, by rw [← padd_next]; exact hc _ _ h2, hr⟩
theorem enC_len (x : En) : (enC x).length = 2 := rfl
theorem enC_one (x : En) : ∀ v ∈ enC x, v.oneCell' = true := by
  intro u hu
  simp only [enC, List.mem_cons, List.not_mem_nil, or_false] at hu
  rcases hu with rfl | rfl <;> rfl
/-- A block that holds these entries, and room behind them. -/
def RowEn (w : World) (g : Nat) (e : TypeId) (xs : List En) (rest : List Value) : Prop := w.heap[g]? = some (.cells (ecells xs ++ rest).toArray e (0, 0))
theorem RowEn.lt {w : World} {g : Nat} {e : TypeId} {xs : List En} {rest : List Value} (h : RowEn w g e xs rest) : g < w.heap.size := (Array.getElem?_eq_some_iff.1 h).1
/-- A list of entries that the call owns. -/
abbrev OwnEn (e : TypeId) (base : Nat) (w : World) (v : Value) (xs : List En) : Prop := w.ownsRow base e 2 v xs.length (ecells xs)
theorem OwnEn.nil (e : TypeId) (base : Nat) (w : World) : OwnEn e base w (.slice none 0 0) [] := World.ownsRow_nil _ _ _ _
theorem OwnEn.form {e : TypeId} {base : Nat} {w : World} {v : Value} {xs : List En} (h : OwnEn e base w v xs) : (v = .slice none 0 0 ∧ xs = []) ∨ ∃ g cap rest, v = .slice (some ⟨g, 0, none⟩) xs.length cap ∧ base ≤ g ∧ RowEn w g e xs rest ∧ xs.length ≤ cap ∧ cap ≤ maxLen ∧ (ecells xs ++ rest).length = cap * 2 := by
  rcases h.2 with ⟨rfl, hn⟩ | ⟨g, cap, cur, rfl, hb, hg, hnc, hcm, hs, ht⟩
  · exact .inl ⟨rfl, List.eq_nil_of_length_eq_zero hn⟩
  · refine .inr ⟨g, cap, cur.toList.drop (xs.length * 2), rfl, hb, ?_, hnc, hcm, ?_⟩
    · unfold RowEn
      rw [← ht, List.take_append_drop, Array.toArray_toList]
      exact hg
    · rw [← ht, List.take_append_drop, Array.length_toList, hs]
theorem OwnEn.of {e : TypeId} {base : Nat} {w : World} {xs : List En} {g cap : Nat} {rest : List Value} (hb : base ≤ g) (h : RowEn w g e xs rest) (h1 : xs.length ≤ cap) (h2 : cap ≤ maxLen) (h3 : (ecells xs ++ rest).length = cap * 2) : OwnEn e base w (.slice (some ⟨g, 0, none⟩) xs.length cap) xs := by
  refine ⟨ecells_len xs, .inr ⟨g, cap, _, rfl, hb, h, h1, h2, by simpa using h3, ?_⟩⟩
  rw [← ecells_len]
  exact List.take_left
/-- A type of slices of entries. -/
def EnSl (t e : TypeId) : Prop := Try.prog.underlying t = some (.slice e) ∧ (Try.prog.info? e).map (fun i => (i.zero, i.size, i.bytes)) = some (some (.agg #[.int .i64 0, .int .i64 0]), 2, 16)
theorem enSl1 : EnSl 36 45 := ⟨Try.underlying36, by kernel_rfl⟩
theorem enSl2 : EnSl 37 63 := ⟨Try.underlying37, by kernel_rfl⟩
section
variable {ops : Array Oper} {rest : List Oper} {o : Oper} {a : Act} {Q : Exit → Act → World → Prop} {w : World} {base : Nat} {v : Value}
/-- An entry behind a list of the call's own. -/
theorem push_en {t e : TypeId} (ht : EnSl t e) {N : Nat} (s x : Operand) {own : List En} (f : En) (hown : OwnEn e base w v own) (hbase : base ≤ w.heap.size) (hl : own.length ≤ 1099511627776)
    (hgd : o.guard = none) (ho : o.op = .call { callee := .builtin .append, args := #[s, x], argTypes := #[t, t] })
    (hs : a.eval s = v) (hx : a.eval x = .slice (some ⟨N, 0, none⟩) 1 1) (hN : w.heap.size = N)
    (h : ∀ v' w', OwnEn e base w' v' (own ++ [f]) → w.grownBy w' v.ownBlock → (v'.ownBlock = v.ownBlock ∨ v'.ownBlock = some (w.heap.size + 1)) → Below base w w' → wpList Try.prog ops Q rest (a.put o.dst v') w') :
    wpList Try.prog ops Q (o :: rest) a (w.alloc (.cells #[.int .i64 f.1, .int .i64 f.2] e)) := by
  subst hN
  obtain ⟨hu, hi⟩ := ht
  obtain ⟨i0, hi0, hz0, hz1, hz2⟩ := info_parts hi
  have hnew : Reads (w.alloc (.cells (ecells [f]).toArray e)) (w.heap.size + 1) 2 (some ⟨w.heap.size, 0, none⟩) 1 (ecells [f]) := by
    refine ⟨ecells_len [f], fun _ => ⟨_, rfl, by simp, fun j u hu => ?_⟩⟩
    rw [lit_add, Nat.zero_add, cell_of_row (w.alloc (.cells (ecells [f]).toArray e)) w.heap.size j (ecells [f]).toArray e (0, 0) (heap_alloc_new w _)]
    simpa using hu
  refine wpList_append_any _ hgd s x t ho base e i0 _ 2 16 hu hi0 hz0 hz1 hz2 rfl (by omega) v _ _ hs (hown.alloc _) (w.heap.size + 1) _ 1 1 (ecells [f]) hx hnew (ecells_one _) (by simp only [maxLen]; omega) (by omega) (by simp; omega) ?_
  intro v1 w1 h1 h2 h3
  have hb := ((Below.refl base w).alloc hbase _).trans (grown_below (hown.alloc (.cells (ecells [f]).toArray e)) h2 (by simp; omega))
  refine h v1 w1 ?_ ⟨h2.os, h2.tape, h2.output, Nat.le_trans (by simp) h2.size, fun k hk hne => (h2.block k (by simp; omega) hne).trans (heap_alloc_old w _ hk)⟩ (by simpa using h3) hb
  have h1' : OwnEn e base w1 v1 (own ++ [f]) := by
    unfold OwnEn
    rw [ecells_append, List.length_append]
    exact h1
  exact h1'
end

end Go.Proofs.Ytlehkgogcbdckaa
