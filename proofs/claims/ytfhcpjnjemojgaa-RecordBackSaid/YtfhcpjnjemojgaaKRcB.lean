/- The table of kinds: the walk of what makes it, a look into it; a kind's name, by the code and by the reference; the reference's letters. Conditions: none. -/
import Derived.Test.YtfhcpjnjemojgaaKGd
import Derived.Test.YtfhcpjnjemojgaaKGc
import Derived.Maps.Own
namespace Go.Proofs.Ytfhcpjnjemojgaa
open Go.RowKit Go.Lib

/-- A kind's name. -/
def wordOf (k : Nat) : List UInt8 :=
  if k = 1 then [103, 114, 97, 110, 116] else if k = 2 then [114, 101, 110, 101, 119] else if k = 3 then [114, 101, 108, 101, 97, 115, 101] else if k = 4 then [99, 111, 109, 109, 105, 116] else if k = 5 then [112, 105, 110] else if k = 6 then [117, 110, 112, 105, 110] else if k = 7 then [115, 101, 97, 108] else if k = 8 then [99, 111, 109, 112, 97, 99, 116] else if k = 9 then [98, 105, 110, 100] else if k = 10 then [117, 110, 98, 105, 110, 100] else if k = 11 then [114, 101, 110, 97, 109, 101] else []
theorem wordOf_no {k : Nat} (h : isK k = false) : wordOf k = [] := by
  unfold isK at h
  simp only [decide_eq_false_iff_not] at h
  unfold wordOf
  rw [if_neg (by omega), if_neg (by omega), if_neg (by omega), if_neg (by omega), if_neg (by omega), if_neg (by omega), if_neg (by omega), if_neg (by omega), if_neg (by omega), if_neg (by omega), if_neg (by omega)]
theorem parts_no {k : Nat} (h : isK k = false) : parts k = [] := by
  unfold isK at h
  simp only [decide_eq_false_iff_not] at h
  unfold parts
  rw [if_neg (by omega), if_neg (by omega), if_neg (by omega), if_neg (by omega), if_neg (by omega), if_neg (by omega), if_neg (by omega), if_neg (by omega)]
def pcs (ps : List Nat) : List Value := ps.map fun (j : Nat) => .int .i64 (j : Int)
/-- A row of parts, in a block of its own. -/
def PartsAt (w : World) (A : Option Addr) (ps : List Nat) : Prop := ps = [] ∨ ∃ g, A = some ⟨g, 0, none⟩ ∧ w.heap[g]? = some (Obj.cells (pcs ps).toArray 87 (0, 0))
/-- What is said of a kind. -/
def FormV (w : World) (k : Nat) (v : Value) : Prop := ∃ A c, v = .agg #[.string (txt (wordOf k)), .slice A (parts k).length c] ∧ (parts k).length ≤ c ∧ PartsAt w A (parts k)
/-- Rows of parts stay. -/
def KeepP (w w' : World) : Prop := ∀ (g : Nat) (cs : Array Value), w.heap[g]? = some (Obj.cells cs 87 (0, 0)) → w'.heap[g]? = some (Obj.cells cs 87 (0, 0))
theorem PartsAt.keep {w w' : World} {A : Option Addr} {ps : List Nat} (h : PartsAt w A ps) (hk : KeepP w w') : PartsAt w' A ps := by
  rcases h with h | ⟨g, e, hg⟩
  · exact .inl h
  · exact .inr ⟨g, e, hk g _ hg⟩
theorem FormV.keep {w w' : World} {k : Nat} {v : Value} (h : FormV w k v) (hk : KeepP w w') : FormV w' k v := by
  obtain ⟨A, c, e, hc, hp⟩ := h
  exact ⟨A, c, e, hc, hp.keep hk⟩
theorem keep_below {w w' : World} (hb : Below w.heap.size w w') : KeepP w w' :=
  fun g _ h => (hb.block g (Array.getElem?_eq_some_iff.1 h).1).trans h
theorem PartsAt.reads {w : World} {A : Option Addr} {ps : List Nat} (h : PartsAt w A ps) : Reads w w.heap.size 1 A ps.length (pcs ps) := by
  rcases h with h | ⟨g, rfl, hg⟩
  · subst h; exact Reads.none_
  · exact ⟨by simp [pcs], fun _ => ⟨_, rfl, (Array.getElem?_eq_some_iff.1 hg).1, fun j u hu => by
      have := cell_of_row w g j (pcs ps).toArray 87 (0, 0) hg
      have hadd : (⟨g, 0, none⟩ : Addr).add j = ⟨g, j, none⟩ := by unfold Addr.add; split <;> simp_all
      rw [hadd, this]
      simpa using hu⟩⟩
/-- The table so far: kinds 1 to d. -/
structure FInv (w0 w : World) (m d : Nat) : Prop where
  below : Below w0.heap.size w0 w
  at_ : w0.heap.size ≤ m
  map : ∃ es c, w.heap[m]? = some (.map es c) ∧ (∀ x ∈ es.toList, ∃ k : Nat, x.key = .int .u8 (k : Int) ∧ 1 ≤ k ∧ k ≤ d ∧ FormV w k x.val) ∧ ∀ k : Nat, 1 ≤ k → k ≤ d → ∃ x ∈ es.toList, x.key = .int .u8 (k : Int)
/-- The table. -/
def FormsAt (w : World) (v : Value) : Prop := ∃ m es c, v = .map (some m) ∧ w.heap[m]? = some (.map es c) ∧ (∀ x ∈ es.toList, ∃ k : Nat, x.key = .int .u8 (k : Int) ∧ 1 ≤ k ∧ k ≤ 11 ∧ FormV w k x.val) ∧ ∀ k : Nat, 1 ≤ k → k ≤ 11 → ∃ x ∈ es.toList, x.key = .int .u8 (k : Int)
theorem FormsAt.keep {w w' : World} {v : Value} (h : FormsAt w v) (hb : Below w.heap.size w w') : FormsAt w' v := by
  obtain ⟨m, es, c, rfl, hm, h1, h2⟩ := h
  exact ⟨m, es, c, rfl, (hb.block m (Array.getElem?_eq_some_iff.1 hm).1).trans hm, fun x hx => (by
    obtain ⟨k, e, l1, l2, hf⟩ := h1 x hx
    exact ⟨k, e, l1, l2, hf.keep (keep_below hb)⟩), h2⟩
theorem FInv.start (w : World) : FInv w (w.alloc (.map #[] 0)) w.heap.size 0 :=
  ⟨below_new _ _, Nat.le_refl _, #[], 0, heap_alloc_new _ _, by simp, fun k h1 h2 => by omega⟩
theorem FInv.alloc {w0 w : World} {m d : Nat} (h : FInv w0 w m d) (o : Obj) : FInv w0 (w.alloc o) m d := by
  obtain ⟨hb, hm, es, c, he, h1, h2⟩ := h
  exact ⟨hb.alloc hb.size o, hm, es, c, (heap_alloc_old w o (Array.getElem?_eq_some_iff.1 he).1).trans he, fun x hx => (by
    obtain ⟨k, e, l1, l2, hf⟩ := h1 x hx
    exact ⟨k, e, l1, l2, hf.keep (keep_below (below_new _ _))⟩), h2⟩
theorem run_find {w : World} {es : List MapEntry} (hk : ∀ x ∈ es, ∃ k : Nat, x.key = .int .u8 (k : Int)) (k : Nat) :
    ((Instr.findKey 5 (.int .u8 (k : Int)) es).run Try.prog w = .ok none w ∧ ∀ x ∈ es, x.key ≠ .int .u8 (k : Int)) ∨ ∃ j, ∃ x ∈ es, (Instr.findKey 5 (.int .u8 (k : Int)) es).run Try.prog w = .ok (some (j, x.val)) w ∧ x.key = .int .u8 (k : Int) := by
  rcases MapKept.findNow_spec (d := .int .u8) (k := .int .u8 (k : Int)) (by simp [MapKept.IsKey]) es 0 (fun x hx => by obtain ⟨k', e⟩ := hk x hx; rw [e]; simp [MapKept.IsKey]) with ⟨h1, h2⟩ | ⟨j, x, h1, h2, h3⟩
  · exact .inl ⟨MapKept.run_findKey Try.underlying5 h1, h2⟩
  · exact .inr ⟨0 + j, x, List.mem_of_getElem? h2, MapKept.run_findKey Try.underlying5 h1, h3⟩
theorem run_check {w : World} (e : Bool) (k : Nat) : (Instr.checkKey e 10000 5 (.int .u8 (k : Int))).run Try.prog w = .ok () w :=
  MapKept.run_checkKey (d := .int .u8) Try.underlying5 (by simp [MapKept.IsKey]) e 9999
/-- One kind more. -/
theorem wpList_insert {w0 w : World} {m d n : Nat} (hn : n = d + 1) {ops : Array Oper} {rest : List Oper} {o : Oper} {a : Act} {Q : Exit → Act → World → Prop} (hI : FInv w0 w m d) {x y : Operand} {kz : Value} (hg : o.guard = none) (ho : o.op = .insert 60 x (.const kz) y)
    (hkz : kz = .int .u8 (n : Int)) (hx : a.eval x = .map (some m)) {v : Value} (hy : a.eval y = v) (hv : FormV w n v) (h : ∀ w', FInv w0 w' m (d + 1) → wpList Try.prog ops Q rest (a.put o.dst undef) w') : wpList Try.prog ops Q (o :: rest) a w := by
  subst hkz hy
  obtain ⟨hb, hm, es, c, he, h1, h2⟩ := hI
  refine wpList_plain hg fun K' hK' => ?_
  have hlt := (Array.getElem?_eq_some_iff.1 he).1
  have hne : ∀ x ∈ es.toList, x.key ≠ .int .u8 (n : Int) := by
    intro x hx e
    obtain ⟨k, e', _, l2, _⟩ := h1 x hx
    rw [e'] at e
    simp only [Value.int.injEq, true_and] at e
    omega
  have hf : (Instr.findKey 5 (.int .u8 (n : Int)) es.toList).run Try.prog w = .ok none w := by
    rcases run_find (w := w) (es := es.toList) (fun x hx => by obtain ⟨k, e, _⟩ := h1 x hx; exact ⟨k, e⟩) n with ⟨hr, _⟩ | ⟨j, x, hx, _, e⟩
    · exact hr
    · exact absurd e (hne x hx)
  have hrun : (Instr.mapUpdate 60 (.map (some m)) (.int .u8 (n : Int)) (a.eval y)).run Try.prog w = .ok () { w with heap := w.heap.setIfInBounds m (.map (es.push ⟨.int .u8 (n : Int), a.eval y, c⟩) (c + 1)) } := by
    simp [Instr.mapUpdate, run_underlying Try.underlying60, MapKept.run_getObj_map he, run_check, hf, MapKept.run_setObj_map _ he, Result.andThen]
  unfold Oper.wp
  have hex : (execOp a.eval o).run Try.prog w = .ok .skip { w with heap := w.heap.setIfInBounds m (.map (es.push ⟨.int .u8 (n : Int), a.eval y, c⟩) (c + 1)) } := by
    have hkz : a.eval (.const (.int .u8 (n : Int))) = .int .u8 (n : Int) := rfl
    simp [execOp, ho, hx, hkz, hrun, Result.andThen]
  rw [hex, Oper.upon_skip]
  refine hK' _ _ (h _ ?_)
  have hother : ∀ g, g ≠ m → (w.heap.setIfInBounds m (.map (es.push ⟨.int .u8 (n : Int), a.eval y, c⟩) (c + 1)))[g]? = w.heap[g]? := (MapKept.heap_set he).2
  have hkp : KeepP w { w with heap := w.heap.setIfInBounds m (.map (es.push ⟨.int .u8 (n : Int), a.eval y, c⟩) (c + 1)) } := by
    intro g cs hgc
    exact (hother g (by rintro rfl; rw [he] at hgc; cases hgc)).trans hgc
  refine ⟨⟨hb.os, hb.tape, hb.output, by simpa using hb.size, fun k hk => (hother k (by omega)).trans (hb.block k hk)⟩, hm, _, _, (MapKept.heap_set he).1, ?_, ?_⟩
  · intro x hx
    simp only [Array.toList_push, List.mem_append, List.mem_singleton] at hx
    rcases hx with hx | rfl
    · obtain ⟨k, e, l1, l2, hf⟩ := h1 x hx
      exact ⟨k, e, l1, by omega, hf.keep hkp⟩
    · exact ⟨n, rfl, by omega, by omega, hv.keep hkp⟩
  · intro k l1 l2
    by_cases hk : k = n
    · rw [hk]
      exact ⟨⟨.int .u8 (n : Int), a.eval y, c⟩, by simp, rfl⟩
    · obtain ⟨x, hx, e⟩ := h2 k l1 (by omega)
      exact ⟨x, by simp [hx], e⟩
section
variable {b : Act} {w : World} {o : Oper}
theorem wpList_run {P : Program} {ops : Array Oper} {Q : Exit → Act → World → Prop} {rest : List Oper} {a : Act} {w' : World} {v : Value} (hg : o.guard = none) (h : (execOp a.eval o).run P w = .ok (.value v) w')
    (hk : wpList P ops Q rest (a.put o.dst v) w') : wpList P ops Q (o :: rest) a w :=
  wpList_plain hg fun K hK => by
    unfold Oper.wp
    rw [h, Oper.upon_value]
    exact hK _ _ hk
theorem exec_form {x : Operand} {wz : Value} {s : List UInt8} {v : Value} (ho : o.op = .build 58 #[(0, .const wz), (1, x)]) (hw : wz = .string (txt s)) {A : Option Addr} {n c : Nat} (h : b.eval x = v) (hv : v = .slice A n c) : (execOp b.eval o).run Try.prog w = .ok (.value (.agg #[.string (txt s), .slice A n c])) w := by
  subst hw hv
  unfold execOp
  simp only [ho, List.map_toArray, List.map_cons, List.map_nil, h]
  go_simp
end
theorem formV_new {w : World} {k : Nat} {A : Option Addr} {n : Nat} {s : List UInt8} {ps : List Nat} (hs : wordOf k = s) (hp : parts k = ps) (hn : ps.length = n) (hA : PartsAt w A ps) : FormV w k (.agg #[.string (txt s), .slice A n n]) := by
  subst hs hp hn
  exact ⟨A, _, rfl, Nat.le_refl _, hA⟩
theorem partsAt_new (w : World) (ps : List Nat) : PartsAt (w.alloc (.cells (pcs ps).toArray 87)) (some ⟨w.heap.size, 0, none⟩) ps := .inr ⟨_, rfl, heap_alloc_new _ _⟩
section
variable {b : Act} {o : Oper} {w : World}
theorem exec_makeMap {t : TypeId} (ho : o.op = .makeMap t none) : (execOp b.eval o).run Try.prog w = .ok (.value (.map (some w.heap.size))) (w.alloc (.map #[] 0)) := by
  unfold execOp
  simp only [ho]
  rfl
end
end Go.Proofs.Ytfhcpjnjemojgaa
