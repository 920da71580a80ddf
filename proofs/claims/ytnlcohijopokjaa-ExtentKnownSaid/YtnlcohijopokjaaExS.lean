/- The walk of the chapter's examples (works): they hold. Conditions: none. -/
import Derived.Test.YtnlcohijopokjaaExR
import Derived.Test.YtnlcohijopokjaaText
import Derived.Test.YtnlcohijopokjaaVars
import Derived.Lib.SmallJoins
namespace Go.Proofs.Ytnlcohijopokjaa
open Go.RowKit

section
variable {w w' : World} {X Y : Nat → Prop} {g F : Nat} {m : List Pt}
theorem FileAt.other (h : FileAt w X g m) (ht : Touch (fun k => k = F) w w') (hne : g ≠ F) (hX : X F) : FileAt w' X g m := by
  obtain ⟨v, hv, hf⟩ := h.v
  exact ⟨v, ht.heap hne hv, hf.keep (ht.mono fun b _ e => by rw [e]; exact hX)⟩
theorem FileAt.below (h : FileAt w X g m) (hb : Below w.heap.size w w') : FileAt w' X g m := by
  obtain ⟨v, hv, hf⟩ := h.v
  exact ⟨v, (hb.block g (Array.getElem?_eq_some_iff.1 hv).1).trans hv, hf.below hb⟩
theorem FileAt.mono (h : FileAt w X g m) (hx : ∀ b, b < w.heap.size → Y b → X b) : FileAt w Y g m := by
  obtain ⟨v, hv, hf⟩ := h.v
  exact ⟨v, hv, hf.mono hx⟩
theorem FileAt.lt (h : FileAt w X g m) : g < w.heap.size := by
  obtain ⟨v, hv, _⟩ := h.v
  exact (Array.getElem?_eq_some_iff.1 hv).1
theorem appAt {Ab : Option Addr} {cb B nl : Nat} {l : List UInt8} (h : FileAt w X F m) (hX : ∀ b, X b → b < w.heap.size) (hs : SmM (m ++ [(l, false)])) (hn : l.length = nl) (hB : B ≤ w.heap.size) (hb : RdB w B Ab l) :
    Calls Try.prog 17 #[.pointer (some ⟨F, 0, none⟩), .slice Ab nl cb] w fun e w' => e = .returned (.tuple #[]) ∧ Touch (fun k => k = F) w w' ∧ FileAt w' X F (appM m l) := by
  subst hn
  obtain ⟨v, hv, A, c, ps, rfl, hc, hp, rfl⟩ := h.v
  refine (app_any hv hc hs hp hB hb).mono ?_
  rintro e w' ⟨rfl, ht, v', hv', hf⟩
  exact ⟨rfl, ht, v', hv', hf.mono fun b _ hb => hX b hb⟩
theorem syncAt (h : FileAt w X F m) (hX : ∀ b, X b → b < w.heap.size) (hs : SmM m) :
    Calls Try.prog 13 #[.pointer (some ⟨F, 0, none⟩)] w fun e w' => e = .returned (.tuple #[]) ∧ Touch (fun k => k = F) w w' ∧ FileAt w' X F (syncM m) := by
  obtain ⟨v, hv, A, c, ps, rfl, hc, hp, rfl⟩ := h.v
  refine (sync_any hv hs hp).mono ?_
  rintro e w' ⟨rfl, ht, v', hv', hf⟩
  exact ⟨rfl, ht, v', hv', hf.mono fun b _ hb => hX b hb⟩
theorem failAt {Ak : Option Addr} {ck B nk : Nat} {keep : List Bool} (h : FileAt w X F m) (hX : ∀ b, X b → b < w.heap.size) (hs : SmM m) (hn : keep.length = nk) (hB : B ≤ w.heap.size) (hkr : RdK w B Ak keep) (hkc : nk ≤ ck) (hkl : nk ≤ 1000) :
    Calls Try.prog 15 #[.pointer (some ⟨F, 0, none⟩), .slice Ak nk ck] w fun e w' => e = .returned (.tuple #[]) ∧ Touch (fun k => k = F) w w' ∧ FileAt w' X F (failM m keep) := by
  subst hn
  obtain ⟨v, hv, A, c, ps, rfl, hc, hp, rfl⟩ := h.v
  refine (fail_any hv hs hp hB hkr hkc hkl).mono ?_
  rintro e w' ⟨rfl, ht, v', hv', hf⟩
  exact ⟨rfl, ht, v', hv', hf.mono fun b _ hb => hX b hb⟩
end
theorem ofNone (w : World) : Calls Try.prog 9 #[.slice none 0 0] w fun e w' => ∃ v, e = .returned (.agg #[v]) ∧ Below w.heap.size w w' ∧ FileV w' (XW w) v [] :=
  of_any (A := none) (c := 0) (B := 0) (rows := []) (by simp) (by simp) (by omega) ⟨Reads.none_, by simp⟩
theorem ofOne {W : World} {A : Option Addr} {n c B N : Nat} {l : List UInt8} (hN : W.heap.size = N) (hn : l.length = n) (hl : n ≤ 100000) (hB : B ≤ W.heap.size) (hr : RdB W B A l) :
    Calls Try.prog 9 #[.slice (some ⟨N, 0, none⟩) 1 1] (W.alloc (.cells #[.slice A n c] 26)) fun e w' => ∃ v, e = .returned (.agg #[v]) ∧ Below W.heap.size W w' ∧ FileV w' (XW W) v (ofM [l]) := by
  subst hN hn
  have hR := RdR.new W B [⟨A, c, l⟩] 26 hB (by intro r hr'; simp only [List.mem_singleton] at hr'; subst hr'; exact hr)
  refine (of_any (rows := [⟨A, c, l⟩]) (B := W.heap.size + 1) (by simp) (by intro r hr'; simp only [List.mem_singleton] at hr'; subst hr'; exact hl) (by simp) hR).mono ?_
  rintro e w' ⟨v, rfl, hb, hf⟩
  exact ⟨v, rfl, below_then (below_new _ _) hb (Nat.le_refl _), hf.mono fun b _ hb' => Nat.lt_of_lt_of_le hb' (below_new _ _).size⟩
theorem reads_marked (W : World) {xs : List Value} {l : List UInt8} (hx : xs = bs l) (fr : Nat × Nat) : RdB (W.alloc (.cells xs.toArray 5 fr)) (W.heap.size + 1) (some ⟨W.heap.size, 0, none⟩) l := by
  subst hx
  refine ⟨by rw [bs_len]; omega, fun _ => ⟨_, rfl, by simp, fun j u hu => ?_⟩⟩
  rw [lit_add, Nat.zero_add, cell_of_row (W.alloc (.cells (bs l).toArray 5 fr)) W.heap.size j (bs l).toArray 5 fr (heap_alloc_new W _)]
  simpa using hu
theorem lit2 (W : World) (x y : UInt8) {a b : Int} (ha : a = (x.toNat : Int)) (hb : b = (y.toNat : Int)) : RdB (W.alloc (.cells #[.int .u8 a, .int .u8 b] 5 (2, 3))) (W.heap.size + 1) (some ⟨W.heap.size, 0, none⟩) [x, y] := by
  subst ha hb
  exact reads_marked W (xs := [.int .u8 (x.toNat : Int), .int .u8 (y.toNat : Int)]) rfl (2, 3)
theorem lit2k (W : World) (x y : Bool) : RdK (W.alloc (.cells #[.bool x, .bool y] 4)) (W.heap.size + 1) (some ⟨W.heap.size, 0, none⟩) [x, y] := reads_new W 4 (kc [x, y])
theorem lit1k (W : World) (x : Bool) : RdK (W.alloc (.cells #[.bool x] 4)) (W.heap.size + 1) (some ⟨W.heap.size, 0, none⟩) [x] := reads_new W 4 (kc [x])
theorem smAB : SmM [([97, 98], true), ([99, 100], false)] := ⟨by decide, by decide⟩
theorem smABC : SmM [([97, 98], true), ([99, 100], false), ([101, 102], false)] := ⟨by decide, by decide⟩
def mAB : List Pt := [([97, 98], true)]
def mCD : List Pt := [([97, 98], true), ([99, 100], false)]
def mEF : List Pt := [([97, 98], true), ([99, 100], false), ([101, 102], false)]
theorem ofAB : ofM [[97, 98]] = mAB := by decide
theorem appCD : appM mAB [99, 100] = mCD := by decide
theorem appEF : appM mCD [101, 102] = mEF := by decide
theorem syEF : syncM mEF = [([97, 98], true), ([99, 100], true), ([101, 102], true)] := by decide
theorem smEF : SmM mEF := smABC
structure LpSt (w : World) (gl : Nat) (wr : World) (vs : List Value) (k : Nat) : Prop where
  len : vs.length = 4
  heap : wr.heap[gl]? = some (.cells vs.toArray 30 (0, 0))
  has : ∀ j, j < k → ∃ v, vs[j]? = some v ∧ FileV wr (fun b => b = gl) v mAB
  below : Below w.heap.size w wr
  low : w.heap.size ≤ gl
theorem LpSt.start {w wn : World} {gl : Nat} {a b c d : Value} (hg : wn.heap.size = gl) (hb : Below w.heap.size w wn) : LpSt w gl (wn.alloc (.cells #[a, b, c, d] 30)) [a, b, c, d] 0 := by
  subst hg
  exact ⟨rfl, heap_alloc_new _ _, fun j h => absurd h (by omega), hb.alloc hb.size _, hb.size⟩
theorem LpSt.next {w wr w2 : World} {gl k : Nat} {vs : List Value} {v : Value} (h : LpSt w gl wr vs k) (hk : k < 4) (hb : Below wr.heap.size wr w2) (hf : FileV w2 (XW wr) v mAB) : LpSt w gl (w2.setCell ⟨gl, k, none⟩ v) (vs.set k v) (k + 1) := by
  have hgl := (Array.getElem?_eq_some_iff.1 h.heap).1
  have ht := Touch.cell1 w2 gl k v
  refine ⟨by rw [List.length_set]; exact h.len, ?_, fun j hj => ?_, h.below.trans ((hb.mono h.below.size).trans (ht.below (Nat.le_trans h.below.size hb.size) fun b e => by rw [e]; exact h.low)), h.low⟩
  · rw [heap_setCell_same w2 gl k _ _ v ((hb.block gl hgl).trans h.heap), List.setIfInBounds_toArray]
  · by_cases hjk : j = k
    · subst hjk
      exact ⟨v, by rw [List.getElem?_set_self (by rw [h.len]; exact hk)], (hf.mono fun b _ e => by rw [e]; exact hgl).keep ht⟩
    · obtain ⟨u, hu, hfu⟩ := h.has j (by omega)
      exact ⟨u, by rw [List.getElem?_set_ne (Ne.symm hjk)]; exact hu, (hfu.below hb).keep ht⟩
theorem LpSt.cell {w wr w2 : World} {gl k : Nat} {vs : List Value} (h : LpSt w gl wr vs k) (hk : k < 4) (hb : Below wr.heap.size wr w2) : (∃ u, w2.cell? ⟨gl, k, none⟩ = some u) ∧ w2.frozen? ⟨gl, k, none⟩ = false := by
  have hgl := (Array.getElem?_eq_some_iff.1 h.heap).1
  have hh := (hb.block gl hgl).trans h.heap
  refine ⟨⟨vs[k]'(by rw [h.len]; exact hk), ?_⟩, by simp [World.frozen?, hh]⟩
  rw [cell_of_row w2 gl k _ _ _ hh, List.getElem?_toArray, List.getElem?_eq_getElem]
theorem FileAt.loadC {w : World} {X : Nat → Prop} {g : Nat} {m : List Pt} (h : FileAt w X g m) : ∃ A c n, w.cell? ⟨g, 0, none⟩ = some (.slice A n c) ∧ FileV w X (.slice A n c) m := by
  obtain ⟨v, hv, hf⟩ := h.v
  obtain ⟨A, c, ps, rfl, h1, h2, h3⟩ := hf
  exact ⟨A, c, ps.length, box_cell hv, A, c, ps, rfl, h1, h2, h3⟩

def FxF (gl : Nat) (v0 v1 v2 v3 : Value) : Nat → Value → World → Prop
  | 0, v, _ => v = .slice (some ⟨gl, 0, none⟩) 4 4
  | 1, v, _ => v = .pointer (some ⟨gl, 0, none⟩)
  | 2, v, _ => v = .agg #[v0]
  | 3, v, _ => v = .slice (some ⟨gl, 0, none⟩) 4 4
  | 4, v, _ => v = .pointer (some ⟨gl, 1, none⟩)
  | 5, v, _ => v = .agg #[v1]
  | 6, v, _ => v = .slice (some ⟨gl, 0, none⟩) 4 4
  | 7, v, _ => v = .pointer (some ⟨gl, 2, none⟩)
  | 8, v, _ => v = .agg #[v2]
  | 9, v, _ => v = .slice (some ⟨gl, 0, none⟩) 4 4
  | 10, v, _ => v = .pointer (some ⟨gl, 3, none⟩)
  | 11, v, _ => v = .agg #[v3]
  | _, _, _ => True
theorem FxF.keep {gl : Nat} {v0 v1 v2 v3 : Value} (j : Nat) (u : Value) (w w' : World) (h : FxF gl v0 v1 v2 v3 j u w) : FxF gl v0 v1 v2 v3 j u w' :=
  match j, h with
  | 0, h => h
  | 1, h => h
  | 2, h => h
  | 3, h => h
  | 4, h => h
  | 5, h => h
  | 6, h => h
  | 7, h => h
  | 8, h => h
  | 9, h => h
  | 10, h => h
  | 11, h => h
  | _ + 12, h => h
section
variable {b : Act} {w : World} {o : Oper}
theorem exec_atFile {x : Operand} {gl k : Nat} {kv : Value} (ho : o.op = .indexAddr 55 x (.const kv)) (hkv : kv = .int .i64 (k : Int)) (h : b.eval x = .slice (some ⟨gl, 0, none⟩) 4 4) (hk : k < 4) : (execOp b.eval o).run Try.prog w = .ok (.value (.pointer (some ⟨gl, k, none⟩))) w := by
  have hk' : (k : Int) < 4 := by omega
  subst hkv
  unfold execOp
  simp only [ho, h]
  go_simp
theorem exec_allocF (ho : o.op = .alloc 30) : (execOp b.eval o).run Try.prog w = .ok (.value (.pointer (some ⟨w.heap.size, 0, none⟩))) (w.alloc (.cells #[.slice none 0 0] 30)) := by
  unfold execOp
  simp only [ho]
  go_simp
end
theorem FileV.high {w : World} {X : Nat → Prop} {v : Value} {m : List Pt} (h : FileV w X v m) : FileV w (XH w) v m := by
  obtain ⟨A, c, ps, e, hc, hp, hs⟩ := h
  exact ⟨A, c, ps, e, hc, hp.high, hs⟩
def X4 (a b c d : Nat) : Nat → Prop := fun x => x = a ∨ x = b ∨ x = c ∨ x = d
theorem four_file {wo wx : World} {v : Value} {gl a b c d g : Nat} (h : FileV wo (fun x => x = gl) v mAB) (hb : Below wo.heap.size wo wx) (ha : wo.heap.size ≤ a) (hbb : wo.heap.size ≤ b) (hc : wo.heap.size ≤ c) (hd : wo.heap.size ≤ d) (hg : wx.heap[g]? = some (.cells #[v] 30 (0, 0))) : FileAt wx (X4 a b c d) g mAB :=
  ⟨v, hg, (FileV.below h.high hb).mono fun x _ hx4 => by
    show wo.heap.size ≤ x
    rcases hx4 with e | e | e | e <;> rw [e] <;> assumption⟩


theorem one_ok {w : World} {X : Nat → Prop} {v : Value} {m : List Pt} (h : FileV w X v m) : (#[v] : Array Value).all (·.oneCell') = true := by
  obtain ⟨A, c, ps, e, _⟩ := h
  subst e
  simp [Value.oneCell']
section
variable {x0 x1 x2 x3 : Array Value}
theorem four_dif {k D : Nat} (hk : k < 12) (hD : 42 < D) : ∀ e ∈ ([⟨12, 16, 4, x0⟩, ⟨13, 17, 5, x1⟩, ⟨14, 18, 6, x2⟩, ⟨15, 19, 7, x3⟩] : List NewVar), k ≠ e.i ∧ k ≠ e.s ∧ D ≠ e.d := by
  intro e he
  simp only [List.mem_cons, List.not_mem_nil, or_false] at he
  rcases he with rfl | rfl | rfl | rfl <;> (refine ⟨?_, ?_, ?_⟩ <;> dsimp only <;> omega)
theorem four_keys : Keys ([⟨12, 16, 4, x0⟩, ⟨13, 17, 5, x1⟩, ⟨14, 18, 6, x2⟩, ⟨15, 19, 7, x3⟩] : List NewVar) := by
  constructor
  · intro e he e' he' h
    simp only [List.mem_cons, List.not_mem_nil, or_false] at he he'
    rcases he with rfl | rfl | rfl | rfl <;> rcases he' with rfl | rfl | rfl | rfl <;> first | rfl | (exfalso; dsimp only at h; omega)
  · intro e he e' he'
    simp only [List.mem_cons, List.not_mem_nil, or_false] at he he'
    rcases he with rfl | rfl | rfl | rfl <;> rcases he' with rfl | rfl | rfl | rfl <;> (dsimp only; omega)
end
structure Fo (w wx : World) (a b c d : Nat) (ma mb mc md : List Pt) : Prop where
  below : Below w.heap.size w wx
  la : w.heap.size ≤ a
  lb : w.heap.size ≤ b
  lc : w.heap.size ≤ c
  ld : w.heap.size ≤ d
  ne : a ≠ b ∧ a ≠ c ∧ a ≠ d ∧ b ≠ c ∧ b ≠ d ∧ c ≠ d
  fa : FileAt wx (X4 a b c d) a ma
  fb : FileAt wx (X4 a b c d) b mb
  fc : FileAt wx (X4 a b c d) c mc
  fd : FileAt wx (X4 a b c d) d md
theorem below_keep {w w' : World} {X : Nat → Prop} {g : Nat} {m : List Pt} (h : FileAt w X g m) (hb : Below w.heap.size w w') : FileAt w' X g m := h.below hb
section
variable {w wx w2 : World} {a b c d : Nat} {ma mb mc md m' : List Pt}
theorem Fo.hX (h : Fo w wx a b c d ma mb mc md) (x : Nat) (hx : X4 a b c d x) : x < wx.heap.size := by
  rcases hx with e | e | e | e <;> rw [e]
  · exact h.fa.lt
  · exact h.fb.lt
  · exact h.fc.lt
  · exact h.fd.lt
theorem Fo.then_ (h : Fo w wx a b c d ma mb mc md) (hb : Below wx.heap.size wx w2) : Fo w w2 a b c d ma mb mc md :=
  ⟨h.below.trans (hb.mono h.below.size), h.la, h.lb, h.lc, h.ld, h.ne, h.fa.below hb, h.fb.below hb, h.fc.below hb, h.fd.below hb⟩
theorem Fo.ta (h : Fo w wx a b c d ma mb mc md) (ht : Touch (fun k => k = a) wx w2) (hf : FileAt w2 (X4 a b c d) a m') : Fo w w2 a b c d m' mb mc md :=
  ⟨h.below.trans (ht.below h.below.size fun x e => by rw [e]; exact h.la), h.la, h.lb, h.lc, h.ld, h.ne, hf, h.fb.other ht ((h.ne.1).symm) (Or.inl rfl), h.fc.other ht ((h.ne.2.1).symm) (Or.inl rfl), h.fd.other ht ((h.ne.2.2.1).symm) (Or.inl rfl)⟩
theorem Fo.appa {p q : Int} (h : Fo w wx a b c d ma mb mc md) (x y : UInt8) (hp : p = (x.toNat : Int)) (hq : q = (y.toNat : Int)) (hs : SmM (ma ++ [([x, y], false)])) (he : appM ma [x, y] = m') :
    Calls Try.prog 17 #[.pointer (some ⟨a, 0, none⟩), .slice (some ⟨wx.heap.size, 0, none⟩) 2 2] (wx.alloc (.cells #[.int .u8 p, .int .u8 q] 5 (2, 3))) fun e w' => e = .returned (.tuple #[]) ∧ Fo w w' a b c d m' mb mc md := by
  have h2 := h.then_ (below_new wx (.cells #[.int .u8 p, .int .u8 q] 5 (2, 3)))
  subst he
  refine (appAt h2.fa h2.hX hs (nl := 2) rfl (B := wx.heap.size + 1) (by simp) (lit2 wx x y hp hq)).mono ?_
  rintro e w' ⟨e1, ht, hf⟩
  exact ⟨e1, h2.ta ht hf⟩
theorem Fo.synca (h : Fo w wx a b c d ma mb mc md) (hs : SmM ma) (he : syncM ma = m') :
    Calls Try.prog 13 #[.pointer (some ⟨a, 0, none⟩)] wx fun e w' => e = .returned (.tuple #[]) ∧ Fo w w' a b c d m' mb mc md := by
  subst he
  refine (syncAt h.fa h.hX hs).mono ?_
  rintro e w' ⟨e1, ht, hf⟩
  exact ⟨e1, h.ta ht hf⟩
theorem Fo.faila {Ak : Option Addr} {ck B nk : Nat} {keep : List Bool} (h : Fo w wx a b c d ma mb mc md) (hs : SmM ma) (hn : keep.length = nk) (hB : B ≤ wx.heap.size) (hkr : RdK wx B Ak keep) (hkc : nk ≤ ck) (hkl : nk ≤ 1000) (he : failM ma keep = m') :
    Calls Try.prog 15 #[.pointer (some ⟨a, 0, none⟩), .slice Ak nk ck] wx fun e w' => e = .returned (.tuple #[]) ∧ Fo w w' a b c d m' mb mc md := by
  subst he
  refine (failAt h.fa h.hX hs hn hB hkr hkc hkl).mono ?_
  rintro e w' ⟨e1, ht, hf⟩
  exact ⟨e1, h.ta ht hf⟩
theorem Fo.tb (h : Fo w wx a b c d ma mb mc md) (ht : Touch (fun k => k = b) wx w2) (hf : FileAt w2 (X4 a b c d) b m') : Fo w w2 a b c d ma m' mc md :=
  ⟨h.below.trans (ht.below h.below.size fun x e => by rw [e]; exact h.lb), h.la, h.lb, h.lc, h.ld, h.ne, h.fa.other ht (h.ne.1) (Or.inr (Or.inl rfl)), hf, h.fc.other ht ((h.ne.2.2.2.1).symm) (Or.inr (Or.inl rfl)), h.fd.other ht ((h.ne.2.2.2.2.1).symm) (Or.inr (Or.inl rfl))⟩
theorem Fo.appb {p q : Int} (h : Fo w wx a b c d ma mb mc md) (x y : UInt8) (hp : p = (x.toNat : Int)) (hq : q = (y.toNat : Int)) (hs : SmM (mb ++ [([x, y], false)])) (he : appM mb [x, y] = m') :
    Calls Try.prog 17 #[.pointer (some ⟨b, 0, none⟩), .slice (some ⟨wx.heap.size, 0, none⟩) 2 2] (wx.alloc (.cells #[.int .u8 p, .int .u8 q] 5 (2, 3))) fun e w' => e = .returned (.tuple #[]) ∧ Fo w w' a b c d ma m' mc md := by
  have h2 := h.then_ (below_new wx (.cells #[.int .u8 p, .int .u8 q] 5 (2, 3)))
  subst he
  refine (appAt h2.fb h2.hX hs (nl := 2) rfl (B := wx.heap.size + 1) (by simp) (lit2 wx x y hp hq)).mono ?_
  rintro e w' ⟨e1, ht, hf⟩
  exact ⟨e1, h2.tb ht hf⟩
theorem Fo.syncb (h : Fo w wx a b c d ma mb mc md) (hs : SmM mb) (he : syncM mb = m') :
    Calls Try.prog 13 #[.pointer (some ⟨b, 0, none⟩)] wx fun e w' => e = .returned (.tuple #[]) ∧ Fo w w' a b c d ma m' mc md := by
  subst he
  refine (syncAt h.fb h.hX hs).mono ?_
  rintro e w' ⟨e1, ht, hf⟩
  exact ⟨e1, h.tb ht hf⟩
theorem Fo.failb {Ak : Option Addr} {ck B nk : Nat} {keep : List Bool} (h : Fo w wx a b c d ma mb mc md) (hs : SmM mb) (hn : keep.length = nk) (hB : B ≤ wx.heap.size) (hkr : RdK wx B Ak keep) (hkc : nk ≤ ck) (hkl : nk ≤ 1000) (he : failM mb keep = m') :
    Calls Try.prog 15 #[.pointer (some ⟨b, 0, none⟩), .slice Ak nk ck] wx fun e w' => e = .returned (.tuple #[]) ∧ Fo w w' a b c d ma m' mc md := by
  subst he
  refine (failAt h.fb h.hX hs hn hB hkr hkc hkl).mono ?_
  rintro e w' ⟨e1, ht, hf⟩
  exact ⟨e1, h.tb ht hf⟩
theorem Fo.tc (h : Fo w wx a b c d ma mb mc md) (ht : Touch (fun k => k = c) wx w2) (hf : FileAt w2 (X4 a b c d) c m') : Fo w w2 a b c d ma mb m' md :=
  ⟨h.below.trans (ht.below h.below.size fun x e => by rw [e]; exact h.lc), h.la, h.lb, h.lc, h.ld, h.ne, h.fa.other ht (h.ne.2.1) (Or.inr (Or.inr (Or.inl rfl))), h.fb.other ht (h.ne.2.2.2.1) (Or.inr (Or.inr (Or.inl rfl))), hf, h.fd.other ht ((h.ne.2.2.2.2.2).symm) (Or.inr (Or.inr (Or.inl rfl)))⟩
theorem Fo.appc {p q : Int} (h : Fo w wx a b c d ma mb mc md) (x y : UInt8) (hp : p = (x.toNat : Int)) (hq : q = (y.toNat : Int)) (hs : SmM (mc ++ [([x, y], false)])) (he : appM mc [x, y] = m') :
    Calls Try.prog 17 #[.pointer (some ⟨c, 0, none⟩), .slice (some ⟨wx.heap.size, 0, none⟩) 2 2] (wx.alloc (.cells #[.int .u8 p, .int .u8 q] 5 (2, 3))) fun e w' => e = .returned (.tuple #[]) ∧ Fo w w' a b c d ma mb m' md := by
  have h2 := h.then_ (below_new wx (.cells #[.int .u8 p, .int .u8 q] 5 (2, 3)))
  subst he
  refine (appAt h2.fc h2.hX hs (nl := 2) rfl (B := wx.heap.size + 1) (by simp) (lit2 wx x y hp hq)).mono ?_
  rintro e w' ⟨e1, ht, hf⟩
  exact ⟨e1, h2.tc ht hf⟩
theorem Fo.syncc (h : Fo w wx a b c d ma mb mc md) (hs : SmM mc) (he : syncM mc = m') :
    Calls Try.prog 13 #[.pointer (some ⟨c, 0, none⟩)] wx fun e w' => e = .returned (.tuple #[]) ∧ Fo w w' a b c d ma mb m' md := by
  subst he
  refine (syncAt h.fc h.hX hs).mono ?_
  rintro e w' ⟨e1, ht, hf⟩
  exact ⟨e1, h.tc ht hf⟩
theorem Fo.failc {Ak : Option Addr} {ck B nk : Nat} {keep : List Bool} (h : Fo w wx a b c d ma mb mc md) (hs : SmM mc) (hn : keep.length = nk) (hB : B ≤ wx.heap.size) (hkr : RdK wx B Ak keep) (hkc : nk ≤ ck) (hkl : nk ≤ 1000) (he : failM mc keep = m') :
    Calls Try.prog 15 #[.pointer (some ⟨c, 0, none⟩), .slice Ak nk ck] wx fun e w' => e = .returned (.tuple #[]) ∧ Fo w w' a b c d ma mb m' md := by
  subst he
  refine (failAt h.fc h.hX hs hn hB hkr hkc hkl).mono ?_
  rintro e w' ⟨e1, ht, hf⟩
  exact ⟨e1, h.tc ht hf⟩
theorem Fo.td (h : Fo w wx a b c d ma mb mc md) (ht : Touch (fun k => k = d) wx w2) (hf : FileAt w2 (X4 a b c d) d m') : Fo w w2 a b c d ma mb mc m' :=
  ⟨h.below.trans (ht.below h.below.size fun x e => by rw [e]; exact h.ld), h.la, h.lb, h.lc, h.ld, h.ne, h.fa.other ht (h.ne.2.2.1) (Or.inr (Or.inr (Or.inr rfl))), h.fb.other ht (h.ne.2.2.2.2.1) (Or.inr (Or.inr (Or.inr rfl))), h.fc.other ht (h.ne.2.2.2.2.2) (Or.inr (Or.inr (Or.inr rfl))), hf⟩
theorem Fo.appd {p q : Int} (h : Fo w wx a b c d ma mb mc md) (x y : UInt8) (hp : p = (x.toNat : Int)) (hq : q = (y.toNat : Int)) (hs : SmM (md ++ [([x, y], false)])) (he : appM md [x, y] = m') :
    Calls Try.prog 17 #[.pointer (some ⟨d, 0, none⟩), .slice (some ⟨wx.heap.size, 0, none⟩) 2 2] (wx.alloc (.cells #[.int .u8 p, .int .u8 q] 5 (2, 3))) fun e w' => e = .returned (.tuple #[]) ∧ Fo w w' a b c d ma mb mc m' := by
  have h2 := h.then_ (below_new wx (.cells #[.int .u8 p, .int .u8 q] 5 (2, 3)))
  subst he
  refine (appAt h2.fd h2.hX hs (nl := 2) rfl (B := wx.heap.size + 1) (by simp) (lit2 wx x y hp hq)).mono ?_
  rintro e w' ⟨e1, ht, hf⟩
  exact ⟨e1, h2.td ht hf⟩
theorem Fo.syncd (h : Fo w wx a b c d ma mb mc md) (hs : SmM md) (he : syncM md = m') :
    Calls Try.prog 13 #[.pointer (some ⟨d, 0, none⟩)] wx fun e w' => e = .returned (.tuple #[]) ∧ Fo w w' a b c d ma mb mc m' := by
  subst he
  refine (syncAt h.fd h.hX hs).mono ?_
  rintro e w' ⟨e1, ht, hf⟩
  exact ⟨e1, h.td ht hf⟩
theorem Fo.faild {Ak : Option Addr} {ck B nk : Nat} {keep : List Bool} (h : Fo w wx a b c d ma mb mc md) (hs : SmM md) (hn : keep.length = nk) (hB : B ≤ wx.heap.size) (hkr : RdK wx B Ak keep) (hkc : nk ≤ ck) (hkl : nk ≤ 1000) (he : failM md keep = m') :
    Calls Try.prog 15 #[.pointer (some ⟨d, 0, none⟩), .slice Ak nk ck] wx fun e w' => e = .returned (.tuple #[]) ∧ Fo w w' a b c d ma mb mc m' := by
  subst he
  refine (failAt h.fd h.hX hs hn hB hkr hkc hkl).mono ?_
  rintro e w' ⟨e1, ht, hf⟩
  exact ⟨e1, h.td ht hf⟩
end
def mFA : List Pt := [([97, 98], true), ([0, 0], true), ([101, 102], true)]
def mSD : List Pt := [([97, 98], true), ([99, 100], true), ([101, 102], true)]
theorem failA : failM mEF [false, true] = mFA := by decide
theorem failB : failM mEF [true] = [([97, 98], true), ([99, 100], true)] := by decide
theorem failC : failM mEF [] = [([97, 98], true)] := by decide
theorem failD : failM mSD [] = mSD := by decide
theorem syncD : syncM mEF = mSD := by decide
theorem smFA : SmM mFA := ⟨by decide, by decide⟩
theorem smSD : SmM mSD := ⟨by decide, by decide⟩
theorem smB : SmM [([97, 98], true), ([99, 100], true)] := ⟨by decide, by decide⟩
theorem smC : SmM [([97, 98], true)] := ⟨by decide, by decide⟩

set_option maxHeartbeats 8000000 in
set_option maxRecDepth 100000 in
theorem works7a_any (w : World) (Q : Ending → World → Prop) (hQ : ∀ e w', e = .returned (.bool true) ∧ Below w.heap.size w w' → Q e w') : Calls Try.prog 7 #[] w Q := by
  have hL := lit2 w 97 98 (a := 97) (b := 98) rfl rfl
  have kc0 := fun (C : Array Value) (n c : Nat) => Lib.run_convert_bytes_const (P := Try.prog) w 26 5 C n c Try.underlying26 Try.underlying5
  have Hof := Lib.hid (ofOne (c := 2) (n := 2) (N := w.heap.size + 1) (by simp) rfl (by omega) (by simp) hL)
  have HQ := Lib.hid hQ
  clear hQ
  go_enter Try.func7, Try.ntmps7
  go_upto_region 2 with (go_at_call 9; refine Hof.out.mono ?_; rintro e w1 ⟨v1, rfl, hb1, hf1⟩; obtain ⟨A1, c1, p1, rfl, _, _, _⟩ := id hf1; have Hb1 := Lib.hid hb1; have Hf1 := Lib.hid hf1; clear hb1 hf1)
  clear kc0
  obtain ⟨g, hg⟩ : ∃ g, Hid (w1.heap.size = g) := ⟨_, rfl⟩
  obtain ⟨W1, hW1⟩ : ∃ W1, Hid (w1.alloc (.cells #[.slice A1 p1.length c1] 30) = W1) := ⟨_, rfl⟩
  have hF1 : Hid (FileAt W1 (fun b => b = g) g mAB) := by
    rw [← hW1.out, ← hg.out]
    refine ⟨_, heap_alloc_new _ _, ?_⟩
    have := Hf1.out
    rw [ofAB] at this
    exact (FileV.below (this.mono fun b hb e => by rw [e] at hb; omega) (below_new _ _))
  have hB1 : Hid (Below w.heap.size w W1) := by rw [← hW1.out]; exact (((below_new _ _).trans (Hb1.out.mono (by simp)))).alloc (Nat.le_trans (by simp) Hb1.out.size) _
  rw [hW1.out, hg.out]
  have HX_W1 : Hid (∀ b, (fun b => b = g) b → b < W1.heap.size) := fun b hb => by rw [hb]; exact hF1.out.lt
  have hlow_g : Hid (w.heap.size ≤ g) := by rw [← hg.out]; exact Nat.le_trans (by simp) Hb1.out.size
  have kc := fun (C : Array Value) (n c : Nat) => Lib.run_convert_bytes_const (P := Try.prog) W1 26 5 C n c Try.underlying26 Try.underlying5
  have hcall := Lib.hid (appAt (cb := 2) (nl := 2) (hF1.out.below (below_new _ (.cells #[.int .u8 99, .int .u8 100] 5 (2, 3)))) (fun b hb => Nat.lt_of_lt_of_le (HX_W1.out b hb) (below_new _ _).size) smAB rfl (by simp) (lit2 W1 99 100 rfl rfl))
  rw [appCD] at hcall
  go_upto_region 3 with
    (go_at_call 17
     refine hcall.out.mono ?_
     rintro e w2 ⟨rfl, ht, hf⟩
     have hF2 := Lib.hid hf
     have hB2 : Hid (Below w.heap.size w w2) := ((hB1.out.alloc hB1.out.size _).trans (ht.below (Nat.le_trans hB1.out.size (below_new _ _).size) (fun b hb => by rw [hb]; exact hlow_g.out)))
     have HX_w2 : Hid (∀ b, (fun b => b = g) b → b < w2.heap.size) := fun b hb => Nat.lt_of_lt_of_le (HX_W1.out b hb) (Nat.le_trans (below_new _ _).size ht.size)
     clear ht hf)
  clear kc hcall
  have kc := fun (C : Array Value) (n c : Nat) => Lib.run_convert_bytes_const (P := Try.prog) w2 26 5 C n c Try.underlying26 Try.underlying5
  have hcall := Lib.hid (appAt (cb := 2) (nl := 2) (hF2.out.below (below_new _ (.cells #[.int .u8 101, .int .u8 102] 5 (2, 3)))) (fun b hb => Nat.lt_of_lt_of_le (HX_w2.out b hb) (below_new _ _).size) smABC rfl (by simp) (lit2 w2 101 102 rfl rfl))
  rw [appEF] at hcall
  go_upto_region 4 with
    (go_at_call 17
     refine hcall.out.mono ?_
     rintro e w3 ⟨rfl, ht, hf⟩
     have hF3 := Lib.hid hf
     have hB3 : Hid (Below w.heap.size w w3) := ((hB2.out.alloc hB2.out.size _).trans (ht.below (Nat.le_trans hB2.out.size (below_new _ _).size) (fun b hb => by rw [hb]; exact hlow_g.out)))
     have HX_w3 : Hid (∀ b, (fun b => b = g) b → b < w3.heap.size) := fun b hb => Nat.lt_of_lt_of_le (HX_w2.out b hb) (Nat.le_trans (below_new _ _).size ht.size)
     clear ht hf)
  clear kc hcall
  obtain ⟨A4, c4, n4, hcell, hfv⟩ := hF3.out.loadC
  have hby := Lib.hid (bytesX (nm := 6) smEF rfl rfl hfv)
  have Hfv := Lib.hid hfv
  have Hacc := hB3
  clear hfv
  go_upto_region 7 with (first
    | (go_at_call 21
       refine hby.out.mono ?_
       rintro e wn ⟨u, rfl, hb, A5, c5, rfl, hr⟩
       have hcv : (convert 26 9 (.slice A5 6 c5)).run Try.prog wn = .ok (.string ⟨#[97, 98, 99, 100, 101, 102]⟩) wn := run_text_any (l := contM mEF) hr c5
       have hcell2 := (hb.cell (p := ⟨g, 0, none⟩) hF3.out.lt).trans hcell
       have hvo := Lib.hid (volX (vm := 2) smEF rfl (Hfv.out.below hb))
       replace Hacc := Lib.hid (Hacc.out.trans (hb.mono Hacc.out.size))
       clear hb hr)
    | (go_at_call 22
       refine hvo.out.mono ?_
       rintro e wn2 ⟨u, rfl, hb, rfl⟩
       replace Hacc := Lib.hid (Hacc.out.trans (hb.mono Hacc.out.size))
       clear hb hcv hcell hcell2)
    | (go_at_call 9
       have hchk := H5c.out
       clear hchk
       refine (ofNone _).mono ?_
       rintro e wn3 ⟨v, rfl, hb, hf⟩
       obtain ⟨A5d, c5d, p5d, rfl, h5d, _, _⟩ := id hf
       have H5d := Lib.hid h5d
       replace Hacc := Lib.hid (Hacc.out.trans (hb.mono Hacc.out.size))
       clear hb hf h5d)
    | (go_at_call 9
       have hchk := H5b.out
       clear hchk
       refine (ofNone _).mono ?_
       rintro e wn3 ⟨v, rfl, hb, hf⟩
       obtain ⟨A5c, c5c, p5c, rfl, h5c, _, _⟩ := id hf
       have H5c := Lib.hid h5c
       replace Hacc := Lib.hid (Hacc.out.trans (hb.mono Hacc.out.size))
       clear hb hf h5c)
    | (go_at_call 9
       have hchk := H5a.out
       clear hchk
       refine (ofNone _).mono ?_
       rintro e wn3 ⟨v, rfl, hb, hf⟩
       obtain ⟨A5b, c5b, p5b, rfl, h5b, _, _⟩ := id hf
       have H5b := Lib.hid h5b
       replace Hacc := Lib.hid (Hacc.out.trans (hb.mono Hacc.out.size))
       clear hb hf h5b)
    | (go_at_call 9
       refine (ofNone _).mono ?_
       rintro e wn3 ⟨v, rfl, hb, hf⟩
       obtain ⟨A5a, c5a, p5a, rfl, h5a, _, _⟩ := id hf
       have H5a := Lib.hid h5a
       replace Hacc := Lib.hid (Hacc.out.trans (hb.mono Hacc.out.size))
       clear hb hf h5a))
  obtain ⟨gl, hgl⟩ : ∃ g, Hid (wn3.heap.size = g) := ⟨_, rfl⟩
  have hlp : Hid (LpSt w gl (wn3.alloc (.cells #[.slice A5a p5a.length c5a, .slice A5b p5b.length c5b, .slice A5c p5c.length c5c, .slice A5d p5d.length c5d] 30)) _ 0) := LpSt.start hgl.out Hacc.out
  generalize hW5e : wn3.alloc (.cells #[.slice A5a p5a.length c5a, .slice A5b p5b.length c5b, .slice A5c p5c.length c5c, .slice A5d p5d.length c5d] 30) = W5 at hlp ⊢
  rw [hgl.out]
  have Hlp := Lib.hid hlp.out
  clear hW5e hlp
  go_wp2
  go_loopw [3] (fun i wr => ∃ (k : Nat) (vs : List Value), k ≤ 4 ∧ i = .int .i64 (k : Int) ∧ Hid (LpSt w gl wr vs k)) (fun i _ => 4 - (intOf i).toNat)
  case atStart => exact ⟨0, _, by omega, rfl, Hlp⟩
  case round =>
    clear Hlp
    obtain ⟨k, vs, hk, rfl, hst⟩ := hrel
    by_cases hlt : k < 4
    · have kc := fun (C : Array Value) (n c : Nat) => Lib.run_convert_bytes_const (P := Try.prog) wr 26 5 C n c Try.underlying26 Try.underlying5
      have Hof := Lib.hid (ofOne (c := 2) (n := 2) (N := wr.heap.size + 1) (by simp) rfl (by omega) (by simp) (lit2 wr 97 98 rfl rfl))
      have hkI : (k : Int) < 4 := by omega
      go_upto_region 9 with
        (go_at_call 9
         refine Hof.out.mono ?_
         rintro e w6 ⟨v, rfl, hb, hf⟩
         obtain ⟨A6, c6, p6, rfl, _, _, _⟩ := id hf
         rw [ofAB] at hf
         have hb' : Below wr.heap.size wr w6 := below_then (below_new _ _) hb (Nat.le_refl _)
         obtain ⟨⟨u, hu⟩, hz⟩ := hst.out.cell hlt hb'
         have Hst' := Lib.hid (hst.out.next hlt hb' (hf.mono fun b _ hb => Nat.lt_of_lt_of_le hb (below_new _ _).size))
         clear hb hf hb')
      clear kc
      go_wp2
      go_roundw
      case rel => exact ⟨k + 1, _, by omega, by go_num, Hst'⟩
      case measure => simp [intOf]; omega
    · obtain rfl : k = 4 := by omega
      obtain ⟨v0, v1, v2, v3, rfl⟩ : ∃ a b c d, vs = [a, b, c, d] := by
        have := hst.out.len
        match vs, this with
        | [a, b, c, d], _ => exact ⟨a, b, c, d, rfl⟩
      obtain ⟨u0, e0, hf0⟩ := hst.out.has 0 (by omega)
      obtain ⟨u1, e1, hf1⟩ := hst.out.has 1 (by omega)
      obtain ⟨u2, e2, hf2⟩ := hst.out.has 2 (by omega)
      obtain ⟨u3, e3, hf3⟩ := hst.out.has 3 (by omega)
      simp only [List.getElem?_cons_zero, List.getElem?_cons_succ, Option.some.injEq] at e0 e1 e2 e3
      subst e0 e1 e2 e3
      have hgll : Hid (gl < wr.heap.size) := (Array.getElem?_eq_some_iff.1 hst.out.heap).1
      have cl0 : Hid (wr.cell? ⟨gl, 0, none⟩ = some v0) := by show _ = _; rw [cell_of_row wr gl 0 _ _ _ hst.out.heap]; rfl
      have hone0 : Hid ((#[v0] : Array Value).all (·.oneCell') = true) := one_ok hf0
      have Hf0 := Lib.hid hf0
      have cl1 : Hid (wr.cell? ⟨gl, 1, none⟩ = some v1) := by show _ = _; rw [cell_of_row wr gl 1 _ _ _ hst.out.heap]; rfl
      have hone1 : Hid ((#[v1] : Array Value).all (·.oneCell') = true) := one_ok hf1
      have Hf1 := Lib.hid hf1
      have cl2 : Hid (wr.cell? ⟨gl, 2, none⟩ = some v2) := by show _ = _; rw [cell_of_row wr gl 2 _ _ _ hst.out.heap]; rfl
      have hone2 : Hid ((#[v2] : Array Value).all (·.oneCell') = true) := one_ok hf2
      have Hf2 := Lib.hid hf2
      have cl3 : Hid (wr.cell? ⟨gl, 3, none⟩ = some v3) := by show _ = _; rw [cell_of_row wr gl 3 _ _ _ hst.out.heap]; rfl
      have hone3 : Hid ((#[v3] : Array Value).all (·.oneCell') = true) := one_ok hf3
      have Hf3 := Lib.hid hf3
      have hD0 : Hid (∀ e ∈ ([⟨12, 16, 4, #[v0]⟩, ⟨13, 17, 5, #[v1]⟩, ⟨14, 18, 6, #[v2]⟩, ⟨15, 19, 7, #[v3]⟩] : List NewVar), 0 ≠ e.i ∧ 0 ≠ e.s ∧ 43 ≠ e.d) := four_dif (by decide) (by decide)
      have hD1 : Hid (∀ e ∈ ([⟨12, 16, 4, #[v0]⟩, ⟨13, 17, 5, #[v1]⟩, ⟨14, 18, 6, #[v2]⟩, ⟨15, 19, 7, #[v3]⟩] : List NewVar), 1 ≠ e.i ∧ 1 ≠ e.s ∧ 44 ≠ e.d) := four_dif (by decide) (by decide)
      have hD2 : Hid (∀ e ∈ ([⟨12, 16, 4, #[v0]⟩, ⟨13, 17, 5, #[v1]⟩, ⟨14, 18, 6, #[v2]⟩, ⟨15, 19, 7, #[v3]⟩] : List NewVar), 2 ≠ e.i ∧ 2 ≠ e.s ∧ 45 ≠ e.d) := four_dif (by decide) (by decide)
      have hD3 : Hid (∀ e ∈ ([⟨12, 16, 4, #[v0]⟩, ⟨13, 17, 5, #[v1]⟩, ⟨14, 18, 6, #[v2]⟩, ⟨15, 19, 7, #[v3]⟩] : List NewVar), 3 ≠ e.i ∧ 3 ≠ e.s ∧ 46 ≠ e.d) := four_dif (by decide) (by decide)
      have hD4 : Hid (∀ e ∈ ([⟨12, 16, 4, #[v0]⟩, ⟨13, 17, 5, #[v1]⟩, ⟨14, 18, 6, #[v2]⟩, ⟨15, 19, 7, #[v3]⟩] : List NewVar), 4 ≠ e.i ∧ 4 ≠ e.s ∧ 47 ≠ e.d) := four_dif (by decide) (by decide)
      have hD5 : Hid (∀ e ∈ ([⟨12, 16, 4, #[v0]⟩, ⟨13, 17, 5, #[v1]⟩, ⟨14, 18, 6, #[v2]⟩, ⟨15, 19, 7, #[v3]⟩] : List NewVar), 5 ≠ e.i ∧ 5 ≠ e.s ∧ 48 ≠ e.d) := four_dif (by decide) (by decide)
      have hD6 : Hid (∀ e ∈ ([⟨12, 16, 4, #[v0]⟩, ⟨13, 17, 5, #[v1]⟩, ⟨14, 18, 6, #[v2]⟩, ⟨15, 19, 7, #[v3]⟩] : List NewVar), 6 ≠ e.i ∧ 6 ≠ e.s ∧ 49 ≠ e.d) := four_dif (by decide) (by decide)
      have hD7 : Hid (∀ e ∈ ([⟨12, 16, 4, #[v0]⟩, ⟨13, 17, 5, #[v1]⟩, ⟨14, 18, 6, #[v2]⟩, ⟨15, 19, 7, #[v3]⟩] : List NewVar), 7 ≠ e.i ∧ 7 ≠ e.s ∧ 50 ≠ e.d) := four_dif (by decide) (by decide)
      have hD8 : Hid (∀ e ∈ ([⟨12, 16, 4, #[v0]⟩, ⟨13, 17, 5, #[v1]⟩, ⟨14, 18, 6, #[v2]⟩, ⟨15, 19, 7, #[v3]⟩] : List NewVar), 8 ≠ e.i ∧ 8 ≠ e.s ∧ 51 ≠ e.d) := four_dif (by decide) (by decide)
      have hD9 : Hid (∀ e ∈ ([⟨12, 16, 4, #[v0]⟩, ⟨13, 17, 5, #[v1]⟩, ⟨14, 18, 6, #[v2]⟩, ⟨15, 19, 7, #[v3]⟩] : List NewVar), 9 ≠ e.i ∧ 9 ≠ e.s ∧ 52 ≠ e.d) := four_dif (by decide) (by decide)
      have hD10 : Hid (∀ e ∈ ([⟨12, 16, 4, #[v0]⟩, ⟨13, 17, 5, #[v1]⟩, ⟨14, 18, 6, #[v2]⟩, ⟨15, 19, 7, #[v3]⟩] : List NewVar), 10 ≠ e.i ∧ 10 ≠ e.s ∧ 53 ≠ e.d) := four_dif (by decide) (by decide)
      have hD11 : Hid (∀ e ∈ ([⟨12, 16, 4, #[v0]⟩, ⟨13, 17, 5, #[v1]⟩, ⟨14, 18, 6, #[v2]⟩, ⟨15, 19, 7, #[v3]⟩] : List NewVar), 11 ≠ e.i ∧ 11 ≠ e.s ∧ 54 ≠ e.d) := four_dif (by decide) (by decide)
      have hkeys : Hid (Keys ([⟨12, 16, 4, #[v0]⟩, ⟨13, 17, 5, #[v1]⟩, ⟨14, 18, 6, #[v2]⟩, ⟨15, 19, 7, #[v3]⟩] : List NewVar)) := four_keys
      clear hf0 hf1 hf2 hf3
      go_upto_region 11 with fail
      go_cut [4, 5, 6, 7] from 43 to 54 (fun s4 s5 s6 s7 wx => ∃ a b c d, s4 = .pointer (some ⟨a, 0, none⟩) ∧ s5 = .pointer (some ⟨b, 0, none⟩) ∧ s6 = .pointer (some ⟨c, 0, none⟩) ∧ s7 = .pointer (some ⟨d, 0, none⟩) ∧ Below wr.heap.size wr wx ∧ (wr.heap.size ≤ a ∧ wr.heap.size ≤ b ∧ wr.heap.size ≤ c ∧ wr.heap.size ≤ d) ∧ (a ≠ b ∧ a ≠ c ∧ a ≠ d ∧ b ≠ c ∧ b ≠ d ∧ c ≠ d) ∧ FileAt wx (X4 a b c d) a mAB ∧ FileAt wx (X4 a b c d) b mAB ∧ FileAt wx (X4 a b c d) c mAB ∧ FileAt wx (X4 a b c d) d mAB)
      case first =>
        rename_i J K1 hJ hK
        refine wp_region_full (n := 113) (FxF gl v0 v1 v2 v3) (KnL wr 30 #[.slice none 0 0] [⟨12, 16, 4, #[v0]⟩, ⟨13, 17, 5, #[v1]⟩, ⟨14, 18, 6, #[v2]⟩, ⟨15, 19, 7, #[v3]⟩]) (by kernel_rfl) (by kernel_rfl) rfl ?_ ?_ ?_
        · intro L hL
          exact KnL.start hL (Below.refl _ _).drew
        rotate_left
        · intro L b' w' hall hsz hd hs hc hf
          obtain ⟨a, ea, ha, hha⟩ := hc.has _ (List.mem_cons_self ..) (hall 12 (by decide))
          obtain ⟨b, eb, hb, hhb⟩ := hc.has ⟨13, 17, 5, #[v1]⟩ (by simp) (hall 13 (by decide))
          obtain ⟨c, ec, hcc, hhc⟩ := hc.has ⟨14, 18, 6, #[v2]⟩ (by simp) (hall 14 (by decide))
          obtain ⟨d, ed, hdd, hhd⟩ := hc.has ⟨15, 19, 7, #[v3]⟩ (by simp) (hall 15 (by decide))
          rw [if_pos (hall 16 (by decide))] at hha
          rw [if_pos (hall 17 (by decide))] at hhb
          rw [if_pos (hall 18 (by decide))] at hhc
          rw [if_pos (hall 19 (by decide))] at hhd
          have n1 : a ≠ b := fun e => hc.ne ⟨12, 16, 4, #[v0]⟩ (by simp) ⟨13, 17, 5, #[v1]⟩ (by simp) (Nat.ne_of_beq_eq_false rfl) (hall 12 (by decide)) (hall 13 (by decide)) (by rw [ea, eb, e])
          have n2 : a ≠ c := fun e => hc.ne ⟨12, 16, 4, #[v0]⟩ (by simp) ⟨14, 18, 6, #[v2]⟩ (by simp) (Nat.ne_of_beq_eq_false rfl) (hall 12 (by decide)) (hall 14 (by decide)) (by rw [ea, ec, e])
          have n3 : a ≠ d := fun e => hc.ne ⟨12, 16, 4, #[v0]⟩ (by simp) ⟨15, 19, 7, #[v3]⟩ (by simp) (Nat.ne_of_beq_eq_false rfl) (hall 12 (by decide)) (hall 15 (by decide)) (by rw [ea, ed, e])
          have n4 : b ≠ c := fun e => hc.ne ⟨13, 17, 5, #[v1]⟩ (by simp) ⟨14, 18, 6, #[v2]⟩ (by simp) (Nat.ne_of_beq_eq_false rfl) (hall 13 (by decide)) (hall 14 (by decide)) (by rw [eb, ec, e])
          have n5 : b ≠ d := fun e => hc.ne ⟨13, 17, 5, #[v1]⟩ (by simp) ⟨15, 19, 7, #[v3]⟩ (by simp) (Nat.ne_of_beq_eq_false rfl) (hall 13 (by decide)) (hall 15 (by decide)) (by rw [eb, ed, e])
          have n6 : c ≠ d := fun e => hc.ne ⟨14, 18, 6, #[v2]⟩ (by simp) ⟨15, 19, 7, #[v3]⟩ (by simp) (Nat.ne_of_beq_eq_false rfl) (hall 14 (by decide)) (hall 15 (by decide)) (by rw [ec, ed, e])
          refine hK _ _ (Met.intro (hJ _ _ ?_))
          exact ⟨b'.tmps.getD 4 undef, b'.tmps.getD 5 undef, b'.tmps.getD 6 undef, b'.tmps.getD 7 undef, b'.tmps.getD 43 undef, b'.tmps.getD 44 undef, b'.tmps.getD 45 undef, b'.tmps.getD 46 undef, b'.tmps.getD 47 undef, b'.tmps.getD 48 undef, b'.tmps.getD 49 undef, b'.tmps.getD 50 undef, b'.tmps.getD 51 undef, b'.tmps.getD 52 undef, b'.tmps.getD 53 undef, b'.tmps.getD 54 undef, ⟨a, b, c, d, ea, eb, ec, ed, hc.below, ⟨ha, hb, hcc, hdd⟩, ⟨n1, n2, n3, n4, n5, n6⟩, four_file Hf0.out hc.below ha hb hcc hdd hha, four_file Hf1.out hc.below ha hb hcc hdd hhb, four_file Hf2.out hc.below ha hb hcc hdd hhc, four_file Hf3.out hc.below ha hb hcc hdd hhd⟩, (act_known hsz hd hs).trans (by kernel_rfl)⟩
        refine OpsFu.cons _ _ (OpFu.readL hD0.out rfl (by decide) fun b v hs hc hg => ⟨rfl, _, exec_move rfl (hs 2 (by kernel_rfl)), rfl⟩) ?_
        refine OpsFu.cons _ _ (OpFu.readL hD1.out rfl (by decide) fun b v hs hc hg => ⟨rfl, _, exec_atFile (k := 0) rfl rfl (dep hg 0 rfl rfl rfl rfl) (by omega), rfl⟩) ?_
        refine OpsFu.cons _ _ (OpFu.readL hD2.out rfl (by decide) fun b v hs hc hg => ⟨rfl, _, exec_loadFileE rfl (dep hg 0 rfl rfl rfl rfl) ((hc.cell (p := ⟨gl, 0, none⟩) hgll.out).trans cl0.out), rfl⟩) ?_
        refine OpsFu.cons _ _ (OpFu.readL hD3.out rfl (by decide) fun b v hs hc hg => ⟨rfl, _, exec_move rfl (hs 2 (by kernel_rfl)), rfl⟩) ?_
        refine OpsFu.cons _ _ (OpFu.readL hD4.out rfl (by decide) fun b v hs hc hg => ⟨rfl, _, exec_atFile (k := 1) rfl rfl (dep hg 0 rfl rfl rfl rfl) (by omega), rfl⟩) ?_
        refine OpsFu.cons _ _ (OpFu.readL hD5.out rfl (by decide) fun b v hs hc hg => ⟨rfl, _, exec_loadFileE rfl (dep hg 0 rfl rfl rfl rfl) ((hc.cell (p := ⟨gl, 1, none⟩) hgll.out).trans cl1.out), rfl⟩) ?_
        refine OpsFu.cons _ _ (OpFu.readL hD6.out rfl (by decide) fun b v hs hc hg => ⟨rfl, _, exec_move rfl (hs 2 (by kernel_rfl)), rfl⟩) ?_
        refine OpsFu.cons _ _ (OpFu.readL hD7.out rfl (by decide) fun b v hs hc hg => ⟨rfl, _, exec_atFile (k := 2) rfl rfl (dep hg 0 rfl rfl rfl rfl) (by omega), rfl⟩) ?_
        refine OpsFu.cons _ _ (OpFu.readL hD8.out rfl (by decide) fun b v hs hc hg => ⟨rfl, _, exec_loadFileE rfl (dep hg 0 rfl rfl rfl rfl) ((hc.cell (p := ⟨gl, 2, none⟩) hgll.out).trans cl2.out), rfl⟩) ?_
        refine OpsFu.cons _ _ (OpFu.readL hD9.out rfl (by decide) fun b v hs hc hg => ⟨rfl, _, exec_move rfl (hs 2 (by kernel_rfl)), rfl⟩) ?_
        refine OpsFu.cons _ _ (OpFu.readL hD10.out rfl (by decide) fun b v hs hc hg => ⟨rfl, _, exec_atFile (k := 3) rfl rfl (dep hg 0 rfl rfl rfl rfl) (by omega), rfl⟩) ?_
        refine OpsFu.cons _ _ (OpFu.readL hD11.out rfl (by decide) fun b v hs hc hg => ⟨rfl, _, exec_loadFileE rfl (dep hg 0 rfl rfl rfl rfl) ((hc.cell (p := ⟨gl, 3, none⟩) hgll.out).trans cl3.out), rfl⟩) ?_
        refine OpsFu.cons _ _ (OpFu.makeL (v := ⟨12, 16, 4, #[v0]⟩) hkeys.out (by simp) rfl rfl (Nat.le_of_ble_eq_true rfl) rfl (fun L hcl hn => notyet hcl (ho := rfl) (he := (rfl : _[0]? = _)) rfl hn) (fun _ _ => trivial) FxF.keep fun b v => exec_allocF rfl) ?_
        refine OpsFu.cons _ _ (OpFu.makeL (v := ⟨13, 17, 5, #[v1]⟩) hkeys.out (by simp) rfl rfl (Nat.le_of_ble_eq_true rfl) rfl (fun L hcl hn => notyet hcl (ho := rfl) (he := (rfl : _[0]? = _)) rfl hn) (fun _ _ => trivial) FxF.keep fun b v => exec_allocF rfl) ?_
        refine OpsFu.cons _ _ (OpFu.makeL (v := ⟨14, 18, 6, #[v2]⟩) hkeys.out (by simp) rfl rfl (Nat.le_of_ble_eq_true rfl) rfl (fun L hcl hn => notyet hcl (ho := rfl) (he := (rfl : _[0]? = _)) rfl hn) (fun _ _ => trivial) FxF.keep fun b v => exec_allocF rfl) ?_
        refine OpsFu.cons _ _ (OpFu.makeL (v := ⟨15, 19, 7, #[v3]⟩) hkeys.out (by simp) rfl rfl (Nat.le_of_ble_eq_true rfl) rfl (fun L hcl hn => notyet hcl (ho := rfl) (he := (rfl : _[0]? = _)) rfl hn) (fun _ _ => trivial) FxF.keep fun b v => exec_allocF rfl) ?_
        refine OpsFu.cons _ _ (OpFu.fillL (v := ⟨12, 16, 4, #[v0]⟩) hkeys.out (by simp) rfl rfl rfl (yo := .tmp 45) rfl size_file1 rfl hone0.out FxF.keep (fun L hd => hd _ (List.mem_of_getElem? (i := 0) rfl) rfl) fun b v hg => dep hg 1 rfl rfl rfl rfl) ?_
        refine OpsFu.cons _ _ (OpFu.fillL (v := ⟨13, 17, 5, #[v1]⟩) hkeys.out (by simp) rfl rfl rfl (yo := .tmp 48) rfl size_file1 rfl hone1.out FxF.keep (fun L hd => hd _ (List.mem_of_getElem? (i := 0) rfl) rfl) fun b v hg => dep hg 1 rfl rfl rfl rfl) ?_
        refine OpsFu.cons _ _ (OpFu.fillL (v := ⟨14, 18, 6, #[v2]⟩) hkeys.out (by simp) rfl rfl rfl (yo := .tmp 51) rfl size_file1 rfl hone2.out FxF.keep (fun L hd => hd _ (List.mem_of_getElem? (i := 0) rfl) rfl) fun b v hg => dep hg 1 rfl rfl rfl rfl) ?_
        refine OpsFu.cons _ _ (OpFu.fillL (v := ⟨15, 19, 7, #[v3]⟩) hkeys.out (by simp) rfl rfl rfl (yo := .tmp 54) rfl size_file1 rfl hone3.out FxF.keep (fun L hd => hd _ (List.mem_of_getElem? (i := 0) rfl) rfl) fun b v hg => dep hg 1 rfl rfl rfl rfl) (OpsFu.nil _ _)
      obtain ⟨a, b, c, d, rfl, rfl, rfl, rfl, hB, ⟨la, lb, lc, ld⟩, hne, hfa, hfb, hfc, hfd⟩ := hcut
      obtain ⟨wx, hwx⟩ : ∃ w2 : World, w2 = wc := ⟨_, rfl⟩
      subst hwx
      have HF := Lib.hid (Fo.mk (hst.out.below.trans (hB.mono hst.out.below.size)) (Nat.le_trans hst.out.below.size la) (Nat.le_trans hst.out.below.size lb) (Nat.le_trans hst.out.below.size lc) (Nat.le_trans hst.out.below.size ld) hne hfa hfb hfc hfd)
      clear hfa hfb hfc hfd hne la lb lc ld hB hst
      have kc := fun (C : Array Value) (n c : Nat) => Lib.run_convert_bytes_const (P := Try.prog) wx 26 5 C n c Try.underlying26 Try.underlying5
      have hcall := Lib.hid (HF.out.appa (p := 99) (q := 100) 99 100 rfl rfl smAB appCD)
      clear HF
      go_upto_region 13 with
        (go_at_call 17
         refine hcall.out.mono ?_
         rintro e y12 ⟨rfl, hf⟩
         have HF := Lib.hid hf
         clear hf)
      clear kc hcall
      have kc := fun (C : Array Value) (n c : Nat) => Lib.run_convert_bytes_const (P := Try.prog) y12 26 5 C n c Try.underlying26 Try.underlying5
      have hcall := Lib.hid (HF.out.appa (p := 101) (q := 102) 101 102 rfl rfl smABC appEF)
      clear HF
      go_upto_region 14 with
        (go_at_call 17
         refine hcall.out.mono ?_
         rintro e y13 ⟨rfl, hf⟩
         have HF := Lib.hid hf
         clear hf)
      clear kc hcall
      have hcall := Lib.hid ((HF.out.then_ (below_new y13 (.cells #[.bool false, .bool true] 4))).faila (ck := 2) (nk := 2) smEF rfl (B := y13.heap.size + 1) (by simp) (lit2k y13 false true) (by omega) (by omega) failA)
      clear HF
      go_upto_region 15 with
        (go_at_call 15
         refine hcall.out.mono ?_
         rintro e y14 ⟨rfl, hf⟩
         have HF := Lib.hid hf
         clear hf)
      clear hcall
      have kc := fun (C : Array Value) (n c : Nat) => Lib.run_convert_bytes_const (P := Try.prog) y14 26 5 C n c Try.underlying26 Try.underlying5
      have hcall := Lib.hid (HF.out.appb (p := 99) (q := 100) 99 100 rfl rfl smAB appCD)
      clear HF
      go_upto_region 16 with
        (go_at_call 17
         refine hcall.out.mono ?_
         rintro e y15 ⟨rfl, hf⟩
         have HF := Lib.hid hf
         clear hf)
      clear kc hcall
      have kc := fun (C : Array Value) (n c : Nat) => Lib.run_convert_bytes_const (P := Try.prog) y15 26 5 C n c Try.underlying26 Try.underlying5
      have hcall := Lib.hid (HF.out.appb (p := 101) (q := 102) 101 102 rfl rfl smABC appEF)
      clear HF
      go_upto_region 17 with
        (go_at_call 17
         refine hcall.out.mono ?_
         rintro e y16 ⟨rfl, hf⟩
         have HF := Lib.hid hf
         clear hf)
      clear kc hcall
      have hcall := Lib.hid ((HF.out.then_ (below_new y16 (.cells #[.bool true] 4))).failb (ck := 1) (nk := 1) smEF rfl (B := y16.heap.size + 1) (by simp) (lit1k y16 true) (by omega) (by omega) failB)
      clear HF
      go_upto_region 18 with
        (go_at_call 15
         refine hcall.out.mono ?_
         rintro e y17 ⟨rfl, hf⟩
         have HF := Lib.hid hf
         clear hf)
      clear hcall
      have kc := fun (C : Array Value) (n c : Nat) => Lib.run_convert_bytes_const (P := Try.prog) y17 26 5 C n c Try.underlying26 Try.underlying5
      have hcall := Lib.hid (HF.out.appc (p := 99) (q := 100) 99 100 rfl rfl smAB appCD)
      clear HF
      go_upto_region 19 with
        (go_at_call 17
         refine hcall.out.mono ?_
         rintro e y18 ⟨rfl, hf⟩
         have HF := Lib.hid hf
         clear hf)
      clear kc hcall
      have kc := fun (C : Array Value) (n c : Nat) => Lib.run_convert_bytes_const (P := Try.prog) y18 26 5 C n c Try.underlying26 Try.underlying5
      have hcall := Lib.hid (HF.out.appc (p := 101) (q := 102) 101 102 rfl rfl smABC appEF)
      clear HF
      go_upto_region 20 with
        (go_at_call 17
         refine hcall.out.mono ?_
         rintro e y19 ⟨rfl, hf⟩
         have HF := Lib.hid hf
         clear hf)
      clear kc hcall
      have hcall := Lib.hid (HF.out.failc (Ak := none) (ck := 0) (nk := 0) (B := 0) smEF rfl (by omega) Reads.none_ (by omega) (by omega) failC)
      clear HF
      go_upto_region 21 with
        (go_at_call 15
         refine hcall.out.mono ?_
         rintro e y20 ⟨rfl, hf⟩
         have HF := Lib.hid hf
         clear hf)
      clear hcall
      have kc := fun (C : Array Value) (n c : Nat) => Lib.run_convert_bytes_const (P := Try.prog) y20 26 5 C n c Try.underlying26 Try.underlying5
      have hcall := Lib.hid (HF.out.appd (p := 99) (q := 100) 99 100 rfl rfl smAB appCD)
      clear HF
      go_upto_region 22 with
        (go_at_call 17
         refine hcall.out.mono ?_
         rintro e y21 ⟨rfl, hf⟩
         have HF := Lib.hid hf
         clear hf)
      clear kc hcall
      have kc := fun (C : Array Value) (n c : Nat) => Lib.run_convert_bytes_const (P := Try.prog) y21 26 5 C n c Try.underlying26 Try.underlying5
      have hcall := Lib.hid (HF.out.appd (p := 101) (q := 102) 101 102 rfl rfl smABC appEF)
      clear HF
      go_upto_region 23 with
        (go_at_call 17
         refine hcall.out.mono ?_
         rintro e y22 ⟨rfl, hf⟩
         have HF := Lib.hid hf
         clear hf)
      clear kc hcall
      have hcall := Lib.hid (HF.out.syncd smEF syncD)
      clear HF
      go_upto_region 24 with
        (go_at_call 13
         refine hcall.out.mono ?_
         rintro e y23 ⟨rfl, hf⟩
         have HF := Lib.hid hf
         clear hf)
      clear hcall
      have hcall := Lib.hid (HF.out.faild (Ak := none) (ck := 0) (nk := 0) (B := 0) smSD rfl (by omega) Reads.none_ (by omega) (by omega) failD)
      clear HF
      go_upto_region 25 with
        (go_at_call 15
         refine hcall.out.mono ?_
         rintro e y24 ⟨rfl, hf⟩
         have HF := Lib.hid hf
         clear hf)
      clear hcall
      obtain ⟨Aa, ca, na, hcell, hfv⟩ := HF.out.fa.loadC
      have hbyA := Lib.hid (bytesX (nm := 6) smFA rfl rfl hfv)
      have Hfv := Lib.hid hfv
      clear hfv
      go_wp2_with fail
      go_at_call 21
      refine hbyA.out.mono ?_
      rintro e za ⟨u, rfl, hb, Ba, ea, rfl, hr⟩
      have hcva : (convert 26 9 (.slice Ba 6 ea)).run Try.prog za = .ok (.string ⟨#[97, 98, 0, 0, 101, 102]⟩) za := run_text_any (l := contM mFA) hr ea
      have HFa := Lib.hid (HF.out.then_ hb)
      obtain ⟨Aa2, ca2, na2, hcell2, hfv⟩ := HFa.out.fa.loadC
      have hvo := Lib.hid (volX (vm := 0) smFA rfl hfv)
      clear hfv
      clear hb hr hbyA
      go_wp2_with fail
      go_at_call 22
      refine hvo.out.mono ?_
      rintro e zv ⟨u, rfl, hb, rfl⟩
      have HFv := Lib.hid (HFa.out.then_ hb)
      obtain ⟨Ab, cb, nb, hcellb, hfv⟩ := HFv.out.fb.loadC
      have hbyB := Lib.hid (bytesX (nm := 4) smB rfl rfl hfv)
      clear hfv
      clear hb hvo hcva hcell2
      go_wp2_with fail
      go_at_call 21
      refine hbyB.out.mono ?_
      rintro e zb ⟨u, rfl, hb, Bb, eb, rfl, hr⟩
      have hcvb : (convert 26 9 (.slice Bb 4 eb)).run Try.prog zb = .ok (.string ⟨#[97, 98, 99, 100]⟩) zb := run_text_any (l := contM [([97, 98], true), ([99, 100], true)]) hr eb
      have HFb := Lib.hid (HFv.out.then_ hb)
      obtain ⟨Ac, cc, nc, hcellc, hfv⟩ := HFb.out.fc.loadC
      have hbyC := Lib.hid (bytesX (nm := 2) smC rfl rfl hfv)
      clear hfv
      clear hb hr hbyB
      go_wp2_with fail
      go_at_call 21
      refine hbyC.out.mono ?_
      rintro e zc ⟨u, rfl, hb, Bc, ec, rfl, hr⟩
      have hcvc : (convert 26 9 (.slice Bc 2 ec)).run Try.prog zc = .ok (.string ⟨#[97, 98]⟩) zc := run_text_any (l := contM [([97, 98], true)]) hr ec
      have HFc := Lib.hid (HFb.out.then_ hb)
      obtain ⟨Ad, cd, nd, hcelld, hfv⟩ := HFc.out.fd.loadC
      have hbyD := Lib.hid (bytesX (nm := 6) smSD rfl rfl hfv)
      clear hfv
      clear hb hr hbyC
      go_wp2_with fail
      go_at_call 21
      refine hbyD.out.mono ?_
      rintro e zd ⟨u, rfl, hb, Bd, ed, rfl, hr⟩
      have hcvd : (convert 26 9 (.slice Bd 6 ed)).run Try.prog zd = .ok (.string ⟨#[97, 98, 99, 100, 101, 102]⟩) zd := run_text_any (l := contM mSD) hr ed
      have HFd := Lib.hid (HFc.out.then_ hb)
      clear hb hr hbyD
      go_wp2_with fail
      exact HQ.out _ _ ⟨rfl, HFd.out.below⟩
end Go.Proofs.Ytnlcohijopokjaa
