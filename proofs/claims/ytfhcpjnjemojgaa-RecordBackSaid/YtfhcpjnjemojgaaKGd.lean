/- Records as plain values: which parts a kind has, how they are written and read one behind the other, which records are right. No program in sight. Conditions: numbers below 2^64. -/
/- Answers that lie in a block (a struct as a result). Conditions: none. -/
/- Records as values and cells; the walks of the small functions on them: the statements' own, and the reference's. Conditions: numbers below 2^64. -/
import Derived.Test.YtfhcpjnjemojgaaKFrMath
import Derived.Test.YtfhcpjnjemojgaaKGb
import Derived.Test.YtfhcpjnjemojgaaKGa

namespace Go.Proofs.Ytfhcpjnjemojgaa
open Go.RowKit

/-- A record. -/
structure Rc where
  k : Nat
  p : Nat
  i : Nat
  q : Nat
  e : Nat
  u : Nat
  r : Nat
  c : Nat
  z : Nat
  s : Nat
  n : List UInt8
  t : List UInt8
  deriving DecidableEq, Inhabited
/-- The record of a kind, with nothing in it. -/
def Rc.zero (k : Nat) : Rc := ⟨k, 0, 0, 0, 0, 0, 0, 0, 0, 0, [], []⟩
/-- The number at a part. -/
def Rc.num (x : Rc) : Nat → Nat
  | 0 => x.p | 1 => x.i | 2 => x.q | 3 => x.e | 4 => x.u | 5 => x.r | 6 => x.c | 7 => x.z | 8 => x.s | _ => 0
/-- The text at a part. -/
def Rc.tx (x : Rc) : Nat → List UInt8
  | 9 => x.n | 10 => x.t | _ => []
def Rc.setN (x : Rc) (j m : Nat) : Rc :=
  match j with
  | 0 => { x with p := m } | 1 => { x with i := m } | 2 => { x with q := m } | 3 => { x with e := m } | 4 => { x with u := m } | 5 => { x with r := m } | 6 => { x with c := m } | 7 => { x with z := m } | 8 => { x with s := m } | _ => x
def Rc.setT (x : Rc) (j : Nat) (l : List UInt8) : Rc :=
  match j with
  | 9 => { x with n := l } | 10 => { x with t := l } | _ => x
/-- Its numbers fit. -/
structure Rc.Ok (x : Rc) : Prop where
  k : x.k < 256
  num : ∀ j, x.num j < 18446744073709551616
/-- The parts of a kind, in order. -/
def parts (k : Nat) : List Nat :=
  if k = 1 ∨ k = 2 then [3, 4] else if k = 3 then [3] else if k = 4 then [3, 5, 7, 8] else if k = 5 then [5, 4] else if k = 6 then [5] else if k = 8 then [6] else if k = 9 ∨ k = 10 then [9] else if k = 11 then [9, 10] else []
/-- Whose it is, and its parts. -/
def allP (k : Nat) : List Nat := 0 :: 1 :: 2 :: parts k
def isK (k : Nat) : Bool := decide (1 ≤ k ∧ k ≤ 11)
theorem isK_cases {k : Nat} (h : isK k = true) : k = 1 ∨ k = 2 ∨ k = 3 ∨ k = 4 ∨ k = 5 ∨ k = 6 ∨ k = 7 ∨ k = 8 ∨ k = 9 ∨ k = 10 ∨ k = 11 := by
  unfold isK at h
  simp only [decide_eq_true_eq] at h
  omega
theorem parts_cases (k : Nat) : parts k = [3, 4] ∨ parts k = [3] ∨ parts k = [3, 5, 7, 8] ∨ parts k = [5, 4] ∨ parts k = [5] ∨ parts k = [6] ∨ parts k = [9] ∨ parts k = [9, 10] ∨ parts k = [] := by
  unfold parts
  repeat' split
  all_goals simp
theorem parts_le {k j : Nat} (h : j ∈ parts k) : 3 ≤ j ∧ j ≤ 10 := by
  rcases parts_cases k with e | e | e | e | e | e | e | e | e <;> rw [e] at h <;> simp at h <;> omega
theorem allP_le {k j : Nat} (h : j ∈ allP k) : j ≤ 10 := by
  unfold allP at h
  simp only [List.mem_cons] at h
  rcases h with h | h | h | h
  · omega
  · omega
  · omega
  · exact (parts_le h).2
theorem allP_nodup (k : Nat) : (allP k).Nodup := by
  unfold allP
  rcases parts_cases k with e | e | e | e | e | e | e | e | e <;> rw [e] <;> decide
theorem parts_len (k : Nat) : (parts k).length ≤ 4 := by
  rcases parts_cases k with e | e | e | e | e | e | e | e | e <;> rw [e] <;> decide

/-! ### setting and looking -/
theorem num_setN (x : Rc) {j : Nat} (m : Nat) (hj : j < 9) : (x.setN j m).num j = m := by
  match j, hj with
  | 0, _ | 1, _ | 2, _ | 3, _ | 4, _ | 5, _ | 6, _ | 7, _ | 8, _ => rfl
theorem num_setN_ne (x : Rc) {j i : Nat} (m : Nat) (h : i ≠ j) : (x.setN j m).num i = x.num i := by
  unfold Rc.setN Rc.num
  split
  all_goals first | rfl | (split <;> first | rfl | (exfalso; omega))
theorem tx_setN (x : Rc) (j m i : Nat) : (x.setN j m).tx i = x.tx i := by
  unfold Rc.setN Rc.tx
  split
  all_goals first | rfl | (split <;> rfl)
theorem k_setN (x : Rc) (j m : Nat) : (x.setN j m).k = x.k := by
  unfold Rc.setN
  split <;> rfl
theorem tx_setT (x : Rc) {j : Nat} (l : List UInt8) (hj : 9 ≤ j ∧ j ≤ 10) : (x.setT j l).tx j = l := by
  obtain rfl | rfl : j = 9 ∨ j = 10 := by omega
  · rfl
  · rfl
theorem tx_setT_ne (x : Rc) {j i : Nat} (l : List UInt8) (h : i ≠ j) : (x.setT j l).tx i = x.tx i := by
  unfold Rc.setT Rc.tx
  split
  all_goals first | rfl | (split <;> first | rfl | (exfalso; omega))
theorem num_setT (x : Rc) (j : Nat) (l : List UInt8) (i : Nat) : (x.setT j l).num i = x.num i := by
  unfold Rc.setT Rc.num
  split
  all_goals first | rfl | (split <;> rfl)
theorem k_setT (x : Rc) (j : Nat) (l : List UInt8) : (x.setT j l).k = x.k := by
  unfold Rc.setT
  split <;> rfl
theorem Rc.Ok.zero {k : Nat} (h : k < 256) : (Rc.zero k).Ok := ⟨h, fun j => by unfold Rc.num Rc.zero; split <;> simp⟩
theorem Rc.Ok.setN {x : Rc} (h : x.Ok) {j m : Nat} (hm : m < 18446744073709551616) : (x.setN j m).Ok := by
  refine ⟨by rw [k_setN]; exact h.k, fun i => ?_⟩
  by_cases hij : i = j
  · subst hij
    by_cases h9 : i < 9
    · rw [num_setN x m h9]; exact hm
    · have : (x.setN i m).num i = 0 := by unfold Rc.num; split <;> first | omega | rfl
      rw [this]; omega
  · rw [num_setN_ne x m hij]; exact h.num i
theorem Rc.Ok.setT {x : Rc} (h : x.Ok) {j : Nat} {l : List UInt8} : (x.setT j l).Ok := ⟨by rw [k_setT]; exact h.k, fun i => by rw [num_setT]; exact h.num i⟩

/-! ### going through the parts -/
/-- Steps, one behind the other, up to the first error. -/
def runS {S : Type} (f : S → Nat → S × Nat) : S → List Nat → S × Nat
  | s, [] => (s, 0)
  | s, j :: l => if (f s j).2 ≠ 0 then f s j else runS f (f s j).1 l
theorem runS_snoc {S : Type} (f : S → Nat → S × Nat) : ∀ (l : List Nat) (s : S) (j : Nat), (runS f s l).2 = 0 → runS f s (l ++ [j]) = f (runS f s l).1 j
  | [], s, j, _ => by
    rw [List.nil_append]
    show (if (f s j).2 ≠ 0 then f s j else ((f s j).1, 0)) = f s j
    split
    · rfl
    · rename_i h
      have h' : (f s j).2 = 0 := by omega
      exact Prod.ext rfl h'.symm
  | i :: l, s, j, h => by
    rw [List.cons_append, runS]
    rw [runS] at h ⊢
    split
    · rename_i h1
      rw [if_pos h1] at h
      exact absurd h h1
    · rename_i h1
      rw [if_neg h1] at h
      exact runS_snoc f l _ j h
theorem runS_stop {S : Type} (f : S → Nat → S × Nat) : ∀ (l m : List Nat) (s : S), (runS f s l).2 ≠ 0 → runS f s (l ++ m) = runS f s l
  | [], m, s, h => absurd rfl h
  | i :: l, m, s, h => by
    rw [List.cons_append, runS]
    rw [runS] at h
    split
    · rename_i h1
      rw [runS, if_pos h1]
    · rename_i h1
      rw [if_neg h1] at h
      rw [runS_stop f l m _ h]
      rw [runS, if_neg h1]
/-- A part, made empty. -/
def eraP (x : Rc) (j : Nat) : Rc × Nat := if j < 9 then (x.setN j 0, 0) else if (x.tx j).length = 0 ∨ 64 < (x.tx j).length then (x, 2) else (x.setT j [], 0)
/-- A part, read. -/
def rdP (b : List UInt8) (s : Rc × Int) (j : Nat) : (Rc × Int) × Nat :=
  if j < 9 then ((s.1.setN j (take b s.2).1, (take b s.2).2.1), (take b s.2).2.2) else ((s.1.setT j (takeText b s.2).1, (takeText b s.2).2.1), (takeText b s.2).2.2)
/-- A part, written. -/
def encP (x : Rc) (j : Nat) : List UInt8 := if j < 9 then enc (x.num j) else encText (x.tx j)
def body (x : Rc) (ps : List Nat) : List UInt8 := ps.flatMap (encP x)
/-- What writing does: no error. -/
def wrP (x : Rc) (b : List UInt8) (j : Nat) : List UInt8 × Nat := (b ++ encP x j, 0)
theorem runS_wrP (x : Rc) : ∀ (ps : List Nat) (b : List UInt8), runS (wrP x) b ps = (b ++ body x ps, 0)
  | [], b => by simp [runS, body]
  | j :: ps, b => by
    show runS (wrP x) (b ++ encP x j) ps = _
    rw [runS_wrP x ps]
    simp [body]
/-- One part of a record, put into another one. -/
def cpP (x y : Rc) (j : Nat) : Rc := if j < 9 then y.setN j (x.num j) else y.setT j (x.tx j)
def bld (x y : Rc) (ps : List Nat) : Rc := ps.foldl (cpP x) y

/-! ### which records are right -/
/-- Is a record right? -/
def rightM (x : Rc) : Bool := isK x.k && decide (x.z ≤ 65535) && decide (x.s ≤ 4294967295) && decide (runS eraP x (allP x.k) = (Rc.zero x.k, 0))
/-- The texts of which the kind tells have from 1 to 64 bytes. -/
def txOk (x : Rc) (ps : List Nat) : Bool := ps.all fun j => decide (j < 9) || (decide (1 ≤ (x.tx j).length) && decide ((x.tx j).length ≤ 64))
/-- As the reference has it: what the kind tells of, put into an empty one, is all. -/
def rightR (x : Rc) : Bool := isK x.k && decide (x.z ≤ 65535) && decide (x.s ≤ 4294967295) && txOk x (parts x.k) && decide (bld x (Rc.zero x.k) (allP x.k) = x)
theorem right_eq (x : Rc) : rightM x = rightR x := by
  unfold rightM rightR
  by_cases hk : isK x.k = true
  · by_cases hz : x.z ≤ 65535
    · by_cases hs : x.s ≤ 4294967295
      · simp only [hk, hz, hs, decide_true, Bool.and_self, Bool.true_and]
        obtain ⟨k, p, i, q, e, u, r, c, z, s, n, t⟩ := x
        simp only at hk
        have hl : ∀ l : List UInt8, ((l.length = 0 ∨ 64 < l.length) ∨ (1 ≤ l.length ∧ l.length ≤ 64)) := fun l => by omega
        rcases isK_cases hk with rfl | rfl | rfl | rfl | rfl | rfl | rfl | rfl | rfl | rfl | rfl
        all_goals
          rcases hl n with hn | hn <;> rcases hl t with ht | ht
          all_goals
            have hn' : (n = [] ∨ 64 < n.length) ∨ n ≠ [] := by
              by_cases h : n = []
              · exact .inl (.inl h)
              · exact .inr h
            simp [runS, eraP, allP, parts, bld, cpP, txOk, Rc.setN, Rc.setT, Rc.num, Rc.tx, Rc.zero, hn, ht]
            try simp_all
            try grind
      · simp [hs]
    · simp [hz]
  · simp [hk]
end Go.Proofs.Ytfhcpjnjemojgaa

namespace Go.Proofs.Ytfhcpjnjemojgaa
open Go.RowKit

/-! ### answers that lie in a block -/
/-- A variable of this type, of so many cells, reads as its cells. -/
def AggTy (ty : TypeId) (m : Nat) : Prop := ∀ (w : World) (g : Nat) (t : TypeId) (cs : Array Value) (fr : Nat × Nat), cs.size = m → w.heap[g]? = some (.cells cs t fr) → (loadVar ty ⟨g, 0, none⟩).run Try.prog w = .ok (.agg cs) w
theorem ret_agg {fn : Func} {R : Ending → World → Prop} {p : Tmp} {ty : TypeId} {m : Nat} (h : fn.results = #[.cell p ty]) (hty : AggTy ty m) {a : Act} {w : World} (g : Nat) (cs : Array Value) (t : TypeId) (fr : Nat × Nat) (hm : cs.size = m)
    (hp : a.tmps.getD p undef = .pointer (some ⟨g, 0, none⟩)) (hg : w.heap[g]? = some (.cells cs t fr)) (hd : a.defers = []) (hR : R (.returned (.agg cs)) w) : bodyPost Try.prog fn R .ret a w := by
  refine bodyPost_ret (v := .agg cs) ?_ hd hR
  have hp' : a.tmps[p]?.getD undef = .pointer (some ⟨g, 0, none⟩) := by simpa using hp
  simp [results, h, hp', asAddr, hty w g t cs fr hm hg]
theorem ret_agg2 {fn : Func} {R : Ending → World → Prop} {p u : Tmp} {ty : TypeId} {m : Nat} (h : fn.results = #[.cell p ty, .tmp u]) (hty : AggTy ty m) {a : Act} {w : World} (g : Nat) (cs : Array Value) (t : TypeId) (fr : Nat × Nat) (hm : cs.size = m)
    (hp : a.tmps.getD p undef = .pointer (some ⟨g, 0, none⟩)) (hg : w.heap[g]? = some (.cells cs t fr)) (hd : a.defers = []) (hR : R (.returned (.tuple #[.agg cs, a.tmps.getD u undef])) w) : bodyPost Try.prog fn R .ret a w := by
  refine bodyPost_ret (v := .tuple #[.agg cs, a.tmps.getD u undef]) ?_ hd hR
  have hp' : a.tmps[p]?.getD undef = .pointer (some ⟨g, 0, none⟩) := by simpa using hp
  simp [results, h, hp', asAddr, hty w g t cs fr hm hg]
theorem heap_alloc_2 (w : World) (x y : Obj) : ((w.alloc x).alloc y).heap[w.heap.size + 1]? = some y := by
  have := heap_alloc_new (w.alloc x) y
  simpa using this
theorem below_new (w : World) (x : Obj) : Below w.heap.size w (w.alloc x) := (Below.refl _ w).alloc (Nat.le_refl _) x
theorem below_new2 (w : World) (x y : Obj) : Below w.heap.size w ((w.alloc x).alloc y) := (below_new w x).alloc (by simp) y
end Go.Proofs.Ytfhcpjnjemojgaa

namespace Go.Proofs.Ytfhcpjnjemojgaa
open Go.RowKit Go.Lib

def Rc.cells (x : Rc) : List Value := [.int .u8 (x.k : Int), .int .u64 (x.p : Int), .int .u64 (x.i : Int), .int .u64 (x.q : Int), .int .u64 (x.e : Int), .int .u64 (x.u : Int), .int .u64 (x.r : Int), .int .u64 (x.c : Int), .int .u64 (x.z : Int), .int .u64 (x.s : Int), .string (txt x.n), .string (txt x.t)]
def Rc.v (x : Rc) : Value := .agg #[.int .u8 (x.k : Int), .int .u64 (x.p : Int), .int .u64 (x.i : Int), .int .u64 (x.q : Int), .int .u64 (x.e : Int), .int .u64 (x.u : Int), .int .u64 (x.r : Int), .int .u64 (x.c : Int), .int .u64 (x.z : Int), .int .u64 (x.s : Int), .string (txt x.n), .string (txt x.t)]
theorem Rc.v_inj {x y : Rc} (h : x.v = y.v) : x = y := by
  obtain ⟨k, p, i, q, e, u, r, c, z, s, n, t⟩ := x
  obtain ⟨k', p', i', q', e', u', r', c', z', s', n', t'⟩ := y
  simp only [Rc.v, Value.agg.injEq, Array.mk.injEq, List.cons.injEq, Value.int.injEq, Value.string.injEq, true_and, and_true] at h
  obtain ⟨h1, h2, h3, h4, h5, h6, h7, h8, h9, h10, h11, h12⟩ := h
  have e1 := txt_inj h11
  have e2 := txt_inj h12
  simp only [Rc.mk.injEq]
  exact ⟨by omega, by omega, by omega, by omega, by omega, by omega, by omega, by omega, by omega, by omega, e1, e2⟩
theorem size_rec : (Try.prog.info? 24).map (·.size) = some 12 := by kernel_rfl
theorem size_rrec : (Try.prog.info? 31).map (·.size) = some 12 := by kernel_rfl
theorem recTy : AggTy 24 12 := fun w g t cs fr hs hg => run_loadVar_row w g t _ cs fr _ hg Try.underlying24 rfl (by rw [hs]; exact size_rec)
theorem rrecTy : AggTy 31 12 := fun w g t cs fr hs hg => run_loadVar_row w g t _ cs fr _ hg Try.underlying31 rfl (by rw [hs]; exact size_rrec)
/-- ref: the same record. -/
theorem ref_any (x : Rc) (w : World) : Calls Try.prog 11 #[x.v] w fun e w' => e = .returned x.v ∧ Below w.heap.size w w' := by
  obtain ⟨k, p, i, q, e, u, r, c, z, s, n, t⟩ := x
  unfold Rc.v
  simp only
  go_enter Try.func11, Try.ntmps11
  go_wp2
  exact ret_agg rfl rrecTy (w.heap.size + 1) _ _ (0, 0) rfl rfl (heap_alloc_2 _ _ _) rfl ⟨rfl, below_new2 _ _ _⟩
def fewM (x : Rc) : Bool := decide (x.n.length ≤ 100) && decide (x.t.length ≤ 100)
set_option maxHeartbeats 400000 in
theorem few_any (x : Rc) (w : World) : Calls Try.prog 8 #[x.v] w fun e w' => e = .returned (.bool (fewM x)) ∧ Below w.heap.size w w' := by
  obtain ⟨k, p, i, q, e, u, r, c, z, s, n, t⟩ := x
  unfold Rc.v
  simp only
  have hn := txt_size n
  have ht := txt_size t
  go_enter Try.func8, Try.ntmps8
  go_wp2
  all_goals
    go_ret
    refine ⟨ret_bool ?_, below_new _ _⟩
    unfold fewM
  · rename_i h
    have h' : n.length ≤ 100 := by omega
    rw [decide_eq_true h', Bool.true_and]
    by_cases h2 : t.length ≤ 100
    · rw [decide_eq_true h2, decide_eq_true (by omega)]
    · rw [decide_eq_false h2, decide_eq_false (by omega)]
  · rename_i h
    have h' : ¬ n.length ≤ 100 := by omega
    rw [decide_eq_false h', Bool.false_and]
/-- A part's letter. -/
def letterOf : Nat → Nat
  | 3 => 101 | 4 => 117 | 5 => 118 | 6 => 107 | 7 => 115 | 8 => 99 | 9 => 110 | _ => 116
def lettersOf (k : Nat) : List UInt8 := (parts k).map fun j => UInt8.ofNat (letterOf j)
/-- number's answer. -/
def numR (x : Rc) (j : Nat) : Nat := if j < 9 then x.num j else x.c
theorem number_any (x : Rc) {j : Nat} (hj : 3 ≤ j ∧ j ≤ 10) (w : World) : Calls Try.prog 29 #[x.v, .int .u8 (letterOf j : Int)] w fun e w' => e = .returned (.int .u64 (numR x j : Int)) ∧ Below w.heap.size w w' := by
  obtain ⟨k, p, i, q, e, u, r, c, z, s, n, t⟩ := x
  unfold Rc.v
  simp only
  obtain rfl | rfl | rfl | rfl | rfl | rfl | rfl | rfl : j = 3 ∨ j = 4 ∨ j = 5 ∨ j = 6 ∨ j = 7 ∨ j = 8 ∨ j = 9 ∨ j = 10 := by omega
  all_goals
    simp only [letterOf, numR, Rc.num]
    go_enter Try.func29, Try.ntmps29
    go_wp2
    go_ret
    exact ⟨rfl, below_new _ _⟩
def txR (x : Rc) (j : Nat) : List UInt8 := if j = 9 then x.n else x.t
theorem textOf_any (x : Rc) {j : Nat} (hj : 3 ≤ j ∧ j ≤ 10) (w : World) : Calls Try.prog 27 #[x.v, .int .u8 (letterOf j : Int)] w fun e w' => e = .returned (.string (txt (txR x j))) ∧ Below w.heap.size w w' := by
  obtain ⟨k, p, i, q, e, u, r, c, z, s, n, t⟩ := x
  unfold Rc.v
  simp only
  obtain rfl | rfl | rfl | rfl | rfl | rfl | rfl | rfl : j = 3 ∨ j = 4 ∨ j = 5 ∨ j = 6 ∨ j = 7 ∨ j = 8 ∨ j = 9 ∨ j = 10 := by omega
  all_goals
    simp only [letterOf, txR]
    go_enter Try.func27, Try.ntmps27
    go_wp2
    go_ret
    exact ⟨rfl, below_new _ _⟩
theorem isText_any {j : Nat} (hj : 3 ≤ j ∧ j ≤ 10) (w : World) : Calls Try.prog 25 #[.int .u8 (letterOf j : Int)] w fun e w' => e = .returned (.bool (decide (9 ≤ j))) ∧ w = w' := by
  obtain rfl | rfl | rfl | rfl | rfl | rfl | rfl | rfl : j = 3 ∨ j = 4 ∨ j = 5 ∨ j = 6 ∨ j = 7 ∨ j = 8 ∨ j = 9 ∨ j = 10 := by omega
  all_goals
    simp only [letterOf]
    go_enter Try.func25, Try.ntmps25
    go_wp2
    go_ret
    exact ⟨rfl, rfl⟩
/-- with's answer. -/
def withR (x : Rc) (j m : Nat) (l : List UInt8) : Rc := if j < 9 then x.setN j m else x.setT j l
set_option maxHeartbeats 1000000 in
theorem with_any (x : Rc) {j : Nat} (hj : 3 ≤ j ∧ j ≤ 10) (m : Nat) (l : List UInt8) (w : World) : Calls Try.prog 34 #[x.v, .int .u8 (letterOf j : Int), .int .u64 (m : Int), .string (txt l)] w fun e w' => e = .returned (withR x j m l).v ∧ Below w.heap.size w w' := by
  obtain ⟨k, p, i, q, e, u, r, c, z, s, n, t⟩ := x
  unfold Rc.v
  simp only
  obtain rfl | rfl | rfl | rfl | rfl | rfl | rfl | rfl : j = 3 ∨ j = 4 ∨ j = 5 ∨ j = 6 ∨ j = 7 ∨ j = 8 ∨ j = 9 ∨ j = 10 := by omega
  all_goals
    simp only [letterOf, withR, Rc.setN, Rc.setT]
    go_enter Try.func34, Try.ntmps34
    go_wp2
    exact ret_agg rfl rrecTy (w.heap.size + 1) _ _ (0, 0) rfl rfl (heap_alloc_2 _ _ _) rfl ⟨rfl, below_new2 _ _ _⟩
end Go.Proofs.Ytfhcpjnjemojgaa
