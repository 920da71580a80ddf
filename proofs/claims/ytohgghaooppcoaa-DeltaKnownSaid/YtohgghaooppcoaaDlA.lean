/- Edits as values and cells; slices of them; one behind a list of the call's own. Conditions: lists of at most 2^40. -/
import Derived.Test.YtohgghaooppcoaaDlMath
import Derived.Test.YtohgghaooppcoaaTxt
import Derived.Test.YtohgghaooppcoaaKeep
namespace Go.Proofs.Ytohgghaooppcoaa
open Go.RowKit Go.Lib

def Ed.cells (x : Ed) : List Value := [.int .u8 (x.k.toNat : Int), .int .i64 x.n, .string (txt x.s)]
def Ed.v (x : Ed) : Value := .agg #[.int .u8 (x.k.toNat : Int), .int .i64 x.n, .string (txt x.s)]
/-- Its parts fit. -/
structure Ed.Ok (x : Ed) : Prop where
  lo : -9223372036854775808 ≤ x.n
  hi : x.n ≤ 9223372036854775807
  s : x.s.length ≤ 1099511627
def Oks (l : List Ed) : Prop := ∀ x ∈ l, x.Ok
theorem Oks.get {l : List Ed} {k : Nat} {x : Ed} (h : Oks l) (hx : Hid (l[k]? = some x)) : x.Ok := h x (mem_of_get hx)
theorem Oks.take {l : List Ed} (h : Oks l) (k : Nat) : Oks (l.take k) := fun x hx => h x (List.mem_of_mem_take hx)
theorem Oks.append {l m : List Ed} (h : Oks l) (h' : Oks m) : Oks (l ++ m) := fun x hx => (List.mem_append.1 hx).elim (h x) (h' x)
def ecells (xs : List Ed) : List Value := xs.flatMap Ed.cells
theorem ecell_len (x : Ed) : x.cells.length = 3 := rfl
theorem ecells_len (xs : List Ed) : (ecells xs).length = xs.length * 3 := by
  induction xs with
  | nil => rfl
  | cons x xs ih =>
    unfold ecells at ih ⊢
    rw [List.flatMap_cons, List.length_append, ih, List.length_cons, ecell_len]
    omega
theorem ecells_append (a b : List Ed) : ecells (a ++ b) = ecells a ++ ecells b := by simp [ecells]
theorem ecells_at {xs : List Ed} {k : Nat} {x : Ed} (h : xs[k]? = some x) : ecells xs = ecells (xs.take k) ++ (x.cells ++ ecells (xs.drop (k + 1))) := by
  obtain ⟨hk, e⟩ := List.getElem?_eq_some_iff.1 h
  conv => lhs; rw [← List.take_append_drop k xs, List.drop_eq_getElem_cons hk, e]
  rw [ecells_append]
  rfl
theorem ecells_get {xs : List Ed} {k : Nat} {x : Ed} (h : xs[k]? = some x) {j : Nat} (hj : j < 3) : (ecells xs)[k * 3 + j]? = x.cells[j]? := by
  obtain ⟨hk, _⟩ := List.getElem?_eq_some_iff.1 h
  have hl : (ecells (xs.take k)).length = k * 3 := by rw [ecells_len, List.length_take]; congr 1; omega
  rw [ecells_at h, List.getElem?_append_right (by omega), hl, show k * 3 + j - k * 3 = j by omega, List.getElem?_append_left (by rw [ecell_len]; exact hj)]
theorem ecells_one (xs : List Ed) : ∀ u ∈ ecells xs, u.oneCell' = true := by
  intro u hu
  unfold ecells at hu
  rw [List.mem_flatMap] at hu
  obtain ⟨x, _, hu⟩ := hu
  simp only [Ed.cells, List.mem_cons, List.not_mem_nil, or_false] at hu
  rcases hu with rfl | rfl | rfl <;> rfl
theorem Ed.v_inj {x y : Ed} (h : x.v = y.v) : x = y := by
  obtain ⟨k, n, s⟩ := x
  obtain ⟨k', n', s'⟩ := y
  simp only [Ed.v, Value.agg.injEq, Array.mk.injEq, List.cons.injEq, Value.int.injEq, Value.string.injEq, true_and, and_true] at h
  obtain ⟨h1, h2, h3⟩ := h
  have h1' : k.toNat = k'.toNat := by omega
  rw [UInt8.toNat_inj.1 h1', h2, txt_inj h3]

/-- Edits, as a slice value reads. -/
abbrev RdE (w : World) (B : Nat) (A : Option Addr) (xs : List Ed) : Prop := Reads w B 3 A xs.length (ecells xs)
theorem add_next (a : Addr) (n : Nat) : a.add (n + 1) = ⟨(a.add n).block, (a.add n).off + 1, none⟩ := by
  unfold Addr.add
  by_cases h : n = 0 <;> simp [h, Nat.add_assoc]
theorem add_next2 (a : Addr) (n : Nat) : a.add (n + 2) = ⟨(a.add n).block, (a.add n).off + 2, none⟩ := by
  unfold Addr.add
  by_cases h : n = 0 <;> simp [h, Nat.add_assoc]
section
variable {w w' : World} {B B' : Nat} {A : Option Addr} {xs : List Ed}
theorem RdE.at_ {k : Nat} (h : RdE w B A xs) (hk : k < xs.length) :
    ∃ (ad : Addr) (x : Ed), A = some ad ∧ ad.block < B ∧ w.cell? (ad.add (k * 3)) = some (.int .u8 (x.k.toNat : Int)) ∧ w.cell? ⟨(ad.add (k * 3)).block, (ad.add (k * 3)).off + 1, none⟩ = some (.int .i64 x.n) ∧
      w.cell? ⟨(ad.add (k * 3)).block, (ad.add (k * 3)).off + 2, none⟩ = some (.string (txt x.s)) ∧ Hid (xs[k]? = some x) := by
  obtain ⟨ad, e, hb, hc⟩ := h.2 (by omega)
  have hr : xs[k]? = some xs[k] := List.getElem?_eq_getElem hk
  refine ⟨ad, _, e, hb, hc _ _ (ecells_get hr (j := 0) (by omega)), ?_, ?_, hr⟩
  · rw [← add_next]; exact hc _ _ (ecells_get hr (j := 1) (by omega))
  · rw [← add_next2]; exact hc _ _ (ecells_get hr (j := 2) (by omega))
/-- Edits that are listed anew. -/
theorem RdE.new (w : World) (xs : List Ed) (t : TypeId) : RdE (w.alloc (.cells (ecells xs).toArray t)) (w.heap.size + 1) (some ⟨w.heap.size, 0, none⟩) xs := by
  refine ⟨ecells_len xs, fun _ => ⟨_, rfl, by simp, fun j u hu => ?_⟩⟩
  have hadd : (⟨w.heap.size, 0, none⟩ : Addr).add j = ⟨w.heap.size, j, none⟩ := by unfold Addr.add; split <;> simp_all
  rw [hadd, cell_of_row (w.alloc (.cells (ecells xs).toArray t)) w.heap.size j (ecells xs).toArray t (0, 0) (heap_alloc_new w _)]
  simpa using hu
theorem RdE.nil : RdE w B none [] := Reads.none_
/-- One slice value reads as one list. -/
theorem RdE.one {ys : List Ed} (h : RdE w B A xs) (h' : RdE w B' A ys) (hl : xs.length = ys.length) : xs = ys := by
  apply List.ext_getElem hl
  intro k h1 h2
  obtain ⟨ad, x, rfl, _, a0, a1, a2, hx⟩ := h.at_ h1
  obtain ⟨ad', y, e, _, b0, b1, b2, hy⟩ := h'.at_ h2
  injection e with e
  subst e
  rw [a0] at b0
  rw [a1] at b1
  rw [a2] at b2
  have : x = y := by
    apply Ed.v_inj
    simp only [Option.some.injEq] at b0 b1 b2
    simp only [Ed.v, b0, b1, b2]
  have hx' := hx.out
  have hy' := hy.out
  rw [List.getElem?_eq_getElem h1] at hx'
  rw [List.getElem?_eq_getElem h2] at hy'
  injection hx' with hx'
  injection hy' with hy'
  rw [hx', hy', this]
theorem RdE.part {ad : Addr} (h : RdE w B (some ad) xs) (k m : Nat) (hm : k + m ≤ xs.length) : RdE w B (some (ad.add (k * 3))) ((xs.drop k).take m) := by
  refine ⟨ecells_len _, fun hn => ?_⟩
  have hlen : ((xs.drop k).take m).length = m := by rw [List.length_take, List.length_drop]; omega
  rw [hlen] at hn
  obtain ⟨ad', e, hb, hc⟩ := h.2 (by omega)
  injection e with e
  subst e
  refine ⟨_, rfl, by rw [block_of_add]; exact hb, fun j u hu => ?_⟩
  rw [add_of_add]
  refine hc _ u ?_
  have e1 : ecells xs = ecells (xs.take k) ++ (ecells ((xs.drop k).take m) ++ ecells ((xs.drop k).drop m)) := by
    rw [← ecells_append, List.take_append_drop, ← ecells_append, List.take_append_drop]
  have hl1 : (ecells (xs.take k)).length = k * 3 := by rw [ecells_len, List.length_take]; congr 1; omega
  have hj := (List.getElem?_eq_some_iff.1 hu).1
  rw [e1, List.getElem?_append_right (by omega), hl1, show k * 3 + j - k * 3 = j by omega, List.getElem?_append_left hj]
  exact hu
end

/-- A list of edits that the call owns. -/
abbrev OwnE (e : TypeId) (base : Nat) (w : World) (v : Value) (xs : List Ed) : Prop := w.ownsRow base e 3 v xs.length (ecells xs)
theorem OwnE.nil (e : TypeId) (base : Nat) (w : World) : OwnE e base w (.slice none 0 0) [] := World.ownsRow_nil _ _ _ _
theorem OwnE.reads {e : TypeId} {base : Nat} {w : World} {v : Value} {xs : List Ed} (h : OwnE e base w v xs) : ∃ A c, v = .slice A xs.length c ∧ xs.length ≤ c ∧ c ≤ maxLen ∧ RdE w w.heap.size A xs := own_form h

/-- A type of slices of edits. -/
def EdSl (t e : TypeId) : Prop := Try.prog.underlying t = some (.slice e) ∧ (Try.prog.info? e).map (fun i => (i.zero, i.size, i.bytes)) = some (some (.agg #[.int .u8 0, .int .i64 0, .string ByteArray.empty]), 3, 32)
theorem edSl1 : EdSl 22 47 := ⟨Try.underlying22, by kernel_rfl⟩
theorem edSl2 : EdSl 25 61 := ⟨Try.underlying25, by kernel_rfl⟩
section
variable {ops : Array Oper} {rest : List Oper} {o : Oper} {a : Act} {Q : Exit → Act → World → Prop} {w : World} {base : Nat} {v : Value}
/-- A row of edits behind a list of the call's own. -/
theorem push_eds {t e : TypeId} (ht : EdSl t e) (s x : Operand) {own new : List Ed} {B n : Nat} {A : Option Addr} {c : Nat} (hn : new.length = n) (hown : OwnE e base w v own) (hbase : base ≤ w.heap.size) (hr : RdE w B A new) (hl : own.length + n ≤ 1099511627776)
    (hgd : o.guard = none) (ho : o.op = .call { callee := .builtin .append, args := #[s, x], argTypes := #[t, t] })
    (hs : a.eval s = v) (hx : a.eval x = .slice A n c)
    (h : ∀ v' w', OwnE e base w' v' (own ++ new) → Below base w w' → base ≤ w'.heap.size → w.heap.size ≤ w'.heap.size → Kept v v' w w' → wpList Try.prog ops Q rest (a.put o.dst v') w') :
    wpList Try.prog ops Q (o :: rest) a w := by
  subst hn
  obtain ⟨hu, hi⟩ := ht
  obtain ⟨i0, hi0, hz0, hz1, hz2⟩ := info_parts hi
  refine wpList_append_any _ hgd s x t ho base e i0 _ 3 32 hu hi0 hz0 hz1 hz2 rfl (by omega) v _ _ hs hown B A new.length c (ecells new) hx hr (ecells_one _) (by simp only [maxLen]; omega) (by omega) hbase ?_
  intro v1 w1 h1 h2 h3
  have hb := grown_below hown h2 hbase
  refine h v1 w1 ?_ hb (Nat.le_trans hbase hb.size) h2.size (Kept.of h2 h3)
  unfold OwnE
  rw [ecells_append, List.length_append]
  exact h1
/-- An edit behind a list of the call's own. -/
theorem push_ed {t e : TypeId} (ht : EdSl t e) {N : Nat} (s x : Operand) {own : List Ed} (f : Ed) {ki ni : Int} {sv : ByteArray} (hk : ki = (f.k.toNat : Int)) (hni : ni = f.n) (hsv : sv = txt f.s) (hown : OwnE e base w v own) (hbase : base ≤ w.heap.size) (hl : own.length ≤ 1099511627)
    (hgd : o.guard = none) (ho : o.op = .call { callee := .builtin .append, args := #[s, x], argTypes := #[t, t] })
    (hs : a.eval s = v) (hx : a.eval x = .slice (some ⟨N, 0, none⟩) 1 1) (hN : w.heap.size = N)
    (h : ∀ v' w', OwnE e base w' v' (own ++ [f]) → Below base w w' → base ≤ w'.heap.size → w.heap.size ≤ w'.heap.size → Kept v v' w w' → wpList Try.prog ops Q rest (a.put o.dst v') w') :
    wpList Try.prog ops Q (o :: rest) a (w.alloc (.cells #[.int .u8 ki, .int .i64 ni, .string sv] e)) := by
  subst hN hk hni hsv
  have hb0 : Below base w (w.alloc (.cells (ecells [f]).toArray e)) := (Below.refl base w).alloc hbase _
  refine push_eds ht s x (B := w.heap.size + 1) (c := 1) (n := 1) (new := [f]) rfl (hown.alloc (.cells (ecells [f]).toArray e)) (by simp; omega) (RdE.new w [f] e) (by omega) hgd ho hs hx ?_
  intro v1 w1 h1 h2 h3 h4 h5
  exact h v1 w1 h1 (hb0.trans h2) h3 (Nat.le_trans (by simp) h4) (Kept.alloc h5)
end

/-! ### answers that lie in a block -/
theorem size_ed1 : (Try.prog.info? 47).map (·.size) = some 3 := by kernel_rfl
/-- A variable of this type, of so many cells, reads as its cells. -/
def AggTy (ty : TypeId) (m : Nat) : Prop := ∀ (w : World) (g : Nat) (t : TypeId) (cs : Array Value) (fr : Nat × Nat), cs.size = m → w.heap[g]? = some (.cells cs t fr) → (loadVar ty ⟨g, 0, none⟩).run Try.prog w = .ok (.agg cs) w
theorem ed1Ty : AggTy 47 3 := fun w g t cs fr hs hg => run_loadVar_row w g t _ cs fr _ hg Try.underlying47 rfl (by rw [hs]; exact size_ed1)
theorem ret_agg {fn : Func} {R : Ending → World → Prop} {p : Tmp} {ty : TypeId} {m : Nat} (h : fn.results = #[.cell p ty]) (hty : AggTy ty m) {a : Act} {w : World} (g : Nat) (cs : Array Value) (t : TypeId) (fr : Nat × Nat) (hm : cs.size = m)
    (hp : a.tmps.getD p undef = .pointer (some ⟨g, 0, none⟩)) (hg : w.heap[g]? = some (.cells cs t fr)) (hd : a.defers = []) (hR : R (.returned (.agg cs)) w) : bodyPost Try.prog fn R .ret a w := by
  refine bodyPost_ret (v := .agg cs) ?_ hd hR
  have hp' : a.tmps[p]?.getD undef = .pointer (some ⟨g, 0, none⟩) := by simpa using hp
  simp [results, h, hp', asAddr, hty w g t cs fr hm hg]

/-! ### is an edit right? -/
theorem ret_b {a b : Bool} (h : a = b) : Ending.returned (.bool a) = .returned (.bool b) := by rw [h]
theorem u8_lit {k : UInt8} {m : Nat} (hm : m < 256) : ((k.toNat : Int) = (m : Int)) ↔ k = UInt8.ofNat m := by
  constructor
  · intro h
    exact UInt8.toNat_inj.1 (by rw [u8_toNat hm]; omega)
  · rintro rfl
    rw [u8_toNat hm]
theorem rt_spell (k : UInt8) (n : Int) (s : List UInt8) : rt ⟨k, n, s⟩ = if (k.toNat : Int) = 2 then decide (n = 0) && !s.isEmpty else (decide ((k.toNat : Int) = 1) || decide ((k.toNat : Int) = 3)) && (decide (1 ≤ n) && (decide (n ≤ 2147483647) && s.isEmpty)) := by
  have h1 := u8_lit (k := k) (m := 1) (by omega)
  have h2 := u8_lit (k := k) (m := 2) (by omega)
  have h3 := u8_lit (k := k) (m := 3) (by omega)
  have e1 : UInt8.ofNat 1 = 1 := rfl
  have e2 : UInt8.ofNat 2 = 2 := rfl
  have e3 : UInt8.ofNat 3 = 3 := rfl
  rw [e1] at h1
  rw [e2] at h2
  rw [e3] at h3
  have he : s.isEmpty = decide (s = []) := by cases s <;> simp
  simp only [Int.cast_ofNat_Int] at h1 h2 h3
  unfold rt
  simp only [h1, h2, h3, he]
  by_cases hk : k = 2
  · rw [if_pos hk, if_pos hk]
    simp
  · rw [if_neg hk, if_neg hk]
    simp [Bool.decide_and, Bool.decide_or]
theorem rt_way {k : UInt8} {n : Int} {s : List UInt8} {b : Bool} (h : b = if (k.toNat : Int) = 2 then decide (n = 0) && !s.isEmpty else (decide ((k.toNat : Int) = 1) || decide ((k.toNat : Int) = 3)) && (decide (1 ≤ n) && (decide (n ≤ 2147483647) && s.isEmpty))) : Ending.returned (.bool b) = .returned (.bool (rt ⟨k, n, s⟩)) := by
  rw [rt_spell, h]
set_option maxHeartbeats 1000000 in
set_option maxRecDepth 100000 in
theorem right_any (x : Ed) (w : World) :
    Calls Try.prog 34 #[x.v] w fun e w' => e = .returned (.bool (rt x)) ∧ Below w.heap.size w w' := by
  unfold Ed.v
  obtain ⟨k, n, s⟩ := x
  simp only
  go_enter Try.func34, Try.ntmps34
  go_wp2
  all_goals
    go_ret
    refine ⟨rt_way ?_, (Below.refl _ _).alloc (Nat.le_refl _) _⟩
    simp only [beq_iff_eq, beq_eq_false_iff_ne, ne_eq] at *
    have hk := k.toNat_lt
    simp (config := { decide := true }) [*, txt_isEmpty]
    try omega
set_option maxHeartbeats 1000000 in
set_option maxRecDepth 100000 in
theorem refRight_any (x : Ed) (w : World) (hs : x.s.length ≤ 9223372036854775807) :
    Calls Try.prog 35 #[x.v] w fun e w' => e = .returned (.bool (rt x)) ∧ Below w.heap.size w w' := by
  unfold Ed.v
  obtain ⟨k, n, s⟩ := x
  simp only at hs ⊢
  have hsz : ((txt s).size : Int) ≤ 9223372036854775807 := by rw [txt_size]; omega
  go_enter Try.func35, Try.ntmps35
  go_wp2
  all_goals
    go_ret
    refine ⟨rt_way ?_, (Below.refl _ _).alloc (Nat.le_refl _) _⟩
    simp only [beq_iff_eq, beq_eq_false_iff_ne, ne_eq] at *
    have hk := k.toNat_lt
    simp (config := { decide := true }) [*, txt_size]
    try first
      | omega
      | (cases s <;> simp <;> omega)
end Go.Proofs.Ytohgghaooppcoaa
