/- Lists of entries that a call owns; slices.SortFunc over them by names: in order. Conditions: at most 2^40. -/
import Derived.Test.YtdnbflhpgfgnnaaDrF
namespace Go.Proofs.Ytdnbflhpgfgnnaa
open Go.RowKit Go.Lib Go.Sort

theorem enC_len (x : En) : (enC x).length = 2 := rfl
theorem enC_one (x : En) : ∀ v ∈ enC x, v.oneCell' = true := by
  intro u hu
  simp only [enC, List.mem_cons, List.not_mem_nil, or_false] at hu
  rcases hu with rfl | rfl <;> rfl
/-- A block that holds these entries, and room behind them. -/
def RowEn (w : World) (g : Nat) (e : TypeId) (xs : List En) (rest : List Value) : Prop := w.heap[g]? = some (.cells (ecells xs ++ rest).toArray e (0, 0))
theorem RowEn.lt {w : World} {g : Nat} {e : TypeId} {xs : List En} {rest : List Value} (h : RowEn w g e xs rest) : g < w.heap.size := (Array.getElem?_eq_some_iff.1 h).1
/-- A list of entries that the call owns. -/
abbrev OwnEn (e : TypeId) (base : Nat) (w : World) (v : Value) (xs : List En) : Prop := w.ownsRow base e 2 v xs.length (ecells xs)
theorem OwnEn.nil (e : TypeId) (base : Nat) (w : World) : OwnEn e base w (.slice none 0 0) [] := World.ownsRow_nil _ _ _ _
theorem OwnEn.form {e : TypeId} {base : Nat} {w : World} {v : Value} {xs : List En} (h : OwnEn e base w v xs) : (v = .slice none 0 0 ∧ xs = []) ∨ ∃ g cap rest, v = .slice (some ⟨g, 0, none⟩) xs.length cap ∧ base ≤ g ∧ RowEn w g e xs rest ∧ xs.length ≤ cap ∧ cap ≤ maxLen ∧ (ecells xs ++ rest).length = cap * 2 := by
  rcases h.2 with ⟨rfl, hn⟩ | ⟨g, cap, cur, rfl, hb, hg, hnc, hcm, hs, ht⟩
  · exact .inl ⟨rfl, List.eq_nil_of_length_eq_zero hn⟩
  · refine .inr ⟨g, cap, cur.toList.drop (xs.length * 2), rfl, hb, ?_, hnc, hcm, ?_⟩
    · unfold RowEn
      rw [← ht, List.take_append_drop, Array.toArray_toList]
      exact hg
    · rw [← ht, List.take_append_drop, Array.length_toList, hs]
theorem OwnEn.of {e : TypeId} {base : Nat} {w : World} {xs : List En} {g cap : Nat} {rest : List Value} (hb : base ≤ g) (h : RowEn w g e xs rest) (h1 : xs.length ≤ cap) (h2 : cap ≤ maxLen) (h3 : (ecells xs ++ rest).length = cap * 2) : OwnEn e base w (.slice (some ⟨g, 0, none⟩) xs.length cap) xs := by
  refine ⟨ecells_len xs, .inr ⟨g, cap, _, rfl, hb, h, h1, h2, by simpa using h3, ?_⟩⟩
  rw [← ecells_len]
  exact List.take_left
/-- A type of slices of entries. -/
def EnSl (t e : TypeId) : Prop := Try.prog.underlying t = some (.slice e) ∧ (Try.prog.info? e).map (fun i => (i.zero, i.size, i.bytes)) = some (some (.agg #[.string ByteArray.empty, .int .i64 0]), 2, 24)
theorem enSl1 : EnSl 38 66 := ⟨Try.underlying38, by kernel_rfl⟩
theorem enSl2 : EnSl 27 55 := ⟨Try.underlying27, by kernel_rfl⟩
section
variable {ops : Array Oper} {rest : List Oper} {o : Oper} {a : Act} {Q : Exit → Act → World → Prop} {w : World} {base : Nat} {v : Value}
/-- An entry behind a list of the call's own. -/
theorem push_en {t e : TypeId} (ht : EnSl t e) {N : Nat} (s x : Operand) {own : List En} (f : En) (hown : OwnEn e base w v own) (hbase : base ≤ w.heap.size) (hl : own.length ≤ 1099511627776)
    (hgd : o.guard = none) (ho : o.op = .call { callee := .builtin .append, args := #[s, x], argTypes := #[t, t] })
    (hs : a.eval s = v) (hx : a.eval x = .slice (some ⟨N, 0, none⟩) 1 1) (hN : w.heap.size = N)
    (h : ∀ v' w', OwnEn e base w' v' (own ++ [f]) → w.grownBy w' v.ownBlock → (v'.ownBlock = v.ownBlock ∨ v'.ownBlock = some (w.heap.size + 1)) → Below base w w' → wpList Try.prog ops Q rest (a.put o.dst v') w') :
    wpList Try.prog ops Q (o :: rest) a (w.alloc (.cells #[.string (txt f.1), .int .i64 f.2] e)) := by
  subst hN
  obtain ⟨hu, hi⟩ := ht
  obtain ⟨i0, hi0, hz0, hz1, hz2⟩ := info_parts hi
  have hnew : Reads (w.alloc (.cells (ecells [f]).toArray e)) (w.heap.size + 1) 2 (some ⟨w.heap.size, 0, none⟩) 1 (ecells [f]) := by
    refine ⟨ecells_len [f], fun _ => ⟨_, rfl, by simp, fun j u hu => ?_⟩⟩
    rw [lit_add, Nat.zero_add, cell_of_row (w.alloc (.cells (ecells [f]).toArray e)) w.heap.size j (ecells [f]).toArray e (0, 0) (heap_alloc_new w _)]
    simpa using hu
  refine wpList_append_any _ hgd s x t ho base e i0 _ 2 24 hu hi0 hz0 hz1 hz2 rfl (by omega) v _ _ hs (hown.alloc _) (w.heap.size + 1) _ 1 1 (ecells [f]) hx hnew (ecells_one _) (by simp only [maxLen]; omega) (by omega) (by simp; omega) ?_
  intro v1 w1 h1 h2 h3
  have hb := ((Below.refl base w).alloc hbase _).trans (grown_below (hown.alloc (.cells (ecells [f]).toArray e)) h2 (by simp; omega))
  refine h v1 w1 ?_ ⟨h2.os, h2.tape, h2.output, Nat.le_trans (by simp) h2.size, fun k hk hne => (h2.block k (by simp; omega) hne).trans (heap_alloc_old w _ hk)⟩ (by simpa using h3) hb
  have h1' : OwnEn e base w1 v1 (own ++ [f]) := by
    unfold OwnEn
    rw [ecells_append, List.length_append]
    exact h1
  exact h1'
end

/-! ### in order -/
def cmpE (x y : En) : Int := compareBytes x.1 y.1
theorem ltE (x y : En) : ltOf cmpE x y = blt x.1 y.1 := by
  unfold ltOf cmpE
  exact cmp_lt x.1 y.1
theorem swo_en : SWO (ltOf cmpE) where
  irrefl x := by rw [ltE]; exact blt_irrefl _
  trans x y z h1 h2 := by rw [ltE] at *; exact blt_trans h1 h2
  ntrans x y z h1 h2 := by
    rw [ltE] at *
    cases h : blt x.1 z.1
    · rfl
    · by_cases e : x.1 = y.1
      · rw [e] at h; rw [h] at h2; cases h2
      · rcases blt_total e with h3 | h3
        · rw [h3] at h1; cases h1
        · rw [blt_trans h3 h] at h2; cases h2
theorem get_en (x : En) (j : Nat) (hj : j < 2) : (enC x)[j]? = some ((enC x)[j]!) := by
  rw [List.getElem!_eq_getElem?_getD, List.getElem?_eq_getElem (show j < (enC x).length from hj)]
  rfl
theorem flat_en (xs : List En) {t : Nat} (ht : t < xs.length * 2) : (ecells xs)[t]? = some ((flatK enC 2 xs.toArray)[t]!) := by
  have h6 : t % 2 < 2 := Nat.mod_lt _ (by decide)
  have hk : t / 2 < xs.length := by omega
  have hx : xs[t / 2]? = some xs[t / 2] := List.getElem?_eq_getElem hk
  rw [get_flatK enC 2 xs.toArray t (by simpa using ht)]
  have e : (xs.toArray)[t / 2]! = xs[t / 2] := by
    rw [getElem!_pos xs.toArray (t / 2) (by simpa using hk)]
    simp
  rw [e, ← get_en _ _ h6]
  obtain ⟨h1, h2⟩ := ecells_get hx
  rcases (show t % 2 = 0 ∨ t % 2 = 1 by omega) with h | h
  · have e2 : t = t / 2 * 2 := by omega
    rw [h]
    conv => lhs; rw [e2]
    rw [h1]
    rfl
  · have e2 : t = t / 2 * 2 + 1 := by omega
    rw [h]
    conv => lhs; rw [e2]
    rw [h2]
    rfl
theorem RowEn.holds {w : World} {g : Nat} {e : TypeId} {xs : List En} {rest : List Value} (h : RowEn w g e xs rest) : HoldsK enC 2 w g 0 xs.toArray := by
  intro j hj
  rw [size_flatK] at hj
  simp only [List.size_toArray] at hj
  rw [Nat.zero_add]
  constructor
  · rw [cell_of_row w g j _ _ _ h, List.getElem?_toArray, List.getElem?_append_left (by rw [ecells_len]; exact hj)]
    exact flat_en xs hj
  · unfold RowEn at h
    simp [World.frozen?, h]
theorem RowEn.sorted {w : World} {g : Nat} {e : TypeId} {xs ys : List En} {rest : List Value} (h : RowEn w g e xs rest) (hl : ys.length = xs.length) (n : Nat) (os : Array Obj) : RowEn (sortWorldK enC 2 w g 0 n ys.toArray os) g e ys rest := by
  have hlt := h.lt
  unfold sortWorldK putRowK putRow mapBlock grow RowEn Go.Sort.ahead
  simp only
  rw [Array.getElem?_append_left (by simpa using hlt), Array.getElem?_modify, if_pos rfl]
  unfold RowEn at h
  rw [h]
  simp only [Option.map_some, onCells, Option.some.injEq, Obj.cells.injEq, and_self, and_true]
  apply Array.ext_getElem?
  intro t
  unfold putCells
  rw [Array.getElem?_mapIdx, List.getElem?_toArray, List.getElem?_toArray, size_flatK]
  simp only [List.size_toArray, Nat.zero_le, true_and, Nat.zero_add, Nat.sub_zero, id]
  by_cases ht : t < ys.length * 2
  · rw [List.getElem?_append_left (by rw [ecells_len]; omega), List.getElem?_append_left (by rw [ecells_len]; exact ht), flat_en ys ht, flat_en xs (by omega)]
    simp [ht]
  · rw [List.getElem?_append_right (by rw [ecells_len]; omega), List.getElem?_append_right (by rw [ecells_len]; omega), ecells_len, ecells_len, hl]
    cases hr : rest[t - xs.length * 2]? with
    | none => rfl
    | some u =>
      simp [ht]
      intro h'
      omega
theorem below_sortedE {w : World} {g base : Nat} (hb : base ≤ g) (hbase : base ≤ w.heap.size) (n : Nat) (d : Array En) (os : Array Obj) : Below base w (sortWorldK enC 2 w g 0 n d os) := by
  unfold sortWorldK putRowK putRow mapBlock grow Go.Sort.ahead
  refine ⟨rfl, rfl, rfl, by simp, fun k hk => ?_⟩
  simp only
  rw [Array.getElem?_append_left (by simpa using Nat.lt_of_lt_of_le hk hbase), Array.getElem?_modify, if_neg (by omega)]
theorem sorted_is {m : List En} (hm : Srt m) {l : List En} (hp : l.Perm m) {d : Array En} (h1 : PermIn 0 l.toArray.size l.toArray d) (h2 : SortedIn (ltOf cmpE) 0 l.toArray.size d) : d.toList = m := by
  obtain ⟨hs, _, hpe⟩ := h1
  simp only [List.size_toArray] at hs h2 hpe
  have e1 : (d.extract 0 l.length).toList = d.toList := by rw [← hs, Array.extract_size]
  have e2 : (l.toArray.extract 0 l.length).toList = l := by
    have : l.toArray.extract 0 l.toArray.size = l.toArray := Array.extract_size
    rw [List.size_toArray] at this
    rw [this]
  rw [e1, e2] at hpe
  have hpm : d.toList.Perm m := hpe.trans hp
  have hnd : d.toList.Nodup := hpm.nodup_iff.2 (hm.imp fun {a b} h => by intro e; rw [e] at h; exact (blt_ne h) rfl)
  refine srt_ext ?_ hm fun x => hpm.mem_iff
  unfold Srt
  rw [List.pairwise_iff_getElem]
  intro i j hi hj hij
  have hi' : i < d.size := by simpa using hi
  have hj' : j < d.size := by simpa using hj
  have h3 := h2 i j (Nat.zero_le _) hij (by omega)
  rw [ltE, getElem!_pos d j hj', getElem!_pos d i hi'] at h3
  simp only [Array.getElem_toList]
  have hne : d[i].1 ≠ d[j].1 := by
    intro e
    have m1 : d[i] ∈ m := hpm.mem_iff.1 (by simp)
    have m2 : d[j] ∈ m := hpm.mem_iff.1 (by simp)
    have e3 : d[i].2 = d[j].2 := srt_one hm (k := d[i].1) (v := d[i].2) (v' := d[j].2) m1 (by rw [e]; exact m2)
    have e4 : d[i] = d[j] := Prod.ext e e3
    have := (List.pairwise_iff_getElem.1 hnd) i j hi hj hij
    simp only [Array.getElem_toList] at this
    exact this e4
  rcases blt_total hne with h | h
  · exact h
  · rw [h] at h3; cases h3
set_option maxHeartbeats 1000000 in
theorem cmpString_any (a b : ByteArray) (w : World) : Calls Try.prog 42 #[.string a, .string b] w fun e w' => e = .returned (.int .i64 (Lib.compareBytes a.data.toList b.data.toList)) ∧ w' = w := by
  go_enter Try.func42, Try.ntmps42
  go_wp2
  rw [run_callFunc_extern Try.func60 (by kernel_rfl) (by kernel_rfl) (by kernel_rfl) (e := Extern.BytealgCompare.compare) (by kernel_rfl), Lib.run_compareString]
  simp only [Result.andThen]
  rw [Oper.upon_value]
  go_wp2
  go_ret
  exact ⟨rfl, rfl⟩
set_option maxHeartbeats 1000000 in
theorem compare_any (a b : ByteArray) (w : World) : Calls Try.prog 31 #[.string a, .string b] w fun e w' => e = .returned (.int .i64 (Lib.compareBytes a.data.toList b.data.toList)) ∧ w' = w := by
  go_enter Try.func31, Try.ntmps31
  go_wp2_with (go_at_call 42; refine (cmpString_any _ _ _).mono ?_; rintro e w1 ⟨rfl, rfl⟩)
  go_ret
  exact ⟨rfl, rfl⟩
set_option maxHeartbeats 1000000 in
theorem cmpE_any (x y : En) (w : World) : Calls Try.prog 30 #[.agg (enC x).toArray, .agg (enC y).toArray] w fun e w' => e = .returned (.int .i64 (cmpE x y)) ∧ Grew w w' := by
  have hx : (.agg (enC x).toArray : Value) = .agg #[.string (txt x.1), .int .i64 x.2] := rfl
  have hy : (.agg (enC y).toArray : Value) = .agg #[.string (txt y.1), .int .i64 y.2] := rfl
  rw [hx, hy]
  have hb : Hid (Grew w ((w.alloc (.cells #[.string (txt x.1), .int .i64 x.2] 66)).alloc (.cells #[.string (txt y.1), .int .i64 y.2] 66))) := ⟨(below_new _ _).alloc (by simp) _, Nat.le_refl _⟩
  obtain ⟨W, hW⟩ : ∃ W, Hid ((w.alloc (.cells #[.string (txt x.1), .int .i64 x.2] 66)).alloc (.cells #[.string (txt y.1), .int .i64 y.2] 66) = W) := ⟨_, rfl⟩
  have c0 : W.cell? ⟨w.heap.size, 0, none⟩ = some (.string (txt x.1)) := by
    rw [← hW.out, World.cell?_alloc_lt _ _ _ (by simp)]
    exact (two_cells (heap_alloc_new w _)).1
  have c1 : W.cell? ⟨w.heap.size + 1, 0, none⟩ = some (.string (txt y.1)) := by
    rw [← hW.out]
    simp
  go_enter Try.func30, Try.ntmps30
  go_upto_region 1 with fail
  rw [hW.out]
  go_wp2_with (go_at_call 31; refine (compare_any _ _ _).mono ?_; rintro e w1 ⟨rfl, rfl⟩)
  go_ret
  exact ⟨rfl, by rw [← hW.out]; exact hb.out⟩
theorem cmpLays_en (blk off size : Nat) (w : World) : CmpLays Try.prog 30 #[] enC 2 cmpE blk off size w :=
  fun _ _ _ _ x y => (cmpE_any x y _).mono fun _ _ ⟨h1, h2⟩ => ⟨h1, h2.out⟩
theorem enter_cmpE (w : World) (args : Array Value) : (callFunc 30 args).run Try.prog w = .ok (.enter 30 args) w := by kernel_rfl
theorem sort_en {base : Nat} {v : Value} {l m : List En} (w : World) (h : OwnEn 66 base w v l) (hbase : base ≤ w.heap.size) (hl : l.length ≤ 1099511627776) (hm : Srt m) (hp : l.Perm m) :
    Calls Try.prog 29 #[v, .func (.func 30) #[] #[]] w fun e w' => e = .returned (.tuple #[]) ∧ OwnEn 66 base w' v m ∧ Go.RowKit.Below base w w' := by
  rcases h.form with ⟨rfl, rfl⟩ | ⟨g, cap, rest, rfl, hb, hr, h1, h2, h3⟩
  · refine (AnyF.slices_SortFunc_none Try.laysSort none 0 (.func (.func 30) #[] #[]) w).mono ?_
    rintro e w' ⟨rfl, rfl⟩
    have : m = [] := List.Perm.nil_eq hp |>.symm
    subst this
    exact ⟨rfl, OwnEn.nil _ _ _, .refl _ _⟩
  · have eg : ∀ args w, (callFunc 30 args).run Try.prog w = .ok (.enter 30 args) w := fun args w => enter_cmpE w args
    have hcon := AnyQ.slices_SortFunc Try.laysSort 2 Try.isAgg66 Try.sizeOf66 enC (fun x => enC_len x) (fun x => enC_one x) cmpE swo_en 30 #[] g 0 cap l.toArray w eg (cmpLays_en g 0 _ w) hr.holds hr.lt (by simp only [List.size_toArray]; omega)
    simp only [List.size_toArray] at hcon
    refine hcon.mono ?_
    rintro e w' ⟨rfl, d, n, os, hp1, hs1, rfl⟩
    have hd : d.toList = m := sorted_is hm hp (by simpa using hp1) (by simpa using hs1)
    have hlen : m.length = l.length := hp.length_eq.symm
    refine ⟨rfl, ?_, below_sortedE hb hbase _ _ _⟩
    have hr' := hr.sorted (ys := m) hlen n os
    rw [← hd, Array.toArray_toList] at hr'
    rw [← hlen]
    rw [hd] at hr'
    exact OwnEn.of hb hr' (by omega) h2 (by rw [List.length_append, ecells_len, hlen, ← ecells_len, ← List.length_append]; exact h3)
end Go.Proofs.Ytdnbflhpgfgnnaa
