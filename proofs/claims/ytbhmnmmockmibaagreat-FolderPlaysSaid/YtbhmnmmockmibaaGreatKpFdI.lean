/- Lists of entries that a call owns; slices.SortFunc over them by names: in order. Conditions: at most 2^40. The walk of List. Conditions: at most 1000 operations. slices.Backward over pending operations: the iterator's contract. Conditions: at most 1000 operations. -/
import Derived.Test.YtbhmnmmockmibaaGreatKpFdE
import Derived.RangeFuncNested
import Derived.RangeFuncLeaves
import Derived.Shelf.Abstract
import Derived.OwnWalkIn
import Derived.TacticsInMore
import Derived.LoopNIn
import Derived.LoopIn
namespace Go.Proofs.YtbhmnmmockmibaaGreat
open Go.RowKit Go.Lib Go.Sort
theorem enC_lenD (x : EnD) : (enCD x).length = 2 := rfl
theorem enC_oneD (x : EnD) : ∀ v ∈ enCD x, v.oneCell' = true := by
  intro u hu
  simp only [enCD, List.mem_cons, List.not_mem_nil, or_false] at hu
  rcases hu with rfl | rfl <;> rfl
def RowEnD (w : World) (g : Nat) (e : TypeId) (xs : List EnD) (rest : List Value) : Prop := w.heap[g]? = some (.cells (ecellsD xs ++ rest).toArray e (0, 0))
theorem RowEnD.lt {w : World} {g : Nat} {e : TypeId} {xs : List EnD} {rest : List Value} (h : RowEnD w g e xs rest) : g < w.heap.size := (Array.getElem?_eq_some_iff.1 h).1
abbrev OwnEnD (e : TypeId) (base : Nat) (w : World) (v : Value) (xs : List EnD) : Prop := w.ownsRow base e 2 v xs.length (ecellsD xs)
theorem OwnEnD.nil (e : TypeId) (base : Nat) (w : World) : OwnEnD e base w (.slice none 0 0) [] := World.ownsRow_nil _ _ _ _
theorem OwnEnD.form {e : TypeId} {base : Nat} {w : World} {v : Value} {xs : List EnD} (h : OwnEnD e base w v xs) : (v = .slice none 0 0 ∧ xs = []) ∨ ∃ g cap rest, v = .slice (some ⟨g, 0, none⟩) xs.length cap ∧ base ≤ g ∧ RowEnD w g e xs rest ∧ xs.length ≤ cap ∧ cap ≤ maxLen ∧ (ecellsD xs ++ rest).length = cap * 2 := by
  rcases h.2 with ⟨rfl, hn⟩ | ⟨g, cap, cur, rfl, hb, hg, hnc, hcm, hs, ht⟩
  · exact .inl ⟨rfl, List.eq_nil_of_length_eq_zero hn⟩
  · refine .inr ⟨g, cap, cur.toList.drop (xs.length * 2), rfl, hb, ?_, hnc, hcm, ?_⟩
    · unfold RowEnD
      rw [← ht, List.take_append_drop, Array.toArray_toList]
      exact hg
    · rw [← ht, List.take_append_drop, Array.length_toList, hs]
theorem OwnEnD.of {e : TypeId} {base : Nat} {w : World} {xs : List EnD} {g cap : Nat} {rest : List Value} (hb : base ≤ g) (h : RowEnD w g e xs rest) (h1 : xs.length ≤ cap) (h2 : cap ≤ maxLen) (h3 : (ecellsD xs ++ rest).length = cap * 2) : OwnEnD e base w (.slice (some ⟨g, 0, none⟩) xs.length cap) xs := by
  refine ⟨ecells_lenD xs, .inr ⟨g, cap, _, rfl, hb, h, h1, h2, by simpa using h3, ?_⟩⟩
  rw [← ecells_lenD]
  exact List.take_left
def EnSlD (t e : TypeId) : Prop := Tryz.prog.underlying t = some (.slice e) ∧ (Tryz.prog.info? e).map (fun i => (i.zero, i.size, i.bytes)) = some (some (.agg #[.string ByteArray.empty, .int .i64 0]), 2, 24)
theorem enSl1D : EnSlD 118 120 := ⟨Tryz.underlying118, by kernel_rfl⟩
theorem enSl2D : EnSlD 27 97 := ⟨Tryz.underlying27, by kernel_rfl⟩
section
variable {ops : Array Oper} {rest : List Oper} {o : Oper} {a : Act} {Q : Exit → Act → World → Prop} {w : World} {base : Nat} {v : Value}
theorem push_enD {t e : TypeId} (ht : EnSlD t e) {N : Nat} (s x : Operand) {own : List EnD} (f : EnD) (hown : OwnEnD e base w v own) (hbase : base ≤ w.heap.size) (hl : own.length ≤ 1099511627776)
    (hgd : o.guard = none) (ho : o.op = .call { callee := .builtin .append, args := #[s, x], argTypes := #[t, t] })
    (hs : a.eval s = v) (hx : a.eval x = .slice (some ⟨N, 0, none⟩) 1 1) (hN : w.heap.size = N)
    (h : ∀ v' w', OwnEnD e base w' v' (own ++ [f]) → w.grownBy w' v.ownBlock → (v'.ownBlock = v.ownBlock ∨ v'.ownBlock = some (w.heap.size + 1)) → Below base w w' → wpList Tryz.prog ops Q rest (a.put o.dst v') w') :
    wpList Tryz.prog ops Q (o :: rest) a (w.alloc (.cells #[.string (txt f.1), .int .i64 f.2] e)) := by
  subst hN
  obtain ⟨hu, hi⟩ := ht
  obtain ⟨i0, hi0, hz0, hz1, hz2⟩ := info_parts hi
  have hnew : Reads (w.alloc (.cells (ecellsD [f]).toArray e)) (w.heap.size + 1) 2 (some ⟨w.heap.size, 0, none⟩) 1 (ecellsD [f]) := by
    refine ⟨ecells_lenD [f], fun _ => ⟨_, rfl, by simp, fun j u hu => ?_⟩⟩
    rw [lit_add, Nat.zero_add, cell_of_row (w.alloc (.cells (ecellsD [f]).toArray e)) w.heap.size j (ecellsD [f]).toArray e (0, 0) (heap_alloc_new w _)]
    simpa using hu
  refine wpList_append_any _ hgd s x t ho base e i0 _ 2 24 hu hi0 hz0 hz1 hz2 rfl (by omega) v _ _ hs (hown.alloc _) (w.heap.size + 1) _ 1 1 (ecellsD [f]) hx hnew (ecells_oneD _) (by simp only [maxLen]; omega) (by omega) (by simp; omega) ?_
  intro v1 w1 h1 h2 h3
  have hb := ((Below.refl base w).alloc hbase _).trans (grown_below (hown.alloc (.cells (ecellsD [f]).toArray e)) h2 (by simp; omega))
  refine h v1 w1 ?_ ⟨h2.os, h2.tape, h2.output, Nat.le_trans (by simp) h2.size, fun k hk hne => (h2.block k (by simp; omega) hne).trans (heap_alloc_old w _ hk)⟩ (by simpa using h3) hb
  have h1' : OwnEnD e base w1 v1 (own ++ [f]) := by
    unfold OwnEnD
    rw [ecells_appendD, List.length_append]
    exact h1
  exact h1'
end
def cmpE (x y : EnD) : Int := compareBytes x.1 y.1
theorem ltE (x y : EnD) : ltOf cmpE x y = blt x.1 y.1 := by
  unfold ltOf cmpE
  exact cmp_lt x.1 y.1
theorem swo_en : SWO (ltOf cmpE) where
  irrefl x := by rw [ltE]; exact blt_irrefl _
  trans x y z h1 h2 := by rw [ltE] at *; exact blt_trans h1 h2
  ntrans x y z h1 h2 := by
    rw [ltE] at *
    cases h : blt x.1 z.1
    · rfl
    · by_cases e : x.1 = y.1
      · rw [e] at h; rw [h] at h2; cases h2
      · rcases blt_total e with h3 | h3
        · rw [h3] at h1; cases h1
        · rw [blt_trans h3 h] at h2; cases h2
theorem get_en (x : EnD) (j : Nat) (hj : j < 2) : (enCD x)[j]? = some ((enCD x)[j]!) := by
  rw [List.getElem!_eq_getElem?_getD, List.getElem?_eq_getElem (show j < (enCD x).length from hj)]
  rfl
theorem flat_en (xs : List EnD) {t : Nat} (ht : t < xs.length * 2) : (ecellsD xs)[t]? = some ((flatK enCD 2 xs.toArray)[t]!) := by
  have h6 : t % 2 < 2 := Nat.mod_lt _ (by decide)
  have hk : t / 2 < xs.length := by omega
  have hx : xs[t / 2]? = some xs[t / 2] := List.getElem?_eq_getElem hk
  rw [get_flatK enCD 2 xs.toArray t (by simpa using ht)]
  have e : (xs.toArray)[t / 2]! = xs[t / 2] := by
    rw [getElem!_pos xs.toArray (t / 2) (by simpa using hk)]
    simp
  rw [e, ← get_en _ _ h6]
  obtain ⟨h1, h2⟩ := ecells_getD hx
  rcases (show t % 2 = 0 ∨ t % 2 = 1 by omega) with h | h
  · have e2 : t = t / 2 * 2 := by omega
    rw [h]
    conv => lhs; rw [e2]
    rw [h1]
    rfl
  · have e2 : t = t / 2 * 2 + 1 := by omega
    rw [h]
    conv => lhs; rw [e2]
    rw [h2]
    rfl
theorem RowEnD.holds {w : World} {g : Nat} {e : TypeId} {xs : List EnD} {rest : List Value} (h : RowEnD w g e xs rest) : HoldsK enCD 2 w g 0 xs.toArray := by
  intro j hj
  rw [size_flatK] at hj
  simp only [List.size_toArray] at hj
  rw [Nat.zero_add]
  constructor
  · rw [cell_of_row w g j _ _ _ h, List.getElem?_toArray, List.getElem?_append_left (by rw [ecells_lenD]; exact hj)]
    exact flat_en xs hj
  · unfold RowEnD at h
    simp [World.frozen?, h]
theorem RowEnD.sorted {w : World} {g : Nat} {e : TypeId} {xs ys : List EnD} {rest : List Value} (h : RowEnD w g e xs rest) (hl : ys.length = xs.length) (n : Nat) (os : Array Obj) : RowEnD (sortWorldK enCD 2 w g 0 n ys.toArray os) g e ys rest := by
  have hlt := h.lt
  unfold sortWorldK putRowK putRow mapBlock grow RowEnD Go.Sort.ahead
  simp only
  rw [Array.getElem?_append_left (by simpa using hlt), Array.getElem?_modify, if_pos rfl]
  unfold RowEnD at h
  rw [h]
  simp only [Option.map_some, onCells, Option.some.injEq, Obj.cells.injEq, and_self, and_true]
  apply Array.ext_getElem?
  intro t
  unfold putCells
  rw [Array.getElem?_mapIdx, List.getElem?_toArray, List.getElem?_toArray, size_flatK]
  simp only [List.size_toArray, Nat.zero_le, true_and, Nat.zero_add, Nat.sub_zero, id]
  by_cases ht : t < ys.length * 2
  · rw [List.getElem?_append_left (by rw [ecells_lenD]; omega), List.getElem?_append_left (by rw [ecells_lenD]; exact ht), flat_en ys ht, flat_en xs (by omega)]
    simp [ht]
  · rw [List.getElem?_append_right (by rw [ecells_lenD]; omega), List.getElem?_append_right (by rw [ecells_lenD]; omega), ecells_lenD, ecells_lenD, hl]
    cases hr : rest[t - xs.length * 2]? with
    | none => rfl
    | some u =>
      simp [ht]
      intro h'
      omega
theorem below_sortedE {w : World} {g base : Nat} (hb : base ≤ g) (hbase : base ≤ w.heap.size) (n : Nat) (d : Array EnD) (os : Array Obj) : Below base w (sortWorldK enCD 2 w g 0 n d os) := by
  unfold sortWorldK putRowK putRow mapBlock grow Go.Sort.ahead
  refine ⟨rfl, rfl, rfl, by simp, fun k hk => ?_⟩
  simp only
  rw [Array.getElem?_append_left (by simpa using Nat.lt_of_lt_of_le hk hbase), Array.getElem?_modify, if_neg (by omega)]
theorem sorted_is {m : List EnD} (hm : Srt m) {l : List EnD} (hp : l.Perm m) {d : Array EnD} (h1 : PermIn 0 l.toArray.size l.toArray d) (h2 : SortedIn (ltOf cmpE) 0 l.toArray.size d) : d.toList = m := by
  obtain ⟨hs, _, hpe⟩ := h1
  simp only [List.size_toArray] at hs h2 hpe
  have e1 : (d.extract 0 l.length).toList = d.toList := by rw [← hs, Array.extract_size]
  have e2 : (l.toArray.extract 0 l.length).toList = l := by
    have : l.toArray.extract 0 l.toArray.size = l.toArray := Array.extract_size
    rw [List.size_toArray] at this
    rw [this]
  rw [e1, e2] at hpe
  have hpm : d.toList.Perm m := hpe.trans hp
  have hnd : d.toList.Nodup := hpm.nodup_iff.2 (hm.imp fun {a b} h => by intro e; rw [e] at h; exact (blt_ne h) rfl)
  refine srt_ext ?_ hm fun x => hpm.mem_iff
  unfold Srt
  rw [List.pairwise_iff_getElem]
  intro i j hi hj hij
  have hi' : i < d.size := by simpa using hi
  have hj' : j < d.size := by simpa using hj
  have h3 := h2 i j (Nat.zero_le _) hij (by omega)
  rw [ltE, getElem!_pos d j hj', getElem!_pos d i hi'] at h3
  simp only [Array.getElem_toList]
  have hne : d[i].1 ≠ d[j].1 := by
    intro e
    have m1 : d[i] ∈ m := hpm.mem_iff.1 (by simp)
    have m2 : d[j] ∈ m := hpm.mem_iff.1 (by simp)
    have e3 : d[i].2 = d[j].2 := srt_one hm (k := d[i].1) (v := d[i].2) (v' := d[j].2) m1 (by rw [e]; exact m2)
    have e4 : d[i] = d[j] := Prod.ext e e3
    have := (List.pairwise_iff_getElem.1 hnd) i j hi hj hij
    simp only [Array.getElem_toList] at this
    exact this e4
  rcases blt_total hne with h | h
  · exact h
  · rw [h] at h3; cases h3
set_option maxHeartbeats 1000000 in
set_option maxRecDepth 100000 in
theorem cmpString_any (a b : ByteArray) (w : World) : Calls Tryz.prog 113 #[.string a, .string b] w fun e w' => e = .returned (.int .i64 (Lib.compareBytes a.data.toList b.data.toList)) ∧ w' = w := by
  go_enter Tryz.func113, Tryz.ntmps113
  go_wp2
  rw [run_callFunc_extern Tryz.func136 (by kernel_rfl) (by kernel_rfl) (by kernel_rfl) (e := Extern.BytealgCompare.compare) (by kernel_rfl), Lib.run_compareString]
  simp only [Result.andThen]
  rw [Oper.upon_value]
  go_wp2
  go_ret
  exact ⟨rfl, rfl⟩
set_option maxHeartbeats 1000000 in
theorem compare_any (a b : ByteArray) (w : World) : Calls Tryz.prog 90 #[.string a, .string b] w fun e w' => e = .returned (.int .i64 (Lib.compareBytes a.data.toList b.data.toList)) ∧ w' = w := by
  go_enter Tryz.func90, Tryz.ntmps90
  go_wp2_with (go_at_call 113; refine (cmpString_any _ _ _).mono ?_; rintro e w1 ⟨rfl, rfl⟩)
  go_ret
  exact ⟨rfl, rfl⟩
set_option maxHeartbeats 1000000 in
theorem cmpE_any (x y : EnD) (w : World) : Calls Tryz.prog 89 #[.agg (enCD x).toArray, .agg (enCD y).toArray] w fun e w' => e = .returned (.int .i64 (cmpE x y)) ∧ Grew w w' := by
  have hx : (.agg (enCD x).toArray : Value) = .agg #[.string (txt x.1), .int .i64 x.2] := rfl
  have hy : (.agg (enCD y).toArray : Value) = .agg #[.string (txt y.1), .int .i64 y.2] := rfl
  rw [hx, hy]
  have hb : Hid (Grew w ((w.alloc (.cells #[.string (txt x.1), .int .i64 x.2] 120)).alloc (.cells #[.string (txt y.1), .int .i64 y.2] 120))) := ⟨(below_new _ _).alloc (by simp) _, Nat.le_refl _⟩
  obtain ⟨W, hW⟩ : ∃ W, Hid ((w.alloc (.cells #[.string (txt x.1), .int .i64 x.2] 120)).alloc (.cells #[.string (txt y.1), .int .i64 y.2] 120) = W) := ⟨_, rfl⟩
  have c0 : W.cell? ⟨w.heap.size, 0, none⟩ = some (.string (txt x.1)) := by
    rw [← hW.out, World.cell?_alloc_lt _ _ _ (by simp)]
    exact (two_cells (heap_alloc_new w _)).1
  have c1 : W.cell? ⟨w.heap.size + 1, 0, none⟩ = some (.string (txt y.1)) := by
    rw [← hW.out]
    simp
  go_enter Tryz.func89, Tryz.ntmps89
  go_upto_region 1 with fail
  rw [hW.out]
  go_wp2_with (go_at_call 90; refine (compare_any _ _ _).mono ?_; rintro e w1 ⟨rfl, rfl⟩)
  go_ret
  exact ⟨rfl, by rw [← hW.out]; exact hb.out⟩
theorem cmpLays_en (blk off size : Nat) (w : World) : CmpLays Tryz.prog 89 #[] enCD 2 cmpE blk off size w :=
  fun _ _ _ _ x y => (cmpE_any x y _).mono fun _ _ ⟨h1, h2⟩ => ⟨h1, h2.out⟩
theorem enter_cmpE (w : World) (args : Array Value) : (callFunc 89 args).run Tryz.prog w = .ok (.enter 89 args) w := by kernel_rfl
theorem sort_en {base : Nat} {v : Value} {l m : List EnD} (w : World) (h : OwnEnD 120 base w v l) (hbase : base ≤ w.heap.size) (hl : l.length ≤ 1099511627776) (hm : Srt m) (hp : l.Perm m) :
    Calls Tryz.prog 88 #[v, .func (.func 89) #[] #[]] w fun e w' => e = .returned (.tuple #[]) ∧ OwnEnD 120 base w' v m ∧ Go.RowKit.Below base w w' := by
  rcases h.form with ⟨rfl, rfl⟩ | ⟨g, cap, rest, rfl, hb, hr, h1, h2, h3⟩
  · refine (AnyF.slices_SortFunc_none Tryz.laysSortF none 0 (.func (.func 89) #[] #[]) w).mono ?_
    rintro e w' ⟨rfl, rfl⟩
    have : m = [] := List.Perm.nil_eq hp |>.symm
    subst this
    exact ⟨rfl, OwnEnD.nil _ _ _, .refl _ _⟩
  · have eg : ∀ args w, (callFunc 89 args).run Tryz.prog w = .ok (.enter 89 args) w := fun args w => enter_cmpE w args
    have hcon := AnyQ.slices_SortFunc Tryz.laysSortF 2 Tryz.isAgg120 Tryz.sizeOf120 enCD (fun x => enC_lenD x) (fun x => enC_oneD x) cmpE swo_en 89 #[] g 0 cap l.toArray w eg (cmpLays_en g 0 _ w) hr.holds hr.lt (by simp only [List.size_toArray]; omega)
    simp only [List.size_toArray] at hcon
    refine hcon.mono ?_
    rintro e w' ⟨rfl, d, n, os, hp1, hs1, rfl⟩
    have hd : d.toList = m := sorted_is hm hp (by simpa using hp1) (by simpa using hs1)
    have hlen : m.length = l.length := hp.length_eq.symm
    refine ⟨rfl, ?_, below_sortedE hb hbase _ _ _⟩
    have hr' := hr.sorted (ys := m) hlen n os
    rw [← hd, Array.toArray_toList] at hr'
    rw [← hlen]
    rw [hd] at hr'
    exact OwnEnD.of hb hr' (by omega) h2 (by rw [List.length_append, ecells_lenD, hlen, ← ecells_lenD, ← List.length_append]; exact h3)
end Go.Proofs.YtbhmnmmockmibaaGreat

namespace Go.Proofs.YtbhmnmmockmibaaGreat
open Go.RowKit Go.Maps
def CollE (m : List EnD) (left : Lit → Bool) (l : List EnD) : Prop := l.Nodup ∧ ∀ e, e ∈ l ↔ e ∈ m ∧ left (.string e.1) = false
theorem CollE.start (m : List EnD) : CollE m (Maps.has (mapD (H := Unit) m)) [] := by
  refine ⟨List.nodup_nil, fun e => ⟨fun h => by simp at h, fun ⟨h1, h2⟩ => ?_⟩⟩
  rw [mapD_has, hasE_iff.2 ⟨e.2, h1⟩] at h2
  cases h2
theorem CollE.step {m : List EnD} (hm : Srt m) {left : Lit → Bool} {l : List EnD} (h : CollE m left l) {x : List UInt8} {v : Int} (hx : (x, v) ∈ m) (hl : left (.string x) = true) : CollE m (fun z => left z && !z.sameKey (.string x)) (l ++ [(x, v)]) := by
  have hnew : (x, v) ∉ l := fun e => by have := ((h.2 _).1 e).2; rw [hl] at this; cases this
  refine ⟨List.nodup_append.2 ⟨h.1, by simp, fun a ha b hb => by simp at hb; subst hb; exact fun e => hnew (e ▸ ha)⟩, fun e => ?_⟩
  rw [List.mem_append, List.mem_singleton, h.2 e]
  show _ ↔ e ∈ m ∧ (left (.string e.1) && !(e.1 == x)) = false
  constructor
  · rintro (⟨h1, h2⟩ | rfl)
    · exact ⟨h1, by rw [h2]; rfl⟩
    · exact ⟨hx, by simp⟩
  · rintro ⟨h1, h2⟩
    by_cases e' : e.1 = x
    · right
      obtain ⟨a, b⟩ := e
      simp only at e'
      subst e'
      rw [srt_one hm h1 hx]
    · left
      refine ⟨h1, ?_⟩
      have : (e.1 == x) = false := by simpa using e'
      rw [this] at h2
      simpa using h2
theorem CollE.perm {m : List EnD} (hm : Srt m) {left : Lit → Bool} {l : List EnD} (h : CollE m left l) (hl : ∀ kl, left kl = false) : l.Perm m := by
  have hn : m.Nodup := hm.imp fun {a b} h => by intro e; rw [e] at h; exact (blt_ne h) rfl
  exact (List.perm_ext_iff_of_nodup h.1 hn).2 fun e => by rw [h.2 e, hl]; simp
theorem mem_at {m : List EnD} {x : List UInt8} {v : Int} (h : ∀ zd, (mapD (H := Unit) m).atKey (.string x) zd = .lit (.int .i64 v)) : (x, v) ∈ m := by
  cases hg : getE m x with
  | some u =>
    have := h (.lit (.int .i64 0))
    rw [mapD_at, hg] at this
    injection this with this
    injection this with _ this
    rw [← this]
    exact getE_some hg
  | none =>
    exfalso
    have h0 := h (.lit (.int .i64 0))
    have h1 := h (.lit (.int .i64 1))
    rw [mapD_at, hg] at h0 h1
    rw [← h1] at h0
    injection h0 with h0
    injection h0 with _ h0
    cases h0
theorem enc_txt (x : List UInt8) : Go.Proofs.encStr x = .string (txt x) := rfl
theorem row_iter {w : World} {base r n cnt : Nat} {e : TypeId} {v : Value} {l : List EnD} {b : Nat} {D : DataW Unit} {left : Lit → Bool} {k : TypeId} {R : Value → Option (DataW Unit × List MemPlace)} (h : OwnEnD e base w v l) (hr : w.ranges Tryz.prog k R b r n D left cnt) : some r ≠ v.ownBlock := by
  intro e'
  obtain ⟨cs, t, fr, hh⟩ := own_cells h e'.symm
  obtain ⟨es, clock, since, seen, c0, _, _, _, _, hri, _⟩ := hr
  rw [hh] at hri
  cases hri
theorem row_map {w : World} {base r n cnt : Nat} {e : TypeId} {v : Value} {l : List EnD} {b : Nat} {D : DataW Unit} {left : Lit → Bool} {k : TypeId} {R : Value → Option (DataW Unit × List MemPlace)} (h : OwnEnD e base w v l) (hr : w.ranges Tryz.prog k R b r n D left cnt) : some b ≠ v.ownBlock := by
  intro e'
  obtain ⟨cs, t, fr, hh⟩ := own_cells h e'.symm
  obtain ⟨es, clock, since, seen, c0, hb, _⟩ := hr
  rw [hh] at hb
  cases hb
theorem run_makeE (n : Nat) (hn : n ≤ 1000000) (z : Int) (hz : z = (n : Int)) : ∃ cur : Array Value, cur.size = n * 2 ∧ ∀ w : World, (Instr.makeSlice 118 (.int .i64 0) (.int .i64 z)).run Tryz.prog w = .ok (.slice (some ⟨w.heap.size, 0, none⟩) 0 n) (w.alloc (.cells cur 120)) := by
  subst hz
  obtain ⟨i0, hi0, hz0, hz1, hz2⟩ := info_parts enSl1D.2
  refine ⟨madeCells (Value.agg #[.string ByteArray.empty, .int .i64 0]).cells (n * 2), size_madeCells _ _, fun w => ?_⟩
  · have h := run_make (P := Tryz.prog) w 118 120 i0 _ Tryz.underlying118 hi0 hz0 .i64 .i64 0 (n : Int) (by omega) (by omega) (by rw [hz2]; omega) (by omega)
    rw [hz1, Int.toNat_natCast] at h
    exact h
section
variable {w : World} {c : Nat → Nat} {i g N : Nat} {zz : Rs} {s : St}
set_option maxHeartbeats 2000000 in
set_option maxRecDepth 100000 in
theorem list_anyD (h : DirAt w c i g zz s) (hg : Good s N) (hN : N ≤ 1000) :
    Calls Tryz.prog 55 #[.pointer (some ⟨g, 0, none⟩)] w fun e w' => ∃ v, e = .returned v ∧ OwnEnD 120 w.heap.size w' v s.now ∧ Go.RowKit.Below w.heap.size w w' := by
  have hgl := Lib.hid h.lt
  obtain ⟨hcol, hne, mv, pv, hd, hm, hp⟩ := h
  have hcd := (d_cells hd).1
  have Hsrt := Lib.hid hg.ok.now
  have hlen : Hid (s.now.length ≤ 1000) := by have := hg.now.1; show _ ≤ _; omega
  generalize hmm : s.now = m at hm Hsrt hlen ⊢
  clear hg hN hd hp hcol hne hmm
  rcases hm with ⟨rfl, rfl⟩ | ⟨b, rfl, _, ho⟩
  · obtain ⟨cur, hcs, hmk⟩ := run_makeE 0 (by omega) 0 rfl
    have hlenN := fun ty => Maps.len_nil (P := Tryz.prog) (w := w) Tryz.underlying72 ty
    have hcd2 : (w.alloc (.cells cur 120)).cell? ⟨g, 0, none⟩ = some (.map none) := (World.cell?_alloc_lt _ _ _ hgl.out).trans hcd
    have hrg := run_range_nilMap (P := Tryz.prog) (w.alloc (.cells cur 120)) 72 _ _ Tryz.underlying72
    have hnx : ∀ ty, (Instr.next (.pointer (some ⟨w.heap.size + 1, 0, none⟩)) false ty).run Tryz.prog ((w.alloc (.cells cur 120)).alloc (.mapIter none 0 #[] 0)) = .ok (.tuple #[.bool false]) ((w.alloc (.cells cur 120)).alloc (.mapIter none 0 #[] 0)) := fun ty => by
      have := run_next_nilMap (P := Tryz.prog) (w.alloc (.cells cur 120)) ty 0 0 #[]
      rwa [World.size_alloc] at this
    go_enter Tryz.func55, Tryz.ntmps55
    go_wp2
    refine wp_loop_rounds 1 ?_
    rw [rounds_succ]
    have hrow0 : OwnEnD 120 w.heap.size ((w.alloc (.cells cur 120)).alloc (.mapIter none 0 #[] 0)) (.slice (some ⟨w.heap.size, 0, none⟩) 0 0) [] := World.ownsRow.alloc (World.ownsRow_made w cur 0 (Nat.le_refl _) (Nat.zero_le _) hcs) _
    have hsort := Lib.hid (sort_en _ hrow0 (by simp; omega) (by simp) Hsrt.out (List.Perm.refl _))
    have hbb : Hid (Go.RowKit.Below w.heap.size w ((w.alloc (.cells cur 120)).alloc (.mapIter none 0 #[] 0))) := (below_new _ _).alloc (by simp) _
    clear hrow0
    go_wp2_with (go_at_call 88; refine hsort.out.mono ?_; rintro e w1 ⟨rfl, hown, hb⟩)
    go_ret
    exact ⟨_, rfl, hown, hbb.out.trans hb⟩
  · have Ho := Lib.hid ho
    obtain ⟨n, hn⟩ : ∃ n, Hid (m.length = n) := ⟨_, rfl⟩
    have hn1 : n ≤ 1000 := by rw [← hn.out]; exact hlen.out
    obtain ⟨cur, hcs, hmk⟩ := run_makeE n (by omega) n rfl
    have hrow0 := Lib.hid (World.ownsRow_made (base := w.heap.size) (e := 120) (size := 2) w cur n (Nat.le_refl _) (by simp only [maxLen]; omega) hcs)
    have hb0 : Hid (Go.RowKit.Below w.heap.size w (w.alloc (.cells cur 120))) := below_new _ _
    have hcd2 : (w.alloc (.cells cur 120)).cell? ⟨g, 0, none⟩ = some (.map (some b)) := (World.cell?_alloc_lt _ _ _ hgl.out).trans hcd
    have Ho2 := Lib.hid (World.ownsMap.alloc ho (.cells cur 120))
    have hbl : Hid (b < w.heap.size) := ho.lt
    have hlenM := fun ty => ho.len Tryz.underlying72 ty
    rw [mapD_size, hn.out] at hlenM
    clear ho
    go_enter Tryz.func55, Tryz.ntmps55
    go_wp2_with (at_range; refine wpList_range_own _ rfl _ 72 rfl 9 3 law Tryz.underlying72 _ b _ _ rfl Ho2.out ?_; intro w0 hrg0 hg0 hs0)
    clear hmk hcd2 hlenM hcd
    go_frame
    obtain ⟨r, hr⟩ : ∃ r, Hid ((w.alloc (.cells cur 120)).heap.size = r) := ⟨_, rfl⟩
    have hrw : Hid (w.heap.size ≤ r) := by rw [← hr.out]; exact hb0.out.size
    rw [hr.out] at hrg0 ⊢
    have hB0 : Hid (Go.RowKit.Below w.heap.size w w0) := hb0.out.trans (Go.RowKit.Below.grown (.refl _ _) hg0 hb0.out.size (fun j hj => by cases hj))
    have hO0 : Hid (OwnEnD 120 w.heap.size w0 (.slice (some ⟨w.heap.size, 0, none⟩) 0 n) []) := own_touch hrow0.out (Touch.grown (X := fun _ => False) hg0 fun k e => by cases e) fun _ _ e => e
    clear hs0 hg0
    go_loopw [3] (fun v wr => ∃ (left : Lit → Bool) (cnt : Nat) (l : List EnD), wr.ranges (H := Unit) Tryz.prog 9 (plainElem Tryz.prog 3) b r m.length (mapD m) left cnt ∧ OwnEnD 120 w.heap.size wr v l ∧ Hid (CollE m left l) ∧ Go.RowKit.Below w.heap.size w wr ∧ Hid (l.length + cnt ≤ n))
      (fun _ wr => wr.rangeLeft b r)
    case atStart => exact ⟨_, _, [], hrg0, hO0.out, CollE.start m, hB0.out, by show _ ≤ n; rw [mapD_size, ← hn.out]; simp⟩
    case round =>
      clear hrg0 hO0
      obtain ⟨left, cnt, l, hrg, hrow, hC, hnx, hcnt⟩ := hrel
      have Hrg := Lib.hid hrg
      have Hrow := Lib.hid hrow
      have Hnx := Lib.hid hnx
      clear hrg hrow hnx
      go_wp2_with (at_next; refine wpList_next_ranges _ rfl _ rfl 9 law (plainElem Tryz.prog 3) Go.Proofs.encStr (Value.int .i64) (fun key kl hk => by obtain ⟨x, hx, _⟩ := Maps.keyOf_str Tryz.underlying9 hk; exact ⟨x, hx⟩) (fun v y hv => by obtain ⟨c, rfl, _⟩ := plainElem_int_inv Tryz.underlying3 hv; exact ⟨c, rfl⟩) b r _ _ _ _ rfl Hrg.out ?_ ?_)
      · intro hc0 hl0
        have hperm := hC.out.perm Hsrt.out hl0
        have hsort := Lib.hid (sort_en _ Hrow.out Hnx.out.size (by rw [hperm.length_eq]; have := hlen.out; omega) Hsrt.out hperm)
        clear hperm hl0
        go_wp2_with (go_at_call 88; refine hsort.out.mono ?_; rintro e w1 ⟨rfl, hown, hb⟩)
        go_ret
        exact ⟨_, rfl, hown, Hnx.out.trans hb⟩
      · intro x z kl yd yp w2 cnt2 hkey hlk hv hat hrg2 hlt hg2 hs2 hen
        obtain ⟨x', ex, rfl, hxl⟩ := Maps.keyOf_str Tryz.underlying9 hkey
        obtain rfl : x = x' := encStr_inj ex
        obtain ⟨z', ez, hyd, _⟩ := plainElem_int_inv Tryz.underlying3 hv
        obtain rfl : z = z' := by injection ez
        obtain ⟨rfl, rfl⟩ : yd = .lit (.int .i64 z) ∧ yp = [] := by simpa using hyd
        have hmem := Lib.hid (mem_at hat)
        have hrow2 := Lib.hid (own_touch Hrow.out (Touch.grown (X := fun k => k = r) hg2 fun k e => by injection e with e; exact e.symm) fun k hk e => row_iter Hrow.out Hrg.out (by rw [← e]; exact hk.symm))
        have hB2 : Hid (Go.RowKit.Below w.heap.size w w2) := Hnx.out.trans (Go.RowKit.Below.grown (.refl _ _) hg2 Hnx.out.size (fun j hj => by injection hj with hj; have := hrw.out; omega))
        have Hrg2 := Lib.hid hrg2
        have Hlk := Lib.hid hlk
        have Hlt := Lib.hid hlt
        have hll : Hid (l.length ≤ 1099511627776) := by have := hcnt.out; show _ ≤ _; omega
        clear hs2 hrg2 hg2 hat hkey ex ez hyd hlk hv hlt hxl
        rw [enc_txt] at hen ⊢
        go_wp2_with (at_builtin; refine push_enD enSl1D (.tmp 24) (.tmp 28) (x, z) hrow2.out hB2.out.size hll.out rfl rfl rfl rfl rfl ?_; intro v' w3 hown' hg3 hblk3 hb3; go_frame)
        have hrg3 := Hrg2.out.kept hg3 (row_map hrow2.out Hrg2.out) (row_iter hrow2.out Hrg2.out)
        go_roundw
        case rel => exact ⟨_, cnt2, l ++ [(x, z)], hrg3, hown', hC.out.step Hsrt.out hmem.out Hlk.out, hB2.out.trans hb3, by have := hcnt.out; have := Hlt.out; show _ ≤ n; rw [List.length_append, List.length_singleton]; omega⟩
        case measure => rw [hrg3.left_eq, Hrg.out.left_eq]; exact Hlt.out
end
end Go.Proofs.YtbhmnmmockmibaaGreat

namespace Go.Proofs.YtbhmnmmockmibaaGreat
open Go.RowKit
attribute [local go_sem] Oper.semAt_some
def und (m : List EnD) (l : List Pr) : List EnD := l.foldl (fun m o => o.undoes m) m
theorem und_snoc (m : List EnD) (l : List Pr) (o : Pr) : und m (l ++ [o]) = o.undoes (und m l) := by simp [und, List.foldl_append]
theorem und_back {d : List EnD} {ops : List Pr} (hd : Srt d) (h : Oks d ops) : ∀ t k, k + t = ops.length → und (runs d ops) (ops.drop k).reverse = runs d (ops.take k)
  | 0, k, e => by
    have : k = ops.length := by omega
    subst this
    rw [List.drop_length, List.take_length]
    rfl
  | t + 1, k, e => by
    have hk : k < ops.length := by omega
    have ho : ops[k]? = some ops[k] := List.getElem?_eq_getElem hk
    rw [List.drop_eq_getElem_cons hk, List.reverse_cons, und_snoc, und_back hd h t (k + 1) (by omega)]
    exact runs_back hd h ho
theorem und_len : ∀ (l : List Pr) (m : List EnD), (und m l).length ≤ m.length + l.length
  | [], m => by simp [und]
  | o :: l, m => by
    have h := und_len l (o.undoes m)
    have h2 : (o.undoes m).length ≤ m.length + 1 := by
      unfold Pr.undoes putE
      split
      · have := del_len m o.k
        omega
      · rw [ins_len]
        have := del_len m o.k
        show (delE m o.k).length + 1 ≤ _
        omega
    show (und (o.undoes m) l).length ≤ _
    rw [List.length_cons]
    omega
abbrev BkD (qs : List Pn) := Int × { p : Pn // p ∈ qs }
def bklD (qs : List Pn) : List (BkD qs) := qs.attach.zipIdx.map fun t => ((t.2 : Int), t.1)
theorem bkl_lenD (qs : List Pn) : (bklD qs).length = qs.length := by simp [bklD]
theorem bkl_getD {qs : List Pn} {k : Nat} {p : Pn} (h : qs[k]? = some p) : ∃ hp : p ∈ qs, (bklD qs)[k]? = some ((k : Int), ⟨p, hp⟩) := by
  refine ⟨List.mem_of_getElem? h, ?_⟩
  obtain ⟨hk, e⟩ := List.getElem?_eq_some_iff.1 h
  subst e
  simp [bklD, hk]
theorem bkl_valD (qs : List Pn) : (bklD qs).map (fun x => x.2.1) = qs := by
  apply List.ext_getElem?
  intro k
  rw [List.getElem?_map]
  cases h : qs[k]? with
  | none =>
    have hk : qs.length ≤ k := List.getElem?_eq_none_iff.1 h
    rw [List.getElem?_eq_none (by rw [bkl_lenD]; exact hk)]
    rfl
  | some p =>
    obtain ⟨hp, e⟩ := bkl_getD h
    rw [e]
    rfl
def bksD (qs : List Pn) (k : Nat) : List (BkD qs) := ((bklD qs).drop k).reverse
theorem bks_lenD {qs : List Pn} {k : Nat} : (bksD qs k).length = qs.length - k := by
  unfold bksD
  rw [List.length_reverse, List.length_drop, bkl_lenD]
theorem bks_nextD {qs : List Pn} {k : Nat} {x : BkD qs} (h : (bklD qs)[k]? = some x) : bksD qs k = bksD qs (k + 1) ++ [x] := by
  obtain ⟨hk, e⟩ := List.getElem?_eq_some_iff.1 h
  unfold bksD
  rw [List.drop_eq_getElem_cons hk, e, List.reverse_cons]
theorem bks_allD (qs : List Pn) : (bksD qs 0).map (fun x => x.2.1) = qs.reverse := by
  unfold bksD
  rw [List.drop_zero, List.map_reverse, bkl_valD]
theorem bks_noneD (qs : List Pn) : bksD qs qs.length = [] := List.eq_nil_of_length_eq_zero (by rw [bks_lenD]; omega)
abbrev ButD (b n₀ : Nat) : Nat → Prop := fun x => x = b ∨ n₀ ≤ x
abbrev PnX (w : World) (X : Nat → Prop) (A : Option Addr) (l : List Pn) : Prop := RdX w X 2 A l.length (pncells l)
theorem PnX.at_ {w : World} {X : Nat → Prop} {A : Option Addr} {l : List Pn} {k : Nat} (h : PnX w X A l) (hk : k < l.length) :
    ∃ (ad : Addr) (p : Pn), A = some ad ∧ w.cell? (ad.add (k * 2)) = some (p.f p.o.add) ∧ w.cell? ⟨(ad.add (k * 2)).block, (ad.add (k * 2)).off + 1, none⟩ = some (p.f (!p.o.add)) ∧ Hid (l[k]? = some p) := by
  obtain ⟨ad, e, hb, hx, hc⟩ := h.2 (by omega)
  have hr : l[k]? = some l[k] := List.getElem?_eq_getElem hk
  obtain ⟨h1, h2⟩ := pncells_get hr
  exact ⟨ad, _, e, hc _ _ h1, by rw [← padd_next]; exact hc _ _ h2, hr⟩
set_option maxRecDepth 100000 in
set_option maxHeartbeats 4000000 in
theorem back_stopsD (F : Fence) (n : Nat) (hf : F.fn 115) (hro : F.round = none) (hn : 1 ≤ n) (Bs b n₀ : Nat) (A : Option Addr) (cap : Nat) (qs : List Pn) (hl : qs.length ≤ 1000) (w : World)
    (hBs : ¬ ButD b n₀ Bs) (hc : w.cell? ⟨Bs, 0, none⟩ = some (.slice A qs.length cap)) (hBl : Bs < w.heap.size) (hr : PnX w (ButD b n₀) A qs) :
    SeqStopsK F n Tryz.prog 115 #[.pointer (some ⟨Bs, 0, none⟩)] (fun x : BkD qs => #[.int .i64 x.1, x.2.1.v]) (Touch (ButD b n₀)) (fun xs => xs.map (fun x => x.2.1) = qs.reverse) (fun _ => True) qs.length w := fun l J Jx W hW hJ hJx hY h0 => by
  have hlen : (qs.length : Int) ≤ 1000 := by omega
  have hcW := (hW.cell (p := ⟨Bs, 0, none⟩) hBl).trans hc
  have HrW : Hid (PnX W (ButD b n₀) A qs) := hr.keep (.of hW)
  have hBW : Hid (Bs < W.heap.size) := Nat.lt_of_lt_of_le hBl hW.size
  have HcW := Lib.hid hcW
  have HBs := Lib.hid hBs
  clear hc hr hl hBs hBl
  refine callsIn_of_wp Tryz.func115 rfl hf ?_ hro
  simp only [Tryz.ntmps115, List.size_toArray, List.length_cons, List.length_nil, Nat.reduceAdd, Nat.reduceSub, Array.replicate_succ, Array.replicate_zero, List.push_toArray, List.append_toArray, List.nil_append, List.cons_append]
  gi_wp2
  gi_loopw [3] (fun i wr => ∃ (k : Nat) (z : Int), k ≤ qs.length ∧ Hid (z = (k : Int) - 1) ∧ i = .int .i64 z ∧ Hid (J (bksD qs k) wr) ∧ Hid (Touch (ButD b n₀) W wr)) (fun i _ => (intOf i + 1).toNat)
  case atStart => exact ⟨qs.length, _, Nat.le_refl _, by exact rfl, rfl, by show J _ _; rw [bks_noneD]; exact h0, Touch.refl _ _⟩
  case round =>
    clear hcW
    obtain ⟨k, z, hk, hz, rfl, hJs, ht⟩ := hrel
    have hcr := (ht.out.cell (p := ⟨Bs, 0, none⟩) hBW.out HBs.out).trans HcW.out
    cases k with
    | zero =>
      have hz' : z < 0 := by have := hz.out; omega
      have hz2 : ¬ 0 ≤ z := by omega
      gi_wp2
      go_end0
      exact ⟨⟨_, rfl⟩, .inl ⟨_, bks_allD qs, hJs.out⟩⟩
    | succ j =>
      obtain rfl : z = (j : Int) := by have := hz.out; omega
      obtain ⟨ad, p, rfl, h1, h2, hx⟩ := PnX.at_ (HrW.out.keep ht.out) (k := j) (by omega)
      obtain ⟨hp, hb⟩ := bkl_getD hx.out
      obtain ⟨fn, tmps, assign, body, hy, hR⟩ := hY _ ((j : Int), ⟨p, hp⟩) wr hJs.out (by rw [bks_lenD]; omega)
      have ev : p.v = .agg #[p.f p.o.add, p.f (!p.o.add)] := rfl
      obtain ⟨x, hx1⟩ : ∃ x, Hid (p.f p.o.add = x) := ⟨_, rfl⟩
      obtain ⟨y, hy1⟩ : ∃ y, Hid (p.f (!p.o.add) = y) := ⟨_, rfl⟩
      rw [hx1.out] at h1
      rw [hy1.out] at h2
      rw [hx1.out, hy1.out] at ev
      simp only [ev] at hy
      have hlt : (j : Int) < (qs.length : Int) := by omega
      have hln : j < qs.length := by omega
      have Hb := Lib.hid hb
      clear ev hb hk
      gi_wp2
      refine hR.mono ?_
      rintro e W3 (⟨rfl, hJ3, hk3⟩ | ⟨rfl, hJx3⟩)
      · have HJ3 := Lib.hid hJ3
        have Hk3 := Lib.hid hk3
        clear hJ3 hk3
        gi_wp2
        go_roundw
        case rel => exact ⟨j, _, by omega, by exact rfl, by go_num, by show J _ _; rw [bks_nextD Hb.out]; exact HJ3.out, ht.out.trans Hk3.out⟩
        case measure => simp [intOf]
      · gi_wp2
        refine bodyPost_ret (results_none rfl _ _ _) rfl ?_
        exact ⟨⟨_, rfl⟩, .inr ⟨_, trivial, hJx3⟩⟩
end Go.Proofs.YtbhmnmmockmibaaGreat
