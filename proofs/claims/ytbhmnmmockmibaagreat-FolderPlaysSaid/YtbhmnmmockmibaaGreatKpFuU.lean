/- The walk of the reference's Make. Conditions: at most 1000 files. The walks of the reference's New and All. Conditions: at most 1000 files. The walk of the reference's Drop. Conditions: at most 1000 files, any names. What ties the project's files to the reference's list. Conditions: numbers rise. -/
import Derived.Test.YtbhmnmmockmibaaGreatKpFuC
import Derived.Test.YtbhmnmmockmibaaGreatKpFuE
import Derived.Deep.RegionHeld3
namespace Go.Proofs.YtbhmnmmockmibaaGreat
open Go.RowKit
theorem three_heap (w : World) (a b c : Obj) : (((w.alloc a).alloc b).alloc c).heap.size = w.heap.size + 3 ∧ (((w.alloc a).alloc b).alloc c).heap[w.heap.size]? = some a ∧ (((w.alloc a).alloc b).alloc c).heap[w.heap.size + 1]? = some b ∧ (((w.alloc a).alloc b).alloc c).heap[w.heap.size + 1 + 1]? = some c := by
  have s1 : (w.alloc a).heap.size = w.heap.size + 1 := World.size_alloc _ _
  have s2 : ((w.alloc a).alloc b).heap.size = w.heap.size + 1 + 1 := by rw [World.size_alloc, s1]
  have s3 : (((w.alloc a).alloc b).alloc c).heap.size = w.heap.size + 1 + 1 + 1 := by rw [World.size_alloc, s2]
  have n1 := heap_alloc_new w a
  have n2 := heap_alloc_new (w.alloc a) b
  have n3 := heap_alloc_new ((w.alloc a).alloc b) c
  rw [s1] at n2
  rw [s2] at n3
  refine ⟨by omega, ?_, ?_, n3⟩
  · exact (heap_alloc_old _ _ (by omega)).trans ((heap_alloc_old _ _ (by omega)).trans n1)
  · exact (heap_alloc_old _ _ (by omega)).trans n2
theorem rv_new (w : World) (x : Rv) : Reads (w.alloc (.cells #[.int .i64 x.i, .int .i64 x.n, .slice x.A x.ps.length x.c] 139)) (w.heap.size + 1) 3 (some ⟨w.heap.size, 0, none⟩) 1 (rvcells [x]) := by
  refine ⟨rfl, fun _ => ⟨_, rfl, by simp, fun j u hu => ?_⟩⟩
  rw [lit_add, Nat.zero_add, cell_of_row _ w.heap.size j _ _ _ (heap_alloc_new w _), List.getElem?_toArray]
  exact hu
section
variable {ops : Array Oper} {rest : List Oper} {o : Oper} {a : Act} {Q : Exit → Act → World → Prop} {w : World} {base : Nat} {v : Value}
theorem push_rv {N n : Nat} (s y : Operand) {es : List Rv} (x : Rv) (hown : w.ownsRow base 139 3 v n (rvcells es)) (hbase : base ≤ w.heap.size) (hl : n ≤ 100000)
    (hgd : o.guard = none) (ho : o.op = .call { callee := .builtin .append, args := #[s, y], argTypes := #[31, 31] })
    (hs : a.eval s = v) (hy : a.eval y = .slice (some ⟨N, 0, none⟩) 1 1) (hN : w.heap.size = N)
    (h : ∀ A' c' w', w'.ownsRow base 139 3 (.slice A' (n + 1) c') (n + 1) (rvcells (es ++ [x])) → w.grownBy w' v.ownBlock → Below base w w' → wpList Tryz.prog ops Q rest (a.put o.dst (.slice A' (n + 1) c')) w') :
    wpList Tryz.prog ops Q (o :: rest) a (w.alloc (.cells #[.int .i64 x.i, .int .i64 x.n, .slice x.A x.ps.length x.c] 139)) := by
  subst hN
  obtain ⟨i0, hi0, hz0, hz1, hz2⟩ := info_parts info_entry
  have hnew := rv_new w x
  obtain ⟨ob, hob⟩ : ∃ ob, ob = Obj.cells #[.int .i64 x.i, .int .i64 x.n, .slice x.A x.ps.length x.c] 139 (0, 0) := ⟨_, rfl⟩
  rw [← hob] at hnew ⊢
  have ha : (w.alloc ob).ownsRow base 139 3 v n (rvcells es) := World.ownsRow.alloc (w := w) hown ob
  refine wpList_append_any (w.alloc ob) hgd s y 31 ho base 139 i0 _ 3 40 Tryz.underlying31 hi0 hz0 hz1 hz2 rfl (by omega) v n (rvcells es) hs ha (w.heap.size + 1) _ 1 1 (rvcells [x]) hy hnew (rvcells_one _) (by simp only [maxLen]; omega) (by omega) (by simp; omega) ?_
  intro v1 w1 h1 h2 h3
  have hb := ((Below.refl base w).alloc hbase _).trans (grown_below ha h2 (by simp; omega))
  rw [← rvcells_append] at h1
  obtain ⟨A1, c1, rfl, _⟩ := own_form h1
  exact h A1 c1 w1 h1 ⟨h2.os, h2.tape, h2.output, Nat.le_trans (by simp) h2.size, fun k hk hne => (h2.block k (by simp; omega) hne).trans (heap_alloc_old w _ hk)⟩ hb
end
set_option maxHeartbeats 1000000 in
set_option maxRecDepth 100000 in
theorem rmake_any {X : Nat → Prop} {v : Value} {M : List Rm} {q l : Int} {w : World} (hl : M.length ≤ 1000) (hl0 : 0 ≤ l) (hl1 : l ≤ 1000000) (hr : RefT w X v M q l) :
    Calls Tryz.prog 78 #[v] w fun e w' => ∃ u, e = .returned u ∧ Below w.heap.size w w' ∧ RefT w' (AX w X) u (M ++ [⟨l + 1, 0, []⟩]) q (l + 1) := by
  obtain ⟨A, c, es, rfl, hr, rfl⟩ := hr
  rw [List.length_map] at hl
  obtain ⟨nl, hnl⟩ : ∃ n, Hid (es.length = n) := ⟨_, rfl⟩
  have hnl1 : nl ≤ 1000 := by rw [← hnl.out]; exact hl
  rw [hnl.out]
  obtain ⟨i0, hi0, hz0, hz1, hz2⟩ := info_parts info_entry
  go_enter Tryz.func78, Tryz.ntmps78
  go_upto_region 2 with fail
  obtain ⟨W, hW⟩ : ∃ W, Hid (((w.alloc (.cells #[.slice A nl c, .int .i64 q, .int .i64 l] 33)).alloc (.cells #[.slice none 0 0, .int .i64 0, .int .i64 0] 33)).alloc (.cells #[.slice none 0 0, .int .i64 q, .int .i64 (l + 1)] 33) = W) := ⟨_, rfl⟩
  obtain ⟨g0, hg0⟩ : ∃ g, Hid (w.heap.size = g) := ⟨_, rfl⟩
  obtain ⟨g1, hg1⟩ : ∃ g, Hid (w.heap.size + 1 = g) := ⟨_, rfl⟩
  obtain ⟨g2, hg2⟩ : ∃ g, Hid (w.heap.size + 1 + 1 = g) := ⟨_, rfl⟩
  have hb1 : Hid (Below w.heap.size w W) := by rw [← hW.out]; exact ((below_new _ _).alloc (by simp) _).alloc (by simp; omega) _
  have h4 := three_heap w (.cells #[.slice A nl c, .int .i64 q, .int .i64 l] 33) (.cells #[.slice none 0 0, .int .i64 0, .int .i64 0] 33) (.cells #[.slice none 0 0, .int .i64 q, .int .i64 (l + 1)] 33)
  rw [hW.out, hg2.out, hg1.out, hg0.out] at h4
  obtain ⟨hsW, hc0, hc1, hc2⟩ := h4
  have hc0 := Lib.hid hc0
  have hc1 := Lib.hid hc1
  have hc2 := Lib.hid hc2
  rw [hW.out, hg2.out, hg1.out, hg0.out]
  have Hr := Lib.hid (hr.below hb1.out)
  have hr0 := Lib.hid hr
  have c0 := three_cell hc0.out
  have c3 := three_cell hc2.out
  have f3 := three_frozen (i := 0) hc2.out
  clear hr hl hW
  go_upto_region 3 with (at_builtin; refine wpList_append_any _ rfl (.tmp 11) (.tmp 13) 31 rfl W.heap.size 139 i0 _ 3 40 Tryz.underlying31 hi0 hz0 hz1 hz2 rfl (by omega) (.slice none 0 0) 0 [] rfl (World.ownsRow_nil _ _ _ _) W.heap.size A nl c (rvcells es) rfl (by rw [← hnl.out]; exact RdX.reads Hr.out.top) (rvcells_one _) (by simp only [maxLen]; omega) (by omega) (Nat.le_refl _) ?_; intro v1 w3 hown1 hgr3 hblk3; have hb3 : Below W.heap.size W w3 := Below.grown (.refl _ _) hgr3 (Nat.le_refl _) fun k e => (by cases e); clear hgr3 hblk3; rw [List.nil_append, Nat.zero_add] at hown1; have d3 := three_cell ((hb3.block _ (Array.getElem?_eq_some_iff.1 hc2.out).1).trans hc2.out); have e3 := three_frozen (i := 0) ((hb3.block _ (Array.getElem?_eq_some_iff.1 hc2.out).1).trans hc2.out); obtain ⟨A1, k1, rfl, hk1, _⟩ := own_form hown1)
  have HO := Lib.hid hown1
  have Hb3 := Lib.hid hb3
  clear d3 e3 hown1 hb3
  have b3 : Hid (w3.heap[g2]? = some (.cells #[.slice none 0 0, .int .i64 q, .int .i64 (l + 1)] 33 (0, 0))) := (Hb3.out.block _ (Array.getElem?_eq_some_iff.1 hc2.out).1).trans hc2.out
  obtain ⟨W4, hW4⟩ : ∃ W', Hid (w3.setCell ⟨g2, 0, none⟩ (.slice A1 nl k1) = W') := ⟨_, rfl⟩
  have hT4 : Hid (Touch (fun k => k = g2) w3 W4) := by rw [← hW4.out]; exact Touch.cell1 _ _ _ _
  have b4 : Hid (W4.heap[g2]? = some (.cells #[.slice A1 nl k1, .int .i64 q, .int .i64 (l + 1)] 33 (0, 0))) := by rw [← hW4.out]; exact three_set0 _ b3.out
  have hg2W : g2 < W.heap.size := (Array.getElem?_eq_some_iff.1 hc2.out).1
  have hO4 := Lib.hid (own_touch HO.out hT4.out fun b hb e => by have := (HO.out.lt b hb).1; omega)
  have n02 : g0 ≠ g2 := by rw [← hg0.out, ← hg2.out]; omega
  have n12 : g1 ≠ g2 := by rw [← hg1.out, ← hg2.out]; omega
  have b40 := Lib.hid (hT4.out.heap n02 ((Hb3.out.block _ (Array.getElem?_eq_some_iff.1 hc0.out).1).trans hc0.out))
  have b41 := Lib.hid (hT4.out.heap n12 ((Hb3.out.block _ (Array.getElem?_eq_some_iff.1 hc1.out).1).trans hc1.out))
  have hs4 : W.heap.size ≤ W4.heap.size := Nat.le_trans Hb3.out.size hT4.out.size
  rw [hW4.out]
  have m0 := three_cell b40.out
  have m2 := three_cell b4.out
  clear hW4
  go_upto_region 4 with (at_builtin; refine push_rv (.tmp 17) (.tmp 22) ⟨l + 1, 0, none, 0, []⟩ hO4.out hs4 (by omega) rfl rfl rfl rfl rfl ?_; intro A5 c5 w5 hO5 hg5 hb5; have u2 := three_cell ((hg5.block _ (by omega) (fun e => by have := hO4.out.lt _ e.symm; omega)).trans b4.out); have u3 := three_frozen (i := 0) ((hg5.block _ (by omega) (fun e => by have := hO4.out.lt _ e.symm; omega)).trans b4.out); have HO5 := Lib.hid hO5; have Hg5 := Lib.hid hg5; have Hb5 := Lib.hid hb5; clear hO5 hg5 hb5)
  have b5 := (Hg5.out.block _ (by omega) (fun e => by have := hO4.out.lt _ e.symm; omega)).trans b4.out
  have hg1W : g1 < W.heap.size := (Array.getElem?_eq_some_iff.1 hc1.out).1
  have a5 := (Hg5.out.block _ (by omega) (fun e => by have := hO4.out.lt _ e.symm; omega)).trans b41.out
  obtain ⟨W6, hW6⟩ : ∃ W', Hid (w5.setCell ⟨g2, 0, none⟩ (.slice A5 (nl + 1) c5) = W') := ⟨_, rfl⟩
  have hT6 : Hid (Touch (fun k => k = g2) w5 W6) := by rw [← hW6.out]; exact Touch.cell1 _ _ _ _
  have b6 : Hid (W6.heap[g2]? = some (.cells #[.slice A5 (nl + 1) c5, .int .i64 q, .int .i64 (l + 1)] 33 (0, 0))) := by rw [← hW6.out]; exact three_set0 _ b5
  have a6 := Lib.hid (hT6.out.heap n12 a5)
  have hO6 := Lib.hid (own_touch HO5.out hT6.out fun b hb e => by have := (HO5.out.lt b hb).1; omega)
  rw [hW6.out]
  have b6c := three_cell b6.out
  have a6c := three_cell a6.out
  have a60 := three_frozen (i := 0) a6.out
  have a61 := three_frozen (i := 1) a6.out
  have a62 := three_frozen (i := 2) a6.out
  clear u2 u3 m0 m2 hW6 b5 a5
  go_wp2
  have hz := three_set (.slice A5 (nl + 1) c5) (.int .i64 q) (.int .i64 (l + 1)) a6.out
  refine ret_tab1 rfl g1 _ _ _ _ (0, 0) rfl hz rfl ?_
  have hT7 := Touch.cells3 W6 g1 (.slice A5 (nl + 1) c5) (.int .i64 q) (.int .i64 (l + 1))
  have hbW6 : Below w.heap.size W W6 := by
    refine (Hb3.out.mono hb1.out.size).trans (Below.trans (hT4.out.below (Nat.le_trans hb1.out.size Hb3.out.size) fun j (e : j = g2) => by rw [e, ← hg2.out]; omega) (Below.trans (Hb5.out.mono hb1.out.size) (hT6.out.below (Nat.le_trans hb1.out.size (Nat.le_trans hs4 Hb5.out.size)) fun j (e : j = g2) => by rw [e, ← hg2.out]; omega)))
  have hbw : Below w.heap.size w _ := (hb1.out.trans hbW6).trans (hT7.below (Nat.le_trans hb1.out.size hbW6.size) fun j (e : j = g1) => by rw [e, ← hg1.out]; omega)
  have hlen : (es ++ [(⟨l + 1, 0, none, 0, []⟩ : Rv)]).length = nl + 1 := by rw [List.length_append, hnl.out]; rfl
  refine ⟨_, rfl, hbw, ⟨_, _, es ++ [⟨l + 1, 0, none, 0, []⟩], by rw [hlen], ⟨?_, ?_⟩, by simp [Rv.m, says]⟩⟩
  · have ho := own_touch hO6.out hT7 fun j hj (e : j = g1) => by have := (hO6.out.lt j hj).1; omega
    have hR := own_avoid (X := AX w X) ho fun j (e : j < w.heap.size ∧ X j) => Nat.lt_of_lt_of_le e.1 hb1.out.size
    rw [hlen]
    exact hR
  · intro e he
    rcases List.mem_append.1 he with h | h
    · exact ((hr0.out.file e h).below hbw).mono fun j _ (e : j < w.heap.size ∧ X j) => e.2
    · rw [List.mem_singleton.1 h]; exact PsX.nil
end Go.Proofs.YtbhmnmmockmibaaGreat

namespace Go.Proofs.YtbhmnmmockmibaaGreat
open Go.RowKit
set_option maxRecDepth 100000 in
theorem rnew_any {X : Nat → Prop} (quota : Int) (w : World) (_h1 : -9223372036854775808 ≤ quota) (_h2 : quota ≤ 9223372036854775807) :
    Calls Tryz.prog 26 #[.int .i64 quota] w fun e w' => ∃ u, e = .returned u ∧ Below w.heap.size w w' ∧ RefT w' X u [] (max quota 0) 0 := by
  have n1 := heap_alloc_new w (.cells #[.slice none 0 0, .int .i64 (max quota 0), .int .i64 0] 33)
  go_enter Tryz.func26, Tryz.ntmps26
  go_wp2
  refine ret_tab1 rfl w.heap.size (.slice none 0 0) (.int .i64 (max quota 0)) (.int .i64 0) 33 (0, 0) rfl n1 rfl ?_
  exact ⟨_, rfl, below_new _ _, none, 0, [], rfl, RtX.nil, rfl⟩
end Go.Proofs.YtbhmnmmockmibaaGreat

namespace Go.Proofs.YtbhmnmmockmibaaGreat
open Go.RowKit
def outR (M : List Rm) (k : Nat) : Nat → List Rm
  | 0 => []
  | j + 1 => outR M k j ++ match M[j]? with
    | none => []
    | some x => if j = k then (if 0 < wrap64 (x.n - 1) then [⟨x.i, wrap64 (x.n - 1), x.m⟩] else []) else [x]
theorem outR_keep {M : List Rm} {k j : Nat} {x : Rm} (h : M[j]? = some x) (hk : j ≠ k) : outR M k (j + 1) = outR M k j ++ [x] := by
  simp [outR, h, hk]
theorem outR_less {M : List Rm} {k : Nat} {x : Rm} (h : M[k]? = some x) (hn : 0 < wrap64 (x.n - 1)) : outR M k (k + 1) = outR M k k ++ [⟨x.i, wrap64 (x.n - 1), x.m⟩] := by
  simp only [outR, h, if_true]
  rw [if_pos hn]
theorem outR_gone {M : List Rm} {k : Nat} {x : Rm} (h : M[k]? = some x) (hn : ¬ 0 < wrap64 (x.n - 1)) : outR M k (k + 1) = outR M k k := by
  simp only [outR, h, if_true]
  rw [if_neg hn, List.append_nil]
theorem push_rvn {ops : Array Oper} {rest : List Oper} {o : Oper} {a : Act} {Q : Exit → Act → World → Prop} {w : World} {base : Nat} {v : Value} {N n np c : Nat} {i m : Int} {A : Option Addr} {ps : List Pa} (s y : Operand) {es : List Rv} (hnp : ps.length = np) (hown : w.ownsRow base 139 3 v n (rvcells es)) (hbase : base ≤ w.heap.size) (hl : n ≤ 100000)
    (hgd : o.guard = none) (ho : o.op = .call { callee := .builtin .append, args := #[s, y], argTypes := #[31, 31] })
    (hs : a.eval s = v) (hy : a.eval y = .slice (some ⟨N, 0, none⟩) 1 1) (hN : w.heap.size = N)
    (h : ∀ A' c' w', w'.ownsRow base 139 3 (.slice A' (n + 1) c') (n + 1) (rvcells (es ++ [⟨i, m, A, c, ps⟩])) → w.grownBy w' v.ownBlock → Below base w w' → wpList Tryz.prog ops Q rest (a.put o.dst (.slice A' (n + 1) c')) w') :
    wpList Tryz.prog ops Q (o :: rest) a (w.alloc (.cells #[.int .i64 i, .int .i64 m, .slice A np c] 139)) := by
  subst hnp
  exact push_rv s y ⟨i, m, A, c, ps⟩ hown hbase hl hgd ho hs hy hN h
structure DSt (W1 wr : World) (g2 : Nat) (q l : Int) (es : List Rv) (M : List Rm) (A : Option Addr) (n c : Nat) (es' : List Rv) : Prop where
  size : g2 < W1.heap.size
  touch : Touch (fun b => b = g2) W1 wr
  box : wr.heap[g2]? = some (.cells #[.slice A n c, .int .i64 q, .int .i64 l] 33 (0, 0))
  own : wr.ownsRow W1.heap.size 139 3 (.slice A n c) n (rvcells es')
  len : es'.length = n
  vals : es'.map Rv.m = M
  src : ∀ e ∈ es', ∃ x ∈ es, e.A = x.A ∧ e.ps = x.ps
section
variable {W1 wr wa : World} {g2 n c : Nat} {q l : Int} {es es' : List Rv} {M : List Rm} {A : Option Addr}
theorem DSt.step (h : DSt W1 wr g2 q l es M A n c es') (hb : Below wr.heap.size wr wa) : DSt W1 wa g2 q l es M A n c es' :=
  ⟨h.size, h.touch.trans (Touch.of hb), (hb.block _ (Array.getElem?_eq_some_iff.1 h.box).1).trans h.box, own_below h.own hb (Nat.le_refl _), h.len, h.vals, h.src⟩
theorem DSt.size' (h : DSt W1 wr g2 q l es M A n c es') : W1.heap.size ≤ wr.heap.size := h.touch.size
theorem DSt.snoc (h : DSt W1 wa g2 q l es M A n c es') {w6 : World} {A6 : Option Addr} {c6 : Nat} {x : Rv} (hO : w6.ownsRow W1.heap.size 139 3 (.slice A6 (n + 1) c6) (n + 1) (rvcells (es' ++ [x]))) (hb : Below W1.heap.size wa w6) (hx : ∃ y ∈ es, x.A = y.A ∧ x.ps = y.ps) :
    DSt W1 (w6.setCell ⟨g2, 0, none⟩ (.slice A6 (n + 1) c6)) g2 q l es (M ++ [x.m]) A6 (n + 1) c6 (es' ++ [x]) := by
  have hT := Touch.cell1 w6 g2 0 (.slice A6 (n + 1) c6)
  have hb6 := (hb.block g2 h.size).trans h.box
  have ht6 : Touch (fun b => b = g2) W1 w6 := ⟨hb.os.trans h.touch.os, hb.tape.trans h.touch.tape, hb.output.trans h.touch.output, Nat.le_trans h.touch.size hb.size, fun k hk hn => (hb.block k hk).trans (h.touch.block k hk hn)⟩
  refine ⟨h.size, ht6.trans hT, three_set0 _ hb6, own_touch hO hT fun b hbb (e : b = g2) => ?_, by rw [List.length_append, h.len]; rfl, by rw [List.map_append, h.vals]; rfl, ?_⟩
  · have h1 := (hO.lt b hbb).1
    have h2 := h.size
    omega
  · intro e he
    rcases List.mem_append.1 he with h' | h'
    · exact h.src e h'
    · rw [List.mem_singleton.1 h']; exact hx
theorem DSt.at2 (h : DSt W1 wr g2 q l es M A n c es') : (wr.cell? ⟨g2, 0, none⟩ = some (.slice A n c) ∧ wr.cell? ⟨g2, 1, none⟩ = some (.int .i64 q) ∧ wr.cell? ⟨g2, 2, none⟩ = some (.int .i64 l)) ∧ wr.frozen? ⟨g2, 0, none⟩ = false := ⟨three_cell h.box, three_frozen h.box⟩
end
set_option maxHeartbeats 3000000 in
set_option maxRecDepth 100000 in
theorem rdropT_any {X : Nat → Prop} {v : Value} {M : List Rm} {q l z : Int} {w : World} (hl : M.length ≤ 1000) (hs : ∀ x ∈ M, -9223372036854775808 ≤ x.n ∧ x.n ≤ 9223372036854775807) (hr : RefT w X v M q l) :
    Calls Tryz.prog 81 #[v, .int .i64 z] w fun e w' => ∃ u er, e = .returned (.tuple #[u, .int .i64 er]) ∧ Below w.heap.size w w' ∧ ((er = 80 ∧ (∀ x ∈ M, x.i ≠ z) ∧ RefT w' (AX w X) u M q l) ∨ (er = 0 ∧ ∃ (k : Nat) (x : Rm), M[k]? = some x ∧ x.i = z ∧ RefT w' (AX w X) u (outR M k M.length) q l)) := by
  obtain ⟨A, c, es, rfl, h1, rfl⟩ := hr
  rw [List.length_map] at hl
  obtain ⟨nl, hnl⟩ : ∃ n, Hid (es.length = n) := ⟨_, rfl⟩
  have hl2 : Hid (nl ≤ 1000) := by rw [← hnl.out]; exact hl
  have Hs := Lib.hid hs
  rw [hnl.out]
  obtain ⟨W, hW⟩ : ∃ W, Hid ((w.alloc (.cells #[.slice A nl c, .int .i64 q, .int .i64 l] 33)).alloc (.cells #[.slice none 0 0, .int .i64 0, .int .i64 0] 33) = W) := ⟨_, rfl⟩
  obtain ⟨g0, hg0⟩ : ∃ g, Hid (w.heap.size = g) := ⟨_, rfl⟩
  obtain ⟨g1, hg1⟩ : ∃ g, Hid (w.heap.size + 1 = g) := ⟨_, rfl⟩
  have HB := Lib.hid (Bx.of hW.out hg0.out hg1.out)
  have Hr := Lib.hid (HB.out.start h1)
  have c0 := three_cell HB.out.c0
  clear h1 hl hs
  go_enter Tryz.func81, Tryz.ntmps81
  go_upto_region 1 with fail
  rw [hW.out, hg1.out, hg0.out]
  go_upto_region 2 with (go_at_call 82; refine (rfind_n hnl.out hl2.out Hr.out).mono ?_; rintro e w1 ⟨r, rfl, hb1, hcase⟩)
  have Hb1 := Lib.hid hb1
  have k0 := three_cell (HB.out.at0 Hb1.out)
  have k1 := three_cell (HB.out.at1 Hb1.out)
  have k2 := three_frozen (i := 0) (HB.out.at1 Hb1.out)
  have k3 := three_frozen (i := 1) (HB.out.at1 Hb1.out)
  have k4 := three_frozen (i := 2) (HB.out.at1 Hb1.out)
  clear hb1 c0
  rcases hcase with ⟨rfl, hno⟩ | ⟨k, x, rfl, hx, hi⟩
  · go_wp2
    have hz := three_set (.slice A nl c) (.int .i64 q) (.int .i64 l) (HB.out.at1 Hb1.out)
    refine ret_tab2 rfl g1 _ _ _ _ (0, 0) rfl hz rfl ?_
    exact ⟨_, _, rfl, HB.out.fin Hb1.out _ _ _, .inl ⟨rfl, ne_of_all hno, HB.out.ans ⟨A, c, es, by rw [hnl.out], Hr.out.below Hb1.out, rfl⟩ _ _ _⟩⟩
  · have hkn : k < nl := by rw [← hnl.out]; exact (List.getElem?_eq_some_iff.1 hx).1
    have Hx := Lib.hid hx
    have hi0 := Lib.hid hi
    clear hx hi hW k1 k2 k3 k4
    go_upto_region 5 with fail
    obtain ⟨W1, hW1⟩ : ∃ W', Hid (w1.alloc (.cells #[.slice none 0 0, .int .i64 q, .int .i64 l] 33) = W') := ⟨_, rfl⟩
    obtain ⟨g2, hg2⟩ : ∃ g, Hid (w1.heap.size = g) := ⟨_, rfl⟩
    have hbW1 : Hid (Below w1.heap.size w1 W1) := by rw [← hW1.out]; exact below_new _ _
    have hst0 : Hid (DSt W1 W1 g2 q l es [] none 0 0 []) := by
      refine ⟨?_, Touch.refl _ _, ?_, World.ownsRow_nil _ _ _ _, rfl, rfl, by simp⟩
      · rw [← hW1.out, ← hg2.out]; simp
      · rw [← hW1.out, ← hg2.out]; exact heap_alloc_new _ _
    rw [hW1.out, hg2.out]
    clear k0 hW1
    go_wp2
    go_loopw [8, 9] (fun i _ wr => ∃ (j n' c' : Nat) (A' : Option Addr) (es' : List Rv), j ≤ nl ∧ n' ≤ j ∧ i = .int .i64 (j : Int) ∧ Hid (DSt W1 wr g2 q l es (outR (es.map Rv.m) k j) A' n' c' es')) (fun i _ _ => nl - (intOf i).toNat)
    case atStart => exact ⟨0, 0, 0, none, [], by omega, by omega, rfl, hst0.out⟩
    case round =>
      obtain ⟨j, n', c', A', es', hj, hnj, rfl, hst⟩ := hrel
      have hbw1 : Hid (Below w1.heap.size W1 wr) := hst.out.touch.below hbW1.out.size fun b (e : b = g2) => by rw [e, ← hg2.out]; omega
      have Hbr : Hid (Below W.heap.size W wr) := Hb1.out.trans ((hbW1.out.trans hbw1.out).mono Hb1.out.size)
      have hjI : (j : Int) ≤ 1000 := by have := hl2.out; omega
      have k0 := three_cell (HB.out.at0 Hbr.out)
      by_cases hlt : j < nl
      · obtain ⟨ad, x', hA, hab, hax, d0, d1, d2, hx', hps⟩ := (Hr.out.below Hbr.out).at_ (k := j) (by rw [hnl.out]; exact hlt)
        obtain ⟨xi, xn, xA, xc, xps⟩ := x'
        obtain ⟨np, hnp⟩ : ∃ n, Hid (xps.length = n) := ⟨_, rfl⟩
        simp only [hnp.out] at d0 d1 d2
        have hsm : Hid (-9223372036854775808 ≤ xn ∧ xn ≤ 9223372036854775807) := Hs.out _ (mem_of_get (Rm_get hx'.out))
        have hxn1 := hsm.out.1
        have hxn2 := hsm.out.2
        have hsrc : Hid (∃ y ∈ es, xA = y.A ∧ xps = y.ps) := ⟨_, mem_of_get hx'.out, rfl, rfl⟩
        have hM : Hid ((es.map Rv.m)[j]? = some ⟨xi, xn, says xps⟩) := Rm_get hx'.out
        obtain ⟨g3, hg3⟩ : ∃ g, Hid (wr.heap.size = g) := ⟨_, rfl⟩
        clear hab hax hps
        subst hA
        go_upto_region 9 with fail
        obtain ⟨Wa, hWa⟩ : ∃ W', Hid (wr.alloc (.cells #[.int .i64 xi, .int .i64 xn, .slice xA np xc] 139) = W') := ⟨_, rfl⟩
        have hba : Hid (Below wr.heap.size wr Wa) := by rw [← hWa.out]; exact below_new _ _
        have hca : Hid (Wa.heap[g3]? = some (.cells #[.int .i64 xi, .int .i64 xn, .slice xA np xc] 139 (0, 0))) := by rw [← hWa.out, ← hg3.out]; exact heap_alloc_new _ _
        rw [hWa.out, hg3.out]
        clear d0 d1 d2 k0 hWa
        by_cases hjk : j = k
        · subst hjk
          have d3 := three_cell hca.out
          have f3 := three_frozen (i := 1) hca.out
          go_upto_region 11 with fail
          obtain ⟨x1, hx1⟩ : ∃ y, Hid (wrap64 (xn - 1) = y) := ⟨_, rfl⟩
          rw [hx1.out]
          obtain ⟨Wb, hWb⟩ : ∃ W', Hid (Wa.setCell ⟨g3, 1, none⟩ (.int .i64 x1) = W') := ⟨_, rfl⟩
          have hTb : Hid (Touch (fun b => b = g3) Wa Wb) := by rw [← hWb.out]; exact Touch.cell1 _ _ _ _
          have hcb : Hid (Wb.heap[g3]? = some (.cells #[.int .i64 xi, .int .i64 x1, .slice xA np xc] 139 (0, 0))) := by rw [← hWb.out]; exact three_set1 _ hca.out
          have hbb : Hid (Below wr.heap.size wr Wb) := hba.out.trans (hTb.out.below hba.out.size fun b (e : b = g3) => by rw [e, ← hg3.out]; omega)
          have hsb := Lib.hid (hst.out.step hbb.out)
          rw [hWb.out]
          clear d3 f3 hWb
          have d3 := three_cell hcb.out
          by_cases hpos : 0 < x1
          · have hdp : decide (0 < x1) = true := decide_eq_true hpos
            obtain ⟨m2, m3⟩ := hsb.out.at2
            go_wp2_with (at_builtin; refine push_rvn (.tmp 49) (.tmp 51) hnp.out hsb.out.own hsb.out.size' (by omega) rfl rfl rfl rfl rfl ?_; intro A6 c6 w6 hO6 hg6 hb6; have Hst6 := Lib.hid (hsb.out.snoc hO6 hb6 hsrc.out); obtain ⟨u2, u3⟩ := (⟨three_cell ((hb6.block g2 hsb.out.size).trans hsb.out.box), three_frozen (i := 0) ((hb6.block g2 hsb.out.size).trans hsb.out.box)⟩ : _ ∧ _); clear hO6 hg6 hb6)
            go_roundw
            case rel => exact ⟨j + 1, n' + 1, c6, A6, es' ++ [⟨xi, x1, xA, xc, xps⟩], by omega, by omega, by go_num, by rw [outR_less hM.out (by rw [hx1.out]; exact hpos)]; show DSt _ _ _ _ _ _ (_ ++ [⟨xi, wrap64 (xn - 1), _⟩]) _ _ _ _; rw [hx1.out]; exact Hst6.out⟩
            case measure => simp [intOf]; omega
          · have hdp : decide (0 < x1) = false := decide_eq_false hpos
            go_wp2
            go_roundw
            case rel => exact ⟨j + 1, n', c', A', es', by omega, by omega, by go_num, by rw [outR_gone hM.out (by rw [hx1.out]; exact hpos)]; exact hsb.out⟩
            case measure => simp [intOf]; omega
        · have hjki : ¬ (j : Int) = (k : Int) := by omega
          have hdk : decide ((j : Int) = (k : Int)) = false := decide_eq_false hjki
          have hsb := Lib.hid (hst.out.step hba.out)
          obtain ⟨m2, m3⟩ := hsb.out.at2
          have d3 := three_cell hca.out
          go_wp2_with (at_builtin; refine push_rvn (.tmp 49) (.tmp 51) hnp.out hsb.out.own hsb.out.size' (by omega) rfl rfl rfl rfl rfl ?_; intro A6 c6 w6 hO6 hg6 hb6; have Hst6 := Lib.hid (hsb.out.snoc hO6 hb6 hsrc.out); obtain ⟨u2, u3⟩ := (⟨three_cell ((hb6.block g2 hsb.out.size).trans hsb.out.box), three_frozen (i := 0) ((hb6.block g2 hsb.out.size).trans hsb.out.box)⟩ : _ ∧ _); clear hO6 hg6 hb6)
          go_roundw
          case rel => exact ⟨j + 1, n' + 1, c6, A6, es' ++ [⟨xi, xn, xA, xc, xps⟩], by omega, by omega, by go_num, by rw [outR_keep hM.out hjk]; exact Hst6.out⟩
          case measure => simp [intOf]; omega
      · have hjn : j = nl := by omega
        have q1 := three_cell (HB.out.at1 Hbr.out)
        have q2 := three_frozen (i := 0) (HB.out.at1 Hbr.out)
        have q3 := three_frozen (i := 1) (HB.out.at1 Hbr.out)
        have q4 := three_frozen (i := 2) (HB.out.at1 Hbr.out)
        obtain ⟨m2, m3⟩ := hst.out.at2
        go_wp2
        have hz := three_set (.slice A' n' c') (.int .i64 q) (.int .i64 l) (HB.out.at1 Hbr.out)
        refine ret_tab2 rfl g1 _ _ _ _ (0, 0) rfl hz rfl ?_
        have hW1s : W.heap.size ≤ W1.heap.size := Nat.le_trans Hb1.out.size hbW1.out.size
        have hRT : RefT wr (AY w W X) (.agg #[.slice A' n' c', .int .i64 q, .int .i64 l]) (outR (es.map Rv.m) k (es.map Rv.m).length) q l := by
          refine ⟨A', c', es', by rw [hst.out.len], ⟨?_, fun e he => ?_⟩, ?_⟩
          · rw [hst.out.len]
            exact own_avoid hst.out.own fun b (e : AY w W X b) => Nat.lt_of_lt_of_le e.1 hW1s
          · obtain ⟨y, hy, e1, e2⟩ := hst.out.src e he
            rw [e1, e2]
            exact (Hr.out.below Hbr.out).file y hy
          · rw [hst.out.vals, hjn, List.length_map, hnl.out]
        exact ⟨_, _, rfl, HB.out.fin Hbr.out _ _ _, .inr ⟨rfl, k, _, Rm_get Hx.out, hi0.out, HB.out.ans hRT _ _ _⟩⟩
end Go.Proofs.YtbhmnmmockmibaaGreat

namespace Go.Proofs.YtbhmnmmockmibaaGreat
open Go.RowKit
def rmF (f : Fi) : Rm := ⟨f.i, f.n, f.m⟩
def rmT (fs : List Fi) : List Rm := fs.map rmF
theorem rmT_len (fs : List Fi) : (rmT fs).length = fs.length := by simp [rmT]
theorem rmT_used (fs : List Fi) : usedR (rmT fs) = usedF fs := by simp [usedR, sumR, rmT, rmF, usedF, sumF, Function.comp_def]
theorem rmT_vol (fs : List Fi) : volR (rmT fs) = volF fs := by simp [volR, sumR, rmT, rmF, volF, sumF, Function.comp_def]
theorem rmT_get {fs : List Fi} {k : Nat} {x : Rm} (h : (rmT fs)[k]? = some x) : ∃ f, fs[k]? = some f ∧ x = rmF f := by
  unfold rmT at h
  rw [List.getElem?_map] at h
  cases hf : fs[k]? with
  | none => rw [hf] at h; cases h
  | some f => rw [hf] at h; injection h with h; exact ⟨f, rfl, h.symm⟩
theorem rmT_none {fs : List Fi} {z : Int} (h : ∀ x ∈ rmT fs, x.i ≠ z) : findF fs z = none := by
  unfold findF
  rw [List.find?_eq_none]
  intro f hf e
  exact h (rmF f) (List.mem_map_of_mem hf) (show f.i = z by simpa using e)
theorem rmT_some {fs : List Fi} {z : Int} {k : Nat} {x : Rm} (hs : fs.Pairwise fun a b => a.i < b.i) (h : (rmT fs)[k]? = some x) (hz : x.i = z) : ∃ f, fs[k]? = some f ∧ findF fs z = some f ∧ x = rmF f := by
  obtain ⟨f, hf, rfl⟩ := rmT_get h
  refine ⟨f, hf, ?_, rfl⟩
  have := findF_at hs hf
  rw [show f.i = z from hz] at this
  exact this
theorem pair_other {fs : List Fi} {k j : Nat} {f y : Fi} (hs : fs.Pairwise fun a b => a.i < b.i) (hf : fs[k]? = some f) (hy : fs[j]? = some y) (hjk : j ≠ k) : y.i ≠ f.i := by
  obtain ⟨hk, e1⟩ := List.getElem?_eq_some_iff.1 hf
  obtain ⟨hj, e2⟩ := List.getElem?_eq_some_iff.1 hy
  have h := List.pairwise_iff_getElem.1 hs
  rcases Nat.lt_or_ge j k with hlt | hge
  · have := h j k hj hk hlt
    rw [e1, e2] at this
    omega
  · have := h k j hk hj (by omega)
    rw [e1, e2] at this
    omega
theorem rmT_upd {fs : List Fi} {k : Nat} {f : Fi} {n : Int} {m : List Pt} (hs : fs.Pairwise fun a b => a.i < b.i) (hf : fs[k]? = some f) : (rmT fs).set k ⟨f.i, n, m⟩ = rmT (updF fs f.i n m) := by
  apply List.ext_getElem?
  intro j
  unfold rmT updF
  rw [List.getElem?_map, List.getElem?_map]
  by_cases hj : j = k
  · subst hj
    have hl := (List.getElem?_eq_some_iff.1 hf).1
    rw [List.getElem?_set_self (by rw [List.length_map]; exact hl), hf]
    simp [rmF]
  · rw [List.getElem?_set_ne (by omega), List.getElem?_map]
    cases hy : fs[j]? with
    | none => rfl
    | some y =>
      have := pair_other hs hf hy hj
      simp [rmF, this]
theorem outR_all {M : List Rm} {k : Nat} {x : Rm} (h : M[k]? = some x) : ∀ j, j ≤ M.length → outR M k j = if j ≤ k then M.take j else if 0 < wrap64 (x.n - 1) then (M.set k ⟨x.i, wrap64 (x.n - 1), x.m⟩).take j else M.take k ++ (M.take j).drop (k + 1)
  | 0, _ => by simp [outR]
  | j + 1, hj => by
    have ih := outR_all h j (by omega)
    obtain ⟨y, hy⟩ : ∃ y, M[j]? = some y := ⟨M[j]'(by omega), List.getElem?_eq_getElem _⟩
    by_cases hjk : j = k
    · subst hjk
      obtain rfl : x = y := Option.some.inj (h.symm.trans hy)
      rw [if_pos (Nat.le_refl _)] at ih
      rw [if_neg (by omega)]
      by_cases hp : 0 < wrap64 (x.n - 1)
      · rw [outR_less h hp, if_pos hp, ih]
        rw [take_snoc (k := j) (x := (⟨x.i, wrap64 (x.n - 1), x.m⟩ : Rm)) (Lib.hid (List.getElem?_set_self (by omega)))]
        rw [List.take_set_of_le (Nat.le_refl _)]
      · rw [outR_gone h hp, if_neg hp, ih, List.drop_eq_nil_of_le (by rw [List.length_take]; omega), List.append_nil]
    · rw [outR_keep hy hjk, ih]
      by_cases hlt : j ≤ k
      · rw [if_pos hlt, if_pos (by omega)]
        exact (take_snoc (Lib.hid hy)).symm
      · rw [if_neg hlt]
        rw [if_neg (show ¬ j + 1 ≤ k by omega)]
        by_cases hp : 0 < wrap64 (x.n - 1)
        · rw [if_pos hp, if_pos hp]
          exact (take_snoc (Lib.hid ((List.getElem?_set_ne (by omega)).trans hy))).symm
        · rw [if_neg hp, if_neg hp, take_snoc (Lib.hid hy), List.drop_append_of_le_length (by rw [List.length_take]; omega), List.append_assoc]
theorem outR_end {M : List Rm} {k : Nat} {x : Rm} (h : M[k]? = some x) : outR M k M.length = if 0 < wrap64 (x.n - 1) then M.set k ⟨x.i, wrap64 (x.n - 1), x.m⟩ else M.take k ++ M.drop (k + 1) := by
  have hk := (List.getElem?_eq_some_iff.1 h).1
  rw [outR_all h _ (Nat.le_refl _), if_neg (by omega), List.take_length]
  by_cases hp : 0 < wrap64 (x.n - 1)
  · rw [if_pos hp, if_pos hp, List.take_of_length_le (by rw [List.length_set]; exact Nat.le_refl _)]
  · rw [if_neg hp, if_neg hp]
theorem upd_set {fs : List Fi} {k : Nat} {f : Fi} {n : Int} {m : List Pt} (hs : fs.Pairwise fun a b => a.i < b.i) (hf : fs[k]? = some f) : updF fs f.i n m = fs.set k ⟨f.i, f.g, n, m⟩ := by
  apply List.ext_getElem?
  intro j
  unfold updF
  rw [List.getElem?_map]
  by_cases hj : j = k
  · subst hj
    have hl := (List.getElem?_eq_some_iff.1 hf).1
    rw [List.getElem?_set_self hl, hf]
    simp
  · rw [List.getElem?_set_ne (by omega)]
    cases hy : fs[j]? with
    | none => rfl
    | some y =>
      have := pair_other hs hf hy hj
      simp [this]
theorem set_parts {α : Type} {l : List α} {k : Nat} (x : α) (hk : k < l.length) : l.set k x = l.take k ++ x :: l.drop (k + 1) := by
  rw [List.set_eq_take_append_cons_drop, if_pos hk]
theorem rmT_drop {fs : List Fi} {k : Nat} {f : Fi} (hs : fs.Pairwise fun a b => a.i < b.i) (hf : fs[k]? = some f) : outR (rmT fs) k (rmT fs).length = rmT (leaveF (updF fs f.i (wrap64 (f.n - 1)) f.m) f.i (wrap64 (f.n - 1))) := by
  have hk := (List.getElem?_eq_some_iff.1 hf).1
  have hM : (rmT fs)[k]? = some (rmF f) := by unfold rmT; rw [List.getElem?_map, hf]; rfl
  rw [outR_end hM]
  have hs2 : (updF fs f.i (wrap64 (f.n - 1)) f.m).Pairwise fun a b => a.i < b.i := by
    have h1 : ((updF fs f.i (wrap64 (f.n - 1)) f.m).map Fi.i).Pairwise (· < ·) := by rw [updF_i]; exact List.pairwise_map.2 hs
    exact List.pairwise_map.1 h1
  have hu := upd_set (n := wrap64 (f.n - 1)) (m := f.m) hs hf
  rw [hu] at hs2 ⊢
  rw [set_parts _ hk] at hs2 ⊢
  have hl := leave_mid (f := ⟨f.i, f.g, wrap64 (f.n - 1), f.m⟩) hs2
  show _ = rmT (leaveF _ f.i (wrap64 (f.n - 1)))
  rw [show leaveF (fs.take k ++ ⟨f.i, f.g, wrap64 (f.n - 1), f.m⟩ :: fs.drop (k + 1)) f.i (wrap64 (f.n - 1)) = _ from hl]
  by_cases hp : 0 < wrap64 (f.n - 1)
  · rw [if_pos (show 0 < wrap64 ((rmF f).n - 1) from hp), set_parts _ (by rw [rmT_len]; exact hk)]
    unfold stayF
    rw [if_neg (show ¬ wrap64 (f.n - 1) < 1 by omega)]
    simp [rmT, rmF]
  · rw [if_neg (show ¬ 0 < wrap64 ((rmF f).n - 1) from hp)]
    unfold stayF
    rw [if_pos (show wrap64 (f.n - 1) < 1 by omega)]
    simp [rmT]
end Go.Proofs.YtbhmnmmockmibaaGreat

namespace Go.Proofs.YtbhmnmmockmibaaGreat
open Go.RowKit
def padK (keep : List Bool) (at_ n : Nat) : List Bool := (List.range n).map fun k => keep.getD (at_ + k) false
theorem padK_len (keep : List Bool) (at_ n : Nat) : (padK keep at_ n).length = n := by simp [padK]
theorem padK_snoc (keep : List Bool) (at_ n : Nat) : padK keep at_ (n + 1) = padK keep at_ n ++ [keep.getD (at_ + n) false] := by simp [padK, List.range_succ]
def outF (M : List Rm) (names : List En) (keep : List Bool) : Nat → List Rm
  | 0 => []
  | j + 1 => outF M names keep j ++ match M[j]? with
    | none => []
    | some x => if manyF names x.i < 1 then [] else [⟨x.i, manyF names x.i, failM x.m (padK keep (volR (M.take j)) (volM x.m))⟩]
theorem outF_gone {M : List Rm} {names : List En} {keep : List Bool} {j : Nat} {x : Rm} (h : M[j]? = some x) (hn : manyF names x.i < 1) : outF M names keep (j + 1) = outF M names keep j := by
  simp only [outF, h]
  rw [if_pos hn, List.append_nil]
theorem outF_stay {M : List Rm} {names : List En} {keep : List Bool} {j : Nat} {x : Rm} (h : M[j]? = some x) (hn : ¬ manyF names x.i < 1) : outF M names keep (j + 1) = outF M names keep j ++ [⟨x.i, manyF names x.i, failM x.m (padK keep (volR (M.take j)) (volM x.m))⟩] := by
  simp only [outF, h]
  rw [if_neg hn]
theorem manyF_cons (e : En) (l : List En) (z : Int) : manyF (e :: l) z = if e.1 = z then e.2 else manyF l z := by
  unfold manyF
  by_cases h : e.1 = z <;> simp [h]
theorem manyF_drop {l : List En} {k : Nat} {e : En} (h : l[k]? = some e) (z : Int) : manyF (l.drop k) z = if e.1 = z then e.2 else manyF (l.drop (k + 1)) z := by
  obtain ⟨hk, e'⟩ := List.getElem?_eq_some_iff.1 h
  rw [List.drop_eq_getElem_cons hk, e', manyF_cons]
theorem holdM_ext : ∀ (m : List Pt) (k k' : List Bool), (∀ q ∈ m, q.1 ≠ []) → (∀ j, j < volM m → (k[j]?).getD false = (k'[j]?).getD false) → holdM m k = holdM m k'
  | [], _, _, _, _ => by simp [holdM]
  | p :: m, k, k', hf, h => by
    have hf' : ∀ q ∈ m, q.1 ≠ [] := fun q hq => hf q (List.mem_cons_of_mem _ hq)
    have hp : p.1.isEmpty = false := by have := hf p (List.mem_cons_self ..); cases e : p.1 <;> simp_all
    by_cases hd : p.2 = true
    · have hv : volM (p :: m) = volM m := by simp [volM, hd]
      rw [holdM_d hd, holdM_d hd, holdM_ext m k k' hf' (by rw [← hv]; exact h)]
    · have hd' : p.2 = false := by cases e : p.2 <;> simp_all
      have hv : volM (p :: m) = volM m + 1 := by simp [volM, hd', hp]
      have h0 := h 0 (by omega)
      have hpe : p = (p.1, false) := by rw [← hd']
      cases k with
      | nil =>
        cases k' with
        | nil => rfl
        | cons b k' =>
          simp at h0
          rw [holdM_none hd, holdM_told hd, h0, ← hpe]
          rw [holdM_ext m [] k' hf' fun j hj => by have := h (j + 1) (by omega); simpa using this]
      | cons a k =>
        cases k' with
        | nil =>
          simp at h0
          rw [holdM_none hd, holdM_told hd, h0, ← hpe]
          rw [holdM_ext m k [] hf' fun j hj => by have := h (j + 1) (by omega); simpa using this]
        | cons b k' =>
          simp at h0
          rw [holdM_told hd, holdM_told hd, h0]
          rw [holdM_ext m k k' hf' fun j hj => by have := h (j + 1) (by omega); simpa using this]
theorem volM_fullM (m : List Pt) : volM (fullM m) = volM m := volM_full m
theorem failM_pad (m : List Pt) (keep : List Bool) (a : Nat) : failM m (padK keep a (volM m)) = failM m ((keep.drop a).take (volM m)) := by
  unfold failM
  rw [holdM_ext (fullM m) _ ((keep.drop a).take (volM m)) fun q hq => fullM_mem hq]
  intro j hj
  rw [volM_fullM] at hj
  rw [List.getElem?_take_of_lt hj, List.getElem?_drop]
  unfold padK
  rw [List.getElem?_map, List.getElem?_range hj]
  simp [List.getD]
theorem failT_snoc (names : List En) (f : Fi) : ∀ (fs : List Fi) (keep : List Bool), failT (fs ++ [f]) names keep = failT fs names keep ++ stayF (failF f names (keep.drop (volF fs)))
  | [], keep => by simp [failT, volF, sumF]
  | x :: fs, keep => by
    have hv : volF (x :: fs) = volM x.m + volF fs := by simp [volF, sumF]
    rw [List.cons_append, failT, failT, failT_snoc names f fs, List.append_assoc, hv, List.drop_drop]
theorem rmT_fail (names : List En) (keep : List Bool) (fs : List Fi) : ∀ j, j ≤ fs.length → outF (rmT fs) names keep j = rmT (failT (fs.take j) names keep)
  | 0, _ => by simp [outF, failT, rmT]
  | j + 1, hj => by
    have ih := rmT_fail names keep fs j (by omega)
    obtain ⟨f, hf⟩ : ∃ f, fs[j]? = some f := ⟨fs[j]'(by omega), List.getElem?_eq_getElem _⟩
    have hM : (rmT fs)[j]? = some (rmF f) := by unfold rmT; rw [List.getElem?_map, hf]; rfl
    have hv : volR ((rmT fs).take j) = volF (fs.take j) := by rw [← rmT_vol]; simp [rmT]
    rw [take_snoc (Lib.hid hf), failT_snoc]
    by_cases hn : manyF names (rmF f).i < 1
    · rw [outF_gone hM hn, ih]
      unfold stayF
      rw [if_pos (show (failF f names _).n < 1 from hn), List.append_nil]
    · rw [outF_stay hM hn, ih, hv]
      unfold stayF
      rw [if_neg (show ¬ (failF f names _).n < 1 from hn)]
      show _ ++ [(⟨f.i, manyF names f.i, failM f.m (padK keep _ (volM f.m))⟩ : Rm)] = _
      rw [failM_pad]
      simp [rmT, rmF, failF]
end Go.Proofs.YtbhmnmmockmibaaGreat
