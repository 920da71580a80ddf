/- The kind whose names look so; a text's Name, as the code reads it. Conditions: texts below 2^32. -/
import Derived.Test.YtipmpebckfaknaaDoorNmG
import Derived.Test.YtipmpebckfaknaaDoorNmX
namespace Go.Proofs.YtipmpebckfaknaaDoor
open Go.RowKit Go.Lib

section
variable {b : Act} {w : World} {o : Oper}
theorem exec_loadS {x : Operand} {a : Addr} {u v : Value} (ho : o.op = .load 58 x) (h : b.eval x = .pointer (some a)) (h0 : w.cell? a = some u) (h1 : w.cell? ⟨a.block, a.off + 1, none⟩ = some v) : (execOp b.eval o).run Tryd.prog w = .ok (.value (.agg #[u, v])) w := by
  unfold execOp
  simp only [ho, h]
  go_simp
theorem exec_eqS {x y : Operand} {l m : List UInt8} {i j : Nat} (ho : o.op = .binOp .eql 58 x y 58) (h : b.eval x = .agg #[.string (txt l), .int .i64 (i : Int)]) (h' : b.eval y = .agg #[.string (txt m), .int .i64 (j : Int)]) : (execOp b.eval o).run Tryd.prog w = .ok (.value (.bool (decide (l = m ∧ i = j)))) w := by
  unfold execOp
  simp only [ho, h, h']
  go_simp
  by_cases hl : l = m
  · subst hl
    by_cases hi : i = j
    · subst hi; simp
    · have hi' : ¬ (i : Int) = (j : Int) := by omega
      simp [hi, hi']
  · have hne : ¬ (txt l).toList = (txt m).toList := fun e => hl (by rw [ByteArray.toList_eq, ByteArray.toList_eq] at e; exact e)
    simp [hl, hne]
end
def kindTab : List (List UInt8 × Nat) := [([], 0), ([115], 2), ([98], 2), ([116], 3), ([106], 4)]
theorem kindFor_hit {l : List UInt8} {m k : Nat} {q : List UInt8 × Nat} (hk : kindTab[k]? = some q) (h : q.1 = l ∧ q.2 = m) : kindFor l m = k := by
  obtain ⟨rfl, rfl⟩ := h
  match k, hk with
  | 0, hk => injection hk with hk; subst hk; rfl
  | 1, hk => injection hk with hk; subst hk; rfl
  | 2, hk => injection hk with hk; subst hk; rfl
  | 3, hk => injection hk with hk; subst hk; rfl
  | 4, hk => injection hk with hk; subst hk; rfl
theorem kindFor_miss {l : List UInt8} {m : Nat} (h : ∀ (k : Nat) (q : List UInt8 × Nat), k < 5 → kindTab[k]? = some q → ¬ (q.1 = l ∧ q.2 = m)) : kindFor l m = 0 := by
  unfold kindFor
  rw [if_neg (fun e => h 1 _ (by decide) rfl ⟨e.1.symm, e.2.symm⟩), if_neg (fun e => h 2 _ (by decide) rfl ⟨e.1.symm, e.2.symm⟩), if_neg (fun e => h 3 _ (by decide) rfl ⟨e.1.symm, e.2.symm⟩), if_neg (fun e => h 4 _ (by decide) rfl ⟨e.1.symm, e.2.symm⟩)]
/-- The places ahead of k do not fit. -/
def Miss (l : List UInt8) (m k : Nat) : Prop := ∀ (j : Nat) (q : List UInt8 × Nat), j < k → kindTab[j]? = some q → ¬ (q.1 = l ∧ q.2 = m)
theorem Miss.next {l : List UInt8} {m k : Nat} {q : List UInt8 × Nat} (h : Miss l m k) (hk : kindTab[k]? = some q) (hq : ¬ (q.1 = l ∧ q.2 = m)) : Miss l m (k + 1) := by
  intro j r hj hr
  by_cases e : j = k
  · subst e
    rw [hk] at hr
    injection hr with hr
    subst hr
    exact hq
  · exact h j r (by omega) hr

theorem idx_0 (w : World) : (Instr.index 59 (.agg #[.string (txt []), .int .i64 0, .string (txt [115]), .int .i64 2, .string (txt [98]), .int .i64 2, .string (txt [116]), .int .i64 3, .string (txt [106]), .int .i64 4]) (.int .i64 0)).run Tryd.prog w = .ok (.agg #[.string (txt []), .int .i64 0]) w := by kernel_rfl
theorem idx_1 (w : World) : (Instr.index 59 (.agg #[.string (txt []), .int .i64 0, .string (txt [115]), .int .i64 2, .string (txt [98]), .int .i64 2, .string (txt [116]), .int .i64 3, .string (txt [106]), .int .i64 4]) (.int .i64 1)).run Tryd.prog w = .ok (.agg #[.string (txt [115]), .int .i64 2]) w := by kernel_rfl
theorem idx_2 (w : World) : (Instr.index 59 (.agg #[.string (txt []), .int .i64 0, .string (txt [115]), .int .i64 2, .string (txt [98]), .int .i64 2, .string (txt [116]), .int .i64 3, .string (txt [106]), .int .i64 4]) (.int .i64 2)).run Tryd.prog w = .ok (.agg #[.string (txt [98]), .int .i64 2]) w := by kernel_rfl
theorem idx_3 (w : World) : (Instr.index 59 (.agg #[.string (txt []), .int .i64 0, .string (txt [115]), .int .i64 2, .string (txt [98]), .int .i64 2, .string (txt [116]), .int .i64 3, .string (txt [106]), .int .i64 4]) (.int .i64 3)).run Tryd.prog w = .ok (.agg #[.string (txt [116]), .int .i64 3]) w := by kernel_rfl
theorem idx_4 (w : World) : (Instr.index 59 (.agg #[.string (txt []), .int .i64 0, .string (txt [115]), .int .i64 2, .string (txt [98]), .int .i64 2, .string (txt [116]), .int .i64 3, .string (txt [106]), .int .i64 4]) (.int .i64 4)).run Tryd.prog w = .ok (.agg #[.string (txt [106]), .int .i64 4]) w := by kernel_rfl

set_option maxHeartbeats 2000000 in
set_option maxRecDepth 100000 in
theorem kindOf_any (l : List UInt8) (m : Nat) (w : World) (hE : Env w) :
    Calls Tryd.prog 35 #[.agg #[.string (txt l), .int .i64 (m : Int)]] w fun e w' => e = .returned (.int .u8 (kindFor l m : Nat)) ∧ Below w.heap.size w w' := by
  obtain ⟨W, hW⟩ : ∃ W, Hid (W = w.alloc (.cells #[.string (txt l), .int .i64 (m : Int)] 58)) := ⟨_, rfl⟩
  have hG : Below w.heap.size w W := by rw [hW.out]; exact below_new _ _
  have hE' := (hE.on hG).here
  have c0 := hE'.shp 0 _ rfl
  have c1 := hE'.shp 1 _ rfl
  have c2 := hE'.shp 2 _ rfl
  have c3 := hE'.shp 3 _ rfl
  have c4 := hE'.shp 4 _ rfl
  have c5 := hE'.shp 5 _ rfl
  have c6 := hE'.shp 6 _ rfl
  have c7 := hE'.shp 7 _ rfl
  have c8 := hE'.shp 8 _ rfl
  have c9 := hE'.shp 9 _ rfl
  have b0 : W.cell? ⟨w.heap.size, 0, none⟩ = some (.string (txt l)) := by rw [hW.out]; exact cell_of_row _ _ 0 _ _ _ (heap_alloc_new w _)
  have b1 : W.cell? ⟨w.heap.size, 1, none⟩ = some (.int .i64 (m : Int)) := by rw [hW.out]; exact cell_of_row _ _ 1 _ _ _ (heap_alloc_new w _)
  have hz : w.heap.size < W.heap.size := by rw [hW.out]; simp
  have HG := Lib.hid hG
  have Hz := Lib.hid hz
  have HB0 := Lib.hid b0
  have HB1 := Lib.hid b1
  clear hE hE' hG hz b0 b1
  go_enter Tryd.func35, Tryd.ntmps35
  go_upto_region 1 with fail
  rw [← hW.out]
  go_wp2
  clear c0 c1 c2 c3 c4 c5 c6 c7 c8 c9
  go_loopw [6] (fun i wr => ∃ k : Nat, k ≤ 5 ∧ i = .int .i64 (k : Int) ∧ Hid (Miss l m k) ∧ Below W.heap.size W wr) (fun i _ => 5 - (Lib.intOf i).toNat)
  case atStart => exact ⟨0, Nat.zero_le _, rfl, fun j q hj _ => absurd hj (Nat.not_lt_zero _), .refl _ _⟩
  case round =>
    obtain ⟨k, hk, rfl, Hk, hb⟩ := hrel
    have HB := Lib.hid hb
    clear hb
    by_cases hlt : k < 5
    · obtain ⟨⟨a, j⟩, hq⟩ : ∃ q, kindTab[k]? = some q := ⟨_, List.getElem?_eq_getElem hlt⟩
      have Hq := Lib.hid hq
      obtain ⟨N, hN⟩ : ∃ N, Hid (N = wr.alloc (.cells #[.string (txt a), .int .i64 (j : Int)] 58)) := ⟨_, rfl⟩
      have HN : Hid (Below wr.heap.size wr N) := by rw [hN.out]; exact below_new _ _
      have hn0 : N.cell? ⟨wr.heap.size, 0, none⟩ = some (.string (txt a)) := by rw [hN.out]; exact cell_of_row _ _ 0 _ _ _ (heap_alloc_new wr _)
      have hn1 : N.cell? ⟨wr.heap.size, 1, none⟩ = some (.int .i64 (j : Int)) := by rw [hN.out]; exact cell_of_row _ _ 1 _ _ _ (heap_alloc_new wr _)
      have hlw : w.heap.size < wr.heap.size := Nat.lt_of_lt_of_le Hz.out HB.out.size
      have hs0 : N.cell? ⟨w.heap.size, 0, none⟩ = some (.string (txt l)) := (HN.out.cell (p := ⟨w.heap.size, 0, none⟩) hlw).trans ((HB.out.cell (p := ⟨w.heap.size, 0, none⟩) Hz.out).trans HB0.out)
      have hs1 : N.cell? ⟨w.heap.size, 1, none⟩ = some (.int .i64 (m : Int)) := (HN.out.cell (p := ⟨w.heap.size, 1, none⟩) hlw).trans ((HB.out.cell (p := ⟨w.heap.size, 1, none⟩) Hz.out).trans HB1.out)
      have HNB : Hid (Below W.heap.size W N) := HB.out.trans (HN.out.mono HB.out.size)
      have Hn0 := Lib.hid hn0
      have Hn1 := Lib.hid hn1
      have Hs0 := Lib.hid hs0
      have Hs1 := Lib.hid hs1
      clear hn0 hn1 hs0 hs1 hlw hq
      match k, hlt, Hq with
      | 0, _, Hq =>
        obtain ⟨rfl, rfl⟩ : [] = a ∧ 0 = j := by have := Hq.out; injection this with this; injection this with h1 h2; exact ⟨h1, h2⟩
        have hi := idx_0 wr
        go_upto_region 4 with fail
        rw [← (show N = wr.alloc (.cells #[.string (txt []), .int .i64 0] 58) from hN.out)]
        refine wp_region_lit (wpList_run rfl (exec_loadS rfl rfl Hn0.out Hn1.out) (wpList_run rfl (exec_loadS rfl rfl Hs0.out Hs1.out) (wpList_run rfl (exec_eqS (l := ([] : List UInt8)) (m := l) (i := 0) (j := m) rfl rfl rfl) ?_)))
        by_cases hm : ([] : List UInt8) = l ∧ 0 = m
        · rw [decide_eq_true hm]
          have Hm := Lib.hid (kindFor_hit Hq.out hm)
          clear hm
          go_wp2
          go_ret
          exact ⟨by rw [Hm.out]; rfl, HG.out.trans (HNB.out.mono HG.out.size)⟩
        · rw [decide_eq_false hm]
          have Hm := Lib.hid (Hk.out.next Hq.out hm)
          clear hm
          go_wp2
          go_roundw
          case rel => exact ⟨1, by omega, by go_num, Hm, HNB.out⟩
          case measure => simp [Lib.intOf]
      | 1, _, Hq =>
        obtain ⟨rfl, rfl⟩ : [115] = a ∧ 2 = j := by have := Hq.out; injection this with this; injection this with h1 h2; exact ⟨h1, h2⟩
        have hi := idx_1 wr
        go_upto_region 4 with fail
        rw [← (show N = wr.alloc (.cells #[.string (txt [115]), .int .i64 2] 58) from hN.out)]
        refine wp_region_lit (wpList_run rfl (exec_loadS rfl rfl Hn0.out Hn1.out) (wpList_run rfl (exec_loadS rfl rfl Hs0.out Hs1.out) (wpList_run rfl (exec_eqS (l := ([115] : List UInt8)) (m := l) (i := 2) (j := m) rfl rfl rfl) ?_)))
        by_cases hm : ([115] : List UInt8) = l ∧ 2 = m
        · rw [decide_eq_true hm]
          have Hm := Lib.hid (kindFor_hit Hq.out hm)
          clear hm
          go_wp2
          go_ret
          exact ⟨by rw [Hm.out]; rfl, HG.out.trans (HNB.out.mono HG.out.size)⟩
        · rw [decide_eq_false hm]
          have Hm := Lib.hid (Hk.out.next Hq.out hm)
          clear hm
          go_wp2
          go_roundw
          case rel => exact ⟨2, by omega, by go_num, Hm, HNB.out⟩
          case measure => simp [Lib.intOf]
      | 2, _, Hq =>
        obtain ⟨rfl, rfl⟩ : [98] = a ∧ 2 = j := by have := Hq.out; injection this with this; injection this with h1 h2; exact ⟨h1, h2⟩
        have hi := idx_2 wr
        go_upto_region 4 with fail
        rw [← (show N = wr.alloc (.cells #[.string (txt [98]), .int .i64 2] 58) from hN.out)]
        refine wp_region_lit (wpList_run rfl (exec_loadS rfl rfl Hn0.out Hn1.out) (wpList_run rfl (exec_loadS rfl rfl Hs0.out Hs1.out) (wpList_run rfl (exec_eqS (l := ([98] : List UInt8)) (m := l) (i := 2) (j := m) rfl rfl rfl) ?_)))
        by_cases hm : ([98] : List UInt8) = l ∧ 2 = m
        · rw [decide_eq_true hm]
          have Hm := Lib.hid (kindFor_hit Hq.out hm)
          clear hm
          go_wp2
          go_ret
          exact ⟨by rw [Hm.out]; rfl, HG.out.trans (HNB.out.mono HG.out.size)⟩
        · rw [decide_eq_false hm]
          have Hm := Lib.hid (Hk.out.next Hq.out hm)
          clear hm
          go_wp2
          go_roundw
          case rel => exact ⟨3, by omega, by go_num, Hm, HNB.out⟩
          case measure => simp [Lib.intOf]
      | 3, _, Hq =>
        obtain ⟨rfl, rfl⟩ : [116] = a ∧ 3 = j := by have := Hq.out; injection this with this; injection this with h1 h2; exact ⟨h1, h2⟩
        have hi := idx_3 wr
        go_upto_region 4 with fail
        rw [← (show N = wr.alloc (.cells #[.string (txt [116]), .int .i64 3] 58) from hN.out)]
        refine wp_region_lit (wpList_run rfl (exec_loadS rfl rfl Hn0.out Hn1.out) (wpList_run rfl (exec_loadS rfl rfl Hs0.out Hs1.out) (wpList_run rfl (exec_eqS (l := ([116] : List UInt8)) (m := l) (i := 3) (j := m) rfl rfl rfl) ?_)))
        by_cases hm : ([116] : List UInt8) = l ∧ 3 = m
        · rw [decide_eq_true hm]
          have Hm := Lib.hid (kindFor_hit Hq.out hm)
          clear hm
          go_wp2
          go_ret
          exact ⟨by rw [Hm.out]; rfl, HG.out.trans (HNB.out.mono HG.out.size)⟩
        · rw [decide_eq_false hm]
          have Hm := Lib.hid (Hk.out.next Hq.out hm)
          clear hm
          go_wp2
          go_roundw
          case rel => exact ⟨4, by omega, by go_num, Hm, HNB.out⟩
          case measure => simp [Lib.intOf]
      | 4, _, Hq =>
        obtain ⟨rfl, rfl⟩ : [106] = a ∧ 4 = j := by have := Hq.out; injection this with this; injection this with h1 h2; exact ⟨h1, h2⟩
        have hi := idx_4 wr
        go_upto_region 4 with fail
        rw [← (show N = wr.alloc (.cells #[.string (txt [106]), .int .i64 4] 58) from hN.out)]
        refine wp_region_lit (wpList_run rfl (exec_loadS rfl rfl Hn0.out Hn1.out) (wpList_run rfl (exec_loadS rfl rfl Hs0.out Hs1.out) (wpList_run rfl (exec_eqS (l := ([106] : List UInt8)) (m := l) (i := 4) (j := m) rfl rfl rfl) ?_)))
        by_cases hm : ([106] : List UInt8) = l ∧ 4 = m
        · rw [decide_eq_true hm]
          have Hm := Lib.hid (kindFor_hit Hq.out hm)
          clear hm
          go_wp2
          go_ret
          exact ⟨by rw [Hm.out]; rfl, HG.out.trans (HNB.out.mono HG.out.size)⟩
        · rw [decide_eq_false hm]
          have Hm := Lib.hid (Hk.out.next Hq.out hm)
          clear hm
          go_wp2
          go_roundw
          case rel => exact ⟨5, by omega, by go_num, Hm, HNB.out⟩
          case measure => simp [Lib.intOf]
    · obtain rfl : k = 5 := by omega
      go_wp2
      go_ret
      exact ⟨by rw [kindFor_miss Hk.out]; rfl, HG.out.trans (HB.out.mono HG.out.size)⟩

/-! ### a text's Name -/
/-- Parse's answer. -/
def ParseAns (s : List UInt8) (e : Ending) : Prop := match parseOf s with
  | some x => e = .returned (.tuple #[x.v, .bool true])
  | none => e = .returned (.tuple #[Nm.zero.v, .bool false])
theorem ParseAns.none {s : List UInt8} (h : parseOf s = none) : ParseAns s (.returned (.tuple #[.agg #[.int .u8 0, .int .u64 0, .int .u64 0, .int .u64 0, .int .u64 0, .int .u64 0], .bool false])) := by
  unfold ParseAns; rw [h]; rfl
theorem ParseAns.some {s : List UInt8} {x : Nm} (h : parseOf s = some x) : ParseAns s (.returned (.tuple #[x.v, .bool true])) := by
  unfold ParseAns; rw [h]
def cells4 (ns : List Nat) : Array Value := #[.int .u64 (ns.getD 0 0 : Nat), .int .u64 (ns.getD 1 0 : Nat), .int .u64 (ns.getD 2 0 : Nat), .int .u64 (ns.getD 3 0 : Nat)]
theorem cells4_set {ns : List Nat} {u : Nat} (h : ns.length < 4) : (cells4 ns).setIfInBounds ns.length (.int .u64 (u : Int)) = cells4 (ns ++ [u]) := by
  match ns, h with
  | [], _ => rfl
  | [a], _ => rfl
  | [a, b], _ => rfl
  | [a, b, c], _ => rfl
theorem setCell_block {w : World} {g k : Nat} {cs : Array Value} {t : TypeId} {fr : Nat × Nat} {v : Value} (h : w.heap[g]? = some (.cells cs t fr)) : (w.setCell ⟨g, k, none⟩ v).heap[g]? = some (.cells (cs.setIfInBounds k v) t fr) := by
  simp [World.setCell, Array.getElem?_modify, h]
/-- What Parse's loop has. -/
structure ParseSt (s letter : List UInt8) (k : Nat) (ns : List Nat) (ds : List (List UInt8)) (rest : List UInt8) (more : Bool) : Prop where
  split : splitD s = letter :: (ds ++ if more then splitD rest else [])
  nums : ds.mapM numOf = some ns
  len : ns.length = k
theorem ParseSt.size {s letter : List UInt8} {k : Nat} {ns : List Nat} {ds : List (List UInt8)} {rest : List UInt8} {more : Bool} (h : ParseSt s letter k ns ds rest more) : ds.length = k := by
  have := (mapM_inv h.nums).1
  rw [this, List.length_map, h.len]
theorem ParseSt.bad {s letter : List UInt8} {k : Nat} {ns : List Nat} {ds : List (List UInt8)} {rest d : List UInt8} {r : List (List UInt8)} (h : ParseSt s letter k ns ds rest true) (hr : splitD rest = d :: r) (hd : numOf d = none) : parseOf s = none := by
  refine parse_not (letter := letter) (ds := ds ++ d :: r) ?_ (mapM_bad hd)
  rw [h.split, if_pos rfl, hr]
theorem ParseSt.yes {s letter : List UInt8} {k u : Nat} {ns : List Nat} {ds : List (List UInt8)} {rest a b : List UInt8} (h : ParseSt s letter k ns ds rest true) (hr : rest = a ++ 45 :: b) (ha : (45 : UInt8) ∉ a) (hd : numOf a = some u) : ParseSt s letter (k + 1) (ns ++ [u]) (ds ++ [a]) b true := by
  refine ⟨?_, mapM_snoc h.nums hd, by simp [h.len]⟩
  rw [h.split, if_pos rfl, if_pos rfl, hr, splitD_cut ha]
  simp
theorem ParseSt.last {s letter : List UInt8} {k u : Nat} {ns : List Nat} {ds : List (List UInt8)} {rest : List UInt8} (h : ParseSt s letter k ns ds rest true) (ha : (45 : UInt8) ∉ rest) (hd : numOf rest = some u) : ParseSt s letter (k + 1) (ns ++ [u]) (ds ++ [rest]) [] false := by
  refine ⟨?_, mapM_snoc h.nums hd, by simp [h.len]⟩
  rw [h.split, if_pos rfl, if_neg (by decide), splitD_no ha]
  simp
theorem ParseSt.over {s letter : List UInt8} {ns : List Nat} {ds : List (List UInt8)} {rest : List UInt8} (h : ParseSt s letter 4 ns ds rest true) : parseOf s = none := by
  have e : splitD s = letter :: (ds ++ splitD rest) := by rw [h.split]; simp
  unfold parseOf
  rw [e]
  simp only
  have := List.length_pos_iff.2 (splitD_ne rest)
  rw [if_pos (by rw [List.length_append, h.size]; omega)]
theorem ParseSt.done {s letter : List UInt8} {k : Nat} {ns : List Nat} {ds : List (List UInt8)} {rest : List UInt8} (h : ParseSt s letter k ns ds rest false) (hk : k ≤ 4) : parseOf s = if kindFor letter k = 0 then none else some (madeOf (kindFor letter k) (ns.getD 0 0) (ns.getD 1 0) (ns.getD 2 0) (ns.getD 3 0)) := by
  have e : splitD s = letter :: ds := by rw [h.split]; simp
  unfold parseOf
  rw [e]
  simp only
  rw [if_neg (by rw [h.size]; omega), h.nums]
  show nameFor letter ns = _
  unfold nameFor
  rw [h.len]
end Go.Proofs.YtipmpebckfaknaaDoor
