/- The reference's with. Conditions: at most 1000 operations. The reference's Add, Remove, Fail. Conditions: at most 1000 operations. What a table's calls do, by definition. Conditions: none. The reference's tables as values. Conditions: none. -/
import Derived.Test.YtbhmnmmockmibaaGreatKpFdS
import Derived.Test.YtbhmnmmockmibaaGreatKpFoMem2
import Derived.Deep.RegionWith
import Derived.Deep.RegionHeld3
import Derived.Test.YtbhmnmmockmibaaGreatKpFtT
import Derived.Test.YtbhmnmmockmibaaGreatKpMany
import Derived.Lib.SmallJoins
namespace Go.Proofs.YtbhmnmmockmibaaGreat
open Go.RowKit
theorem info_act : (Tryz.prog.info? 157).map (fun i => (i.zero, i.size, i.bytes)) = some (some (.agg #[.bool false, .string ByteArray.empty, .int .i64 0]), 3, 32) := by kernel_rfl
section
variable {ops : Array Oper} {o : Oper} {a : Act} {K : Act → World → Prop} {Q : Exit → Act → World → Prop} {w : World} {base : Nat} {v : Value} {E : Prop}
theorem step_push_pr {N n : Nat} (s x : Operand) {l : List Pr} (p : Pr) (hown : w.ownsRow base 157 3 v n (prcells l)) (hbase : base ≤ w.heap.size) (hl : n ≤ 1000)
    (hgd : o.guard = none) (ho : o.op = .call { callee := .builtin .append, args := #[s, x], argTypes := #[28, 28] })
    (hs : a.eval s = v) (hx : a.eval x = .slice (some ⟨N, 0, none⟩) 1 1) (hN : w.heap.size = N)
    (h : ∀ v' w', w'.ownsRow base 157 3 v' (n + 1) (prcells (l ++ [p])) → w.grownBy w' v.ownBlock → Below base w w' → K (a.put o.dst v') w') :
    if Region.wanted o (yielded ops a.tmps) = true then Oper.wp Tryz.prog o a (w.alloc (.cells #[.bool p.add, .string (txt p.k), .int .i64 p.v] 157)) K Q else E := by
  subst hN
  have hw : Region.wanted o (yielded ops a.tmps) = true := by simp [Region.wanted, hgd]
  rw [if_pos hw]
  obtain ⟨i0, hi0, hz0, hz1, hz2⟩ := info_parts info_act
  obtain ⟨ob, hob⟩ : ∃ ob, ob = Obj.cells #[.bool p.add, .string (txt p.k), .int .i64 p.v] 157 (0, 0) := ⟨_, rfl⟩
  rw [← hob]
  have hnew : Reads (w.alloc ob) (w.heap.size + 1) 3 (some ⟨w.heap.size, 0, none⟩) 1 (prcells [p]) := by
    refine ⟨rfl, fun _ => ⟨_, rfl, by simp, fun j u hu => ?_⟩⟩
    rw [lit_add, Nat.zero_add]
    subst hob
    rw [cell_of_row _ w.heap.size j _ _ _ (heap_alloc_new w _)]
    rw [List.getElem?_toArray]
    exact hu
  have ha : (w.alloc ob).ownsRow base 157 3 v n (prcells l) := World.ownsRow.alloc (w := w) hown ob
  refine wp_append_any (w.alloc ob) s x 28 ho base 157 i0 _ 3 32 Tryz.underlying28 hi0 hz0 hz1 hz2 rfl (by omega) v n (prcells l) hs ha (w.heap.size + 1) _ 1 1 (prcells [p]) hx hnew (prcells_one _) (by simp only [maxLen]; omega) (by omega) (by simp; omega) ?_
  intro v1 w1 h1 h2 h3
  have hb := ((Below.refl base w).alloc hbase _).trans (grown_below ha h2 (by simp; omega))
  refine h v1 w1 ?_ ⟨h2.os, h2.tape, h2.output, Nat.le_trans (by simp) h2.size, fun k hk hne => (h2.block k (by simp; omega) hne).trans (heap_alloc_old w _ hk)⟩ hb
  rw [prcells_append]
  exact h1
end
set_option maxHeartbeats 4000000 in
set_option maxRecDepth 100000 in
theorem with_any {X : Nat → Prop} {v : Value} {s : St} {w : World} (h : RefV w X v s) (hs2 : s.ops.length ≤ 1000) (o : Pr) :
    Calls Tryz.prog 86 #[v, prV o] w fun e w' => ∃ u, e = .returned u ∧ RefV w' (fun b => b < w.heap.size ∧ X b) u ⟨s.dur, s.ops ++ [o]⟩ ∧ Below w.heap.size w w' := by
  obtain ⟨A, c, A', c', rfl, h1, h2⟩ := id h.v
  have eo : prV o = .agg #[.bool o.add, .string (txt o.k), .int .i64 o.v] := rfl
  rw [eo]
  obtain ⟨nd, hnd⟩ : ∃ n, Hid (s.dur.length = n) := ⟨_, rfl⟩
  obtain ⟨no, hno⟩ : ∃ n, Hid (s.ops.length = n) := ⟨_, rfl⟩
  rw [hnd.out, hno.out]
  have hno1 : no ≤ 1000 := by rw [← hno.out]; exact hs2
  obtain ⟨i0, hi0, hz0, hz1, hz2⟩ := info_parts info_act
  obtain ⟨W1, hW1⟩ : ∃ W, Hid (w.alloc (.cells #[.slice A nd c, .slice A' no c'] 30) = W) := ⟨_, rfl⟩
  obtain ⟨W2, hW2⟩ : ∃ W, Hid (W1.alloc (.cells #[.bool o.add, .string (txt o.k), .int .i64 o.v] 157) = W) := ⟨_, rfl⟩
  obtain ⟨W, hW⟩ : ∃ W, Hid (W2.alloc (.cells #[.slice none 0 0, .slice none 0 0] 30) = W) := ⟨_, rfl⟩
  obtain ⟨bx, hbx⟩ : ∃ bx, Hid (w.heap.size = bx) := ⟨_, rfl⟩
  obtain ⟨by_, hby⟩ : ∃ b, Hid (w.heap.size + 1 = b) := ⟨_, rfl⟩
  obtain ⟨bz, hbz⟩ : ∃ b, Hid (w.heap.size + 1 + 1 = b) := ⟨_, rfl⟩
  have hs1 : W1.heap.size = w.heap.size + 1 := by rw [← hW1.out]; simp
  have hs2 : W2.heap.size = w.heap.size + 1 + 1 := by rw [← hW2.out, World.size_alloc, hs1]
  have hs3 : Hid (W.heap.size = w.heap.size + 3) := by rw [← hW.out]; show _ = _; rw [World.size_alloc, hs2]
  have hb1 : Below w.heap.size w W1 := by rw [← hW1.out]; exact below_new _ _
  have hb2 : Below w.heap.size W1 W2 := by rw [← hW2.out]; exact (below_new _ _).mono (by omega)
  have hb3 : Below w.heap.size W2 W := by rw [← hW.out]; exact (below_new _ _).mono (by omega)
  have hbW : Hid (Below w.heap.size w W) := hb1.trans (hb2.trans hb3)
  have hcx : Hid (W.heap[bx]? = some (.cells #[.slice A nd c, .slice A' no c'] 30 (0, 0))) := by
    rw [← hW.out, ← hbx.out]
    refine heap_alloc_old _ _ (by omega) |>.trans ?_
    rw [← hW2.out]
    refine heap_alloc_old _ _ (by omega) |>.trans ?_
    rw [← hW1.out]
    exact heap_alloc_new _ _
  have hcy : Hid (W.heap[by_]? = some (.cells #[.bool o.add, .string (txt o.k), .int .i64 o.v] 157 (0, 0))) := by
    rw [← hW.out, ← hby.out]
    refine heap_alloc_old _ _ (by omega) |>.trans ?_
    rw [← hW2.out, ← hs1]
    exact heap_alloc_new _ _
  have hcz : Hid (W.heap[bz]? = some (.cells #[.slice none 0 0, .slice none 0 0] 30 (0, 0))) := by
    rw [← hW.out, ← hbz.out, ← hs2]
    exact heap_alloc_new _ _
  have H1 := Lib.hid h1
  have Hnd := Lib.hid hnd
  have H2 := Lib.hid (RdX.below h2 hbW.out)
  have hcbx := two_cells hcx.out
  clear hb1 hb2 hb3 hs1 hs2 h1 h2 eo h
  go_enter Tryz.func86, Tryz.ntmps86
  go_upto_region 1 with fail
  rw [hW1.out, hW2.out, hW.out, hbz.out, hby.out, hbx.out]
  go_upto_region 3 with (at_builtin; refine wpList_append_any _ rfl (.tmp 6) (.tmp 8) 28 rfl W.heap.size 157 i0 _ 3 32 Tryz.underlying28 hi0 hz0 hz1 hz2 rfl (by omega) (.slice none 0 0) 0 [] rfl (World.ownsRow_nil _ _ _ _) W.heap.size A' no c' (prcells s.ops) rfl (by rw [← hno.out]; exact RdX.reads H2.out) (prcells_one _) (by simp only [maxLen]; omega) (by omega) (Nat.le_refl _) ?_; intro v1 w3 hown1 hg3 hblk3)
  have hb3 : Below W.heap.size W w3 := Below.grown (.refl _ _) hg3 (Nat.le_refl _) fun k e => by cases e
  rw [List.nil_append, Nat.zero_add] at hown1
  have HS : Hid (∀ wx, Below W.heap.size W wx → wx.cell? ⟨bx, 0, none⟩ = some (.slice A nd c) ∧ wx.cell? ⟨by_, 0, none⟩ = some (.bool o.add) ∧ wx.cell? ⟨by_, 1, none⟩ = some (.string (txt o.k)) ∧ wx.cell? ⟨by_, 2, none⟩ = some (.int .i64 o.v)) := by
    intro wx hb
    have hlt : ∀ g o, W.heap[g]? = some o → wx.heap[g]? = some o := fun g o hh => (hb.block g (Array.getElem?_eq_some_iff.1 hh).1).trans hh
    have dy := hlt _ _ hcy.out
    refine ⟨(two_cells (hlt _ _ hcx.out)).1, ?_, ?_, ?_⟩
    · rw [cell_of_row wx by_ 0 _ _ _ dy]; rfl
    · rw [cell_of_row wx by_ 1 _ _ _ dy]; rfl
    · rw [cell_of_row wx by_ 2 _ _ _ dy]; rfl
  have HSt : Hid (∀ wx x y, Below W.heap.size W wx → ((wx.setCell ⟨bz, 0, none⟩ x).setCell ⟨bz, 1, none⟩ y).cell? ⟨bx, 0, none⟩ = some (.slice A nd c) ∧ ((wx.setCell ⟨bz, 0, none⟩ x).setCell ⟨bz, 1, none⟩ y).cell? ⟨by_, 0, none⟩ = some (.bool o.add) ∧ ((wx.setCell ⟨bz, 0, none⟩ x).setCell ⟨bz, 1, none⟩ y).cell? ⟨by_, 1, none⟩ = some (.string (txt o.k)) ∧ ((wx.setCell ⟨bz, 0, none⟩ x).setCell ⟨bz, 1, none⟩ y).cell? ⟨by_, 2, none⟩ = some (.int .i64 o.v)) := by
    intro wx x y hb
    have hT := (Touch.cell1 wx bz 0 x).trans (Touch.cell1 _ bz 1 y)
    have h1 := (Array.getElem?_eq_some_iff.1 hcx.out).1
    have h2 := (Array.getElem?_eq_some_iff.1 hcy.out).1
    have h3 := hb.size
    have n1 : bx ≠ bz := by rw [← hbx.out, ← hbz.out]; omega
    have n2 : by_ ≠ bz := by rw [← hby.out, ← hbz.out]; omega
    obtain ⟨c0, c1, c2, c3⟩ := HS.out wx hb
    exact ⟨(hT.cell (p := ⟨bx, 0, none⟩) (by show bx < _; omega) n1).trans c0, (hT.cell (p := ⟨by_, 0, none⟩) (by show by_ < _; omega) n2).trans c1, (hT.cell (p := ⟨by_, 1, none⟩) (by show by_ < _; omega) n2).trans c2, (hT.cell (p := ⟨by_, 2, none⟩) (by show by_ < _; omega) n2).trans c3⟩
  have HB3 : Hid (Below W.heap.size W w3.drew) := hb3.drew
  have HO3 : Hid (w3.drew.ownsRow W.heap.size 157 3 v1 no (prcells s.ops)) := hown1
  obtain ⟨N3, hN3⟩ : ∃ n, Hid (w3.drew.heap.size = n) := ⟨_, rfl⟩
  obtain ⟨dx, dy0, dy1, dy2⟩ := HS.out _ HB3.out
  clear hb3 hown1 hg3 hblk3
  go_region_held3 (fun wx => wx.cell? ⟨bx, 0, none⟩ = some (.slice A nd c) ∧ wx.cell? ⟨by_, 0, none⟩ = some (.bool o.add) ∧ wx.cell? ⟨by_, 1, none⟩ = some (.string (txt o.k)) ∧ wx.cell? ⟨by_, 2, none⟩ = some (.int .i64 o.v)) (first | exact HSt.out _ _ _ Hb6.out | exact HS.out _ Hb6.out | exact HS.out _ (HB3.out.alloc HB3.out.size _) | exact HS.out _ HB3.out) (first | (refine step_push_pr (.tmp 12) (.tmp 14) o HO3.out HB3.out.size hno1 rfl rfl rfl rfl rfl ?_; intro u w6 hO6 hg6 hbl6; have Hb6 := Lib.hid (HB3.out.trans (hbl6.mono (Nat.le_refl _))); have Hown6 := Lib.hid hO6; have Hz6 := Lib.hid ((Hb6.out.block _ (Array.getElem?_eq_some_iff.1 hcz.out).1).trans hcz.out); have fz0 := two_frozen (i := 0) Hz6.out; have fz1 := two_frozen (i := 1) Hz6.out; have ez := two_cells Hz6.out; obtain ⟨B, d, rfl, _⟩ := own_form hO6; clear hO6 hg6 hbl6))
  all_goals
    (go_wp2
     have hzf := two_set1 (.slice B (no + 1) d) (two_set0 (.slice A nd c) Hz6.out)
     refine ret_two1 rfl twoDir bz _ _ _ (0, 0) rfl hzf rfl ?_
     have hT := (Touch.cell1 w6 bz 0 (.slice A nd c)).trans (Touch.cell1 _ bz 1 (.slice B (no + 1) d))
     have hbzl : bz < W.heap.size := (Array.getElem?_eq_some_iff.1 hcz.out).1
     have hbzw : w.heap.size ≤ bz := by rw [← hbz.out]; omega
     have h6w : Below w.heap.size w w6 := hbW.out.trans (Hb6.out.mono hbW.out.size)
     have hfw : Below w.heap.size w _ := h6w.trans (hT.below h6w.size fun b e => by rw [e]; exact hbzw)
     refine ⟨_, rfl, ⟨A, c, B, d, ?_, ?_, ?_⟩, hfw⟩
     · rw [← hnd.out, ← hno.out, List.length_append]; rfl
     · exact (RdX.below H1.out hfw).mono fun b _ (e : b < w.heap.size ∧ X b) => e.2
     · have ho := own_touch Hown6.out hT fun b hb e => by have := (Hown6.out.lt b hb).1; omega
       have hR := own_avoid ho fun b (e : b < w.heap.size ∧ X b) => Nat.lt_of_lt_of_le e.1 hbW.out.size
       have hl : no + 1 = (s.ops ++ [o]).length := by rw [List.length_append, hno.out]; rfl
       show RdX _ _ 3 B (s.ops ++ [o]).length (prcells (s.ops ++ [o]))
       rw [← hl]
       exact hR)
end Go.Proofs.YtbhmnmmockmibaaGreat

namespace Go.Proofs.YtbhmnmmockmibaaGreat
open Go.RowKit
section
variable {X : Nat → Prop} {v : Value} {s : St} {w : World}
theorem RefV.apart (h : RefV w X v s) (b : Nat) (hb : w.heap.size ≤ b) : RefV w (fun x => x = b ∨ X x) v s := by
  obtain ⟨A, n, A', n', e, h1, h2⟩ := h.v
  refine ⟨A, n, A', n', e, ?_, ?_⟩
  · exact h1.mono fun x hx e => by
      rcases e with e | e
      · omega
      · exact e
  · exact h2.mono fun x hx e => by
      rcases e with e | e
      · omega
      · exact e
end
structure Fr2 (w : World) (X : Nat → Prop) (v : Value) (s : St) (p q : Value) (bx bz : Nat) (W : World) : Prop where
  bel : Below w.heap.size w W
  cx : W.heap[bx]? = some (.cells #[p, q] 30 (0, 0))
  cz : W.heap[bz]? = some (.cells #[.slice none 0 0, .slice none 0 0] 30 (0, 0))
  ref : RefV W (fun b => b = bz ∨ X b) v s
  low : w.heap.size ≤ bz
theorem Fr2.new {X : Nat → Prop} {s : St} {w : World} {p q : Value} (h : RefV w X (.agg #[p, q]) s) : Fr2 w X (.agg #[p, q]) s p q w.heap.size (w.heap.size + 1) ((w.alloc (.cells #[p, q] 30)).alloc (.cells #[.slice none 0 0, .slice none 0 0] 30)) := by
  have hb : Below w.heap.size w ((w.alloc (.cells #[p, q] 30)).alloc (.cells #[.slice none 0 0, .slice none 0 0] 30)) := (below_new _ _).alloc (by simp) _
  refine ⟨hb, ?_, ?_, (h.apart _ (by omega)).below hb, by omega⟩
  · refine heap_alloc_old _ _ (by simp) |>.trans ?_
    exact heap_alloc_new _ _
  · have := heap_alloc_new (w.alloc (.cells #[p, q] 30)) (.cells #[.slice none 0 0, .slice none 0 0] 30)
    rwa [World.size_alloc] at this
theorem Fr2.keep {w : World} {X : Nat → Prop} {v : Value} {s : St} {p q : Value} {bx bz : Nat} {W W' : World} (h : Fr2 w X v s p q bx bz W) (hb : Below W.heap.size W W') : Fr2 w X v s p q bx bz W' := by
  have hlt : ∀ g o, W.heap[g]? = some o → W'.heap[g]? = some o := fun g o hh => (hb.block g (Array.getElem?_eq_some_iff.1 hh).1).trans hh
  exact ⟨h.bel.trans (hb.mono h.bel.size), hlt _ _ h.cx, hlt _ _ h.cz, h.ref.below hb, h.low⟩
theorem Fr2.fin {w : World} {X Y : Nat → Prop} {v : Value} {s t : St} {p q x y : Value} {bx bz : Nat} {W : World} (h : Fr2 w X v s p q bx bz W) (hr : RefV W Y (.agg #[x, y]) t) (hY : ∀ b, b = bz ∨ (b < w.heap.size ∧ X b) → Y b) :
    ((W.setCell ⟨bz, 0, none⟩ x).setCell ⟨bz, 1, none⟩ y).heap[bz]? = some (.cells #[x, y] 30 (0, 0)) ∧ RefV ((W.setCell ⟨bz, 0, none⟩ x).setCell ⟨bz, 1, none⟩ y) (fun b => b < w.heap.size ∧ X b) (.agg #[x, y]) t ∧ Below w.heap.size w ((W.setCell ⟨bz, 0, none⟩ x).setCell ⟨bz, 1, none⟩ y) := by
  have hT := (Touch.cell1 W bz 0 x).trans (Touch.cell1 _ bz 1 y)
  refine ⟨two_set1 y (two_set0 x h.cz), ?_, h.bel.trans (hT.below h.bel.size fun b e => by rw [e]; exact h.low)⟩
  have h1 : RefV W (fun b => b = bz ∨ (b < w.heap.size ∧ X b)) (.agg #[x, y]) t := hr.mono fun b _ e => hY b e
  exact (h1.keep (hT.mono fun b _ e => Or.inl e)).mono fun b _ e => Or.inr e
section
variable {X : Nat → Prop} {v : Value} {s : St} {N : Nat} {w : World}
theorem RefV.form (h : RefV w X v s) : ∃ A n c A' n' c', v = .agg #[.slice A n c, .slice A' n' c'] := by
  obtain ⟨A, c, A', c', e, _⟩ := h.v
  exact ⟨A, _, c, A', _, c', e⟩
set_option maxHeartbeats 4000000 in
set_option maxRecDepth 100000 in
theorem refAdd_any (h : RefV w X v s) (hg : Good s N) (hN : N ≤ 1000) (k : List UInt8) (n : Int) (hk : k.length ≤ 1000) (hn : -9223372036854775808 ≤ n ∧ n ≤ 9223372036854775807) :
    Calls Tryz.prog 80 #[v, .string (txt k), .int .i64 n] w fun e w' => ∃ u, e = .returned (.tuple #[u, .int .i64 (s.add k n).2]) ∧ RefV w' (fun b => b < w.heap.size ∧ X b) u (s.add k n).1 ∧ Below w.heap.size w w' := by
  obtain ⟨A, c, A', c', rfl, h1, h2⟩ := id h.v
  have hF := Fr2.new h
  obtain ⟨W, hW⟩ : ∃ W, Hid ((w.alloc (.cells #[.slice A s.dur.length c, .slice A' s.ops.length c'] 30)).alloc (.cells #[.slice none 0 0, .slice none 0 0] 30) = W) := ⟨_, rfl⟩
  rw [hW.out] at hF
  obtain ⟨bx, hbx⟩ : ∃ bx, Hid (w.heap.size = bx) := ⟨_, rfl⟩
  obtain ⟨bz, hbz⟩ : ∃ bx, Hid (w.heap.size + 1 = bx) := ⟨_, rfl⟩
  rw [hbz.out, hbx.out] at hF
  obtain ⟨q1, hq1⟩ : ∃ p, Hid (s.dur.length = p) := ⟨_, rfl⟩
  obtain ⟨q2, hq2⟩ : ∃ p, Hid (s.ops.length = p) := ⟨_, rfl⟩
  rw [hq1.out, hq2.out] at hF hW ⊢
  have hF := Lib.hid hF
  have hcx := two_cells hF.out.cx
  have hcz := two_cells hF.out.cz
  have hz0 := two_frozen (i := 0) hF.out.cz
  have hz1 := two_frozen (i := 1) hF.out.cz
  have Hg := Lib.hid hg
  have HN := Lib.hid hN
  have hn1 := hn.1
  have hn2 := hn.2
  have Hk := Lib.hid hk
  clear h h1 h2 hg hN hn hk
  have hsame : ∀ W', Below W.heap.size W W' → _ := fun W' hb => (hF.out.keep hb).fin (hF.out.keep hb).ref fun b e => e.elim Or.inl fun e => Or.inr e.2
  have Hsame := Lib.hid hsame
  clear hsame
  by_cases h0 : k = [] ∨ n < 0
  · have e1 : s.add k n = (s, 2) := by unfold St.add; rw [if_pos h0]
    rw [e1]
    by_cases hkk : k = []
    · have he1 : (txt k).toList.isEmpty = true := by rw [txt_isEmpty, hkk]; rfl
      have he2 : (txt k).toList = [] := List.isEmpty_iff.1 he1
      clear h0 hkk e1
      go_enter Tryz.func80, Tryz.ntmps80
      go_upto_region 1 with fail
      rw [hW.out, hbz.out, hbx.out]
      go_wp2
      obtain ⟨g1, g2, g3⟩ := Hsame.out W (Below.refl _ _)
      exact ret_two2 rfl twoDir bz _ _ _ (0, 0) rfl g1 rfl ⟨_, rfl, g2, g3⟩
    · have hn0 : n < 0 := h0.resolve_left hkk
      have he1 : (txt k).toList.isEmpty = false := by
        rw [txt_isEmpty]
        cases k with
        | nil => exact absurd rfl hkk
        | cons _ _ => rfl
      have he2 : ¬ (txt k).toList = [] := fun e => by rw [e] at he1; cases he1
      clear h0 hkk e1
      go_enter Tryz.func80, Tryz.ntmps80
      go_upto_region 1 with fail
      rw [hW.out, hbz.out, hbx.out]
      go_wp2
      obtain ⟨g1, g2, g3⟩ := Hsame.out W (Below.refl _ _)
      exact ret_two2 rfl twoDir bz _ _ _ (0, 0) rfl g1 rfl ⟨_, rfl, g2, g3⟩
  · have hkk : ¬ k = [] := fun e => h0 (.inl e)
    have hn0 : ¬ n < 0 := fun e => h0 (.inr e)
    have hn0' : 0 ≤ n := by omega
    have he1 : (txt k).toList.isEmpty = false := by
      rw [txt_isEmpty]
      cases k with
      | nil => exact absurd rfl hkk
      | cons _ _ => rfl
    have he2 : ¬ (txt k).toList = [] := fun e => by rw [e] at he1; cases he1
    have H0 := Lib.hid h0
    clear h0 hkk
    have hget := Lib.hid (refGet_any hF.out.ref Hg.out HN.out k)
    obtain ⟨z, hz⟩ : ∃ z, Hid ((getE s.now k).getD 0 = z) := ⟨_, rfl⟩
    rw [hz.out] at hget
    by_cases hh : hasE s.now k = true
    · have e0 : Hid (s.add k n = (s, 81)) := by show s.add k n = _; unfold St.add; rw [if_neg H0.out, if_pos hh]
      rw [hh] at hget
      rw [e0.out]
      clear hh
      go_enter Tryz.func80, Tryz.ntmps80
      go_upto_region 1 with fail
      rw [hW.out, hbz.out, hbx.out]
      go_wp2_with (go_at_call 41; refine hget.out.mono ?_; rintro e w1 ⟨rfl, hb1⟩; have hF1 := Lib.hid (hF.out.keep hb1); have Hb1 := Lib.hid hb1; have hcx := two_cells hF1.out.cx; have hcz := two_cells hF1.out.cz; have hz0 := two_frozen (i := 0) hF1.out.cz; have hz1 := two_frozen (i := 1) hF1.out.cz; clear hb1)
      obtain ⟨g1, g2, g3⟩ := Hsame.out _ Hb1.out
      exact ret_two2 rfl twoDir bz _ _ _ (0, 0) rfl g1 rfl ⟨_, rfl, g2, g3⟩
    · have hh' : hasE s.now k = false := by simpa using hh
      have e0 : Hid (s.add k n = (s.addE k n, 0)) := by show s.add k n = _; unfold St.add; rw [if_neg H0.out, if_neg hh]
      rw [hh'] at hget
      rw [e0.out]
      clear hh hh'
      go_enter Tryz.func80, Tryz.ntmps80
      go_upto_region 1 with fail
      rw [hW.out, hbz.out, hbx.out]
      go_wp2_with (first
        | (go_at_call 41; refine hget.out.mono ?_; rintro e w1 ⟨rfl, hb1⟩; have hF1 := Lib.hid (hF.out.keep hb1); have Hb1 := Lib.hid hb1; have hcx := two_cells hF1.out.cx; clear hb1)
        | (go_at_call 86; refine (with_any hF1.out.ref (by have := Hg.out.n; have := HN.out; omega) ⟨true, k, n⟩).mono ?_; rintro e w2 ⟨u, rfl, hu, hb2⟩; obtain ⟨B1, m1, d1, B2, m2, d2, rfl⟩ := hu.form; have hF2 := Lib.hid (hF1.out.keep hb2); have Hu := Lib.hid hu; have hcz := two_cells hF2.out.cz; have hz0 := two_frozen (i := 0) hF2.out.cz; have hz1 := two_frozen (i := 1) hF2.out.cz; clear hb2 hu))
      obtain ⟨g1, g2, g3⟩ := hF2.out.fin Hu.out fun b e => e.elim (fun e => ⟨by rw [e]; exact (Array.getElem?_eq_some_iff.1 hF1.out.cz).1, .inl e⟩) fun e => ⟨Nat.lt_of_lt_of_le e.1 hF1.out.bel.size, .inr e.2⟩
      exact ret_two2 rfl twoDir bz _ _ _ (0, 0) rfl g1 rfl ⟨_, rfl, g2, g3⟩
set_option maxHeartbeats 4000000 in
set_option maxRecDepth 100000 in
theorem refRemove_any (h : RefV w X v s) (hg : Good s N) (hN : N ≤ 1000) (k : List UInt8) (hk : k.length ≤ 1000) :
    Calls Tryz.prog 48 #[v, .string (txt k)] w fun e w' => ∃ u, e = .returned (.tuple #[u, .int .i64 (s.remove k).2.1, .int .i64 (s.remove k).2.2]) ∧ RefV w' (fun b => b < w.heap.size ∧ X b) u (s.remove k).1 ∧ Below w.heap.size w w' := by
  obtain ⟨A, c, A', c', rfl, h1, h2⟩ := id h.v
  have hF := Fr2.new h
  obtain ⟨W, hW⟩ : ∃ W, Hid ((w.alloc (.cells #[.slice A s.dur.length c, .slice A' s.ops.length c'] 30)).alloc (.cells #[.slice none 0 0, .slice none 0 0] 30) = W) := ⟨_, rfl⟩
  rw [hW.out] at hF
  obtain ⟨bx, hbx⟩ : ∃ bx, Hid (w.heap.size = bx) := ⟨_, rfl⟩
  obtain ⟨bz, hbz⟩ : ∃ bx, Hid (w.heap.size + 1 = bx) := ⟨_, rfl⟩
  rw [hbz.out, hbx.out] at hF
  obtain ⟨q1, hq1⟩ : ∃ p, Hid (s.dur.length = p) := ⟨_, rfl⟩
  obtain ⟨q2, hq2⟩ : ∃ p, Hid (s.ops.length = p) := ⟨_, rfl⟩
  rw [hq1.out, hq2.out] at hF hW ⊢
  have hF := Lib.hid hF
  have hcx := two_cells hF.out.cx
  have hcz := two_cells hF.out.cz
  have hz0 := two_frozen (i := 0) hF.out.cz
  have hz1 := two_frozen (i := 1) hF.out.cz
  have Hg := Lib.hid hg
  have HN := Lib.hid hN
  have Hk := Lib.hid hk
  clear h h1 h2 hg hN hk
  have hsame : ∀ W', Below W.heap.size W W' → _ := fun W' hb => (hF.out.keep hb).fin (hF.out.keep hb).ref fun b e => e.elim Or.inl fun e => Or.inr e.2
  have Hsame := Lib.hid hsame
  clear hsame
  have hget := Lib.hid (refGet_any hF.out.ref Hg.out HN.out k)
  obtain ⟨z, hz⟩ : ∃ z, Hid ((getE s.now k).getD 0 = z) := ⟨_, rfl⟩
  rw [hz.out] at hget
  by_cases hh : hasE s.now k = true
  · obtain ⟨e1, _⟩ := St.remove_some hh
    rw [hz.out] at e1
    rw [hh] at hget
    rw [e1]
    clear hh e1
    go_enter Tryz.func48, Tryz.ntmps48
    go_upto_region 1 with fail
    rw [hW.out, hbz.out, hbx.out]
    go_wp2_with (first
      | (go_at_call 41; refine hget.out.mono ?_; rintro e w1 ⟨rfl, hb1⟩; have hF1 := Lib.hid (hF.out.keep hb1); have Hb1 := Lib.hid hb1; have hcx := two_cells hF1.out.cx; clear hb1)
      | (go_at_call 86; refine (with_any hF1.out.ref (by have := Hg.out.n; have := HN.out; omega) ⟨false, k, z⟩).mono ?_; rintro e w2 ⟨u, rfl, hu, hb2⟩; obtain ⟨B1, m1, d1, B2, m2, d2, rfl⟩ := hu.form; have hF2 := Lib.hid (hF1.out.keep hb2); have Hu := Lib.hid hu; have hcz := two_cells hF2.out.cz; have hz0 := two_frozen (i := 0) hF2.out.cz; have hz1 := two_frozen (i := 1) hF2.out.cz; clear hb2 hu))
    obtain ⟨g1, g2, g3⟩ := hF2.out.fin Hu.out fun b e => e.elim (fun e => ⟨by rw [e]; exact (Array.getElem?_eq_some_iff.1 hF1.out.cz).1, .inl e⟩) fun e => ⟨Nat.lt_of_lt_of_le e.1 hF1.out.bel.size, .inr e.2⟩
    exact ret_two3 rfl twoDir bz _ _ _ (0, 0) rfl g1 rfl ⟨_, rfl, g2, g3⟩
  · have hh' : hasE s.now k = false := by simpa using hh
    have e1 := St.remove_none hh'
    rw [hh'] at hget
    rw [e1]
    clear hh hh' e1
    go_enter Tryz.func48, Tryz.ntmps48
    go_upto_region 1 with fail
    rw [hW.out, hbz.out, hbx.out]
    go_wp2_with (go_at_call 41; refine hget.out.mono ?_; rintro e w1 ⟨rfl, hb1⟩; have hF1 := Lib.hid (hF.out.keep hb1); have Hb1 := Lib.hid hb1; have hcx := two_cells hF1.out.cx; have hcz := two_cells hF1.out.cz; have hz0 := two_frozen (i := 0) hF1.out.cz; have hz1 := two_frozen (i := 1) hF1.out.cz; clear hb1)
    obtain ⟨g1, g2, g3⟩ := Hsame.out _ Hb1.out
    exact ret_two3 rfl twoDir bz _ _ _ (0, 0) rfl g1 rfl ⟨_, rfl, g2, g3⟩
set_option maxHeartbeats 4000000 in
set_option maxRecDepth 100000 in
theorem refFail_any (h : RefV w X v s) (hg : Good s N) (hN : N ≤ 1000) (z : Int) (hk1 : -9223372036854775808 ≤ z) (hk2 : z ≤ 9223372036854775807) :
    Calls Tryz.prog 30 #[v, .int .i64 z] w fun e w' => ∃ u, e = .returned u ∧ RefV w' (fun b => b < w.heap.size ∧ X b) u (s.fail z) ∧ Below w.heap.size w w' := by
  obtain ⟨A, c, A', c', rfl, h1, h2⟩ := id h.v
  have hF := Fr2.new h
  obtain ⟨W, hW⟩ : ∃ W, Hid ((w.alloc (.cells #[.slice A s.dur.length c, .slice A' s.ops.length c'] 30)).alloc (.cells #[.slice none 0 0, .slice none 0 0] 30) = W) := ⟨_, rfl⟩
  rw [hW.out] at hF
  obtain ⟨bx, hbx⟩ : ∃ bx, Hid (w.heap.size = bx) := ⟨_, rfl⟩
  obtain ⟨bz, hbz⟩ : ∃ bx, Hid (w.heap.size + 1 = bx) := ⟨_, rfl⟩
  rw [hbz.out, hbx.out] at hF
  obtain ⟨q1, hq1⟩ : ∃ p, Hid (s.dur.length = p) := ⟨_, rfl⟩
  obtain ⟨q2, hq2⟩ : ∃ p, Hid (s.ops.length = p) := ⟨_, rfl⟩
  rw [hq1.out, hq2.out] at hF hW ⊢
  have hF := Lib.hid hF
  have hcx := two_cells hF.out.cx
  have hcz := two_cells hF.out.cz
  have hz0 := two_frozen (i := 0) hF.out.cz
  have hz1 := two_frozen (i := 1) hF.out.cz
  have Hg := Lib.hid hg
  have HN := Lib.hid hN
  clear h h1 h2 hg hN
  obtain ⟨T, hT⟩ : ∃ T, Hid (stay s.ops.length z = T) := ⟨_, rfl⟩
  have hTle : Hid (T ≤ s.ops.length) := by rw [← hT.out]; exact stay_le _ _
  have hst : max 0 (min z (q2 : Int)) = (T : Int) := by rw [← hT.out, ← hq2.out]; unfold stay; omega
  have hq2I : (q2 : Int) ≤ 1000 := by rw [← hq2.out]; have := Hg.out.n; have := HN.out; omega
  go_enter Tryz.func30, Tryz.ntmps30
  go_upto_region 1 with fail
  rw [hW.out, hbz.out, hbx.out]
  go_wp2_with (go_at_call 66; refine (after_any hF.out.ref Hg.out HN.out T hTle.out).mono ?_; rintro e w1 ⟨B, n1, d, rfl, hn1, hE, hb1⟩; have HE := Lib.hid hE; have Hn1 := Lib.hid hn1; have hF1 := Lib.hid (hF.out.keep hb1); have hcz := two_cells hF1.out.cz; have hz0 := two_frozen (i := 0) hF1.out.cz; have hz1 := two_frozen (i := 1) hF1.out.cz; clear hb1 hE hn1)
  have hR : RefV w1 (fun b => b < W.heap.size ∧ (b = bz ∨ X b)) (.agg #[.slice B n1 d, .slice none 0 0]) (s.fail z) := by
    have e1 : s.fail z = ⟨runs s.dur (s.ops.take T), []⟩ := by unfold St.fail; rw [hT.out]
    rw [e1]
    exact ⟨B, d, none, 0, by rw [Hn1.out]; rfl, HE.out, RdX.none_⟩
  obtain ⟨g1, g2, g3⟩ := hF1.out.fin hR fun b e => e.elim (fun e => ⟨by rw [e]; exact (Array.getElem?_eq_some_iff.1 hF.out.cz).1, .inl e⟩) fun e => ⟨Nat.lt_of_lt_of_le e.1 hF.out.bel.size, .inr e.2⟩
  exact ret_two1 rfl twoDir bz _ _ _ (0, 0) rfl g1 rfl ⟨_, rfl, g2, g3⟩
end
end Go.Proofs.YtbhmnmmockmibaaGreat

namespace Go.Proofs.YtbhmnmmockmibaaGreat
open Go.RowKit Go.Maps
def doApp (q : Int) (fs : List Fi) (z : Int) (l : List UInt8) : List Fi × Int := match findF fs z with
  | none => (fs, 80)
  | some f => if q < (l.length : Int) + usedF fs then (fs, 90) else (updF fs z f.n (appM f.m l), 0)
def doSync (fs : List Fi) (z : Int) : List Fi × Int := match findF fs z with
  | none => (fs, 80)
  | some f => (updF fs z f.n (syncM f.m), 0)
def doLink (fs : List Fi) (z : Int) : List Fi × Int := match findF fs z with
  | none => (fs, 80)
  | some f => (updF fs z (wrap64 (f.n + 1)) f.m, 0)
def doDrop (fs : List Fi) (z : Int) : List Fi × Int := match findF fs z with
  | none => (fs, 80)
  | some f => (leaveF (updF fs z (wrap64 (f.n - 1)) f.m) z (wrap64 (f.n - 1)), 0)
end Go.Proofs.YtbhmnmmockmibaaGreat

namespace Go.Proofs.YtbhmnmmockmibaaGreat
open Go.RowKit
structure Rv where
  i : Int
  n : Int
  A : Option Addr
  c : Nat
  ps : List Pa
def Rv.cs (e : Rv) : List Value := [.int .i64 e.i, .int .i64 e.n, .slice e.A e.ps.length e.c]
def Rv.v (e : Rv) : Value := .agg #[.int .i64 e.i, .int .i64 e.n, .slice e.A e.ps.length e.c]
def rvcells (l : List Rv) : List Value := l.flatMap Rv.cs
theorem rvcells_len (l : List Rv) : (rvcells l).length = l.length * 3 := by
  induction l with
  | nil => rfl
  | cons f l ih =>
    unfold rvcells at ih ⊢
    rw [List.flatMap_cons, List.length_append, ih, List.length_cons]
    simp [Rv.cs]
    omega
theorem rvcells_append (a b : List Rv) : rvcells (a ++ b) = rvcells a ++ rvcells b := by simp [rvcells]
theorem rvcells_split {l : List Rv} {k : Nat} {e : Rv} (h : l[k]? = some e) : rvcells l = rvcells (l.take k) ++ (Rv.cs e ++ rvcells (l.drop (k + 1))) ∧ (rvcells (l.take k)).length = k * 3 := by
  obtain ⟨hk, e'⟩ := List.getElem?_eq_some_iff.1 h
  constructor
  · conv => lhs; rw [← List.take_append_drop k l, List.drop_eq_getElem_cons hk, e']
    rw [rvcells_append]
    rfl
  · rw [rvcells_len, List.length_take]
    congr 1
    omega
theorem rvcells_get {l : List Rv} {k j : Nat} {e : Rv} (h : l[k]? = some e) (hj : j < 3) : (rvcells l)[k * 3 + j]? = (Rv.cs e)[j]? := by
  obtain ⟨hs, hl⟩ := rvcells_split h
  rw [hs, List.getElem?_append_right (by omega), hl, List.getElem?_append_left (by show _ < 3; omega)]
  congr 1
  omega
theorem rvcells_one (l : List Rv) : ∀ u ∈ rvcells l, u.oneCell' = true := by
  intro u hu
  unfold rvcells at hu
  rw [List.mem_flatMap] at hu
  obtain ⟨p, _, hu⟩ := hu
  simp only [Rv.cs, List.mem_cons, List.not_mem_nil, or_false] at hu
  rcases hu with rfl | rfl | rfl <;> rfl
theorem rvcells_set {l : List Rv} {k : Nat} {e : Rv} (x : Rv) (h : l[k]? = some e) : (((rvcells l).set (k * 3) (.int .i64 x.i)).set (k * 3 + 1) (.int .i64 x.n)).set (k * 3 + 2) (.slice x.A x.ps.length x.c) = rvcells (l.set k x) := by
  obtain ⟨hs, hl⟩ := rvcells_split h
  have hk := (List.getElem?_eq_some_iff.1 h).1
  have h2 : (l.set k x)[k]? = some x := by rw [List.getElem?_set_self hk]
  obtain ⟨hs2, hl2⟩ := rvcells_split h2
  rw [hs, hs2, List.take_set_of_le (Nat.le_refl _), List.drop_set_of_lt (by omega)]
  rw [List.set_append_right _ _ (by omega), hl, Nat.sub_self]
  rw [List.set_append_right _ _ (by omega), hl, show k * 3 + 1 - k * 3 = 1 by omega]
  rw [List.set_append_right _ _ (by omega), hl, show k * 3 + 2 - k * 3 = 2 by omega]
  rfl
structure Rm where
  i : Int
  n : Int
  m : List Pt
def Rv.m (e : Rv) : Rm := ⟨e.i, e.n, says e.ps⟩
structure RtX (w : World) (X : Nat → Prop) (A : Option Addr) (es : List Rv) : Prop where
  top : RdX w X 3 A es.length (rvcells es)
  file : ∀ e ∈ es, PsX w X e.A e.ps
section
variable {w w' : World} {X Y : Nat → Prop} {A : Option Addr} {es : List Rv}
theorem RtX.nil : RtX w X A [] := ⟨RdX.none_, by simp⟩
theorem RtX.keep (h : RtX w X A es) (ht : Touch X w w') : RtX w' X A es := ⟨h.top.keep ht, fun p hp => (h.file p hp).keep ht⟩
theorem RtX.below (h : RtX w X A es) (ht : Below w.heap.size w w') : RtX w' X A es := h.keep (.of ht)
theorem RtX.mono (h : RtX w X A es) (hx : ∀ b, b < w.heap.size → Y b → X b) : RtX w Y A es := ⟨h.top.mono hx, fun p hp => (h.file p hp).mono hx⟩
theorem RtX.at_ {k : Nat} (h : RtX w X A es) (hk : k < es.length) :
    ∃ (ad : Addr) (e : Rv), A = some ad ∧ ad.block < w.heap.size ∧ ¬ X ad.block ∧ w.cell? (ad.add (k * 3)) = some (.int .i64 e.i) ∧ w.cell? ⟨(ad.add (k * 3)).block, (ad.add (k * 3)).off + 1, none⟩ = some (.int .i64 e.n) ∧
      w.cell? ⟨(ad.add (k * 3)).block, (ad.add (k * 3)).off + 2, none⟩ = some (.slice e.A e.ps.length e.c) ∧ Hid (es[k]? = some e) ∧ PsX w X e.A e.ps := by
  obtain ⟨ad, e, hb, hx, hc⟩ := h.top.2 (by omega)
  have hr : es[k]? = some es[k] := List.getElem?_eq_getElem hk
  have h0 := rvcells_get hr (j := 0) (by omega)
  have h1 := rvcells_get hr (j := 1) (by omega)
  have h2 := rvcells_get hr (j := 2) (by omega)
  refine ⟨ad, _, e, hb, hx, hc _ _ h0, ?_, ?_, hr, h.file _ (List.getElem_mem hk)⟩
  · rw [← padd_next]; exact hc _ _ h1
  · have e2 : (⟨(ad.add (k * 3)).block, (ad.add (k * 3)).off + 2, none⟩ : Addr) = ad.add (k * 3 + 2) := by
      rw [padd_next ad (k * 3 + 1), padd_next ad (k * 3)]
    rw [e2]
    exact hc _ _ h2
end
def RefT (w : World) (X : Nat → Prop) (v : Value) (M : List Rm) (q l : Int) : Prop :=
  ∃ A c es, v = .agg #[.slice A (List.length es) c, .int .i64 q, .int .i64 l] ∧ RtX w X A es ∧ es.map Rv.m = M
section
variable {w w' : World} {X Y : Nat → Prop} {v : Value} {M : List Rm} {q l : Int}
theorem RefT.keep (h : RefT w X v M q l) (ht : Touch X w w') : RefT w' X v M q l := by
  obtain ⟨A, c, es, e, h1, h2⟩ := h
  exact ⟨A, c, es, e, h1.keep ht, h2⟩
theorem RefT.below (h : RefT w X v M q l) (ht : Below w.heap.size w w') : RefT w' X v M q l := h.keep (.of ht)
theorem RefT.mono (h : RefT w X v M q l) (hx : ∀ b, b < w.heap.size → Y b → X b) : RefT w Y v M q l := by
  obtain ⟨A, c, es, e, h1, h2⟩ := h
  exact ⟨A, c, es, e, h1.mono hx, h2⟩
end
abbrev AX (w : World) (X : Nat → Prop) : Nat → Prop := fun b => b < w.heap.size ∧ X b
theorem info_entry : (Tryz.prog.info? 139).map (fun i => (i.zero, i.size, i.bytes)) = some (some (.agg #[.int .i64 0, .int .i64 0, .slice none 0 0]), 3, 40) := by kernel_rfl
theorem size_table : (Tryz.prog.info? 33).map (·.size) = some 3 := by kernel_rfl
theorem three_cell {w : World} {g : Nat} {x y z : Value} {T : TypeId} (h : w.heap[g]? = some (.cells #[x, y, z] T (0, 0))) : w.cell? ⟨g, 0, none⟩ = some x ∧ w.cell? ⟨g, 1, none⟩ = some y ∧ w.cell? ⟨g, 2, none⟩ = some z :=
  ⟨by rw [cell_of_row w g 0 _ _ _ h]; rfl, by rw [cell_of_row w g 1 _ _ _ h]; rfl, by rw [cell_of_row w g 2 _ _ _ h]; rfl⟩
theorem three_frozen {w : World} {g i : Nat} {x y z : Value} {t : TypeId} (hg : w.heap[g]? = some (.cells #[x, y, z] t (0, 0))) : w.frozen? ⟨g, i, none⟩ = false := by simp [World.frozen?, hg]
theorem ret_tab1 {fn : Func} {R : Ending → World → Prop} {p : Tmp} (h : fn.results = #[.cell p 33]) {a : Act} {w : World} (g : Nat) (x y z : Value) (t : TypeId) (fr : Nat × Nat)
    (hp : a.tmps.getD p undef = .pointer (some ⟨g, 0, none⟩)) (hg : w.heap[g]? = some (.cells #[x, y, z] t fr)) (hd : a.defers = []) (hR : R (.returned (.agg #[x, y, z])) w) : bodyPost Tryz.prog fn R .ret a w := by
  refine bodyPost_ret (v := .agg #[x, y, z]) ?_ hd hR
  have hp' : a.tmps[p]?.getD undef = .pointer (some ⟨g, 0, none⟩) := by simpa using hp
  have hty := run_loadVar_row (P := Tryz.prog) w g t 33 #[x, y, z] fr _ hg Tryz.underlying33 rfl size_table
  simp [results, h, hp', asAddr, hty]
theorem ret_tab2 {fn : Func} {R : Ending → World → Prop} {p u : Tmp} (h : fn.results = #[.cell p 33, .tmp u]) {a : Act} {w : World} (g : Nat) (x y z : Value) (t : TypeId) (fr : Nat × Nat)
    (hp : a.tmps.getD p undef = .pointer (some ⟨g, 0, none⟩)) (hg : w.heap[g]? = some (.cells #[x, y, z] t fr)) (hd : a.defers = []) (hR : R (.returned (.tuple #[.agg #[x, y, z], a.tmps.getD u undef])) w) : bodyPost Tryz.prog fn R .ret a w := by
  refine bodyPost_ret (v := .tuple #[.agg #[x, y, z], a.tmps.getD u undef]) ?_ hd hR
  have hp' : a.tmps[p]?.getD undef = .pointer (some ⟨g, 0, none⟩) := by simpa using hp
  have hty := run_loadVar_row (P := Tryz.prog) w g t 33 #[x, y, z] fr _ hg Tryz.underlying33 rfl size_table
  simp [results, h, hp', asAddr, hty]
set_option maxHeartbeats 1000000 in
set_option maxRecDepth 100000 in
theorem rfind_any {X : Nat → Prop} {A : Option Addr} {c : Nat} {es : List Rv} {q l z : Int} {w : World} (hl : es.length ≤ 1000) (hr : RtX w X A es) :
    Calls Tryz.prog 82 #[.agg #[.slice A es.length c, .int .i64 q, .int .i64 l], .int .i64 z] w fun e w' => ∃ r : Int, e = .returned (.int .i64 r) ∧ Below w.heap.size w w' ∧ ((r = -1 ∧ ∀ x ∈ es, x.i ≠ z) ∨ ∃ (k : Nat) (x : Rv), r = (k : Int) ∧ es[k]? = some x ∧ x.i = z) := by
  have hlen : (es.length : Int) ≤ 1000 := by omega
  obtain ⟨W, hW⟩ : ∃ W, Hid (w.alloc (.cells #[.slice A es.length c, .int .i64 q, .int .i64 l] 33) = W) := ⟨_, rfl⟩
  have hb0 : Hid (Below w.heap.size w W) := by rw [← hW.out]; exact below_new _ _
  have Hr := Lib.hid (hr.below hb0.out)
  obtain ⟨g, hg⟩ : ∃ g, Hid (w.heap.size = g) := ⟨_, rfl⟩
  have hcell : W.cell? ⟨g, 0, none⟩ = some (.slice A es.length c) := by
    rw [← hW.out, ← hg.out, cell_of_row _ _ 0 _ _ _ (heap_alloc_new w _)]; rfl
  clear hr
  go_enter Tryz.func82, Tryz.ntmps82
  go_wp2
  rw [hW.out, hg.out]
  go_loopw [5] (fun s wr => ∃ (k : Nat), k ≤ es.length ∧ s = .int .i64 (k : Int) ∧ wr = W ∧ Hid (∀ x ∈ es.take k, x.i ≠ z)) (fun s _ => es.length - (intOf s).toNat)
  case atStart => exact ⟨0, by omega, rfl, rfl, by intro x hx; simp at hx⟩
  case round =>
    obtain ⟨k, hk, rfl, rfl, hn⟩ := hrel
    by_cases hlt : k < es.length
    · obtain ⟨ad, e, rfl, _, _, hc1, hc2, hc3, hx, _⟩ := Hr.out.at_ hlt
      by_cases he : e.i = z
      · have hd : decide (e.i = z) = true := decide_eq_true he
        go_wp2
        go_ret
        exact ⟨_, rfl, hb0.out, Or.inr ⟨k, e, rfl, hx.out, he⟩⟩
      · have hd : decide (e.i = z) = false := decide_eq_false he
        go_wp2
        go_roundw
        case rel =>
          refine ⟨k + 1, by omega, by go_num, by first | trivial | rfl, ?_⟩
          intro x hxx
          rw [take_snoc hx] at hxx
          rcases List.mem_append.1 hxx with h | h
          · exact hn.out x h
          · rw [List.mem_singleton.1 h]; exact he
        case measure => simp [intOf]; omega
    · have hkk : k = es.length := by omega
      go_wp2
      go_ret
      exact ⟨_, rfl, hb0.out, Or.inl ⟨by first | trivial | rfl, by have := hn.out; rw [hkk, List.take_length] at this; exact this⟩⟩
end Go.Proofs.YtbhmnmmockmibaaGreat
