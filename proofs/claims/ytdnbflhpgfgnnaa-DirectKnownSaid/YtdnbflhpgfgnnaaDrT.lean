/- The reference's with. Conditions: at most 1000 operations. -/
import Derived.Test.YtdnbflhpgfgnnaaDrS
import Derived.Deep.RegionWith
namespace Go.Proofs.Ytdnbflhpgfgnnaa
open Go.RowKit

attribute [-go_sem] Builtin.append_
theorem info_act : (Try.prog.info? 82).map (fun i => (i.zero, i.size, i.bytes)) = some (some (.agg #[.bool false, .string ByteArray.empty, .int .i64 0]), 3, 32) := by kernel_rfl
set_option maxHeartbeats 4000000 in
set_option maxRecDepth 100000 in
theorem with_any {X : Nat → Prop} {v : Value} {s : St} {w : World} (h : RefV w X v s) (hs2 : s.ops.length ≤ 1000) (o : Pr) :
    Calls Try.prog 38 #[v, prV o] w fun e w' => ∃ u, e = .returned u ∧ RefV w' (fun b => b < w.heap.size ∧ X b) u ⟨s.dur, s.ops ++ [o]⟩ ∧ Below w.heap.size w w' := by
  obtain ⟨A, c, A', c', rfl, h1, h2⟩ := id h.v
  have eo : prV o = .agg #[.bool o.add, .string (txt o.k), .int .i64 o.v] := rfl
  rw [eo]
  obtain ⟨nd, hnd⟩ : ∃ n, Hid (s.dur.length = n) := ⟨_, rfl⟩
  obtain ⟨no, hno⟩ : ∃ n, Hid (s.ops.length = n) := ⟨_, rfl⟩
  rw [hnd.out, hno.out]
  have hno1 : no ≤ 1000 := by rw [← hno.out]; exact hs2
  obtain ⟨i0, hi0, hz0, hz1, hz2⟩ := info_parts info_act
  obtain ⟨W1, hW1⟩ : ∃ W, Hid (w.alloc (.cells #[.slice A nd c, .slice A' no c'] 30) = W) := ⟨_, rfl⟩
  obtain ⟨W2, hW2⟩ : ∃ W, Hid (W1.alloc (.cells #[.bool o.add, .string (txt o.k), .int .i64 o.v] 82) = W) := ⟨_, rfl⟩
  obtain ⟨W, hW⟩ : ∃ W, Hid (W2.alloc (.cells #[.slice none 0 0, .slice none 0 0] 30) = W) := ⟨_, rfl⟩
  obtain ⟨bx, hbx⟩ : ∃ bx, Hid (w.heap.size = bx) := ⟨_, rfl⟩
  obtain ⟨by_, hby⟩ : ∃ b, Hid (w.heap.size + 1 = b) := ⟨_, rfl⟩
  obtain ⟨bz, hbz⟩ : ∃ b, Hid (w.heap.size + 1 + 1 = b) := ⟨_, rfl⟩
  have hs1 : W1.heap.size = w.heap.size + 1 := by rw [← hW1.out]; simp
  have hs2 : W2.heap.size = w.heap.size + 1 + 1 := by rw [← hW2.out, World.size_alloc, hs1]
  have hs3 : Hid (W.heap.size = w.heap.size + 3) := by rw [← hW.out]; show _ = _; rw [World.size_alloc, hs2]
  have hb1 : Below w.heap.size w W1 := by rw [← hW1.out]; exact below_new _ _
  have hb2 : Below w.heap.size W1 W2 := by rw [← hW2.out]; exact (below_new _ _).mono (by omega)
  have hb3 : Below w.heap.size W2 W := by rw [← hW.out]; exact (below_new _ _).mono (by omega)
  have hbW : Hid (Below w.heap.size w W) := hb1.trans (hb2.trans hb3)
  have hcx : Hid (W.heap[bx]? = some (.cells #[.slice A nd c, .slice A' no c'] 30 (0, 0))) := by
    rw [← hW.out, ← hbx.out]
    refine heap_alloc_old _ _ (by omega) |>.trans ?_
    rw [← hW2.out]
    refine heap_alloc_old _ _ (by omega) |>.trans ?_
    rw [← hW1.out]
    exact heap_alloc_new _ _
  have hcy : Hid (W.heap[by_]? = some (.cells #[.bool o.add, .string (txt o.k), .int .i64 o.v] 82 (0, 0))) := by
    rw [← hW.out, ← hby.out]
    refine heap_alloc_old _ _ (by omega) |>.trans ?_
    rw [← hW2.out, ← hs1]
    exact heap_alloc_new _ _
  have hcz : Hid (W.heap[bz]? = some (.cells #[.slice none 0 0, .slice none 0 0] 30 (0, 0))) := by
    rw [← hW.out, ← hbz.out, ← hs2]
    exact heap_alloc_new _ _
  have H1 := Lib.hid h1
  have Hnd := Lib.hid hnd
  have H2 := Lib.hid (RdX.below h2 hbW.out)
  have hcbx := two_cells hcx.out
  clear hb1 hb2 hb3 hs1 hs2 h1 h2 eo h
  go_enter Try.func38, Try.ntmps38
  go_upto_region 1 with fail
  rw [hW1.out, hW2.out, hW.out, hbz.out, hby.out, hbx.out]
  go_upto_region 3 with (at_builtin; refine wpList_append_any _ rfl (.tmp 6) (.tmp 8) 28 rfl W.heap.size 82 i0 _ 3 32 Try.underlying28 hi0 hz0 hz1 hz2 rfl (by omega) (.slice none 0 0) 0 [] rfl (World.ownsRow_nil _ _ _ _) W.heap.size A' no c' (prcells s.ops) rfl (by rw [← hno.out]; exact RdX.reads H2.out) (prcells_one _) (by simp only [maxLen]; omega) (by omega) (Nat.le_refl _) ?_; intro v1 w3 hown1 hg3 hblk3)
  have hb3 : Below W.heap.size W w3 := Below.grown (.refl _ _) hg3 (Nat.le_refl _) fun k e => by cases e
  rw [List.nil_append, Nat.zero_add] at hown1
  have hlt : ∀ g o, W.heap[g]? = some o → w3.heap[g]? = some o := fun g o hh => (hb3.block g (Array.getElem?_eq_some_iff.1 hh).1).trans hh
  have dx := two_cells (hlt _ _ hcx.out)
  have dy := hlt _ _ hcy.out
  have dz := hlt _ _ hcz.out
  have dy0 : w3.cell? ⟨by_, 0, none⟩ = some (.bool o.add) := by rw [cell_of_row w3 by_ 0 _ _ _ dy]; rfl
  have dy1 : w3.cell? ⟨by_, 1, none⟩ = some (.string (txt o.k)) := by rw [cell_of_row w3 by_ 1 _ _ _ dy]; rfl
  have dy2 : w3.cell? ⟨by_, 2, none⟩ = some (.int .i64 o.v) := by rw [cell_of_row w3 by_ 2 _ _ _ dy]; rfl
  obtain ⟨w5, hw5⟩ : ∃ w, Hid ((w3.alloc (.cells #[.bool o.add, .string (txt o.k), .int .i64 o.v] 82)).drew = w) := ⟨_, rfl⟩
  have hsz5 : w5.heap.size = w3.heap.size + 1 := by rw [← hw5.out]; exact World.size_alloc _ _
  have hnew : Reads w5 w5.heap.size 3 (some ⟨w3.heap.size, 0, none⟩) 1 (prcells [o]) := by
    refine ⟨rfl, fun _ => ⟨_, rfl, by rw [hsz5]; exact Nat.lt_succ_self _, fun j u hu => ?_⟩⟩
    rw [← hw5.out]
    rw [lit_add, Nat.zero_add]
    show (w3.alloc (.cells #[.bool o.add, .string (txt o.k), .int .i64 o.v] 82)).cell? ⟨w3.heap.size, j, none⟩ = _
    rw [cell_of_row _ w3.heap.size j _ _ _ (heap_alloc_new w3 (.cells #[.bool o.add, .string (txt o.k), .int .i64 o.v] 82))]
    rw [List.getElem?_toArray]
    exact hu
  have hown5 : w5.ownsRow W.heap.size 82 3 v1 no (prcells s.ops) := by
    rw [← hw5.out]
    exact World.ownsRow.alloc (w := w3) hown1 _
  have hb5 : Below W.heap.size W w5 := by
    rw [← hw5.out]
    exact (hb3.trans ((below_new _ _).mono hb3.size)).drew
  obtain ⟨u, w6, hrun, hown6, hg6, hblk6⟩ := run_append_any (w := w5) (P := Try.prog) W.heap.size 28 28 82 i0 _ 3 32 Try.underlying28 hi0 hz0 hz1 hz2 rfl (by omega) v1 no (prcells s.ops) hown5 w5.heap.size (some ⟨w3.heap.size, 0, none⟩) 1 1 (prcells [o]) hnew (prcells_one _) (by simp only [maxLen]; omega) (by omega) hb5.size
  have hb6 : Below W.heap.size W w6 := hb5.trans (grown_below hown5 hg6 hb5.size)
  have hlt6 : ∀ g o, W.heap[g]? = some o → w6.heap[g]? = some o := fun g o hh => (hb6.block g (Array.getElem?_eq_some_iff.1 hh).1).trans hh
  have ex := two_cells (hlt6 _ _ hcx.out)
  have ez := two_cells (hlt6 _ _ hcz.out)
  have fz0 := two_frozen (i := 0) (hlt6 _ _ hcz.out)
  have fz1 := two_frozen (i := 1) (hlt6 _ _ hcz.out)
  obtain ⟨B, d, rfl, _⟩ := own_form hown6
  rw [← hw5.out] at hrun
  have Hb6 := Lib.hid hb6
  have Hown6 := Lib.hid hown6
  have Hz6 := Lib.hid (hlt6 _ _ hcz.out)
  clear hb6 hown6 hlt6 hg6 hblk6 hb5 hown5 hnew hsz5 hb3 hown1 hg3 hblk3 dz dy
  have bxl : bx < w3.heap.size := (Array.getElem?_eq_some_iff.1 (hlt _ _ hcx.out)).1
  have dx5 : (w3.alloc (.cells #[.bool o.add, .string (txt o.k), .int .i64 o.v] 82)).cell? ⟨bx, 0, none⟩ = some (.slice A nd c) := (World.cell?_alloc_lt _ _ _ bxl).trans dx.1
  clear hlt bxl
  go_region_with (fail)
  all_goals
    (go_wp2
     have hzf := two_set1 (.slice B (no + 1) d) (two_set0 (.slice A nd c) Hz6.out)
     refine ret_two1 rfl twoDir bz _ _ _ (0, 0) rfl hzf rfl ?_
     have hT := (Touch.cell1 w6 bz 0 (.slice A nd c)).trans (Touch.cell1 _ bz 1 (.slice B (no + 1) d))
     have hbzl : bz < W.heap.size := (Array.getElem?_eq_some_iff.1 hcz.out).1
     have hbzw : w.heap.size ≤ bz := by rw [← hbz.out]; omega
     have h6w : Below w.heap.size w w6 := hbW.out.trans (Hb6.out.mono hbW.out.size)
     have hfw : Below w.heap.size w _ := h6w.trans (hT.below h6w.size fun b e => by rw [e]; exact hbzw)
     refine ⟨_, rfl, ⟨A, c, B, d, ?_, ?_, ?_⟩, hfw⟩
     · rw [← hnd.out, ← hno.out, List.length_append]; rfl
     · exact (RdX.below H1.out hfw).mono fun b _ (e : b < w.heap.size ∧ X b) => e.2
     · have ho := own_touch Hown6.out hT fun b hb e => by have := (Hown6.out.lt b hb).1; omega
       have hR := own_avoid ho fun b (e : b < w.heap.size ∧ X b) => Nat.lt_of_lt_of_le e.1 hbW.out.size
       rw [← prcells_append] at hR
       have hl : no + 1 = (s.ops ++ [o]).length := by rw [List.length_append, hno.out]; rfl
       show RdX _ _ 3 B (s.ops ++ [o]).length (prcells (s.ops ++ [o]))
       rw [← hl]
       exact hR)
end Go.Proofs.Ytdnbflhpgfgnnaa
