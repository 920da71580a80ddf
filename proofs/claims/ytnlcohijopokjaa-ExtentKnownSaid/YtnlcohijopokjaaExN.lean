/- The walk of Of. Conditions: at most 1000 rows of 100000 bytes. -/
import Derived.Test.YtnlcohijopokjaaExM
namespace Go.Proofs.Ytnlcohijopokjaa
open Go.RowKit

def zPa : Pa := ⟨⟨none, 0, []⟩, false⟩
theorem made_parts (n : Nat) : (madeCells (Value.agg #[.slice none 0 0, .bool false]).cells (n * 2)).toList = pcells (List.replicate n zPa) := by
  unfold madeCells
  rw [Array.toList_map, Array.toList_range]
  induction n with
  | zero => rfl
  | succ n ih =>
    rw [show (n + 1) * 2 = n * 2 + 1 + 1 by omega, List.range_succ, List.range_succ, List.map_append, List.map_append, ih, List.replicate_succ', pcells_append]
    simp [Value.cells, pcells, Pa.cs, zPa]
theorem run_makeP (w : World) (n : Nat) (z : Int) (hz : z = (n : Int)) (hn : n ≤ 1000000) :
    (Instr.makeSlice 28 (.int .i64 z) (.int .i64 z)).run Try.prog w = .ok (.slice (some ⟨w.heap.size, 0, none⟩) n n) (w.alloc (.cells (pcells (List.replicate n zPa)).toArray 52)) := by
  subst hz
  obtain ⟨i0, hi0, hz0, hz1, hz2⟩ := info_parts ptSl1.2
  have h := run_make w 28 52 i0 _ Try.underlying28 hi0 hz0 .i64 .i64 (n : Int) (n : Int) (by omega) (by omega) (by rw [hz2]; omega) (by omega)
  have e : madeCells (Value.agg #[.slice none 0 0, .bool false]).cells (n * 2) = (pcells (List.replicate n zPa)).toArray := by rw [← made_parts]
  rw [hz1, Int.toNat_natCast, e] at h
  exact h
theorem own_newP (w : World) (base : Nat) (ps : List Pa) (n : Nat) (hn : ps.length = n) (hl : n ≤ 1000000) (hbase : base ≤ w.heap.size) :
    (w.alloc (.cells (pcells ps).toArray 52)).ownsRow base 52 2 (.slice (some ⟨w.heap.size, 0, none⟩) n n) n (pcells ps) := by
  subst hn
  refine ⟨pcells_len _, .inr ⟨w.heap.size, ps.length, (pcells ps).toArray, rfl, hbase, heap_alloc_new w _, Nat.le_refl _, by simp only [maxLen]; omega, by simp [pcells_len], ?_⟩⟩
  rw [List.take_of_length_le (by simp [pcells_len])]
theorem pcells_put {ps : List Pa} {k : Nat} (p : Pa) (h : k < ps.length) : ((pcells ps).set (k * 2) (.slice p.r.A p.r.l.length p.r.c)).set (k * 2 + 1) (.bool p.d) = pcells (ps.set k p) := by
  obtain ⟨hs, hl⟩ := pcells_split (List.getElem?_eq_getElem h)
  have hs' : ps.set k p = ps.take k ++ ([p] ++ ps.drop (k + 1)) := by
    rw [List.set_eq_take_append_cons_drop, if_pos h]
    rfl
  rw [hs, hs', pcells_append, pcells_append, List.set_append_right _ _ (by omega), hl, Nat.sub_self, List.set_append_right _ _ (by omega), hl, show k * 2 + 1 - k * 2 = 1 by omega]
  rfl
def mkR (rows : List Row) (k : Nat) : List Pa := (rows.take k).map (fun r => Pa.mk r true) ++ List.replicate (rows.length - k) zPa
theorem mkR_len (rows : List Row) {k : Nat} (h : k ≤ rows.length) : (mkR rows k).length = rows.length := by
  unfold mkR
  rw [List.length_append, List.length_map, List.length_take, List.length_replicate]
  omega
theorem mkR_set {rows : List Row} {k : Nat} {r : Row} (h : Hid (rows[k]? = some r)) : (mkR rows k).set k ⟨r, true⟩ = mkR rows (k + 1) := by
  have hk := (List.getElem?_eq_some_iff.1 h.out).1
  unfold mkR
  rw [map_snoc_take _ h, show rows.length - k = (rows.length - (k + 1)) + 1 by omega, List.replicate_succ, List.set_append_right _ _ (by simp; omega)]
  rw [show k - ((rows.take k).map fun r => Pa.mk r true).length = 0 by simp; omega, List.set_cons_zero, List.append_assoc]
  rfl
theorem mkR_all (rows : List Row) : mkR rows rows.length = rows.map fun r => Pa.mk r true := by
  unfold mkR
  rw [List.take_length, Nat.sub_self]
  simp

set_option maxHeartbeats 2000000 in
set_option maxRecDepth 100000 in
theorem of_any {A : Option Addr} {c B : Nat} {rows : List Row} {w : World} (hn : rows.length ≤ 1000) (hls : ∀ r ∈ rows, r.l.length ≤ 100000) (hB : B ≤ w.heap.size) (hr : RdR w B A rows) :
    Calls Try.prog 9 #[.slice A rows.length c] w fun e w' => ∃ v, e = .returned (.agg #[v]) ∧ Below w.heap.size w w' ∧ FileV w' (XW w) v (ofM (lines rows)) := by
  obtain ⟨n, hn'⟩ : ∃ n, Hid (rows.length = n) := ⟨_, rfl⟩
  have hnI : (n : Int) ≤ 1000 := by rw [← hn'.out]; omega
  obtain ⟨g0, h0⟩ : ∃ g, Hid (w.heap.size = g) := ⟨_, rfl⟩
  obtain ⟨g1, h1⟩ : ∃ g, Hid (w.heap.size + 1 = g) := ⟨_, rfl⟩
  obtain ⟨W, hW⟩ : ∃ W, Hid ((w.alloc (.cells #[.slice none 0 0] 30)).alloc (.cells (pcells (List.replicate n zPa)).toArray 52) = W) := ⟨_, rfl⟩
  have hbW : Hid (Below w.heap.size w W) := by rw [← hW.out]; exact (below_new _ _).alloc (by simp) _
  have hsW : Hid (W.heap.size = w.heap.size + 2) := by rw [← hW.out]; show _ = _; simp
  have f0 : Hid (W.heap[g0]? = some (.cells #[.slice none 0 0] 30 (0, 0))) := by
    rw [← hW.out, ← h0.out]; show _ = _
    rw [heap_alloc_old _ _ (by simp)]
    exact heap_alloc_new _ _
  have g0l : Hid (g0 < W.heap.size) := by rw [hsW.out, ← h0.out]; show _ < _; omega
  have g01 : Hid (g0 < g1) := by rw [← h0.out, ← h1.out]; show _ < _; omega
  have hown0 : Hid (W.ownsRow g1 52 2 (.slice (some ⟨g1, 0, none⟩) n n) n (pcells (mkR rows 0))) := by
    have := own_newP (w.alloc (.cells #[.slice none 0 0] 30)) (w.heap.size + 1) (List.replicate n zPa) n (by simp) (by omega) (by simp)
    rw [hW.out] at this
    simp only [World.size_alloc] at this
    rw [h1.out] at this
    show World.ownsRow _ _ _ _ _ _ _
    unfold mkR
    rw [hn'.out]
    exact this
  have hmk := fun w => run_makeP w n (n : Int) rfl (by omega)
  have Hn := Lib.hid hn
  have Hls := Lib.hid hls
  have HB := Lib.hid hB
  have hrW : Hid (RdR W w.heap.size A rows) := (hr.below (hbW.out.mono hB)).more hB
  rw [hn'.out]
  clear hn hls hB hr
  go_enter Try.func9, Try.ntmps9
  go_upto_region 2 with fail
  rw [hW.out, h1.out, h0.out]
  clear hmk
  go_wp2
  go_loopw [11] (fun i wr => ∃ k : Nat, k ≤ n ∧ i = .int .i64 (k : Int) ∧ wr.ownsRow g1 52 2 (.slice (some ⟨g1, 0, none⟩) n n) n (pcells (mkR rows k)) ∧ Touch (fun b => b = g1) W wr) (fun i _ => n - (intOf i).toNat)
  case atStart => exact ⟨0, by omega, rfl, hown0.out, .refl _ _⟩
  case round =>
    clear hown0
    obtain ⟨k, hk, rfl, hown, ht⟩ := hrel
    have hbr : Below w.heap.size W wr := ht.below hbW.out.size (fun b hb => by rw [hb, ← h1.out]; omega)
    by_cases hlt : k < n
    · obtain ⟨ad, r, rfl, hab, hca, hx, hrow⟩ := (hrW.out.below hbr).at_ (k := k) (by rw [hn'.out]; exact hlt)
      have hkl : k < (mkR rows k).length := by rw [mkR_len rows (by rw [hn'.out]; exact hk), hn'.out]; exact hlt
      obtain ⟨u0, hc0⟩ : ∃ u, wr.cell? ⟨g1, k * 2, none⟩ = some u := by
        have := hown.cells (g := g1) rfl _ _ (pcells_get (List.getElem?_eq_getElem hkl)).1
        rw [lit_add, Nat.zero_add] at this
        exact ⟨_, this⟩
      obtain ⟨u1, hc1⟩ : ∃ u, wr.cell? ⟨g1, k * 2 + 1, none⟩ = some u := by
        have := hown.cells (g := g1) rfl _ _ (pcells_get (List.getElem?_eq_getElem hkl)).2
        rw [lit_add, Nat.zero_add] at this
        exact ⟨_, this⟩
      have hz0 := hown.frozenAt (k * 2)
      have hz1 := hown.frozenAt (k * 2 + 1)
      obtain ⟨h2, h3⟩ := hown.stored (k * 2) (.slice r.A r.l.length r.c)
      obtain ⟨h4, h5⟩ := h2.stored (k * 2 + 1) (.bool true)
      rw [show ((pcells (mkR rows k)).set (k * 2) (.slice r.A r.l.length r.c)).set (k * 2 + 1) (.bool true) = pcells (mkR rows (k + 1)) by rw [← mkR_set hx, ← pcells_put ⟨r, true⟩ hkl]] at h4
      have H4 := Lib.hid h4
      have Ht := Lib.hid ht
      clear h2 h3 h4 h5 hown hkl hrow hbr ht
      go_wp2
      go_roundw
      case rel => exact ⟨k + 1, by omega, by go_num, H4.out, (Ht.out.trans (Touch.cell1 _ _ _ _)).trans (Touch.cell1 _ _ _ _)⟩
      case measure => simp [intOf]; omega
    · obtain rfl : k = n := by omega
      have hall : mkR rows k = rows.map fun r => Pa.mk r true := by rw [← hn'.out]; exact mkR_all rows
      rw [hall] at hown
      have hlen' : (rows.map fun r => Pa.mk r true).length = k := by rw [List.length_map]; exact hn'.out
      have hsay : Hid (says (rows.map fun r => Pa.mk r true) = (lines rows).map fun b => (b, true)) := by
        show _ = _
        unfold says lines
        rw [List.map_map, List.map_map]
        rfl
      have hP : PsX wr (fun _ => False) (some ⟨g1, 0, none⟩) (rows.map fun r => Pa.mk r true) := by
        refine ⟨by rw [hlen']; exact own_avoid hown (fun _ h => h.elim), fun p hp => ?_⟩
        rw [List.mem_map] at hp
        obtain ⟨r, hr, rfl⟩ := hp
        exact RdX.of ((hrW.out.below hbr).row r hr) (Nat.le_trans hbW.out.size ht.size) (fun _ _ h => h)
      have hsm : SmM (says (rows.map fun r => Pa.mk r true)) := by
        rw [hsay.out]
        refine ⟨by rw [List.length_map]; unfold lines; rw [List.length_map]; exact Hn.out, fun p hp => ?_⟩
        rw [List.mem_map] at hp
        obtain ⟨b, hb, rfl⟩ := hp
        unfold lines at hb
        rw [List.mem_map] at hb
        obtain ⟨r, hr, rfl⟩ := hb
        exact Hls.out r hr
      have hcall := anew_any (some ⟨g1, 0, none⟩) k _ wr hsm hP
      rw [hlen'] at hcall
      have Hcall := Lib.hid hcall
      have hf0 := Lib.hid ((ht.block g0 g0l.out (Nat.ne_of_lt g01.out)).trans f0.out)
      have Hbr := Lib.hid hbr
      have Ht := Lib.hid ht
      clear hcall hP hsm hown hall hlen' hbr ht
      go_wp2_with
        (go_at_call 25
         refine Hcall.out.mono ?_
         rintro e w2 ⟨v2, g2, qs, rfl, hO, hsay2, hb2⟩
         have hF2 := Lib.hid ((hb2.block g0 (Nat.lt_of_lt_of_le g0l.out Ht.out.size)).trans hf0.out)
         have cF2 := box_cell hF2.out
         have zF2 := box_frozen hF2.out
         obtain ⟨A2, c2, rfl, hc2, _, _⟩ := own_form hO.head
         have HO := Lib.hid hO
         have Hsay := Lib.hid hsay2
         have Hb2 := Lib.hid hb2
         clear hO hsay2 hb2 hc2)
      refine ret_file1 rfl rfl (box_set _ hF2.out) rfl ?_
      have ht3 : Touch (fun b => b = g0) w2 (w2.setCell ⟨g0, 0, none⟩ (.slice A2 qs.length c2)) := Touch.cell1 _ _ _ _
      have hww : Below w.heap.size w w2 := hbW.out.trans (Hbr.out.trans (Hb2.out.mono (Nat.le_trans hbW.out.size Ht.out.size)))
      refine ⟨_, rfl, hww.trans (ht3.below hww.size fun b hb => by rw [hb, ← h0.out]; exact Nat.le_refl _), ?_⟩
      have hx : ∀ b, XW W b → b < wr.heap.size := fun b hb => Nat.lt_of_lt_of_le hb Ht.out.size
      refine ((HO.out.file hx (m := ofM (lines rows)) ?_).keep (ht3.mono fun b _ e => ?_)).mono fun b _ hb => Nat.lt_of_lt_of_le hb hbW.out.size
      · rw [Hsay.out, hsay.out]; rfl
      · rw [e]; exact g0l.out
end Go.Proofs.Ytnlcohijopokjaa
