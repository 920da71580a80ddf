/- The walk of CrcKnown: it returns true. Conditions: none. -/
import Derived.Test.YthplioblpopfnaaRow
import Derived.Test.YthplioblpopfnaaLawSums
import Derived.Test.YthplioblpopfnaaLawParts
import Derived.Test.YthplioblpopfnaaLawXors
import Derived.Test.YthplioblpopfnaaLawFlips
namespace Go.Proofs.Ythplioblpopfnaa
open Go.RowKit

/-- Two new tables: what may be read there. -/
theorem store_tabs {ops : Array Oper} {rest : List Oper} {o p : Oper} {a : Act} {w : World} {Q : Exit → Act → World → Prop} (x y z u : Operand) (hgd : o.guard = none) (ho : o.op = .store 35 x y) (hgd' : p.guard = none) (ho' : p.op = .store 35 z u)
    (hx : a.eval x = .pointer (some ⟨w.heap.size, 0, none⟩)) (hy : a.eval y = .agg tabV) (hd : o.dst = none) (hx' : a.eval z = .pointer (some ⟨(w.alloc (.cells (tabTo 0) 35)).heap.size, 0, none⟩)) (hy' : a.eval u = .agg tabV) (hd' : p.dst = none)
    (h : ∀ W, Below w.heap.size w W → Hid (∀ i, i < 256 → W.cell? ⟨w.heap.size, i, none⟩ = some (rv (tab i)) ∧ W.cell? ⟨w.heap.size + 1, i, none⟩ = some (rv (tab i))) → w.heap.size + 2 ≤ W.heap.size → wpList Try.prog ops Q rest a W) :
    wpList Try.prog ops Q (o :: p :: rest) a ((w.alloc (.cells (tabTo 0) 35)).alloc (.cells (tabTo 0) 35)) := by
  have g1 := heap_alloc2_old w (.cells (tabTo 0) 35) (.cells (tabTo 0) 35)
  have g2 := heap_alloc2_new w (.cells (tabTo 0) 35) (.cells (tabTo 0) 35)
  refine wpList_store_tab hgd _ x y ho w.heap.size tabV hx hy _ _ g1 (by rw [size_row, tabV_size]) (by rw [tabTo_size, tabV_size]) tabV_one hd ?_
  have k1 := setRow_heap _ _ _ tabV _ _ g1
  have k2 : (((w.alloc (.cells (tabTo 0) 35)).alloc (.cells (tabTo 0) 35)).setRow w.heap.size tabV).heap[w.heap.size + 1]? = some (.cells (tabTo 0) 35 (0, 0)) := by
    rw [setRow_other _ _ _ _ (by omega)]
    exact g2
  have hx2 : a.eval z = .pointer (some ⟨w.heap.size + 1, 0, none⟩) := by rw [hx']; simp
  refine wpList_store_tab hgd' _ z u ho' (w.heap.size + 1) tabV hx2 hy' _ _ k2 (by rw [size_row, tabV_size]) (by rw [tabTo_size, tabV_size]) tabV_one hd' ?_
  refine h _ (below_setRow (below_setRow (((Below.refl _ _).alloc (Nat.le_refl _) _).alloc (by simp) _) (Nat.le_refl _) _) (by omega) _) ?_ (by simp)
  have hget : ∀ i, i < 256 → tabV[i]? = some (rv (tab i)) := by
    intro i hi
    unfold tabV
    rw [List.getElem?_toArray, List.getElem?_map, List.getElem?_range hi, Option.map_some]
  intro i hi
  constructor
  · rw [cell_of_row _ _ i tabV 35 (0, 0) (by rw [setRow_other _ _ _ _ (by omega)]; exact k1)]
    exact hget i hi
  · rw [cell_of_row _ _ i _ _ _ (setRow_heap _ _ _ _ _ _ k2)]
    exact hget i hi

theorem two_cells {wa wc : World} {g i : Nat} {u v : Value} (hb : Below wa.heap.size wa wc) (h1 : wa.cell? ⟨g, i, none⟩ = some u) (h2 : wa.cell? ⟨g + 1, i, none⟩ = some v) (hg : g + 1 < wa.heap.size) :
    wc.cell? ⟨g, i, none⟩ = some u ∧ wc.cell? ⟨g + 1, i, none⟩ = some v := by
  rw [hb.cell (by simp only; omega), hb.cell (by simp only; omega)]
  exact ⟨h1, h2⟩
theorem two_alloc {wa : World} {p q : Addr} {u v : Value} (h : wa.cell? p = some u ∧ wa.cell? q = some v) (o : Obj) : (wa.alloc o).drew.cell? p = some u ∧ (wa.alloc o).drew.cell? q = some v := by
  have h1 := World.block_lt_of_cell? wa _ h.1
  have h2 := World.block_lt_of_cell? wa _ h.2
  exact ⟨(World.cell?_alloc_lt wa o p h1).trans h.1, (World.cell?_alloc_lt wa o q h2).trans h.2⟩
theorem sums3 (wb : World) (B : Nat) (A : Option Addr) (c : Nat) (x0 x1 x2 : UInt8) (hr : RdB wb B A [x0, x1, x2]) (hB : B ≤ wb.heap.size) (z : Int) (hz : 0 ≤ z ∧ z ≤ 4294967295) :
    Calls Try.prog 3 #[.slice (some ⟨wb.heap.size, 0, none⟩) 3 3, .int .u32 z] (wb.alloc (.cells #[.slice A 3 c, .slice A 1 c, .slice none 0 0] 25)).drew fun e w' => e = .returned (.bool true) ∧ Below wb.heap.size wb w' := by
  obtain ⟨n, rfl⟩ := Int.eq_ofNat_of_zero_le hz.1
  have h1 : RdB wb B A [x0] := RdB.first hr (n := 1) (by simp)
  have hR := (RdR.new wb B [⟨A, c, [x0, x1, x2]⟩, ⟨A, c, [x0]⟩, ⟨none, 0, []⟩] 25 hB (by
    intro r hr'
    simp only [List.mem_cons, List.not_mem_nil, or_false] at hr'
    rcases hr' with rfl | rfl | rfl
    · exact hr
    · exact h1
    · exact Reads.none_)).drew
  refine (sumsNum (some ⟨wb.heap.size, 0, none⟩) 3 (wb.heap.size + 1) [⟨A, c, [x0, x1, x2]⟩, ⟨A, c, [x0]⟩, ⟨none, 0, []⟩] n (by omega) (wb.alloc (.cells #[.slice A 3 c, .slice A 1 c, .slice none 0 0] 25)).drew ?_ (by simp) hR).mono ?_
  · intro r hr'
    simp only [List.mem_cons, List.not_mem_nil, or_false] at hr'
    rcases hr' with rfl | rfl | rfl <;> simp
  · rintro e w' ⟨rfl, hb⟩
    exact ⟨rfl, (((Below.refl _ _).alloc (Nat.le_refl _) _).drew).trans (hb.mono (by simp))⟩
theorem parts3 (wb : World) (B : Nat) (A : Option Addr) (c : Nat) (x0 x1 x2 : UInt8) (hr : RdB wb B A [x0, x1, x2]) (hB : B ≤ wb.heap.size) (i k : Nat) (hi : i ≤ 65535) (hk : k ≤ 65535) (hc : 3 ≤ c) :
    Calls Try.prog 4 #[.slice A 3 c, .int .u16 (i : Int), .int .u16 (k : Int)] wb fun e w' => e = .returned (.bool true) ∧ Below wb.heap.size wb w' :=
  partsLaw_any A c B [x0, x1, x2] i k wb (by simp) hi hk hc hB hr
theorem flips3 (wb : World) (B : Nat) (A : Option Addr) (c : Nat) (x0 x1 x2 : UInt8) (hr : RdB wb B A [x0, x1, x2]) (hB : B ≤ wb.heap.size) (i : Nat) (hi : i ≤ 65535) (two : Bool) :
    Calls Try.prog 5 #[.slice A 3 c, .int .u16 (i : Int), .bool two] wb fun e w' => e = .returned (.bool true) ∧ Below wb.heap.size wb w' :=
  flipsLaw_any A c B [x0, x1, x2] i two wb (by simp) hi hB hr
theorem xors34 (wb : World) (B : Nat) (A : Option Addr) (c : Nat) (x0 x1 x2 : UInt8) (hr : RdB wb B A [x0, x1, x2]) (hB : B ≤ wb.heap.size) (hc : 3 ≤ c) (z : Int) (y : UInt8) (hz : z = (y.toNat : Int)) :
    Calls Try.prog 6 #[.slice A 3 c, .slice (some ⟨wb.heap.size, 0, none⟩) 4 4] (wb.alloc (.cells #[.int .u8 1, .int .u8 2, .int .u8 3, .int .u8 z] 5)) fun e w' => e = .returned (.bool true) ∧ Below wb.heap.size wb w' := by
  subst hz
  have hr2 := reads_lit wb (xs := [.int .u8 1, .int .u8 2, .int .u8 3, .int .u8 (y.toNat : Int)]) (l := [1, 2, 3, y]) rfl
  have hr1 : RdB (wb.alloc (.cells #[.int .u8 1, .int .u8 2, .int .u8 3, .int .u8 (y.toNat : Int)] 5)) (wb.heap.size + 1) A [x0, x1, x2] := (Reads.alloc hr hB _).more (by omega)
  refine (xorsLaw_any A (some ⟨wb.heap.size, 0, none⟩) c 4 (wb.heap.size + 1) [x0, x1, x2] [1, 2, 3, y] _ (by simp) (by simp) hc (by simp) (by simp) hr1 hr2).mono ?_
  rintro e w' ⟨rfl, hb⟩
  exact ⟨rfl, ((Below.refl _ _).alloc (Nat.le_refl _) _).trans (hb.mono (by simp))⟩

set_option maxHeartbeats 4000000 in
set_option maxRecDepth 100000 in
theorem crcKnown_any (w : World) : Calls Try.prog 7 #[] w fun e w' => e = .returned (.bool true) ∧ Below w.heap.size w w' := by
  go_enter Try.func7, Try.ntmps7
  go_wp2_with fail
  refine (refTable_any _).mono ?_
  rintro e w1 ⟨rfl, hb1⟩
  go_wp2_with fail
  refine (crcTable_any _).mono ?_
  rintro e w2 ⟨rfl, hb2⟩
  have hbb2 := hb1.trans (hb2.mono hb1.size)
  clear hb1 hb2
  go_wp2_with (first | refine wpList_alloc_zero rfl 35 rfl _ zero_row _ rfl ?_ | (refine store_tabs (w := w2) (.tmp 1) (.tmp 5) (.tmp 2) (.tmp 6) rfl rfl rfl rfl rfl rfl rfl rfl rfl rfl ?_; intro W hbW htab hzW))
  have hbbW := hbb2.trans (hbW.mono hbb2.size)
  have hz2 := hbb2.size
  clear hbW hbb2
  go_loopw [3] (fun i wr => ∃ k : Nat, k ≤ 256 ∧ i = .int .i64 (k : Int) ∧ Below W.heap.size W wr) (fun i _ => 256 - (intOf i).toNat)
  case atStart => exact ⟨0, by omega, rfl, .refl _ _⟩
  case round =>
    obtain ⟨k, hk, rfl, hb⟩ := hrel
    obtain ⟨wo, rfl⟩ : ∃ wo : World, wo = wr := ⟨_, rfl⟩
    by_cases hlt : k < 256
    · have hd : decide ((k : Int) < 256) = true := by rw [decide_eq_true_iff]; omega
      have hki : (k : Int) < 256 := by omega
      have hk0 : (0 : Int) ≤ (k : Int) := by omega
      go_wp2_with fail
      obtain ⟨x0, hx0⟩ : ∃ x0 : UInt8, (k : Int) = (x0.toNat : Int) := ⟨UInt8.ofNat k, by simp [UInt8.toNat_ofNat']; omega⟩
      obtain ⟨x2, hx2⟩ : ∃ x2 : UInt8, (255 : Int) - (k : Int) = (x2.toNat : Int) := ⟨UInt8.ofNat (255 - k), by simp [UInt8.toNat_ofNat']; omega⟩
      have Hx0 := Lib.hid hx0
      have hrb0 := reads_lit wo (xs := [.int .u8 (k : Int), .int .u8 0, .int .u8 (255 - (k : Int))]) (l := [x0, 0, x2]) (by rw [hx2, hx0]; rfl)
      have hbb0 := hb.alloc hb.size (.cells #[.int .u8 (k : Int), .int .u8 0, .int .u8 (255 - (k : Int))] 5)
      have hsz0 : wo.heap.size + 1 ≤ (wo.alloc (.cells #[.int .u8 (k : Int), .int .u8 0, .int .u8 (255 - (k : Int))] 5)).heap.size := by simp
      obtain ⟨wb, hwb⟩ : ∃ wb, wb = wo.alloc (.cells #[.int .u8 (k : Int), .int .u8 0, .int .u8 (255 - (k : Int))] 5) := ⟨_, rfl⟩
      have hrb : RdB wb (wo.heap.size + 1) (some ⟨wo.heap.size, 0, none⟩) [x0, 0, x2] := by rw [hwb]; exact hrb0
      have hbb : Below W.heap.size W wb := by rw [hwb]; exact hbb0
      have hsz : wo.heap.size + 1 ≤ wb.heap.size := by rw [hwb]; exact hsz0
      rw [← hwb]
      have hk1 : (tab k).toNat = (tab k).toNat := rfl
      have hc1 : wb.cell? ⟨w2.heap.size, k, none⟩ = some (rv (tab k)) := by rw [hbb.cell (by simp only; omega)]; exact (htab.out k hlt).1
      have hc2 : wb.cell? ⟨w2.heap.size + 1, k, none⟩ = some (rv (tab k)) := by rw [hbb.cell (by simp only; omega)]; exact (htab.out k hlt).2
      have m1 : IntKind.u32.wrap (k : Int) = (k : Int) := IntWalk.u32_in _ (by omega)
      have m2 : IntKind.u16.wrap (k : Int) = (k : Int) := IntWalk.u16_in _ (by omega)
      have m3 : IntKind.u8.wrap (k : Int) = (k : Int) := IntWalk.u8_in _ (by omega)
      have Htk := Lib.hid hc1
      clear hk1 hwb hrb0 hbb0 hsz0 hx0 hx2
      go_region_held3 (fun wx => wx.cell? ⟨w2.heap.size, k, none⟩ = some (rv (tab k)) ∧ wx.cell? ⟨w2.heap.size + 1, k, none⟩ = some (rv (tab k))) (first | exact hc6 | exact hc5 | exact two_alloc hc5 _ | exact hc4 | exact hc3 | exact ⟨hc1, hc2⟩ | exact two_alloc ⟨hc1, hc2⟩ _) (first
        | (go_at_call 3; refine (sums3 wb (wo.heap.size + 1) _ 3 x0 0 x2 hrb hsz _ (lit_u32 (wf_wrap .u32 _))).mono ?_; rintro e w3 ⟨rfl, hb3⟩; have hbb3 := hbb.trans (hb3.mono hbb.size); have hrb3 := Reads.below hrb (hb3.mono hsz); have hsz3 := Nat.le_trans hsz hb3.size; have hc3 := two_cells hb3 hc1 hc2 (by have := hbb.size; omega); clear hb3)
        | (go_at_call 4; refine (parts3 w3 (wo.heap.size + 1) _ 3 x0 0 x2 hrb3 hsz3 k 1 (by omega) (by omega) (Nat.le_refl _)).mono ?_; rintro e w4 ⟨rfl, hb4⟩; have hbb4 := hbb3.trans (hb4.mono hbb3.size); have hrb4 := Reads.below hrb3 (hb4.mono hsz3); have hsz4 := Nat.le_trans hsz3 hb4.size; have hc4 := two_cells hb4 hc3.1 hc3.2 (by have := hbb3.size; omega); clear hb4)
        | (go_at_call 5; refine (flips3 w4 (wo.heap.size + 1) _ 3 x0 0 x2 hrb4 hsz4 k (by omega) _).mono ?_; rintro e w5 ⟨rfl, hb5⟩; have hbb5 := hbb4.trans (hb5.mono hbb4.size); have hrb5 := Reads.below hrb4 (hb5.mono hsz4); have hsz5 := Nat.le_trans hsz4 hb5.size; have hc5 := two_cells hb5 hc4.1 hc4.2 (by have := hbb4.size; omega); clear hb5)
        | (go_at_call 6; refine (xors34 w5 (wo.heap.size + 1) _ 3 x0 0 x2 hrb5 hsz5 (Nat.le_refl _) _ _ Hx0.out).mono ?_; rintro e w6 ⟨rfl, hb6⟩; have hbb6 := hbb5.trans (hb6.mono hbb5.size); have hc6 := two_cells hb6 hc5.1 hc5.2 (by have := hbb5.size; omega); clear hb6))
      go_wp2
      go_roundw
      case rel => exact ⟨k + 1, by omega, by go_num, hbb6⟩
      case measure => simp [intOf]; omega
    · obtain rfl : k = 256 := by omega
      go_wp2_with fail
      refine (sumsNum none 0 0 [] 0 (by omega) _ (by simp) (Nat.zero_le _) (RdR.nil _ 0)).mono ?_
      rintro e w3 ⟨rfl, hb3⟩
      have hb3' := hb.trans (hb3.mono hb.size)
      go_wp2_with fail
      refine (partsLaw_any none 0 0 [] 0 0 _ (by simp) (by omega) (by omega) (by simp) (Nat.zero_le _) Reads.none_).mono ?_
      rintro e w4 ⟨rfl, hb4⟩
      have hb4' := hb3'.trans (hb4.mono hb3'.size)
      go_wp2_with fail
      refine (works_any _).mono ?_
      rintro e w5 ⟨rfl, hb5⟩
      go_wp2
      go_ret
      exact ⟨rfl, hbbW.trans ((hb4'.trans (hb5.mono hb4'.size)).mono hbbW.size)⟩
end Go.Proofs.Ythplioblpopfnaa
