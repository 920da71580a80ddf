/- The walk of the chapter's examples (works): they hold. Conditions: none. -/
import Derived.Test.YtfjgmbnnmobkbaaFrF
namespace Go.Proofs.Ytfjgmbnnmobkbaa
open Go.RowKit

/-- The chapter's frame. -/
def ab8 : List UInt8 := encFr 7 [97, 98]
theorem ab8_len : ab8.length = 8 := by decide +kernel
theorem ab8_take : takeF ab8 0 = ((7, [97, 98]), 8, 0) := by decide +kernel
theorem ab8_short : takeF (ab8.take 7) 0 = ((0, []), 0, 10) := by decide +kernel
theorem ab8_odd : takeF (ab8.set 0 6) 0 = ((0, []), 0, 30) := by decide +kernel
theorem ab8_all : AllF (ab8 ++ ab8 ++ [7]) [(7, [97, 98]), (7, [97, 98])] 16 := by unfold AllF; decide +kernel
theorem ab8_put : joinF [(7, [97, 98])] = (ab8, 0) := joinF_one_ok (by simp)

theorem two_cells {w : World} {g : Nat} {x y : Value} {t : TypeId} {fr : Nat × Nat} (hg : w.heap[g]? = some (.cells #[x, y] t fr)) : w.cell? ⟨g, 0, none⟩ = some x ∧ w.cell? ⟨g, 1, none⟩ = some y :=
  ⟨by rw [cell_of_row w g 0 _ t fr hg]; rfl, by rw [cell_of_row w g 1 _ t fr hg]; rfl⟩
theorem frTake_n (A : Option Addr) (n c B : Nat) (l : List UInt8) (hn : l.length = n) (p : Int) (w : World) (hl : n ≤ 1099511627776) (hcap : n ≤ c) (hB : B ≤ w.heap.size) (hr : RdB w B A l) :
    Calls Try.prog 21 #[.slice A n c, .int .i64 p] w fun e w' => FrVal w.heap.size (takeF l p) e w' ∧ Below w.heap.size w w' := by
  subst hn
  exact frTake_any A c B l p w hl hcap hB hr
theorem frAll_n (A : Option Addr) (n c B : Nat) (l : List UInt8) (hn : l.length = n) (w : World) (hl : n ≤ 1099511627776) (hcap : n ≤ c) (hB : B ≤ w.heap.size) (hr : RdB w B A l) :
    Calls Try.prog 23 #[.slice A n c] w fun e w' => AllVal 26 w.heap.size l e w' ∧ Below w.heap.size w w' := by
  subst hn
  exact frAll_any A c B l w hl hcap hB hr
theorem own_n (A : Option Addr) (n c B : Nat) (l : List UInt8) (hn : l.length = n) (w : World) (hl : n ≤ 140737488351232) (hr : RdB w B A l) :
    Calls Try.prog 20 #[.slice A n c] w fun e w' => ∃ v, e = .returned v ∧ w'.ownsRow w.heap.size 5 1 v n (bs l) ∧ Below w.heap.size w w' := by
  subst hn
  exact own_any A c B l w hl hr

set_option maxHeartbeats 2000000 in
set_option maxRecDepth 100000 in
theorem worksF_any (w : World) : Calls Try.prog 9 #[] w fun e w' => e = .returned (.bool true) ∧ Below w.heap.size w w' := by
  have kc := fun (C : Array Value) (n c : Nat) => Lib.run_convert_bytes_const (P := Try.prog) w 24 5 C n c Try.underlying24 Try.underlying5
  go_enter Try.func9, Try.ntmps9
  go_wp2_with fail
  clear kc
  obtain ⟨W0, hW0⟩ : ∃ W0 : World, W0 = w.alloc (.cells #[.int .u8 97, .int .u8 98] 5 (2, 3)) := ⟨_, rfl⟩
  have hr0 : RdB W0 (w.heap.size + 1) (some ⟨w.heap.size, 0, none⟩) [97, 98] := by rw [hW0]; exact reads_marked w (xs := bs [97, 98]) rfl (2, 3)
  have hb0 : Below w.heap.size w W0 := by rw [hW0]; exact (Below.refl _ _).alloc (Nat.le_refl _) _
  have hz0 : W0.heap.size = w.heap.size + 1 := by rw [hW0]; simp
  rw [← hW0]
  clear hW0
  obtain ⟨W1, hW1⟩ : ∃ W1 : World, W1 = W0.alloc (.cells #[.int .u8 7, .slice (some ⟨w.heap.size, 0, none⟩) 2 2] 26) := ⟨_, rfl⟩
  have hr1 : RdB W1 (w.heap.size + 1) (some ⟨w.heap.size, 0, none⟩) [97, 98] := by rw [hW1]; exact Reads.alloc hr0 (by omega) _
  have hb1 : Below w.heap.size w W1 := by rw [hW1]; exact hb0.alloc hb0.size _
  have hg1 : W1.heap[w.heap.size + 1]? = some (.cells #[.int .u8 7, .slice (some ⟨w.heap.size, 0, none⟩) 2 2] 26 (0, 0)) := by rw [hW1, ← hz0]; exact heap_alloc_new _ _
  have hz1 : W1.heap.size = w.heap.size + 2 := by rw [hW1]; simp; omega
  rw [← hW1]
  have Hr1 : Hid (RdB W1 (w.heap.size + 1) (some ⟨w.heap.size, 0, none⟩) [97, 98]) := hr1
  have Hg1 := Lib.hid hg1
  have Hz1 := Lib.hid hz1
  clear hW1 hr0 hb0 hz0 hr1 hg1 hz1
  refine (frPut_any ⟨7, ⟨some ⟨w.heap.size, 0, none⟩, 2, [97, 98]⟩⟩ (w.heap.size + 1) W1 (by simp) (by have := Hz1.out; omega) Hr1.out).mono ?_
  rintro e w2 ⟨⟨v2, rfl, hown2⟩, hb2⟩
  simp only at hown2 ⊢
  rw [ab8_put] at hown2 ⊢
  simp only at hown2 ⊢
  rw [ab8_len] at hown2
  obtain ⟨A2, c2, rfl, hc2, _, hr2⟩ := own_form hown2
  have hbb2 := hb1.trans (hb2.mono hb1.size)
  have hr2' : RdB w2 w2.heap.size A2 ab8 := by have h := ab8_len; rw [← h] at hr2; exact hr2
  have hg2 := (hb2.block (w.heap.size + 1) (by have := Hz1.out; omega)).trans Hg1.out
  have hx2 := Reads.below Hr1.out (hb2.mono (by have := Hz1.out; omega))
  have hz2 : w.heap.size + 2 ≤ w2.heap.size := by have := hb2.size; have := Hz1.out; omega
  have Hr2 : Hid (RdB w2 w2.heap.size A2 ab8) := hr2'
  have Hx2 : Hid (RdB w2 (w.heap.size + 1) (some ⟨w.heap.size, 0, none⟩) [97, 98]) := hx2
  have Hz2 := Lib.hid hz2
  have Hown2 := Lib.hid hown2
  clear hb1 hb2 hr2 hr2' hx2 hz2 hown2 Hr1 Hg1 Hz1
  obtain ⟨hx20, hx21⟩ := two_cells hg2
  clear hg2
  go_wp2_with fail
  clear hx20 hx21
  refine (frSize_any ⟨7, ⟨some ⟨w.heap.size, 0, none⟩, 2, [97, 98]⟩⟩ w2 (by simp)).mono ?_
  rintro e w3 ⟨rfl, hb3⟩
  have hfz : ((fsz ([97, 98] : List UInt8).length : Nat) : Int) = 8 := by decide +kernel
  simp only
  rw [hfz]
  clear hfz
  have hbb3 := hbb2.trans (hb3.mono hbb2.size)
  have hr3 := Reads.below Hr2.out hb3
  have hown3 := own_below Hown2.out hb3 (Nat.le_refl _)
  have hz3 := hb3.size
  have Hr3 : Hid (RdB w3 w2.heap.size A2 ab8) := hr3
  have Hz3 := Lib.hid (Nat.le_trans Hz2.out hz3)
  have Hz23 := Lib.hid hz3
  clear hb3 hr3 hown3 hz3 hbb2 Hr2 Hown2 Hz2 Hx2
  go_wp2_with fail
  refine (frTake_n A2 8 c2 w2.heap.size ab8 ab8_len 0 w3 (by omega) hc2 Hz23.out Hr3.out).mono ?_
  rintro e w4 ⟨⟨v4, rfl, hown4⟩, hb4⟩
  rw [ab8_take] at hown4 ⊢
  simp only at hown4 ⊢
  obtain ⟨A4, c4, rfl, _, _, hr4⟩ := own_form hown4
  have hbb4 := hbb3.trans (hb4.mono hbb3.size)
  have hr34 := Reads.below Hr3.out (hb4.mono Hz23.out)
  have hz34 := hb4.size
  obtain ⟨W4, hW4⟩ : ∃ W4 : World, W4 = w4.alloc (.cells #[.int .u8 7, .slice A4 2 c4] 26) := ⟨_, rfl⟩
  have hg4 : W4.heap[w4.heap.size]? = some (.cells #[.int .u8 7, .slice A4 2 c4] 26 (0, 0)) := by rw [hW4]; exact heap_alloc_new _ _
  have hz4 : W4.heap.size = w4.heap.size + 1 := by rw [hW4]; simp
  have hbb4' : Below w.heap.size w W4 := by rw [hW4]; exact hbb4.alloc hbb4.size _
  have hT4 : RdB W4 w2.heap.size A2 ab8 := by rw [hW4]; exact Reads.alloc hr34 (by have := Hz23.out; omega) _
  have hf4 : RdB W4 w4.heap.size A4 [97, 98] := by rw [hW4]; exact Reads.alloc hr4 (Nat.le_refl _) _
  have HW4 := Lib.hid hW4
  have Hg4 := Lib.hid hg4
  have Hz4 := Lib.hid hz4
  have HT4 : Hid (RdB W4 w2.heap.size A2 ab8) := hT4
  have Hf4 : Hid (RdB W4 w4.heap.size A4 [97, 98]) := hf4
  have Hz24 := Lib.hid (Nat.le_trans Hz23.out hz34)
  clear hW4 hg4 hz4 hT4 hf4 hr34 hr4 hown4 hb4 hz34 hbb3 hbb4 Hr3
  have hsl := fun wx : World => run_front wx A2 (n := 8) (m := 7) (c := c2) (by omega)
  go_wp2_with fail
  clear hsl
  rw [← HW4.out]
  have h7 : (ab8.take 7).length = 7 := by rw [List.length_take, ab8_len]; rfl
  refine (frTake_n A2 7 c2 w2.heap.size (ab8.take 7) h7 0 W4 (by omega) (by omega) (by have := Hz24.out; have := Hz4.out; omega) (RdB.first HT4.out (by rw [ab8_len]; omega))).mono ?_
  rintro e w5 ⟨⟨v5, rfl, hown5⟩, hb5⟩
  rw [ab8_short] at hown5 ⊢
  simp only at hown5 ⊢
  obtain ⟨A5, c5, rfl, _, _, _⟩ := own_form hown5
  have hB5 := hb5.alloc hb5.size (.cells #[.int .u8 0, .slice A5 0 c5] 26)
  obtain ⟨W5, hW5⟩ : ∃ W5 : World, W5 = w5.alloc (.cells #[.int .u8 0, .slice A5 0 c5] 26) := ⟨_, rfl⟩
  rw [← hW5] at hB5
  have HW5 := Lib.hid hW5
  clear hW5 hown5 hb5 h7
  go_wp2_with fail
  rw [← HW5.out]
  refine (own_n A2 8 c2 w2.heap.size ab8 ab8_len W5 (by omega) (Reads.below HT4.out (hB5.mono (by have := Hz24.out; have := Hz4.out; omega)))).mono ?_
  rintro e w7 ⟨v7, rfl, hown7, hb7⟩
  obtain ⟨g7, cap7, rfl, hg7, _⟩ := hown7.form (by omega)
  have hB7 := hB5.trans (hb7.mono hB5.size)
  obtain ⟨x7, hc7, _⟩ := own_cell hown7 (k := 0) (by omega)
  have hf7 := hown7.frozenAt 0
  obtain ⟨hs7, _⟩ := own_set (k := 0) (x := 6) 6 hown7 rfl
  have hB8 := hB7.setCell (p := ⟨g7, 0, none⟩) (by have := hB5.size; simp only; omega) (.int .u8 6)
  have Hs7 := Lib.hid hs7
  have HB8 := Lib.hid hB8
  have Hcap7 : Hid (8 ≤ cap7) := by
    obtain ⟨_, _, e7, hcc, _, _⟩ := own_form hown7
    simp only [Value.slice.injEq] at e7
    obtain ⟨_, _, rfl⟩ := e7
    exact hcc
  clear hs7 hB8 hb7 hB7 hown7
  go_wp2_with fail
  obtain ⟨W8, hW8⟩ : ∃ W8 : World, W8 = w7.setCell ⟨g7, 0, none⟩ (.int .u8 6) := ⟨_, rfl⟩
  rw [← hW8] at Hs7 HB8 ⊢
  clear hW8 hc7 hf7
  have h8 : (ab8.set 0 6).length = 8 := by rw [List.length_set, ab8_len]
  obtain ⟨A8, c8, e8, _, _, hr8⟩ := own_form Hs7.out
  injection e8 with e8 _ e8'
  subst e8 e8'
  have hr8' : RdB W8 W8.heap.size (some ⟨g7, 0, none⟩) (ab8.set 0 6) := by rw [← h8] at hr8; exact hr8
  refine (frTake_n _ 8 cap7 W8.heap.size (ab8.set 0 6) h8 0 W8 (by omega) Hcap7.out (Nat.le_refl _) hr8').mono ?_
  rintro e w9 ⟨⟨v9, rfl, hown9⟩, hb9⟩
  rw [ab8_odd] at hown9 ⊢
  simp only at hown9 ⊢
  obtain ⟨A9, c9, rfl, _, _, _⟩ := own_form hown9
  have hB9 := (HB8.out.trans (hb9.mono HB8.out.size)).alloc (HB8.out.trans (hb9.mono HB8.out.size)).size (.cells #[.int .u8 0, .slice A9 0 c9] 26)
  obtain ⟨W9, hW9⟩ : ∃ W9 : World, W9 = w9.alloc (.cells #[.int .u8 0, .slice A9 0 c9] 26) := ⟨_, rfl⟩
  rw [← hW9] at hB9
  have HW9 := Lib.hid hW9
  clear hW9 hown9 hb9 h8 hr8 hr8' Hs7 HB8
  go_wp2_with fail
  rw [← HW9.out]
  refine (own_n A2 8 c2 w2.heap.size ab8 ab8_len W9 (by omega) (Reads.below HT4.out (hB9.mono (by have := Hz24.out; have := Hz4.out; omega)))).mono ?_
  rintro e w10 ⟨v10, rfl, hown10, hb10⟩
  have hB10 := hB9.trans (hb10.mono hB9.size)
  rw [← ab8_len] at hown10
  have hr10 := Reads.below HT4.out (hB10.mono (by have := Hz24.out; have := Hz4.out; omega))
  have Hr10 : Hid (RdB w10 w2.heap.size A2 ab8) := hr10
  have hzz := hb10.size
  clear hr10
  go_wp2_with (first
    | (at_builtin
       refine push_rowN (.tmp 62) (.tmp 63) ab8_len hown10 hzz Hr10.out (by rw [ab8_len]; omega) rfl rfl rfl rfl ?_
       intro v11 w11 hown11 hb11 hbs11 hz11 hk11
       have hB11 := hB10.trans (hb11.mono hB9.size)
       clear hown10)
    | (at_builtin
       refine push_byte (.tmp 65) (.tmp 66) _ 7 hown11 hbs11 (by rw [List.length_append, ab8_len]; omega) rfl rfl rfl rfl rfl ?_
       intro v12 w12 hown12 hb12 hbs12
       have hB12 := hB11.trans (hb12.mono hB9.size)
       clear hown11))
  have h17 : (ab8 ++ ab8 ++ [7]).length = 17 := by rw [List.length_append, List.length_append, ab8_len]; rfl
  obtain ⟨A12, c12, rfl, hc12, _, hr12⟩ := own_form hown12
  refine (frAll_n A12 _ c12 w12.heap.size (ab8 ++ ab8 ++ [7]) rfl w12 (by rw [h17]; omega) hc12 (Nat.le_refl _) hr12).mono ?_
  rintro e w13 ⟨⟨v13, own13, g13, rfl, hO13, hA13, _, _, _⟩, hb13⟩
  obtain ⟨hfk, rfl⟩ := allF_one hA13 ab8_all
  have hl13 : own13.length = 2 := by rw [← fks_len, hfk]; rfl
  obtain ⟨A13, c13, rfl, _, _⟩ := hO13.reads
  rw [hl13]
  have hB13 := hB12.trans (hb13.mono hB12.size)
  have hg13 := (hB13.block w4.heap.size (by have := Hz4.out; omega)).trans Hg4.out
  obtain ⟨hx0, hx1⟩ := two_cells hg13
  have hf13 := Reads.below Hf4.out (hB13.mono (by have := Hz4.out; omega))
  have Hf13 : Hid (RdB w13 w4.heap.size A4 [97, 98]) := hf13
  have hsz13 : w4.heap.size < w13.heap.size := by have := hB13.size; have := Hz4.out; omega
  have Hsz13 := Lib.hid hsz13
  have HB13 := Lib.hid (hbb4'.trans (hB13.mono hbb4'.size))
  have kc := fun (C : Array Value) (n c : Nat) => Lib.run_convert_bytes_const (P := Try.prog) w13 24 5 C n c Try.underlying24 Try.underlying5
  clear hown12 hr12 hc12 hO13 hA13 hfk hl13 hb13 hg13 hf13 hsz13 hB13 hB12 hb12 hB11 hb11 hB10 hb10 hB9 hB5 h17 hbb4' hk11
  go_wp2_with fail
  clear kc hx0 hx1
  have hr14 := reads_marked w13 (xs := bs [97, 98]) rfl (2, 3)
  have hf14 : RdB (w13.alloc (.cells #[.int .u8 97, .int .u8 98] 5 (2, 3))) w4.heap.size A4 [97, 98] := Reads.alloc Hf13.out (Nat.le_of_lt Hsz13.out) _
  have hB14 := HB13.out.alloc HB13.out.size (.cells #[.int .u8 97, .int .u8 98] 5 (2, 3))
  refine (same_any ⟨7, ⟨A4, c4, [97, 98]⟩⟩ ⟨7, ⟨some ⟨w13.heap.size, 0, none⟩, 2, [97, 98]⟩⟩ w4.heap.size (w13.heap.size + 1) _ (by simp) (by have := Hsz13.out; simp; omega) (by simp) hf14 hr14).mono ?_
  rintro e w14 ⟨rfl, hb14⟩
  have hbb14 := hB14.trans (hb14.mono hB14.size)
  rw [decide_eq_true (rfl : ((7 : UInt8), ([97, 98] : List UInt8)) = (7, [97, 98]))]
  clear hr14 hf14 hB14 hb14
  go_wp2
  go_ret
  exact ⟨rfl, hbb14⟩
end Go.Proofs.Ytfjgmbnnmobkbaa
