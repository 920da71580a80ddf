/- The walk of the chapter's examples (works): they hold. Conditions: none. -/
import Derived.Test.YthplioblpopfnaaCrcF
import Derived.Lib.SlBytesConst
namespace Go.Proofs.Ythplioblpopfnaa
open Go.RowKit

theorem sumOne (W : World) (N : Nat) (hN : W.heap.size = N) (A : Option Addr) (c n B : Nat) (l : List UInt8) (hn : l.length = n) (hl : l.length ≤ 1099511627776) (hB : B ≤ N) (hr : RdB W B A l) (z : Int) (hz : ((sum l).toNat : Int) = z) :
    Calls Try.prog 10 #[.slice (some ⟨N, 0, none⟩) 1 1] (W.alloc (.cells #[.slice A n c] 25)) fun e w' => e = .returned (.int .u32 z) ∧ Below N W w' ∧ N + 1 ≤ w'.heap.size := by
  subst hn hz hN
  have h := sum_any (some ⟨W.heap.size, 0, none⟩) 1 (W.heap.size + 1) [⟨A, c, l⟩] (W.alloc (.cells #[.slice A l.length c] 25)) (by simp) (by intro r hr; simp only [List.mem_singleton] at hr; subst hr; exact hl) (by simp) (RdR.new W B [⟨A, c, l⟩] 25 hB (by intro r hr'; simp only [List.mem_singleton] at hr'; subst hr'; exact hr))
  refine h.mono ?_
  rintro e w' ⟨rfl, hb⟩
  exact ⟨congrArg (fun l => Ending.returned (rv (sum l))) (by simp [bytes]), ((Below.refl _ _).alloc (Nat.le_refl _) _).trans (hb.mono (by simp)), by have := hb.size; simpa using this⟩
theorem reads_marked (W : World) {xs : List Value} {l : List UInt8} (hx : xs = bs l) (fr : Nat × Nat) : RdB (W.alloc (.cells xs.toArray 5 fr)) (W.heap.size + 1) (some ⟨W.heap.size, 0, none⟩) l := by
  subst hx
  refine ⟨by rw [bs_len]; omega, fun _ => ⟨_, rfl, by simp, fun j u hu => ?_⟩⟩
  have hadd : (⟨W.heap.size, 0, none⟩ : Addr).add j = ⟨W.heap.size, j, none⟩ := by unfold Addr.add; split <;> simp_all
  rw [hadd, cell_of_row (W.alloc (.cells (bs l).toArray 5 fr)) W.heap.size j (bs l).toArray _ fr (heap_alloc_new W _)]
  simpa using hu
theorem sum_digits : ((sum [49, 50, 51, 52, 53, 54, 55, 56, 57]).toNat : Int) = 3808858755 := by decide +kernel
theorem sum_noughts : ((sum (noughts 32)).toNat : Int) = 2324772522 := by decide +kernel
theorem sum_ones : ((sum (List.replicate 32 255)).toNat : Int) = 1655221059 := by decide +kernel
theorem tab_1 : ((tab 1).toNat : Int) = 4067132163 := by decide +kernel
theorem tab_128 : ((tab 128).toNat : Int) = 2197175160 := by decide +kernel
theorem RdR.nil (w : World) (B : Nat) : RdR w B none [] := ⟨Reads.none_, by simp⟩
theorem sumNil (w : World) : Calls Try.prog 10 #[.slice none 0 0] w fun e w' => e = .returned (.int .u32 0) ∧ Below w.heap.size w w' :=
  (sum_any none 0 0 [] w (by simp) (by simp) (by omega) (RdR.nil w 0)).mono fun _ _ ⟨he, hb⟩ => ⟨he, hb⟩

set_option maxHeartbeats 1000000 in
set_option maxRecDepth 100000 in
theorem works_any (w : World) : Calls Try.prog 8 #[] w fun e w' => e = .returned (.bool true) ∧ Below w.heap.size w w' := by
  go_enter Try.func8, Try.ntmps8
  go_wp2_with (refine make_bytes w.heap.size _ _ 32 _ _ (by omega) (Nat.le_refl _) rfl rfl rfl rfl rfl rfl ?_; intro w1 hown1 hb1 hbs1)
  have Hown1 := Lib.hid hown1
  clear hown1
  go_loopw [2] (fun i wr => ∃ (k : Nat) (l : List UInt8), k ≤ 32 ∧ i = .int .i64 (k : Int) ∧ wr.ownsRow w.heap.size 5 1 (.slice (some ⟨w.heap.size, 0, none⟩) 32 32) 32 (bs l) ∧ Below w.heap.size w wr ∧ Hid (l.take k = List.replicate k 255)) (fun i _ => 32 - (intOf i).toNat)
  case atStart => exact ⟨0, _, by omega, rfl, Hown1.out, hb1, by exact rfl⟩
  case round =>
    clear Hown1 hb1 hbs1
    obtain ⟨k, l, hk, rfl, hown, hb, hl⟩ := hrel
    by_cases hlt : k < 32
    · obtain ⟨x, hu, hx⟩ := own_cell hown hlt
      have hf := hown.frozenAt k
      obtain ⟨h1, h2⟩ := own_set (k := k) (x := 255) 255 hown rfl
      have H1 := Lib.hid h1
      have H2 := Lib.hid h2
      have hlen := own_len hown
      clear h1 h2 hown
      go_wp2
      go_roundw
      case rel =>
        refine ⟨k + 1, _, by omega, by go_num, H1.out, hb.setCell (by simp) _, ?_⟩
        show _ = _
        have hk' : (l.set k 255)[k]? = some 255 := by rw [List.getElem?_set_self (by omega)]
        rw [take_snoc (show Hid _ from hk'), List.take_set, List.set_eq_of_length_le (by simp; omega), hl.out, List.replicate_succ']
      case measure => simp [intOf]; omega
    · obtain rfl : k = 32 := by omega
      have hlen := own_len hown
      have hrep : l = List.replicate 32 255 := by
        have := hl.out
        rwa [List.take_of_length_le (by omega)] at this
      subst hrep
      obtain ⟨A1, c1, e1, _, _, hr1⟩ := own_form hown
      injection e1 with e1 _ e2
      subst e1 e2
      clear hown hl hlen
      go_wp2_with fail
      refine (crcTable_any _).mono ?_
      rintro e w2 ⟨rfl, hb2⟩
      have Hr1 := Lib.hid (Reads.below hr1 (hb2.mono (Nat.le_refl _)))
      have hbb := hb.trans (hb2.mono hb.size)
      have hb2s := hb2.size
      clear hr1 hb hb2
      go_wp2_with (first | refine wpList_alloc_zero rfl 35 rfl _ zero_row _ rfl ?_ | (refine store_tab (.tmp 3) (.tmp 12) rfl rfl rfl rfl rfl ?_; intro W hbW htab hzW; have kc := fun (C : Array Value) (n c : Nat) => Lib.run_convert_bytes_const (P := Try.prog) W 25 5 C n c Try.underlying25 Try.underlying5))
      have hW1 := reads_marked W (xs := bs [49, 50, 51, 52, 53, 54, 55, 56, 57]) rfl (9, 10)
      clear kc
      refine (sumOne _ (W.heap.size + 1) (by simp) _ 9 9 _ _ rfl (by simp) (by simp) hW1 _ sum_digits).mono ?_
      rintro e w3 ⟨rfl, hb3, hs3⟩
      have hb3' := ((Below.refl W.heap.size W).alloc (Nat.le_refl _) _).trans (hb3.mono (by omega))
      have htab3 : Hid (∀ i, i < 256 → w3.cell? ⟨w2.heap.size, i, none⟩ = some (rv (tab i))) := fun i hi => by rw [hb3'.cell (by simp only; omega)]; exact htab.out i hi
      have hs3' : w2.heap.size + 1 ≤ w3.heap.size := by omega
      have hb23 := hbW.trans (hb3'.mono (by omega))
      have Hr3 := Lib.hid (Reads.below Hr1.out (hb23.mono hb2s))
      have hbb3 := hbb.trans (hb23.mono (by have := hbb.size; omega))
      clear hb3 hb3' hbW htab hW1 hb23 Hr1 hzW hs3
      have hmk := fun w => run_make_bytes w 32 32 rfl (by omega)
      go_wp2_with fail
      clear hmk
      refine (sumOne _ (w3.heap.size + 1) (by simp) _ 32 32 _ _ (noughts_len 32) (by rw [noughts_len]; omega) (by simp) (reads_lit w3 rfl) _ sum_noughts).mono ?_
      rintro e w4 ⟨rfl, hb4, hs4⟩
      have hb34 := ((Below.refl w3.heap.size w3).alloc (Nat.le_refl _) _).trans (hb4.mono (by omega))
      have hr4 := Reads.below Hr3.out (hb34.mono (by have := hs3'; omega))
      go_wp2_with fail
      refine (sumOne w4 w4.heap.size rfl _ 32 32 _ (List.replicate 32 255) (by simp) (by simp) (by omega) hr4 _ sum_ones).mono ?_
      rintro e w5 ⟨rfl, hb5, hs5⟩
      have hb35 := hb34.trans (hb5.mono (by omega))
      have hc1 : w5.cell? ⟨w2.heap.size, 1, none⟩ = some (.int .u32 4067132163) := by rw [hb35.cell (by simp only; omega), htab3.out 1 (by omega), ← tab_1]
      have hc2 : w5.cell? ⟨w2.heap.size, 128, none⟩ = some (.int .u32 2197175160) := by rw [hb35.cell (by simp only; omega), htab3.out 128 (by omega), ← tab_128]
      have hbb5 := hbb3.trans (hb35.mono hbb3.size)
      clear hb34 hr4 hb4 hb5 hb35 htab3 Hr3 hbb3 hs3' hs4 hs5 hb2s hbb
      go_wp2_with fail
      refine (sumNil _).mono ?_
      rintro e w6 ⟨rfl, hb6⟩
      go_wp2
      go_ret
      exact ⟨rfl, hbb5.trans (hb6.mono hbb5.size)⟩
end Go.Proofs.Ythplioblpopfnaa
