/- The walks of one frame, written: the program's appendFrame, and the document's own. Conditions: bodies of at most 65535 bytes; the document's: of at most 2^47 - 4096. -/
import Derived.Test.YtogoaihimepboaaKFrA
import Derived.Test.YtogoaihimepboaaKGa
namespace Go.Proofs.Ytogoaihimepboaa
open Go.RowKit

theorem enc_le {n : Nat} (h : n < 18446744073709551616) : (enc n).length ≤ 10 := sz_10 h

set_option maxHeartbeats 1000000 in
set_option maxRecDepth 100000 in
theorem appendFrame_any (base : Nat) (v : Value) (l : List UInt8) (f : Fr) (w : World) (hl : l.length ≤ 1099511627776) (hf : f.r.l.length ≤ 65535) (hbase : base ≤ w.heap.size)
    (hown : w.ownsRow base 5 1 v l.length (bs l)) (hr : RdB w base f.r.A f.r.l) :
    Calls Try.prog 47 #[v, f.v] w fun e w' => ∃ v', e = .returned v' ∧ w'.ownsRow base 5 1 v' (l ++ encFr f.k f.r.l).length (bs (l ++ encFr f.k f.r.l)) ∧ Below base w w' := by
  unfold Fr.v
  obtain ⟨k, A, c, m⟩ := f
  simp only at hf hr ⊢
  have hlen : (m.length : Int) ≤ 65535 := by omega
  have Hf := Lib.hid hf
  have Hl := Lib.hid hl
  have He := Lib.hid (enc_le (n := m.length) (by omega))
  clear hf hl
  obtain ⟨A0, c0, rfl, hc0, _, hr0⟩ := own_form hown
  obtain ⟨n, hn⟩ : ∃ n, n = l.length := ⟨_, rfl⟩
  have Hn := Lib.hid hn
  rw [← hn] at hown hr0 hc0 ⊢
  have hnI : (n : Int) ≤ 1099511627776 := by have := Hl.out; omega
  clear hn
  obtain ⟨N, hN⟩ : ∃ N, N = w.heap.size := ⟨_, rfl⟩
  have hneN := own_ne hown (M := N) (by omega)
  have hownW : (w.alloc (.cells #[.int .u8 (k.toNat : Int), .slice A m.length c] 58)).ownsRow base 5 1 (.slice A0 n c0) l.length (bs l) := by rw [← Hn.out]; exact hown.alloc _
  have hbW := (Below.refl base w).alloc hbase (.cells #[.int .u8 (k.toNat : Int), .slice A m.length c] 58)
  have hcW : (w.alloc (.cells #[.int .u8 (k.toNat : Int), .slice A m.length c] 58)).cell? ⟨N, 1, none⟩ = some (.slice A m.length c) := by
    rw [hN, cell_of_row _ _ 1 _ _ _ (heap_alloc_new w _)]; rfl
  have HcW := Lib.hid hcW
  clear hcW
  go_enter Try.func47, Try.ntmps47
  go_wp2_with (at_builtin; refine push_byteK (.tmp 8) (.tmp 11) _ k hownW (Nat.le_trans hbase hbW.size) (by have := Hl.out; omega) rfl rfl rfl rfl rfl (by simp) ?_; intro v1 w1 hown1 hb1 hbs1 hz1 hk1; have hc1 := (hk1.cell (p := ⟨N, 1, none⟩) (by simp; omega) hneN).trans HcW.out; have hne1 := hk1.apart (M := N) (by simp; omega) hneN; rw [hN] at hc1; clear hownW)
  refine (put_any _ _ (by have := Hf.out; omega)).mono ?_
  rintro e w2 ⟨v2, rfl, hown2, hb2⟩
  obtain ⟨A2, c2, rfl, _, _, hr2⟩ := own_form hown2
  have hown1' := own_below hown1 hb2 (Nat.le_refl _)
  have hbb2 := (hbW.trans hb1).trans (hb2.mono hbs1)
  have hz2 := hb2.size
  have hc2 := (hb2.cell (p := ⟨w.heap.size, 1, none⟩) (by simp at hz1 ⊢; omega)).trans hc1
  clear hown1 hc1 hb1 hb2 hown2
  go_wp2_with (first
    | (at_builtin; refine push_rowK (.tmp 13) (.tmp 18) hown1' (Nat.le_trans hbase hbb2.size) hr2 (by have := Hl.out; have := He.out; simp; omega) rfl rfl rfl rfl ?_; intro v3 w3 hown3 hb3 hbs3 hz3 hk3; have hc3 := (hk3.cell (p := ⟨w.heap.size, 1, none⟩) (by simp at hz1 ⊢; have := hz2; omega) (by rw [← hN]; exact hne1)).trans hc2; have hbb3 := hbb2.trans hb3; have hr3 := Reads.below hr hbb3; clear hown1' hc2 hb3 hr2 hbb2)
    | (at_builtin; refine push_rowK (.tmp 20) (.tmp 22) hown3 (Nat.le_trans hbase hbb3.size) hr3 (by have := Hl.out; have := He.out; have := Hf.out; simp; omega) rfl rfl rfl rfl ?_; intro v4 w4 hown4 hb4 hbs4 hz4 hk4))
  have hbb4 := hbb3.trans hb4
  have eT : l ++ [k] ++ enc m.length ++ m = l ++ fhead k m := by simp [fhead]
  rw [eT] at hown4
  obtain ⟨T, hT⟩ : ∃ T, T = l ++ fhead k m := ⟨_, rfl⟩
  obtain ⟨nT, hnT⟩ : ∃ n, n = T.length := ⟨_, rfl⟩
  have hfl := fhead_len k m
  have hHlen : nT = n + (fhead k m).length := by rw [hnT, hT, List.length_append, ← Hn.out]
  have hHpos : 0 < (fhead k m).length := by rw [hfl]; omega
  have hHle : (fhead k m).length ≤ 140737488351232 := by rw [hfl]; have := He.out; have := Hf.out; unfold sz; omega
  rw [← hT, ← hnT] at hown4
  obtain ⟨A4, c4, rfl, hc4, _, hr4⟩ := own_form hown4
  obtain ⟨ad, rfl, _, _⟩ := hr4.2 (by omega)
  have hr4' : RdB w4 w4.heap.size (some ad) T := by rw [hnT] at hr4; exact hr4
  have hback := hr4'.back (k := n) (c := c4) (by omega) (by omega)
  rw [if_neg (by omega), hT, show n = l.length from Hn.out, List.drop_left] at hback
  rw [← Hn.out] at hback
  have Hback : Hid (RdB w4 w4.heap.size (some (ad.add n)) (fhead k m)) := hback
  have HHlen := Lib.hid (show (fhead k m).length = nT - n by omega)
  have HHle := Lib.hid hHle
  have hcn : ¬ c4 = n := by omega
  have hnI4 : (n : Int) ≤ (nT : Int) := by omega
  have hcI4 : (nT : Int) ≤ (c4 : Int) := by omega
  have HT := Lib.hid hT
  have HnT := Lib.hid hnT
  clear hT hnT
  have hsl := run_back w4 (some ad) (n := nT) (m := n) (c := c4) (by omega) (by omega)
  rw [if_neg hcn] at hsl
  clear hown3 hc3 hb4 hr3 hbb3 hr4 hr4' hback eT hHlen hHle hHpos hfl hc4
  go_wp2_with fail
  go_simp
  go_wp2_with fail
  refine (sumOne w4 _ rfl (some (ad.add n)) (c4 - n) (nT - n) w4.heap.size (fhead k m) HHlen.out HHle.out (Nat.le_refl _) Hback.out _ rfl).mono ?_
  rintro e w5 ⟨rfl, hb5, hs5⟩
  have hown5 := own_below hown4 hb5 (Nat.le_refl _)
  have hbb5 := hbb4.trans (hb5.mono hbs4)
  clear hsl hb5 hown4 Hback hbb4
  go_wp2_with fail
  refine (appendSum_at base _ T nT HnT.out (sum (fhead k m)) _ rfl _ (by rw [HT.out, List.length_append]; have h1 := fhead_len k m; have h2 := Hl.out; have h3 := He.out; have h4 := Hf.out; unfold sz at h1; omega) (Nat.le_trans hbase hbb5.size) hown5).mono ?_
  rintro e w6 ⟨v6, rfl, hown6, hb6⟩
  go_wp2
  go_ret
  refine ⟨_, rfl, ?_, hbb5.trans hb6⟩
  have eL : T ++ sum4 (sum (fhead k m)) = l ++ encFr k m := by rw [HT.out]; simp [encFr]
  rw [eL] at hown6
  exact hown6

/-! ### the document's own -/
theorem refSumOne (W : World) (N : Nat) (hN : W.heap.size = N) (A : Option Addr) (c n B : Nat) (l : List UInt8) (hn : l.length = n) (hl : l.length ≤ 140737488355327) (hB : B ≤ N) (hr : RdB W B A l) (z : Int) (hz : ((sum l).toNat : Int) = z) :
    Calls Try.prog 38 #[.slice (some ⟨N, 0, none⟩) 1 1] (W.alloc (.cells #[.slice A n c] 22)) fun e w' => e = .returned (.int .u32 z) ∧ Below N W w' ∧ N + 1 ≤ w'.heap.size := by
  subst hn hz hN
  have h := refSum_big (some ⟨W.heap.size, 0, none⟩) 1 (W.heap.size + 1) [⟨A, c, l⟩] (W.alloc (.cells #[.slice A l.length c] 22)) (by simp) (by simpa [bytes] using hl) (by simp) (RdR.new W B [⟨A, c, l⟩] 22 hB (by intro r hr'; simp only [List.mem_singleton] at hr'; subst hr'; exact hr))
  refine h.mono ?_
  rintro e w' ⟨rfl, hb⟩
  exact ⟨congrArg (fun l => Ending.returned (rv (sum l))) (by simp [bytes]), ((Below.refl _ _).alloc (Nat.le_refl _) _).trans (hb.mono (by simp)), by have := hb.size; simpa using this⟩
theorem own_byte (W : World) (base : Nat) (k : UInt8) (hb : base ≤ W.heap.size) : (W.alloc (.cells #[.int .u8 (k.toNat : Int)] 5)).ownsRow base 5 1 (.slice (some ⟨W.heap.size, 0, none⟩) 1 1) [k].length (bs [k]) :=
  own_new W base [k] 1 rfl (by omega) hb

set_option maxHeartbeats 1000000 in
set_option maxRecDepth 100000 in
theorem refBytes_any (f : Fr) (B : Nat) (w : World) (hf : f.r.l.length ≤ 140737488351232) (hB : B ≤ w.heap.size) (hr : RdB w B f.r.A f.r.l) :
    Calls Try.prog 43 #[f.v] w fun e w' => ∃ v', e = .returned v' ∧ w'.ownsRow w.heap.size 5 1 v' (encFr f.k f.r.l).length (bs (encFr f.k f.r.l)) ∧ Below w.heap.size w w' := by
  unfold Fr.v
  obtain ⟨k, A, c, m⟩ := f
  simp only at hf hr ⊢
  have hlen : (m.length : Int) ≤ 140737488351232 := by omega
  have Hf := Lib.hid hf
  have He := Lib.hid (enc_le (n := m.length) (by omega))
  clear hf
  have hbW := (Below.refl w.heap.size w).alloc (Nat.le_refl _) (.cells #[.int .u8 (k.toNat : Int), .slice A m.length c] 61)
  have hcW : (w.alloc (.cells #[.int .u8 (k.toNat : Int), .slice A m.length c] 61)).cell? ⟨w.heap.size, 1, none⟩ = some (.slice A m.length c) := by
    rw [cell_of_row _ _ 1 _ _ _ (heap_alloc_new w _)]; rfl
  have hown0 := own_byte (w.alloc (.cells #[.int .u8 (k.toNat : Int), .slice A m.length c] 61)) w.heap.size k hbW.size
  have hc0 := (World.cell?_alloc_lt (w.alloc (.cells #[.int .u8 (k.toNat : Int), .slice A m.length c] 61)) (.cells #[.int .u8 (k.toNat : Int)] 5) ⟨w.heap.size, 1, none⟩ (by simp)).trans hcW
  have hb0 := hbW.alloc hbW.size (.cells #[.int .u8 (k.toNat : Int)] 5)
  have esz : (w.alloc (.cells #[.int .u8 (k.toNat : Int), .slice A m.length c] 61)).heap.size = w.heap.size + 1 := by simp
  rw [esz] at hown0
  have hne0 : (Value.slice (some ⟨w.heap.size + 1, 0, none⟩) 1 1).ownBlock ≠ some w.heap.size := by simp [Value.ownBlock]
  clear hcW hbW esz
  go_enter Try.func43, Try.ntmps43
  go_wp2_with fail
  refine (refPut_any _ _ (by have := Hf.out; omega)).mono ?_
  rintro e w2 ⟨v2, rfl, hown2, hb2⟩
  obtain ⟨A2, c2, rfl, _, _, hr2⟩ := own_form hown2
  have hown1' := own_below hown0 hb2 (Nat.le_refl _)
  have hbb2 := hb0.trans (hb2.mono hb0.size)
  have hz2 : w.heap.size + 2 ≤ w2.heap.size := by have := hb2.size; simp at this; omega
  have hc2 := (hb2.cell (p := ⟨w.heap.size, 1, none⟩) (by simp; omega)).trans hc0
  clear hown0 hc0 hb0 hb2 hown2
  go_wp2_with (first
    | (at_builtin; refine push_rowK (.tmp 9) (.tmp 14) hown1' hbb2.size hr2 (by have := He.out; simp; omega) rfl rfl rfl rfl ?_; intro v3 w3 hown3 hb3 hbs3 hz3 hk3; have hc3 := (hk3.cell (p := ⟨w.heap.size, 1, none⟩) (by simp; omega) hne0).trans hc2; have hbb3 := hbb2.trans hb3; have hr3 := Reads.below hr (hbb3.mono hB); clear hown1' hc2 hb3 hr2 hbb2)
    | (at_builtin
       refine push_rowK (.tmp 16) (.tmp 18) hown3 hbb3.size hr3 (by have := He.out; have := Hf.out; simp; omega) rfl rfl rfl rfl ?_
       intro v4 w4 hown4 hb4 hbs4 hz4 hk4
       have hbb4 := hbb3.trans hb4
       have eT : [k] ++ enc m.length ++ m = fhead k m := by simp [fhead]
       rw [eT] at hown4
       have hfl := fhead_len k m
       have hHle : (fhead k m).length ≤ 140737488355310 := by rw [hfl]; have := He.out; have := Hf.out; unfold sz; omega
       obtain ⟨T, hT⟩ : ∃ T, T = fhead k m := ⟨_, rfl⟩
       rw [← hT] at hown4 hHle
       obtain ⟨A4, c4, rfl, hc4, _, hr4⟩ := own_form hown4
       have Hr4 : Hid (RdB w4 w4.heap.size A4 T) := hr4
       have HT := Lib.hid hT
       have HHle := Lib.hid hHle
       clear hown3 hc3 hb4 hr3 hbb3 hr4 eT hHle hfl hc4 hT))
  refine (refSumOne w4 _ rfl A4 c4 T.length w4.heap.size T rfl (by have := HHle.out; omega) (Nat.le_refl _) Hr4.out _ rfl).mono ?_
  rintro e w5 ⟨rfl, hb5, hs5⟩
  have hown5 := own_below hown4 hb5 (Nat.le_refl _)
  have hbb5 := hbb4.trans (hb5.mono hbs4)
  obtain ⟨n, hn⟩ : ∃ n : Nat, n = (sum T).toNat := ⟨_, rfl⟩
  have hlt' : Hid (n < 4294967296) := by show n < _; have := (sum T).isLt; omega
  rw [← hn]
  have hnc := Lib.hid hn
  clear hb5 hown4 Hr4 hbb4 hn
  go_wp2
  go_loopw [3, 4, 5] (fun v r i wr => ∃ (k m : Nat), k ≤ 4 ∧ i = .int .i64 (k : Int) ∧ r = .int .u32 (m : Int) ∧ (m : Int) ≤ 4294967295 ∧ Hid (m = (sum T).toNat / 256 ^ k) ∧ wr.ownsRow w.heap.size 5 1 v (T ++ sumTo (sum T) k).length (bs (T ++ sumTo (sum T) k)) ∧ Below w.heap.size w wr) (fun _ _ i _ => 4 - (intOf i).toNat)
  case atStart => exact ⟨0, n, by omega, rfl, rfl, by have := hlt'.out; omega, by show n = _; rw [hnc.out]; simp, by simpa [sumTo] using hown5, hbb5⟩
  case round =>
    obtain ⟨j, q, hj, rfl, rfl, hq, hqc, hownr, hb⟩ := hrel
    by_cases hlt : j < 4
    · have Hpl := Lib.hid (show (T ++ sumTo (sum T) j).length ≤ 140737488355327 by have := HHle.out; simp [sumTo]; omega)
      have hbz := hb.size
      go_wp2_with
        (at_builtin
         refine push_byteK (.tmp 27) (.tmp 31) _ (sbyte (sum T) j) hownr hbz Hpl.out (sbyte_low hqc) rfl rfl rfl rfl rfl ?_
         intro v1 w1 hown1 hb1 hbs1 _ _
         clear hownr)
      go_roundw
      case rel => exact ⟨j + 1, q / 256, by omega, by go_num, by go_num, by omega, div_on hqc, by rw [sumTo_snoc, ← List.append_assoc]; exact hown1, hb.trans hb1⟩
      case measure => simp [intOf]; omega
    · obtain rfl : j = 4 := by omega
      go_wp2
      go_ret
      have eL : T ++ sum4 (sum T) = encFr k m := by rw [HT.out]; rfl
      refine ⟨_, rfl, ?_, hb⟩
      rw [← eL]
      exact hownr

end Go.Proofs.Ytogoaihimepboaa
