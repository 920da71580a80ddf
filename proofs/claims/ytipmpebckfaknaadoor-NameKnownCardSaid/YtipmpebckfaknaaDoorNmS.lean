/- A Name's text, as the reference makes it; the names of each kind. Conditions: parts that fit. -/
import Derived.Test.YtipmpebckfaknaaDoorNmR
namespace Go.Proofs.YtipmpebckfaknaaDoor
open Go.RowKit Go.Lib

set_option maxHeartbeats 4000000 in
set_option maxRecDepth 100000 in
theorem rput_any (x : Nm) (hx : x.Ok) (w : World) : Calls Tryd.prog 13 #[x.v] w fun e w' => e = .returned (.string (txt (putOf x))) ∧ Below w.heap.size w w' := by
  obtain ⟨W0, hW⟩ : ∃ W, Hid (W = w.alloc (.cells #[.int .u8 (x.k : Int), .int .u64 (x.d : Int), .int .u64 (x.n : Int), .int .u64 (x.p : Int), .int .u64 (x.i : Int), .int .u64 (x.c : Int)] 25)) := ⟨_, rfl⟩
  have HB : Hid (BoxNm x W0 ⟨w.heap.size, 0, none⟩) := by rw [hW.out]; exact boxNm_new x w _
  have HG : Hid (Below w.heap.size w W0) := by rw [hW.out]; exact below_new _ _
  have hlt0 : w.heap.size < W0.heap.size := by rw [hW.out]; simp
  have Hlt := Lib.hid hlt0
  have Hx := Lib.hid hx
  have x0 : W0.cell? ⟨w.heap.size, 0, none⟩ = _ := HB.out.c0
  have x1 : W0.cell? ⟨w.heap.size, 1, none⟩ = _ := HB.out.c1
  have x2 : W0.cell? ⟨w.heap.size, 2, none⟩ = _ := HB.out.c2
  have x3 : W0.cell? ⟨w.heap.size, 3, none⟩ = _ := HB.out.c3
  have x4 : W0.cell? ⟨w.heap.size, 4, none⟩ = _ := HB.out.c4
  have x5 : W0.cell? ⟨w.heap.size, 5, none⟩ = _ := HB.out.c5
  clear hlt0 hx
  have hnum := rnum_any x W0
  cases hm : mayOf x with
  | false =>
    have Hput : Hid (putOf x = []) := by unfold putOf; rw [if_neg (by rw [hm]; decide)]; exact rfl
    have hn : Calls Tryd.prog 27 #[x.v] W0 fun e w' => (∃ v, e = .returned (.tuple #[v, .bool false])) ∧ Below W0.heap.size W0 w' := by
      refine hnum.mono ?_
      rintro e w' ⟨A, c, rfl, _, hb⟩
      rw [hm]
      exact ⟨⟨_, rfl⟩, hb⟩
    have Hn := Lib.hid hn
    clear hn hnum hm
    unfold Nm.v
    go_enter Tryd.func13, Tryd.ntmps13
    go_upto_region 1 with fail
    rw [← hW.out]
    go_wp2_with (go_at_call 27; refine Hn.out.mono ?_; rintro e w1 ⟨⟨v, rfl⟩, hb⟩)
    go_ret
    exact ⟨by rw [Hput.out]; rfl, HG.out.trans (hb.mono HG.out.size)⟩
  | true =>
    have Hm := Lib.hid hm
    obtain ⟨M, hM⟩ : ∃ M, Hid ((numsOf x).length = M) := ⟨_, rfl⟩
    have hM4 : M ≤ 4 := by rw [← hM.out]; exact nums_le x
    have hn : Calls Tryd.prog 27 #[x.v] W0 fun e w' => (∃ A c, e = .returned (.tuple #[.slice A M c, .bool true]) ∧ RdU w' w'.heap.size A (numsOf x)) ∧ Below W0.heap.size W0 w' := by
      refine hnum.mono ?_
      rintro e w' ⟨A, c, rfl, hR, hb⟩
      rw [hm, hM.out]
      exact ⟨⟨A, c, rfl, hR⟩, hb⟩
    have Hn := Lib.hid hn
    clear hn hnum hm
    unfold Nm.v
    go_enter Tryd.func13, Tryd.ntmps13
    go_upto_region 1 with fail
    rw [← hW.out]
    go_upto_region 4 with (go_at_call 27; refine Hn.out.mono ?_; rintro e w1 ⟨⟨A, c, rfl, hR⟩, hb⟩)
    have Hb := Lib.hid hb
    have HR := Lib.hid hR
    clear x0 x1 x2 x3 x4 x5 hb hR
    go_cut [5] from 5 to 18 (fun s wx => s = .string (txt (letterOf x.k)) ∧ Below w1.heap.size w1 wx)
    case first =>
      have hk0 : (w1.alloc (.cells #[.string ⟨#[]⟩, .string ⟨#[115]⟩, .string ⟨#[98]⟩, .string ⟨#[116]⟩, .string ⟨#[106]⟩] 9)).cell? ⟨w.heap.size, 0, none⟩ = some (.int .u8 (x.k : Int)) :=
        ((below_new w1 _).cell (p := ⟨w.heap.size, 0, none⟩) (Nat.lt_of_lt_of_le Hlt.out Hb.out.size)).trans ((Hb.out.cell (p := ⟨w.heap.size, 0, none⟩) Hlt.out).trans HB.out.c0)
      rename_i J K1 hJ hK
      rcases may_kind Hm.out with h | h | h | h
      all_goals
        have Hl := Lib.hid h
        rw [h] at hk0
        clear h
        go_wp2
        refine Met.intro (hJ _ _ ?_)
        exact ⟨_, _, _, _, _, _, _, _, _, _, _, _, _, _, ⟨by rw [Hl.out]; rfl, below_new _ _⟩, rfl⟩
    obtain ⟨rfl, hb⟩ := hcut
    have HBw := Lib.hid (HG.out.trans ((Hb.out.trans (hb.mono Hb.out.size)).mono HG.out.size))
    have HRw : Hid (RdU wc w1.heap.size A (numsOf x)) := Reads.below HR.out hb
    have Hwl : Hid (w1.heap.size ≤ wc.heap.size) := hb.size
    obtain ⟨L, hL⟩ : ∃ L, Hid (letterOf x.k = L) := ⟨_, rfl⟩
    have hL1 : Hid (L.length ≤ 1) := by rw [← hL.out]; exact letter_le x.k
    rw [hL.out]
    clear hb
    go_wp2
    go_loopw [5, 6] (fun s i wr => ∃ (k : Nat) (T : List UInt8), k ≤ M ∧ i = .int .i64 (k : Int) ∧ s = .string (txt T) ∧ Hid (T = L ++ ((numsOf x).take k).flatMap (fun u => 45 :: decDigits u)) ∧ Below wc.heap.size wc wr) (fun _ i _ => M - (Lib.intOf i).toNat)
    case atStart => exact ⟨0, L, Nat.zero_le _, rfl, rfl, by simp [Hid], .refl _ _⟩
    case round =>
      obtain ⟨k, T, hk, rfl, rfl, hT, hbr⟩ := hrel
      have Hbr := Lib.hid hbr
      clear hbr
      have hTl : Hid (T.length ≤ 90) := by rw [hT.out]; exact put_le Hx.out hL1.out (by omega)
      by_cases hlt : k < M
      · obtain ⟨ad, u, rfl, hab, hcu, Hu⟩ := RdU.at_ (Reads.below HRw.out (Hbr.out.mono Hwl.out)) (k := k) (by rw [hM.out]; exact hlt)
        have Hu64 : Hid (u < 18446744073709551616) := numsOf_ok Hx.out u (List.mem_of_getElem? Hu.out)
        have Hnext : Hid ((T ++ [45]) ++ decDigits u = L ++ ((numsOf x).take (k + 1)).flatMap (fun u => 45 :: decDigits u)) := by
          rw [hT.out, take_snoc Hu, List.flatMap_append, List.flatMap_singleton]
          simp [Hid]
        have Hdl : Hid ((decDigits u).length ≤ 20) := decDigits_le Hu64.out
        have hcat1 : ¬ (9223372036854775807 < (txt T).size + (⟨#[45]⟩ : ByteArray).size) := by rw [txt_size]; have := hTl.out; have h1 : (⟨#[45]⟩ : ByteArray).size = 1 := rfl; omega
        have hcat2 : ¬ (9223372036854775807 < (txt T ++ (⟨#[45]⟩ : ByteArray)).size + (txt (decDigits u)).size) := by
          rw [show txt T ++ (⟨#[45]⟩ : ByteArray) = txt (T ++ [45]) from txt_append T [45], txt_size, txt_size]
          have := hTl.out
          have := Hdl.out
          simp
          omega
        have HD := fun w' => rdigits_any u w' Hu64.out
        obtain ⟨D, hD⟩ : ∃ D, Hid (decDigits u = D) := ⟨_, rfl⟩
        rw [hD.out] at hcat2 HD Hnext
        have HD' := Lib.hid HD
        clear HD Hdl Hu64
        go_wp2_with (go_at_call 29; refine (HD'.out _).mono ?_; rintro e w2 ⟨rfl, hb2⟩)
        go_roundw
        case rel => exact ⟨k + 1, (T ++ [45]) ++ D, by omega, by go_num, by rw [← txt_append, ← txt_append]; rfl, Hnext, Hbr.out.trans (hb2.mono Hbr.out.size)⟩
        case measure => simp [Lib.intOf]; omega
      · obtain rfl : k = M := by omega
        have Hput : Hid (putOf x = T) := by
          rw [hT.out, ← hL.out]
          unfold putOf
          rw [if_pos Hm.out, List.take_of_length_le (Nat.le_of_eq hM.out)]
          exact rfl
        go_wp2
        go_ret
        exact ⟨by rw [Hput.out]; rfl, HBw.out.trans (Hbr.out.mono HBw.out.size)⟩
theorem slot_ok {a b : Nat} (ha : a < 18446744073709551616) (hb : b < 18446744073709551616) (k : Nat) (hk : k < 256) : (Nm.mk k a b 0 0 0).Ok := ⟨hk, ha, hb, z64, z64, z64⟩
theorem ofSlot_any (a b : Nat) (ha : a < 18446744073709551616) (hb : b < 18446744073709551616) (w : World) (hE : Env w) : Calls Tryd.prog 19 #[.int .u64 (a : Int), .int .u64 (b : Int)] w fun e w' => e = .returned (.string (txt (putOf ⟨1, a, b, 0, 0, 0⟩))) ∧ Below w.heap.size w w' := by
  have hp := Lib.hid (put_any ⟨1, a, b, 0, 0, 0⟩ (slot_ok ha hb 1 (by decide)) w hE)
  clear ha hb hE
  go_enter Tryd.func19, Tryd.ntmps19
  go_wp2_with (go_at_call 12; refine hp.out.mono ?_; rintro e w' ⟨rfl, hb⟩)
  go_ret
  exact ⟨rfl, hb⟩
theorem ofBase_any (a b : Nat) (ha : a < 18446744073709551616) (hb : b < 18446744073709551616) (w : World) (hE : Env w) : Calls Tryd.prog 20 #[.int .u64 (a : Int), .int .u64 (b : Int)] w fun e w' => e = .returned (.string (txt (putOf ⟨2, a, b, 0, 0, 0⟩))) ∧ Below w.heap.size w w' := by
  have hp := Lib.hid (put_any ⟨2, a, b, 0, 0, 0⟩ (slot_ok ha hb 2 (by decide)) w hE)
  clear ha hb hE
  go_enter Tryd.func20, Tryd.ntmps20
  go_wp2_with (go_at_call 12; refine hp.out.mono ?_; rintro e w' ⟨rfl, hb⟩)
  go_ret
  exact ⟨rfl, hb⟩
theorem ofTemp_any (a b c : Nat) (ha : a < 18446744073709551616) (hb : b < 18446744073709551616) (hc : c < 18446744073709551616) (w : World) (hE : Env w) : Calls Tryd.prog 21 #[.int .u64 (a : Int), .int .u64 (b : Int), .int .u64 (c : Int)] w fun e w' => e = .returned (.string (txt (putOf ⟨3, 0, 0, a, b, c⟩))) ∧ Below w.heap.size w w' := by
  have hp := Lib.hid (put_any ⟨3, 0, 0, a, b, c⟩ ⟨(by decide : (3 : Nat) < 256), z64, z64, ha, hb, hc⟩ w hE)
  clear ha hb hc hE
  go_enter Tryd.func21, Tryd.ntmps21
  go_wp2_with (go_at_call 12; refine hp.out.mono ?_; rintro e w' ⟨rfl, hb⟩)
  go_ret
  exact ⟨rfl, hb⟩
theorem ofSeg_any (a b c d : Nat) (ha : a < 18446744073709551616) (hb : b < 18446744073709551616) (hc : c < 18446744073709551616) (hd : d < 18446744073709551616) (w : World) (hE : Env w) : Calls Tryd.prog 22 #[.int .u64 (a : Int), .int .u64 (b : Int), .int .u64 (c : Int), .int .u64 (d : Int)] w fun e w' => e = .returned (.string (txt (putOf ⟨4, a, 0, b, c, d⟩))) ∧ Below w.heap.size w w' := by
  have hp := Lib.hid (put_any ⟨4, a, 0, b, c, d⟩ ⟨(by decide : (4 : Nat) < 256), ha, z64, hb, hc, hd⟩ w hE)
  clear ha hb hc hd hE
  go_enter Tryd.func22, Tryd.ntmps22
  go_wp2_with (go_at_call 12; refine hp.out.mono ?_; rintro e w' ⟨rfl, hb⟩)
  go_ret
  exact ⟨rfl, hb⟩
end Go.Proofs.YtipmpebckfaknaaDoor
