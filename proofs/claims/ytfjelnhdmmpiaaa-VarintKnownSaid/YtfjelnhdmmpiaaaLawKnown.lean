/- The walk of VarintKnown, a closed statement: it returns true. Conditions: none. -/
import Derived.Test.YtfjelnhdmmpiaaaLawBack
import Derived.Test.YtfjelnhdmmpiaaaRow
import Derived.StillTailTactics
namespace Go.Proofs.Ytfjelnhdmmpiaaa
open Go.RowKit

theorem reads_litU (W : World) {xs : List Value} {l : List Nat} (hx : xs = us l) : RdU (W.alloc (.cells xs.toArray 31)) (W.heap.size + 1) (some ⟨W.heap.size, 0, none⟩) l := by
  subst hx
  have := reads_new W 31 (us l)
  rwa [us_len] at this
theorem putsLit (W : World) (l : List Nat) (xs : List Value) (hx : xs = us l) (s : ByteArray) (n : Nat) (hn : l.length = n) (hl : l.length ≤ 1000) (hs : s.size ≤ 1000) (h64 : ∀ n ∈ l, n < 18446744073709551616) :
    Calls Try.prog 3 #[.slice (some ⟨W.heap.size, 0, none⟩) n n, .string s] (W.alloc (.cells xs.toArray 31)) fun e w' => e = .returned (.bool true) ∧ Below W.heap.size W w' := by
  subst hn
  refine (putsLaw_any _ _ l s _ (by omega) (by omega) ((reads_litU W hx).more (by simp)) h64).mono ?_
  rintro e w' ⟨rfl, hb⟩
  exact ⟨rfl, ((Below.refl _ _).alloc (Nat.le_refl _) _).trans (hb.mono (by simp))⟩
theorem two_lt {a b : Nat} (ha : a < 18446744073709551616) (hb : b < 18446744073709551616) : ∀ n ∈ [a, b], n < 18446744073709551616 := by
  intro n hn
  simp only [List.mem_cons, List.not_mem_nil, or_false] at hn
  rcases hn with rfl | rfl <;> assumption
theorem three_lt {a b : Nat} (ha : a < 18446744073709551616) (hb : b < 18446744073709551616) : ∀ n ∈ [a, b, 0], n < 18446744073709551616 := by
  intro n hn
  simp only [List.mem_cons, List.not_mem_nil, or_false] at hn
  rcases hn with rfl | rfl | rfl <;> first | assumption | omega
theorem putNewC (W : World) (n : Nat) (x : Int) (hx : x = (n : Int)) (hn : n < 18446744073709551616) :
    Calls Try.prog 14 #[.int .u64 x] W fun e w' => ∃ A c, e = .returned (.slice A (enc n).length c) ∧ RdB w' w'.heap.size A (enc n) ∧ Below W.heap.size W w' ∧ Hid ((enc n).length ≤ c) := by
  subst hx
  refine (put_any n W hn).mono ?_
  rintro e w' ⟨v, rfl, hown, hb⟩
  obtain ⟨A, c, rfl, hc, _, hr⟩ := own_form hown
  exact ⟨A, c, rfl, hr, hb, hc⟩
theorem takesLit (W : World) (A : Option Addr) (n c : Nat) (l : List UInt8) (hn : l.length = n) (p many : Int) (hl : l.length ≤ 1000) (hc : n ≤ c) (hr : RdB W W.heap.size A l) :
    Calls Try.prog 4 #[.slice A n c, .int .i64 p, .int .i64 many] W fun e w' => e = .returned (.bool true) ∧ Below W.heap.size W w' := by
  subst hn
  exact takesLaw_any _ _ _ l p many _ (by omega) hc (Nat.le_refl _) hr
theorem ownLit (W : World) (A : Option Addr) (n c B : Nat) (l : List UInt8) (hn : l.length = n) (hl : l.length ≤ 1000) (hr : RdB W B A l) :
    Calls Try.prog 17 #[.slice A n c] W fun e w' => ∃ v, e = .returned v ∧ w'.ownsRow W.heap.size 5 1 v l.length (bs l) ∧ Below W.heap.size W w' := by
  subst hn
  exact own_any A c B l W (by omega) hr
theorem new_add (g j : Nat) : (⟨g, 0, none⟩ : Addr).add j = ⟨g, j, none⟩ := by unfold Addr.add; split <;> simp_all
theorem u64_some (z : Int) : ∃ n : Nat, n < 18446744073709551616 ∧ IntKind.u64.wrap z = (n : Int) := by
  have h := lit_u64 (wf_wrap .u64 z)
  exact ⟨(IntKind.u64.wrap z).toNat, by omega, by omega⟩
theorem bits_some (op : BinOp) (x y : Int) : ∃ n : Nat, n < 18446744073709551616 ∧ bits op .u64 x y = (n : Int) := by
  have h := lit_u64 (wf_bits op .u64 x y)
  exact ⟨(bits op .u64 x y).toNat, by omega, by omega⟩
theorem backLit (W : World) (l : List Nat) (A A2 A3 : Option Addr) (c2 c3 : Nat) (a2 a3 : List UInt8) (n : Nat) (hn : l.length = n) (c : Nat) (s : ByteArray) (hl : l.length ≤ 1000) (hs : s.size ≤ 1000) (h64 : ∀ n ∈ l, n < 18446744073709551616)
    (h2 : a2.length ≤ 1000) (h3 : a3.length ≤ 1000) (hc3 : a3.length ≤ c3) (hr : RdU W W.heap.size A l) (hr2 : RdB W W.heap.size A2 a2) (hr3 : RdB W W.heap.size A3 a3) :
    Calls Try.prog 5 #[.slice A n c, .string s, .slice A2 a2.length c2, .slice A3 a3.length c3] W fun e w' => e = .returned (.bool true) ∧ Below W.heap.size W w' := by
  subst hn
  exact backLaw_any _ _ _ _ _ _ l s a2 a3 _ (by omega) (by omega) (by omega) (by omega) hc3 hr h64 hr2 hr3

set_option maxHeartbeats 4000000 in
set_option maxRecDepth 100000 in
theorem knownLaw_any (w : World) : Calls Try.prog 6 #[] w fun e w' => e = .returned (.bool true) ∧ Below w.heap.size w w' := by
  go_enter Try.func6, Try.ntmps6
  go_wp2
  go_loopw [1] (fun t wr => ∃ k : Nat, k ≤ 64 ∧ t = .int .i64 (k : Int) ∧ Below w.heap.size w wr) (fun t _ => 64 - (intOf t).toNat)
  case atStart => exact ⟨0, by omega, rfl, .refl _ _⟩
  case round =>
    obtain ⟨k, hk, rfl, hb⟩ := hrel
    obtain ⟨wo, rfl⟩ : ∃ wo : World, wo = wr := ⟨_, rfl⟩
    by_cases hlt : k < 64
    · obtain ⟨N, hN64, hN⟩ := u64_some (2 ^ k)
      obtain ⟨N1, hN164, hN1⟩ := u64_some ((N : Int) - 1)
      obtain ⟨N2, hN264, hN2⟩ := u64_some ((N : Int) + 1)
      obtain ⟨N3, hN364, hN3⟩ := bits_some .xor IntKind.u64.max (N : Int)
      have HN := Lib.hid hN64
      have Hall := Lib.hid (show ∀ n ∈ [N1, N, N2, N3], n < 18446744073709551616 by
        intro n hn
        simp only [List.mem_cons, List.not_mem_nil, or_false] at hn
        rcases hn with rfl | rfl | rfl | rfl <;> assumption)
      have hr0 := reads_litU wo (l := [N1, N, N2, N3]) rfl
      have hb0 := hb.alloc hb.size (.cells (us [N1, N, N2, N3]).toArray 31)
      have hz0 : wo.heap.size + 1 ≤ (wo.alloc (.cells (us [N1, N, N2, N3]).toArray 31)).heap.size := by simp
      have Hr0 := Lib.hid hr0
      clear hN64 hN164 hN264 hN364 hr0
      go_wp2_with fail
      clear hN hN1 hN2 hN3
      go_loopw [28] (fun t wx => ∃ j : Nat, j ≤ 4 ∧ t = .int .i64 (j : Int) ∧ RdU wx (wo.heap.size + 1) (some ⟨wo.heap.size, 0, none⟩) [N1, N, N2, N3] ∧ Below w.heap.size w wx ∧ wo.heap.size + 1 ≤ wx.heap.size) (fun t _ => 4 - (intOf t).toNat)
      case atStart => exact ⟨0, by omega, rfl, Hr0.out, hb0, hz0⟩
      case round =>
        clear Hr0 hb0 hz0
        obtain ⟨j, hj, rfl, hrx, hbx, hzx⟩ := hrel
        by_cases hlt4 : j < 4
        · obtain ⟨_, x, e, _, hc, hx⟩ := RdU.at_ hrx (k := j) hlt4
          injection e with e
          subst e
          rw [new_add] at hc
          have Hx := Lib.hid (Hall.out x (mem_of_get hx))
          go_wp2_with fail
          refine (putsLit _ [x, N] _ rfl ⟨#[97]⟩ _ rfl (by simp) (by decide) (two_lt Hx.out HN.out)).mono ?_
          rintro e w1 ⟨rfl, hb1⟩
          have hbx1 := hbx.trans (hb1.mono hbx.size)
          have hrx1 := hrx.below (hb1.mono hzx)
          have hzx1 := Nat.le_trans hzx hb1.size
          clear hrx hbx hzx hb1 hc
          go_wp2_with fail
          have hr3 := reads_litU w1 (l := [x, N, 0]) rfl
          have Hr3 := Lib.hid hr3
          clear hr3
          refine (putNew _ x _ rfl Hx.out).mono ?_
          rintro e w2 ⟨A2, c2, rfl, hr2, hb2⟩
          have hr3 := Reads.below Hr3.out (hb2.mono (by simp))
          have hrx2 := (hrx1.alloc hzx1 _).below (hb2.mono (by simp; omega))
          have hbx2 := (hbx1.alloc hbx1.size _).trans (hb2.mono (by have := hbx1.size; simp; omega))
          have hzx2 : wo.heap.size + 1 ≤ w2.heap.size := by have := hb2.size; simp at this; omega
          have hw12 : w1.heap.size + 1 ≤ w2.heap.size := by have := hb2.size; simp at this; omega
          clear Hr3 hb2 hrx1 hbx1 hzx1
          go_wp2_with fail
          refine (putNewC _ N _ rfl HN.out).mono ?_
          rintro e w3 ⟨A3, c3, rfl, hr33, hb3, Hc3⟩
          have hr23 := (hr2.below hb3).more hb3.size
          have hr3' := (hr3.below (hb3.mono hw12)).more (Nat.le_trans hw12 hb3.size)
          have hrx3 := hrx2.below (hb3.mono hzx2)
          have hbx3 := hbx2.trans (hb3.mono hbx2.size)
          have hzx3 := Nat.le_trans hzx2 hb3.size
          clear hr2 hr3 hrx2 hbx2 hzx2 hw12 hb3
          go_wp2_with fail
          refine (backLit _ [x, N, 0] _ A2 A3 c2 c3 (enc x) (enc N) _ rfl _ _ (by simp) (by decide) (three_lt Hx.out HN.out) (by have := sz_10 Hx.out; unfold sz at this; omega) (by have := sz_10 HN.out; unfold sz at this; omega) Hc3.out hr3' hr23 hr33).mono ?_
          rintro e w4 ⟨rfl, hb4⟩
          have hrx4 := hrx3.below (hb4.mono hzx3)
          have hbx4 := hbx3.trans (hb4.mono hbx3.size)
          have hzx4 := Nat.le_trans hzx3 hb4.size
          clear hr23 hr3' hr33 hrx3 hbx3 hzx3 hb4
          go_wp2
          go_roundw
          case rel => exact ⟨j + 1, by omega, by go_num, hrx4, hbx4, hzx4⟩
          case measure => simp [intOf]; omega
        · have hj4 : j = 4 := by omega
          subst hj4
          go_wp2
          go_roundw
          case rel => exact ⟨k + 1, by omega, by go_num, hbx⟩
          case measure => simp [intOf]; omega
    · have hr0 := reads_lit wo (l := [0, 1, 2, 127, 128, 129, 255]) rfl
      have Hr0 := Lib.hid hr0
      have hb0 := hb.alloc hb.size (.cells (bs [0, 1, 2, 127, 128, 129, 255]).toArray 5)
      have hz0 : wo.heap.size + 1 ≤ (wo.alloc (.cells (bs [0, 1, 2, 127, 128, 129, 255]).toArray 5)).heap.size := by simp
      clear hr0
      go_wp2_with fail
      go_loopw [6] (fun t wx => ∃ i : Nat, i ≤ 343 ∧ t = .int .i64 (i : Int) ∧ RdB wx (wo.heap.size + 1) (some ⟨wo.heap.size, 0, none⟩) [0, 1, 2, 127, 128, 129, 255] ∧ Below w.heap.size w wx ∧ wo.heap.size + 1 ≤ wx.heap.size) (fun t _ => 343 - (intOf t).toNat)
      case atStart => exact ⟨0, by omega, rfl, Hr0.out, hb0, hz0⟩
      case round =>
        clear Hr0 hb0 hz0
        obtain ⟨i, hi, rfl, hrx, hbx, hzx⟩ := hrel
        obtain ⟨wp, rfl⟩ : ∃ wp : World, wp = wr := ⟨_, rfl⟩
        have hzx' : wo.heap.size + 1 ≤ wp.heap.size + 1 := by omega
        have hwx' : w.heap.size ≤ wp.heap.size + 1 := by have := hbx.size; omega
        by_cases hlt3 : i < 343
        · obtain ⟨_, x, e, _, hc1, hx1⟩ := RdB.at_ hrx (k := i % 7) (by simp; omega)
          injection e with e
          subst e
          obtain ⟨_, y, e, _, hc2, hy1⟩ := RdB.at_ hrx (k := i / 7 % 7) (by simp; omega)
          injection e with e
          subst e
          obtain ⟨_, z, e, _, hc3, hz1⟩ := RdB.at_ hrx (k := i / 49) (by simp; omega)
          injection e with e
          subst e
          rw [new_add] at hc1 hc2 hc3
          have f1 : (i : Int).tmod 7 = (i : Int) % 7 := Int.tmod_eq_emod_of_nonneg (by omega)
          have f2 : (i : Int).tdiv 7 = (i : Int) / 7 := Int.tdiv_eq_ediv_of_nonneg (by omega)
          have f3 : ((i : Int) / 7).tmod 7 = (i : Int) / 7 % 7 := Int.tmod_eq_emod_of_nonneg (by omega)
          have f4 : (i : Int).tdiv 49 = (i : Int) / 49 := Int.tdiv_eq_ediv_of_nonneg (by omega)
          have f5 : IntKind.i64.wrap ((i : Int) / 7) = (i : Int) / 7 := IntWalk.i64_in _ (by omega)
          have f6 : IntKind.i64.wrap ((i : Int) / 49) = (i : Int) / 49 := IntWalk.i64_in _ (by omega)
          have g1 : (i : Int) % 7 < 7 := by omega
          have g1' : 0 ≤ (i : Int) % 7 := by omega
          have g2 : (i : Int) / 7 % 7 < 7 := by omega
          have g2' : 0 ≤ (i : Int) / 7 % 7 := by omega
          have g3 : (i : Int) / 49 < 7 := by omega
          have g3' : 0 ≤ (i : Int) / 49 := by omega
          have t1 : ((i : Int) % 7).toNat = i % 7 := by omega
          have t2 : ((i : Int) / 7 % 7).toNat = i / 7 % 7 := by omega
          have t3 : ((i : Int) / 49).toNat = i / 49 := by omega
          go_wp2_with fail
          go_region_held3 (fun wx => wx.cell? ⟨wo.heap.size, i % 7, none⟩ = some (.int .u8 (x.toNat : Int)) ∧ wx.cell? ⟨wo.heap.size, i / 7 % 7, none⟩ = some (.int .u8 (y.toNat : Int)) ∧ wx.cell? ⟨wo.heap.size, i / 49, none⟩ = some (.int .u8 (z.toNat : Int))) (go_keep) (fail)
          clear f1 f2 f3 f4 f5 f6 g1 g1' g2 g2' g3 g3' t1 t2 t3 hc1 hc2 hc3
          go_wp2_with fail
          have hrb1 := reads_lit wp (l := [x, y, z]) rfl
          have hown1 := World.ownsRow_made (wp.alloc (.cells (bs [x, y, z]).toArray 5)) (e := 5) (size := 1) (base := wp.heap.size + 1) #[] 0 (by simp) (by simp [maxLen]) (by simp)
          rw [show (wp.alloc (.cells (bs [x, y, z]).toArray 5)).heap.size = wp.heap.size + 1 from by simp] at hown1
          have hbb1 := (hbx.alloc hbx.size (.cells (bs [x, y, z]).toArray 5)).alloc (by have := hbx.size; simp; omega) (.cells #[] 5)
          have hrx1 := (hrx.alloc hzx (.cells (bs [x, y, z]).toArray 5)).alloc (by simp; omega) (.cells #[] 5)
          have hrb1' := hrb1.alloc (by simp) (.cells #[] 5)
          have Hown1 := Lib.hid (World.ownsRow.drew hown1)
          have Hbb1 := Lib.hid (Below.drew hbb1)
          have Hrx1 := Lib.hid hrx1
          have Hrb1 := Lib.hid hrb1'
          clear hrb1 hown1 hbb1 hrx1 hrb1' hrx hbx
          go_loopw [8, 9] (fun v t wy => ∃ (j : Nat) (L : List UInt8), j ≤ 3 ∧ t = .int .i64 (j : Int) ∧ Hid (L.length ≤ 3 * j) ∧ wy.ownsRow (wp.heap.size + 1) 5 1 v L.length (bs L) ∧ RdB wy (wo.heap.size + 1) (some ⟨wo.heap.size, 0, none⟩) [0, 1, 2, 127, 128, 129, 255] ∧ RdB wy (wp.heap.size + 1) (some ⟨wp.heap.size, 0, none⟩) [x, y, z] ∧ Below w.heap.size w wy ∧ wp.heap.size + 1 ≤ wy.heap.size) (fun _ t _ => 3 - (intOf t).toNat)
          case atStart => exact ⟨0, [], by omega, rfl, by exact Nat.le_refl _, Hown1.out, Hrx1.out, Hrb1.out, Hbb1.out, by simp⟩
          case round =>
            clear Hown1 Hbb1 Hrx1 Hrb1
            obtain ⟨j, L, hj, rfl, hL, hown, hrx, hrb, hbx, hzy⟩ := hrel
            by_cases hlt4 : j < 3
            · obtain ⟨_, y2, e, _, hc, hy2⟩ := RdB.at_ hrx (k := j) (by simp; omega)
              injection e with e
              subst e
              rw [new_add] at hc
              have hj7 : (j : Int) < 7 := by omega
              have Hpl := Lib.hid (show L.length + 3 ≤ 2199023255552 by have := hL.out; omega)
              go_wp2_with (at_builtin; refine push_row (.tmp 76) (.tmp 81) (m := [128, 255, y2]) (hown.alloc _) (Nat.le_trans hzy (by simp)) (reads_lit wr rfl) Hpl.out rfl rfl rfl rfl ?_; intro v2 w2 hown2 hb2 hbs2 hg2; clear hown)
              have hb2' := ((Below.refl (wp.heap.size + 1) wr).alloc hzy (.cells (bs [128, 255, y2]).toArray 5)).trans hb2
              go_roundw
              case rel => exact ⟨j + 1, L ++ [128, 255, y2], by omega, by go_num, by show (L ++ [128, 255, y2]).length ≤ 3 * (j + 1); have := hL.out; simp; omega, hown2, hrx.below (hb2'.mono hzx'), hrb.below hb2', hbx.trans (hb2'.mono hwx'), hbs2⟩
              case measure => simp [intOf]; omega
            · have hj3 : j = 3 := by omega
              subst hj3
              obtain ⟨A8, c8, rfl, _, _, _⟩ := own_form hown
              have Hpl := Lib.hid (show L.length + 3 ≤ 2199023255552 by have := hL.out; omega)
              go_wp2_with (at_builtin; refine push_row (.tmp 83) (.tmp 84) (m := [x, y, z]) hown hzy hrb Hpl.out rfl rfl rfl rfl ?_; intro v2 w2 hown2 hb2 hbs2 hg2; clear hown)
              have hb2' := hbx.trans (hb2.mono hwx')
              have hrx2 := hrx.below (hb2.mono hzx')
              have hrb2 := hrb.below hb2
              obtain ⟨L2, hL2⟩ : ∃ L2, L2 = L ++ [x, y, z] := ⟨_, rfl⟩
              rw [← hL2] at hown2
              have HL2 := Lib.hid (show L2.length ≤ 1000 by have := hL.out; rw [hL2]; simp; omega)
              obtain ⟨A9, c9, rfl, hc9, _, hr9⟩ := own_form hown2
              clear hown2 hb2 hL2 hg2 hrx hrb hbx
              go_loopw [10] (fun t wz => ∃ a : Int, -1 ≤ a ∧ a ≤ 5 ∧ t = .int .i64 a ∧ RdB wz (wp.heap.size + 1) (some ⟨wp.heap.size, 0, none⟩) [x, y, z] ∧ RdB wz w2.heap.size A9 L2 ∧ RdB wz (wo.heap.size + 1) (some ⟨wo.heap.size, 0, none⟩) [0, 1, 2, 127, 128, 129, 255] ∧ Below w.heap.size w wz ∧ w2.heap.size ≤ wz.heap.size) (fun t _ => (5 - intOf t).toNat)
              case atStart => exact ⟨-1, by omega, by omega, rfl, hrb2, hr9, hrx2, hb2', Nat.le_refl _⟩
              case round =>
                clear hrb2 hr9 hrx2 hb2'
                obtain ⟨a, ha1, ha2, rfl, hrb, hr9, hrx, hbx, hzz⟩ := hrel
                by_cases hlt5 : a < 5
                · go_wp2_with fail
                  refine (takesLit _ _ 3 3 [x, y, z] rfl a a (by simp) (Nat.le_refl _) (hrb.more (Nat.le_trans hbs2 hzz))).mono ?_
                  rintro e w5 ⟨rfl, hb5⟩
                  have hrb5 := hrb.below (hb5.mono (Nat.le_trans hbs2 hzz))
                  have hr95 := hr9.below (hb5.mono hzz)
                  have hrx5 := hrx.below (hb5.mono (Nat.le_trans hzx' (Nat.le_trans hbs2 hzz)))
                  have hbx5 := hbx.trans (hb5.mono hbx.size)
                  have hz5 := Nat.le_trans hzz hb5.size
                  clear hrb hr9 hrx hbx hb5
                  go_wp2_with fail
                  refine (takesLit _ A9 _ c9 L2 rfl a 2 HL2.out hc9 (hr95.more hz5)).mono ?_
                  rintro e w6 ⟨rfl, hb6⟩
                  have hrb6 := hrb5.below (hb6.mono (Nat.le_trans hbs2 hz5))
                  have hr96 := hr95.below (hb6.mono hz5)
                  have hrx6 := hrx5.below (hb6.mono (Nat.le_trans hzx' (Nat.le_trans hbs2 hz5)))
                  have hbx6 := hbx5.trans (hb6.mono hbx5.size)
                  have hz6 := Nat.le_trans hz5 hb6.size
                  clear hrb5 hr95 hrx5 hbx5 hb6 hz5
                  go_wp2
                  go_roundw
                  case rel => exact ⟨a + 1, by omega, by omega, by go_num, hrb6, hr96, hrx6, hbx6, hz6⟩
                  case measure => simp [intOf]; omega
                · have ha5 : a = 5 := by omega
                  subst ha5
                  go_wp2
                  go_roundw
                  case rel => exact ⟨i + 1, by omega, by go_num, hrx, hbx, Nat.le_trans hzx' (Nat.le_trans hbs2 hzz)⟩
                  case measure => simp [intOf]; omega
        · have hge3 : ¬ (i : Int) < 343 := by omega
          have hrn := reads_lit wp (l := [255, 255, 255, 255, 255, 255, 255, 255, 255]) rfl
          have Hrn := Lib.hid hrn
          have Hbn := Lib.hid (hbx.alloc hbx.size (.cells (bs [255, 255, 255, 255, 255, 255, 255, 255, 255]).toArray 5))
          clear hrn hrx
          go_wp2_with fail
          go_loopw [12] (fun t wz => ∃ q : Nat, q ≤ 256 ∧ t = .int .i64 (q : Int) ∧ RdB wz (wp.heap.size + 1) (some ⟨wp.heap.size, 0, none⟩) [255, 255, 255, 255, 255, 255, 255, 255, 255] ∧ Below w.heap.size w wz ∧ wp.heap.size + 1 ≤ wz.heap.size) (fun t _ => 256 - (intOf t).toNat)
          case atStart => exact ⟨0, by omega, rfl, Hrn.out, Hbn.out, by simp⟩
          case round =>
            clear Hrn Hbn hbx
            obtain ⟨q, hq, rfl, hrn, hbx, hzz⟩ := hrel
            by_cases hlt6 : q < 256
            · have hqc : (q : Int) = (((UInt8.ofNat q).toNat : Nat) : Int) := by rw [ofNat_toNat hlt6]
              have Hqc := Lib.hid hqc
              clear hqc
              go_wp2_with fail
              refine (ownLit _ _ 9 9 _ _ rfl (by simp) hrn).mono ?_
              rintro e w5 ⟨v5, rfl, hown5, hb5⟩
              obtain ⟨A5, c5, rfl, _, _, _⟩ := own_form hown5
              have hrn5 := hrn.below (hb5.mono hzz)
              have hbx5 := hbx.trans (hb5.mono hbx.size)
              have hz5 := Nat.le_trans hzz hb5.size
              have hw5 := hb5.size
              have hwr := hbx.size
              clear hrn hbx hb5
              go_wp2_with (at_builtin; refine push_row (.tmp 107) (.tmp 112) (m := [UInt8.ofNat q, UInt8.ofNat q]) (hown5.alloc _) (Nat.le_trans hw5 (by simp)) (reads_lit w5 (by rw [Hqc.out]; rfl)) (by simp) rfl rfl rfl rfl ?_; intro v6 w6 hown6 hb6 hbs6 hg6; clear hown5)
              have hbw := ((Below.refl wr.heap.size w5).alloc hw5 (.cells #[.int .u8 (q : Int), .int .u8 (q : Int)] 5)).trans hb6
              have hrn6 := hrn5.below (hbw.mono hzz)
              have hbx6 := hbx5.trans (hbw.mono hwr)
              have hz6 := Nat.le_trans hz5 hbw.size
              obtain ⟨L6, hL6⟩ : ∃ L6, L6 = [255, 255, 255, 255, 255, 255, 255, 255, 255] ++ [UInt8.ofNat q, UInt8.ofNat q] := ⟨_, rfl⟩
              rw [← hL6] at hown6
              have HL6 := Lib.hid (show L6.length ≤ 1000 by rw [hL6]; simp)
              obtain ⟨A6, c6, rfl, hc6, _, hr6⟩ := own_form hown6
              clear hown6 hL6 hg6 hrn5 hbx5 hz5 hbw hb6 hbs6
              go_wp2_with fail
              refine (takesLit _ A6 _ c6 L6 rfl 0 1 HL6.out hc6 hr6).mono ?_
              rintro e w7 ⟨rfl, hb7⟩
              have hrn7 := hrn6.below (hb7.mono hz6)
              have hbx7 := hbx6.trans (hb7.mono hbx6.size)
              have hz7 := Nat.le_trans hz6 hb7.size
              clear hr6 hrn6 hbx6 hb7 hz6
              go_wp2
              go_roundw
              case rel => exact ⟨q + 1, by omega, by go_num, hrn7, hbx7, hz7⟩
              case measure => simp [intOf]; omega
            · have hq6 : q = 256 := by omega
              subst hq6
              go_wp2_with fail
              refine (takesLit _ _ 9 9 _ rfl 0 1 (by simp) (Nat.le_refl _) (hrn.more hzz)).mono ?_
              rintro e w8 ⟨rfl, hb8⟩
              have hbx8 := hbx.trans (hb8.mono hbx.size)
              clear hrn hbx hb8
              go_wp2_with fail
              refine (takesLit _ none 0 0 [] rfl 0 0 (by simp) (Nat.le_refl _) Reads.none_).mono ?_
              rintro e w9 ⟨rfl, hb9⟩
              have hbx9 := hbx8.trans (hb9.mono hbx8.size)
              clear hbx8 hb9
              go_wp2_with fail
              refine (takesLit _ _ 3 3 [3, 97, 97] rfl 0 (-1) (by simp) (Nat.le_refl _) ((reads_lit w9 rfl).more (by simp))).mono ?_
              rintro e w10 ⟨rfl, hb10⟩
              have hbx10 := (hbx9.alloc hbx9.size _).trans (hb10.mono (by have := hbx9.size; simp; omega))
              clear hbx9 hb10
              go_wp2_with fail
              refine (takesLit _ _ 11 11 [255, 255, 255, 255, 255, 255, 255, 255, 255, 1, 97] rfl 0 1 (by simp) (Nat.le_refl _) ((reads_lit w10 rfl).more (by simp))).mono ?_
              rintro e w11 ⟨rfl, hb11⟩
              have hbx11 := (hbx10.alloc hbx10.size _).trans (hb11.mono (by have := hbx10.size; simp; omega))
              clear hbx10 hb11
              go_wp2_with fail
              refine (backLit _ [] none none none 0 0 [] [] 0 rfl 0 ⟨#[97, 98, 99]⟩ (by simp) (by decide) (by simp) (by simp) (by simp) (by simp) Reads.none_ Reads.none_ Reads.none_).mono ?_
              rintro e w12 ⟨rfl, hb12⟩
              have hbx12 := hbx11.trans (hb12.mono hbx11.size)
              clear hbx11 hb12
              go_wp2_with fail
              refine (works_any _).mono ?_
              rintro e w13 ⟨rfl, hb13⟩
              have hbx13 := hbx12.trans (hb13.mono hbx12.size)
              go_wp2
              go_ret
              exact ⟨rfl, hbx13⟩
end Go.Proofs.Ytfjelnhdmmpiaaa
