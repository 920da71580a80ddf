/- The chapter's examples. Conditions: none. -/
import Derived.Test.YtipmpebckfaknaaDoorNmS
import Derived.Test.YtipmpebckfaknaaDoorNmP2
namespace Go.Proofs.YtipmpebckfaknaaDoor
open Go.RowKit Go.Lib

theorem parse_yes (s : List UInt8) (x : Nm) (h : parseOf s = some x) (w : World) (hE : Env w) (hl : s.length < 4294967281) :
    Calls Tryd.prog 17 #[.string (txt s)] w fun e w' => e = .returned (.tuple #[.agg #[.int .u8 (x.k : Int), .int .u64 (x.d : Int), .int .u64 (x.n : Int), .int .u64 (x.p : Int), .int .u64 (x.i : Int), .int .u64 (x.c : Int)], .bool true]) ∧ Below w.heap.size w w' := by
  refine (parse_any s w hE hl).mono ?_
  rintro e w' ⟨hn, hb⟩
  unfold ParseAns at hn
  rw [h] at hn
  exact ⟨hn, hb⟩
theorem parse_no (s : List UInt8) (h : parseOf s = none) (w : World) (hE : Env w) (hl : s.length < 4294967281) :
    Calls Tryd.prog 17 #[.string (txt s)] w fun e w' => e = .returned (.tuple #[.agg #[.int .u8 0, .int .u64 0, .int .u64 0, .int .u64 0, .int .u64 0, .int .u64 0], .bool false]) ∧ Below w.heap.size w w' := by
  refine (parse_any s w hE hl).mono ?_
  rintro e w' ⟨hn, hb⟩
  unfold ParseAns at hn
  rw [h] at hn
  exact ⟨hn, hb⟩
theorem wk1 : parseOf [98, 45, 48, 45, 49, 56, 52, 52, 54, 55, 52, 52, 48, 55, 51, 55, 48, 57, 53, 53, 49, 54, 49, 53] = some ⟨2, 0, 18446744073709551615, 0, 0, 0⟩ := by decide +kernel
theorem wkS : parseOf [115, 45, 55, 45, 49, 50] = some ⟨1, 7, 12, 0, 0, 0⟩ := by decide +kernel
theorem wkJ : parseOf [106, 45, 49, 45, 50, 45, 51, 45, 52] = some ⟨4, 1, 0, 2, 3, 4⟩ := by decide +kernel
theorem wk2 : parseOf [115, 45, 48, 55, 45, 49] = none := by decide +kernel
theorem wk3 : parseOf [115, 45, 49] = none := by decide +kernel
theorem wk4 : parseOf [116, 45, 49, 45, 50, 45, 51, 45, 52] = none := by decide +kernel
theorem wk5 : parseOf [115, 45, 49, 45, 49, 56, 52, 52, 54, 55, 52, 52, 48, 55, 51, 55, 48, 57, 53, 53, 49, 54, 49, 54] = none := by decide +kernel
theorem works_slot (w : World) (hE : Env w) : Calls Tryd.prog 19 #[.int .u64 7, .int .u64 12] w fun e w' => e = .returned (.string (txt [115, 45, 55, 45, 49, 50])) ∧ Below w.heap.size w w' := by
  have h := ofSlot_any 7 12 (by decide) (by decide) w hE
  rw [(put_parse wkS).2.1] at h
  exact h
theorem works_seg (w : World) (hE : Env w) : Calls Tryd.prog 22 #[.int .u64 1, .int .u64 2, .int .u64 3, .int .u64 4] w fun e w' => e = .returned (.string (txt [106, 45, 49, 45, 50, 45, 51, 45, 52])) ∧ Below w.heap.size w w' := by
  have h := ofSeg_any 1 2 3 4 (by decide) (by decide) (by decide) (by decide) w hE
  rw [(put_parse wkJ).2.1] at h
  exact h

set_option maxHeartbeats 4000000 in
set_option maxRecDepth 100000 in
theorem works_any (w : World) (hE : Env w) : Calls Tryd.prog 16 #[] w fun e w' => e = .returned (.bool true) ∧ Below w.heap.size w w' := by
  have HE := Lib.hid hE
  clear hE
  obtain ⟨X, hX⟩ : ∃ X : Nm, Hid (X = ⟨2, 0, 18446744073709551615, 0, 0, 0⟩) := ⟨_, rfl⟩
  have H1 : Hid (parseOf [98, 45, 48, 45, 49, 56, 52, 52, 54, 55, 52, 52, 48, 55, 51, 55, 48, 57, 53, 53, 49, 54, 49, 53] = some X) := by rw [hX.out]; exact wk1
  go_enter Tryd.func16, Tryd.ntmps16
  go_upto_region 2 with (go_at_call 17; refine (parse_yes [98, 45, 48, 45, 49, 56, 52, 52, 54, 55, 52, 52, 48, 55, 51, 55, 48, 57, 53, 53, 49, 54, 49, 53] X H1.out _ HE.out (by decide)).mono ?_; rintro e w1 ⟨rfl, hb1⟩)
  obtain ⟨xk, xd, xn, xp, xi, xc⟩ := X
  have HEA : Hid (Env (w1.alloc (.cells #[.int .u8 (xk : Int), .int .u64 (xd : Int), .int .u64 (xn : Int), .int .u64 (xp : Int), .int .u64 (xi : Int), .int .u64 (xc : Int)] 24))) := (HE.out.on hb1).on (below_new _ _)
  obtain ⟨WA, hWA⟩ : ∃ W, Hid (W = w1.alloc (.cells #[.int .u8 (xk : Int), .int .u64 (xd : Int), .int .u64 (xn : Int), .int .u64 (xp : Int), .int .u64 (xi : Int), .int .u64 (xc : Int)] 24)) := ⟨_, rfl⟩
  rw [← hWA.out] at HEA ⊢
  have HBA : Hid (Below w.heap.size w WA) := by rw [hWA.out]; exact hb1.alloc hb1.size _
  have HXA : Hid (BoxNm ⟨xk, xd, xn, xp, xi, xc⟩ WA ⟨w1.heap.size, 0, none⟩) := by rw [hWA.out]; exact boxNm_new ⟨xk, xd, xn, xp, xi, xc⟩ w1 _
  go_upto_region 3 with (go_at_call 17; refine (parse_no [115, 45, 48, 55, 45, 49] wk2 _ HEA.out (by decide)).mono ?_; rintro e w2 ⟨rfl, hb2⟩)
  obtain ⟨WB, hWB⟩ : ∃ W, Hid (W = w2.alloc (.cells #[.int .u8 0, .int .u64 0, .int .u64 0, .int .u64 0, .int .u64 0, .int .u64 0] 24)) := ⟨_, rfl⟩
  rw [← hWB.out]
  have qWB : Below WA.heap.size WA WB := by rw [hWB.out]; exact hb2.alloc hb2.size _
  have HEWB : Hid (Env WB) := HEA.out.on qWB
  have HBWB : Hid (Below w.heap.size w WB) := HBA.out.trans (qWB.mono HBA.out.size)
  have HXWB : Hid (BoxNm ⟨xk, xd, xn, xp, xi, xc⟩ WB ⟨w1.heap.size, 0, none⟩) := HXA.out.keep qWB
  clear qWB hb2
  go_upto_region 4 with (go_at_call 17; refine (parse_no [115, 45, 49] wk3 _ HEWB.out (by decide)).mono ?_; rintro e w3 ⟨rfl, hb3⟩)
  obtain ⟨WC, hWC⟩ : ∃ W, Hid (W = w3.alloc (.cells #[.int .u8 0, .int .u64 0, .int .u64 0, .int .u64 0, .int .u64 0, .int .u64 0] 24)) := ⟨_, rfl⟩
  rw [← hWC.out]
  have qWC : Below WB.heap.size WB WC := by rw [hWC.out]; exact hb3.alloc hb3.size _
  have HEWC : Hid (Env WC) := HEWB.out.on qWC
  have HBWC : Hid (Below w.heap.size w WC) := HBWB.out.trans (qWC.mono HBWB.out.size)
  have HXWC : Hid (BoxNm ⟨xk, xd, xn, xp, xi, xc⟩ WC ⟨w1.heap.size, 0, none⟩) := HXWB.out.keep qWC
  clear qWC hb3
  go_upto_region 5 with (go_at_call 17; refine (parse_no [116, 45, 49, 45, 50, 45, 51, 45, 52] wk4 _ HEWC.out (by decide)).mono ?_; rintro e w4 ⟨rfl, hb4⟩)
  obtain ⟨WD, hWD⟩ : ∃ W, Hid (W = w4.alloc (.cells #[.int .u8 0, .int .u64 0, .int .u64 0, .int .u64 0, .int .u64 0, .int .u64 0] 24)) := ⟨_, rfl⟩
  rw [← hWD.out]
  have qWD : Below WC.heap.size WC WD := by rw [hWD.out]; exact hb4.alloc hb4.size _
  have HEWD : Hid (Env WD) := HEWC.out.on qWD
  have HBWD : Hid (Below w.heap.size w WD) := HBWC.out.trans (qWD.mono HBWC.out.size)
  have HXWD : Hid (BoxNm ⟨xk, xd, xn, xp, xi, xc⟩ WD ⟨w1.heap.size, 0, none⟩) := HXWC.out.keep qWD
  clear qWD hb4
  go_upto_region 6 with (go_at_call 17; refine (parse_no [115, 45, 49, 45, 49, 56, 52, 52, 54, 55, 52, 52, 48, 55, 51, 55, 48, 57, 53, 53, 49, 54, 49, 54] wk5 _ HEWD.out (by decide)).mono ?_; rintro e w5 ⟨rfl, hb5⟩)
  obtain ⟨WE, hWE⟩ : ∃ W, Hid (W = w5.alloc (.cells #[.int .u8 0, .int .u64 0, .int .u64 0, .int .u64 0, .int .u64 0, .int .u64 0] 24)) := ⟨_, rfl⟩
  rw [← hWE.out]
  have qWE : Below WD.heap.size WD WE := by rw [hWE.out]; exact hb5.alloc hb5.size _
  have HEWE : Hid (Env WE) := HEWD.out.on qWE
  have HBWE : Hid (Below w.heap.size w WE) := HBWD.out.trans (qWE.mono HBWD.out.size)
  have HXWE : Hid (BoxNm ⟨xk, xd, xn, xp, xi, xc⟩ WE ⟨w1.heap.size, 0, none⟩) := HXWD.out.keep qWE
  clear qWE hb5
  have hS : (txt [115, 45, 55, 45, 49, 50]).toList = [115, 45, 55, 45, 49, 50] := by rw [ByteArray.toList_eq]; rfl
  have hJ : (txt [106, 45, 49, 45, 50, 45, 51, 45, 52]).toList = [106, 45, 49, 45, 50, 45, 51, 45, 52] := by rw [ByteArray.toList_eq]; rfl
  have HS := Lib.hid (fun w' (hE' : Env w') => works_slot w' hE')
  have HJ := Lib.hid (fun w' (hE' : Env w') => works_seg w' hE')
  have Hk : Hid (xk = 2 ∧ xd = 0 ∧ xn = 18446744073709551615 ∧ xp = 0 ∧ xi = 0 ∧ xc = 0) := by
    have := hX.out
    simp only [Nm.mk.injEq] at this
    exact this
  obtain ⟨e0, e1, e2, e3, e4, e5⟩ := Hk.out
  subst e0 e1 e2 e3 e4 e5
  go_wp2_with (first
    | (go_at_call 19; refine (HS.out _ HEWE.out).mono ?_; rintro e wF ⟨rfl, hbF⟩)
    | (go_at_call 22
       refine (HJ.out _ (HEWE.out.on hbF)).mono ?_
       rintro e wG ⟨rfl, hbG⟩
       have hGx := (HXWE.out.keep hbF).keep hbG
       have c0 : wG.cell? ⟨w1.heap.size, 0, none⟩ = some (.int .u8 2) := hGx.c0
       have c1 : wG.cell? ⟨w1.heap.size, 1, none⟩ = some (.int .u64 0) := hGx.c1
       have c2 : wG.cell? ⟨w1.heap.size, 2, none⟩ = some (.int .u64 18446744073709551615) := hGx.c2
       have c3 : wG.cell? ⟨w1.heap.size, 3, none⟩ = some (.int .u64 0) := hGx.c3
       have c4 : wG.cell? ⟨w1.heap.size, 4, none⟩ = some (.int .u64 0) := hGx.c4
       have c5 : wG.cell? ⟨w1.heap.size, 5, none⟩ = some (.int .u64 0) := hGx.c5
       clear hGx))
  go_ret
  exact ⟨rfl, HBWE.out.trans ((hbF.trans (hbG.mono hbF.size)).mono HBWE.out.size)⟩
end Go.Proofs.YtipmpebckfaknaaDoor
