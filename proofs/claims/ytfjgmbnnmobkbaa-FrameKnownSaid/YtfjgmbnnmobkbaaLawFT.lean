/- The walk of FrameTakes: whatever the bytes and the place, it returns true. Conditions: none. -/
import Derived.Test.YtfjgmbnnmobkbaaFrW
namespace Go.Proofs.Ytfjgmbnnmobkbaa
open Go.RowKit

/-- A variable of a frame: its block's cells. -/
abbrev BoxAt (w : World) (g : Nat) (k : UInt8) (v : Value) (t : TypeId) : Prop := w.heap[g]? = some (.cells #[.int .u8 (k.toNat : Int), v] t (0, 0))

theorem takeF_len (l : List UInt8) (p : Int) : (takeF l p).1.2.length ≤ 65535 := by
  by_cases h : (takeF l p).2.2 = 0
  · obtain ⟨_, _, _, _, h3, _, _⟩ := takeF_ok h
    exact h3
  · rw [takeF_err h]
    simp
theorem oneF_len (l : List UInt8) : (oneF l).1.2.length ≤ 65535 := by
  unfold oneF
  split
  · simp
  · split
    · simp
    · exact takeF_len l 0
theorem BoxAt.on {w w' : World} {g : Nat} {k : UInt8} {v : Value} {t : TypeId} (h : BoxAt w g k v t) (hb : Below w.heap.size w w') (hg : g < w.heap.size) : BoxAt w' g k v t := (hb.block g hg).trans h

set_option maxHeartbeats 4000000 in
set_option maxRecDepth 100000 in
theorem takesLaw_any (A : Option Addr) (c : Nat) (l : List UInt8) (p : Int) (w : World) (hl : l.length ≤ 9223372036854775807) (hcap : l.length ≤ c) (hr : RdB w w.heap.size A l) :
    Calls Try.prog 4 #[.slice A l.length c, .int .i64 p] w fun e w' => e = .returned (.bool true) ∧ Below w.heap.size w w' := by
  have hlI : (l.length : Int) ≤ 9223372036854775807 := by omega
  by_cases hbig : 2000 < l.length
  · have hbI : (2000 : Int) < (l.length : Int) := by omega
    clear hbig hl
    go_enter Try.func4, Try.ntmps4
    go_wp2_with fail
    refine (worksF_any _).mono ?_
    rintro e w1 ⟨rfl, hb⟩
    go_wp2
    go_ret
    exact ⟨rfl, hb⟩
  have hbI : (l.length : Int) ≤ 2000 := by omega
  have Hl := Lib.hid (show l.length ≤ 1099511627776 by omega)
  have Hl' := Lib.hid (show l.length ≤ 140737488351232 by omega)
  clear hbig hl hlI
  go_enter Try.func4, Try.ntmps4
  go_wp2_with fail
  refine (own_any A c w.heap.size l w Hl'.out hr).mono ?_
  rintro e w1 ⟨v1, rfl, hown1, E1⟩
  obtain ⟨A1, c1, rfl, hcc, _, hr1⟩ := own_form hown1
  have Hr : Hid (RdB w w.heap.size A l) := hr
  have Hr1 : Hid (RdB w1 w1.heap.size A1 l) := hr1
  have Hown1 := Lib.hid hown1
  have Hcap := Lib.hid hcap
  have Hcc : Hid (l.length ≤ c1) := hcc
  -- what the takes answer, by letters
  obtain ⟨⟨fk, M⟩, fn, fe, hf⟩ : ∃ f n e, takeF l p = (f, n, e) := ⟨_, _, _, rfl⟩
  obtain ⟨⟨ok, O⟩, oe, ho⟩ : ∃ f e, oneF l = (f, e) := ⟨_, _, rfl⟩
  have Hf := Lib.hid hf
  have Ho := Lib.hid ho
  clear hr hr1 hown1 hcap hcc hf ho
  -- Take(b, at)
  go_wp2_with fail
  refine (frTake_any A c w.heap.size l p w1 Hl.out Hcap.out E1.size (Reads.below Hr.out E1)).mono ?_
  rintro e w2 ⟨⟨v2, rfl, hown2⟩, hb2⟩
  rw [Hf.out] at hown2 ⊢
  simp only at hown2 ⊢
  obtain ⟨A2, c2, rfl, _, _, _⟩ := own_form hown2
  obtain ⟨W2, hW2⟩ : ∃ W2 : World, W2 = w2.alloc (.cells #[.int .u8 (fk.toNat : Int), .slice A2 M.length c2] 26) := ⟨_, rfl⟩
  have X2 : Hid (BoxAt W2 w2.heap.size fk (.slice A2 M.length c2) 26) := by rw [hW2]; exact heap_alloc_new _ _
  have O2 : Hid (W2.ownsRow w1.heap.size 5 1 (.slice A2 M.length c2) M.length (bs M)) := by rw [hW2]; exact hown2.alloc _
  have S1 : Below w1.heap.size w1 W2 := by rw [hW2]; exact hb2.alloc hb2.size _
  have Z2 := Lib.hid (show W2.heap.size = w2.heap.size + 1 by rw [hW2]; simp)
  have Y2 := Lib.hid (hb2.size)
  have HW2 := Lib.hid hW2
  have E2 := E1.trans (S1.mono E1.size)
  clear hW2 hown2 hb2
  -- the document's Take
  go_wp2_with fail
  rw [← HW2.out]
  refine (refFrTake_any A1 c1 w1.heap.size l p W2 Hl.out Hcc.out S1.size (Reads.below Hr1.out S1)).mono ?_
  rintro e w3 ⟨⟨v3, rfl, hown3⟩, hb3⟩
  rw [Hf.out] at hown3 ⊢
  simp only at hown3 ⊢
  obtain ⟨A3, c3, rfl, _, _, hr3⟩ := own_form hown3
  obtain ⟨W3, hW3⟩ : ∃ W3 : World, W3 = w3.alloc (.cells #[.int .u8 (fk.toNat : Int), .slice A3 M.length c3] 38) := ⟨_, rfl⟩
  have X3 : Hid (BoxAt W3 w3.heap.size fk (.slice A3 M.length c3) 38) := by rw [hW3]; exact heap_alloc_new _ _
  have R3 : Hid (RdB W3 w3.heap.size A3 M) := by rw [hW3]; exact Reads.alloc hr3 (Nat.le_refl _) _
  have S2 : Below W2.heap.size W2 W3 := by rw [hW3]; exact hb3.alloc hb3.size _
  have Z3 := Lib.hid (show W3.heap.size = w3.heap.size + 1 by rw [hW3]; simp)
  have HW3 := Lib.hid hW3
  have E3 := E2.trans (S2.mono E2.size)
  have G3 := S1.trans (S2.mono S1.size)
  clear hW3 hown3 hb3 hr3
  -- All(b)
  go_wp2_with fail
  rw [← HW3.out]
  refine (frAll_any A c w.heap.size l W3 Hl.out Hcap.out E3.size (Reads.below Hr.out E3)).mono ?_
  rintro e W4 ⟨⟨v4, own4, g4, rfl, hO4, hA4, _, hn4, hs4⟩, S3⟩
  obtain ⟨A4, c4, rfl, hcc4, hR4⟩ := hO4.reads
  have R4 := Lib.hid hR4.top
  have R4' := Lib.hid hR4.row
  have HA4 := Lib.hid hA4
  have Hn4 := Lib.hid hn4
  have Hs4 := Lib.hid hs4
  have E4 := E3.trans (S3.mono E3.size)
  have G4 := G3.trans (S3.mono G3.size)
  clear hO4 hA4 hn4 hs4 hR4 hcc4
  -- the document's All
  go_wp2_with fail
  refine (refFrAll_any A1 c1 w1.heap.size l W4 Hl.out Hcc.out G4.size (Reads.below Hr1.out G4)).mono ?_
  rintro e W5 ⟨⟨v5, own5, g5, rfl, hO5, hA5, _, hn5, hs5⟩, S4⟩
  obtain ⟨A5, c5, rfl, hcc5, hR5⟩ := hO5.reads
  have R5 := Lib.hid hR5.top
  have R5' := Lib.hid hR5.row
  have Hn5 := Lib.hid hn5
  obtain ⟨hfk, rfl⟩ := allF_one HA4.out hA5
  have Hfk := Lib.hid hfk
  have E5 := E4.trans (S4.mono E4.size)
  have G5 := G4.trans (S4.mono G4.size)
  clear hO5 hA5 hn5 hs5 hR5 hcc5 hfk
  -- One(b)
  go_wp2_with fail
  refine (frOne_any A c w.heap.size l W5 Hl.out Hcap.out E5.size (Reads.below Hr.out E5)).mono ?_
  rintro e w6 ⟨⟨v6, rfl, hown6⟩, hb6⟩
  rw [Ho.out] at hown6 ⊢
  simp only at hown6 ⊢
  obtain ⟨A6, c6, rfl, _, _, _⟩ := own_form hown6
  obtain ⟨W6, hW6⟩ : ∃ W6 : World, W6 = w6.alloc (.cells #[.int .u8 (ok.toNat : Int), .slice A6 O.length c6] 26) := ⟨_, rfl⟩
  have X6 : Hid (BoxAt W6 w6.heap.size ok (.slice A6 O.length c6) 26) := by rw [hW6]; exact heap_alloc_new _ _
  have O6 : Hid (W6.ownsRow W5.heap.size 5 1 (.slice A6 O.length c6) O.length (bs O)) := by rw [hW6]; exact hown6.alloc _
  have S5 : Below W5.heap.size W5 W6 := by rw [hW6]; exact hb6.alloc hb6.size _
  have Z6 := Lib.hid (show W6.heap.size = w6.heap.size + 1 by rw [hW6]; simp)
  have Y6 := Lib.hid (hb6.size)
  have HW6 := Lib.hid hW6
  have E6 := E5.trans (S5.mono E5.size)
  have G6 := G5.trans (S5.mono G5.size)
  clear hW6 hown6 hb6
  -- the document's One
  go_wp2_with fail
  rw [← HW6.out]
  refine (refFrOne_any A1 c1 w1.heap.size l W6 Hl.out Hcc.out G6.size (Reads.below Hr1.out G6)).mono ?_
  rintro e w7 ⟨⟨v7, rfl, hown7⟩, hb7⟩
  rw [Ho.out] at hown7 ⊢
  simp only at hown7 ⊢
  obtain ⟨A7, c7, rfl, _, _, hr7⟩ := own_form hown7
  obtain ⟨W7, hW7⟩ : ∃ W7 : World, W7 = w7.alloc (.cells #[.int .u8 (ok.toNat : Int), .slice A7 O.length c7] 38) := ⟨_, rfl⟩
  have X7 : Hid (BoxAt W7 w7.heap.size ok (.slice A7 O.length c7) 38) := by rw [hW7]; exact heap_alloc_new _ _
  have R7 : Hid (RdB W7 w7.heap.size A7 O) := by rw [hW7]; exact Reads.alloc hr7 (Nat.le_refl _) _
  have S6 : Below W6.heap.size W6 W7 := by rw [hW7]; exact hb7.alloc hb7.size _
  have Z7 := Lib.hid (show W7.heap.size = w7.heap.size + 1 by rw [hW7]; simp)
  have HW7 := Lib.hid hW7
  have E7 := E6.trans (S6.mono E6.size)
  -- from each of the worlds on
  have D5 := S5.trans (S6.mono S5.size)
  have D4 := S4.trans (D5.mono S4.size)
  have D3 := S3.trans (D4.mono S3.size)
  have D2 := S2.trans (D3.mono S2.size)
  have D1 := S1.trans (D2.mono S1.size)
  have HE1 := Lib.hid E1.size
  have HZ := Lib.hid (show w1.heap.size ≤ W2.heap.size ∧ W2.heap.size ≤ W3.heap.size ∧ W3.heap.size ≤ W4.heap.size ∧ W4.heap.size ≤ W5.heap.size ∧ W5.heap.size ≤ W6.heap.size ∧ W6.heap.size ≤ W7.heap.size from ⟨S1.size, S2.size, S3.size, S4.size, S5.size, S6.size⟩)
  clear hW7 hown7 hb7 hr7 E1 E2 E3 E4 E5 E6 G3 G4 G5 G6 S3 S4 S5
  have H1 := Lib.hid D1
  have H2 := Lib.hid D2
  have H3 := Lib.hid D3
  have H4 := Lib.hid D4
  have H5 := Lib.hid D5
  have H6 := Lib.hid S6
  have HE := Lib.hid E7
  have HS1 := Lib.hid S1.size
  have HS2 := Lib.hid S2.size
  clear D1 D2 D3 D4 D5 S1 S2 S6 E7
  have hMl : M.length ≤ 65535 := by have := takeF_len l p; rw [Hf.out] at this; exact this
  have hOl : O.length ≤ 65535 := by have := oneF_len l; rw [Ho.out] at this; exact this
  have HMl := Lib.hid hMl
  have HOl := Lib.hid hOl
  -- at the last of the answers
  have P2 := X2.out.on H2.out (by have := Z2.out; omega)
  have P3 := X3.out.on H3.out (by have := Z3.out; omega)
  have P6 := X6.out.on H6.out (by have := Z6.out; omega)
  have Q2 := own_below O2.out H2.out (Nat.le_refl _)
  have Q6 := own_below O6.out H6.out (Nat.le_refl _)
  obtain ⟨A2', c2', e2, _, _, L2⟩ := own_form Q2
  obtain ⟨A6', c6', e6, _, _, L6⟩ := own_form Q6
  simp only [Value.slice.injEq, true_and] at e2 e6
  obtain ⟨rfl, rfl⟩ := e2
  obtain ⟨rfl, rfl⟩ := e6
  have L3 := Reads.below R3.out (H3.out.mono (by have := Z3.out; omega))
  have HP2 := Lib.hid P2
  have HP6 := Lib.hid P6
  have HQ2 := Lib.hid Q2
  have HQ6 := Lib.hid Q6
  have HL2 : Hid (RdB W7 W7.heap.size A2 M) := L2
  have HL6 : Hid (RdB W7 W7.heap.size A6 O) := L6
  have HL3 : Hid (RdB W7 w3.heap.size A3 M) := L3
  have HR4 : Hid (RdF W7 W4.heap.size A4 own4) := RdF.below ⟨R4.out, R4'.out⟩ H4.out
  have HR5 : Hid (RdF W7 W5.heap.size A5 own5) := RdF.below ⟨R5.out, R5'.out⟩ H5.out
  have HZ3 := Lib.hid (show w3.heap.size ≤ W7.heap.size by have := Z3.out; have := H3.out.size; omega)
  obtain ⟨a1, a2⟩ := two_cells P2
  obtain ⟨a3, a4⟩ := two_cells P3
  rw [HW7.out] at a1 a2 a3 a4
  clear P2 P3 P6 Q2 Q6 L2 L6 L3 hMl hOl
  go_wp2_with fail
  clear a1 a2 a3 a4
  rw [← HW7.out]
  refine (same_any ⟨fk, ⟨A2, c2, M⟩⟩ ⟨fk, ⟨A3, c3, M⟩⟩ W7.heap.size w3.heap.size W7 (by have := HMl.out; simp only; omega) (Nat.le_refl _) HZ3.out HL2.out HL3.out).mono ?_
  rintro e w8 ⟨rfl, S7⟩
  rw [decide_eq_true (rfl : (fk, M) = (fk, M))]
  go_wp2_with fail
  refine (sameAll_any A4 A5 c4 c5 W4.heap.size W5.heap.size own4 own5 w8 (by have := Hn4.out; have := Hl.out; omega) (by have := Hn5.out; have := Hl.out; omega) (fun f hf => by have := Hs4.out f hf; omega) (Nat.le_trans H4.out.size S7.size) (Nat.le_trans H5.out.size S7.size) (HR4.out.below (S7.mono H4.out.size)) (HR5.out.below (S7.mono H5.out.size))).mono ?_
  rintro e w9 ⟨rfl, S8⟩
  rw [decide_eq_true Hfk.out]
  have T9 := S7.trans (S8.mono S7.size)
  obtain ⟨a1, a2⟩ := two_cells (HP6.out.on T9 (by have := Z6.out; have := H6.out.size; omega))
  obtain ⟨a3, a4⟩ := two_cells (X7.out.on T9 (by have := Z7.out; omega))
  clear S7 S8
  go_wp2_with fail
  clear a1 a2 a3 a4
  refine (same_any ⟨ok, ⟨A6, c6, O⟩⟩ ⟨ok, ⟨A7, c7, O⟩⟩ W7.heap.size w7.heap.size w9 (by have := HOl.out; simp only; omega) T9.size (by have := T9.size; have := Z7.out; omega) (Reads.below HL6.out T9) (Reads.below R7.out (T9.mono (by have := Z7.out; omega)))).mono ?_
  rintro e w10 ⟨rfl, S9⟩
  rw [decide_eq_true (rfl : (ok, O) = (ok, O))]
  have T10 := T9.trans (S9.mono T9.size)
  have E10 := HE.out.trans (T10.mono HE.out.size)
  obtain ⟨a1, a2⟩ := two_cells (HP2.out.on T10 (by have := Z2.out; have := H2.out.size; omega))
  have Q2 := own_below HQ2.out T10 (Nat.le_refl _)
  have Q6 := own_below HQ6.out T10 (Nat.le_refl _)
  have P6 := HP6.out.on T10 (by have := Z6.out; have := H6.out.size; omega)
  have K := Reads.below Hr.out E10
  have K1 := Reads.below Hr1.out (H1.out.trans (T10.mono H1.out.size))
  have hw16 : w1.heap.size ≤ W5.heap.size := by obtain ⟨z1, z2, z3, z4, z5, z6⟩ := HZ.out; omega
  have Hlt2 := Lib.hid Q2.lt
  have Hlt6 := Lib.hid Q6.lt
  have HP6' := Lib.hid P6
  have HQ2' := Lib.hid Q2
  have HQ6' := Lib.hid Q6
  have HK : Hid (RdB w10 w.heap.size A l) := K
  have HK1 : Hid (RdB w10 w1.heap.size A1 l) := K1
  have HE10 := Lib.hid E10
  have Hw16 := Lib.hid hw16
  have HT10 := Lib.hid T10
  clear T9 S9 T10 E10 P6 K K1 hw16
  go_wp2_with fail
  clear a1 a2
  refine (spoil_any w1.heap.size M.length _ (bs M) w10 (by have := HMl.out; omega) HQ2'.out).mono ?_
  rintro e w11 ⟨rfl, _, hg11⟩
  have hz11 := hg11.size
  have P6 : BoxAt w11 w6.heap.size ok (.slice A6 O.length c6) 26 := (hg11.block w6.heap.size (by have := Z6.out; have := H6.out.size; have := HT10.out.size; omega) (by
    intro e'
    have h2 := (O2.out.lt _ e'.symm).2
    have := Y6.out
    obtain ⟨z1, z2, z3, z4, z5, z6⟩ := HZ.out
    omega)).trans HP6'.out
  have Q6' := HQ6'.out.kept hg11 (by
    rcases ho : Value.ownBlock (.slice A6 O.length c6) with _ | g
    · exact .inl rfl
    · right
      intro e
      have h1 := (HQ6'.out.lt g ho).1
      have h2 := (O2.out.lt g e.symm).2
      obtain ⟨z1, z2, z3, z4, z5, z6⟩ := HZ.out
      omega)
  have hw2 : ∀ g, Value.ownBlock (.slice A2 M.length c2) = some g → w.heap.size ≤ g := fun g hg => by have := (HQ2'.out.lt g hg).1; have := HE1.out; omega
  have hw2' : ∀ g, Value.ownBlock (.slice A2 M.length c2) = some g → w1.heap.size ≤ g := fun g hg => (HQ2'.out.lt g hg).1
  have K := HK.out.grown hg11 HE10.out.size hw2
  have K1 := HK1.out.grown hg11 (Nat.le_trans H1.out.size HT10.out.size) hw2'
  have E11 := HE10.out.grown hg11 HE10.out.size hw2
  obtain ⟨a1, a2⟩ := two_cells P6
  have HK' : Hid (RdB w11 w.heap.size A l) := K
  have HK1' : Hid (RdB w11 w1.heap.size A1 l) := K1
  have HE11 := Lib.hid E11
  have HQ6'' := Lib.hid Q6'
  have Hz11 := Lib.hid hz11
  clear P6 Q6' hw2 hw2' K K1 E11 hg11 hz11
  go_wp2_with fail
  clear a1 a2
  refine (spoil_any W5.heap.size O.length _ (bs O) w11 (by have := HOl.out; omega) HQ6''.out).mono ?_
  rintro e w12 ⟨rfl, _, hg12⟩
  have hw2 : ∀ g, Value.ownBlock (.slice A6 O.length c6) = some g → w.heap.size ≤ g := fun g hg => by have := (HQ6''.out.lt g hg).1; have := HE1.out; obtain ⟨z1, z2, z3, z4, z5, z6⟩ := HZ.out; omega
  have hw2' : ∀ g, Value.ownBlock (.slice A6 O.length c6) = some g → w1.heap.size ≤ g := fun g hg => by have := (HQ6''.out.lt g hg).1; obtain ⟨z1, z2, z3, z4, z5, z6⟩ := HZ.out; omega
  have K := HK'.out.grown hg12 HE11.out.size hw2
  have K1 := HK1'.out.grown hg12 (Nat.le_trans (Nat.le_trans H1.out.size HT10.out.size) Hz11.out) hw2'
  have E12 := HE11.out.grown hg12 HE11.out.size hw2
  clear hw2 hw2' hg12
  go_wp2_with fail
  refine (sameBytes_any A A1 c c1 w.heap.size w1.heap.size l l w12 Hl'.out K K1).mono ?_
  rintro e w13 ⟨rfl, n13, hw13⟩
  have E13 : Below w.heap.size w w13 := by rw [hw13]; exact below_drewN E12 n13
  rw [decide_eq_true (rfl : l = l)]
  clear hw13 K K1 E12
  go_wp2_with fail
  refine (worksF_any _).mono ?_
  rintro e w14 ⟨rfl, hb14⟩
  go_wp2
  go_ret
  exact ⟨rfl, E13.trans (hb14.mono E13.size)⟩
end Go.Proofs.Ytfjgmbnnmobkbaa
