/- The walks of Get, the project's and the document's, and of same. Conditions: bytes of at most 2^40. -/
import Derived.Test.YtogoaihimepboaaKJoB
import Derived.Test.YtogoaihimepboaaKGc
import Derived.Deep.RegionHeld3
namespace Go.Proofs.Ytogoaihimepboaa
open Go.RowKit

/-- Get's answer. -/
def getJ (l : List UInt8) (p : Int) (s m : Nat) : List UInt8 × Nat :=
  if (nxJ l p).2.2 ≠ 0 then ([], (nxJ l p).2.2) else if (nxJ l p).1.length = s ∧ (sum (nxJ l p).1).toNat = m then ((nxJ l p).1, 0) else ([], 110)
theorem getJ_err {l : List UInt8} {p : Int} {s m : Nat} (h : (nxJ l p).2.2 ≠ 0) : getJ l p s m = ([], (nxJ l p).2.2) := if_pos h
theorem getJ_good {l : List UInt8} {p : Int} {s m : Nat} (h : (nxJ l p).2.2 = 0) (h1 : (nxJ l p).1.length = s) (h2 : (sum (nxJ l p).1).toNat = m) : getJ l p s m = ((nxJ l p).1, 0) := by
  unfold getJ
  rw [if_neg (by simp [h]), if_pos ⟨h1, h2⟩]
theorem getJ_ref {l : List UInt8} {p : Int} {s m : Nat} (h : (nxJ l p).2.2 = 0) (h1 : ¬ ((nxJ l p).1.length = s ∧ (sum (nxJ l p).1).toNat = m)) : getJ l p s m = ([], 110) := by
  unfold getJ
  rw [if_neg (by simp [h]), if_neg h1]
theorem nxJ_lt (b : List UInt8) (p : Int) : (nxJ b p).1.length ≤ 140737488351232 := Nat.le_trans (nxJ_len b p) (by decide)

set_option maxHeartbeats 1000000 in
set_option maxRecDepth 100000 in
theorem get_any (A : Option Addr) (c B n : Nat) (l : List UInt8) (p : Int) (s m : Nat) (w : World) (hn : l.length = n) (hl : n ≤ 1099511627776) (hcap : n ≤ c) (hB : B ≤ w.heap.size) (hr : RdB w B A l) :
    Calls Try.prog 11 #[.slice A n c, .int .i64 p, rfV s m] w fun e w' => BytesErr w.heap.size (getJ l p s m) e w' ∧ Below w.heap.size w w' := by
  have hnI : (n : Int) ≤ 1099511627776 := by omega
  obtain ⟨M, nx, er, ht⟩ : ∃ M nx e, nxJ l p = (M, nx, e) := ⟨_, _, _, rfl⟩
  have Ht := Lib.hid ht
  have hM := nxJ_lt l p
  rw [ht] at hM
  simp only at hM
  have hMI : (M.length : Int) ≤ 140737488351232 := by omega
  have HM := Lib.hid hM
  obtain ⟨W, hW⟩ : ∃ W, Hid (w.alloc (.cells #[.int .u64 (s : Int), .int .u64 (m : Int)] 25) = W) := ⟨_, rfl⟩
  obtain ⟨g, hg⟩ : ∃ g, Hid (w.heap.size = g) := ⟨_, rfl⟩
  have hbW : Hid (Below w.heap.size w W) := by rw [← hW.out]; exact (Below.refl _ _).alloc (Nat.le_refl _) _
  have hbx : Hid (W.heap[g]? = some (.cells #[.int .u64 (s : Int), .int .u64 (m : Int)] 25 (0, 0))) := by rw [← hW.out, ← hg.out]; exact heap_alloc_new w _
  have hgW : Hid (g < W.heap.size) := by rw [← hW.out, ← hg.out]; show _ < _; simp
  have HBW := Lib.hid (Nat.le_trans hB hbW.out.size)
  have hT := next_any A c B n l p W hn hl hcap (Nat.le_trans hB hbW.out.size) (hr.below (hbW.out.mono hB))
  have HT := Lib.hid hT
  have hc := two_cells hbx.out
  obtain ⟨hc0, hc1⟩ := hc
  unfold rfV
  clear hr hl hcap hB hn hT hM
  by_cases he : er = 0
  · subst he
    obtain ⟨S, hS⟩ : ∃ S, (sum M).toNat = S := ⟨_, rfl⟩
    have hof : Hid (∀ (w3 : World) (A3 : Option Addr) (c3 B3 : Nat), B3 ≤ w3.heap.size → RdB w3 B3 A3 M → Calls Try.prog 27 #[.slice A3 M.length c3] w3 fun e w' => e = .returned (.agg #[.int .u64 (M.length : Int), .int .u64 (S : Int)]) ∧ Below w3.heap.size w3 w') := fun w3 A3 c3 B3 h1 h2 => by
      have := of_any A3 c3 B3 M.length M w3 rfl HM.out h1 h2
      unfold ofV rfV at this
      rw [hS] at this
      exact this
    by_cases hk : M.length = s ∧ (sum M).toNat = m
    · have hv := Lib.hid (getJ_good (l := l) (p := p) (s := s) (m := m) (by rw [ht]) (by rw [ht]; exact hk.1) (by rw [ht]; exact hk.2))
      rw [hv.out, ht]
      simp only
      have h1 : s = M.length := hk.1.symm
      have h2 : S = m := by rw [← hS]; exact hk.2
      subst h1 h2
      clear ht hv hS hk
      go_enter Try.func11, Try.ntmps11
      go_upto_region 1 with fail
      rw [hg.out, hW.out]
      go_upto_region 4 with (go_at_call 9; refine HT.out.mono ?_; rintro e w2 ⟨⟨v2, rfl, hown2⟩, hb2⟩; rw [Ht.out] at hown2 ⊢; simp only at hown2 ⊢; obtain ⟨A2, c2, rfl, _, _, hr2⟩ := own_form hown2; have Hown2 := Lib.hid hown2; have Hr2 := Lib.hid hr2; have Hb2 := Lib.hid hb2; clear hown2 hb2 hr2)
      have HS : Hid (∀ wx, Below w2.heap.size w2 wx → wx.cell? ⟨g, 0, none⟩ = some (.int .u64 (M.length : Int)) ∧ wx.cell? ⟨g, 1, none⟩ = some (.int .u64 (S : Int))) := by
        intro wx hx
        have h1 := hgW.out
        have h2 := Hb2.out.size
        exact two_cells ((hx.block g (by omega)).trans ((Hb2.out.block g hgW.out).trans hbx.out))
      have hbd : Hid (Below w2.heap.size w2 w2.drew) := (Below.refl _ _).drew
      clear hc0 hc1 hnI
      go_region_held3 (fun wx => wx.cell? ⟨g, 0, none⟩ = some (.int .u64 (M.length : Int)) ∧ wx.cell? ⟨g, 1, none⟩ = some (.int .u64 (S : Int))) (first | exact HS.out _ Hb3.out | exact HS.out _ hbd.out) (first | (go_at_call 27; refine (hof.out w2.drew A2 c2 w2.heap.size (Nat.le_refl _) Hr2.out).mono ?_; rintro e w3 ⟨rfl, hb3⟩; have Hb3 := Lib.hid (hbd.out.trans (hb3.mono hbd.out.size)); clear hb3))
      all_goals
        have hbb := Lib.hid ((hbW.out.trans (Hb2.out.mono hbW.out.size)).trans (Hb3.out.mono (Nat.le_trans hbW.out.size Hb2.out.size)))
        go_wp2
        go_ret2
        exact ⟨⟨_, rfl, own_mono (own_below Hown2.out Hb3.out (Nat.le_refl _)) hbW.out.size⟩, hbb.out⟩
    · have hv := Lib.hid (getJ_ref (l := l) (p := p) (s := s) (m := m) (by rw [ht]) (by rw [ht]; exact hk))
      rw [hv.out]
      by_cases h1 : M.length = s
      · have h2 : S ≠ m := fun e => hk ⟨h1, by rw [hS]; exact e⟩
        have h2I : ¬ (S : Int) = (m : Int) := by omega
        have h2d : ((S : Int) == (m : Int)) = false := by rw [beq_eq_false_iff_ne]; exact h2I
        have h2n : (S == m) = false := by rw [beq_eq_false_iff_ne]; exact h2
        subst h1
        clear ht hv hS hk
        go_enter Try.func11, Try.ntmps11
        go_upto_region 1 with fail
        rw [hg.out, hW.out]
        go_upto_region 4 with (go_at_call 9; refine HT.out.mono ?_; rintro e w2 ⟨⟨v2, rfl, hown2⟩, hb2⟩; rw [Ht.out] at hown2 ⊢; simp only at hown2 ⊢; obtain ⟨A2, c2, rfl, _, _, hr2⟩ := own_form hown2; have Hown2 := Lib.hid hown2; have Hr2 := Lib.hid hr2; have Hb2 := Lib.hid hb2; clear hown2 hb2 hr2)
        have HS : Hid (∀ wx, Below w2.heap.size w2 wx → wx.cell? ⟨g, 0, none⟩ = some (.int .u64 (M.length : Int)) ∧ wx.cell? ⟨g, 1, none⟩ = some (.int .u64 (m : Int))) := by
          intro wx hx
          have h1 := hgW.out
          have h2 := Hb2.out.size
          exact two_cells ((hx.block g (by omega)).trans ((Hb2.out.block g hgW.out).trans hbx.out))
        have hbd : Hid (Below w2.heap.size w2 w2.drew) := (Below.refl _ _).drew
        clear hc0 hc1 hnI
        go_region_held3 (fun wx => wx.cell? ⟨g, 0, none⟩ = some (.int .u64 (M.length : Int)) ∧ wx.cell? ⟨g, 1, none⟩ = some (.int .u64 (m : Int))) (first | exact HS.out _ Hb3.out | exact HS.out _ hbd.out) (first | (go_at_call 27; refine (hof.out w2.drew A2 c2 w2.heap.size (Nat.le_refl _) Hr2.out).mono ?_; rintro e w3 ⟨rfl, hb3⟩; have Hb3 := Lib.hid (hbd.out.trans (hb3.mono hbd.out.size)); clear hb3))
        all_goals
          have hbb := Lib.hid ((hbW.out.trans (Hb2.out.mono hbW.out.size)).trans (Hb3.out.mono (Nat.le_trans hbW.out.size Hb2.out.size)))
          go_wp2
          go_ret2
          exact ⟨⟨_, rfl, World.ownsRow_nil _ _ _ _⟩, hbb.out⟩
      · have h2I : ¬ (M.length : Int) = (s : Int) := by omega
        have h2d : ((M.length : Int) == (s : Int)) = false := by rw [beq_eq_false_iff_ne]; exact h2I
        have h2n : (M.length == s) = false := by rw [beq_eq_false_iff_ne]; exact h1
        clear ht hv hS hk
        go_enter Try.func11, Try.ntmps11
        go_upto_region 1 with fail
        rw [hg.out, hW.out]
        go_upto_region 4 with (go_at_call 9; refine HT.out.mono ?_; rintro e w2 ⟨⟨v2, rfl, hown2⟩, hb2⟩; rw [Ht.out] at hown2 ⊢; simp only at hown2 ⊢; obtain ⟨A2, c2, rfl, _, _, hr2⟩ := own_form hown2; have Hown2 := Lib.hid hown2; have Hr2 := Lib.hid hr2; have Hb2 := Lib.hid hb2; clear hown2 hb2 hr2)
        have HS : Hid (∀ wx, Below w2.heap.size w2 wx → wx.cell? ⟨g, 0, none⟩ = some (.int .u64 (s : Int)) ∧ wx.cell? ⟨g, 1, none⟩ = some (.int .u64 (m : Int))) := by
          intro wx hx
          have h1 := hgW.out
          have h2 := Hb2.out.size
          exact two_cells ((hx.block g (by omega)).trans ((Hb2.out.block g hgW.out).trans hbx.out))
        have hbd : Hid (Below w2.heap.size w2 w2.drew) := (Below.refl _ _).drew
        clear hc0 hc1 hnI
        go_region_held3 (fun wx => wx.cell? ⟨g, 0, none⟩ = some (.int .u64 (s : Int)) ∧ wx.cell? ⟨g, 1, none⟩ = some (.int .u64 (m : Int))) (first | exact HS.out _ Hb3.out | exact HS.out _ hbd.out) (first | (go_at_call 27; refine (hof.out w2.drew A2 c2 w2.heap.size (Nat.le_refl _) Hr2.out).mono ?_; rintro e w3 ⟨rfl, hb3⟩; have Hb3 := Lib.hid (hbd.out.trans (hb3.mono hbd.out.size)); clear hb3))
        all_goals
          have hbb := Lib.hid ((hbW.out.trans (Hb2.out.mono hbW.out.size)).trans (Hb3.out.mono (Nat.le_trans hbW.out.size Hb2.out.size)))
          go_wp2
          go_ret2
          exact ⟨⟨_, rfl, World.ownsRow_nil _ _ _ _⟩, hbb.out⟩
  · have heI : ((er : Int) != 0) = true := by rw [bne_iff_ne]; omega
    have heN : (er != 0) = true := by rw [bne_iff_ne]; exact he
    have hv := Lib.hid (getJ_err (l := l) (p := p) (s := s) (m := m) (by rw [ht]; exact he))
    rw [hv.out, ht]
    simp only
    clear ht hv he
    go_enter Try.func11, Try.ntmps11
    go_upto_region 1 with fail
    rw [hg.out, hW.out]
    go_wp2_with (go_at_call 9; refine HT.out.mono ?_; rintro e w2 ⟨⟨v2, rfl, hown2⟩, hb2⟩; rw [Ht.out] at hown2 ⊢; simp only at hown2 ⊢; obtain ⟨A2, c2, rfl, _, _, hr2⟩ := own_form hown2; have Hown2 := Lib.hid hown2; have Hr2 := Lib.hid hr2; have Hb2 := Lib.hid hb2; clear hown2 hb2 hr2)
    go_ret2
    exact ⟨⟨_, rfl, World.ownsRow_nil _ _ _ _⟩, hbW.out.trans (Hb2.out.mono hbW.out.size)⟩

end Go.Proofs.Ytogoaihimepboaa
