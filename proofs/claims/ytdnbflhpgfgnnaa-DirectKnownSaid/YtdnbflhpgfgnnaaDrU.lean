/- The reference's Add, Remove, Fail. Conditions: at most 1000 operations. -/
import Derived.Test.YtdnbflhpgfgnnaaDrT
namespace Go.Proofs.Ytdnbflhpgfgnnaa
open Go.RowKit

section
variable {X : Nat → Prop} {v : Value} {s : St} {w : World}
/-- The receiver lies apart from the answer's block. -/
theorem RefV.apart (h : RefV w X v s) (b : Nat) (hb : w.heap.size ≤ b) : RefV w (fun x => x = b ∨ X x) v s := by
  obtain ⟨A, n, A', n', e, h1, h2⟩ := h.v
  refine ⟨A, n, A', n', e, ?_, ?_⟩
  · exact h1.mono fun x hx e => by
      rcases e with e | e
      · omega
      · exact e
  · exact h2.mono fun x hx e => by
      rcases e with e | e
      · omega
      · exact e
end
/-- What the frame holds: the receiver's box, the answer's. -/
structure Fr2 (w : World) (X : Nat → Prop) (v : Value) (s : St) (p q : Value) (bx bz : Nat) (W : World) : Prop where
  bel : Below w.heap.size w W
  cx : W.heap[bx]? = some (.cells #[p, q] 30 (0, 0))
  cz : W.heap[bz]? = some (.cells #[.slice none 0 0, .slice none 0 0] 30 (0, 0))
  ref : RefV W (fun b => b = bz ∨ X b) v s
  low : w.heap.size ≤ bz
theorem Fr2.new {X : Nat → Prop} {s : St} {w : World} {p q : Value} (h : RefV w X (.agg #[p, q]) s) : Fr2 w X (.agg #[p, q]) s p q w.heap.size (w.heap.size + 1) ((w.alloc (.cells #[p, q] 30)).alloc (.cells #[.slice none 0 0, .slice none 0 0] 30)) := by
  have hb : Below w.heap.size w ((w.alloc (.cells #[p, q] 30)).alloc (.cells #[.slice none 0 0, .slice none 0 0] 30)) := (below_new _ _).alloc (by simp) _
  refine ⟨hb, ?_, ?_, (h.apart _ (by omega)).below hb, by omega⟩
  · refine heap_alloc_old _ _ (by simp) |>.trans ?_
    exact heap_alloc_new _ _
  · have := heap_alloc_new (w.alloc (.cells #[p, q] 30)) (.cells #[.slice none 0 0, .slice none 0 0] 30)
    rwa [World.size_alloc] at this
theorem Fr2.keep {w : World} {X : Nat → Prop} {v : Value} {s : St} {p q : Value} {bx bz : Nat} {W W' : World} (h : Fr2 w X v s p q bx bz W) (hb : Below W.heap.size W W') : Fr2 w X v s p q bx bz W' := by
  have hlt : ∀ g o, W.heap[g]? = some o → W'.heap[g]? = some o := fun g o hh => (hb.block g (Array.getElem?_eq_some_iff.1 hh).1).trans hh
  exact ⟨h.bel.trans (hb.mono h.bel.size), hlt _ _ h.cx, hlt _ _ h.cz, h.ref.below hb, h.low⟩
/-- Behind the answer's store. -/
theorem Fr2.fin {w : World} {X Y : Nat → Prop} {v : Value} {s t : St} {p q x y : Value} {bx bz : Nat} {W : World} (h : Fr2 w X v s p q bx bz W) (hr : RefV W Y (.agg #[x, y]) t) (hY : ∀ b, b = bz ∨ (b < w.heap.size ∧ X b) → Y b) :
    ((W.setCell ⟨bz, 0, none⟩ x).setCell ⟨bz, 1, none⟩ y).heap[bz]? = some (.cells #[x, y] 30 (0, 0)) ∧ RefV ((W.setCell ⟨bz, 0, none⟩ x).setCell ⟨bz, 1, none⟩ y) (fun b => b < w.heap.size ∧ X b) (.agg #[x, y]) t ∧ Below w.heap.size w ((W.setCell ⟨bz, 0, none⟩ x).setCell ⟨bz, 1, none⟩ y) := by
  have hT := (Touch.cell1 W bz 0 x).trans (Touch.cell1 _ bz 1 y)
  refine ⟨two_set1 y (two_set0 x h.cz), ?_, h.bel.trans (hT.below h.bel.size fun b e => by rw [e]; exact h.low)⟩
  have h1 : RefV W (fun b => b = bz ∨ (b < w.heap.size ∧ X b)) (.agg #[x, y]) t := hr.mono fun b _ e => hY b e
  exact (h1.keep (hT.mono fun b _ e => Or.inl e)).mono fun b _ e => Or.inr e
section
variable {X : Nat → Prop} {v : Value} {s : St} {N : Nat} {w : World}
theorem RefV.form (h : RefV w X v s) : ∃ A n c A' n' c', v = .agg #[.slice A n c, .slice A' n' c'] := by
  obtain ⟨A, c, A', c', e, _⟩ := h.v
  exact ⟨A, _, c, A', _, c', e⟩
set_option maxHeartbeats 4000000 in
set_option maxRecDepth 100000 in
theorem refAdd_any (h : RefV w X v s) (hg : Good s N) (hN : N ≤ 1000) (k : List UInt8) (n : Int) (hk : k.length ≤ 1000) (hn : -9223372036854775808 ≤ n ∧ n ≤ 9223372036854775807) :
    Calls Try.prog 24 #[v, .string (txt k), .int .i64 n] w fun e w' => ∃ u, e = .returned (.tuple #[u, .int .i64 (s.add k n).2]) ∧ RefV w' (fun b => b < w.heap.size ∧ X b) u (s.add k n).1 ∧ Below w.heap.size w w' := by
  obtain ⟨A, c, A', c', rfl, h1, h2⟩ := id h.v
  have hF := Fr2.new h
  obtain ⟨W, hW⟩ : ∃ W, Hid ((w.alloc (.cells #[.slice A s.dur.length c, .slice A' s.ops.length c'] 30)).alloc (.cells #[.slice none 0 0, .slice none 0 0] 30) = W) := ⟨_, rfl⟩
  rw [hW.out] at hF
  obtain ⟨bx, hbx⟩ : ∃ bx, Hid (w.heap.size = bx) := ⟨_, rfl⟩
  obtain ⟨bz, hbz⟩ : ∃ bx, Hid (w.heap.size + 1 = bx) := ⟨_, rfl⟩
  rw [hbz.out, hbx.out] at hF
  obtain ⟨q1, hq1⟩ : ∃ p, Hid (s.dur.length = p) := ⟨_, rfl⟩
  obtain ⟨q2, hq2⟩ : ∃ p, Hid (s.ops.length = p) := ⟨_, rfl⟩
  rw [hq1.out, hq2.out] at hF hW ⊢
  have hF := Lib.hid hF
  have hcx := two_cells hF.out.cx
  have hcz := two_cells hF.out.cz
  have hz0 := two_frozen (i := 0) hF.out.cz
  have hz1 := two_frozen (i := 1) hF.out.cz
  have Hg := Lib.hid hg
  have HN := Lib.hid hN
  have hn1 := hn.1
  have hn2 := hn.2
  have Hk := Lib.hid hk
  clear h h1 h2 hg hN hn hk
  have hsame : ∀ W', Below W.heap.size W W' → _ := fun W' hb => (hF.out.keep hb).fin (hF.out.keep hb).ref fun b e => e.elim Or.inl fun e => Or.inr e.2
  have Hsame := Lib.hid hsame
  clear hsame
  by_cases h0 : k = [] ∨ n < 0
  · have e1 : s.add k n = (s, 2) := by unfold St.add; rw [if_pos h0]
    rw [e1]
    by_cases hkk : k = []
    · have he1 : (txt k).toList.isEmpty = true := by rw [txt_isEmpty, hkk]; rfl
      have he2 : (txt k).toList = [] := List.isEmpty_iff.1 he1
      clear h0 hkk e1
      go_enter Try.func24, Try.ntmps24
      go_upto_region 1 with fail
      rw [hW.out, hbz.out, hbx.out]
      go_wp2
      obtain ⟨g1, g2, g3⟩ := Hsame.out W (Below.refl _ _)
      exact ret_two2 rfl twoDir bz _ _ _ (0, 0) rfl g1 rfl ⟨_, rfl, g2, g3⟩
    · have hn0 : n < 0 := h0.resolve_left hkk
      have he1 : (txt k).toList.isEmpty = false := by
        rw [txt_isEmpty]
        cases k with
        | nil => exact absurd rfl hkk
        | cons _ _ => rfl
      have he2 : ¬ (txt k).toList = [] := fun e => by rw [e] at he1; cases he1
      clear h0 hkk e1
      go_enter Try.func24, Try.ntmps24
      go_upto_region 1 with fail
      rw [hW.out, hbz.out, hbx.out]
      go_wp2
      obtain ⟨g1, g2, g3⟩ := Hsame.out W (Below.refl _ _)
      exact ret_two2 rfl twoDir bz _ _ _ (0, 0) rfl g1 rfl ⟨_, rfl, g2, g3⟩
  · have hkk : ¬ k = [] := fun e => h0 (.inl e)
    have hn0 : ¬ n < 0 := fun e => h0 (.inr e)
    have hn0' : 0 ≤ n := by omega
    have he1 : (txt k).toList.isEmpty = false := by
      rw [txt_isEmpty]
      cases k with
      | nil => exact absurd rfl hkk
      | cons _ _ => rfl
    have he2 : ¬ (txt k).toList = [] := fun e => by rw [e] at he1; cases he1
    have H0 := Lib.hid h0
    clear h0 hkk
    have hget := Lib.hid (refGet_any hF.out.ref Hg.out HN.out k)
    obtain ⟨z, hz⟩ : ∃ z, Hid ((getE s.now k).getD 0 = z) := ⟨_, rfl⟩
    rw [hz.out] at hget
    by_cases hh : hasE s.now k = true
    · have e0 : Hid (s.add k n = (s, 81)) := by show s.add k n = _; unfold St.add; rw [if_neg H0.out, if_pos hh]
      rw [hh] at hget
      rw [e0.out]
      clear hh
      go_enter Try.func24, Try.ntmps24
      go_upto_region 1 with fail
      rw [hW.out, hbz.out, hbx.out]
      go_wp2_with (go_at_call 26; refine hget.out.mono ?_; rintro e w1 ⟨rfl, hb1⟩; have hF1 := Lib.hid (hF.out.keep hb1); have Hb1 := Lib.hid hb1; have hcx := two_cells hF1.out.cx; have hcz := two_cells hF1.out.cz; have hz0 := two_frozen (i := 0) hF1.out.cz; have hz1 := two_frozen (i := 1) hF1.out.cz; clear hb1)
      obtain ⟨g1, g2, g3⟩ := Hsame.out _ Hb1.out
      exact ret_two2 rfl twoDir bz _ _ _ (0, 0) rfl g1 rfl ⟨_, rfl, g2, g3⟩
    · have hh' : hasE s.now k = false := by simpa using hh
      have e0 : Hid (s.add k n = (s.addE k n, 0)) := by show s.add k n = _; unfold St.add; rw [if_neg H0.out, if_neg hh]
      rw [hh'] at hget
      rw [e0.out]
      clear hh hh'
      go_enter Try.func24, Try.ntmps24
      go_upto_region 1 with fail
      rw [hW.out, hbz.out, hbx.out]
      go_wp2_with (first
        | (go_at_call 26; refine hget.out.mono ?_; rintro e w1 ⟨rfl, hb1⟩; have hF1 := Lib.hid (hF.out.keep hb1); have Hb1 := Lib.hid hb1; have hcx := two_cells hF1.out.cx; clear hb1)
        | (go_at_call 38; refine (with_any hF1.out.ref (by have := Hg.out.n; have := HN.out; omega) ⟨true, k, n⟩).mono ?_; rintro e w2 ⟨u, rfl, hu, hb2⟩; obtain ⟨B1, m1, d1, B2, m2, d2, rfl⟩ := hu.form; have hF2 := Lib.hid (hF1.out.keep hb2); have Hu := Lib.hid hu; have hcz := two_cells hF2.out.cz; have hz0 := two_frozen (i := 0) hF2.out.cz; have hz1 := two_frozen (i := 1) hF2.out.cz; clear hb2 hu))
      obtain ⟨g1, g2, g3⟩ := hF2.out.fin Hu.out fun b e => e.elim (fun e => ⟨by rw [e]; exact (Array.getElem?_eq_some_iff.1 hF1.out.cz).1, .inl e⟩) fun e => ⟨Nat.lt_of_lt_of_le e.1 hF1.out.bel.size, .inr e.2⟩
      exact ret_two2 rfl twoDir bz _ _ _ (0, 0) rfl g1 rfl ⟨_, rfl, g2, g3⟩
set_option maxHeartbeats 4000000 in
set_option maxRecDepth 100000 in
theorem refRemove_any (h : RefV w X v s) (hg : Good s N) (hN : N ≤ 1000) (k : List UInt8) (hk : k.length ≤ 1000) :
    Calls Try.prog 25 #[v, .string (txt k)] w fun e w' => ∃ u, e = .returned (.tuple #[u, .int .i64 (s.remove k).2.1, .int .i64 (s.remove k).2.2]) ∧ RefV w' (fun b => b < w.heap.size ∧ X b) u (s.remove k).1 ∧ Below w.heap.size w w' := by
  obtain ⟨A, c, A', c', rfl, h1, h2⟩ := id h.v
  have hF := Fr2.new h
  obtain ⟨W, hW⟩ : ∃ W, Hid ((w.alloc (.cells #[.slice A s.dur.length c, .slice A' s.ops.length c'] 30)).alloc (.cells #[.slice none 0 0, .slice none 0 0] 30) = W) := ⟨_, rfl⟩
  rw [hW.out] at hF
  obtain ⟨bx, hbx⟩ : ∃ bx, Hid (w.heap.size = bx) := ⟨_, rfl⟩
  obtain ⟨bz, hbz⟩ : ∃ bx, Hid (w.heap.size + 1 = bx) := ⟨_, rfl⟩
  rw [hbz.out, hbx.out] at hF
  obtain ⟨q1, hq1⟩ : ∃ p, Hid (s.dur.length = p) := ⟨_, rfl⟩
  obtain ⟨q2, hq2⟩ : ∃ p, Hid (s.ops.length = p) := ⟨_, rfl⟩
  rw [hq1.out, hq2.out] at hF hW ⊢
  have hF := Lib.hid hF
  have hcx := two_cells hF.out.cx
  have hcz := two_cells hF.out.cz
  have hz0 := two_frozen (i := 0) hF.out.cz
  have hz1 := two_frozen (i := 1) hF.out.cz
  have Hg := Lib.hid hg
  have HN := Lib.hid hN
  have Hk := Lib.hid hk
  clear h h1 h2 hg hN hk
  have hsame : ∀ W', Below W.heap.size W W' → _ := fun W' hb => (hF.out.keep hb).fin (hF.out.keep hb).ref fun b e => e.elim Or.inl fun e => Or.inr e.2
  have Hsame := Lib.hid hsame
  clear hsame
  have hget := Lib.hid (refGet_any hF.out.ref Hg.out HN.out k)
  obtain ⟨z, hz⟩ : ∃ z, Hid ((getE s.now k).getD 0 = z) := ⟨_, rfl⟩
  rw [hz.out] at hget
  by_cases hh : hasE s.now k = true
  · obtain ⟨e1, _⟩ := St.remove_some hh
    rw [hz.out] at e1
    rw [hh] at hget
    rw [e1]
    clear hh e1
    go_enter Try.func25, Try.ntmps25
    go_upto_region 1 with fail
    rw [hW.out, hbz.out, hbx.out]
    go_wp2_with (first
      | (go_at_call 26; refine hget.out.mono ?_; rintro e w1 ⟨rfl, hb1⟩; have hF1 := Lib.hid (hF.out.keep hb1); have Hb1 := Lib.hid hb1; have hcx := two_cells hF1.out.cx; clear hb1)
      | (go_at_call 38; refine (with_any hF1.out.ref (by have := Hg.out.n; have := HN.out; omega) ⟨false, k, z⟩).mono ?_; rintro e w2 ⟨u, rfl, hu, hb2⟩; obtain ⟨B1, m1, d1, B2, m2, d2, rfl⟩ := hu.form; have hF2 := Lib.hid (hF1.out.keep hb2); have Hu := Lib.hid hu; have hcz := two_cells hF2.out.cz; have hz0 := two_frozen (i := 0) hF2.out.cz; have hz1 := two_frozen (i := 1) hF2.out.cz; clear hb2 hu))
    obtain ⟨g1, g2, g3⟩ := hF2.out.fin Hu.out fun b e => e.elim (fun e => ⟨by rw [e]; exact (Array.getElem?_eq_some_iff.1 hF1.out.cz).1, .inl e⟩) fun e => ⟨Nat.lt_of_lt_of_le e.1 hF1.out.bel.size, .inr e.2⟩
    exact ret_two3 rfl twoDir bz _ _ _ (0, 0) rfl g1 rfl ⟨_, rfl, g2, g3⟩
  · have hh' : hasE s.now k = false := by simpa using hh
    have e1 := St.remove_none hh'
    rw [hh'] at hget
    rw [e1]
    clear hh hh' e1
    go_enter Try.func25, Try.ntmps25
    go_upto_region 1 with fail
    rw [hW.out, hbz.out, hbx.out]
    go_wp2_with (go_at_call 26; refine hget.out.mono ?_; rintro e w1 ⟨rfl, hb1⟩; have hF1 := Lib.hid (hF.out.keep hb1); have Hb1 := Lib.hid hb1; have hcx := two_cells hF1.out.cx; have hcz := two_cells hF1.out.cz; have hz0 := two_frozen (i := 0) hF1.out.cz; have hz1 := two_frozen (i := 1) hF1.out.cz; clear hb1)
    obtain ⟨g1, g2, g3⟩ := Hsame.out _ Hb1.out
    exact ret_two3 rfl twoDir bz _ _ _ (0, 0) rfl g1 rfl ⟨_, rfl, g2, g3⟩
set_option maxHeartbeats 4000000 in
set_option maxRecDepth 100000 in
theorem refFail_any (h : RefV w X v s) (hg : Good s N) (hN : N ≤ 1000) (z : Int) (hk1 : -9223372036854775808 ≤ z) (hk2 : z ≤ 9223372036854775807) :
    Calls Try.prog 28 #[v, .int .i64 z] w fun e w' => ∃ u, e = .returned u ∧ RefV w' (fun b => b < w.heap.size ∧ X b) u (s.fail z) ∧ Below w.heap.size w w' := by
  obtain ⟨A, c, A', c', rfl, h1, h2⟩ := id h.v
  have hF := Fr2.new h
  obtain ⟨W, hW⟩ : ∃ W, Hid ((w.alloc (.cells #[.slice A s.dur.length c, .slice A' s.ops.length c'] 30)).alloc (.cells #[.slice none 0 0, .slice none 0 0] 30) = W) := ⟨_, rfl⟩
  rw [hW.out] at hF
  obtain ⟨bx, hbx⟩ : ∃ bx, Hid (w.heap.size = bx) := ⟨_, rfl⟩
  obtain ⟨bz, hbz⟩ : ∃ bx, Hid (w.heap.size + 1 = bx) := ⟨_, rfl⟩
  rw [hbz.out, hbx.out] at hF
  obtain ⟨q1, hq1⟩ : ∃ p, Hid (s.dur.length = p) := ⟨_, rfl⟩
  obtain ⟨q2, hq2⟩ : ∃ p, Hid (s.ops.length = p) := ⟨_, rfl⟩
  rw [hq1.out, hq2.out] at hF hW ⊢
  have hF := Lib.hid hF
  have hcx := two_cells hF.out.cx
  have hcz := two_cells hF.out.cz
  have hz0 := two_frozen (i := 0) hF.out.cz
  have hz1 := two_frozen (i := 1) hF.out.cz
  have Hg := Lib.hid hg
  have HN := Lib.hid hN
  clear h h1 h2 hg hN
  obtain ⟨T, hT⟩ : ∃ T, Hid (stay s.ops.length z = T) := ⟨_, rfl⟩
  have hTle : Hid (T ≤ s.ops.length) := by rw [← hT.out]; exact stay_le _ _
  have hst : max 0 (min z (q2 : Int)) = (T : Int) := by rw [← hT.out, ← hq2.out]; unfold stay; omega
  have hq2I : (q2 : Int) ≤ 1000 := by rw [← hq2.out]; have := Hg.out.n; have := HN.out; omega
  go_enter Try.func28, Try.ntmps28
  go_upto_region 1 with fail
  rw [hW.out, hbz.out, hbx.out]
  go_wp2_with (go_at_call 39; refine (after_any hF.out.ref Hg.out HN.out T hTle.out).mono ?_; rintro e w1 ⟨B, n1, d, rfl, hn1, hE, hb1⟩; have HE := Lib.hid hE; have Hn1 := Lib.hid hn1; have hF1 := Lib.hid (hF.out.keep hb1); have hcz := two_cells hF1.out.cz; have hz0 := two_frozen (i := 0) hF1.out.cz; have hz1 := two_frozen (i := 1) hF1.out.cz; clear hb1 hE hn1)
  have hR : RefV w1 (fun b => b < W.heap.size ∧ (b = bz ∨ X b)) (.agg #[.slice B n1 d, .slice none 0 0]) (s.fail z) := by
    have e1 : s.fail z = ⟨runs s.dur (s.ops.take T), []⟩ := by unfold St.fail; rw [hT.out]
    rw [e1]
    exact ⟨B, d, none, 0, by rw [Hn1.out]; rfl, HE.out, RdX.none_⟩
  obtain ⟨g1, g2, g3⟩ := hF1.out.fin hR fun b e => e.elim (fun e => ⟨by rw [e]; exact (Array.getElem?_eq_some_iff.1 hF.out.cz).1, .inl e⟩) fun e => ⟨Nat.lt_of_lt_of_le e.1 hF.out.bel.size, .inr e.2⟩
  exact ret_two1 rfl twoDir bz _ _ _ (0, 0) rfl g1 rfl ⟨_, rfl, g2, g3⟩
end
end Go.Proofs.Ytdnbflhpgfgnnaa
