/- The document's Normal: merge, till nothing may be brought together any more. Conditions: at most 1000 edits, of sums that fit. -/
import Derived.Test.YtohgghaooppcoaaDlH
import Derived.Deep.LoopGhost
namespace Go.Proofs.Ytohgghaooppcoaa
open Go.RowKit Go.Lib

def sumS : List Ed → Nat
  | [] => 0
  | x :: l => x.s.length + sumS l
theorem mg_sumS {l l' : List Ed} (h : mg l = some l') : sumS l' = sumS l := by
  refine mg_ind (P := fun l l' => sumS l' = sumS l) ?_ ?_ ?_ h
  · intro a b l _
    simp only [sumS, List.length_append]
    omega
  · intro a b l _ _; simp only [sumS]; omega
  · intro a l l' ih; simp only [sumS, ih]
theorem sumS_mem : ∀ {l : List Ed} {x : Ed}, x ∈ l → x.s.length ≤ sumS l
  | y :: l, x, h => by
    rcases List.mem_cons.1 h with rfl | h
    · simp only [sumS]; omega
    · have := sumS_mem h
      simp only [sumS]; omega
theorem sumN_mem : ∀ {l : List Ed} {x : Ed}, x ∈ l → x.n.toNat ≤ sumN l
  | y :: l, x, h => by
    rcases List.mem_cons.1 h with rfl | h
    · simp only [sumN]; omega
    · have := sumN_mem h
      simp only [sumN]; omega
/-- Edits of a kind with what they should have, and not too much together. -/
structure Fine (l : List Ed) : Prop where
  wr : wrs l
  n : sumN l ≤ 4611686018427387903
  s : sumS l ≤ 1099511627
  l : l.length ≤ 1000
theorem Fine.mg {l l' : List Ed} (h : Fine l) (hm : mg l = some l') : Fine l' := ⟨mg_wrs hm h.wr, by rw [mg_sumN hm h.wr]; exact h.n, by rw [mg_sumS hm]; exact h.s, Nat.le_trans (mg_len hm) h.l⟩
theorem Fine.norm {l : List Ed} (h : Fine l) : Fine (norm l) := norm_all (P := Fine) (fun _ _ _ h hg => h.mg hg) h.wr h
theorem Fine.ok {l : List Ed} (h : Fine l) : Oks l := fun x hx => ⟨by have := wr_n (h.wr x hx); omega, by have := sumN_mem hx; have := h.n; omega, Nat.le_trans (sumS_mem hx) h.s⟩
theorem Fine.nb {l : List Ed} (h : Fine l) : ∀ x ∈ l, 0 ≤ x.n ∧ x.n ≤ 4611686018427387903 := fun x hx => ⟨wr_n (h.wr x hx), by have := sumN_mem hx; have := h.n; omega⟩
theorem Fine.sb {l : List Ed} (h : Fine l) : ∀ x ∈ l, x.s.length ≤ 4611686018427387903 := fun x hx => by have := sumS_mem hx; have := h.s; omega
theorem fine_of {l : List Ed} (h : allRt l = true) (hs : sumS l ≤ 1099511627) (hl : l.length ≤ 1000) : Fine l := by
  refine ⟨wrs_of_all h, ?_, hs, hl⟩
  rw [← szF_sum h]
  have := szF_le l
  have : 2147483647 * l.length ≤ 2147483647 * 1000 := Nat.mul_le_mul_left _ hl
  omega
theorem merge_some (A : Option Addr) (c n : Nat) (l l' : List Ed) (hn : l.length = n) (w : World) (hf : Fine l) (hcap : l.length ≤ c) (hr : RdE w w.heap.size A l) (hm : Hid (mg l = some l')) :
    Calls Try.prog 37 #[.slice A n c] w fun e w' => ∃ A' c', e = .returned (.tuple #[.slice A' l'.length c', .bool true]) ∧ l'.length ≤ c' ∧ RdE w' w'.heap.size A' l' ∧ Below w.heap.size w w' := by
  subst hn
  refine (merge_any A c w.heap.size l w hf.l hcap hf.nb hf.sb (Nat.le_refl _) hr).mono ?_
  rintro e w' ⟨⟨l2, v, h, rfl, hown⟩ | ⟨h, _⟩, hb⟩
  · rw [hm.out] at h
    injection h with h
    subst h
    obtain ⟨A', c', rfl, h1, _, h2⟩ := hown.reads
    exact ⟨A', c', rfl, h1, h2, hb⟩
  · rw [hm.out] at h
    cases h
theorem merge_none (A : Option Addr) (c n : Nat) (l : List Ed) (hn : l.length = n) (w : World) (hf : Fine l) (hcap : l.length ≤ c) (hr : RdE w w.heap.size A l) (hm : Hid (mg l = none)) :
    Calls Try.prog 37 #[.slice A n c] w fun e w' => e = .returned (.tuple #[.slice A n c, .bool false]) ∧ Below w.heap.size w w' := by
  subst hn
  refine (merge_any A c w.heap.size l w hf.l hcap hf.nb hf.sb (Nat.le_refl _) hr).mono ?_
  rintro e w' ⟨⟨l2, v, h, _, _⟩ | ⟨_, rfl⟩, hb⟩
  · rw [hm.out] at h
    cases h
  · exact ⟨rfl, hb⟩
/-- The document's Normal's answer, in a world. -/
def RNrmVal (l : List Ed) (e : Ending) (w' : World) : Prop := ∃ A c, e = .returned (.tuple #[.slice A (nrmL l).length c, .int .i64 ((nrmE l : Nat) : Int)]) ∧ (nrmL l).length ≤ c ∧ RdE w' w'.heap.size A (nrmL l)
theorem mu_bool (m : Nat) (b : Bool) : 2 * m + (if b then 1 else 0) ≤ 2 * m + 1 := by split <;> omega
set_option maxHeartbeats 2000000 in
set_option maxRecDepth 100000 in
theorem refNormal_any (A : Option Addr) (c B : Nat) (l : List Ed) (w : World) (hl : l.length ≤ 1000) (hcap : l.length ≤ c) (hok : Oks l) (hs : sumS l ≤ 1099511627) (hB : B ≤ w.heap.size) (hr : RdE w B A l) :
    Calls Try.prog 16 #[.slice A l.length c] w fun e w' => RNrmVal l e w' ∧ Below w.heap.size w w' := by
  have HB := Lib.hid hB
  have Hok : Hid (Oks l) := hok
  have Hl := Lib.hid hl
  have Hcap := Lib.hid hcap
  have Hs := Lib.hid hs
  rcases hid_bool (allRt l) with hall | hall
  · have Hfine := Lib.hid (fine_of hall.out hs hl)
    have Hr : Hid (RdE w B A l) := hr
    clear hl hcap hs hok hB hr
    go_enter Try.func16, Try.ntmps16
    go_wp2_with (go_at_call 22; refine (refAllRight_is A c B _ l true rfl hall _ (by have := Hl.out; omega) Hok.out HB.out Hr.out).mono ?_; rintro e w1 ⟨rfl, hb1⟩)
    have Hr1 : Hid (RdE w1 w1.heap.size A l) := Reads.more (Reads.below Hr.out (hb1.mono HB.out)) (Nat.le_trans HB.out hb1.size)
    go_loopg [0, 4] (2 * mu 0 l + 1) (fun g v m wr => ∃ (l' : List Ed) (A' : Option Addr) (c' : Nat) (b : Bool), v = .slice A' l'.length c' ∧ m = .bool b ∧ Hid (l'.length ≤ c') ∧ Hid (RdE wr wr.heap.size A' l') ∧ Hid (Fine l') ∧ Hid (norm l' = norm l) ∧ Hid (b = false → mg l' = none) ∧ Hid (2 * mu 0 l' + (if b then 1 else 0) ≤ g) ∧ Below w.heap.size w wr)
    case atStart => exact ⟨l, A, c, true, rfl, rfl, Hcap.out, Hr1.out, Hfine.out, rfl, (fun h => by cases h), mu_bool _ _, hb1⟩
    case round =>
      clear hb1 Hr1
      obtain ⟨l', A', c', b, rfl, rfl, hc', hr', hf', hn', hm', hg', hb⟩ := hrel
      cases b with
      | true =>
        cases hm : mg l' with
        | some l2 =>
          have Hm := Lib.hid hm
          clear hm
          go_wp2_with (go_at_call 37; refine (merge_some A' c' _ l' l2 rfl _ hf'.out hc'.out hr'.out Hm).mono ?_; rintro e w2 ⟨A2, c2, rfl, h1, h2, hb2⟩; have H1 := Lib.hid h1; have H2 := Lib.hid h2; have hbb := hb.trans (hb2.mono hb.size); clear h1 h2 hb2)
          go_roundg (2 * mu 0 l2 + 1)
          case measure => have := mg_mu Hm.out 0; have := hg'.out; simp at this; omega
          case rel => exact ⟨l2, A2, c2, true, rfl, rfl, H1.out, H2.out, hf'.out.mg Hm.out, (mg_nrm Hm.out hf'.out.wr 0 [] 0).trans hn'.out, (fun h => by cases h), mu_bool _ _, hbb⟩
        | none =>
          have Hm := Lib.hid hm
          clear hm
          go_wp2_with (go_at_call 37; refine (merge_none A' c' _ l' rfl _ hf'.out hc'.out hr'.out Hm).mono ?_; rintro e w2 ⟨rfl, hb2⟩; have hbb := hb.trans (hb2.mono hb.size); have H2 := Lib.hid (Reads.more (Reads.below hr'.out hb2) hb2.size); clear hb2)
          go_roundg (2 * mu 0 l')
          case measure => have := hg'.out; simp at this; omega
          case rel => exact ⟨l', A', c', false, rfl, rfl, hc'.out, H2.out, hf'.out, hn'.out, fun _ => Hm.out, by show _ ≤ _; simp, hbb⟩
      | false =>
        have HN : Hid (l' = norm l) := by
          have := norm_irr hf'.out.wr (hm'.out rfl)
          exact this.symm.trans hn'.out
        rcases hid_bool (allRt (norm l)) with hnall | hnall
        · obtain ⟨h1, h2⟩ := nrm_fine hall.out hnall.out
          have H1 := Lib.hid h1
          have H2 := Lib.hid h2
          clear h1 h2
          go_wp2_with (go_at_call 22; refine (refAllRight_is A' c' _ _ l' true rfl (by rw [HN.out]; exact hnall) _ (by have := hf'.out.l; omega) hf'.out.ok (Nat.le_refl _) hr'.out).mono ?_; rintro e w3 ⟨rfl, hb3⟩)
          go_ret2
          refine ⟨⟨A', c', ?_, ?_, ?_⟩, hb.trans (hb3.mono hb.size)⟩
          · rw [H1.out, H2.out, ← HN.out]; rfl
          · rw [H2.out, ← HN.out]; exact hc'.out
          · rw [H2.out, ← HN.out]; exact Reads.more (Reads.below hr'.out hb3) hb3.size
        · obtain ⟨h1, h2⟩ := nrm_big hall.out hnall.out
          have H1 := Lib.hid h1
          have H2 := Lib.hid h2
          clear h1 h2
          go_wp2_with (go_at_call 22; refine (refAllRight_is A' c' _ _ l' false rfl (by rw [HN.out]; exact hnall) _ (by have := hf'.out.l; omega) hf'.out.ok (Nat.le_refl _) hr'.out).mono ?_; rintro e w3 ⟨rfl, hb3⟩)
          go_ret2
          refine ⟨⟨none, 0, ?_, ?_, ?_⟩, hb.trans (hb3.mono hb.size)⟩
          · rw [H1.out, H2.out]; rfl
          · rw [H2.out]; simp
          · rw [H2.out]; exact RdE.nil
  · obtain ⟨h1, h2⟩ := nrm_bad hall.out
    have H1 := Lib.hid h1
    have H2 := Lib.hid h2
    have Hr : Hid (RdE w B A l) := hr
    clear h1 h2 hl hcap hs hok hB hr
    go_enter Try.func16, Try.ntmps16
    go_wp2_with (go_at_call 22; refine (refAllRight_is A c B _ l false rfl hall _ (by have := Hl.out; omega) Hok.out HB.out Hr.out).mono ?_; rintro e w1 ⟨rfl, hb1⟩)
    go_ret2
    refine ⟨⟨none, 0, ?_, ?_, ?_⟩, hb1⟩
    · rw [H1.out, H2.out]; rfl
    · rw [H2.out]; simp
    · rw [H2.out]; exact RdE.nil
end Go.Proofs.Ytohgghaooppcoaa
