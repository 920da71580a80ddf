/- The walks of frame.One, and of the document's One. Conditions: bytes of at most 2^40. -/
import Derived.Test.YtfhcpjnjemojgaaKFrR
namespace Go.Proofs.Ytfhcpjnjemojgaa
open Go.RowKit

/-- One's answer: the frame, and the error. -/
def oneF (b : List UInt8) : Fk × Nat := if (takeF b 0).2.2 ≠ 0 then ((0, []), (takeF b 0).2.2) else if (takeF b 0).2.1 < b.length then ((0, []), 11) else ((takeF b 0).1, 0)
/-- One's answer as a value, in a world. -/
def OneVal (base : Nat) (r : Fk × Nat) (e : Ending) (w' : World) : Prop :=
  ∃ v, e = .returned (.tuple #[.agg #[.int .u8 (r.1.1.toNat : Int), v], .int .i64 (r.2 : Nat)]) ∧ w'.ownsRow base 5 1 v r.1.2.length (bs r.1.2)
theorem OneVal.no {base : Nat} {r : Fk × Nat} {w' : World} {e : Nat} (h : r = ((0, []), e)) : OneVal base r (.returned (.tuple #[.agg #[.int .u8 0, .slice none 0 0], .int .i64 (e : Nat)])) w' := by
  subst h
  exact ⟨_, rfl, World.ownsRow_nil _ _ _ _⟩
theorem takeF_next (b : List UInt8) (p : Int) (h : (takeF b p).2.2 = 0) : ∃ N : Nat, (takeF b p).2.1 = (N : Int) ∧ N ≤ b.length := by
  obtain ⟨q, rest, e1, e2, e3, e4, e5⟩ := takeF_ok h
  exact ⟨_, e4, e5⟩

set_option maxHeartbeats 2000000 in
set_option maxRecDepth 100000 in
theorem frOne_any (A : Option Addr) (c B : Nat) (l : List UInt8) (w : World) (hl : l.length ≤ 1099511627776) (hcap : l.length ≤ c) (hB : B ≤ w.heap.size) (hr : RdB w B A l) :
    Calls Try.prog 35 #[.slice A l.length c] w fun e w' => OneVal w.heap.size (oneF l) e w' ∧ Below w.heap.size w w' := by
  have hlen : (l.length : Int) ≤ 1099511627776 := by omega
  have Hl := Lib.hid hl
  have hb0 := (Below.refl w.heap.size w).alloc (Nat.le_refl _) (.cells #[.int .u8 0, .slice none 0 0] 69)
  have hrW : RdB (w.alloc (.cells #[.int .u8 0, .slice none 0 0] 69)) B A l := Reads.alloc hr hB _
  have HrW : Hid (RdB _ _ _ _) := hrW
  have HBW := Lib.hid (show B ≤ (w.alloc (.cells #[.int .u8 0, .slice none 0 0] 69)).heap.size by simp; omega)
  have Hszw := Lib.hid (show w.heap.size < (w.alloc (.cells #[.int .u8 0, .slice none 0 0] 69)).heap.size by simp)
  clear hl hrW
  obtain ⟨f, nx, e, ht⟩ : ∃ f nx e, takeF l 0 = (f, nx, e) := ⟨_, _, _, rfl⟩
  obtain ⟨fk, fl⟩ := f
  have Ht := Lib.hid ht
  by_cases he : e = 0
  · subst he
    obtain ⟨N, hN, hNl⟩ := takeF_next l 0 (by rw [ht])
    rw [ht] at hN
    simp only at hN
    subst hN
    by_cases hs : (N : Int) < (l.length : Int)
    · have Hv := Lib.hid (show oneF l = ((0, []), 11) by unfold oneF; rw [ht]; simp only [ne_eq, not_true_eq_false, if_false]; rw [if_pos hs])
      clear ht
      go_enter Try.func35, Try.ntmps35
      go_wp2_with fail
      refine (frTake_any A c B l 0 _ Hl.out hcap HBW.out HrW.out).mono ?_
      rintro e' w' ⟨⟨v, rfl, hown⟩, hb'⟩
      rw [Ht.out] at hown ⊢
      obtain ⟨A2, c2, rfl, _, _, _⟩ := own_form hown
      obtain ⟨M, hM⟩ : ∃ M, M = fl := ⟨_, rfl⟩
      simp only
      have hg' := (heap_alloc_old w' (.cells #[.int .u8 (fk.toNat : Int), .slice A2 fl.length c2] 69) (Nat.lt_of_lt_of_le Hszw.out hb'.size)).trans ((hb'.block w.heap.size Hszw.out).trans (heap_alloc_new w _))
      have hbb := (hb0.trans (hb'.mono hb0.size)).alloc (hb0.trans (hb'.mono hb0.size)).size (.cells #[.int .u8 (fk.toNat : Int), .slice A2 fl.length c2] 69)
      go_wp2_with (refine wpList_store_row rfl 69 (.tmp 2) (.tmp 23) rfl w.heap.size _ rfl rfl _ _ hg' size_fr1 rfl (two_one rfl rfl) ?_)
      refine ret_cell2 rfl frTy1 w.heap.size _ _ _ (0, 0) rfl (setRow_heap _ _ _ _ _ _ hg') rfl ?_
      exact ⟨OneVal.no Hv.out, below_setRow hbb (Nat.le_refl _) _⟩
    · have Hv := Lib.hid (show oneF l = ((fk, fl), 0) by unfold oneF; rw [ht]; simp only [ne_eq, not_true_eq_false, if_false]; rw [if_neg hs])
      clear ht
      go_enter Try.func35, Try.ntmps35
      go_wp2_with fail
      refine (frTake_any A c B l 0 _ Hl.out hcap HBW.out HrW.out).mono ?_
      rintro e' w' ⟨⟨v, rfl, hown⟩, hb'⟩
      rw [Ht.out] at hown ⊢
      obtain ⟨A2, c2, rfl, _, _, _⟩ := own_form hown
      simp only at hown ⊢
      have hlo : (w.alloc (.cells #[.int .u8 0, .slice none 0 0] 69)).heap.size ≤ w'.heap.size := hb'.size
      have hg' := (heap_alloc_old w' (.cells #[.int .u8 (fk.toNat : Int), .slice A2 fl.length c2] 69) (Nat.lt_of_lt_of_le Hszw.out hb'.size)).trans ((hb'.block w.heap.size Hszw.out).trans (heap_alloc_new w _))
      have hgf := heap_alloc_new w' (.cells #[.int .u8 (fk.toNat : Int), .slice A2 fl.length c2] 69)
      have hbb := (hb0.trans (hb'.mono hb0.size)).alloc (hb0.trans (hb'.mono hb0.size)).size (.cells #[.int .u8 (fk.toNat : Int), .slice A2 fl.length c2] 69)
      have hap : (Value.slice A2 fl.length c2).ownBlock ≠ some w.heap.size := by
        intro e
        have := (hown.lt _ e).1
        have := Hszw.out
        omega
      have hownA := own_setRow ((own_mono hown (base' := w.heap.size) (by simp)).alloc (.cells #[.int .u8 (fk.toNat : Int), .slice A2 fl.length c2] 69)) hap #[.int .u8 (fk.toNat : Int), .slice A2 fl.length c2]
      have HownA := Lib.hid hownA
      clear hownA hap hown
      go_wp2_with (first
        | refine wpList_load_row rfl 69 (.tmp 4) rfl w'.heap.size rfl _ _ _ _ hgf Try.underlying69 rfl size_fr1 ?_
        | refine wpList_store_row rfl 69 (.tmp 2) (.tmp 24) rfl w.heap.size _ rfl rfl _ _ hg' size_fr1 rfl (two_one rfl rfl) ?_)
      refine ret_cell2 rfl frTy1 w.heap.size _ _ _ (0, 0) rfl (setRow_heap _ _ _ _ _ _ hg') rfl ?_
      rw [Hv.out]
      exact ⟨⟨_, rfl, HownA.out⟩, below_setRow hbb (Nat.le_refl _) _⟩
  · have herr := takeF_err (b := l) (p := 0) (by rw [ht]; exact he)
    rw [ht] at herr
    simp only [Prod.mk.injEq] at herr
    obtain ⟨⟨rfl, rfl⟩, rfl, -⟩ := herr
    have Hv := Lib.hid (show oneF l = ((0, []), e) by unfold oneF; rw [ht]; simp only; rw [if_pos he])
    have heI : ((e : Int) != 0) = true := by rw [bne_iff_ne]; omega
    have heI' : (e != 0) = true := by rw [bne_iff_ne]; omega
    clear ht he
    go_enter Try.func35, Try.ntmps35
    go_wp2_with fail
    refine (frTake_any A c B l 0 _ Hl.out hcap HBW.out HrW.out).mono ?_
    rintro e' w' ⟨⟨v, rfl, hown⟩, hb'⟩
    rw [Ht.out] at hown ⊢
    obtain ⟨A2, c2, rfl, _, _, _⟩ := own_form hown
    simp only
    have hg' := (heap_alloc_old w' (.cells #[.int .u8 0, .slice A2 0 c2] 69) (Nat.lt_of_lt_of_le Hszw.out hb'.size)).trans ((hb'.block w.heap.size Hszw.out).trans (heap_alloc_new w _))
    have hbb := (hb0.trans (hb'.mono hb0.size)).alloc (hb0.trans (hb'.mono hb0.size)).size (.cells #[.int .u8 0, .slice A2 0 c2] 69)
    go_wp2_with (refine wpList_store_row rfl 69 (.tmp 2) (.tmp 16) rfl w.heap.size _ rfl rfl _ _ hg' size_fr1 rfl (two_one rfl rfl) ?_)
    refine ret_cell2 rfl frTy1 w.heap.size _ _ _ (0, 0) rfl (setRow_heap _ _ _ _ _ _ hg') rfl ?_
    exact ⟨OneVal.no Hv.out, below_setRow hbb (Nat.le_refl _) _⟩

set_option maxHeartbeats 2000000 in
set_option maxRecDepth 100000 in
theorem refFrOne_any (A : Option Addr) (c B : Nat) (l : List UInt8) (w : World) (hl : l.length ≤ 1099511627776) (hcap : l.length ≤ c) (hB : B ≤ w.heap.size) (hr : RdB w B A l) :
    Calls Try.prog 36 #[.slice A l.length c] w fun e w' => OneVal w.heap.size (oneF l) e w' ∧ Below w.heap.size w w' := by
  have hlen : (l.length : Int) ≤ 1099511627776 := by omega
  have Hl := Lib.hid hl
  have hb0 := (Below.refl w.heap.size w).alloc (Nat.le_refl _) (.cells #[.int .u8 0, .slice none 0 0] 44)
  have hrW : RdB (w.alloc (.cells #[.int .u8 0, .slice none 0 0] 44)) B A l := Reads.alloc hr hB _
  have HrW : Hid (RdB _ _ _ _) := hrW
  have HBW := Lib.hid (show B ≤ (w.alloc (.cells #[.int .u8 0, .slice none 0 0] 44)).heap.size by simp; omega)
  have Hszw := Lib.hid (show w.heap.size < (w.alloc (.cells #[.int .u8 0, .slice none 0 0] 44)).heap.size by simp)
  clear hl hrW
  obtain ⟨f, nx, e, ht⟩ : ∃ f nx e, takeF l 0 = (f, nx, e) := ⟨_, _, _, rfl⟩
  obtain ⟨fk, fl⟩ := f
  have Ht := Lib.hid ht
  by_cases he : e = 0
  · subst he
    obtain ⟨N, hN, hNl⟩ := takeF_next l 0 (by rw [ht])
    rw [ht] at hN
    simp only at hN
    subst hN
    by_cases hs : (N : Int) < (l.length : Int)
    · have Hv := Lib.hid (show oneF l = ((0, []), 11) by unfold oneF; rw [ht]; simp only [ne_eq, not_true_eq_false, if_false]; rw [if_pos hs])
      have hne : ((N : Int) != (l.length : Int)) = true := by rw [bne_iff_ne]; omega
      have hne' : (N != l.length) = true := by rw [bne_iff_ne]; omega
      clear ht
      go_enter Try.func36, Try.ntmps36
      go_wp2_with fail
      refine (refFrTake_any A c B l 0 _ Hl.out hcap HBW.out HrW.out).mono ?_
      rintro e' w' ⟨⟨v, rfl, hown⟩, hb'⟩
      rw [Ht.out] at hown ⊢
      obtain ⟨A2, c2, rfl, _, _, _⟩ := own_form hown
      obtain ⟨M, hM⟩ : ∃ M, M = fl := ⟨_, rfl⟩
      simp only
      have hg' := (heap_alloc_old w' (.cells #[.int .u8 (fk.toNat : Int), .slice A2 fl.length c2] 44) (Nat.lt_of_lt_of_le Hszw.out hb'.size)).trans ((hb'.block w.heap.size Hszw.out).trans (heap_alloc_new w _))
      have hbb := (hb0.trans (hb'.mono hb0.size)).alloc (hb0.trans (hb'.mono hb0.size)).size (.cells #[.int .u8 (fk.toNat : Int), .slice A2 fl.length c2] 44)
      go_wp2_with (refine wpList_store_row rfl 44 (.tmp 2) (.tmp 21) rfl w.heap.size _ rfl rfl _ _ hg' size_fr2 rfl (two_one rfl rfl) ?_)
      refine ret_cell2 rfl frTy2 w.heap.size _ _ _ (0, 0) rfl (setRow_heap _ _ _ _ _ _ hg') rfl ?_
      exact ⟨OneVal.no Hv.out, below_setRow hbb (Nat.le_refl _) _⟩
    · have Hv := Lib.hid (show oneF l = ((fk, fl), 0) by unfold oneF; rw [ht]; simp only [ne_eq, not_true_eq_false, if_false]; rw [if_neg hs])
      have hne : ((N : Int) != (l.length : Int)) = false := by rw [bne_eq_false_iff_eq]; omega
      have hne' : (N != l.length) = false := by rw [bne_eq_false_iff_eq]; omega
      clear ht
      go_enter Try.func36, Try.ntmps36
      go_wp2_with fail
      refine (refFrTake_any A c B l 0 _ Hl.out hcap HBW.out HrW.out).mono ?_
      rintro e' w' ⟨⟨v, rfl, hown⟩, hb'⟩
      rw [Ht.out] at hown ⊢
      obtain ⟨A2, c2, rfl, _, _, _⟩ := own_form hown
      simp only at hown ⊢
      have hlo : (w.alloc (.cells #[.int .u8 0, .slice none 0 0] 44)).heap.size ≤ w'.heap.size := hb'.size
      have hg' := (heap_alloc_old w' (.cells #[.int .u8 (fk.toNat : Int), .slice A2 fl.length c2] 44) (Nat.lt_of_lt_of_le Hszw.out hb'.size)).trans ((hb'.block w.heap.size Hszw.out).trans (heap_alloc_new w _))
      have hgf := heap_alloc_new w' (.cells #[.int .u8 (fk.toNat : Int), .slice A2 fl.length c2] 44)
      have hbb := (hb0.trans (hb'.mono hb0.size)).alloc (hb0.trans (hb'.mono hb0.size)).size (.cells #[.int .u8 (fk.toNat : Int), .slice A2 fl.length c2] 44)
      have hap : (Value.slice A2 fl.length c2).ownBlock ≠ some w.heap.size := by
        intro e
        have := (hown.lt _ e).1
        have := Hszw.out
        omega
      have hownA := own_setRow ((own_mono hown (base' := w.heap.size) (by simp)).alloc (.cells #[.int .u8 (fk.toNat : Int), .slice A2 fl.length c2] 44)) hap #[.int .u8 (fk.toNat : Int), .slice A2 fl.length c2]
      have HownA := Lib.hid hownA
      clear hownA hap hown
      go_wp2_with (first
        | refine wpList_load_row rfl 44 (.tmp 4) rfl w'.heap.size rfl _ _ _ _ hgf Try.underlying44 rfl size_fr2 ?_
        | refine wpList_store_row rfl 44 (.tmp 2) (.tmp 22) rfl w.heap.size _ rfl rfl _ _ hg' size_fr2 rfl (two_one rfl rfl) ?_)
      refine ret_cell2 rfl frTy2 w.heap.size _ _ _ (0, 0) rfl (setRow_heap _ _ _ _ _ _ hg') rfl ?_
      rw [Hv.out]
      exact ⟨⟨_, rfl, HownA.out⟩, below_setRow hbb (Nat.le_refl _) _⟩
  · have herr := takeF_err (b := l) (p := 0) (by rw [ht]; exact he)
    rw [ht] at herr
    simp only [Prod.mk.injEq] at herr
    obtain ⟨⟨rfl, rfl⟩, rfl, -⟩ := herr
    have Hv := Lib.hid (show oneF l = ((0, []), e) by unfold oneF; rw [ht]; simp only; rw [if_pos he])
    have heI : ((e : Int) != 0) = true := by rw [bne_iff_ne]; omega
    have heI' : (e != 0) = true := by rw [bne_iff_ne]; omega
    clear ht he
    go_enter Try.func36, Try.ntmps36
    go_wp2_with fail
    refine (refFrTake_any A c B l 0 _ Hl.out hcap HBW.out HrW.out).mono ?_
    rintro e' w' ⟨⟨v, rfl, hown⟩, hb'⟩
    rw [Ht.out] at hown ⊢
    obtain ⟨A2, c2, rfl, _, _, _⟩ := own_form hown
    simp only
    have hg' := (heap_alloc_old w' (.cells #[.int .u8 0, .slice A2 0 c2] 44) (Nat.lt_of_lt_of_le Hszw.out hb'.size)).trans ((hb'.block w.heap.size Hszw.out).trans (heap_alloc_new w _))
    have hbb := (hb0.trans (hb'.mono hb0.size)).alloc (hb0.trans (hb'.mono hb0.size)).size (.cells #[.int .u8 0, .slice A2 0 c2] 44)
    go_wp2_with (refine wpList_store_row rfl 44 (.tmp 2) (.tmp 15) rfl w.heap.size _ rfl rfl _ _ hg' size_fr2 rfl (two_one rfl rfl) ?_)
    refine ret_cell2 rfl frTy2 w.heap.size _ _ _ (0, 0) rfl (setRow_heap _ _ _ _ _ _ hg') rfl ?_
    exact ⟨OneVal.no Hv.out, below_setRow hbb (Nat.le_refl _) _⟩
end Go.Proofs.Ytfhcpjnjemojgaa
