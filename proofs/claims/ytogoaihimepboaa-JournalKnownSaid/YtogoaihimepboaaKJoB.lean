/- The walks of Next, the project's and the document's. Conditions: bytes of at most 2^40. -/
import Derived.Test.YtogoaihimepboaaKJoA
namespace Go.Proofs.Ytogoaihimepboaa
open Go.RowKit

/-- Next's answer as a value, in a world. -/
def NxVal (base : Nat) (r : List UInt8 × Int × Nat) (e : Ending) (w' : World) : Prop :=
  ∃ v, e = .returned (.tuple #[v, .int .i64 r.2.1, .int .i64 (r.2.2 : Nat)]) ∧ w'.ownsRow base 5 1 v r.1.length (bs r.1)
theorem NxVal.no {base : Nat} {w' : World} {p : Int} {e : Nat} : NxVal base ([], p, e) (.returned (.tuple #[.slice none 0 0, .int .i64 p, .int .i64 (e : Nat)])) w' := ⟨_, rfl, World.ownsRow_nil _ _ _ _⟩

set_option maxHeartbeats 1000000 in
set_option maxRecDepth 100000 in
theorem next_any (A : Option Addr) (c B n : Nat) (l : List UInt8) (p : Int) (w : World) (hn : l.length = n) (hl : n ≤ 1099511627776) (hcap : n ≤ c) (hB : B ≤ w.heap.size) (hr : RdB w B A l) :
    Calls Try.prog 9 #[.slice A n c, .int .i64 p] w fun e w' => NxVal w.heap.size (nxJ l p) e w' ∧ Below w.heap.size w w' := by
  have hnI : (n : Int) ≤ 1099511627776 := by omega
  obtain ⟨fk, M, nx, er, ht⟩ : ∃ fk M nx e, takeF l p = ((fk, M), nx, e) := ⟨_, _, _, _, rfl⟩
  have Ht := Lib.hid ht
  have Hn := Lib.hid hn
  have Hl := Lib.hid hl
  have Hcap := Lib.hid hcap
  have HB := Lib.hid hB
  have Hr := Lib.hid hr
  have hfk := fk.toNat_lt
  have hfkI : (fk.toNat : Int) < 256 := by omega
  have hT := frTake_any A c B l p w (by rw [Hn.out]; exact Hl.out) (by rw [Hn.out]; exact Hcap.out) HB.out Hr.out
  rw [Hn.out] at hT
  have HT := Lib.hid hT
  clear hr hl hcap hB hn hT hfk
  by_cases he : er = 0
  · subst he
    by_cases hk : fk = 9
    · subst hk
      have hv := Lib.hid (nxJ_good (b := l) (p := p) (by rw [ht]) (by rw [ht]))
      rw [hv.out, ht]
      simp only
      clear ht hv
      go_enter Try.func9, Try.ntmps9
      go_wp2_with (go_at_call 30; refine HT.out.mono ?_; rintro e w2 ⟨⟨v2, rfl, hown2⟩, hb2⟩; rw [Ht.out] at hown2 ⊢; simp only at hown2 ⊢; obtain ⟨A2, c2, rfl, _, _, _⟩ := own_form hown2; have Hown2 := Lib.hid hown2; have Hb2 := Lib.hid hb2; clear hown2 hb2)
      go_ret3
      exact ⟨⟨_, rfl, Hown2.out.alloc _⟩, Hb2.out.alloc Hb2.out.size _⟩
    · have hkI : ((fk.toNat : Int) != 9) = true := by
        rw [bne_iff_ne]
        intro e
        exact hk (UInt8.toNat_inj.1 (by simpa using (by omega : fk.toNat = 9)))
      have hkI' : ((fk.toNat : Int) == 9) = false := by
        rw [beq_eq_false_iff_ne]
        intro e
        exact hk (UInt8.toNat_inj.1 (by simpa using (by omega : fk.toNat = 9)))
      have hkN : (fk.toNat != 9) = true := by
        rw [bne_iff_ne]
        intro e
        exact hk (UInt8.toNat_inj.1 (by simpa using e))
      have hv := Lib.hid (nxJ_kind (b := l) (p := p) (by rw [ht]) (by rw [ht]; exact hk))
      rw [hv.out]
      clear ht hv hk
      go_enter Try.func9, Try.ntmps9
      go_wp2_with (go_at_call 30; refine HT.out.mono ?_; rintro e w2 ⟨⟨v2, rfl, hown2⟩, hb2⟩; rw [Ht.out] at hown2 ⊢; simp only at hown2 ⊢; obtain ⟨A2, c2, rfl, _, _, _⟩ := own_form hown2; have Hown2 := Lib.hid hown2; have Hb2 := Lib.hid hb2; clear hown2 hb2)
      go_ret3
      exact ⟨NxVal.no, Hb2.out.alloc Hb2.out.size _⟩
  · have heI : ((er : Int) != 0) = true := by rw [bne_iff_ne]; omega
    have heN : (er != 0) = true := by rw [bne_iff_ne]; exact he
    have heI' : ((er : Int) == 0) = false := by rw [beq_eq_false_iff_ne]; omega
    have hv := Lib.hid (nxJ_err (b := l) (p := p) (by rw [ht]; exact he))
    rw [hv.out, ht]
    simp only
    clear ht hv he
    go_enter Try.func9, Try.ntmps9
    go_wp2_with (go_at_call 30; refine HT.out.mono ?_; rintro e w2 ⟨⟨v2, rfl, hown2⟩, hb2⟩; rw [Ht.out] at hown2 ⊢; simp only at hown2 ⊢; obtain ⟨A2, c2, rfl, _, _, _⟩ := own_form hown2; have Hown2 := Lib.hid hown2; have Hb2 := Lib.hid hb2; clear hown2 hb2)
    go_ret3
    exact ⟨NxVal.no, Hb2.out.alloc Hb2.out.size _⟩

set_option maxHeartbeats 1000000 in
set_option maxRecDepth 100000 in
theorem refNext_any (A : Option Addr) (c B n : Nat) (l : List UInt8) (p : Int) (w : World) (hn : l.length = n) (hl : n ≤ 1099511627776) (hcap : n ≤ c) (hB : B ≤ w.heap.size) (hr : RdB w B A l) :
    Calls Try.prog 10 #[.slice A n c, .int .i64 p] w fun e w' => NxVal w.heap.size (nxJ l p) e w' ∧ Below w.heap.size w w' := by
  have hnI : (n : Int) ≤ 1099511627776 := by omega
  obtain ⟨fk, M, nx, er, ht⟩ : ∃ fk M nx e, takeF l p = ((fk, M), nx, e) := ⟨_, _, _, _, rfl⟩
  have Ht := Lib.hid ht
  have Hn := Lib.hid hn
  have Hl := Lib.hid hl
  have Hcap := Lib.hid hcap
  have HB := Lib.hid hB
  have Hr := Lib.hid hr
  have hfk := fk.toNat_lt
  have hfkI : (fk.toNat : Int) < 256 := by omega
  have hT := refFrTake_any A c B l p w (by rw [Hn.out]; exact Hl.out) (by rw [Hn.out]; exact Hcap.out) HB.out Hr.out
  rw [Hn.out] at hT
  have HT := Lib.hid hT
  clear hr hl hcap hB hn hT hfk
  by_cases he : er = 0
  · subst he
    by_cases hk : fk = 9
    · subst hk
      have hv := Lib.hid (nxJ_good (b := l) (p := p) (by rw [ht]) (by rw [ht]))
      rw [hv.out, ht]
      simp only
      clear ht hv
      go_enter Try.func10, Try.ntmps10
      go_wp2_with (go_at_call 31; refine HT.out.mono ?_; rintro e w2 ⟨⟨v2, rfl, hown2⟩, hb2⟩; rw [Ht.out] at hown2 ⊢; simp only at hown2 ⊢; obtain ⟨A2, c2, rfl, _, _, _⟩ := own_form hown2; have Hown2 := Lib.hid hown2; have Hb2 := Lib.hid hb2; clear hown2 hb2)
      go_ret3
      exact ⟨⟨_, rfl, Hown2.out.alloc _⟩, Hb2.out.alloc Hb2.out.size _⟩
    · have hkI : ((fk.toNat : Int) != 9) = true := by
        rw [bne_iff_ne]
        intro e
        exact hk (UInt8.toNat_inj.1 (by simpa using (by omega : fk.toNat = 9)))
      have hkI' : ((fk.toNat : Int) == 9) = false := by
        rw [beq_eq_false_iff_ne]
        intro e
        exact hk (UInt8.toNat_inj.1 (by simpa using (by omega : fk.toNat = 9)))
      have hkN : (fk.toNat != 9) = true := by
        rw [bne_iff_ne]
        intro e
        exact hk (UInt8.toNat_inj.1 (by simpa using e))
      have hv := Lib.hid (nxJ_kind (b := l) (p := p) (by rw [ht]) (by rw [ht]; exact hk))
      rw [hv.out]
      clear ht hv hk
      go_enter Try.func10, Try.ntmps10
      go_wp2_with (go_at_call 31; refine HT.out.mono ?_; rintro e w2 ⟨⟨v2, rfl, hown2⟩, hb2⟩; rw [Ht.out] at hown2 ⊢; simp only at hown2 ⊢; obtain ⟨A2, c2, rfl, _, _, _⟩ := own_form hown2; have Hown2 := Lib.hid hown2; have Hb2 := Lib.hid hb2; clear hown2 hb2)
      go_ret3
      exact ⟨NxVal.no, Hb2.out.alloc Hb2.out.size _⟩
  · have heI : ((er : Int) != 0) = true := by rw [bne_iff_ne]; omega
    have heN : (er != 0) = true := by rw [bne_iff_ne]; exact he
    have heI' : ((er : Int) == 0) = false := by rw [beq_eq_false_iff_ne]; omega
    have hv := Lib.hid (nxJ_err (b := l) (p := p) (by rw [ht]; exact he))
    rw [hv.out, ht]
    simp only
    clear ht hv he
    go_enter Try.func10, Try.ntmps10
    go_wp2_with (go_at_call 31; refine HT.out.mono ?_; rintro e w2 ⟨⟨v2, rfl, hown2⟩, hb2⟩; rw [Ht.out] at hown2 ⊢; simp only at hown2 ⊢; obtain ⟨A2, c2, rfl, _, _, _⟩ := own_form hown2; have Hown2 := Lib.hid hown2; have Hb2 := Lib.hid hb2; clear hown2 hb2)
    go_ret3
    exact ⟨NxVal.no, Hb2.out.alloc Hb2.out.size _⟩

end Go.Proofs.Ytogoaihimepboaa
