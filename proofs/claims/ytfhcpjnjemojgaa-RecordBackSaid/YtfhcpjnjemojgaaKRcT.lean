/- The walk of the chapter's examples (works): they hold. Conditions: none. -/
import Derived.Test.YtfhcpjnjemojgaaKRcR
namespace Go.Proofs.Ytfhcpjnjemojgaa
open Go.RowKit

def bs1 : List UInt8 := encFr 3 [1, 2, 3, 172, 2]
def bs2 : List UInt8 := encFr 9 [0, 0, 1, 2, 97, 98]
theorem bs1_len : bs1.length = 11 := by decide +kernel
theorem bs2_len : bs2.length = 12 := by decide +kernel
theorem bs1_take : bs1.take 7 = [3, 5, 1, 2, 3, 172, 2] := by decide +kernel
theorem bs2_take : bs2.take 8 = [9, 6, 0, 0, 1, 2, 97, 98] := by decide +kernel
theorem put1_eq : putM ⟨3, 1, 2, 3, 300, 0, 0, 0, 0, 0, [], []⟩ = (bs1, 0) := by decide +kernel
theorem put2_eq : putM ⟨9, 0, 0, 1, 0, 0, 0, 0, 0, 0, [97, 98], []⟩ = (bs2, 0) := by decide +kernel
theorem put1_any (w : World) : Calls Try.prog 12 #[.agg #[.int .u8 3, .int .u64 1, .int .u64 2, .int .u64 3, .int .u64 300, .int .u64 0, .int .u64 0, .int .u64 0, .int .u64 0, .int .u64 0, .string ⟨#[]⟩, .string ⟨#[]⟩]] w fun e w' => BytesErr w.heap.size (bs1, 0) e w' ∧ Below w.heap.size w w' := by
  have h := rput_any ⟨3, 1, 2, 3, 300, 0, 0, 0, 0, 0, [], []⟩ ⟨by decide, fun j => by unfold Rc.num; split <;> simp⟩ w
  rw [put1_eq] at h
  exact h
theorem put2_any (w : World) : Calls Try.prog 12 #[.agg #[.int .u8 9, .int .u64 0, .int .u64 0, .int .u64 1, .int .u64 0, .int .u64 0, .int .u64 0, .int .u64 0, .int .u64 0, .int .u64 0, .string ⟨#[97, 98]⟩, .string ⟨#[]⟩]] w fun e w' => BytesErr w.heap.size (bs2, 0) e w' ∧ Below w.heap.size w w' := by
  have h := rput_any ⟨9, 0, 0, 1, 0, 0, 0, 0, 0, 0, [97, 98], []⟩ ⟨by decide, fun j => by unfold Rc.num; split <;> simp⟩ w
  rw [put2_eq] at h
  exact h
theorem rdB_new (l : List UInt8) (w : World) : RdB (w.alloc (.cells (bs l).toArray 5)) (w.heap.size + 1) (some ⟨w.heap.size, 0, none⟩) l := by
  refine ⟨by simp [bs], fun _ => ⟨_, rfl, by simp, fun j u hu => ?_⟩⟩
  have hadd : (⟨w.heap.size, 0, none⟩ : Addr).add j = ⟨w.heap.size, j, none⟩ := by unfold Addr.add; split <;> simp_all
  rw [hadd, cell_of_row (w.alloc (.cells (bs l).toArray 5)) w.heap.size j (bs l).toArray 5 (0, 0) (heap_alloc_new w _)]
  simpa using hu
theorem sameN_any {A A' : Option Addr} {c c' B B' n n' : Nat} {l m : List UInt8} {w : World} (hn : l.length = n) (hn' : m.length = n') (hl : n ≤ 140737488351232) (hr : RdB w B A l) (hm : RdB w B' A' m) :
    Calls Try.prog 13 #[.slice A n c, .slice A' n' c'] w fun e w' => e = .returned (.bool (decide (l = m))) ∧ Below w.heap.size w w' := by
  subst hn hn'
  refine (sameBytes_any A A' c c' B B' l m w hl hr hm).mono ?_
  rintro e w' ⟨rfl, k, rfl⟩
  exact ⟨rfl, below_drewN (.refl _ _) k⟩
set_option maxHeartbeats 4000000 in
set_option maxRecDepth 100000 in
theorem works6_any (w : World) : Calls Try.prog 9 #[] w fun e w' => e = .returned (.bool true) ∧ Below w.heap.size w w' := by
  go_enter Try.func9, Try.ntmps9
  go_upto_region 2 with (go_at_call 12; refine (put1_any _).mono ?_; rintro e w1 ⟨⟨v, rfl, hown⟩, hb1⟩; simp only; obtain ⟨A1, c1, rfl, hc1, _, hr1⟩ := own_form hown)
  go_upto_region 3 with (go_at_call 12; refine (put2_any _).mono ?_; rintro e w2 ⟨⟨v, rfl, hown2⟩, hb2⟩; simp only; obtain ⟨A2, c2, rfl, hc2, _, hr2⟩ := own_form hown2)
  simp only at hr1 hr2 hc1 hc2
  have HR1 : Hid (RdB w2 w1.heap.size A1 bs1) := Lib.hid (Reads.below hr1 hb2)
  have HR2 : Hid (RdB w2 w2.heap.size A2 bs2) := Lib.hid hr2
  have HB2 := Lib.hid (hb1.trans (hb2.mono hb1.size))
  have HL := Lib.hid hb2.size
  rw [bs1_len] at hc1
  rw [bs2_len] at hc2
  rw [show (bs1, 0).1.length = 11 from bs1_len, show (bs2, 0).1.length = 12 from bs2_len]
  have hf1 : (7 : Int) ≤ (c1 : Int) := by omega
  have hf2 : (8 : Int) ≤ (c2 : Int) := by omega
  have Hc1 := Lib.hid hc1
  have Hc2 := Lib.hid hc2
  clear hr1 hr2 hown hown2 hb1 hb2 hc1 hc2
  go_wp2_with fail
  have hrb : Below w2.heap.size w2 (w2.alloc (.cells (bs [3, 5, 1, 2, 3, 172, 2]).toArray 5)) := below_new _ _
  refine (sameN_any (l := bs1.take 7) (m := [3, 5, 1, 2, 3, 172, 2]) (by rw [List.length_take, bs1_len]; rfl) rfl (by omega) ((RdB.first HR1.out (by rw [bs1_len]; omega)).below (hrb.mono HL.out)) (rdB_new [3, 5, 1, 2, 3, 172, 2] w2)).mono ?_
  rintro e w3 ⟨rfl, hb3⟩
  rw [decide_eq_true bs1_take]
  have hB3 : Below w2.heap.size w2 w3 := hrb.trans (hb3.mono hrb.size)
  have HR2' := Lib.hid (Reads.below HR2.out hB3)
  have HB3 := Lib.hid (HB2.out.trans (hB3.mono HB2.out.size))
  have HL3 := Lib.hid hB3.size
  clear hrb hb3 hB3
  go_wp2_with fail
  have hrb : Below w3.heap.size w3 (w3.alloc (.cells (bs [9, 6, 0, 0, 1, 2, 97, 98]).toArray 5)) := below_new _ _
  refine (sameN_any (l := bs2.take 8) (m := [9, 6, 0, 0, 1, 2, 97, 98]) (by rw [List.length_take, bs2_len]; rfl) rfl (by omega) ((RdB.first HR2'.out (by rw [bs2_len]; omega)).below (hrb.mono HL3.out)) (rdB_new [9, 6, 0, 0, 1, 2, 97, 98] w3)).mono ?_
  rintro e w4 ⟨rfl, hb4⟩
  rw [decide_eq_true bs2_take]
  have HB4 := Lib.hid ((HB3.out.trans (hrb.mono HB3.out.size)).trans (hb4.mono (Nat.le_trans HB3.out.size hrb.size)))
  clear hrb hb4
  go_wp2_with (go_at_call 16; refine (word_any 4 _).mono ?_; rintro e w5 ⟨rfl, hb5⟩)
  go_ret
  exact ⟨ret_bool (by rw [ByteArray.toList_eq]; rfl), HB4.out.trans (hb5.mono HB4.out.size)⟩
end Go.Proofs.Ytfhcpjnjemojgaa
