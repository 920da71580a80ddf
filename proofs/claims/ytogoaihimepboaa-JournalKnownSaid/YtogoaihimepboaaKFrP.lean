/- The walks of frame.Put, and of the document's Put and Join. Conditions: bodies of at most 2^47 - 4096 bytes; at most 1000 frames. -/
import Derived.Test.YtogoaihimepboaaKFrL
namespace Go.Proofs.Ytogoaihimepboaa
open Go.RowKit

theorem joinF_one_ok {k : UInt8} {l : List UInt8} (h : l.length ≤ 65535) : joinF [(k, l)] = (encFr k l, 0) := by
  rw [joinF_ok (by intro f hf; simp only [List.mem_singleton] at hf; subst hf; exact h)]
  simp [encFs]
theorem joinF_one_no {k : UInt8} {l : List UInt8} (h : 65535 < l.length) : joinF [(k, l)] = ([], 3) := joinF_no (f := (k, l)) (by simp) h

set_option maxHeartbeats 1000000 in
set_option maxRecDepth 100000 in
theorem refFrPut_any (f : Fr) (B : Nat) (w : World) (hf : f.r.l.length ≤ 140737488351232) (hB : B ≤ w.heap.size) (hr : RdB w B f.r.A f.r.l) :
    Calls Try.prog 36 #[f.v] w fun e w' => BytesErr w.heap.size (joinF [(f.k, f.r.l)]) e w' ∧ Below w.heap.size w w' := by
  have Hf := Lib.hid hf
  have hbW := (Below.refl w.heap.size w).alloc (Nat.le_refl _) (.cells #[.int .u8 (f.k.toNat : Int), .slice f.r.A f.r.l.length f.r.c] 61)
  have hrW : RdB (w.alloc (.cells #[.int .u8 (f.k.toNat : Int), .slice f.r.A f.r.l.length f.r.c] 61)) B f.r.A f.r.l := Reads.alloc hr hB _
  have HrW : Hid (RdB _ _ _ _) := hrW
  have hlI : (f.r.l.length : Int) ≤ 140737488351232 := by omega
  have hv : f.v = .agg #[.int .u8 (f.k.toNat : Int), .slice f.r.A f.r.l.length f.r.c] := rfl
  rw [hv]
  by_cases hbig : 65535 < f.r.l.length
  · have hll : (65535 : Int) < (f.r.l.length : Int) := by omega
    have Hv := Lib.hid (joinF_one_no (k := f.k) hbig)
    clear hf hr hrW hv hbig
    go_enter Try.func36, Try.ntmps36
    go_wp2
    go_ret2
    rw [Hv.out]
    exact ⟨⟨_, rfl, World.ownsRow_nil _ _ _ _⟩, hbW⟩
  · have hll : (f.r.l.length : Int) ≤ 65535 := by omega
    have Hv := Lib.hid (joinF_one_ok (k := f.k) (l := f.r.l) (by omega))
    clear hf hr hrW hv hbig hlI
    go_enter Try.func36, Try.ntmps36
    go_wp2_with fail
    refine (refBytes_any f B _ Hf.out (by simp; omega) HrW.out).mono ?_
    rintro e w3 ⟨v3, rfl, hown3, hb3⟩
    go_wp2
    go_ret2
    rw [Hv.out]
    exact ⟨⟨_, rfl, own_mono hown3 (by simp)⟩, hbW.trans (hb3.mono hbW.size)⟩

theorem joinF_take {l : List Fk} {k : Nat} (h : ∀ f ∈ l.take k, f.2.length ≤ 65535) : (encFs (l.take k)).length ≤ 65550 * k := by
  have := encFs_le h k
  rwa [List.take_take, Nat.min_self] at this

end Go.Proofs.Ytogoaihimepboaa
