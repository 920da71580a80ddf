/- The walks of frame.Put, and of the document's Put and Join. Conditions: bodies of at most 2^47 - 4096 bytes; at most 1000 frames. -/
import Derived.Test.YtfjgmbnnmobkbaaFrL
namespace Go.Proofs.Ytfjgmbnnmobkbaa
open Go.RowKit

theorem joinF_one_ok {k : UInt8} {l : List UInt8} (h : l.length ≤ 65535) : joinF [(k, l)] = (encFr k l, 0) := by
  rw [joinF_ok (by intro f hf; simp only [List.mem_singleton] at hf; subst hf; exact h)]
  simp [encFs]
theorem joinF_one_no {k : UInt8} {l : List UInt8} (h : 65535 < l.length) : joinF [(k, l)] = ([], 3) := joinF_no (f := (k, l)) (by simp) h

set_option maxHeartbeats 1000000 in
set_option maxRecDepth 100000 in
theorem frPut_any (f : Fr) (B : Nat) (w : World) (hf : f.r.l.length ≤ 140737488351232) (hB : B ≤ w.heap.size) (hr : RdB w B f.r.A f.r.l) :
    Calls Try.prog 15 #[f.v] w fun e w' => BytesErr w.heap.size (joinF [(f.k, f.r.l)]) e w' ∧ Below w.heap.size w w' := by
  have Hf := Lib.hid hf
  have hbW := (Below.refl w.heap.size w).alloc (Nat.le_refl _) (.cells #[.int .u8 (f.k.toNat : Int), .slice f.r.A f.r.l.length f.r.c] 26)
  have hrW : RdB (w.alloc (.cells #[.int .u8 (f.k.toNat : Int), .slice f.r.A f.r.l.length f.r.c] 26)) B f.r.A f.r.l := Reads.alloc hr hB _
  have hrf := RdF.new (w.alloc (.cells #[.int .u8 (f.k.toNat : Int), .slice f.r.A f.r.l.length f.r.c] 26)) B [f] 26 (by simp; omega) (by intro g hg; simp only [List.mem_singleton] at hg; subst hg; exact hrW)
  have esz : (w.alloc (.cells #[.int .u8 (f.k.toNat : Int), .slice f.r.A f.r.l.length f.r.c] 26)).heap.size = w.heap.size + 1 := by simp
  rw [esz] at hrf
  have Hrf := Lib.hid hrf.top
  have Hrow := Lib.hid hrf.row
  have hb2 := hbW.alloc hbW.size (.cells (fcells [f]).toArray 26)
  have hfl : Hid (∀ g ∈ [f], g.r.l.length ≤ 140737488351232) := by intro g hg; simp only [List.mem_singleton] at hg; subst hg; exact hf
  have hv : f.v = .agg #[.int .u8 (f.k.toNat : Int), .slice f.r.A f.r.l.length f.r.c] := rfl
  rw [hv]
  clear hf hr hrW hrf hbW hv esz
  go_enter Try.func15, Try.ntmps15
  go_wp2_with fail
  refine (join_any (some ⟨w.heap.size + 1, 0, none⟩) 1 [f] _ (by simp) hfl.out (RdF.more ⟨Hrf.out, Hrow.out⟩ (by simp))).mono ?_
  rintro e w3 ⟨⟨v3, rfl, hown3⟩, hb3⟩
  go_wp2
  go_ret2
  exact ⟨⟨_, rfl, own_mono hown3 (by simp; omega)⟩, hb2.trans (hb3.mono hb2.size)⟩

set_option maxHeartbeats 1000000 in
set_option maxRecDepth 100000 in
theorem refFrPut_any (f : Fr) (B : Nat) (w : World) (hf : f.r.l.length ≤ 140737488351232) (hB : B ≤ w.heap.size) (hr : RdB w B f.r.A f.r.l) :
    Calls Try.prog 16 #[f.v] w fun e w' => BytesErr w.heap.size (joinF [(f.k, f.r.l)]) e w' ∧ Below w.heap.size w w' := by
  have Hf := Lib.hid hf
  have hbW := (Below.refl w.heap.size w).alloc (Nat.le_refl _) (.cells #[.int .u8 (f.k.toNat : Int), .slice f.r.A f.r.l.length f.r.c] 38)
  have hrW : RdB (w.alloc (.cells #[.int .u8 (f.k.toNat : Int), .slice f.r.A f.r.l.length f.r.c] 38)) B f.r.A f.r.l := Reads.alloc hr hB _
  have HrW : Hid (RdB _ _ _ _) := hrW
  have hlI : (f.r.l.length : Int) ≤ 140737488351232 := by omega
  have hv : f.v = .agg #[.int .u8 (f.k.toNat : Int), .slice f.r.A f.r.l.length f.r.c] := rfl
  rw [hv]
  by_cases hbig : 65535 < f.r.l.length
  · have hll : (65535 : Int) < (f.r.l.length : Int) := by omega
    have Hv := Lib.hid (joinF_one_no (k := f.k) hbig)
    clear hf hr hrW hv hbig
    go_enter Try.func16, Try.ntmps16
    go_wp2
    go_ret2
    rw [Hv.out]
    exact ⟨⟨_, rfl, World.ownsRow_nil _ _ _ _⟩, hbW⟩
  · have hll : (f.r.l.length : Int) ≤ 65535 := by omega
    have Hv := Lib.hid (joinF_one_ok (k := f.k) (l := f.r.l) (by omega))
    clear hf hr hrW hv hbig hlI
    go_enter Try.func16, Try.ntmps16
    go_wp2_with fail
    refine (refBytes_any f B _ Hf.out (by simp; omega) HrW.out).mono ?_
    rintro e w3 ⟨v3, rfl, hown3, hb3⟩
    go_wp2
    go_ret2
    rw [Hv.out]
    exact ⟨⟨_, rfl, own_mono hown3 (by simp)⟩, hbW.trans (hb3.mono hbW.size)⟩

theorem joinF_take {l : List Fk} {k : Nat} (h : ∀ f ∈ l.take k, f.2.length ≤ 65535) : (encFs (l.take k)).length ≤ 65550 * k := by
  have := encFs_le h k
  rwa [List.take_take, Nat.min_self] at this

set_option maxHeartbeats 1000000 in
set_option maxRecDepth 100000 in
theorem refJoin_any (A : Option Addr) (c : Nat) (fs : List Fr) (w : World) (hl : fs.length ≤ 1000) (hls : ∀ f ∈ fs, f.r.l.length ≤ 140737488351232) (hr : RdF w w.heap.size A fs) :
    Calls Try.prog 12 #[.slice A fs.length c] w fun e w' => BytesErr w.heap.size (joinF (fks fs)) e w' ∧ Below w.heap.size w w' := by
  have hlen : (fs.length : Int) ≤ 1000 := by omega
  have Hls := Lib.hid hls
  clear hl hls
  go_enter Try.func12, Try.ntmps12
  go_wp2
  go_loopw [4, 5] (fun v i wr => ∃ k : Nat, k ≤ fs.length ∧ i = .int .i64 (k : Int) ∧ Hid (∀ f ∈ (fks fs).take k, f.2.length ≤ 65535) ∧ wr.ownsRow w.heap.size 5 1 v (encFs ((fks fs).take k)).length (bs (encFs ((fks fs).take k))) ∧ Below w.heap.size w wr) (fun _ i _ => fs.length - (intOf i).toNat)
  case atStart => exact ⟨0, by omega, rfl, by intro f hf; simp at hf, by simpa [encFs, bs] using World.ownsRow_nil w w.heap.size 5 1, .refl _ _⟩
  case round =>
    obtain ⟨k, hk, rfl, hall, hown, hb⟩ := hrel
    by_cases hlt : k < fs.length
    · obtain ⟨ad, f, rfl, _, hc1, hc2, hx, hrow⟩ := (hr.below hb).at_ hlt
      have hx' := fks_get hx
      have Hfl := Lib.hid (Hls.out f (mem_of_get hx))
      have Hbz := Lib.hid hb.size
      by_cases hbig : 65535 < f.r.l.length
      · have Hv := Lib.hid (joinF_no (l := fks fs) (f := (f.k, f.r.l)) (mem_of_get hx') hbig)
        have Hv1 := Lib.hid (joinF_one_no (k := f.k) hbig)
        clear hbig hall
        go_wp2_with fail
        refine (refFrPut_any f w.heap.size _ Hfl.out Hbz.out hrow).mono ?_
        rintro e w1 ⟨⟨v1, rfl, hown1⟩, hb1⟩
        rw [Hv1.out] at hown1 ⊢
        go_wp2
        go_ret2
        rw [Hv.out]
        exact ⟨⟨_, rfl, World.ownsRow_nil _ _ _ _⟩, hb.trans (hb1.mono hb.size)⟩
      · have hsm : f.r.l.length ≤ 65535 := by omega
        have Hv1 := Lib.hid (joinF_one_ok (k := f.k) hsm)
        have hall' : Hid (∀ f ∈ (fks fs).take (k + 1), f.2.length ≤ 65535) := by
          intro g hg
          rw [take_snoc hx', List.mem_append, List.mem_singleton] at hg
          rcases hg with hg | rfl
          · exact hall.out g hg
          · exact hsm
        have hle := joinF_take hall'.out
        rw [encFs_snoc hx', List.length_append] at hle
        have Hle := Lib.hid (show (encFs ((fks fs).take k)).length + (encFr f.k f.r.l).length ≤ 140737488355327 by simp only at hle; omega)
        clear hle
        clear hbig hall hsm
        go_wp2_with fail
        refine (refFrPut_any f w.heap.size _ Hfl.out Hbz.out hrow).mono ?_
        rintro e w1 ⟨⟨v1, rfl, hown1⟩, hb1⟩
        rw [Hv1.out] at hown1 ⊢
        obtain ⟨A1, c1, rfl, _, _, hr1⟩ := own_form hown1
        go_wp2_with (at_builtin; refine push_row (.tmp 25) (.tmp 26) (own_below hown hb1 (Nat.le_refl _)) (Nat.le_trans hb.size hb1.size) hr1 Hle.out rfl rfl rfl rfl ?_; intro v2 w2 hown2 hb2 hbs2 hg2; clear hown hown1 hr1)
        go_roundw
        case rel => exact ⟨k + 1, by omega, by go_num, hall', by rw [encFs_snoc hx']; exact hown2, (hb.trans (hb1.mono hb.size)).trans hb2⟩
        case measure => simp [intOf]; omega
    · obtain rfl : k = fs.length := by omega
      rw [← fks_len, List.take_length] at hown hall
      have Hv := Lib.hid (joinF_ok hall.out)
      go_wp2
      go_ret2
      rw [Hv.out]
      exact ⟨⟨_, rfl, hown⟩, hb⟩
end Go.Proofs.Ytfjgmbnnmobkbaa
