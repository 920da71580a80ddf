/- The walks of Used and Volatile. Conditions: at most 1000 files, of at most 1000 parts of 30 bytes. -/
import Derived.Test.YtlehkgogcbdckaaInC
namespace Go.Proofs.Ytlehkgogcbdckaa
open Go.RowKit Go.Maps

section
variable {w : World} {Z : Nat → Prop} {t N : Nat} {T : Tb}
theorem tused_nil (w : World) : Calls Try.prog 14 #[.pointer none] w fun e w' => e = .returned (.int .i64 0) ∧ w' = w := by
  go_enter Try.func14, Try.ntmps14
  go_wp2
  go_ret
  exact ⟨rfl, rfl⟩
set_option maxHeartbeats 2000000 in
set_option maxRecDepth 100000 in
theorem tused_any (h : TabAt w Z t T) (hok : T.Ok N) (hN : N ≤ 1000) :
    Calls Try.prog 14 #[.pointer (some ⟨t, 0, none⟩)] w fun e w' => e = .returned (.int .i64 (usedF T.fs : Nat)) ∧ Below w.heap.size w w' := by
  have htop : (usedF T.fs : Int) ≤ 30000000000 := by
    have h1 := hok.used
    have h2 : N * (N * 30) ≤ 1000 * (1000 * 30) := Nat.mul_le_mul hN (Nat.mul_le_mul_right _ hN)
    omega
  obtain ⟨c0, c1, c2⟩ := h.cells
  have H := Lib.hid h
  have Hok := Lib.hid hok
  cases hm : T.mp with
  | none =>
    rw [hm] at c2
    have hfs : T.fs = [] := h.non hm
    have hz : (usedF T.fs : Int) = 0 := by rw [hfs]; rfl
    have hz' : Hid (usedF T.fs = 0) := by show _ = _; rw [hfs]; rfl
    have hrg := run_range_nilMap (P := Try.prog) w 51 _ _ Try.underlying51
    have hnx : ∀ ty, (Instr.next (.pointer (some ⟨w.heap.size, 0, none⟩)) false ty).run Try.prog (w.alloc (.mapIter none 0 #[] 0)) = _ := fun ty => run_next_nilMap _ ty 0 0 #[]
    rw [hz'.out]
    clear h hok hfs hz hz' htop H Hok hm
    go_enter Try.func14, Try.ntmps14
    go_wp2
    refine wp_loop_rounds 1 ?_
    rw [rounds_succ]
    go_wp2
    go_ret
    exact ⟨rfl, below_new _ _⟩
  | some b =>
    rw [hm] at c2
    have hown := h.map b hm
    clear h hok
    go_enter Try.func14, Try.ntmps14
    go_wp2_with (at_range; refine wpList_range_own _ rfl _ 51 rfl 3 54 keyI Try.underlying51 _ b _ _ rfl hown ?_; intro w0 hrg0 hg0 hs0)
    go_frame
    obtain ⟨r, hr⟩ : ∃ r, Hid (w.heap.size = r) := ⟨_, rfl⟩
    have hB0 : Hid (Below w.heap.size w w0) := Go.RowKit.Below.grown (.refl _ _) hg0 (Nat.le_refl _) (fun j hj => by cases hj)
    rw [hr.out] at hrg0 ⊢
    clear hs0 hg0 c0 c1 c2 hown
    go_loopw [3] (fun s wr => ∃ (left : Lit → Bool) (cnt n : Nat), s = .int .i64 (n : Int) ∧ wr.ranges Try.prog 3 RF b r T.fs.length (datum T.fs) left cnt ∧ Hid (n + sumF (fun f => (contM f.m).length) (restF T.fs left) = usedF T.fs) ∧ Hid (Below w.heap.size w wr)) (fun _ wr => wr.rangeLeft b r)
    case atStart => exact ⟨_, _, 0, rfl, hrg0, by show _ = _; rw [rest_start, Nat.zero_add]; rfl, hB0⟩
    case round =>
      clear hrg0 hB0
      obtain ⟨left, cnt, n, rfl, hrg, hsum, hB⟩ := hrel
      have Hrg := Lib.hid hrg
      clear hrg
      go_wp2_with (at_next; refine wpList_next_ranges _ rfl _ rfl 3 keyI RF (Value.int .i64) ptr (fun key kl hk => by obtain ⟨x, hx, _⟩ := Maps.keyOf_int_inv Try.underlying3 hk; exact ⟨x, hx⟩) (fun v y hv => by obtain ⟨p, rfl, _⟩ := RF_inv hv; exact ⟨p, rfl⟩) b r _ _ _ _ rfl Hrg.out ?_ ?_)
      · intro hc0 hl0
        have hn : Hid (n = usedF T.fs) := by
          have := hsum.out
          rw [rest_end hl0] at this
          exact this
        clear hl0
        go_wp2
        go_ret
        exact ⟨by rw [hn.out]; rfl, hB.out⟩
      · intro x p kl yd yp w2 cnt2 hkey hlk hv hat hrg2 hlt hg2 hs2 hen
        obtain ⟨x', ex, rfl, hwf⟩ := Maps.keyOf_int_inv Try.underlying3 hkey
        obtain rfl : x = x' := by injection ex
        obtain ⟨rfl, rfl⟩ : yd = dt p ∧ yp = [] := by rw [RF_ptr] at hv; injection hv with hv; injection hv with h1 h2; exact ⟨h1.symm, h2.symm⟩
        obtain ⟨f, hf, rfl⟩ := datum_found hat
        have hrw : Hid (w.heap.size ≤ r) := by show _ ≤ _; rw [hr.out]; exact Nat.le_refl _
        have hB2 : Hid (Below w.heap.size w w2) := hB.out.trans (Go.RowKit.Below.grown (.refl _ _) hg2 hB.out.size (fun j hj => by injection hj with hj; have := hrw.out; omega))
        have h2 := Lib.hid (H.out.below hB2.out)
        obtain ⟨A, nn, c, hv2, hF⟩ := h2.out.filed hf
        have cf := bx_cell hv2
        obtain ⟨A', c', ps, e, hcap, hp, hsay⟩ := hF
        injection e with e1 e2 e3
        subst e1 e2 e3
        have hmem := (findF_mem hf).1
        have hsm : SmM (says ps) := by rw [hsay]; exact (Hok.out.size f hmem).sm hN
        have Hs := Lib.hid (len_any A c ps w2 hsm hp)
        have hstep := Lib.hid (rest_step (fun f => (contM f.m).length) Hok.out.sort hf hlk)
        obtain ⟨u, hu⟩ : ∃ u, Hid ((contM f.m).length = u) := ⟨_, rfl⟩
        rw [hsay, hu.out] at Hs
        have hun : Hid (n + u ≤ usedF T.fs) := by
          have a1 := hsum.out
          have a2 := hstep.out
          rw [hu.out] at a2
          show _ ≤ _
          omega
        have hunI : (n : Int) + (u : Int) ≤ 30000000000 := by have := hun.out; omega
        generalize f.g = g at *
        generalize ps.length = m at *
        have Hrg2 := Lib.hid hrg2
        have Hlt := Lib.hid hlt
        clear hv2 hp hsay hsm hcap hs2 hrg2 hg2 hat hkey ex hlk hv hlt hf hmem hwf
        simp only [ptr] at hen ⊢
        go_wp2_with (go_at_call 25; refine Hs.out.mono ?_; rintro e w3 ⟨rfl, hb3⟩; go_frame)
        have hB3 : Hid (Below w.heap.size w w3) := hB2.out.trans (hb3.mono hB2.out.size)
        have hrg3 : w3.ranges Try.prog 3 RF b r T.fs.length (datum T.fs) (fun z => left z && !z.sameKey (.int .i64 x)) cnt2 := Hrg2.out.kept (row := none) ⟨hb3.os, hb3.tape, hb3.output, hb3.size, fun i hi _ => hb3.block i hi⟩ (by simp) (by simp)
        go_roundw
        case rel => exact ⟨_, cnt2, n + u, by go_num, hrg3, by have a1 := hsum.out; have a2 := hstep.out; rw [hu.out] at a2; show _ = _; omega, hB3⟩
        case measure => rw [hrg3.left_eq, Hrg.out.left_eq]; exact Hlt.out
theorem tvol_nil (w : World) : Calls Try.prog 16 #[.pointer none] w fun e w' => e = .returned (.int .i64 0) ∧ w' = w := by
  go_enter Try.func16, Try.ntmps16
  go_wp2
  go_ret
  exact ⟨rfl, rfl⟩
set_option maxHeartbeats 2000000 in
set_option maxRecDepth 100000 in
theorem tvol_any (h : TabAt w Z t T) (hok : T.Ok N) (hN : N ≤ 1000) :
    Calls Try.prog 16 #[.pointer (some ⟨t, 0, none⟩)] w fun e w' => e = .returned (.int .i64 (volF T.fs : Nat)) ∧ Below w.heap.size w w' := by
  have htop : (volF T.fs : Int) ≤ 30000000000 := by
    have h1 := hok.vol
    have h2 : N * N ≤ 1000 * 1000 := Nat.mul_le_mul hN hN
    omega
  obtain ⟨c0, c1, c2⟩ := h.cells
  have H := Lib.hid h
  have Hok := Lib.hid hok
  cases hm : T.mp with
  | none =>
    rw [hm] at c2
    have hfs : T.fs = [] := h.non hm
    have hz : (volF T.fs : Int) = 0 := by rw [hfs]; rfl
    have hz' : Hid (volF T.fs = 0) := by show _ = _; rw [hfs]; rfl
    have hrg := run_range_nilMap (P := Try.prog) w 51 _ _ Try.underlying51
    have hnx : ∀ ty, (Instr.next (.pointer (some ⟨w.heap.size, 0, none⟩)) false ty).run Try.prog (w.alloc (.mapIter none 0 #[] 0)) = _ := fun ty => run_next_nilMap _ ty 0 0 #[]
    rw [hz'.out]
    clear h hok hfs hz hz' htop H Hok hm
    go_enter Try.func16, Try.ntmps16
    go_wp2
    refine wp_loop_rounds 1 ?_
    rw [rounds_succ]
    go_wp2
    go_ret
    exact ⟨rfl, below_new _ _⟩
  | some b =>
    rw [hm] at c2
    have hown := h.map b hm
    clear h hok
    go_enter Try.func16, Try.ntmps16
    go_wp2_with (at_range; refine wpList_range_own _ rfl _ 51 rfl 3 54 keyI Try.underlying51 _ b _ _ rfl hown ?_; intro w0 hrg0 hg0 hs0)
    go_frame
    obtain ⟨r, hr⟩ : ∃ r, Hid (w.heap.size = r) := ⟨_, rfl⟩
    have hB0 : Hid (Below w.heap.size w w0) := Go.RowKit.Below.grown (.refl _ _) hg0 (Nat.le_refl _) (fun j hj => by cases hj)
    rw [hr.out] at hrg0 ⊢
    clear hs0 hg0 c0 c1 c2 hown
    go_loopw [3] (fun s wr => ∃ (left : Lit → Bool) (cnt n : Nat), s = .int .i64 (n : Int) ∧ wr.ranges Try.prog 3 RF b r T.fs.length (datum T.fs) left cnt ∧ Hid (n + sumF (fun f => volM f.m) (restF T.fs left) = volF T.fs) ∧ Hid (Below w.heap.size w wr)) (fun _ wr => wr.rangeLeft b r)
    case atStart => exact ⟨_, _, 0, rfl, hrg0, by show _ = _; rw [rest_start, Nat.zero_add]; rfl, hB0⟩
    case round =>
      clear hrg0 hB0
      obtain ⟨left, cnt, n, rfl, hrg, hsum, hB⟩ := hrel
      have Hrg := Lib.hid hrg
      clear hrg
      go_wp2_with (at_next; refine wpList_next_ranges _ rfl _ rfl 3 keyI RF (Value.int .i64) ptr (fun key kl hk => by obtain ⟨x, hx, _⟩ := Maps.keyOf_int_inv Try.underlying3 hk; exact ⟨x, hx⟩) (fun v y hv => by obtain ⟨p, rfl, _⟩ := RF_inv hv; exact ⟨p, rfl⟩) b r _ _ _ _ rfl Hrg.out ?_ ?_)
      · intro hc0 hl0
        have hn : Hid (n = volF T.fs) := by
          have := hsum.out
          rw [rest_end hl0] at this
          exact this
        clear hl0
        go_wp2
        go_ret
        exact ⟨by rw [hn.out]; rfl, hB.out⟩
      · intro x p kl yd yp w2 cnt2 hkey hlk hv hat hrg2 hlt hg2 hs2 hen
        obtain ⟨x', ex, rfl, hwf⟩ := Maps.keyOf_int_inv Try.underlying3 hkey
        obtain rfl : x = x' := by injection ex
        obtain ⟨rfl, rfl⟩ : yd = dt p ∧ yp = [] := by rw [RF_ptr] at hv; injection hv with hv; injection hv with h1 h2; exact ⟨h1.symm, h2.symm⟩
        obtain ⟨f, hf, rfl⟩ := datum_found hat
        have hrw : Hid (w.heap.size ≤ r) := by show _ ≤ _; rw [hr.out]; exact Nat.le_refl _
        have hB2 : Hid (Below w.heap.size w w2) := hB.out.trans (Go.RowKit.Below.grown (.refl _ _) hg2 hB.out.size (fun j hj => by injection hj with hj; have := hrw.out; omega))
        have h2 := Lib.hid (H.out.below hB2.out)
        obtain ⟨A, nn, c, hv2, hF⟩ := h2.out.filed hf
        have cf := bx_cell hv2
        obtain ⟨A', c', ps, e, hcap, hp, hsay⟩ := hF
        injection e with e1 e2 e3
        subst e1 e2 e3
        have hmem := (findF_mem hf).1
        have hsm : SmM (says ps) := by rw [hsay]; exact (Hok.out.size f hmem).sm hN
        have Hs := Lib.hid (vol_any A c ps w2 hsm hp)
        have hstep := Lib.hid (rest_step (fun f => volM f.m) Hok.out.sort hf hlk)
        obtain ⟨u, hu⟩ : ∃ u, Hid (volM f.m = u) := ⟨_, rfl⟩
        rw [hsay, hu.out] at Hs
        have hun : Hid (n + u ≤ volF T.fs) := by
          have a1 := hsum.out
          have a2 := hstep.out
          rw [hu.out] at a2
          show _ ≤ _
          omega
        have hunI : (n : Int) + (u : Int) ≤ 30000000000 := by have := hun.out; omega
        generalize f.g = g at *
        generalize ps.length = m at *
        have Hrg2 := Lib.hid hrg2
        have Hlt := Lib.hid hlt
        clear hv2 hp hsay hsm hcap hs2 hrg2 hg2 hat hkey ex hlk hv hlt hf hmem hwf
        simp only [ptr] at hen ⊢
        go_wp2_with (go_at_call 28; refine Hs.out.mono ?_; rintro e w3 ⟨rfl, hb3⟩; go_frame)
        have hB3 : Hid (Below w.heap.size w w3) := hB2.out.trans (hb3.mono hB2.out.size)
        have hrg3 : w3.ranges Try.prog 3 RF b r T.fs.length (datum T.fs) (fun z => left z && !z.sameKey (.int .i64 x)) cnt2 := Hrg2.out.kept (row := none) ⟨hb3.os, hb3.tape, hb3.output, hb3.size, fun i hi _ => hb3.block i hi⟩ (by simp) (by simp)
        go_roundw
        case rel => exact ⟨_, cnt2, n + u, by go_num, hrg3, by have a1 := hsum.out; have a2 := hstep.out; rw [hu.out] at a2; show _ = _; omega, hB3⟩
        case measure => rw [hrg3.left_eq, Hrg.out.left_eq]; exact Hlt.out
end
end Go.Proofs.Ytlehkgogcbdckaa
