/- The walks of Used and Volatile. Conditions: at most 1000 files, of at most 1000 parts of 60 bytes. The walks of leave, Drop, Append; what is answered where there is no file, or no table. Conditions: at most 1000 files, of at most 1000 parts of 60 bytes. -/
import Derived.Test.YtbhmnmmockmibaaGreatKbFtC
import Derived.Deep.RegionHeld3
namespace Go.Proofs.YtbhmnmmockmibaaGreat
open Go.RowKit Go.Maps
section
variable {w : World} {Z : Nat → Prop} {t N : Nat} {T : Tb}
set_option maxHeartbeats 2000000 in
set_option maxRecDepth 100000 in
theorem tused_any (h : TabAt w Z t T) (hok : T.Ok N) (hN : N ≤ 1000) :
    Calls Tryz.prog 59 #[.pointer (some ⟨t, 5, none⟩)] w fun e w' => e = .returned (.int .i64 (usedF T.fs : Nat)) ∧ Below w.heap.size w w' := by
  have htop : (usedF T.fs : Int) ≤ 30000000000 := by
    have h1 := hok.used
    have h2 : N * (N * 60) ≤ 1000 * (1000 * 60) := Nat.mul_le_mul hN (Nat.mul_le_mul_right _ hN)
    omega
  obtain ⟨c0, c1, c2⟩ := h.cells
  have H := Lib.hid h
  have Hok := Lib.hid hok
  cases hm : T.mp with
  | none =>
    rw [hm] at c2
    have hfs : T.fs = [] := h.non hm
    have hz : (usedF T.fs : Int) = 0 := by rw [hfs]; rfl
    have hz' : Hid (usedF T.fs = 0) := by show _ = _; rw [hfs]; rfl
    have hrg := run_range_nilMap (P := Tryz.prog) w 78 _ _ Tryz.underlying78
    have hnx : ∀ ty, (Instr.next (.pointer (some ⟨w.heap.size, 0, none⟩)) false ty).run Tryz.prog (w.alloc (.mapIter none 0 #[] 0)) = _ := fun ty => run_next_nilMap _ ty 0 0 #[]
    rw [hz'.out]
    clear h hok hfs hz hz' htop H Hok hm
    go_enter Tryz.func59, Tryz.ntmps59
    go_wp2
    refine wp_loop_rounds 1 ?_
    rw [rounds_succ]
    go_wp2
    go_ret
    exact ⟨rfl, below_new _ _⟩
  | some b =>
    rw [hm] at c2
    have hown := h.map b hm
    clear h hok
    go_enter Tryz.func59, Tryz.ntmps59
    go_wp2_with (at_range; refine wpList_range_own _ rfl _ 78 rfl 3 130 keyI Tryz.underlying78 _ b _ _ rfl hown ?_; intro w0 hrg0 hg0 hs0)
    go_frame
    obtain ⟨r, hr⟩ : ∃ r, Hid (w.heap.size = r) := ⟨_, rfl⟩
    have hB0 : Hid (Below w.heap.size w w0) := Go.RowKit.Below.grown (.refl _ _) hg0 (Nat.le_refl _) (fun j hj => by cases hj)
    rw [hr.out] at hrg0 ⊢
    clear hs0 hg0 c0 c1 c2 hown
    go_loopw [3] (fun s wr => ∃ (left : Lit → Bool) (cnt n : Nat), s = .int .i64 (n : Int) ∧ wr.ranges Tryz.prog 3 RF b r T.fs.length (datum T.fs) left cnt ∧ Hid (n + sumF (fun f => (contM f.m).length) (restF T.fs left) = usedF T.fs) ∧ Hid (Below w.heap.size w wr)) (fun _ wr => wr.rangeLeft b r)
    case atStart => exact ⟨_, _, 0, rfl, hrg0, by show _ = _; rw [rest_start, Nat.zero_add]; rfl, hB0⟩
    case round =>
      clear hrg0 hB0
      obtain ⟨left, cnt, n, rfl, hrg, hsum, hB⟩ := hrel
      have Hrg := Lib.hid hrg
      clear hrg
      go_wp2_with (at_next; refine wpList_next_ranges _ rfl _ rfl 3 keyI RF (Value.int .i64) ptr (fun key kl hk => by obtain ⟨x, hx, _⟩ := Maps.keyOf_int_inv Tryz.underlying3 hk; exact ⟨x, hx⟩) (fun v y hv => by obtain ⟨p, rfl, _⟩ := RF_inv hv; exact ⟨p, rfl⟩) b r _ _ _ _ rfl Hrg.out ?_ ?_)
      · intro hc0 hl0
        have hn : Hid (n = usedF T.fs) := by
          have := hsum.out
          rw [rest_end hl0] at this
          exact this
        clear hl0
        go_wp2
        go_ret
        exact ⟨by rw [hn.out]; rfl, hB.out⟩
      · intro x p kl yd yp w2 cnt2 hkey hlk hv hat hrg2 hlt hg2 hs2 hen
        obtain ⟨x', ex, rfl, hwf⟩ := Maps.keyOf_int_inv Tryz.underlying3 hkey
        obtain rfl : x = x' := by injection ex
        obtain ⟨rfl, rfl⟩ : yd = dt p ∧ yp = [] := by rw [RF_ptr] at hv; injection hv with hv; injection hv with h1 h2; exact ⟨h1.symm, h2.symm⟩
        obtain ⟨f, hf, rfl⟩ := datum_found hat
        have hrw : Hid (w.heap.size ≤ r) := by show _ ≤ _; rw [hr.out]; exact Nat.le_refl _
        have hB2 : Hid (Below w.heap.size w w2) := hB.out.trans (Go.RowKit.Below.grown (.refl _ _) hg2 hB.out.size (fun j hj => by injection hj with hj; have := hrw.out; omega))
        have h2 := Lib.hid (H.out.below hB2.out)
        obtain ⟨A, nn, c, hv2, hF⟩ := h2.out.filed hf
        have cf := bx_cell hv2
        obtain ⟨A', c', ps, e, hcap, hp, hsay⟩ := hF
        injection e with e1 e2 e3
        subst e1 e2 e3
        have hmem := (findF_mem hf).1
        have hsm : SmM (says ps) := by rw [hsay]; exact (Hok.out.size f hmem).sm hN
        have Hs := Lib.hid (len_any A c ps w2 hsm hp)
        have hstep := Lib.hid (rest_step (fun f => (contM f.m).length) Hok.out.sort hf hlk)
        obtain ⟨u, hu⟩ : ∃ u, Hid ((contM f.m).length = u) := ⟨_, rfl⟩
        rw [hsay, hu.out] at Hs
        have hun : Hid (n + u ≤ usedF T.fs) := by
          have a1 := hsum.out
          have a2 := hstep.out
          rw [hu.out] at a2
          show _ ≤ _
          omega
        have hunI : (n : Int) + (u : Int) ≤ 30000000000 := by have := hun.out; omega
        generalize f.g = g at *
        generalize ps.length = m at *
        have Hrg2 := Lib.hid hrg2
        have Hlt := Lib.hid hlt
        clear hv2 hp hsay hsm hcap hs2 hrg2 hg2 hat hkey ex hlk hv hlt hf hmem hwf
        simp only [ptr] at hen ⊢
        go_wp2_with (go_at_call 93; refine Hs.out.mono ?_; rintro e w3 ⟨rfl, hb3⟩; go_frame)
        have hB3 : Hid (Below w.heap.size w w3) := hB2.out.trans (hb3.mono hB2.out.size)
        have hrg3 : w3.ranges Tryz.prog 3 RF b r T.fs.length (datum T.fs) (fun z => left z && !z.sameKey (.int .i64 x)) cnt2 := Hrg2.out.kept (row := none) ⟨hb3.os, hb3.tape, hb3.output, hb3.size, fun i hi _ => hb3.block i hi⟩ (by simp) (by simp)
        go_roundw
        case rel => exact ⟨_, cnt2, n + u, by go_num, hrg3, by have a1 := hsum.out; have a2 := hstep.out; rw [hu.out] at a2; show _ = _; omega, hB3⟩
        case measure => rw [hrg3.left_eq, Hrg.out.left_eq]; exact Hlt.out
set_option maxHeartbeats 2000000 in
set_option maxRecDepth 100000 in
theorem tvol_any (h : TabAt w Z t T) (hok : T.Ok N) (hN : N ≤ 1000) :
    Calls Tryz.prog 58 #[.pointer (some ⟨t, 5, none⟩)] w fun e w' => e = .returned (.int .i64 (volF T.fs : Nat)) ∧ Below w.heap.size w w' := by
  have htop : (volF T.fs : Int) ≤ 30000000000 := by
    have h1 := hok.vol
    have h2 : N * N ≤ 1000 * 1000 := Nat.mul_le_mul hN hN
    omega
  obtain ⟨c0, c1, c2⟩ := h.cells
  have H := Lib.hid h
  have Hok := Lib.hid hok
  cases hm : T.mp with
  | none =>
    rw [hm] at c2
    have hfs : T.fs = [] := h.non hm
    have hz : (volF T.fs : Int) = 0 := by rw [hfs]; rfl
    have hz' : Hid (volF T.fs = 0) := by show _ = _; rw [hfs]; rfl
    have hrg := run_range_nilMap (P := Tryz.prog) w 78 _ _ Tryz.underlying78
    have hnx : ∀ ty, (Instr.next (.pointer (some ⟨w.heap.size, 0, none⟩)) false ty).run Tryz.prog (w.alloc (.mapIter none 0 #[] 0)) = _ := fun ty => run_next_nilMap _ ty 0 0 #[]
    rw [hz'.out]
    clear h hok hfs hz hz' htop H Hok hm
    go_enter Tryz.func58, Tryz.ntmps58
    go_wp2
    refine wp_loop_rounds 1 ?_
    rw [rounds_succ]
    go_wp2
    go_ret
    exact ⟨rfl, below_new _ _⟩
  | some b =>
    rw [hm] at c2
    have hown := h.map b hm
    clear h hok
    go_enter Tryz.func58, Tryz.ntmps58
    go_wp2_with (at_range; refine wpList_range_own _ rfl _ 78 rfl 3 130 keyI Tryz.underlying78 _ b _ _ rfl hown ?_; intro w0 hrg0 hg0 hs0)
    go_frame
    obtain ⟨r, hr⟩ : ∃ r, Hid (w.heap.size = r) := ⟨_, rfl⟩
    have hB0 : Hid (Below w.heap.size w w0) := Go.RowKit.Below.grown (.refl _ _) hg0 (Nat.le_refl _) (fun j hj => by cases hj)
    rw [hr.out] at hrg0 ⊢
    clear hs0 hg0 c0 c1 c2 hown
    go_loopw [3] (fun s wr => ∃ (left : Lit → Bool) (cnt n : Nat), s = .int .i64 (n : Int) ∧ wr.ranges Tryz.prog 3 RF b r T.fs.length (datum T.fs) left cnt ∧ Hid (n + sumF (fun f => volM f.m) (restF T.fs left) = volF T.fs) ∧ Hid (Below w.heap.size w wr)) (fun _ wr => wr.rangeLeft b r)
    case atStart => exact ⟨_, _, 0, rfl, hrg0, by show _ = _; rw [rest_start, Nat.zero_add]; rfl, hB0⟩
    case round =>
      clear hrg0 hB0
      obtain ⟨left, cnt, n, rfl, hrg, hsum, hB⟩ := hrel
      have Hrg := Lib.hid hrg
      clear hrg
      go_wp2_with (at_next; refine wpList_next_ranges _ rfl _ rfl 3 keyI RF (Value.int .i64) ptr (fun key kl hk => by obtain ⟨x, hx, _⟩ := Maps.keyOf_int_inv Tryz.underlying3 hk; exact ⟨x, hx⟩) (fun v y hv => by obtain ⟨p, rfl, _⟩ := RF_inv hv; exact ⟨p, rfl⟩) b r _ _ _ _ rfl Hrg.out ?_ ?_)
      · intro hc0 hl0
        have hn : Hid (n = volF T.fs) := by
          have := hsum.out
          rw [rest_end hl0] at this
          exact this
        clear hl0
        go_wp2
        go_ret
        exact ⟨by rw [hn.out]; rfl, hB.out⟩
      · intro x p kl yd yp w2 cnt2 hkey hlk hv hat hrg2 hlt hg2 hs2 hen
        obtain ⟨x', ex, rfl, hwf⟩ := Maps.keyOf_int_inv Tryz.underlying3 hkey
        obtain rfl : x = x' := by injection ex
        obtain ⟨rfl, rfl⟩ : yd = dt p ∧ yp = [] := by rw [RF_ptr] at hv; injection hv with hv; injection hv with h1 h2; exact ⟨h1.symm, h2.symm⟩
        obtain ⟨f, hf, rfl⟩ := datum_found hat
        have hrw : Hid (w.heap.size ≤ r) := by show _ ≤ _; rw [hr.out]; exact Nat.le_refl _
        have hB2 : Hid (Below w.heap.size w w2) := hB.out.trans (Go.RowKit.Below.grown (.refl _ _) hg2 hB.out.size (fun j hj => by injection hj with hj; have := hrw.out; omega))
        have h2 := Lib.hid (H.out.below hB2.out)
        obtain ⟨A, nn, c, hv2, hF⟩ := h2.out.filed hf
        have cf := bx_cell hv2
        obtain ⟨A', c', ps, e, hcap, hp, hsay⟩ := hF
        injection e with e1 e2 e3
        subst e1 e2 e3
        have hmem := (findF_mem hf).1
        have hsm : SmM (says ps) := by rw [hsay]; exact (Hok.out.size f hmem).sm hN
        have Hs := Lib.hid (vol_any A c ps w2 hsm hp)
        have hstep := Lib.hid (rest_step (fun f => volM f.m) Hok.out.sort hf hlk)
        obtain ⟨u, hu⟩ : ∃ u, Hid (volM f.m = u) := ⟨_, rfl⟩
        rw [hsay, hu.out] at Hs
        have hun : Hid (n + u ≤ volF T.fs) := by
          have a1 := hsum.out
          have a2 := hstep.out
          rw [hu.out] at a2
          show _ ≤ _
          omega
        have hunI : (n : Int) + (u : Int) ≤ 30000000000 := by have := hun.out; omega
        generalize f.g = g at *
        generalize ps.length = m at *
        have Hrg2 := Lib.hid hrg2
        have Hlt := Lib.hid hlt
        clear hv2 hp hsay hsm hcap hs2 hrg2 hg2 hat hkey ex hlk hv hlt hf hmem hwf
        simp only [ptr] at hen ⊢
        go_wp2_with (go_at_call 63; refine Hs.out.mono ?_; rintro e w3 ⟨rfl, hb3⟩; go_frame)
        have hB3 : Hid (Below w.heap.size w w3) := hB2.out.trans (hb3.mono hB2.out.size)
        have hrg3 : w3.ranges Tryz.prog 3 RF b r T.fs.length (datum T.fs) (fun z => left z && !z.sameKey (.int .i64 x)) cnt2 := Hrg2.out.kept (row := none) ⟨hb3.os, hb3.tape, hb3.output, hb3.size, fun i hi _ => hb3.block i hi⟩ (by simp) (by simp)
        go_roundw
        case rel => exact ⟨_, cnt2, n + u, by go_num, hrg3, by have a1 := hsum.out; have a2 := hstep.out; rw [hu.out] at a2; show _ = _; omega, hB3⟩
        case measure => rw [hrg3.left_eq, Hrg.out.left_eq]; exact Hlt.out
end
end Go.Proofs.YtbhmnmmockmibaaGreat

namespace Go.Proofs.YtbhmnmmockmibaaGreat
open Go.RowKit Go.Maps
section
variable {w : World} {Z : Nat → Prop} {t N : Nat} {T : Tb}
theorem find_nil (z : Int) (w : World) : Calls Tryz.prog 91 #[.pointer none, .int .i64 z] w fun e w' => e = .returned (.tuple #[.pointer none, .int .i64 1]) ∧ w' = w := by
  go_enter Tryz.func91, Tryz.ntmps91
  go_wp2
  go_ret2
  exact ⟨rfl, rfl⟩
theorem sync_none (h : TabAt w Z t T) {z : Int} (hz : -9223372036854775808 ≤ z ∧ z ≤ 9223372036854775807) (hf : findF T.fs z = none) : Calls Tryz.prog 74 #[.pointer (some ⟨t, 5, none⟩), .int .i64 z] w fun e w' => e = .returned (.int .i64 80) ∧ w' = w := by
  have Hc := Lib.hid (find_none h hz hf)
  clear h
  go_enter Tryz.func74, Tryz.ntmps74
  go_wp2_with (go_at_call 91; refine Hc.out.mono ?_; rintro e w1 ⟨rfl, rfl⟩)
  go_ret
  exact ⟨rfl, rfl⟩
theorem link_none (h : TabAt w Z t T) {z : Int} (hz : -9223372036854775808 ≤ z ∧ z ≤ 9223372036854775807) (hf : findF T.fs z = none) : Calls Tryz.prog 104 #[.pointer (some ⟨t, 5, none⟩), .int .i64 z] w fun e w' => e = .returned (.int .i64 80) ∧ w' = w := by
  have Hc := Lib.hid (find_none h hz hf)
  clear h
  go_enter Tryz.func104, Tryz.ntmps104
  go_wp2_with (go_at_call 91; refine Hc.out.mono ?_; rintro e w1 ⟨rfl, rfl⟩)
  go_ret
  exact ⟨rfl, rfl⟩
theorem drop_none (h : TabAt w Z t T) {z : Int} (hz : -9223372036854775808 ≤ z ∧ z ≤ 9223372036854775807) (hf : findF T.fs z = none) : Calls Tryz.prog 76 #[.pointer (some ⟨t, 5, none⟩), .int .i64 z] w fun e w' => e = .returned (.int .i64 80) ∧ w' = w := by
  have Hc := Lib.hid (find_none h hz hf)
  clear h
  go_enter Tryz.func76, Tryz.ntmps76
  go_wp2_with (go_at_call 91; refine Hc.out.mono ?_; rintro e w1 ⟨rfl, rfl⟩)
  go_ret
  exact ⟨rfl, rfl⟩
theorem drop_nil (z : Int) (w : World) : Calls Tryz.prog 76 #[.pointer none, .int .i64 z] w fun e w' => e = .returned (.int .i64 1) ∧ w' = w := by
  have Hc := Lib.hid (find_nil z w)
  go_enter Tryz.func76, Tryz.ntmps76
  go_wp2_with (go_at_call 91; refine Hc.out.mono ?_; rintro e w1 ⟨rfl, rfl⟩)
  go_ret
  exact ⟨rfl, rfl⟩
theorem append_none {Ab : Option Addr} {nb cb : Nat} (h : TabAt w Z t T) {z : Int} (hz : -9223372036854775808 ≤ z ∧ z ≤ 9223372036854775807) (hf : findF T.fs z = none) : Calls Tryz.prog 73 #[.pointer (some ⟨t, 5, none⟩), .int .i64 z, .slice Ab nb cb] w fun e w' => e = .returned (.int .i64 80) ∧ w' = w := by
  have Hc := Lib.hid (find_none h hz hf)
  clear h
  go_enter Tryz.func73, Tryz.ntmps73
  go_wp2_with (go_at_call 91; refine Hc.out.mono ?_; rintro e w1 ⟨rfl, rfl⟩)
  go_ret
  exact ⟨rfl, rfl⟩
theorem append_nil {Ab : Option Addr} {nb cb : Nat} (z : Int) (w : World) : Calls Tryz.prog 73 #[.pointer none, .int .i64 z, .slice Ab nb cb] w fun e w' => e = .returned (.int .i64 1) ∧ w' = w := by
  have Hc := Lib.hid (find_nil z w)
  go_enter Tryz.func73, Tryz.ntmps73
  go_wp2_with (go_at_call 91; refine Hc.out.mono ?_; rintro e w1 ⟨rfl, rfl⟩)
  go_ret
  exact ⟨rfl, rfl⟩
theorem bytes_none (h : TabAt w Z t T) {z : Int} (hz : -9223372036854775808 ≤ z ∧ z ≤ 9223372036854775807) (hf : findF T.fs z = none) : Calls Tryz.prog 56 #[.pointer (some ⟨t, 5, none⟩), .int .i64 z] w fun e w' => e = .returned (.tuple #[.slice none 0 0, .int .i64 80]) ∧ w' = w := by
  have Hc := Lib.hid (find_none h hz hf)
  clear h
  go_enter Tryz.func56, Tryz.ntmps56
  go_wp2_with (go_at_call 91; refine Hc.out.mono ?_; rintro e w1 ⟨rfl, rfl⟩)
  go_ret2
  exact ⟨rfl, rfl⟩
def leaveF (fs : List Fi) (z n : Int) : List Fi := if n < 1 then delF fs z else fs
/-- A file goes. -/
theorem TabAt.del (h : TabAt w Z t T) {b : Nat} (hb : T.mp = some b) {z : Int} {w' : World} (hm : w'.ownsMap Tryz.prog 3 RF b T.fs.length ((datum T.fs).del (.int .i64 z))) (ht : Touch (fun k => k = b) w w') : TabAt w' Z t { T with fs := delF T.fs z } := by
  obtain ⟨es, clock, hbb, _⟩ := h.map b hb
  have hne : ∀ r cs ty fr, w.heap[r]? = some (.cells cs ty fr) → ¬ r = b := fun r cs ty fr hr e => by rw [e, hbb] at hr; cases hr
  have hX : ∀ k, ({ T with fs := delF T.fs z } : Tb).X t k → T.X t k := fun k hk => by
    rcases hk with e | e | ⟨f, hf, e⟩
    · exact .inl e
    · exact .inr (.inl e)
    · exact .inr (.inr ⟨f, (delF_mem.1 hf).1, e⟩)
  refine ⟨ht.heap (hne _ _ _ _ h.top) h.top, fun b' hb' => ?_, fun hn => ?_, fun f hf => ?_, ?_⟩
  · have e : b = b' := by
      have h1 : T.mp = some b' := hb'
      rw [hb] at h1
      injection h1
    subst e
    have h1 := owns_size hm
    rw [datum_del, datum_size] at h1
    exact h1
  · have h1 : T.mp = none := hn
    rw [hb] at h1
    cases h1
  · obtain ⟨v, hv, hF⟩ := h.file f (delF_mem.1 hf).1
    refine ⟨v, ht.heap (hne _ _ _ _ hv) hv, ?_⟩
    refine (hF.mono fun k _ hk => hk.elim (fun hk => .inl (hX k hk)) .inr).keep (ht.mono fun k _ e => ?_)
    rw [e]
    exact .inl (.inr (.inl hb))
  · exact h.dist.filter _
set_option maxHeartbeats 1000000 in
theorem leave_any (h : TabAt w Z t T) {z : Int} (hz : -9223372036854775808 ≤ z ∧ z ≤ 9223372036854775807) {f : Fi} (hf : findF T.fs z = some f) :
    Calls Tryz.prog 65 #[.pointer (some ⟨t, 5, none⟩), .int .i64 z, .pointer (some ⟨f.g, 0, none⟩)] w fun e w' => e = .returned (.tuple #[]) ∧ Touch (T.X t) w w' ∧ TabAt w' Z t { T with fs := leaveF T.fs z f.n } := by
  obtain ⟨c0, c1, c2⟩ := h.cells
  obtain ⟨A, n, c, hv, hF⟩ := h.filed hf
  have cn := bx_cell1 hv
  obtain ⟨hm, hi⟩ := findF_mem hf
  have H := Lib.hid h
  obtain ⟨mp, hmp⟩ : ∃ mp, T.mp = mp := ⟨_, rfl⟩
  cases mp with
  | none =>
    have := h.non hmp
    rw [this] at hm
    cases hm
  | some b =>
    rw [hmp] at c2
    have hown := h.map b hmp
    have Hmp := Lib.hid hmp
    clear hmp
    by_cases hn : f.n < 1
    · have hl : Hid (leaveF T.fs z f.n = delF T.fs z) := by show leaveF T.fs z f.n = _; unfold leaveF; rw [if_pos hn]
      rw [hl.out]
      generalize f.g = g at *
      clear hv hF hm hi hf h
      go_enter Tryz.func65, Tryz.ntmps65
      go_wp2_with (at_delete; refine wpList_delete_own _ rfl _ _ 78 3 rfl 130 keyI Tryz.underlying78 _ b _ _ rfl hown _ (.int .i64 z) rfl (key_i hz) ?_; intro w1 hown1 hturn1)
      go_end0
      have ht := Touch.grown (X := fun k => k = b) hturn1.grown fun k e => by injection e with e; exact e.symm
      exact ⟨rfl, ht.mono fun k _ e => .inr (.inl (by rw [e]; exact Hmp.out)), H.out.del Hmp.out hown1 ht⟩
    · have hl : Hid (leaveF T.fs z f.n = T.fs) := by show leaveF T.fs z f.n = _; unfold leaveF; rw [if_neg hn]
      rw [hl.out]
      generalize f.g = g at *
      have hn' : decide (f.n < 1) = false := by simpa using hn
      clear hv hF hm hi hf h hown
      go_enter Tryz.func65, Tryz.ntmps65
      go_wp2
      go_end0
      exact ⟨rfl, .refl _ _, H.out⟩
def Tb.drop (T : Tb) (z : Int) (f : Fi) : Tb := { T with fs := leaveF (updF T.fs z (wrap64 (f.n - 1)) f.m) z (wrap64 (f.n - 1)) }
theorem leaveF_mem {fs : List Fi} {z n : Int} {x : Fi} (h : x ∈ leaveF fs z n) : x ∈ fs := by
  unfold leaveF at h
  split at h
  · exact (delF_mem.1 h).1
  · exact h
set_option maxHeartbeats 1000000 in
theorem drop_some (h : TabAt w Z t T) (hok : T.Ok N) {z : Int} (hz : -9223372036854775808 ≤ z ∧ z ≤ 9223372036854775807) {f : Fi} (hf : findF T.fs z = some f) :
    Calls Tryz.prog 76 #[.pointer (some ⟨t, 5, none⟩), .int .i64 z] w fun e w' => e = .returned (.int .i64 0) ∧ Touch (T.X t) w w' ∧ TabAt w' Z t (T.drop z f) := by
  have Hc := Lib.hid (find_some h hz hf)
  obtain ⟨hm, hi⟩ := findF_mem hf
  obtain ⟨A, n, c, hv, hF⟩ := h.filed hf
  have c1 := bx_cell1 hv
  have z1 := bx_frozen1 hv
  have ht := Touch.cell1 w f.g 1 (.int .i64 (wrap64 (f.n - 1)))
  have hT : TabAt (w.setCell ⟨f.g, 1, none⟩ (.int .i64 (wrap64 (f.n - 1)))) Z t { T with fs := updF T.fs z (wrap64 (f.n - 1)) f.m } := by
    rw [← hi]
    exact h.upd hok.sort (by rw [hi]; exact hf) ht (bx_set1 _ hv) (hF.keep (ht.mono fun b _ e => .inl (.inr (.inr ⟨f, hm, e⟩))))
  have Hl := Lib.hid (leave_any hT hz (updF_here hf))
  have Ht := Lib.hid (ht.mono (Y := T.X t) fun b _ e => .inr (.inr ⟨f, hm, e⟩))
  have HX : Hid (∀ k, ({ T with fs := updF T.fs z (wrap64 (f.n - 1)) f.m } : Tb).X t k → T.X t k) := fun k hk => by
    rcases hk with e | e | ⟨x, hx, e⟩
    · exact .inl e
    · exact .inr (.inl e)
    · obtain ⟨y, hy, _, hg, _⟩ := updF_mem hx
      exact .inr (.inr ⟨y, hy, by rw [e, hg]⟩)
  unfold Tb.drop
  simp only at Hl
  clear h hok hF hm hf hi hT ht hv
  generalize f.g = g at *
  go_enter Tryz.func76, Tryz.ntmps76
  go_wp2_with (first
    | (go_at_call 91; refine Hc.out.mono ?_; rintro e w1 ⟨rfl, rfl⟩)
    | (go_at_call 65; refine Hl.out.mono ?_; rintro e w1 ⟨rfl, ht1, hT1⟩))
  go_ret
  exact ⟨rfl, Ht.out.trans (ht1.mono fun k _ hk => HX.out k hk), hT1⟩
set_option maxHeartbeats 1000000 in
set_option maxRecDepth 100000 in
theorem append_some {Ab : Option Addr} {cb B : Nat} {l : List UInt8} (h : TabAt w Z t T) (hok : T.Ok N) (hN : N ≤ 999) (hZ : ∀ b, Z b → b < w.heap.size) {z : Int} (hz : -9223372036854775808 ≤ z ∧ z ≤ 9223372036854775807) {f : Fi} (hf : findF T.fs z = some f)
    (hl : l.length ≤ 60) (hB : B ≤ w.heap.size) (hr : RdB w B Ab l) (hq : (l.length : Int) + usedF T.fs ≤ T.q) :
    Calls Tryz.prog 73 #[.pointer (some ⟨t, 5, none⟩), .int .i64 z, .slice Ab l.length cb] w fun e w' => e = .returned (.int .i64 0) ∧ Touch (T.X t) w w' ∧ TabAt w' Z t { T with fs := updF T.fs z f.n (appM f.m l) } := by
  have Hc := Lib.hid (find_some h hz hf)
  have Hu := Lib.hid (tused_any (h.below (Below.refl _ _).drew) hok (by omega))
  obtain ⟨hm, hi⟩ := findF_mem hf
  obtain ⟨c0, _, _⟩ := h.cells
  have htl : t < w.heap.size := h.lt (.inl rfl)
  obtain ⟨q, hqe⟩ : ∃ q, T.q = q := ⟨_, rfl⟩
  obtain ⟨U, hU⟩ : ∃ U, usedF T.fs = U := ⟨_, rfl⟩
  obtain ⟨hq0, hq1⟩ := hok.q
  rw [hqe] at c0 hq hq0 hq1
  rw [hU] at hq Hu
  have hlI : (l.length : Int) ≤ 60 := by omega
  have hw : Hid (∀ w1, Below w.heap.size w w1 → ∃ A n c, w1.heap[f.g]? = some (.cells #[.slice A n c, .int .i64 f.n] 129 (0, 0)) ∧
      Calls Tryz.prog 107 #[.pointer (some ⟨f.g, 0, none⟩), .slice Ab l.length cb] w1 fun e w' => e = .returned (.tuple #[]) ∧ Touch (T.X t) w w' ∧ TabAt w' Z t { T with fs := updF T.fs z f.n (appM f.m l) }) := by
    intro w1 hb1
    have h1 := h.below hb1
    obtain ⟨A, n, c, hv, hF⟩ := h1.filed hf
    refine ⟨A, n, c, hv, ?_⟩
    obtain ⟨A', c', ps, e, hcap, hp, hsay⟩ := hF
    injection e with e1 e2 e3
    subst e1 e2 e3
    have hsm : SmM (says ps ++ [(l, false)]) := by rw [hsay]; exact ((hok.size f hm).more l hl).sm (by omega)
    refine (app_any (nm := .int .i64 f.n) hv hcap hsm hp (Nat.le_trans hB hb1.size) (Reads.below hr (hb1.mono hB))).mono ?_
    rintro e w2 ⟨rfl, ht, v, hv', hF'⟩
    refine ⟨rfl, (Touch.of hb1).trans (ht.mono fun b _ e => .inr (.inr ⟨f, hm, e⟩)), ?_⟩
    rw [← hi]
    refine h1.upd hok.sort (by rw [hi]; exact hf) ht hv' ?_
    rw [hsay] at hF'
    exact hF'.mono fun b _ hb => h1.lowF (fun b hb => Nat.lt_of_lt_of_le (hZ b hb) hb1.size) b hb
  have Htl := Lib.hid htl
  obtain ⟨nl, hnl⟩ : ∃ nl, Hid (l.length = nl) := ⟨_, rfl⟩
  rw [hnl.out] at hw hq hlI ⊢
  have hsub : IntKind.i64.wrap (q - (U : Int)) = q - (U : Int) := IntWalk.i64_in _ (by omega)
  have hdec : decide (q - (U : Int) < (nl : Int)) = false := by rw [decide_eq_false_iff_not]; omega
  generalize f.g = g at *
  clear h hok hB hr hm hf hi hz hU hqe hl hnl htl
  go_enter Tryz.func73, Tryz.ntmps73
  go_wp2_with (go_at_call 91; refine Hc.out.mono ?_; rintro e w1 ⟨rfl, rfl⟩)
  go_region_held3 (fun wx => wx.cell? ⟨t, 5, none⟩ = some (.int .i64 q)) (first | exact hc3 | exact c0) (first | (go_at_call 59; refine Hu.out.mono ?_; rintro e w3 ⟨rfl, hb3'⟩; have hb3 := (Below.refl _ _).drew.trans hb3'; have hc3 := (hb3.cell (p := ⟨t, 5, none⟩) Htl.out).trans c0))
  obtain ⟨A, n, c, hv, hcall⟩ := hw.out _ hb3
  have Hcall := Lib.hid hcall
  clear hcall hw hv
  go_wp2_with (go_at_call 107; refine Hcall.out.mono ?_; rintro e w4 ⟨rfl, ht4, hT4⟩)
  go_ret
  exact ⟨rfl, ht4, hT4⟩
set_option maxHeartbeats 1000000 in
set_option maxRecDepth 100000 in
theorem append_full {Ab : Option Addr} {cb nl : Nat} (h : TabAt w Z t T) (hok : T.Ok N) (hN : N ≤ 999) {z : Int} (hz : -9223372036854775808 ≤ z ∧ z ≤ 9223372036854775807) {f : Fi} (hf : findF T.fs z = some f)
    (hl : nl ≤ 60) (hq : T.q < (nl : Int) + usedF T.fs) :
    Calls Tryz.prog 73 #[.pointer (some ⟨t, 5, none⟩), .int .i64 z, .slice Ab nl cb] w fun e w' => e = .returned (.int .i64 90) ∧ Below w.heap.size w w' := by
  have Hc := Lib.hid (find_some h hz hf)
  have Hu := Lib.hid (tused_any (h.below (Below.refl _ _).drew) hok (by omega))
  obtain ⟨c0, _, _⟩ := h.cells
  have htl : t < w.heap.size := h.lt (.inl rfl)
  have hub : usedF T.fs ≤ 30000000000 := by
    have h1 := hok.used
    have h2 : N * (N * 60) ≤ 1000 * (1000 * 60) := Nat.mul_le_mul (by omega) (Nat.mul_le_mul_right _ (by omega))
    omega
  obtain ⟨q, hqe⟩ : ∃ q, T.q = q := ⟨_, rfl⟩
  obtain ⟨U, hU⟩ : ∃ U, usedF T.fs = U := ⟨_, rfl⟩
  obtain ⟨hq0, hq1⟩ := hok.q
  rw [hqe] at c0 hq hq0 hq1
  rw [hU] at hq Hu hub
  have hlI : (nl : Int) ≤ 60 := by omega
  have Htl := Lib.hid htl
  have hsub : IntKind.i64.wrap (q - (U : Int)) = q - (U : Int) := IntWalk.i64_in _ (by omega)
  have hdec : decide (q - (U : Int) < (nl : Int)) = true := by rw [decide_eq_true_iff]; omega
  generalize f.g = g at *
  clear h hok hf hz hU hqe hl htl hub
  go_enter Tryz.func73, Tryz.ntmps73
  go_wp2_with (go_at_call 91; refine Hc.out.mono ?_; rintro e w1 ⟨rfl, rfl⟩)
  go_region_held3 (fun wx => wx.cell? ⟨t, 5, none⟩ = some (.int .i64 q)) (first | exact hc3 | exact c0) (first | (go_at_call 59; refine Hu.out.mono ?_; rintro e w3 ⟨rfl, hb3'⟩; have hb3 := (Below.refl _ _).drew.trans hb3'; have hc3 := (hb3.cell (p := ⟨t, 5, none⟩) Htl.out).trans c0))
  go_wp2
  go_ret
  exact ⟨rfl, hb3⟩
end
end Go.Proofs.YtbhmnmmockmibaaGreat
