/- The walks of New, find, Sync, Link, Bytes. Conditions: files of at most 1000 parts of 30 bytes. -/
import Derived.Test.YtlehkgogcbdckaaInB
namespace Go.Proofs.Ytlehkgogcbdckaa
open Go.RowKit Go.Maps

theorem keyI : Keyed Try.prog 3 := int_keyed Try.underlying3
theorem key_i {z : Int} (hz : -9223372036854775808 ≤ z ∧ z ≤ 9223372036854775807) : keyOf Try.prog 3 (.int .i64 z) = some (.int .i64 z) :=
  keyOf_int_mk Try.underlying3 (by simp only [Lit.wf, Bool.and_eq_true, decide_eq_true_eq]; exact hz)
section
variable {w : World} {Z : Nat → Prop} {t N : Nat} {T : Tb}
set_option maxRecDepth 100000 in
theorem TabAt.look (h : TabAt w Z t T) {z : Int} (hz : -9223372036854775808 ≤ z ∧ z ≤ 9223372036854775807) :
    (Instr.lookup 51 (.map T.mp) (.int .i64 z) false).run Try.prog w = .ok (ptr ((findF T.fs z).map Fi.g)) w := by
  cases hm : T.mp with
  | none =>
    have := Maps.look_nil (w := w) false keyI Try.underlying51 (Try.zeroValue54 w) (key_i hz)
    rw [h.non hm]
    exact this
  | some b =>
    obtain ⟨v, ps, hrun, hv⟩ := (h.map b hm).lookup keyI Try.underlying51 (Try.zeroValue54 w) (zd := dt none) (zp := []) rfl (key_i hz)
    obtain ⟨p, rfl, hp⟩ := RF_inv hv
    rw [datum_at] at hp
    injection hp with hp _
    have e : ptr p = ptr ((findF T.fs z).map Fi.g) := by
      cases hf : findF T.fs z with
      | none =>
        rw [hf] at hp
        rw [← dt_inj (p := none) hp]
        rfl
      | some f =>
        rw [hf] at hp
        rw [← dt_inj (p := some f.g) hp]
        rfl
    rw [e] at hrun
    exact hrun
theorem TabAt.cells (h : TabAt w Z t T) : w.cell? ⟨t, 0, none⟩ = some (.int .i64 T.q) ∧ w.cell? ⟨t, 1, none⟩ = some (.int .i64 (T.made : Int)) ∧ w.cell? ⟨t, 2, none⟩ = some (.map T.mp) := by
  refine ⟨?_, ?_, ?_⟩ <;> (rw [cell_of_row w t _ _ _ _ h.top]; rfl)
theorem TabAt.filed (h : TabAt w Z t T) {z : Int} {f : Fi} (hf : findF T.fs z = some f) : ∃ A n c, w.heap[f.g]? = some (.cells #[.slice A n c, .int .i64 f.n] 59 (0, 0)) ∧ FileV w (fun k => T.X t k ∨ Z k) (.slice A n c) f.m := by
  obtain ⟨v, hv, hF⟩ := h.file f (findF_mem hf).1
  obtain ⟨A, c, ps, rfl, hr⟩ := hF
  exact ⟨A, _, c, hv, A, c, ps, rfl, hr⟩
set_option maxHeartbeats 1000000 in
theorem find_some (h : TabAt w Z t T) {z : Int} (hz : -9223372036854775808 ≤ z ∧ z ≤ 9223372036854775807) {f : Fi} (hf : findF T.fs z = some f) :
    Calls Try.prog 22 #[.pointer (some ⟨t, 0, none⟩), .int .i64 z] w fun e w' => e = .returned (.tuple #[.pointer (some ⟨f.g, 0, none⟩), .int .i64 0]) ∧ w' = w := by
  obtain ⟨c0, c1, c2⟩ := h.cells
  have hl := h.look hz
  rw [hf] at hl
  simp only [Option.map_some, ptr] at hl
  generalize T.mp = mp at *
  generalize f.g = g at *
  clear h
  go_enter Try.func22, Try.ntmps22
  go_wp2
  go_ret2
  exact ⟨rfl, rfl⟩
set_option maxHeartbeats 1000000 in
theorem find_none (h : TabAt w Z t T) {z : Int} (hz : -9223372036854775808 ≤ z ∧ z ≤ 9223372036854775807) (hf : findF T.fs z = none) :
    Calls Try.prog 22 #[.pointer (some ⟨t, 0, none⟩), .int .i64 z] w fun e w' => e = .returned (.tuple #[.pointer none, .int .i64 80]) ∧ w' = w := by
  obtain ⟨c0, c1, c2⟩ := h.cells
  have hl := h.look hz
  rw [hf] at hl
  simp only [Option.map_none, ptr] at hl
  generalize T.mp = mp at *
  clear h
  go_enter Try.func22, Try.ntmps22
  go_wp2
  go_ret2
  exact ⟨rfl, rfl⟩

/-! ### Sync, Link, Bytes -/
theorem TabAt.lowF (h : TabAt w Z t T) (hZ : ∀ b, Z b → b < w.heap.size) (b : Nat) (hb : T.X t b ∨ Z b) : XW w b := hb.elim (fun hb => h.lt hb) (hZ b)
set_option maxHeartbeats 1000000 in
theorem sync_some (h : TabAt w Z t T) (hok : T.Ok N) (hN : N ≤ 1000) (hZ : ∀ b, Z b → b < w.heap.size) {z : Int} (hz : -9223372036854775808 ≤ z ∧ z ≤ 9223372036854775807) {f : Fi} (hf : findF T.fs z = some f) :
    Calls Try.prog 10 #[.pointer (some ⟨t, 0, none⟩), .int .i64 z] w fun e w' => e = .returned (.int .i64 0) ∧ Touch (T.X t) w w' ∧ TabAt w' Z t { T with fs := updF T.fs z f.n (syncM f.m) } := by
  have Hc := Lib.hid (find_some h hz hf)
  obtain ⟨hm, hi⟩ := findF_mem hf
  obtain ⟨A, n, c, hv, hF⟩ := h.filed hf
  obtain ⟨A', c', ps, e, hcap, hp, hsay⟩ := hF
  injection e with e1 e2 e3
  subst e1 e2 e3
  have hsm : SmM (says ps) := by rw [hsay]; exact (hok.size f hm).sm hN
  have Hs := Lib.hid (sync_any (nm := .int .i64 f.n) hv hsm hp)
  have Hfin : Hid (∀ w' v, Touch (fun k => k = f.g) w w' → w'.heap[f.g]? = some (.cells #[v, .int .i64 f.n] 59 (0, 0)) → FileV w' (XW w) v (syncM (says ps)) → Touch (T.X t) w w' ∧ TabAt w' Z t { T with fs := updF T.fs z f.n (syncM f.m) }) := by
    intro w' v ht hv' hF'
    refine ⟨ht.mono fun b _ e => .inr (.inr ⟨f, hm, e⟩), ?_⟩
    rw [← hi]
    refine h.upd hok.sort (by rw [hi]; exact hf) ht hv' ?_
    rw [hsay] at hF'
    exact hF'.mono fun b _ hb => h.lowF hZ b hb
  generalize f.g = g at *
  clear h hok hv hp hsm hm hf hi hsay hcap
  go_enter Try.func10, Try.ntmps10
  go_wp2_with (first
    | (go_at_call 22; refine Hc.out.mono ?_; rintro e w1 ⟨rfl, rfl⟩)
    | (go_at_call 23; refine Hs.out.mono ?_; rintro e w1 ⟨rfl, ht, v, hv', hF'⟩))
  go_ret
  exact ⟨rfl, Hfin.out _ _ ht hv' hF'⟩
set_option maxHeartbeats 1000000 in
theorem link_some (h : TabAt w Z t T) (hok : T.Ok N) {z : Int} (hz : -9223372036854775808 ≤ z ∧ z ≤ 9223372036854775807) {f : Fi} (hf : findF T.fs z = some f) :
    Calls Try.prog 11 #[.pointer (some ⟨t, 0, none⟩), .int .i64 z] w fun e w' => e = .returned (.int .i64 0) ∧ Touch (T.X t) w w' ∧ TabAt w' Z t { T with fs := updF T.fs z (wrap64 (f.n + 1)) f.m } := by
  have Hc := Lib.hid (find_some h hz hf)
  obtain ⟨hm, hi⟩ := findF_mem hf
  obtain ⟨A, n, c, hv, hF⟩ := h.filed hf
  have c1 := bx_cell1 hv
  have z1 := bx_frozen1 hv
  have Hfin : Hid (∀ u, Touch (T.X t) w (w.setCell ⟨f.g, 1, none⟩ (.int .i64 u)) ∧ TabAt (w.setCell ⟨f.g, 1, none⟩ (.int .i64 u)) Z t { T with fs := updF T.fs z u f.m }) := by
    intro u
    have ht := Touch.cell1 w f.g 1 (.int .i64 u)
    refine ⟨ht.mono fun b _ e => .inr (.inr ⟨f, hm, e⟩), ?_⟩
    rw [← hi]
    exact h.upd hok.sort (by rw [hi]; exact hf) ht (bx_set1 _ hv) (hF.keep (ht.mono fun b _ e => .inl (.inr (.inr ⟨f, hm, e⟩))))
  generalize f.g = g at *
  clear h hok hv hF hm hf hi
  go_enter Try.func11, Try.ntmps11
  go_wp2_with (go_at_call 22; refine Hc.out.mono ?_; rintro e w1 ⟨rfl, rfl⟩)
  go_ret
  exact ⟨rfl, Hfin.out _⟩
set_option maxHeartbeats 1000000 in
theorem bytes_some (h : TabAt w Z t T) (hok : T.Ok N) (hN : N ≤ 1000) {z : Int} (hz : -9223372036854775808 ≤ z ∧ z ≤ 9223372036854775807) {f : Fi} (hf : findF T.fs z = some f) :
    Calls Try.prog 19 #[.pointer (some ⟨t, 0, none⟩), .int .i64 z] w fun e w' => ∃ v, e = .returned (.tuple #[v, .int .i64 0]) ∧ Below w.heap.size w w' ∧ w'.ownsRow w.heap.size 5 1 v (contM f.m).length (bs (contM f.m)) := by
  have Hc := Lib.hid (find_some h hz hf)
  obtain ⟨hm, hi⟩ := findF_mem hf
  obtain ⟨A, n, c, hv, hF⟩ := h.filed hf
  obtain ⟨A', c', ps, e, hcap, hp, hsay⟩ := hF
  injection e with e1 e2 e3
  subst e1 e2 e3
  have hsm : SmM (says ps) := by rw [hsay]; exact (hok.size f hm).sm hN
  have c0 := bx_cell hv
  have Hs := Lib.hid (bytes_any A c ps w hsm hp)
  rw [hsay] at Hs
  generalize f.g = g at *
  generalize ps.length = n at *
  clear h hok hv hp hsm hm hf hi hsay hcap
  go_enter Try.func19, Try.ntmps19
  go_wp2_with (first
    | (go_at_call 22; refine Hc.out.mono ?_; rintro e w1 ⟨rfl, rfl⟩)
    | (go_at_call 31; refine Hs.out.mono ?_; rintro e w1 ⟨v, rfl, ho, hb⟩))
  go_ret2
  exact ⟨_, rfl, hb, ho⟩
end
end Go.Proofs.Ytlehkgogcbdckaa
