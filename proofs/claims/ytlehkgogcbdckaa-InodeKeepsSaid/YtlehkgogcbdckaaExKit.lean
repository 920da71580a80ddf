/- The walks of the statements' own helpers: SameBytes, Spoil, Own. Conditions: rows of at most 2^40 bytes. -/
import Derived.Test.YtlehkgogcbdckaaPush
import Derived.Deep.QuietTactic
import Derived.BigQuiet
namespace Go.Proofs.Ytlehkgogcbdckaa
open Go.RowKit

theorem take_eq_of_len {α : Type} [DecidableEq α] {l m : List α} (h : l.length ≠ m.length) : decide (l = m) = false := by
  rw [decide_eq_false_iff_not]
  intro e
  exact h (by rw [e])
theorem ne_of_get {α : Type} [DecidableEq α] {l m : List α} {k : Nat} {x y : α} (hx : Hid (l[k]? = some x)) (hy : Hid (m[k]? = some y)) (h : x ≠ y) : decide (l = m) = false := by
  rw [decide_eq_false_iff_not]
  intro e
  subst e
  have := hx.out.symm.trans hy.out
  injection this with this
  exact h this
theorem eq_of_takes {α : Type} [DecidableEq α] {l m : List α} (hl : l.length = m.length) (h : Hid (l.take l.length = m.take l.length)) : decide (l = m) = true := by
  rw [decide_eq_true_iff]
  have := h.out
  rw [List.take_length, hl, List.take_length] at this
  exact this
theorem takes_snoc {α : Type} {l m : List α} {k : Nat} {x : α} (h : Hid (l.take k = m.take k)) (hx : Hid (l[k]? = some x)) (hy : Hid (m[k]? = some x)) : Hid (l.take (k + 1) = m.take (k + 1)) := by
  show l.take (k + 1) = m.take (k + 1)
  rw [take_snoc hx, take_snoc hy, h.out]


set_option maxHeartbeats 1000000 in
theorem sameBytes_any (A A' : Option Addr) (c c' B B' : Nat) (l m : List UInt8) (w : World) (hl : l.length ≤ 140737488351232) (hr : RdB w B A l) (hm : RdB w B' A' m) :
    Calls Try.prog 20 #[.slice A l.length c, .slice A' m.length c'] w fun e w' => e = .returned (.bool (decide (l = m))) ∧ ∃ n, w' = w.drewN n := by
  have hlen : (l.length : Int) ≤ 140737488351232 := by omega
  clear hl
  by_cases hlm : l.length = m.length
  · have hne : ((l.length : Int) != (m.length : Int)) = false := by rw [hlm]; simp
    have hne' : (l.length != m.length) = false := by rw [hlm]; simp
    have Hlm := Lib.hid hlm
    clear hlm
    go_enter Try.func20, Try.ntmps20
    go_wp2
    go_loopw [5] (fun i wr => ∃ k n : Nat, k ≤ l.length ∧ i = .int .i64 (k : Int) ∧ wr = w.drewN n ∧ Hid (l.take k = m.take k)) (fun i _ => l.length - (intOf i).toNat)
    case atStart => exact ⟨0, 0, by omega, rfl, rfl, by exact rfl⟩
    case round =>
      obtain ⟨k, n, hk, rfl, rfl, ht⟩ := hrel
      by_cases hlt : k < l.length
      · have hlt' : k < m.length := by have := Hlm.out; omega
        obtain ⟨ad, x, rfl, _, hc, hx⟩ := RdB.at_ hr hlt
        obtain ⟨ad', y, rfl, _, hc', hy⟩ := RdB.at_ hm hlt'
        by_cases hxy : x = y
        · subst hxy
          go_wp2
          go_quiet (fail)
          go_wp2
          go_roundw
          case rel => exact ⟨k + 1, _, by omega, by go_num, rfl, takes_snoc ht hx hy⟩
          case measure => simp [intOf]; omega
        · have hv : ((x.toNat : Int) != (y.toNat : Int)) = true := by
            rw [bne_iff_ne]
            intro e
            exact hxy (UInt8.toNat_inj.1 (by omega))
          have hv' : (x.toNat != y.toNat) = true := by
            rw [bne_iff_ne]
            intro e
            exact hxy (UInt8.toNat_inj.1 e)
          have Hxy := Lib.hid hxy
          clear hxy
          go_wp2
          go_quiet (fail)
          go_wp2
          go_ret
          exact ⟨ret_bool (ne_of_get hx hy Hxy.out).symm, _, World.drewN_drewN _ _ _⟩
      · obtain rfl : k = l.length := by omega
        go_wp2
        go_ret
        exact ⟨ret_bool (eq_of_takes Hlm.out ht).symm, _, rfl⟩
  · have hne : ((l.length : Int) != (m.length : Int)) = true := by rw [bne_iff_ne]; omega
    have hne' : (l.length != m.length) = true := by rw [bne_iff_ne]; omega
    have Hlm := Lib.hid hlm
    clear hlm
    go_enter Try.func20, Try.ntmps20
    go_wp2
    go_ret
    exact ⟨ret_bool (take_eq_of_len Hlm.out).symm, 0, rfl⟩

theorem own_get {w : World} {base size n k : Nat} {e : TypeId} {v : Value} {xs : List Value} (h : w.ownsRow base e size v n xs) (hk : k < xs.length) {g : Nat} (hg : v.ownBlock = some g) : ∃ u, w.cell? ⟨g, k, none⟩ = some u := by
  have := h.cells hg k _ (List.getElem?_eq_getElem hk)
  have hadd : (⟨g, 0, none⟩ : Addr).add k = ⟨g, k, none⟩ := by unfold Addr.add; split <;> simp_all
  rw [hadd] at this
  exact ⟨_, this⟩
theorem grownBy_trans {a b c : World} {row : Option Nat} (h : a.grownBy b row) (k : b.grownBy c row) : a.grownBy c row :=
  ⟨k.os.trans h.os, k.tape.trans h.tape, k.output.trans h.output, Nat.le_trans h.size k.size, fun i hi hne => (k.block i (Nat.lt_of_lt_of_le hi h.size) hne).trans (h.block i hi hne)⟩

set_option maxHeartbeats 1000000 in
/-- Spoil: a row of the call's own is written over: what it holds then is not told. -/
theorem spoil_any (base n : Nat) (v : Value) (xs : List Value) (w : World) (hn : n ≤ 140737488351232) (hown : w.ownsRow base 5 1 v n xs) :
    Calls Try.prog 50 #[v] w fun e w' => e = .returned (.tuple #[]) ∧ (∃ ys, w'.ownsRow base 5 1 v n ys) ∧ w.grownBy w' v.ownBlock := by
  have hlen : (n : Int) ≤ 140737488351232 := by omega
  clear hn
  rcases Nat.eq_zero_or_pos n with h0 | h0
  · subst h0
    obtain ⟨A, c, rfl, _, _, _⟩ := own_form hown
    go_enter Try.func50, Try.ntmps50
    go_wp2
    refine wp_loop_rounds 1 ?_
    rw [rounds_succ]
    go_wp2
    go_end0
    exact ⟨rfl, ⟨_, hown⟩, World.grownBy.refl _ _⟩
  · obtain ⟨g, cap, rfl, _, _⟩ := hown.form h0
    have hown' : Hid (w.ownsRow base 5 1 (.slice (some ⟨g, 0, none⟩) n cap) n xs) := hown
    clear hown
    go_enter Try.func50, Try.ntmps50
    go_wp2
    go_loopw [2] (fun i wr => ∃ k : Nat, k ≤ n ∧ i = .int .i64 (k : Int) ∧ (∃ ys, wr.ownsRow base 5 1 (.slice (some ⟨g, 0, none⟩) n cap) n ys) ∧ w.grownBy wr (some g)) (fun i _ => n - (intOf i).toNat)
    case atStart => exact ⟨0, by omega, rfl, ⟨_, hown'.out⟩, World.grownBy.refl _ _⟩
    case round =>
      obtain ⟨k, hk, rfl, ⟨ys, hys⟩, hg⟩ := hrel
      by_cases hlt : k < n
      · obtain ⟨u, hu⟩ := own_get hys (k := k) (by have := hys.1; omega) (g := g) rfl
        have hf := hys.frozenAt k
        obtain ⟨h1, h2⟩ := hys.stored k (.int .u8 165)
        have H1 := Lib.hid h1
        have H2 := Lib.hid h2
        clear h1 h2 hys
        go_wp2
        go_roundw
        case rel => exact ⟨k + 1, by omega, by go_num, ⟨_, H1.out⟩, grownBy_trans hg H2.out⟩
        case measure => simp [intOf]; omega
      · go_wp2
        go_end0
        exact ⟨rfl, ⟨_, hys⟩, hg⟩

set_option maxHeartbeats 400000 in
/-- Own: a row, in new memory. -/
theorem own_any (A : Option Addr) (c B : Nat) (l : List UInt8) (w : World) (hl : l.length ≤ 140737488351232) (hr : RdB w B A l) :
    Calls Try.prog 48 #[.slice A l.length c] w fun e w' => ∃ v, e = .returned v ∧ w'.ownsRow w.heap.size 5 1 v l.length (bs l) ∧ Below w.heap.size w w' := by
  have Hl := Lib.hid hl
  clear hl
  go_enter Try.func48, Try.ntmps48
  go_wp2_with (at_builtin; refine push_row (.tmp 4) (.tmp 5) (l := []) (World.ownsRow_nil w w.heap.size 5 1) (Nat.le_refl _) hr (by have := Hl.out; simp; omega) rfl rfl rfl rfl ?_; intro v1 w1 hown1 hb1 hbs1 hg1)
  go_ret
  exact ⟨_, rfl, hown1, hb1⟩
end Go.Proofs.Ytlehkgogcbdckaa
