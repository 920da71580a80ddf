/- The walks of Sum, Match, Update, and of the document's own Sum. Conditions: at most 2^40 rows, of at most 2^40 bytes. -/
import Derived.Test.YtfhcpjnjemojgaaKCrcE
namespace Go.Proofs.Ytfhcpjnjemojgaa
open Go.RowKit

theorem goOn_at {z : Int} {c : BitVec 32} (hz : z = (c.toNat : Int)) (A : Option Addr) (n cap B : Nat) (rows : List Row) (hn : n = rows.length) (w : World) (hl : rows.length ≤ 140737488351232) (hls : ∀ r ∈ rows, r.l.length ≤ 140737488351232) (hB : B ≤ w.heap.size) (hr : RdR w B A rows) :
    Calls Try.prog 61 #[.int .u32 z, .slice A n cap] w fun e w' => e = .returned (rv (upd c (bytes rows))) ∧ Below w.heap.size w w' := by
  subst hz hn
  exact goOn_any c A cap B rows w hl hls hB hr

theorem sum_any (A : Option Addr) (cap B : Nat) (rows : List Row) (w : World) (hl : rows.length ≤ 140737488351232) (hls : ∀ r ∈ rows, r.l.length ≤ 140737488351232) (hB : B ≤ w.heap.size) (hr : RdR w B A rows) :
    Calls Try.prog 57 #[.slice A rows.length cap] w fun e w' => e = .returned (rv (sum (bytes rows))) ∧ Below w.heap.size w w' := by
  have Hl := Lib.hid hl
  have Hls := Lib.hid hls
  clear hl hls
  go_enter Try.func57, Try.ntmps57
  go_wp2_with fail
  refine (goOn_at (c := 0#32) rfl A _ cap B rows rfl _ Hl.out Hls.out hB hr).mono ?_
  rintro e w1 ⟨rfl, hb1⟩
  go_wp2
  go_ret
  exact ⟨rfl, hb1⟩

theorem eq_bits (a b : BitVec 32) : ((a.toNat : Int) == (b.toNat : Int)) = decide (a = b) := by
  rw [Bool.eq_iff_iff, beq_iff_eq, decide_eq_true_iff]
  constructor
  · intro h
    exact BitVec.eq_of_toNat_eq (by omega)
  · rintro rfl
    rfl

theorem match_any (c : BitVec 32) (A : Option Addr) (cap B : Nat) (rows : List Row) (w : World) (hl : rows.length ≤ 140737488351232) (hls : ∀ r ∈ rows, r.l.length ≤ 140737488351232) (hB : B ≤ w.heap.size) (hr : RdR w B A rows) :
    Calls Try.prog 51 #[rv c, .slice A rows.length cap] w fun e w' => e = .returned (.bool (decide (sum (bytes rows) = c))) ∧ Below w.heap.size w w' := by
  have Hl := Lib.hid hl
  have Hls := Lib.hid hls
  clear hl hls
  have He := Lib.hid (eq_bits (sum (bytes rows)) c)
  obtain ⟨n, hn, hnc, hlt'⟩ := letter c
  rw [hn]
  clear hn
  go_enter Try.func51, Try.ntmps51
  go_wp2_with fail
  refine (sum_any A cap B rows _ Hl.out Hls.out hB hr).mono ?_
  rintro e w1 ⟨rfl, hb1⟩
  go_wp2
  go_ret
  exact ⟨ret_bool (by rw [hnc.out]; exact He.out), hb1⟩

theorem bytes_le (rows : List Row) (k : Nat) : (bytes (rows.take k)).length ≤ (bytes rows).length := by
  conv => rhs; rw [← List.take_append_drop k rows]
  unfold bytes
  rw [List.flatMap_append, List.length_append]
  omega

set_option maxHeartbeats 1000000 in
theorem refSum_big (A : Option Addr) (cap B : Nat) (rows : List Row) (w : World) (hl : rows.length ≤ 140737488351232) (hls : (bytes rows).length ≤ 140737488355327) (hB : B ≤ w.heap.size) (hr : RdR w B A rows) :
    Calls Try.prog 47 #[.slice A rows.length cap] w fun e w' => e = .returned (rv (sum (bytes rows))) ∧ Below w.heap.size w w' := by
  have hlen : (rows.length : Int) ≤ 140737488351232 := by omega
  have Hls := Lib.hid hls
  clear hl hls
  go_enter Try.func47, Try.ntmps47
  go_wp2
  go_loopw [3, 4] (fun v i wr => ∃ k : Nat, k ≤ rows.length ∧ i = .int .i64 (k : Int) ∧ wr.ownsRow w.heap.size 5 1 v (bytes (rows.take k)).length (bs (bytes (rows.take k))) ∧ Below w.heap.size w wr) (fun _ i _ => rows.length - (intOf i).toNat)
  case atStart => exact ⟨0, by omega, rfl, World.ownsRow_nil _ _ _ _, .refl _ _⟩
  case round =>
    obtain ⟨k, hk, rfl, hown, hb⟩ := hrel
    by_cases hlt : k < rows.length
    · obtain ⟨ad, r, rfl, _, hc, hk', hrow⟩ := (hr.below (hb.mono hB)).at_ hlt
      have Hll := Lib.hid (show (bytes (rows.take k)).length + r.l.length ≤ 140737488355327 by
        have h1 := bytes_le rows (k + 1)
        rw [bytes_snoc hk', List.length_append] at h1
        have := Hls.out
        omega)
      have hz := hb.size
      go_wp2_with (at_builtin; refine push_row (.tmp 11) (.tmp 15) hown hz hrow Hll.out rfl rfl rfl rfl ?_; intro v1 w1 hown1 hb1 hbs1 hg1; clear hown)
      go_roundw
      case rel => exact ⟨k + 1, by omega, by go_num, by rw [bytes_snoc hk']; exact hown1, hb.trans hb1⟩
      case measure => simp [intOf]; omega
    · obtain rfl : k = rows.length := by omega
      rw [List.take_length] at hown
      obtain ⟨A1, c1, rfl, _, _, hr1⟩ := own_form hown
      clear hown
      go_wp2_with fail
      refine (refUpdate_big 0#32 A1 c1 wr.heap.size (bytes rows) _ Hls.out hr1).mono ?_
      rintro e w1 ⟨rfl, rfl⟩
      go_wp2
      go_ret
      exact ⟨rfl, hb⟩
theorem refSum_any (A : Option Addr) (cap B : Nat) (rows : List Row) (w : World) (hl : rows.length ≤ 140737488351232) (hls : (bytes rows).length ≤ 140737488351232) (hB : B ≤ w.heap.size) (hr : RdR w B A rows) :
    Calls Try.prog 47 #[.slice A rows.length cap] w fun e w' => e = .returned (rv (sum (bytes rows))) ∧ Below w.heap.size w w' := refSum_big A cap B rows w hl (by omega) hB hr
end Go.Proofs.Ytfhcpjnjemojgaa
