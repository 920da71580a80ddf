/- The walk of slices.Concat. Conditions: bytes of at most 2^47 - 4096. -/
import Derived.Test.YtogoaihimepboaaKJoI
namespace Go.Proofs.Ytogoaihimepboaa
open Go.RowKit

theorem cat_le {rows : List Row} (k : Nat) : (bytes (rows.take k)).length ≤ (bytes rows).length := by
  have : bytes rows = bytes (rows.take k) ++ bytes (rows.drop k) := by unfold bytes; rw [← List.flatMap_append, List.take_append_drop]
  rw [this, List.length_append]
  omega
set_option maxHeartbeats 1000000 in
set_option maxRecDepth 100000 in
theorem concat_any (A : Option Addr) (c m B : Nat) (rows : List Row) (w : World) (hm : rows.length = m) (hml : m ≤ 1000) (hl : (bytes rows).length ≤ 140737488351232) (hB : B ≤ w.heap.size) (hr : RdR w B A rows) :
    Calls Try.prog 34 #[.slice A m c] w fun e w' => ∃ v, e = .returned v ∧ w'.ownsRow w.heap.size 5 1 v (bytes rows).length (bs (bytes rows)) ∧ Below w.heap.size w w' := by
  subst hm
  have hlI : (rows.length : Int) ≤ 1000 := by omega
  have Hl := Lib.hid hl
  have HB := Lib.hid hB
  clear hl hB hml
  go_enter Try.func34, Try.ntmps34
  go_wp2
  go_loop [3, 11] (fun s i => ∃ k T : Nat, k ≤ rows.length ∧ i = .int .i64 (k : Int) ∧ s = .int .i64 (T : Int) ∧ Hid (T = (bytes (rows.take k)).length)) (fun _ i => rows.length - (intOf i).toNat)
  case atStart => exact ⟨0, 0, by omega, rfl, rfl, by show _ = _; simp [bytes]⟩
  case round =>
    obtain ⟨k, T, hk, rfl, rfl, hT⟩ := hrel
    by_cases hlt : k < rows.length
    · obtain ⟨ad, r, rfl, _, hc1, hx, hrow⟩ := hr.at_ hlt
      have hsn := bytes_snoc hx
      have hle := cat_le (rows := rows) (k + 1)
      rw [hsn, List.length_append] at hle
      have h1 := hT.out
      have h2 := Hl.out
      have hsum : (T : Int) + (r.l.length : Int) ≤ 140737488351232 := by omega
      have hneg : ¬ (T : Int) + (r.l.length : Int) < 0 := by omega
      have hT' : Hid (T + r.l.length = (bytes (rows.take (k + 1))).length) := by rw [hsn, List.length_append, ← h1]; exact rfl
      have hkI : (k : Int) < (rows.length : Int) := by omega
      clear hsn hle h1 h2 hT
      go_wp2
      go_round
      case rel => exact ⟨k + 1, T + r.l.length, by omega, by go_num, by go_num, hT'⟩
      case measure => simp [intOf]; omega
    · obtain rfl : k = rows.length := by omega
      have h1 := hT.out
      rw [List.take_length] at h1
      have hTI : (T : Int) ≤ 140737488351232 := by have := Hl.out; omega
      have HT := Lib.hid h1
      have hgr := Lib.hid (grow_any T w (by omega))
      clear h1 hT
      go_wp2_with (go_at_call 45; refine hgr.out.mono ?_; rintro e w1 ⟨v1, rfl, hown1, hb1⟩; have Hown1 := Lib.hid hown1; have Hb1 := Lib.hid hb1; clear hown1 hb1)
      go_loopw [6, 27] (fun v i wr => ∃ k : Nat, k ≤ rows.length ∧ i = .int .i64 (k : Int) ∧ wr.ownsRow w.heap.size 5 1 v (bytes (rows.take k)).length (bs (bytes (rows.take k))) ∧ Below w.heap.size w wr) (fun _ i _ => rows.length - (intOf i).toNat)
      case atStart => exact ⟨0, by omega, rfl, by simpa [bytes, bs] using Hown1.out, Hb1.out⟩
      case round =>
        obtain ⟨k, hk, rfl, hown, hb⟩ := hrel
        by_cases hlt : k < rows.length
        · obtain ⟨ad, r, rfl, _, hc1, hx, hrow⟩ := (hr.below (hb.mono HB.out)).at_ hlt
          have hsn := bytes_snoc hx
          have hle := cat_le (rows := rows) (k + 1)
          rw [hsn, List.length_append] at hle
          have Hle := Lib.hid (show (bytes (rows.take k)).length + r.l.length ≤ 140737488355327 by have := Hl.out; omega)
          have hkI : (k : Int) < (rows.length : Int) := by omega
          have Hown := Lib.hid hown
          have Hrow := Lib.hid hrow
          have Hb := Lib.hid hb
          have Hsn := Lib.hid hsn
          clear hsn hle hown hrow hb
          go_wp2_with (at_builtin; refine push_row (.tmp 31) (.tmp 32) Hown.out Hb.out.size Hrow.out Hle.out rfl rfl rfl rfl ?_; intro v2 w2 hown2 hb2 hbs2 hg2)
          go_roundw
          case rel => exact ⟨k + 1, by omega, by go_num, by rw [Hsn.out]; exact hown2, Hb.out.trans hb2⟩
          case measure => simp [intOf]; omega
        · obtain rfl : k = rows.length := by omega
          rw [List.take_length] at hown
          go_wp2
          go_ret
          exact ⟨_, rfl, hown, hb⟩
end Go.Proofs.Ytogoaihimepboaa
