/- The walk of the program's sum over rows of bytes. Conditions: at most 2^40 rows, of at most 2^40 bytes. -/
import Derived.Test.YtfhcpjnjemojgaaKCrcD
import Derived.Test.YtfhcpjnjemojgaaKGa
namespace Go.Proofs.Ytfhcpjnjemojgaa
open Go.RowKit

theorem wpList_store_tab {P : Program} {ops : Array Oper} {rest : List Oper} {o : Oper} {a : Act} {w : World} {Q : Exit → Act → World → Prop} (hgd : o.guard = none) (ty : TypeId) (x y : Operand) (ho : o.op = .store ty x y)
    (g : Nat) (cells : Array Value) (hx : a.eval x = .pointer (some ⟨g, 0, none⟩)) (hy : a.eval y = .agg cells)
    (t : TypeId) (old : Array Value) (hg : w.heap[g]? = some (.cells old t (0, 0))) (hi : (P.info? ty).map (·.size) = some cells.size)
    (hold : old.size = cells.size) (h1 : cells.all (·.oneCell') = true) (hd : o.dst = none)
    (h : wpList P ops Q rest a (w.setRow g cells)) : wpList P ops Q (o :: rest) a w :=
  wpList_store_row hgd ty x y ho g cells hx hy t old hg hi hold h1 (by rw [hd]; exact h)

/-- A table stored in a new variable: what may be read there. -/
theorem store_tab {ops : Array Oper} {rest : List Oper} {o : Oper} {a : Act} {w : World} {Q : Exit → Act → World → Prop} (x y : Operand) (hgd : o.guard = none) (ho : o.op = .store 119 x y)
    (hx : a.eval x = .pointer (some ⟨w.heap.size, 0, none⟩)) (hy : a.eval y = .agg tabV) (hd : o.dst = none)
    (h : ∀ W, Below w.heap.size w W → Hid (∀ i, i < 256 → W.cell? ⟨w.heap.size, i, none⟩ = some (rv (tab i))) → w.heap.size + 1 ≤ W.heap.size → wpList Try.prog ops Q rest a W) :
    wpList Try.prog ops Q (o :: rest) a (w.alloc (.cells (tabTo 0) 119)) := by
  refine wpList_store_row hgd _ x y ho w.heap.size tabV hx hy _ _ (heap_alloc_new _ _) (by rw [size_row, tabV_size]) (by rw [tabTo_size, tabV_size]) tabV_one ?_
  rw [hd]
  refine h _ (below_setRow ((Below.refl _ _).alloc (Nat.le_refl _) _) (Nat.le_refl _) _) ?_ (by simp)
  intro i hi
  rw [cell_of_row _ _ i _ _ _ (setRow_heap _ _ _ _ _ _ (heap_alloc_new _ _))]
  unfold tabV
  rw [List.getElem?_toArray, List.getElem?_map, List.getElem?_range hi, Option.map_some]

theorem not_max {n : Nat} {c : BitVec 32} (h : Hid (n = c.toNat)) : bits .xor .u32 IntKind.u32.max (n : Int) = ((~~~ c).toNat : Int) := by
  have e : ~~~ c = 4294967295#32 ^^^ c := by
    rw [BitVec.xor_comm, ← BitVec.xor_allOnes]
    rfl
  rw [e, BitVec.toNat_xor, h.out]
  exact u32_xor_nat _ _ (by decide) c.isLt
theorem place_bits {m : Nat} {y : BitVec 32} {b : UInt8} (h : Hid (m = y.toNat)) : bits .xor .u8 ((m : Int) % 256) (b.toNat : Int) = (place y b : Int) := by
  have e : (m : Int) % 256 = ((y.toNat % 256 : Nat) : Int) := by rw [h.out]; omega
  rw [e]
  exact u8_xor_nat _ _ (by omega) b.toNat_lt

theorem feed_bits {m p : Nat} {y : BitVec 32} {b : UInt8} (h : Hid (m = y.toNat)) (hp : p = place y b) : bits .xor .u32 ((m : Int) / 256) ((tab p).toNat : Int) = ((feed y b).toNat : Int) := by
  rw [feed_tab, ← hp, BitVec.toNat_xor, BitVec.toNat_ushiftRight, Nat.shiftRight_eq_div_pow]
  have e : (m : Int) / 256 = ((y.toNat / 2 ^ 8 : Nat) : Int) := by rw [h.out]; omega
  rw [e]
  exact u32_xor_nat _ _ (by have := y.isLt; omega) (tab p).isLt

set_option maxHeartbeats 1000000 in
set_option maxRecDepth 100000 in
theorem goOn_any (c : BitVec 32) (A : Option Addr) (cap B : Nat) (rows : List Row) (w : World) (hl : rows.length ≤ 140737488351232) (hls : ∀ r ∈ rows, r.l.length ≤ 140737488351232) (hB : B ≤ w.heap.size) (hr : RdR w B A rows) :
    Calls Try.prog 61 #[rv c, .slice A rows.length cap] w fun e w' => e = .returned (rv (upd c (bytes rows))) ∧ Below w.heap.size w w' := by
  have hlen : (rows.length : Int) ≤ 140737488351232 := by omega
  have Hls := Lib.hid hls
  clear hl hls
  obtain ⟨n, hn, hnc, hlt'⟩ := letter c
  rw [hn]
  clear hn
  go_enter Try.func61, Try.ntmps61
  go_wp2_with fail
  refine (crcTable_any _).mono ?_
  rintro e w1 ⟨rfl, hb1⟩
  go_wp2_with (first | refine wpList_alloc_zero rfl 119 rfl _ zero_row _ rfl ?_ | refine wpList_store_tab rfl 119 (.tmp 5) (.tmp 11) rfl w1.heap.size tabV rfl rfl _ _ (heap_alloc_new _ _) (by rw [size_row, tabV_size]) (by rw [tabTo_size, tabV_size]) tabV_one rfl ?_)
  obtain ⟨W, hW⟩ : ∃ W, W = (w1.alloc (.cells (tabTo 0) 119)).setRow w1.heap.size tabV := ⟨_, rfl⟩
  rw [← hW]
  have hg : W.heap[w1.heap.size]? = some (.cells tabV 119 (0, 0)) := by rw [hW]; exact setRow_heap _ _ _ _ _ _ (heap_alloc_new _ _)
  have hbW : Below w.heap.size w W := by rw [hW]; exact below_setRow (hb1.alloc hb1.size _) hb1.size _
  have HbW := Lib.hid hbW
  have hrW := hr.below (hbW.mono hB)
  obtain ⟨N, hN⟩ : ∃ N, N = w1.heap.size := ⟨_, rfl⟩
  rw [← hN] at hg ⊢
  have htab : Hid (∀ i, i < 256 → W.cell? ⟨N, i, none⟩ = some (rv (tab i))) := fun i hi => by
    rw [cell_of_row W _ i _ _ _ hg]
    unfold tabV
    rw [List.getElem?_toArray, List.getElem?_map, List.getElem?_range hi, Option.map_some]
  clear hW hN hg hbW hb1 hr
  go_loop [6, 16] (fun r i => ∃ (k : Nat) (x : BitVec 32), k ≤ rows.length ∧ i = .int .i64 (k : Int) ∧ r = rv x ∧ Hid (x = reg (~~~ c) (bytes (rows.take k)))) (fun _ i => rows.length - (intOf i).toNat)
  case atStart => exact ⟨0, ~~~ c, by omega, rfl, val_u32 (not_max hnc), by exact rfl⟩
  case round =>
    obtain ⟨k, x, hk, rfl, rfl, hx⟩ := hrel
    by_cases hlt : k < rows.length
    · obtain ⟨ad, r, rfl, _, hc, hk', hrow⟩ := hrW.at_ hlt
      have hll : (r.l.length : Int) ≤ 140737488351232 := by have := Hls.out r (mem_of_get hk'); omega
      go_wp2
      go_loop [6, 22] (fun q i => ∃ (j : Nat) (y : BitVec 32), j ≤ r.l.length ∧ i = .int .i64 (j : Int) ∧ q = rv y ∧ Hid (y = reg x (r.l.take j))) (fun _ i => r.l.length - (intOf i).toNat)
      case atStart => exact ⟨0, x, by omega, rfl, rfl, by exact rfl⟩
      case round =>
        obtain ⟨j, y, hj, rfl, rfl, hy⟩ := hrel
        by_cases hltj : j < r.l.length
        · obtain ⟨ad', b, hA, _, hcb, hb⟩ := RdB.at_ hrow hltj
          obtain ⟨m, hm, hmy, hmlt⟩ := letter y
          rw [hm, hA]
          clear hm
          obtain ⟨p, hp⟩ : ∃ p, p = place y b := ⟨_, rfl⟩
          have hp256 : (p : Int) < 256 := by have := place_lt y b; omega
          have hpx := place_bits (b := b) hmy
          have hct := htab.out p (by omega)
          rw [← hp] at hpx
          have Hp := Lib.hid hp
          clear hp
          go_wp2
          go_round
          case rel => exact ⟨j + 1, feed y b, by omega, by go_num, val_u32 (feed_bits hmy Hp.out), by rw [take_snoc hb, reg_append, ← hy.out]; exact rfl⟩
          case measure => simp [intOf]; omega
        · obtain rfl : j = r.l.length := by omega
          go_wp2
          go_round
          case rel => exact ⟨k + 1, y, by omega, by go_num, rfl, by rw [hy.out, List.take_length, bytes_snoc hk', reg_append, hx.out]; exact rfl⟩
          case measure => simp [intOf]; omega
    · obtain rfl : k = rows.length := by omega
      obtain ⟨m, hm, hmy, hmlt⟩ := letter x
      rw [hm]
      clear hm
      go_wp2
      go_ret
      refine ⟨ret_u32 ?_, HbW.out⟩
      rw [not_max hmy, hx.out, List.take_length]
      rfl
end Go.Proofs.Ytfhcpjnjemojgaa
