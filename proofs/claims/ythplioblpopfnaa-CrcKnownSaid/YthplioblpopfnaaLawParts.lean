/- The walk of CrcParts: whatever the bytes and the places, it returns true. Conditions: none. -/
import Derived.Test.YthplioblpopfnaaCrcH
namespace Go.Proofs.Ythplioblpopfnaa
open Go.RowKit

theorem sum_three {w : World} {v : Value} {l : List UInt8} (h : Three w v l) (hl : l.length ≤ 1099511627776) :
    Calls Try.prog 10 #[v] w fun e w' => ∃ u, e = .returned u ∧ Below w.heap.size w w' ∧ u = rv (sum l) := by
  obtain ⟨N, r1, r2, r3, rfl, rfl, hr⟩ := h
  have hls : ∀ r ∈ [r1, r2, r3], r.l.length ≤ 1099511627776 := by
    intro q hq
    simp only [bytes, List.flatMap_cons, List.flatMap_nil, List.append_nil, List.length_append] at hl
    simp only [List.mem_cons, List.not_mem_nil, or_false] at hq
    rcases hq with rfl | rfl | rfl <;> omega
  refine (sum_any _ 3 _ [r1, r2, r3] w (by simp) hls (Nat.le_refl _) hr).mono ?_
  rintro e w' ⟨rfl, hb⟩
  exact ⟨_, rfl, hb, rfl⟩
theorem update_part {w : World} {A : Option Addr} {n c B : Nat} {l : List UInt8} {x y : BitVec 32} (hn : l.length = n) (hl : n ≤ 1099511627776) (h : upd x l = y) (hB : B ≤ w.heap.size) (hr : RdB w B A l) :
    Calls Try.prog 12 #[rv x, .slice A n c] w fun e w' => ∃ u, e = .returned u ∧ Below w.heap.size w w' ∧ u = rv y := by
  subst hn h
  exact (update_any x A c B l w hl hB hr).mono fun _ _ ⟨he, hb⟩ => ⟨_, he, hb, rfl⟩
theorem update_part0 {w : World} {A : Option Addr} {n c B : Nat} {l : List UInt8} (hn : l.length = n) (hl : n ≤ 1099511627776) (hB : B ≤ w.heap.size) (hr : RdB w B A l) :
    Calls Try.prog 12 #[.int .u32 0, .slice A n c] w fun e w' => ∃ u, e = .returned u ∧ Below w.heap.size w w' ∧ u = rv (sum l) :=
  update_part (x := 0#32) hn hl rfl hB hr
theorem enter_update (w : World) (args : Array Value) : (callFunc 12 args).run Try.prog w = .ok (.enter 12 args) w := by kernel_rfl
theorem RdB.void (w : World) (B N : Nat) : RdB w B (some ⟨N, 0, none⟩) [] := ⟨by simp [bs], fun h => absurd h (by simp)⟩

/-- What the last statement's operations lay. -/
def PartF (A : Option Addr) (c n m : Nat) (l : List UInt8) : Nat → Value → World → Prop
  | 0, v, _ => v = .slice A l.length c
  | 1, v, _ => v = .int .i64 (n : Int)
  | 2, v, _ => v = .slice A n c
  | 3, v, _ => v = .slice A l.length c
  | 4, v, _ => v = .int .i64 (n : Int)
  | 5, v, _ => v = .int .i64 (m : Int)
  | 6, v, _ => v = .slice (if c = n then A else A.map (·.add n)) (m - n) (c - n)
  | 7, v, _ => v = .slice A l.length c
  | 8, v, _ => v = .int .i64 (m : Int)
  | 9, v, _ => v = .slice (if c = m then A else A.map (·.add m)) (l.length - m) (c - m)
  | 10, v, w => Three w v l
  | 11, v, _ => v = rv (sum l)
  | 12, v, _ => v = rv (sum l)
  | 13, v, _ => v = .bool true
  | 14, v, _ => v = .bool true
  | 15, v, _ => v = .slice A l.length c
  | 16, v, _ => v = .int .i64 (n : Int)
  | 17, v, _ => v = .slice A n c
  | 18, v, w => One w v (l.take n)
  | 19, v, _ => v = rv (sum (l.take n))
  | 20, v, _ => v = .slice A l.length c
  | 21, v, _ => v = .int .i64 (n : Int)
  | 22, v, _ => v = .slice (if c = n then A else A.map (·.add n)) (l.length - n) (c - n)
  | 23, v, _ => v = rv (sum l)
  | 24, v, _ => v = rv (sum l)
  | 25, v, _ => v = .bool true
  | 26, v, _ => v = .bool true
  | 27, v, _ => v = .bool true
  | 28, v, _ => v = .slice A l.length c
  | 29, v, _ => v = .int .i64 (n : Int)
  | 30, v, _ => v = .slice A n c
  | 31, v, _ => v = rv (sum (l.take n))
  | 32, v, _ => v = .slice A l.length c
  | 33, v, _ => v = .int .i64 (n : Int)
  | 34, v, _ => v = .int .i64 (m : Int)
  | 35, v, _ => v = .slice (if c = n then A else A.map (·.add n)) (m - n) (c - n)
  | 36, v, _ => v = rv (sum (l.take m))
  | 37, v, _ => v = .slice A l.length c
  | 38, v, _ => v = .int .i64 (m : Int)
  | 39, v, _ => v = .slice (if c = m then A else A.map (·.add m)) (l.length - m) (c - m)
  | 40, v, _ => v = rv (sum l)
  | 41, v, _ => v = rv (sum l)
  | 42, v, _ => v = .bool true
  | 43, v, _ => v = .bool true
  | 44, v, _ => v = .bool true
  | 45, v, _ => v = .slice A l.length c
  | 46, v, _ => ∃ N, v = .slice (some ⟨N, 0, none⟩) 0 0
  | 47, v, w => Three w v l
  | 48, v, _ => v = rv (sum l)
  | 49, v, _ => v = rv (sum l)
  | 50, v, _ => v = .bool true
  | 51, v, _ => v = .bool true
  | 52, v, _ => v = .bool true
  | 53, v, _ => v = .bool true
  | 54, v, _ => v = .bool true
  | 55, v, _ => v = .bool true
  | _, _, _ => True
theorem PartF.keep {A : Option Addr} {c n m : Nat} {l : List UInt8} (j : Nat) (u : Value) (w w' : World) (hb : Below w.heap.size w w') (h : PartF A c n m l j u w) : PartF A c n m l j u w' :=
  match j, h with
  | 0, h => h
  | 1, h => h
  | 2, h => h
  | 3, h => h
  | 4, h => h
  | 5, h => h
  | 6, h => h
  | 7, h => h
  | 8, h => h
  | 9, h => h
  | 10, h => Three.keep h hb
  | 11, h => h
  | 12, h => h
  | 13, h => h
  | 14, h => h
  | 15, h => h
  | 16, h => h
  | 17, h => h
  | 18, h => One.keep h hb
  | 19, h => h
  | 20, h => h
  | 21, h => h
  | 22, h => h
  | 23, h => h
  | 24, h => h
  | 25, h => h
  | 26, h => h
  | 27, h => h
  | 28, h => h
  | 29, h => h
  | 30, h => h
  | 31, h => h
  | 32, h => h
  | 33, h => h
  | 34, h => h
  | 35, h => h
  | 36, h => h
  | 37, h => h
  | 38, h => h
  | 39, h => h
  | 40, h => h
  | 41, h => h
  | 42, h => h
  | 43, h => h
  | 44, h => h
  | 45, h => h
  | 46, h => h
  | 47, h => Three.keep h hb
  | 48, h => h
  | 49, h => h
  | 50, h => h
  | 51, h => h
  | 52, h => h
  | 53, h => h
  | 54, h => h
  | 55, h => h
  | _ + 56, h => h
/-- What holds of every world of the last statement. -/
structure PartC (w0 : World) (B : Nat) (A : Option Addr) (l : List UInt8) (w : World) : Prop where
  old : Below w0.heap.size w0 w
  hB : B ≤ w.heap.size
  ra : RdB w B A l
theorem PartC.keep {w0 : World} {B : Nat} {A : Option Addr} {l : List UInt8} (w w' : World) (hb : Below w.heap.size w w') (h : PartC w0 B A l w) : PartC w0 B A l w' :=
  ⟨h.old.trans (hb.mono h.old.size), Nat.le_trans h.hB hb.size, Reads.below h.ra (hb.mono h.hB)⟩

set_option maxHeartbeats 4000000 in
set_option maxRecDepth 100000 in
theorem partsLaw_any (A : Option Addr) (c B : Nat) (l : List UInt8) (i k : Nat) (w : World) (hl : l.length ≤ 9223372036854775807) (hi : i ≤ 65535) (hk : k ≤ 65535) (hlc : l.length ≤ c) (hB : B ≤ w.heap.size) (hr : RdB w B A l) :
    Calls Try.prog 4 #[.slice A l.length c, .int .u16 (i : Int), .int .u16 (k : Int)] w fun e w' => e = .returned (.bool true) ∧ Below w.heap.size w w' := by
  have Hl := Lib.hid hl
  clear hl
  by_cases h400 : 400 < l.length
  · have hd : decide ((400 : Int) < (l.length : Int)) = true := by rw [decide_eq_true_iff]; omega
    clear hi hk hlc
    go_enter Try.func4, Try.ntmps4
    go_wp2_with fail
    refine (works_any _).mono ?_
    rintro e w1 ⟨rfl, hb⟩
    go_wp2
    go_ret
    exact ⟨rfl, hb⟩
  have hd : decide ((400 : Int) < (l.length : Int)) = false := by rw [decide_eq_false_iff_not]; omega
  have hlI : (l.length : Int) ≤ 400 := by omega
  have hiI : (i : Int) ≤ 65535 := by omega
  have hkI : (k : Int) ≤ 65535 := by omega
  obtain ⟨n, hn⟩ : ∃ n, n = i % (l.length + 1) := ⟨_, rfl⟩
  obtain ⟨t, ht⟩ : ∃ t, t = k % (l.length - n + 1) := ⟨_, rfl⟩
  have hnl : n < l.length + 1 := by rw [hn]; exact Nat.mod_lt _ (by omega)
  have htl : t < l.length - n + 1 := by rw [ht]; exact Nat.mod_lt _ (by omega)
  have hn' : (i : Int) % ((l.length : Int) + 1) = (n : Int) := by rw [hn]; push_cast; rfl
  have ht' : (k : Int) % ((l.length : Int) - (n : Int) + 1) = (t : Int) := by
    rw [ht]
    push_cast
    rw [Int.ofNat_sub (by omega)]
  obtain ⟨m, hm⟩ : ∃ m, m = n + t := ⟨_, rfl⟩
  have hm' : (n : Int) + (t : Int) = (m : Int) := by omega
  have Hnm := Lib.hid (show n ≤ m ∧ m ≤ l.length by omega)
  have hnI : (n : Int) ≤ (l.length : Int) := by omega
  have hmI : (m : Int) ≤ (l.length : Int) := by omega
  have Hlc := Lib.hid hlc
  have Hl4 := Lib.hid (show l.length ≤ 400 by omega)
  clear hn ht hm hnl htl hi hk hlc h400
  go_enter Try.func4, Try.ntmps4
  go_wp2_with fail
  refine (sumOne w _ rfl A c l.length B l rfl (by have := Hl4.out; omega) hB hr _ rfl).mono ?_
  rintro e w1 ⟨rfl, hb1, hs1⟩
  go_wp2_with fail
  have hC0 : PartC w B A l w1.drew := ⟨hb1.drew, Nat.le_trans hB hb1.size, (hr.below (hb1.mono hB)).drew⟩
  clear hb1 hr
  refine wp_region_facts (n := 88) (PartF A c n m l) (PartC w B A l) (by kernel_rfl) (by kernel_rfl) rfl hC0 ?_ ?_
  · have hlc := Hlc.out
    have hl4 := Hl4.out
    obtain ⟨hnm, hml⟩ := Hnm.out
    have hnl : n ≤ l.length := by omega
    have hnc : n ≤ c := by omega
    have hmc : m ≤ c := by omega
    have hl : l.length ≤ 1099511627776 := by omega
    have hlf : (l.take n).length = n := by rw [List.length_take]; omega
    have hlf' : (l.take n).length ≤ 1099511627776 := by omega
    have hmn : m - n ≤ (l.drop n).length := by rw [List.length_drop]; omega
    have hlm : ((l.drop n).take (m - n)).length = m - n := by rw [List.length_take, List.length_drop]; omega
    have hlt : (l.drop n).length = l.length - n := by rw [List.length_drop]
    have hlb : (l.drop m).length = l.length - m := by rw [List.length_drop]
    have hmid : (l.take n) ++ ((l.drop n).take (m - n)) = l.take m := by
      conv => rhs; rw [show m = n + (m - n) by omega]
      rw [List.take_add]
    have hall : l.take n ++ ((l.drop n).take (m - n) ++ l.drop m) = l := by rw [← List.append_assoc, hmid, List.take_append_drop]
    have hadd1 : upd (sum (l.take n)) (l.drop n) = sum l := by
      unfold sum
      rw [← upd_append, List.take_append_drop]
    have hadd2 : upd (sum (l.take n)) ((l.drop n).take (m - n)) = sum (l.take m) := by
      unfold sum
      rw [← upd_append, hmid]
    have hadd3 : upd (sum (l.take m)) (l.drop m) = sum l := by
      unfold sum
      rw [← upd_append, List.take_append_drop]
    refine OpsOk.cons _ _ (OpOk.run _ _ PartF.keep PartC.keep fun b v hs hc hg => ⟨rfl, _, _, exec_move rfl (hs 0 (by kernel_rfl)), .refl _ _, rfl⟩) ?_
    refine OpsOk.cons _ _ (OpOk.run _ _ PartF.keep PartC.keep fun b v hs hc hg => ⟨rfl, _, _, exec_move rfl (hs 7 (by kernel_rfl)), .refl _ _, rfl⟩) ?_
    refine OpsOk.cons _ _ (OpOk.run _ _ PartF.keep PartC.keep fun b v hs hc hg => ⟨rfl, _, _, exec_front rfl (dep hg 0 rfl rfl rfl rfl) (dep hg 1 rfl rfl rfl rfl) hnc, .refl _ _, rfl⟩) ?_
    refine OpsOk.cons _ _ (OpOk.run _ _ PartF.keep PartC.keep fun b v hs hc hg => ⟨rfl, _, _, exec_move rfl (hs 0 (by kernel_rfl)), .refl _ _, rfl⟩) ?_
    refine OpsOk.cons _ _ (OpOk.run _ _ PartF.keep PartC.keep fun b v hs hc hg => ⟨rfl, _, _, exec_move rfl (hs 7 (by kernel_rfl)), .refl _ _, rfl⟩) ?_
    refine OpsOk.cons _ _ (OpOk.run _ _ PartF.keep PartC.keep fun b v hs hc hg => ⟨rfl, _, _, exec_move rfl (hs 8 (by kernel_rfl)), .refl _ _, rfl⟩) ?_
    refine OpsOk.cons _ _ (OpOk.run _ _ PartF.keep PartC.keep fun b v hs hc hg => ⟨rfl, _, _, exec_mid rfl (dep hg 0 rfl rfl rfl rfl) (dep hg 1 rfl rfl rfl rfl) (dep hg 2 rfl rfl rfl rfl) hnm hmc, .refl _ _, rfl⟩) ?_
    refine OpsOk.cons _ _ (OpOk.run _ _ PartF.keep PartC.keep fun b v hs hc hg => ⟨rfl, _, _, exec_move rfl (hs 0 (by kernel_rfl)), .refl _ _, rfl⟩) ?_
    refine OpsOk.cons _ _ (OpOk.run _ _ PartF.keep PartC.keep fun b v hs hc hg => ⟨rfl, _, _, exec_move rfl (hs 8 (by kernel_rfl)), .refl _ _, rfl⟩) ?_
    refine OpsOk.cons _ _ (OpOk.run _ _ PartF.keep PartC.keep fun b v hs hc hg => ⟨rfl, _, _, exec_back rfl (dep hg 0 rfl rfl rfl rfl) (dep hg 1 rfl rfl rfl rfl) hml hlc, .refl _ _, rfl⟩) ?_
    refine OpsOk.cons _ _ (OpOk.run _ _ PartF.keep PartC.keep fun b v hs hc hg => ⟨rfl, _, _, exec_list3 rfl (dep hg 0 rfl rfl rfl rfl) (dep hg 1 rfl rfl rfl rfl) (dep hg 2 rfl rfl rfl rfl), (Below.refl _ _).alloc (Nat.le_refl _) _, Three.new v _ _ _ _ _ _ _ _ _ _ _ _ _ l hlf hlm hlb hall hc.hB (RdB.first hc.ra hnl) (RdB.first (RdB.back hc.ra hnl hlc) hmn) (RdB.back hc.ra hml hlc)⟩) ?_
    refine OpsOk.cons _ _ (OpOk.call _ _ PartF.keep PartC.keep fun b v hs hc hg => ⟨rfl, _, _, exec_call1 (enter_sum _) rfl rfl, sum_three (dep hg 0 rfl rfl rfl rfl) hl⟩) ?_
    refine OpsOk.cons _ _ (OpOk.run _ _ PartF.keep PartC.keep fun b v hs hc hg => ⟨rfl, _, _, exec_move rfl (hs 9 (by kernel_rfl)), .refl _ _, rfl⟩) ?_
    refine OpsOk.cons _ _ (OpOk.run _ _ PartF.keep PartC.keep fun b v hs hc hg => ⟨rfl, _, _, exec_eq32 rfl (dep hg 0 rfl rfl rfl rfl) (dep hg 1 rfl rfl rfl rfl), .refl _ _, rfl⟩) ?_
    refine OpsOk.cons _ _ (OpOk.run _ _ PartF.keep PartC.keep fun b v hs hc hg => ⟨rfl, _, _, exec_move rfl (dep hg 0 rfl rfl rfl rfl), .refl _ _, rfl⟩) ?_
    refine OpsOk.cons _ _ (OpOk.run _ _ PartF.keep PartC.keep fun b v hs hc hg => ⟨wanted_of rfl rfl rfl (dep hg 0 rfl rfl rfl rfl), _, _, exec_move rfl (hs 0 (by kernel_rfl)), .refl _ _, rfl⟩) ?_
    refine OpsOk.cons _ _ (OpOk.run _ _ PartF.keep PartC.keep fun b v hs hc hg => ⟨wanted_of rfl rfl rfl (dep hg 0 rfl rfl rfl rfl), _, _, exec_move rfl (hs 7 (by kernel_rfl)), .refl _ _, rfl⟩) ?_
    refine OpsOk.cons _ _ (OpOk.run _ _ PartF.keep PartC.keep fun b v hs hc hg => ⟨wanted_of rfl rfl rfl (dep hg 2 rfl rfl rfl rfl), _, _, exec_front rfl (dep hg 0 rfl rfl rfl rfl) (dep hg 1 rfl rfl rfl rfl) hnc, .refl _ _, rfl⟩) ?_
    refine OpsOk.cons _ _ (OpOk.run _ _ PartF.keep PartC.keep fun b v hs hc hg => ⟨wanted_of rfl rfl rfl (dep hg 1 rfl rfl rfl rfl), _, _, exec_list1 rfl (dep hg 0 rfl rfl rfl rfl), (Below.refl _ _).alloc (Nat.le_refl _) _, One.new v _ _ _ _ _ hlf hc.hB (RdB.first hc.ra hnl)⟩) ?_
    refine OpsOk.cons _ _ (OpOk.call _ _ PartF.keep PartC.keep fun b v hs hc hg => ⟨wanted_of rfl rfl rfl (dep hg 2 rfl rfl rfl rfl), _, _, exec_call1 (enter_sum _) rfl rfl, sum_one (dep hg 0 rfl rfl rfl rfl) hlf'⟩) ?_
    refine OpsOk.cons _ _ (OpOk.run _ _ PartF.keep PartC.keep fun b v hs hc hg => ⟨wanted_of rfl rfl rfl (dep hg 0 rfl rfl rfl rfl), _, _, exec_move rfl (hs 0 (by kernel_rfl)), .refl _ _, rfl⟩) ?_
    refine OpsOk.cons _ _ (OpOk.run _ _ PartF.keep PartC.keep fun b v hs hc hg => ⟨wanted_of rfl rfl rfl (dep hg 0 rfl rfl rfl rfl), _, _, exec_move rfl (hs 7 (by kernel_rfl)), .refl _ _, rfl⟩) ?_
    refine OpsOk.cons _ _ (OpOk.run _ _ PartF.keep PartC.keep fun b v hs hc hg => ⟨wanted_of rfl rfl rfl (dep hg 2 rfl rfl rfl rfl), _, _, exec_back rfl (dep hg 0 rfl rfl rfl rfl) (dep hg 1 rfl rfl rfl rfl) hnl hlc, .refl _ _, rfl⟩) ?_
    refine OpsOk.cons _ _ (OpOk.call _ _ PartF.keep PartC.keep fun b v hs hc hg => ⟨wanted_of rfl rfl rfl (dep hg 3 rfl rfl rfl rfl), _, _, exec_call2 (enter_update _) rfl (dep hg 0 rfl rfl rfl rfl) (dep hg 1 rfl rfl rfl rfl), update_part hlt (by omega) hadd1 hc.hB (RdB.back hc.ra hnl hlc)⟩) ?_
    refine OpsOk.cons _ _ (OpOk.run _ _ PartF.keep PartC.keep fun b v hs hc hg => ⟨wanted_of rfl rfl rfl (dep hg 0 rfl rfl rfl rfl), _, _, exec_move rfl (hs 9 (by kernel_rfl)), .refl _ _, rfl⟩) ?_
    refine OpsOk.cons _ _ (OpOk.run _ _ PartF.keep PartC.keep fun b v hs hc hg => ⟨wanted_of rfl rfl rfl (dep hg 2 rfl rfl rfl rfl), _, _, exec_eq32 rfl (dep hg 0 rfl rfl rfl rfl) (dep hg 1 rfl rfl rfl rfl), .refl _ _, rfl⟩) ?_
    refine OpsOk.cons _ _ (OpOk.run _ _ PartF.keep PartC.keep fun b v hs hc hg => ⟨rfl, _, _, exec_pick rfl (dep hg 0 rfl rfl rfl rfl) (dep hg 1 rfl rfl rfl rfl), .refl _ _, rfl⟩) ?_
    refine OpsOk.cons _ _ (OpOk.run _ _ PartF.keep PartC.keep fun b v hs hc hg => ⟨rfl, _, _, exec_move rfl (dep hg 0 rfl rfl rfl rfl), .refl _ _, rfl⟩) ?_
    refine OpsOk.cons _ _ (OpOk.run _ _ PartF.keep PartC.keep fun b v hs hc hg => ⟨wanted_of rfl rfl rfl (dep hg 0 rfl rfl rfl rfl), _, _, exec_move rfl (hs 0 (by kernel_rfl)), .refl _ _, rfl⟩) ?_
    refine OpsOk.cons _ _ (OpOk.run _ _ PartF.keep PartC.keep fun b v hs hc hg => ⟨wanted_of rfl rfl rfl (dep hg 0 rfl rfl rfl rfl), _, _, exec_move rfl (hs 7 (by kernel_rfl)), .refl _ _, rfl⟩) ?_
    refine OpsOk.cons _ _ (OpOk.run _ _ PartF.keep PartC.keep fun b v hs hc hg => ⟨wanted_of rfl rfl rfl (dep hg 2 rfl rfl rfl rfl), _, _, exec_front rfl (dep hg 0 rfl rfl rfl rfl) (dep hg 1 rfl rfl rfl rfl) hnc, .refl _ _, rfl⟩) ?_
    refine OpsOk.cons _ _ (OpOk.call _ _ PartF.keep PartC.keep fun b v hs hc hg => ⟨wanted_of rfl rfl rfl (dep hg 2 rfl rfl rfl rfl), _, _, exec_call2 (enter_update _) rfl rfl (dep hg 0 rfl rfl rfl rfl), update_part0 hlf (by omega) hc.hB (RdB.first hc.ra hnl)⟩) ?_
    refine OpsOk.cons _ _ (OpOk.run _ _ PartF.keep PartC.keep fun b v hs hc hg => ⟨wanted_of rfl rfl rfl (dep hg 0 rfl rfl rfl rfl), _, _, exec_move rfl (hs 0 (by kernel_rfl)), .refl _ _, rfl⟩) ?_
    refine OpsOk.cons _ _ (OpOk.run _ _ PartF.keep PartC.keep fun b v hs hc hg => ⟨wanted_of rfl rfl rfl (dep hg 0 rfl rfl rfl rfl), _, _, exec_move rfl (hs 7 (by kernel_rfl)), .refl _ _, rfl⟩) ?_
    refine OpsOk.cons _ _ (OpOk.run _ _ PartF.keep PartC.keep fun b v hs hc hg => ⟨wanted_of rfl rfl rfl (dep hg 0 rfl rfl rfl rfl), _, _, exec_move rfl (hs 8 (by kernel_rfl)), .refl _ _, rfl⟩) ?_
    refine OpsOk.cons _ _ (OpOk.run _ _ PartF.keep PartC.keep fun b v hs hc hg => ⟨wanted_of rfl rfl rfl (dep hg 3 rfl rfl rfl rfl), _, _, exec_mid rfl (dep hg 0 rfl rfl rfl rfl) (dep hg 1 rfl rfl rfl rfl) (dep hg 2 rfl rfl rfl rfl) hnm hmc, .refl _ _, rfl⟩) ?_
    refine OpsOk.cons _ _ (OpOk.call _ _ PartF.keep PartC.keep fun b v hs hc hg => ⟨wanted_of rfl rfl rfl (dep hg 3 rfl rfl rfl rfl), _, _, exec_call2 (enter_update _) rfl (dep hg 0 rfl rfl rfl rfl) (dep hg 1 rfl rfl rfl rfl), update_part hlm (by omega) hadd2 hc.hB (RdB.first (RdB.back hc.ra hnl hlc) hmn)⟩) ?_
    refine OpsOk.cons _ _ (OpOk.run _ _ PartF.keep PartC.keep fun b v hs hc hg => ⟨wanted_of rfl rfl rfl (dep hg 0 rfl rfl rfl rfl), _, _, exec_move rfl (hs 0 (by kernel_rfl)), .refl _ _, rfl⟩) ?_
    refine OpsOk.cons _ _ (OpOk.run _ _ PartF.keep PartC.keep fun b v hs hc hg => ⟨wanted_of rfl rfl rfl (dep hg 0 rfl rfl rfl rfl), _, _, exec_move rfl (hs 8 (by kernel_rfl)), .refl _ _, rfl⟩) ?_
    refine OpsOk.cons _ _ (OpOk.run _ _ PartF.keep PartC.keep fun b v hs hc hg => ⟨wanted_of rfl rfl rfl (dep hg 2 rfl rfl rfl rfl), _, _, exec_back rfl (dep hg 0 rfl rfl rfl rfl) (dep hg 1 rfl rfl rfl rfl) hml hlc, .refl _ _, rfl⟩) ?_
    refine OpsOk.cons _ _ (OpOk.call _ _ PartF.keep PartC.keep fun b v hs hc hg => ⟨wanted_of rfl rfl rfl (dep hg 3 rfl rfl rfl rfl), _, _, exec_call2 (enter_update _) rfl (dep hg 0 rfl rfl rfl rfl) (dep hg 1 rfl rfl rfl rfl), update_part hlb (by omega) hadd3 hc.hB (RdB.back hc.ra hml hlc)⟩) ?_
    refine OpsOk.cons _ _ (OpOk.run _ _ PartF.keep PartC.keep fun b v hs hc hg => ⟨wanted_of rfl rfl rfl (dep hg 0 rfl rfl rfl rfl), _, _, exec_move rfl (hs 9 (by kernel_rfl)), .refl _ _, rfl⟩) ?_
    refine OpsOk.cons _ _ (OpOk.run _ _ PartF.keep PartC.keep fun b v hs hc hg => ⟨wanted_of rfl rfl rfl (dep hg 2 rfl rfl rfl rfl), _, _, exec_eq32 rfl (dep hg 0 rfl rfl rfl rfl) (dep hg 1 rfl rfl rfl rfl), .refl _ _, rfl⟩) ?_
    refine OpsOk.cons _ _ (OpOk.run _ _ PartF.keep PartC.keep fun b v hs hc hg => ⟨rfl, _, _, exec_pick rfl (dep hg 0 rfl rfl rfl rfl) (dep hg 1 rfl rfl rfl rfl), .refl _ _, rfl⟩) ?_
    refine OpsOk.cons _ _ (OpOk.run _ _ PartF.keep PartC.keep fun b v hs hc hg => ⟨rfl, _, _, exec_move rfl (dep hg 0 rfl rfl rfl rfl), .refl _ _, rfl⟩) ?_
    refine OpsOk.cons _ _ (OpOk.run _ _ PartF.keep PartC.keep fun b v hs hc hg => ⟨wanted_of rfl rfl rfl (dep hg 0 rfl rfl rfl rfl), _, _, exec_move rfl (hs 0 (by kernel_rfl)), .refl _ _, rfl⟩) ?_
    refine OpsOk.cons _ _ (OpOk.run _ _ PartF.keep PartC.keep fun b v hs hc hg => ⟨wanted_of rfl rfl rfl (dep hg 0 rfl rfl rfl rfl), _, _, exec_empty rfl, (Below.refl _ _).alloc (Nat.le_refl _) _, ⟨_, rfl⟩⟩) ?_
    refine OpsOk.cons _ _ (OpOk.run _ _ PartF.keep PartC.keep fun b v hs hc hg => by
          obtain ⟨N, e⟩ := (dep hg 1 rfl rfl rfl rfl : PartF _ _ _ _ _ 46 _ _)
          exact ⟨wanted_of rfl rfl rfl (dep hg 2 rfl rfl rfl rfl), _, _, exec_list3 rfl rfl (dep hg 0 rfl rfl rfl rfl) e, (Below.refl _ _).alloc (Nat.le_refl _) _, Three.new v _ none _ _ _ _ _ _ _ _ [] _ [] l rfl rfl rfl (by simp) hc.hB Reads.none_ hc.ra (RdB.void v _ _)⟩) ?_
    refine OpsOk.cons _ _ (OpOk.call _ _ PartF.keep PartC.keep fun b v hs hc hg => ⟨wanted_of rfl rfl rfl (dep hg 2 rfl rfl rfl rfl), _, _, exec_call1 (enter_sum _) rfl rfl, sum_three (dep hg 0 rfl rfl rfl rfl) hl⟩) ?_
    refine OpsOk.cons _ _ (OpOk.run _ _ PartF.keep PartC.keep fun b v hs hc hg => ⟨wanted_of rfl rfl rfl (dep hg 0 rfl rfl rfl rfl), _, _, exec_move rfl (hs 9 (by kernel_rfl)), .refl _ _, rfl⟩) ?_
    refine OpsOk.cons _ _ (OpOk.run _ _ PartF.keep PartC.keep fun b v hs hc hg => ⟨wanted_of rfl rfl rfl (dep hg 2 rfl rfl rfl rfl), _, _, exec_eq32 rfl (dep hg 0 rfl rfl rfl rfl) (dep hg 1 rfl rfl rfl rfl), .refl _ _, rfl⟩) ?_
    refine OpsOk.cons _ _ (OpOk.run _ _ PartF.keep PartC.keep fun b v hs hc hg => ⟨rfl, _, _, exec_pick rfl (dep hg 0 rfl rfl rfl rfl) (dep hg 1 rfl rfl rfl rfl), .refl _ _, rfl⟩) ?_
    refine OpsOk.cons _ _ (OpOk.run _ _ PartF.keep PartC.keep fun b v hs hc hg => ⟨rfl, _, _, exec_move rfl (dep hg 0 rfl rfl rfl rfl), .refl _ _, rfl⟩) ?_
    refine OpsOk.cons _ _ (OpOk.call _ _ PartF.keep PartC.keep fun b v hs hc hg => ⟨wanted_of rfl rfl rfl (dep hg 1 rfl rfl rfl rfl), _, _, exec_call0 (enter_works _) rfl, works_one _⟩) ?_
    refine OpsOk.cons _ _ (OpOk.run _ _ PartF.keep PartC.keep fun b v hs hc hg => ⟨rfl, _, _, exec_pick rfl (dep hg 0 rfl rfl rfl rfl) (dep hg 1 rfl rfl rfl rfl), .refl _ _, rfl⟩) ?_
    refine OpsOk.cons _ _ (OpOk.run _ _ PartF.keep PartC.keep fun b v hs hc hg => ⟨rfl, _, _, exec_assign rfl (dep hg 0 rfl rfl rfl rfl), .refl _ _, rfl⟩) ?_
    exact OpsOk.nil _ _
  · intro b' w' hsz hd hs hc hall
    have h4 := hall 55 _ _ rfl rfl
    have h4' : b'.tmps[6]?.getD undef = .bool true := by
      have : b'.tmps.getD 6 undef = .bool true := h4
      rwa [Array.getD_eq_getD_getElem?] at this
    clear hall hs
    go_wp2
    refine bodyPost_ret (v := .bool true) (by simp [results, Try.results4, h4', go_sem]) hd ⟨rfl, hc.old⟩
end Go.Proofs.Ythplioblpopfnaa
