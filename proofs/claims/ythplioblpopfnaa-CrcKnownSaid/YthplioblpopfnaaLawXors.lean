/- The walk of CrcXors: whatever the bytes, it returns true. Conditions: none. -/
import Derived.Test.YthplioblpopfnaaCrcH
import Derived.StillTailTactics
namespace Go.Proofs.Ythplioblpopfnaa
open Go.RowKit

/-- What the last statement's operations lay. -/
def XorF (X A1 A2 : Option Addr) (c1 c2 n : Nat) (x a b : List UInt8) : Nat → Value → World → Prop
  | 0, v, _ => v = .slice X n n
  | 1, v, w => One w v x
  | 2, v, _ => v = rv (sum x)
  | 3, v, _ => v = .slice A1 a.length c1
  | 4, v, _ => v = .int .i64 (n : Int)
  | 5, v, _ => v = .slice A1 n c1
  | 6, v, w => One w v (a.take n)
  | 7, v, _ => v = rv (sum (a.take n))
  | 8, v, _ => v = .slice A2 b.length c2
  | 9, v, _ => v = .int .i64 (n : Int)
  | 10, v, _ => v = .slice A2 n c2
  | 11, v, w => One w v (b.take n)
  | 12, v, _ => v = rv (sum (b.take n))
  | 13, v, _ => v = rv (sum (a.take n) ^^^ sum (b.take n))
  | 14, v, _ => v = .int .i64 (n : Int)
  | 15, v, w => ∃ N, v = .slice (some ⟨N, 0, none⟩) n n ∧ RdB w w.heap.size (some ⟨N, 0, none⟩) (noughts n)
  | 16, v, w => One w v (noughts n)
  | 17, v, _ => v = rv (sum (noughts n))
  | 18, v, _ => v = rv (sum (a.take n) ^^^ sum (b.take n) ^^^ sum (noughts n))
  | _, v, _ => v = .bool true
theorem XorF.keep {X A1 A2 : Option Addr} {c1 c2 n : Nat} {x a b : List UInt8} (j : Nat) (u : Value) (w w' : World) (hb : Below w.heap.size w w') (h : XorF X A1 A2 c1 c2 n x a b j u w) : XorF X A1 A2 c1 c2 n x a b j u w' :=
  match j, h with
  | 0, h => h
  | 1, h => One.keep h hb
  | 2, h => h
  | 3, h => h
  | 4, h => h
  | 5, h => h
  | 6, h => One.keep h hb
  | 7, h => h
  | 8, h => h
  | 9, h => h
  | 10, h => h
  | 11, h => One.keep h hb
  | 12, h => h
  | 13, h => h
  | 14, h => h
  | 15, ⟨N, e, hr⟩ => ⟨N, e, (Reads.below hr hb).more hb.size⟩
  | 16, h => One.keep h hb
  | 17, h => h
  | 18, h => h
  | _ + 19, h => h
/-- What holds of every world of the last statement. -/
structure XorC (w0 : World) (B Bx : Nat) (X A1 A2 : Option Addr) (x a b : List UInt8) (w : World) : Prop where
  old : Below w0.heap.size w0 w
  hB : B ≤ w.heap.size
  hBx : Bx ≤ w.heap.size
  rx : RdB w Bx X x
  ra : RdB w B A1 a
  rb : RdB w B A2 b
theorem XorC.keep {w0 : World} {B Bx : Nat} {X A1 A2 : Option Addr} {x a b : List UInt8} (w w' : World) (hb : Below w.heap.size w w') (h : XorC w0 B Bx X A1 A2 x a b w) : XorC w0 B Bx X A1 A2 x a b w' :=
  ⟨h.old.trans (hb.mono h.old.size), Nat.le_trans h.hB hb.size, Nat.le_trans h.hBx hb.size, Reads.below h.rx (hb.mono h.hBx), Reads.below h.ra (hb.mono h.hB), Reads.below h.rb (hb.mono h.hB)⟩


set_option maxHeartbeats 4000000 in
set_option maxRecDepth 100000 in
theorem xorsLaw_any (A1 A2 : Option Addr) (c1 c2 B : Nat) (a b : List UInt8) (w : World) (hla : a.length ≤ 9223372036854775807) (hlb : b.length ≤ 9223372036854775807) (hc1 : a.length ≤ c1) (hc2 : b.length ≤ c2) (hB : B ≤ w.heap.size) (hra : RdB w B A1 a) (hrb : RdB w B A2 b) :
    Calls Try.prog 6 #[.slice A1 a.length c1, .slice A2 b.length c2] w fun e w' => e = .returned (.bool true) ∧ Below w.heap.size w w' := by
  obtain ⟨n, hn⟩ : ∃ n, n = min a.length b.length := ⟨_, rfl⟩
  have hmin : min (a.length : Int) (b.length : Int) = (n : Int) := by omega
  have hmin' : min a.length b.length = n := hn.symm
  have Hn := Lib.hid hn
  have Hla := Lib.hid hla
  have Hlb := Lib.hid hlb
  clear hn hla hlb
  by_cases hlt : 300 < n
  · have hd : decide ((300 : Int) < (n : Int)) = true := by rw [decide_eq_true_iff]; omega
    go_enter Try.func6, Try.ntmps6
    go_wp2_with fail
    refine (works_any _).mono ?_
    rintro e w1 ⟨rfl, hb⟩
    go_wp2
    go_ret
    exact ⟨rfl, hb⟩
  have hd : decide ((300 : Int) < (n : Int)) = false := by rw [decide_eq_false_iff_not]; omega
  have hn300 : (n : Int) ≤ 300 := by omega
  clear hlt
  have hmk := fun w => run_make_bytes w n (n : Int) rfl (by omega)
  go_enter Try.func6, Try.ntmps6
  go_wp2_with fail
  clear hmin hmin'
  have hown0 := Lib.hid (own_new w w.heap.size (noughts n) n (noughts_len n) (by omega) (Nat.le_refl _))
  go_loopw [7] (fun i wr => ∃ (k : Nat) (l : List UInt8), k ≤ n ∧ i = .int .i64 (k : Int) ∧ wr.ownsRow w.heap.size 5 1 (.slice (some ⟨w.heap.size, 0, none⟩) n n) n (bs l) ∧ Below w.heap.size w wr ∧ Hid (l.take k = List.zipWith (· ^^^ ·) (a.take k) (b.take k))) (fun i _ => n - (intOf i).toNat)
  case atStart => exact ⟨0, _, by omega, rfl, hown0.out, (Below.refl _ _).alloc (Nat.le_refl _) _, by exact rfl⟩
  case round =>
    clear hown0
    obtain ⟨k, l, hk, rfl, hown, hb, hl⟩ := hrel
    by_cases hltk : k < n
    · obtain ⟨ada, x, rfl, hka, hca, hx⟩ := RdB.at_ (hra.below (hb.mono hB)) (k := k) (by have := Hn.out; omega)
      obtain ⟨adb, y, rfl, hkb, hcb, hy⟩ := RdB.at_ (hrb.below (hb.mono hB)) (k := k) (by have := Hn.out; omega)
      obtain ⟨u, hu, _⟩ := own_cell hown hltk
      have hf := hown.frozenAt k
      have hia : (k : Int) < (a.length : Int) := by have := Hn.out; omega
      have hib : (k : Int) < (b.length : Int) := by have := Hn.out; omega
      have hik : (k : Int) < (n : Int) := by omega
      have hk0 : (0 : Int) ≤ (k : Int) := by omega
      obtain ⟨h1, h2⟩ := own_set (k := k) (x := bits .xor .u8 (x.toNat : Int) (y.toNat : Int)) (x ^^^ y) hown (xor8 x y)
      have H1 := Lib.hid h1
      have hlen := own_len hown
      clear h1 h2 hown
      go_wp2_with fail
      go_still_tail 12, (by kernel_rfl)
      go_wp2
      go_roundw
      case rel =>
        refine ⟨k + 1, _, by omega, by go_num, World.ownsRow.drew H1.out, Below.drew (hb.setCell (by simp) _), ?_⟩
        show _ = _
        have hk' : (l.set k (x ^^^ y))[k]? = some (x ^^^ y) := by rw [List.getElem?_set_self (by omega)]
        rw [take_snoc (show Hid _ from hk'), List.take_set, List.set_eq_of_length_le (by simp; omega), hl.out, take_snoc hx, take_snoc hy, List.zipWith_append (by rw [List.length_take, List.length_take]; omega)]
        rfl
      case measure => simp [intOf]; omega
    · obtain rfl : k = n := by omega
      have hlen := own_len hown
      obtain ⟨X, cx, eX, _, _, hrx⟩ := own_form hown
      injection eX with eX _ ecx
      subst eX ecx
      have hC0 : XorC w B wr.heap.size (some ⟨w.heap.size, 0, none⟩) A1 A2 l a b wr.drew := ⟨hb.drew, Nat.le_trans hB hb.size, Nat.le_refl _, by rw [← hlen] at hrx; exact hrx.drew, (hra.below (hb.mono hB)).drew, (hrb.below (hb.mono hB)).drew⟩
      have hsum : sum l = sum (a.take k) ^^^ sum (b.take k) ^^^ sum (noughts k) := by
        have h := hl.out
        rw [List.take_of_length_le (by omega)] at h
        have h1 := Hn.out
        have hla : (a.take k).length = k := by rw [List.length_take]; omega
        have := sum_xors (a.take k) (b.take k) (by rw [List.length_take, List.length_take]; omega)
        rw [← h, hla] at this
        exact this
      have Hsum := Lib.hid hsum
      have Hka := Lib.hid (show k ≤ a.length by have := Hn.out; omega)
      have Hkb := Lib.hid (show k ≤ b.length by have := Hn.out; omega)
      clear hsum hown hrx hl hb hra hrb
      go_wp2_with fail
      refine wp_region_facts (n := 58) (XorF (some ⟨w.heap.size, 0, none⟩) A1 A2 c1 c2 k l a b) (XorC w B wr.heap.size (some ⟨w.heap.size, 0, none⟩) A1 A2 l a b) (by kernel_rfl) (by kernel_rfl) rfl hC0 ?_ ?_
      · have hka := Hka.out
        have hkb := Hkb.out
        have hkc1 : k ≤ c1 := by omega
        have hkc2 : k ≤ c2 := by omega
        have hla : (a.take k).length = k := by rw [List.length_take]; omega
        have hlb : (b.take k).length = k := by rw [List.length_take]; omega
        have hla' : (a.take k).length ≤ 1099511627776 := by omega
        have hlb' : (b.take k).length ≤ 1099511627776 := by omega
        have hlx : l.length ≤ 1099511627776 := by omega
        refine OpsOk.cons _ _ (OpOk.run _ _ XorF.keep XorC.keep fun b v hs hc hg => ⟨rfl, _, _, exec_move rfl (hs 6 (by kernel_rfl)), .refl _ _, rfl⟩) ?_
        refine OpsOk.cons _ _ (OpOk.run _ _ XorF.keep XorC.keep fun b v hs hc hg => ⟨rfl, _, _, exec_list1 rfl (dep hg 0 rfl rfl rfl rfl), (Below.refl _ _).alloc (Nat.le_refl _) _, One.new v _ _ _ _ _ hlen hc.hBx hc.rx⟩) ?_
        refine OpsOk.cons _ _ (OpOk.call _ _ XorF.keep XorC.keep fun b v hs hc hg => ⟨rfl, _, _, exec_call1 (enter_sum _) rfl rfl, sum_one (dep hg 0 rfl rfl rfl rfl) (hlx)⟩) ?_
        refine OpsOk.cons _ _ (OpOk.run _ _ XorF.keep XorC.keep fun b v hs hc hg => ⟨rfl, _, _, exec_move rfl (hs 0 (by kernel_rfl)), .refl _ _, rfl⟩) ?_
        refine OpsOk.cons _ _ (OpOk.run _ _ XorF.keep XorC.keep fun b v hs hc hg => ⟨rfl, _, _, exec_move rfl (hs 5 (by kernel_rfl)), .refl _ _, rfl⟩) ?_
        refine OpsOk.cons _ _ (OpOk.run _ _ XorF.keep XorC.keep fun b v hs hc hg => ⟨rfl, _, _, exec_front rfl (dep hg 0 rfl rfl rfl rfl) (dep hg 1 rfl rfl rfl rfl) (hkc1), .refl _ _, rfl⟩) ?_
        refine OpsOk.cons _ _ (OpOk.run _ _ XorF.keep XorC.keep fun b v hs hc hg => ⟨rfl, _, _, exec_list1 rfl (dep hg 0 rfl rfl rfl rfl), (Below.refl _ _).alloc (Nat.le_refl _) _, One.new v _ _ _ _ _ hla hc.hB (RdB.first hc.ra hka)⟩) ?_
        refine OpsOk.cons _ _ (OpOk.call _ _ XorF.keep XorC.keep fun b v hs hc hg => ⟨rfl, _, _, exec_call1 (enter_sum _) rfl rfl, sum_one (dep hg 0 rfl rfl rfl rfl) (hla')⟩) ?_
        refine OpsOk.cons _ _ (OpOk.run _ _ XorF.keep XorC.keep fun b v hs hc hg => ⟨rfl, _, _, exec_move rfl (hs 1 (by kernel_rfl)), .refl _ _, rfl⟩) ?_
        refine OpsOk.cons _ _ (OpOk.run _ _ XorF.keep XorC.keep fun b v hs hc hg => ⟨rfl, _, _, exec_move rfl (hs 5 (by kernel_rfl)), .refl _ _, rfl⟩) ?_
        refine OpsOk.cons _ _ (OpOk.run _ _ XorF.keep XorC.keep fun b v hs hc hg => ⟨rfl, _, _, exec_front rfl (dep hg 0 rfl rfl rfl rfl) (dep hg 1 rfl rfl rfl rfl) (hkc2), .refl _ _, rfl⟩) ?_
        refine OpsOk.cons _ _ (OpOk.run _ _ XorF.keep XorC.keep fun b v hs hc hg => ⟨rfl, _, _, exec_list1 rfl (dep hg 0 rfl rfl rfl rfl), (Below.refl _ _).alloc (Nat.le_refl _) _, One.new v _ _ _ _ _ hlb hc.hB (RdB.first hc.rb hkb)⟩) ?_
        refine OpsOk.cons _ _ (OpOk.call _ _ XorF.keep XorC.keep fun b v hs hc hg => ⟨rfl, _, _, exec_call1 (enter_sum _) rfl rfl, sum_one (dep hg 0 rfl rfl rfl rfl) (hlb')⟩) ?_
        refine OpsOk.cons _ _ (OpOk.run _ _ XorF.keep XorC.keep fun b v hs hc hg => ⟨rfl, _, _, exec_xor32 rfl (dep hg 0 rfl rfl rfl rfl) (dep hg 1 rfl rfl rfl rfl), .refl _ _, rfl⟩) ?_
        refine OpsOk.cons _ _ (OpOk.run _ _ XorF.keep XorC.keep fun b v hs hc hg => ⟨rfl, _, _, exec_move rfl (hs 5 (by kernel_rfl)), .refl _ _, rfl⟩) ?_
        refine OpsOk.cons _ _ (OpOk.run _ _ XorF.keep XorC.keep fun b v hs hc hg => ⟨rfl, _, _, exec_make rfl (dep hg 0 rfl rfl rfl rfl) (dep hg 0 rfl rfl rfl rfl) (by omega), (Below.refl _ _).alloc (Nat.le_refl _) _, ⟨_, rfl, (reads_lit v rfl).more (by simp)⟩⟩) ?_
        refine OpsOk.cons _ _ (OpOk.run _ _ XorF.keep XorC.keep fun b v hs hc hg => by
          obtain ⟨N, e, hr⟩ := (dep hg 0 rfl rfl rfl rfl : XorF _ _ _ _ _ _ _ _ _ 15 _ _)
          exact ⟨rfl, _, _, exec_list1 rfl e, (Below.refl _ _).alloc (Nat.le_refl _) _, One.new v _ _ _ _ _ (noughts_len k) (Nat.le_refl _) hr⟩) ?_
        refine OpsOk.cons _ _ (OpOk.call _ _ XorF.keep XorC.keep fun b v hs hc hg => ⟨rfl, _, _, exec_call1 (enter_sum _) rfl rfl, sum_one (dep hg 0 rfl rfl rfl rfl) (by rw [noughts_len]; omega)⟩) ?_
        refine OpsOk.cons _ _ (OpOk.run _ _ XorF.keep XorC.keep fun b v hs hc hg => ⟨rfl, _, _, exec_xor32 rfl (dep hg 0 rfl rfl rfl rfl) (dep hg 1 rfl rfl rfl rfl), .refl _ _, rfl⟩) ?_
        refine OpsOk.cons _ _ (OpOk.run _ _ XorF.keep XorC.keep fun b v hs hc hg => ⟨rfl, _, _, exec_eq32 rfl (dep hg 0 rfl rfl rfl rfl) (by rw [Hsum.out]; exact dep hg 1 rfl rfl rfl rfl), .refl _ _, rfl⟩) ?_
        refine OpsOk.cons _ _ (OpOk.run _ _ XorF.keep XorC.keep fun b v hs hc hg => ⟨rfl, _, _, exec_move rfl (dep hg 0 rfl rfl rfl rfl), .refl _ _, rfl⟩) ?_
        refine OpsOk.cons _ _ (OpOk.call _ _ XorF.keep XorC.keep fun b v hs hc hg => ⟨wanted_of rfl rfl rfl (dep hg 1 rfl rfl rfl rfl), _, _, exec_call0 (enter_works _) rfl, works_one _⟩) ?_
        refine OpsOk.cons _ _ (OpOk.run _ _ XorF.keep XorC.keep fun b v hs hc hg => ⟨rfl, _, _, exec_pick rfl (dep hg 0 rfl rfl rfl rfl) (dep hg 1 rfl rfl rfl rfl), .refl _ _, rfl⟩) ?_
        refine OpsOk.cons _ _ (OpOk.run _ _ XorF.keep XorC.keep fun b v hs hc hg => ⟨rfl, _, _, exec_assign rfl (dep hg 0 rfl rfl rfl rfl), .refl _ _, rfl⟩) ?_
        exact OpsOk.nil _ _
      · intro b' w' hsz hd hs hc hall
        have h4 := hall 23 _ _ rfl rfl
        have h4' : b'.tmps[4]?.getD undef = .bool true := by
          have : b'.tmps.getD 4 undef = .bool true := h4
          rwa [Array.getD_eq_getD_getElem?] at this
        clear hall hs
        go_wp2
        refine bodyPost_ret (v := .bool true) (by simp [results, Try.results6, h4', go_sem]) hd ⟨rfl, hc.old⟩
end Go.Proofs.Ythplioblpopfnaa
