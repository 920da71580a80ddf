/- The walk of CrcSums: whatever the rows and the number, it returns true. Conditions: none. -/
import Derived.Test.YthplioblpopfnaaCrcH
import Derived.Test.YthplioblpopfnaaText
import Derived.Deep.RegionHeld3
namespace Go.Proofs.Ythplioblpopfnaa
open Go.RowKit

theorem update_at {z : Int} {c : BitVec 32} (hz : z = (c.toNat : Int)) (A : Option Addr) (cap B : Nat) (l : List UInt8) (w : World) (hl : l.length ≤ 1099511627776) (hB : B ≤ w.heap.size) (hr : RdB w B A l) :
    Calls Try.prog 12 #[.int .u32 z, .slice A l.length cap] w fun e w' => e = .returned (rv (upd c l)) ∧ Below w.heap.size w w' := by
  subst hz
  exact update_any c A cap B l w hl hB hr
theorem refUpdate_at {z : Int} {c : BitVec 32} (hz : z = (c.toNat : Int)) (A : Option Addr) (cap B : Nat) (l : List UInt8) (w : World) (hl : l.length ≤ 1099511627776) (hr : RdB w B A l) :
    Calls Try.prog 13 #[.int .u32 z, .slice A l.length cap] w fun e w' => e = .returned (rv (upd c l)) ∧ w = w' := by
  subst hz
  exact refUpdate_any c A cap B l w hl hr
theorem match_at {z : Int} {c : BitVec 32} (hz : z = (c.toNat : Int)) (A : Option Addr) (cap B : Nat) (rows : List Row) (b : Bool) (hb : decide (sum (bytes rows) = c) = b) (w : World) (hl : rows.length ≤ 1099511627776) (hls : ∀ r ∈ rows, r.l.length ≤ 1099511627776) (hB : B ≤ w.heap.size) (hr : RdR w B A rows) :
    Calls Try.prog 11 #[.int .u32 z, .slice A rows.length cap] w fun e w' => e = .returned (.bool b) ∧ Below w.heap.size w w' := by
  subst hz hb
  exact match_any c A cap B rows w hl hls hB hr

theorem bytes_len : ∀ (rows : List Row) (k : Nat), (∀ r ∈ rows, r.l.length ≤ k) → (bytes rows).length ≤ rows.length * k
  | [], k, _ => by simp [bytes]
  | r :: rows, k, h => by
    have h1 := h r (by simp)
    have h2 := bytes_len rows k (fun q hq => h q (by simp [hq]))
    have e : bytes (r :: rows) = r.l ++ bytes rows := by simp [bytes]
    rw [e, List.length_append, List.length_cons, Nat.succ_mul]
    omega
theorem xor_one (s : BitVec 32) : bits .xor .u32 (s.toNat : Int) 1 = ((s ^^^ 1#32).toNat : Int) := by
  rw [BitVec.toNat_xor]
  exact u32_xor_nat s.toNat 1 s.isLt (by omega)
theorem ne_one (s : BitVec 32) : decide (s = s ^^^ 1#32) = false := by
  rw [decide_eq_false_iff_not]
  intro e
  have := congrArg (s ^^^ ·) e
  simp only [← BitVec.xor_assoc, BitVec.xor_self, BitVec.zero_xor] at this
  exact absurd this (by decide)

/-- What a round reads: two headers, two texts. -/
def Look (ad ado : Addr) (k : Nat) (r ro : Row) (wx : World) : Prop :=
  wx.cell? (ad.add k) = some (.slice r.A r.l.length r.c) ∧ wx.cell? (ado.add k) = some (.slice ro.A ro.l.length ro.c) ∧ (convert 25 9 (.slice r.A r.l.length r.c)).run Try.prog wx = .ok (.string (txt r.l)) wx ∧ (convert 25 9 (.slice ro.A ro.l.length ro.c)).run Try.prog wx = .ok (.string (txt r.l)) wx
theorem look_of {ad ado : Addr} {k B B' : Nat} {rows own : List Row} {r ro : Row} {w : World} (hr : RdR w B (some ad) rows) (ho : RdR w B' (some ado) own) (h1 : Hid (rows[k]? = some r)) (h2 : Hid (own[k]? = some ro)) (hll : ro.l = r.l) : Look ad ado k r ro w := by
  obtain ⟨a1, q1, e1, _, c1, k1, b1⟩ := hr.at_ (k := k) (List.getElem?_eq_some_iff.1 h1.out).1
  obtain ⟨a2, q2, e2, _, c2, k2, b2⟩ := ho.at_ (k := k) (List.getElem?_eq_some_iff.1 h2.out).1
  injection e1 with e1
  injection e2 with e2
  subst e1 e2
  have g1 := k1.out.symm.trans h1.out
  have g2 := k2.out.symm.trans h2.out
  injection g1 with g1
  injection g2 with g2
  subst g1 g2
  exact ⟨c1, c2, run_text_any b1 _, by rw [← hll]; exact run_text_any b2 _⟩

set_option maxHeartbeats 4000000 in
set_option maxRecDepth 100000 in
theorem sumsLaw_any (A : Option Addr) (cap B : Nat) (rows : List Row) (c : BitVec 32) (w : World) (hls : ∀ r ∈ rows, r.l.length ≤ 9223372036854775807) (hB : B ≤ w.heap.size) (hr : RdR w B A rows) :
    Calls Try.prog 3 #[.slice A rows.length cap, rv c] w fun e w' => e = .returned (.bool true) ∧ Below w.heap.size w w' := by
  have Hls := Lib.hid hls
  clear hls
  obtain ⟨n, hn, hnc, hlt'⟩ := letter c
  rw [hn]
  clear hn
  by_cases h6 : 6 < rows.length
  · have hd : decide ((6 : Int) < (rows.length : Int)) = true := by rw [decide_eq_true_iff]; omega
    go_enter Try.func3, Try.ntmps3
    go_wp2_with fail
    refine (works_any _).mono ?_
    rintro e w1 ⟨rfl, hb⟩
    go_wp2
    go_ret
    exact ⟨rfl, hb⟩
  have hd : decide ((6 : Int) < (rows.length : Int)) = false := by rw [decide_eq_false_iff_not]; omega
  have hl6 : (rows.length : Int) ≤ 6 := by omega
  clear h6
  go_enter Try.func3, Try.ntmps3
  go_wp2_with fail
  go_loopw [5, 6] (fun v i wr => ∃ (k : Nat) (own : List Row), k ≤ rows.length ∧ i = .int .i64 (k : Int) ∧ Owns w.heap.size wr v own ∧ Hid (own.map Row.l = (rows.take k).map Row.l) ∧ Hid (∀ r ∈ rows.take k, r.l.length ≤ 300) ∧ Below w.heap.size w wr) (fun _ i _ => rows.length - (intOf i).toNat)
  case atStart => exact ⟨0, [], by omega, rfl, Owns.nil _ _, by exact rfl, by intro r hr; simp at hr, .refl _ _⟩
  case round =>
    obtain ⟨k, own, hk, rfl, hO, hmap, h300, hb⟩ := hrel
    by_cases hlt : k < rows.length
    · obtain ⟨ad, r, rfl, _, hc, hk', hrow⟩ := (hr.below (hb.mono hB)).at_ hlt
      have hrl := Hls.out r (mem_of_get hk')
      by_cases hlong : 300 < r.l.length
      · have hdl : decide ((300 : Int) < (r.l.length : Int)) = true := by rw [decide_eq_true_iff]; omega
        clear hrl
        go_wp2_with fail
        refine (works_any _).mono ?_
        rintro e w1 ⟨rfl, hb1⟩
        go_wp2
        go_ret
        exact ⟨rfl, hb.trans (hb1.mono hb.size)⟩
      · have hdl : decide ((300 : Int) < (r.l.length : Int)) = false := by rw [decide_eq_false_iff_not]; omega
        have hz := hb.size
        have Hkl : Hid (own.length = k) := by
          have := congrArg List.length hmap.out
          rw [List.length_map, List.length_map, List.length_take] at this
          show _ = _
          omega
        have HO : Hid (Owns w.heap.size wr _ own) := hO
        have Hlong := Lib.hid (show r.l.length ≤ 300 by omega)
        clear hrl hO hlong
        have hlt0 := fun g (e : Value.ownBlock _ = some g) => (HO.out.head.lt g e).2
        have Hlt0 := Lib.hid hlt0
        clear hlt0
        go_wp2_with (first
          | (at_builtin; refine push_row (.tmp 28) (.tmp 32) (l := []) (World.ownsRow_nil wr wr.heap.size 5 1) (Nat.le_refl _) (hrow.more (Nat.le_trans hB hz)) (by have := Hlong.out; simp; omega) rfl rfl rfl rfl ?_; intro v1 w1 hown1 hb1 hbs1 hg1; rw [List.nil_append] at hown1; obtain ⟨A1, c1, e1, _, _, hr1⟩ := own_form hown1; subst e1; have Hap := Lib.hid (own_apart hown1); have Hr1 := Lib.hid hr1; clear hown1 hg1 hr1)
          | (at_builtin; refine push_slice (.tmp 27) (.tmp 34) ⟨A1, c1, r.l⟩ rfl (HO.out.below hb1) (Nat.le_trans hz hbs1) (by have := Hkl.out; omega) Hr1.out (fun ad e => ⟨(Hap.out ad e).2, fun e' => by have h1 := (Hap.out ad e).1; have h2 := Hlt0.out _ e'; omega⟩) rfl rfl rfl rfl ?_; intro v2 w2 hO2 hb2 hs2))
        go_roundw
        case rel =>
          refine ⟨k + 1, _, by omega, by go_num, hO2, ?_, ?_, hb.trans ((hb1.mono hz).trans hb2)⟩
          · show _ = _
            rw [take_snoc hk', List.map_append, List.map_append, hmap.out]
            rfl
          · intro q hq
            rw [take_snoc hk', List.mem_append, List.mem_singleton] at hq
            rcases hq with hq | rfl
            · exact h300.out q hq
            · exact Hlong.out
        case measure => simp [intOf]; omega
    · obtain rfl : k = rows.length := by omega
      rw [List.take_length] at hmap h300
      have hol : own.length = rows.length := by
        have := congrArg List.length hmap.out
        rwa [List.length_map, List.length_map] at this
      have hz := hb.size
      have hrl := hr.below (hb.mono hB)
      obtain ⟨Ao, co, e0, _, _, hro0⟩ := own_form hO.head
      have hro : RdR wr wr.heap.size Ao own := ⟨hro0, hO.row⟩
      rw [hol] at e0
      subst e0
      have Hol := Lib.hid hol
      have Htot : Hid ((bytes rows).length ≤ 1099511627776) := by
        have := bytes_len rows 300 h300.out
        show _ ≤ _
        omega
      have Hrows : Hid (rows.length ≤ 1099511627776) := by show _ ≤ _; omega
      have Hls3 : Hid (∀ r ∈ rows, r.l.length ≤ 1099511627776) := fun r hr => by have := h300.out r hr; omega
      clear hO hro0 hol hr Hls
      obtain ⟨s, hs⟩ : ∃ s, s = sum (bytes rows) := ⟨_, rfl⟩
      have Hs := Lib.hid hs
      clear hs
      go_wp2_with fail
      refine (refSum_any A cap B rows _ Hrows.out Htot.out (Nat.le_trans hB hz) hrl).mono ?_
      rw [← Hs.out]
      rintro e w2 ⟨rfl, hb2⟩
      have hrl2 := hrl.below (hb2.mono (Nat.le_trans hB hz))
      have hro2 := (hro.below hb2).more hb2.size
      have hbb2 := hb.trans (hb2.mono hz)
      clear hrl hro hb hb2 hz
      go_wp2_with fail
      refine (sum_any A cap B rows _ Hrows.out Hls3.out (Nat.le_trans hB hbb2.size) hrl2).mono ?_
      rw [← Hs.out]
      rintro e w3 ⟨rfl, hb3⟩
      have hrl3 := hrl2.below (hb3.mono (Nat.le_trans hB hbb2.size))
      have hro3 := (hro2.below hb3).more hb3.size
      have hbb3 := hbb2.trans (hb3.mono hbb2.size)
      clear hrl2 hro2 hbb2 hb3
      go_wp2_with fail
      refine (match_at (c := s) rfl A cap B rows true (by rw [← Hs.out]; simp) _ Hrows.out Hls3.out (Nat.le_trans hB hbb3.size) hrl3).mono ?_
      rintro e w4 ⟨rfl, hb4⟩
      have hrl4 := hrl3.below (hb4.mono (Nat.le_trans hB hbb3.size))
      have hro4 := (hro3.below hb4).more hb4.size
      have hbb4 := hbb3.trans (hb4.mono hbb3.size)
      clear hrl3 hro3 hbb3 hb4
      go_wp2_with fail
      refine (match_at (c := s ^^^ 1#32) (xor_one s) A cap B rows false (by rw [← Hs.out]; exact ne_one s) _ Hrows.out Hls3.out (Nat.le_trans hB hbb4.size) hrl4).mono ?_
      rintro e w5 ⟨rfl, hb5⟩
      have hrl5 := hrl4.below (hb5.mono (Nat.le_trans hB hbb4.size))
      have hro5 := (hro4.below hb5).more hb5.size
      have hbb5 := hbb4.trans (hb5.mono hbb4.size)
      clear hrl4 hro4 hbb4 hb5
      obtain ⟨q, hq⟩ : ∃ q : Bool, q = decide (s = c) := ⟨_, rfl⟩
      have hqe : ((n : Int) == (s.toNat : Int)) = q := by
        rw [hnc.out, eq_bits, hq]
        exact decide_eq_decide.2 eq_comm
      have hqe' : (n == s.toNat) = q := by
        rw [← hqe, Bool.eq_iff_iff, beq_iff_eq, beq_iff_eq]
        omega
      have Hq : Hid (decide (sum (bytes rows) = c) = q) := by
        show _ = _
        rw [← Hs.out, hq]
      clear hq
      have hcase : q = true ∨ q = false := by cases q <;> simp
      rcases hcase with rfl | rfl
      all_goals
        go_wp2_with fail
        refine (match_at (c := c) (by rw [hnc.out]) A cap B rows _ Hq.out _ Hrows.out Hls3.out (Nat.le_trans hB hbb5.size) hrl5).mono ?_
        rintro e w6 ⟨rfl, hb6⟩
        have hrl6 := hrl5.below (hb6.mono (Nat.le_trans hB hbb5.size))
        have hro6 := (hro5.below hb6).more hb6.size
        have hbb6 := hbb5.trans (hb6.mono hbb5.size)
        have hmap' := hmap
        clear hrl5 hro5 hbb5 hb6
        go_wp2_with fail
        clear hqe hqe'
        go_loopw [9] (fun i wr => ∃ k : Nat, k ≤ rows.length ∧ i = .int .i64 (k : Int) ∧ RdR wr B A rows ∧ RdR wr wr.heap.size Ao own ∧ Below w.heap.size w wr) (fun i _ => rows.length - (intOf i).toNat)
        case atStart => exact ⟨0, by omega, rfl, hrl6, hro6, hbb6⟩
        case round =>
          clear hrl6 hro6 hbb6
          obtain ⟨k, hk, rfl, hrl, hro, hbb⟩ := hrel
          obtain ⟨wo, rfl⟩ : ∃ wo : World, wo = wr := ⟨_, rfl⟩
          by_cases hlt : k < rows.length
          · obtain ⟨ad, r, hA, _, hc1, hk1, hrow1⟩ := hrl.at_ hlt
            obtain ⟨ado, ro, hAo, _, hc2, hk2, hrow2⟩ := hro.at_ (k := k) (by rw [Hol.out]; exact hlt)
            subst hA hAo
            have hll : ro.l = r.l := by
              have h1 := congrArg (fun x => x[k]?) hmap.out
              simp only [List.getElem?_map, hk1.out, hk2.out, Option.map_some, Option.some.injEq] at h1
              exact h1
            have Hll := Lib.hid hll
            have Hr3 := Lib.hid (Hls3.out r (mem_of_get hk1))
            have hlook : Look ad ado k r ro wo.drew := look_of hrl.drew hro.drew hk1 hk2 hll
            have hnz : Hid ((n : Int) = (c.toNat : Int)) := by show _ = _; rw [hnc.out]
            have hz := hbb.size
            have hltI : (k : Int) < (rows.length : Int) := by omega
            have hk0 : (0 : Int) ≤ (k : Int) := by omega
            have hol : Hid (own.length = rows.length) := Hol
            clear hll hc1 hc2
            go_wp2_with fail
            go_region_held3 (fun wx => wx.cell? (ad.add k) = some (.slice r.A r.l.length r.c) ∧ wx.cell? (ado.add k) = some (.slice ro.A ro.l.length ro.c) ∧ (convert 25 9 (.slice r.A r.l.length r.c)).run Try.prog wx = .ok (.string (txt r.l)) wx ∧ (convert 25 9 (.slice ro.A ro.l.length ro.c)).run Try.prog wx = .ok (.string (txt r.l)) wx) (first | exact hlook9 | exact hlook) (first
              | (go_at_call 12; refine (update_at hnz.out r.A r.c B r.l wo.drew Hr3.out (Nat.le_trans hB hz) hrow1.drew).mono ?_; rintro e w9 ⟨rfl, hb9⟩; have hrl9 := hrl.drew.below (hb9.mono (Nat.le_trans hB hz)); have hro9 := (hro.drew.below hb9).more hb9.size; have hlook9 : Look ad ado k r ro w9 := look_of hrl9 hro9 hk1 hk2 Hll.out; have hbb9 := hbb.drew.trans (hb9.mono hz))
              | (go_at_call 13; refine (refUpdate_at hnz.out r.A r.c B r.l w9 Hr3.out (Reads.below (w := wo.drew) hrow1 (hb9.mono (Nat.le_trans hB hz)))).mono ?_; rintro e _ ⟨rfl, rfl⟩))
            go_wp2
            go_roundw
            case rel => exact ⟨k + 1, by omega, by go_num, hrl9, hro9, hbb9⟩
            case measure => simp [intOf]; omega
          · obtain rfl : k = rows.length := by omega
            go_wp2_with fail
            refine (works_any _).mono ?_
            rintro e w9 ⟨rfl, hb9⟩
            go_wp2
            go_ret
            exact ⟨rfl, hbb.trans (hb9.mono hbb.size)⟩
/-- The same for a number. -/
theorem sumsNum (A : Option Addr) (cap B : Nat) (rows : List Row) (n : Nat) (hn : n < 4294967296) (w : World) (hls : ∀ r ∈ rows, r.l.length ≤ 9223372036854775807) (hB : B ≤ w.heap.size) (hr : RdR w B A rows) :
    Calls Try.prog 3 #[.slice A rows.length cap, .int .u32 (n : Int)] w fun e w' => e = .returned (.bool true) ∧ Below w.heap.size w w' := by
  have h := sumsLaw_any A cap B rows (BitVec.ofNat 32 n) w hls hB hr
  have e : (BitVec.ofNat 32 n).toNat = n := by rw [BitVec.toNat_ofNat]; omega
  unfold rv at h
  rw [e] at h
  exact h
end Go.Proofs.Ythplioblpopfnaa
