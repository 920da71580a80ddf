/- The walk of DirectFails. Conditions: none. -/
import Derived.Test.YtdnbflhpgfgnnaaDrP
namespace Go.Proofs.Ytdnbflhpgfgnnaa
open Go.RowKit

theorem run_mid3 (w : World) (A : Option Addr) {i m n c : Nat} (h1 : i ≤ m) (h2 : m ≤ c) :
    (Instr.slice 22 (.slice A n c) (some (.int .i64 (i : Int))) (some (.int .i64 (m : Int))) none).run Try.prog w = .ok (.slice (if c = i then A else A.map (·.add (i * 3))) (m - i) (c - i)) w := by
  have h3 : (i : Int) ≤ m := by omega
  have h4 : (m : Int) ≤ c := by omega
  go_simp
theorem run_part1 (w : World) (A : Option Addr) {i n c : Nat} (hi : i < n) (hc : n ≤ c) :
    (Instr.slice 22 (.slice A n c) (some (.int .i64 (i : Int))) (some (.int .i64 ((i : Int) + 1))) none).run Try.prog w = .ok (.slice (if c = i then A else A.map (·.add (i * 3))) 1 (c - i)) w := by
  have h := run_mid3 w A (i := i) (m := i + 1) (n := n) (c := c) (by omega) (by omega)
  rw [show i + 1 - i = 1 by omega, show ((i + 1 : Nat) : Int) = (i : Int) + 1 by simp] at h
  exact h
set_option maxHeartbeats 4000000 in
set_option maxRecDepth 100000 in
theorem fails_any {A B : Option Addr} {cA cB : Nat} {a b : List Ac} {keep : Int} {w : World} (ha : AcX w (fun _ => False) A a) (hb : AcX w (fun _ => False) B b) (hna : a.length ≤ 9223372036854775807) (hnb : b.length ≤ 9223372036854775807) (hcb : b.length ≤ cB)
    (hk : -9223372036854775808 ≤ keep ∧ keep ≤ 9223372036854775807) :
    Calls Try.prog 4 #[.slice A a.length cA, .slice B b.length cB, .int .i64 keep] w fun e w' => e = .returned (.bool true) ∧ Below w.heap.size w w' := by
  obtain ⟨na, hna'⟩ : ∃ na, Hid (a.length = na) := ⟨_, rfl⟩
  obtain ⟨nb, hnb'⟩ : ∃ nb, Hid (b.length = nb) := ⟨_, rfl⟩
  obtain ⟨rA, hrA⟩ : ∃ r : Rd, Hid ((⟨3, A, na, acells a⟩ : Rd) = r) := ⟨_, rfl⟩
  obtain ⟨rB, hrB⟩ : ∃ r : Rd, Hid ((⟨3, B, nb, acells b⟩ : Rd) = r) := ⟨_, rfl⟩
  obtain ⟨w0, hw0⟩ : ∃ w0, Hid (w0 = w) := ⟨_, rfl⟩
  have hD : Ds w0 w 0 [] [rA, rB] := by
    rw [hw0.out]
    refine Ds.start w [rA, rB] ?_
    intro r hr
    simp only [List.mem_cons, List.not_mem_nil, or_false] at hr
    rcases hr with rfl | rfl
    · rw [← hrA.out, ← hna'.out]; exact ha.top
    · rw [← hrB.out, ← hnb'.out]; exact hb.top
  have hokA := Lib.hid ha.ok
  have hokB := Lib.hid hb.ok
  have Hk := Lib.hid hk
  rw [hna'.out] at hna ⊢
  rw [hnb'.out] at hnb hcb ⊢
  have hnaI : (na : Int) ≤ 9223372036854775807 := by omega
  have hnbI : (nb : Int) ≤ 9223372036854775807 := by omega
  have Hna := Lib.hid hna
  have Hnb := Lib.hid hnb
  have Hcb := Lib.hid hcb
  clear ha hb hk hna hnb hcb
  have hfA : ∀ {w1 N L}, Ds w0 w1 N L [rA, rB] → Calls Try.prog 7 #[.slice A na cA, .int .i64 40] w1 fun e w' => e = .returned (.bool (decide (SmA a 40))) ∧ w' = w1 := fun h => few_at h (by rw [← hrA.out]; simp) hna'.out Hna.out hokA.out 40 cA (by decide)
  have hfB : ∀ {w1 N L}, Ds w0 w1 N L [rA, rB] → Calls Try.prog 7 #[.slice B nb cB, .int .i64 40] w1 fun e w' => e = .returned (.bool (decide (SmA b 40))) ∧ w' = w1 := fun h => few_at h (by rw [← hrB.out]; simp) hnb'.out Hnb.out hokB.out 40 cB (by decide)
  by_cases hsA : SmA a 40
  · rw [decide_eq_true hsA] at hfA
    by_cases hsB : SmA b 40
    · rw [decide_eq_true hsB] at hfB
      have HsA := Lib.hid hsA
      have HsB := Lib.hid hsB
      have hna40 : na ≤ 40 := by rw [← hna'.out]; exact hsA.1
      have hnb40 : nb ≤ 40 := by rw [← hnb'.out]; exact hsB.1
      clear hsA hsB
      have hlA : Hid (∀ x ∈ a, x.Ok ∧ x.b.length ≤ 80) := fun x hx => ⟨hokA.out x hx, HsA.out.2 x hx⟩
      have hlB : Hid (∀ x ∈ b, x.Ok ∧ x.b.length ≤ 80) := fun x hx => ⟨hokB.out x hx, HsB.out.2 x hx⟩
      obtain ⟨s1, hs1⟩ : ∃ s, Hid ((St.new.all a).sync = s) := ⟨_, rfl⟩
      obtain ⟨mD, hmD⟩ : ∃ m, Hid (s1.now = m) := ⟨_, rfl⟩
      obtain ⟨nD, hnD⟩ : ∃ n, Hid (mD.length = n) := ⟨_, rfl⟩
      have hops1 : Hid (s1.ops = []) := by rw [← hs1.out]; rfl
      have t1 := Lib.hid True.intro
      have t2 := Lib.hid True.intro
      go_enter Try.func4, Try.ntmps4
      go_upto_region 7 with (first
        | (go_at_call 7; clear t1; refine (hfA hD).mono ?_; rintro e w1 ⟨rfl, rfl⟩)
        | (go_at_call 7; clear t2; refine (hfB hD).mono ?_; rintro e w1 ⟨rfl, rfl⟩)
        | (go_at_call 9; clear hfA hfB; refine (new_ds hD).mono ?_; rintro e w1 ⟨g, rfl, hD⟩)
        | (go_at_call 12; refine (all_ds hD (k := 0) (s := St.new) rfl hna'.out (by omega) hlA.out (by rw [← hrA.out]; simp)).mono ?_; rintro e w1 ⟨rfl, hD⟩)
        | (go_at_call 13; refine (sync_at hD 0 rfl hs1.out rfl).mono ?_; rintro e w4 ⟨rfl, hD⟩)
        | (go_at_call 14; refine (list_at hD 0 rfl (by omega) mD hmD.out nD hnD.out).mono ?_; rintro e w12 ⟨AD, cD, rfl, _, hD⟩))
      obtain ⟨rD, hrD⟩ : ∃ r : Rd, Hid ((⟨2, AD, nD, ecells mD⟩ : Rd) = r) := ⟨_, rfl⟩
      rw [hrD.out] at hD
      have hD : Ds w0 w12 na [(g, s1)] [rD, rA, rB] := by
        have h1 : Ds w0 w12 (0 + na) [(g, s1)] [rD, rA, rB] := hD
        rw [Nat.zero_add] at h1
        exact h1
      go_wp2_with (go_at_call 15; refine (pending_at hD 0 rfl 0 (by rw [hops1.out]; rfl)).mono ?_; rintro e w6 ⟨rfl, rfl⟩; rw [show ((0 : Nat) : Int) = 0 from rfl])
      go_loopw [9, 10] (fun nv i wr => ∃ j : Nat, j ≤ nb ∧ i = .int .i64 (j : Int) ∧ nv = .int .i64 ((s1.nb (b.take j)).ops.length : Int) ∧ Hid (Ds w0 wr (na + j) [(g, s1.nb (b.take j))] [rD, rA, rB])) (fun _ i _ => nb - (intOf i).toNat)
      case atStart =>
        refine ⟨0, Nat.zero_le _, rfl, ?_, ?_⟩
        · rw [List.take_zero]; show _ = Value.int .i64 (s1.ops.length : Int); rw [hops1.out]; rfl
        · rw [List.take_zero]; exact hD
      case round =>
        obtain ⟨j, hj, rfl, rfl, hd⟩ := hrel
        obtain ⟨t, ht⟩ : ∃ t, Hid (s1.nb (b.take j) = t) := ⟨_, rfl⟩
        rw [ht.out] at hd ⊢
        obtain ⟨p, hp⟩ : ∃ p, Hid (t.ops.length = p) := ⟨_, rfl⟩
        rw [hp.out]
        by_cases hlt : j < nb
        · have hx : AcX wr (fun _ => False) B b := ⟨by have h1 := hd.out.reads (r := rB) (by simp); rw [← hrB.out] at h1; rw [hnb'.out]; exact h1, hokB.out⟩
          obtain ⟨ad, x, rfl, hab, hc0, hc1, hc2, hxj, hok⟩ := hx.at_ (k := j) (by rw [hnb'.out]; exact hlt)
          have hjn : (j : Int) < (nb : Int) := by omega
          clear hc1 hc2 hx hok
          obtain ⟨t', ht'⟩ : ∃ t', Hid (t.step x = t') := ⟨_, rfl⟩
          obtain ⟨p', hp'⟩ : ∃ p, Hid (t'.ops.length = p) := ⟨_, rfl⟩
          have hnext : Hid (s1.nb (b.take (j + 1)) = t') := by rw [← ht'.out, ← ht.out]; exact St.nb_take hxj.out
          by_cases h3 : x.k % 6 = 3
          · have e : t' = t := by rw [← ht'.out]; exact St.step_skip t h3
            have hst : Hid (Value.int .i64 (p : Int) = .int .i64 ((s1.nb (b.take (j + 1))).ops.length : Int) ∧ Hid (Ds w0 wr (na + (j + 1)) [(g, s1.nb (b.take (j + 1)))] [rD, rA, rB])) := by
              rw [hnext.out, e]
              exact ⟨by rw [hp.out], hd.out.more (by omega)⟩
            go_wp2_with (go_at_call 16; refine (pick6_any _ _).mono ?_; rintro e w1 ⟨rfl, rfl⟩; rw [h3])
            go_roundw
            case rel => exact ⟨j + 1, by omega, by go_num, hst.out.1, hst.out.2⟩
            case measure => simp [intOf]; omega
          · have hsl := fun w => run_part1 w (some ad) hlt Hcb.out
            obtain ⟨A', hA'⟩ : ∃ A', Hid ((if cB = j then some ad else (some ad).map (·.add (j * 3))) = A') := ⟨_, rfl⟩
            rw [hA'.out] at hsl
            have hdp : Hid (Ds w0 wr (na + j) [(g, t)] [⟨3, A', 1, acells [x]⟩, rD, rA, rB]) := by
              have h1 := Ds.part (c := cB) hd.out (A := some ad) (n := nb) (l := b) (by rw [hrB.out]; simp) hxj.out hnb'.out Hcb.out
              rw [hA'.out] at h1
              exact h1
            have hlx : Hid (∀ y ∈ [x], y.Ok ∧ y.b.length ≤ 80) := by
              intro y hy
              rw [List.mem_singleton] at hy
              rw [hy]
              exact hlB.out x (List.mem_of_getElem? hxj.out)
            have hpp : p ≤ p' := by rw [← hp.out, ← hp'.out, ← ht'.out]; exact (t.step_len x).1
            have hmx : max (p : Int) (p' : Int) = p' := by omega
            have hta : Hid (t.all [x] = t') := (St.step_all t h3).trans ht'.out
            have hst : Hid (∀ wx, Ds w0 wx (na + j + 1) [(g, t')] [rD, rA, rB] → Hid (Value.int .i64 (p' : Int) = .int .i64 ((s1.nb (b.take (j + 1))).ops.length : Int) ∧ Hid (Ds w0 wx (na + (j + 1)) [(g, s1.nb (b.take (j + 1)))] [rD, rA, rB]))) := by
              intro wx hw
              rw [hnext.out]
              exact ⟨by rw [hp'.out], hw⟩
            go_wp2_with (first
              | (go_at_call 16; refine (pick6_any _ _).mono ?_; rintro e w1 ⟨rfl, rfl⟩)
              | (go_at_call 12; refine (all_ds (k := 0) (s := t) (l := [x]) (n := 1) hdp.out rfl rfl (by omega) hlx.out (by simp)).mono ?_; rintro e w2 ⟨rfl, hD2⟩; rw [hta.out] at hD2; have hD3 : Ds w0 w2 (na + j + 1) [(g, t')] [rD, rA, rB] := hD2.weak (fun r hr => List.mem_cons_of_mem _ hr); clear hD2)
              | (go_at_call 15; refine (pending_at hD3 0 rfl p' hp'.out).mono ?_; rintro e w6 ⟨rfl, rfl⟩))
            have hs5 := hst.out _ hD3
            go_roundw
            case rel => exact ⟨j + 1, by omega, by go_num, hs5.out.1, hs5.out.2⟩
            case measure => simp [intOf]; omega
        · obtain rfl : j = nb := by omega
          have hd2 : decide ((j : Int) < (j : Int)) = false := by simp
          have ht2 : Hid (s1.nb b = t) := by
            have h1 := ht.out
            rw [← hnb'.out, List.take_length] at h1
            exact h1
          have hD := hd.out
          clear hd
          obtain ⟨M, hM⟩ : ∃ M, Hid (na + j = M) := ⟨_, rfl⟩
          rw [hM.out] at hD
          have hM80 : M ≤ 80 := by rw [← hM.out]; omega
          obtain ⟨mN, hmN⟩ : ∃ m, Hid (t.now = m) := ⟨_, rfl⟩
          obtain ⟨nN, hnN⟩ : ∃ n, Hid (mN.length = n) := ⟨_, rfl⟩
          obtain ⟨sx, hsx⟩ : ∃ s, Hid (t.fail (p : Int) = s) := ⟨_, rfl⟩
          obtain ⟨sy, hsy⟩ : ∃ s, Hid (t.fail 0 = s) := ⟨_, rfl⟩
          obtain ⟨sz, hsz⟩ : ∃ s, Hid (t.fail keep = s) := ⟨_, rfl⟩
          obtain ⟨mZ, hmZ⟩ : ∃ m, Hid (sz.now = m) := ⟨_, rfl⟩
          obtain ⟨nZ, hnZ⟩ : ∃ n, Hid (mZ.length = n) := ⟨_, rfl⟩
          have hg := hD.good (k := 0) rfl
          have hnN80 : nN ≤ 1000 := by rw [← hnN.out, ← hmN.out]; have := hg.now.1; omega
          have hnZ80 : nZ ≤ 1000 := by rw [← hnZ.out, ← hmZ.out, ← hsz.out]; have := (hg.fail keep).now.1; omega
          have hp80 : p ≤ 80 := by rw [← hp.out]; have := hg.n; omega
          have hpI : (p : Int) ≤ 80 := by omega
          have hxN : Hid (sx.now = mN) := by rw [← hsx.out, ← hmN.out, ← hp.out]; exact St.fail_all t
          have hyN : Hid (sy.now = mD) := by
            rw [← hsy.out, ← hmD.out]
            refine (St.fail_none t).trans ?_
            rw [← ht2.out, St.nb_dur]
            have h1 : s1 = ⟨s1.dur, []⟩ := by rw [← hops1.out]
            rw [h1]
            rfl
          have hnD80 : nD ≤ 1000 := by rw [← hnD.out, ← hyN.out, ← hsy.out]; have := (hg.fail 0).now.1; omega
          have hx0 : Hid (sx.ops.length = 0) := by rw [← hsx.out]; rfl
          have hy0 : Hid (sy.ops.length = 0) := by rw [← hsy.out]; rfl
          have hz0 : Hid (sz.ops.length = 0) := by rw [← hsz.out]; rfl
          have hz0' : ((0 : Nat) : Int) = 0 := rfl
          clear hg
          have t3 := Lib.hid True.intro
          have t4 := Lib.hid True.intro
          have t5 := Lib.hid True.intro
          have t6 := Lib.hid True.intro
          have t7 := Lib.hid True.intro
          have t8 := Lib.hid True.intro
          have t9 := Lib.hid True.intro
          have t10 := Lib.hid True.intro
          have t11 := Lib.hid True.intro
          have t12 := Lib.hid True.intro
          have t13 := Lib.hid True.intro
          have t14 := Lib.hid True.intro
          have t15 := Lib.hid True.intro
          have t16 := Lib.hid True.intro
          have t17 := Lib.hid True.intro
          have t18 := Lib.hid True.intro
          have t19 := Lib.hid True.intro
          go_upto_region 23 with (first
            | (go_at_call 14; clear t3; refine (list_at hD 0 rfl (by omega) mN hmN.out nN hnN.out).mono ?_; rintro e w12 ⟨AN, cN, rfl, _, hD⟩; obtain ⟨rN, hrN⟩ : ∃ r : Rd, Hid ((⟨2, AN, nN, ecells mN⟩ : Rd) = r) := ⟨_, rfl⟩; rw [hrN.out] at hD)
            | (go_at_call 17; clear t4; refine (copy_at hD 0 rfl (by omega)).mono ?_; rintro e w71 ⟨g1, rfl, hD⟩)
            | (go_at_call 17; clear t5; refine (copy_at hD 0 rfl (by omega)).mono ?_; rintro e w72 ⟨g2, rfl, hD⟩)
            | (go_at_call 17; clear t6; refine (copy_at hD 0 rfl (by omega)).mono ?_; rintro e w73 ⟨g3, rfl, hD⟩)
            | (go_at_call 15; refine (pending_at hD 0 rfl p hp.out).mono ?_; rintro e w6 ⟨rfl, rfl⟩)
            | (go_at_call 18; clear t7; refine (fail_at hD 1 rfl (by omega) (p : Int) (by omega) (by omega) hsx.out rfl).mono ?_; rintro e w8 ⟨rfl, hD⟩)
            | (go_at_call 18; clear t8; refine (fail_at hD 2 rfl (by omega) 0 (by decide) (by decide) hsy.out rfl).mono ?_; rintro e w9 ⟨rfl, hD⟩)
            | (go_at_call 18; clear t9; refine (fail_at hD 3 rfl (by omega) keep Hk.out.1 Hk.out.2 hsz.out rfl).mono ?_; rintro e w10 ⟨rfl, hD⟩))
          have hD : Ds w0 w10 M [(g, t), (g1, sx), (g2, sy), (g3, sz)] [rN, rD, rA, rB] := hD
          go_upto_region 26 with (first
            | (go_at_call 14; clear t10; refine (list_at hD 1 rfl (by omega) mN hxN.out nN hnN.out).mono ?_; rintro e w12 ⟨A1, c1, rfl, _, hD⟩)
            | (go_at_call 19; clear t11; refine (alike_at (A := A1) (B := AN) (n := nN) (m := nN) (a := mN) (b := mN) (R' := [rN, rD, rA, rB]) hD (by simp) (by rw [hrN.out]; simp) hnN.out hnN.out hnN80 hnN80 (fun r hr => List.mem_cons_of_mem _ hr) true (by simp) c1 cN).mono ?_; rintro e w13 ⟨rfl, hD⟩)
            | (go_at_call 14; clear t12; refine (list_at hD 2 rfl (by omega) mD hyN.out nD hnD.out).mono ?_; rintro e w14 ⟨A2, c2, rfl, _, hD⟩)
            | (go_at_call 19; clear t13; refine (alike_at (A := A2) (B := AD) (n := nD) (m := nD) (a := mD) (b := mD) (R' := [rN, rD, rA, rB]) hD (by simp) (by rw [hrD.out]; simp) hnD.out hnD.out hnD80 hnD80 (fun r hr => List.mem_cons_of_mem _ hr) true (by simp) c2 cD).mono ?_; rintro e w15 ⟨rfl, hD⟩)
            | (go_at_call 15; clear t14; refine (pending_at hD 1 rfl 0 hx0.out).mono ?_; rintro e w6 ⟨rfl, rfl⟩; rw [hz0'])
            | (go_at_call 15; clear t15; refine (pending_at hD 2 rfl 0 hy0.out).mono ?_; rintro e w6 ⟨rfl, rfl⟩; rw [hz0'])
            | (go_at_call 15; clear t16; refine (pending_at hD 3 rfl 0 hz0.out).mono ?_; rintro e w6 ⟨rfl, rfl⟩; rw [hz0'])
            | (go_at_call 14; clear t17; refine (list_at hD 3 rfl (by omega) mZ hmZ.out nZ hnZ.out).mono ?_; rintro e w16 ⟨A3, c3, rfl, _, hD⟩)
            | (go_at_call 19; clear t18; refine (alike_at (A := A3) (B := AD) (n := nZ) (m := nD) (a := mZ) (b := mD) (R' := [rN, rD, rA, rB]) hD (by simp) (by rw [hrD.out]; simp) hnZ.out hnD.out hnZ80 hnD80 (fun r hr => List.mem_cons_of_mem _ hr) (decide (mZ = mD)) rfl c3 cD).mono ?_; rintro e w17 ⟨rfl, hD⟩))
          clear t19
          obtain ⟨se, hse⟩ : ∃ s, Hid (St.new.all a = s) := ⟨_, rfl⟩
          go_wp2_with (first
            | (go_at_call 9; refine (new_ds hD).mono ?_; rintro e w18 ⟨ge, rfl, hD⟩)
            | (go_at_call 12; refine (all_ds hD (k := 4) (s := St.new) rfl hna'.out (by omega) hlA.out (by rw [← hrA.out]; simp)).mono ?_; rintro e w19 ⟨rfl, hD⟩))
          have hD : Ds w0 w19 (M + na) [(g, t), (g1, sx), (g2, sy), (g3, sz), (ge, St.new.all a)] [rN, rD, rA, rB] := hD
          rw [hse.out] at hD
          have hse1 : Hid (se.now = s1.now) := by rw [← hse.out, ← hs1.out]; rfl
          go_loopw [15, 17] (fun fv i wr => ∃ (k : Nat) (fnd : Bool) (e0 : St), k ≤ j ∧ i = .int .i64 (k : Int) ∧ fv = .bool fnd ∧ Hid (Ds w0 wr (M + na + k) [(g, t), (g1, sx), (g2, sy), (g3, sz), (ge, e0)] [rN, rD, rA, rB]) ∧ Hid (e0.now = (s1.nb (b.take k)).now) ∧ Hid (∀ q, q ≤ k → mZ = (s1.nb (b.take q)).now → fnd = true)) (fun _ i _ => j - (intOf i).toNat)
          case atStart =>
            refine ⟨0, decide (mZ = mD), se, Nat.zero_le _, rfl, rfl, hD, by rw [List.take_zero]; exact hse1, fun q hq h => ?_⟩
            obtain rfl : q = 0 := by omega
            rw [List.take_zero] at h
            have h1 : (s1.nb []).now = mD := hmD.out
            rw [h1] at h
            exact decide_eq_true h
          case round =>
            obtain ⟨k, fnd, e1, hk, rfl, rfl, hd, he, hf⟩ := hrel
            by_cases hlt2 : k < j
            · have hx : AcX wr (fun _ => False) B b := ⟨by have h1 := hd.out.reads (r := rB) (by simp); rw [← hrB.out] at h1; rw [hnb'.out]; exact h1, hokB.out⟩
              obtain ⟨ad, x, rfl, hab, hc0, hc1, hc2, hxj, hok⟩ := hx.at_ (k := k) (by rw [hnb'.out]; exact hlt2)
              have hkn : (k : Int) < (j : Int) := by omega
              clear hc1 hc2 hx hok
              obtain ⟨e2, he2'⟩ : ∃ e, Hid (e1.step x = e) := ⟨_, rfl⟩
              obtain ⟨mE, hmE⟩ : ∃ m, Hid (e2.now = m) := ⟨_, rfl⟩
              obtain ⟨nE, hnE⟩ : ∃ n, Hid (mE.length = n) := ⟨_, rfl⟩
              have he2 : Hid (e2.now = (s1.nb (b.take (k + 1))).now) := by
                rw [← he2'.out, St.nb_take hxj.out]
                exact St.step_now he.out x
              have hgE := hd.out.good (k := 4) rfl
              have hnE80 : nE ≤ 1000 := by
                rw [← hnE.out, ← hmE.out, ← he2'.out]
                rcases e1.step_or x with h | ⟨o, h⟩
                · rw [h]; have := hgE.now.1; omega
                · rw [h]
                  have h1 := runs_len (e1.ops ++ [o]) e1.dur
                  have h2 := hgE.n
                  show (runs e1.dur (e1.ops ++ [o])).length ≤ _
                  rw [List.length_append, List.length_singleton] at h1
                  omega
              have hf2 : Hid (fnd = false → ∀ q, q ≤ k + 1 → mZ = (s1.nb (b.take q)).now → decide (mZ = mE) = true) := by
                intro hff q hq h
                by_cases hqk : q ≤ k
                · have := hf.out q hqk h
                  rw [hff] at this
                  cases this
                · obtain rfl : q = k + 1 := by omega
                  rw [← hmE.out, he2.out]
                  exact decide_eq_true h
              clear hgE
              by_cases h3 : x.k % 6 = 3
              · have hee : e2 = e1 := by rw [← he2'.out]; exact St.step_skip e1 h3
                have hd3 := hd.out
                rw [← hee] at hd3
                clear hf
                cases fnd
                · have hf3 := Lib.hid (hf2.out rfl)
                  have t1 := Lib.hid True.intro
                  have t2 := Lib.hid True.intro
                  go_wp2_with (first
                    | (go_at_call 16; refine (pick6_any _ _).mono ?_; rintro e w1 ⟨rfl, rfl⟩; rw [h3])
                    | (go_at_call 14; clear t1; refine (list_at hd3 3 rfl (by omega) mZ hmZ.out nZ hnZ.out).mono ?_; rintro e w3 ⟨A5, c5, rfl, _, hD4⟩)
                    | (go_at_call 14; clear t2; refine (list_at hD4 4 rfl (by omega) mE hmE.out nE hnE.out).mono ?_; rintro e w4 ⟨A6, c6, rfl, _, hD5⟩)
                    | (go_at_call 19; refine (alike_at (A := A5) (B := A6) (n := nZ) (m := nE) (a := mZ) (b := mE) (R' := [rN, rD, rA, rB]) hD5 (by simp) (by simp) hnZ.out hnE.out hnZ80 hnE80 (fun r hr => List.mem_cons_of_mem _ (List.mem_cons_of_mem _ hr)) (decide (mZ = mE)) rfl c5 c6).mono ?_; rintro e w5 ⟨rfl, hd4⟩))
                  have hd5 := Lib.hid (hd4.more (M := M + na + (k + 1)) (by omega))
                  go_roundw
                  case rel => exact ⟨k + 1, decide (mZ = mE), e2, by omega, by go_num, rfl, hd5, he2, hf3⟩
                  case measure => simp [intOf]; omega
                · skip
                  go_wp2_with (first
                    | (go_at_call 16; refine (pick6_any _ _).mono ?_; rintro e w1 ⟨rfl, rfl⟩; rw [h3]))
                  have hd5 := Lib.hid (hd3.more (M := M + na + (k + 1)) (by omega))
                  go_roundw
                  case rel => exact ⟨k + 1, true, e2, by omega, by go_num, rfl, hd5, he2, Lib.hid fun _ _ _ => rfl⟩
                  case measure => simp [intOf]; omega
              · have hsl := fun w => run_part1 w (some ad) hlt2 Hcb.out
                obtain ⟨A', hA'⟩ : ∃ A', Hid ((if cB = k then some ad else (some ad).map (·.add (k * 3))) = A') := ⟨_, rfl⟩
                rw [hA'.out] at hsl
                have hdp : Hid (Ds w0 wr (M + na + k) [(g, t), (g1, sx), (g2, sy), (g3, sz), (ge, e1)] [⟨3, A', 1, acells [x]⟩, rN, rD, rA, rB]) := by
                  have h1 := Ds.part (c := cB) hd.out (A := some ad) (n := j) (l := b) (by rw [hrB.out]; simp) hxj.out hnb'.out Hcb.out
                  rw [hA'.out] at h1
                  exact h1
                have hlx : Hid (∀ y ∈ [x], y.Ok ∧ y.b.length ≤ 80) := by
                  intro y hy
                  rw [List.mem_singleton] at hy
                  rw [hy]
                  exact hlB.out x (List.mem_of_getElem? hxj.out)
                have hta : Hid (e1.all [x] = e2) := (St.step_all e1 h3).trans he2'.out
                clear hf hd
                cases fnd
                · have hf3 := Lib.hid (hf2.out rfl)
                  have t1 := Lib.hid True.intro
                  have t2 := Lib.hid True.intro
                  go_wp2_with (first
                    | (go_at_call 16; refine (pick6_any _ _).mono ?_; rintro e w1 ⟨rfl, rfl⟩)
                    | (go_at_call 12; refine (all_ds (k := 4) (s := e1) (l := [x]) (n := 1) hdp.out rfl rfl (by omega) hlx.out (by simp)).mono ?_; rintro e w2 ⟨rfl, hD2⟩; rw [hta.out] at hD2; have hd3 : Ds w0 w2 (M + na + k + 1) [(g, t), (g1, sx), (g2, sy), (g3, sz), (ge, e2)] [rN, rD, rA, rB] := hD2.weak (fun r hr => List.mem_cons_of_mem _ hr); clear hD2)
                    | (go_at_call 14; clear t1; refine (list_at hd3 3 rfl (by omega) mZ hmZ.out nZ hnZ.out).mono ?_; rintro e w3 ⟨A5, c5, rfl, _, hD4⟩)
                    | (go_at_call 14; clear t2; refine (list_at hD4 4 rfl (by omega) mE hmE.out nE hnE.out).mono ?_; rintro e w4 ⟨A6, c6, rfl, _, hD5⟩)
                    | (go_at_call 19; refine (alike_at (A := A5) (B := A6) (n := nZ) (m := nE) (a := mZ) (b := mE) (R' := [rN, rD, rA, rB]) hD5 (by simp) (by simp) hnZ.out hnE.out hnZ80 hnE80 (fun r hr => List.mem_cons_of_mem _ (List.mem_cons_of_mem _ hr)) (decide (mZ = mE)) rfl c5 c6).mono ?_; rintro e w5 ⟨rfl, hd4⟩))
                  have hd5 := Lib.hid (hd4.more (M := M + na + (k + 1)) (by omega))
                  go_roundw
                  case rel => exact ⟨k + 1, decide (mZ = mE), e2, by omega, by go_num, rfl, hd5, he2, hf3⟩
                  case measure => simp [intOf]; omega
                · skip
                  go_wp2_with (first
                    | (go_at_call 16; refine (pick6_any _ _).mono ?_; rintro e w1 ⟨rfl, rfl⟩)
                    | (go_at_call 12; refine (all_ds (k := 4) (s := e1) (l := [x]) (n := 1) hdp.out rfl rfl (by omega) hlx.out (by simp)).mono ?_; rintro e w2 ⟨rfl, hD2⟩; rw [hta.out] at hD2; have hd3 : Ds w0 w2 (M + na + k + 1) [(g, t), (g1, sx), (g2, sy), (g3, sz), (ge, e2)] [rN, rD, rA, rB] := hD2.weak (fun r hr => List.mem_cons_of_mem _ hr); clear hD2))
                  have hd5 := Lib.hid (hd3.more (M := M + na + (k + 1)) (by omega))
                  go_roundw
                  case rel => exact ⟨k + 1, true, e2, by omega, by go_num, rfl, hd5, he2, Lib.hid fun _ _ _ => rfl⟩
                  case measure => simp [intOf]; omega
            · obtain rfl : k = j := by omega
              have hd2' : decide ((k : Int) < (k : Int)) = false := by simp
              have hfnd : fnd = true := by
                obtain ⟨i, hi, hie⟩ := St.fail_ex hops1.out b keep
                rw [ht2.out, hsz.out, hmZ.out] at hie
                exact hf.out i (by rw [← hnb'.out]; exact hi) hie
              subst hfnd
              clear hf
              have hd3 := hd.out
              go_wp2_with (first
                | (go_at_call 14; refine (list_at hd3 0 rfl (by omega) mN hmN.out nN hnN.out).mono ?_; rintro e w3 ⟨A5, c5, rfl, _, hD4⟩)
                | (go_at_call 19; refine (alike_at (A := A5) (B := AN) (n := nN) (m := nN) (a := mN) (b := mN) (R' := [rN, rD, rA, rB]) hD4 (by simp) (by rw [hrN.out]; simp) hnN.out hnN.out hnN80 hnN80 (fun r hr => List.mem_cons_of_mem _ hr) true (by simp) c5 cN).mono ?_; rintro e w5 ⟨rfl, hd4⟩)
                | (go_at_call 8; refine (works_any _).mono ?_; rintro e w6 ⟨rfl, hb6⟩))
              go_ret
              refine ⟨rfl, ?_⟩
              have hfin := (hd4.below hb6).bel
              rw [hw0.out] at hfin
              exact hfin
    · rw [decide_eq_false hsB] at hfB
      clear hsA hsB
      have t1 := Lib.hid True.intro
      have t2 := Lib.hid True.intro
      go_enter Try.func4, Try.ntmps4
      go_wp2_with (first
        | (go_at_call 7; clear t1; refine (hfA hD).mono ?_; rintro e w1 ⟨rfl, rfl⟩)
        | (go_at_call 7; clear t2; refine (hfB hD).mono ?_; rintro e w1 ⟨rfl, rfl⟩)
        | (go_at_call 8; refine (works_any _).mono ?_; rintro e w3 ⟨rfl, hb2⟩))
      go_ret
      exact ⟨rfl, hb2⟩
  · rw [decide_eq_false hsA] at hfA
    clear hsA
    go_enter Try.func4, Try.ntmps4
    go_wp2_with (first
      | (go_at_call 7; refine (hfA hD).mono ?_; rintro e w1 ⟨rfl, rfl⟩)
      | (go_at_call 8; refine (works_any _).mono ?_; rintro e w3 ⟨rfl, hb2⟩))
    go_ret
    exact ⟨rfl, hb2⟩
end Go.Proofs.Ytdnbflhpgfgnnaa
