/- The walk of DirectPlays. Conditions: none. -/
import Derived.Test.YtdnbflhpgfgnnaaDrYB
import Derived.Deep.RegionWith
namespace Go.Proofs.Ytdnbflhpgfgnnaa
open Go.RowKit
set_option maxHeartbeats 8000000 in
set_option maxRecDepth 100000 in
theorem plays_any {A : Option Addr} {c : Nat} {l : List Ac} {w : World} (ha : AcX w (fun _ => False) A l) (hna : l.length ≤ 9223372036854775807) :
    Calls Try.prog 3 #[.slice A l.length c] w fun e w' => e = .returned (.bool true) ∧ Below w.heap.size w w' := by
  obtain ⟨n, hn⟩ : ∃ n, Hid (l.length = n) := ⟨_, rfl⟩
  obtain ⟨rA, hrA⟩ : ∃ r : Rd, Hid ((⟨3, A, n, acells l⟩ : Rd) = r) := ⟨_, rfl⟩
  obtain ⟨w0, hw0⟩ : ∃ w0, Hid (w0 = w) := ⟨_, rfl⟩
  have hD : Ds w0 w 0 [] [rA] := by
    rw [hw0.out]
    refine Ds.start w [rA] ?_
    intro r hr
    simp only [List.mem_cons, List.not_mem_nil, or_false] at hr
    subst hr
    rw [← hrA.out, ← hn.out]
    exact ha.top
  have hok := Lib.hid ha.ok
  have hf := few_any (c := c) (t := 60) rfl (by decide) hna ha
  have hnaI : (l.length : Int) ≤ 9223372036854775807 := by omega
  rw [hn.out] at hf hnaI ⊢
  clear ha hna
  by_cases hs : SmA l 60
  · rw [decide_eq_true hs] at hf
    have hn60 : n ≤ 60 := by rw [← hn.out]; exact hs.1
    have hl : Hid (∀ x ∈ l, x.Ok ∧ x.b.length ≤ 80) := fun x hx => ⟨hok.out x hx, hs.2 x hx⟩
    clear hs
    have hmix : Try.prog.follows .mixedOrders = true := by kernel_rfl
    go_enter Try.func3, Try.ntmps3
    go_upto_region 5 with (first
      | (go_at_call 7; refine hf.mono ?_; rintro e w1 ⟨rfl, rfl⟩; clear hf)
      | (go_at_call 9; refine (new_ds hD).mono ?_; rintro e w2 ⟨g, rfl, hD2⟩))
    have hd2 : Ds w0 w2 0 [(g, St.new)] [⟨2, none, 0, ecells St.new.dur⟩, ⟨3, none, 0, prcells St.new.ops⟩, rA] := by
      obtain ⟨cc, h⟩ := hD2
      refine ⟨cc, h.low, h.bel, h.dir, fun r hr => ?_⟩
      rcases List.mem_cons.1 hr with rfl | hr
      · exact RdX.none_
      · rcases List.mem_cons.1 hr with rfl | hr
        · exact RdX.none_
        · exact h.row r hr
    obtain ⟨W, hW⟩ : ∃ W, Hid (w2.alloc (.cells #[.slice none 0 0, .slice none 0 0] 30) = W) := ⟨_, rfl⟩
    obtain ⟨bt, hbt⟩ : ∃ b, Hid (w2.heap.size = b) := ⟨_, rfl⟩
    have hDk := Lib.hid ((Dk.start hd2 (by show 1 < 50; decide)).cons (w' := W) bt (.cells #[.slice none 0 0, .slice none 0 0] 30 (0, 0)) 98 (by rw [← hW.out]; exact below_new _ _) (by rw [← hW.out, ← hbt.out]; exact heap_alloc_new _ _) (by rw [hbt.out]; exact Nat.le_refl _) (.inr (by omega)))
    have hrv : Hid (RvIn [⟨2, none, 0, ecells St.new.dur⟩, ⟨3, none, 0, prcells St.new.ops⟩, rA] (.agg #[.slice none 0 0, .slice none 0 0]) St.new) := ⟨none, 0, none, 0, rfl, List.mem_cons_self, List.mem_cons_of_mem _ List.mem_cons_self⟩
    rw [hW.out, hbt.out]
    clear hD2 hd2 hD
    go_wp2
    go_loopw [3, 5] (fun d i wr => ∃ (j g1 : Nat) (s : St) (R' : List Rd) (B : Option Addr) (m1 d1 : Nat) (B' : Option Addr) (m2 d2 : Nat), j ≤ n ∧ d = .pointer (some ⟨g1, 0, none⟩) ∧ i = .int .i64 (j : Int) ∧ Hid (Dk w0 wr j [(g1, s)] R' [(bt, .cells #[.slice B m1 d1, .slice B' m2 d2] 30 (0, 0), 98)]) ∧ Hid (RvIn R' (.agg #[.slice B m1 d1, .slice B' m2 d2]) s) ∧ Hid (rA ∈ R')) (fun _ i _ => n - (intOf i).toNat)
    case atStart => exact ⟨0, g, St.new, _, none, 0, 0, none, 0, 0, Nat.zero_le _, rfl, rfl, hDk, hrv, Lib.hid (List.mem_cons_of_mem _ (List.mem_cons_of_mem _ List.mem_cons_self))⟩
    case round =>
      clear hDk hrv
      obtain ⟨j, g1, s, R', B, m1, d1, B', m2, d2, hj, rfl, rfl, hd, hv, hra⟩ := hrel
      have hct := two_cells (hd.out.at_ List.mem_cons_self)
      by_cases hlt : j < n
      · have hx : AcX wr (fun _ => False) A l := ⟨by have h1 := hd.out.ds.reads hra.out; rw [← hrA.out] at h1; rw [hn.out]; exact h1, hok.out⟩
        obtain ⟨ad, a, rfl, hab, hc0, hc1, hc2, hxj, hoka⟩ := hx.at_ (k := j) (by rw [hn.out]; exact hlt)
        have hjn : (j : Int) < (n : Int) := by omega
        have hmem := Lib.hid (hl.out a (List.mem_of_getElem? hxj.out))
        have hdd := Lib.hid (hd.out.below (w' := wr.drew) (Below.refl _ _).drew)
        clear hx hoka
        go_upto_region 9 with fail
        go_region_with (go_at_call 10; refine (does_any hdd.out (by simp) hv.out (by omega) a hmem.out.1 hmem.out.2).mono ?_; rintro e w3 ⟨g2, u, s2, R2, rfl, hD3, hv3, hr3⟩; obtain ⟨C, k1, e1, C', k2, e2, rfl⟩ := hv3.form; have HD3 := Lib.hid hD3; have Hv3 := Lib.hid hv3; have Hr3 := Lib.hid hr3; clear hD3 hv3 hr3; have hcz := two_cells (HD3.out.at_ List.mem_cons_self); have fz0 := two_frozen (i := 0) (HD3.out.at_ List.mem_cons_self); have fz1 := two_frozen (i := 1) (HD3.out.at_ List.mem_cons_self))
        all_goals
          have hD4 := Lib.hid (HD3.out.fin (K' := []) (x' := .slice C k1 e1) (y' := .slice C' k2 e2) List.mem_cons_self (by omega) (by simp))
          have hc4 := two_cells (hD4.out.at_ List.mem_cons_self)
          go_wp2_with (go_at_call 11; refine (is_dk hD4.out Hv3.out (by omega)).mono ?_; rintro e w5 ⟨rfl, hD5⟩; have HD5 := Lib.hid hD5; clear hD5)
          go_roundw
          case rel => exact ⟨j + 1, g2, s2, R2, C, k1, e1, C', k2, e2, by omega, rfl, by go_num, HD5, Hv3, Lib.hid (Hr3.out _ hra.out)⟩
          case measure => simp [intOf]; omega
      · obtain rfl : j = n := by omega
        have hd2 : decide ((j : Int) < (j : Int)) = false := by simp
        go_wp2_with (first
          | (go_at_call 11; refine (is_dk hd.out hv.out (by omega)).mono ?_; rintro e w5 ⟨rfl, hD5⟩)
          | (go_at_call 8; refine (works_any _).mono ?_; rintro e w6 ⟨rfl, hb6⟩))
        go_ret
        refine ⟨rfl, ?_⟩
        have hfin := (hD5.below hb6).ds.bel
        rw [hw0.out] at hfin
        exact hfin
  · rw [decide_eq_false hs] at hf
    clear hs
    go_enter Try.func3, Try.ntmps3
    go_wp2_with (first
      | (go_at_call 7; refine hf.mono ?_; rintro e w1 ⟨rfl, rfl⟩)
      | (go_at_call 8; refine (works_any _).mono ?_; rintro e w3 ⟨rfl, hb2⟩))
    go_ret
    exact ⟨rfl, hb2⟩
end Go.Proofs.Ytdnbflhpgfgnnaa
