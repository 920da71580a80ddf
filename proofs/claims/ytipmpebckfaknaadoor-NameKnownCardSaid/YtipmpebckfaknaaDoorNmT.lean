/- The reference's number. Conditions: texts below 2^32. -/
import Derived.Test.YtipmpebckfaknaaDoorNmP2
namespace Go.Proofs.YtipmpebckfaknaaDoor
open Go.RowKit Go.Lib

/-- The reference's reckoning, in 64 bits. -/
def wf (acc : Nat) : List UInt8 → Nat
  | [] => acc
  | c :: r => wf ((10 * acc + (c - 48).toNat) % 18446744073709551616) r
theorem wf_snoc : ∀ (l : List UInt8) (acc : Nat) (c : UInt8), wf acc (l ++ [c]) = (10 * wf acc l + (c - 48).toNat) % 18446744073709551616
  | [], _, _ => rfl
  | _ :: r, _, c => wf_snoc r _ c
theorem wf_dig : ∀ (l : List UInt8) (acc acc' : Nat), (∀ c ∈ l, Dig c) → acc' = acc % 18446744073709551616 → wf acc' l = valD acc l % 18446744073709551616
  | [], _, _, _, h => h
  | c :: r, acc, acc', hd, h => by
    have hc : 48 ≤ c.toNat ∧ c.toNat ≤ 57 := hd c (by simp)
    show wf ((10 * acc' + (c - 48).toNat) % 18446744073709551616) r = valD (acc * 10 + (c.toNat - 48)) r % 18446744073709551616
    refine wf_dig r _ _ (fun x hx => hd x (by simp [hx])) ?_
    have h1 : (c - 48).toNat = c.toNat - 48 := by
      rw [UInt8.toNat_sub_of_le]
      · rfl
      · show (48 : UInt8).toNat ≤ c.toNat
        exact hc.1
    rw [h1]
    omega
theorem wf_dec {u : Nat} (hu : u < 18446744073709551616) : wf 0 ((decDigits u).take 20) = u := by
  rw [List.take_of_length_le (decDigits_le hu), wf_dig _ 0 0 (decDigits_spec u).1 rfl, (decDigits_spec u).2.1]
  omega
theorem rnum_ans {l : List UInt8} {n : Nat} (hn : n < 18446744073709551616) (h : n = wf 0 (l.take 20)) : NumAns l (.returned (.tuple #[.int .u64 (n : Int), .bool (decide (decDigits n = l))])) := by
  cases hq : numOf l with
  | some u =>
    obtain ⟨hu, hd⟩ := numOf_iff.1 hq
    have : n = u := by rw [h, ← hd]; exact wf_dec hu
    subst this
    rw [decide_eq_true hd]
    exact .some hq
  | none =>
    have : ¬ decDigits n = l := fun hd => by
      have := numOf_iff.2 ⟨hn, hd⟩
      rw [hq] at this
      cases this
    rw [decide_eq_false this]
    exact .none hq

theorem num_step (n : Nat) (c : UInt8) : IntKind.u64.wrap (IntKind.u64.wrap (10 * (n : Int)) + ((c.toNat : Int) - 48) % 256) = (((10 * n + (c - 48).toNat) % 18446744073709551616 : Nat) : Int) := by
  have h : (c - 48).toNat = (256 - 48 + c.toNat) % 256 := UInt8.toNat_sub c 48
  have h1 := c.toNat_lt
  rw [h, show ∀ z, IntKind.u64.wrap z = z % 18446744073709551616 from fun z => rfl, show ∀ z, IntKind.u64.wrap z = z % 18446744073709551616 from fun z => rfl]
  omega
set_option maxHeartbeats 4000000 in
set_option maxRecDepth 100000 in
theorem rnumber_any (l : List UInt8) (w : World) (hl : l.length < 4294967281) :
    Calls Tryd.prog 37 #[.string (txt l)] w fun e w' => NumAns l e ∧ Below w.heap.size w w' := by
  have Hl := Lib.hid hl
  clear hl
  obtain ⟨N, hN⟩ : ∃ N, Hid ((txt l).size = N) := ⟨_, rfl⟩
  have hNl : Hid (N = l.length) := by rw [← hN.out]; exact txt_size l
  go_enter Tryd.func37, Tryd.ntmps37
  go_wp2
  go_loop [4, 5] (fun x i => ∃ (k n : Nat), k ≤ 20 ∧ k ≤ l.length ∧ i = .int .i64 (k : Int) ∧ x = .int .u64 (n : Int) ∧ Hid (n < 18446744073709551616) ∧ Hid (n = wf 0 (l.take k))) (fun _ i => 20 - (Lib.intOf i).toNat)
  case atStart => exact ⟨0, 0, by omega, Nat.zero_le _, rfl, rfl, z64, rfl⟩
  case round =>
    obtain ⟨k, n, hk20, hkl, rfl, rfl, Hn, Hw⟩ := hrel
    by_cases hlt : k < l.length ∧ k < 20
    · obtain ⟨h1, h2⟩ := hlt
      obtain ⟨c, hc⟩ : ∃ c, l[k]? = some c := ⟨_, List.getElem?_eq_getElem h1⟩
      have Hc := Lib.hid hc
      clear hc
      have hks : k < (txt l).size := by rw [txt_size]; exact h1
      have hkc : (txt l)[k] = c := by
        have := Hc.out
        rw [List.getElem?_eq_getElem h1] at this
        injection this
      go_wp2
      go_round
      case rel =>
        refine ⟨k + 1, (10 * n + (c - 48).toNat) % 18446744073709551616, by omega, by omega, by go_num, by rw [num_step], Nat.mod_lt _ (by decide), ?_⟩
        show _ = _
        rw [take_snoc Hc, wf_snoc, ← Hw.out]
      case measure => simp [Lib.intOf]; omega
    · have hno : ¬ (k < (txt l).size ∧ k < 20) := by rw [txt_size]; exact hlt
      have Hend : Hid (n = wf 0 (l.take 20)) := by
        rw [Hw.out]
        congr 1
        by_cases h20 : k = 20
        · rw [h20]
        · rw [List.take_of_length_le (by omega), List.take_of_length_le (by omega)]
      have HD := Lib.hid (fun w' => rdigits_any n w' Hn.out)
      by_cases h1 : k < (txt l).size
      · have h2 : ¬ k < 20 := fun h => hno ⟨h1, h⟩
        clear hno hlt
        go_wp2_with (go_at_call 29; refine (HD.out _).mono ?_; rintro e w2 ⟨rfl, hb2⟩)
        go_ret2
        refine ⟨?_, hb2⟩
        have := rnum_ans Hn.out Hend.out
        rw [← txt_beq] at this
        exact this
      · clear hno hlt
        go_wp2_with (go_at_call 29; refine (HD.out _).mono ?_; rintro e w2 ⟨rfl, hb2⟩)
        go_ret2
        refine ⟨?_, hb2⟩
        have := rnum_ans Hn.out Hend.out
        rw [← txt_beq] at this
        exact this
end Go.Proofs.YtipmpebckfaknaaDoor
