/- What two texts begin and end with in common: the program's sameBegin and sameEnd. Conditions: texts of at most 2^40 bytes. -/
import Derived.Test.YtohgghaooppcoaaDlM
namespace Go.Proofs.Ytohgghaooppcoaa
open Go.RowKit Go.Lib

/-- How many bytes two texts begin with in common. -/
def cpl : List UInt8 → List UInt8 → Nat
  | x :: a, y :: b => if x = y then cpl a b + 1 else 0
  | _, _ => 0
theorem cpl_le : ∀ (a b : List UInt8), cpl a b ≤ a.length ∧ cpl a b ≤ b.length
  | [], _ => by simp [cpl]
  | _ :: _, [] => by simp [cpl]
  | x :: a, y :: b => by
    have := cpl_le a b
    simp only [cpl, List.length_cons]
    split <;> omega
theorem cpl_take : ∀ (a b : List UInt8), a.take (cpl a b) = b.take (cpl a b)
  | [], _ => by simp [cpl]
  | _ :: _, [] => by simp [cpl]
  | x :: a, y :: b => by
    simp only [cpl]
    split
    · rename_i h
      rw [List.take_succ_cons, List.take_succ_cons, h, cpl_take a b]
    · rfl
theorem cpl_of : ∀ (n : Nat) (a b : List UInt8), a.take n = b.take n → n ≤ a.length → n ≤ b.length → (n = a.length ∨ n = b.length ∨ a[n]? ≠ b[n]?) → cpl a b = n
  | 0, [], b, _, _, _, _ => by simp [cpl]
  | 0, _ :: _, [], _, _, _, _ => by simp [cpl]
  | 0, x :: a, y :: b, _, _, _, h => by
    have : x ≠ y := by
      rcases h with h | h | h
      · simp at h
      · simp at h
      · simpa using h
    simp [cpl, this]
  | n + 1, [], b, _, h, _, _ => by simp at h
  | n + 1, _ :: _, [], _, _, h, _ => by simp at h
  | n + 1, x :: a, y :: b, ht, ha, hb, h => by
    rw [List.take_succ_cons, List.take_succ_cons] at ht
    injection ht with h1 h2
    have ih := cpl_of n a b h2 (by simpa using ha) (by simpa using hb) (by
      rcases h with h | h | h
      · left; simpa using h
      · right; left; simpa using h
      · right; right; simpa using h)
    simp [cpl, h1, ih]
theorem cpl_ne {a b : List UInt8} (ha : cpl a b < a.length) (hb : cpl a b < b.length) : a[cpl a b]? ≠ b[cpl a b]? := by
  induction a generalizing b with
  | nil => simp at ha
  | cons x a ih =>
    cases b with
    | nil => simp at hb
    | cons y b =>
      simp only [cpl] at ha hb ⊢
      by_cases h : x = y
      · rw [if_pos h] at ha hb ⊢
        simpa using ih (by simpa using ha) (by simpa using hb)
      · rw [if_neg h]
        simpa using h
theorem take_on {a b : List UInt8} {n : Nat} {x : UInt8} (h : a.take n = b.take n) (ha : Hid (a[n]? = some x)) (hb : Hid (b[n]? = some x)) : a.take (n + 1) = b.take (n + 1) := by rw [take_snoc ha, take_snoc hb, h]
theorem rev_get {l : List UInt8} {n k : Nat} {x : UInt8} (hk : k + n + 1 = l.length) (h : Hid (l[k]? = some x)) : Hid (l.reverse[n]? = some x) := by
  show _ = _
  obtain ⟨hk', e⟩ := List.getElem?_eq_some_iff.1 h.out
  rw [List.getElem?_reverse (by omega), show l.length - 1 - n = k by omega]
  exact h.out
theorem byte_eq {x y : UInt8} : ((x.toNat : Int) == (y.toNat : Int)) = decide (x = y) ∧ (x.toNat == y.toNat) = decide (x = y) := by
  by_cases h : x = y
  · subst h; simp
  · have : x.toNat ≠ y.toNat := fun e => h (UInt8.toNat_inj.1 e)
    have h' : (x.toNat : Int) ≠ (y.toNat : Int) := by omega
    rw [decide_eq_false h]
    exact ⟨beq_eq_false_iff_ne.2 h', beq_eq_false_iff_ne.2 this⟩
theorem ret_i64 {a b : Int} (h : a = b) : Ending.returned (.int .i64 a) = .returned (.int .i64 b) := by rw [h]
set_option maxHeartbeats 2000000 in
set_option maxRecDepth 100000 in
theorem sameBegin_any (a b : List UInt8) (w : World) (ha : a.length ≤ 1099511627776) (hb : b.length ≤ 1099511627776) :
    Calls Try.prog 45 #[.string (txt a), .string (txt b)] w fun e w' => e = .returned (.int .i64 ((cpl a b : Nat) : Int)) ∧ Below w.heap.size w w' := by
  have hza := Lib.hid (txt_size a)
  have hzb := Lib.hid (txt_size b)
  have hlaI : ((txt a).size : Int) ≤ 1099511627776 := by rw [hza.out]; omega
  have hlbI : ((txt b).size : Int) ≤ 1099511627776 := by rw [hzb.out]; omega
  clear ha hb
  go_enter Try.func45, Try.ntmps45
  go_wp2
  go_loopw [5] (fun v wr => ∃ n : Nat, v = .int .i64 (n : Int) ∧ n ≤ (txt a).size ∧ n ≤ (txt b).size ∧ Hid (a.take n = b.take n) ∧ Below w.heap.size w wr) (fun v _ => (txt a).size - (Lib.intOf v).toNat)
  case atStart => exact ⟨0, rfl, by omega, by omega, rfl, .refl _ _⟩
  case round =>
    obtain ⟨n, rfl, hna, hnb, htk, hbw⟩ := hrel
    by_cases h1 : n < (txt a).size
    · have h1I : (n : Int) < ((txt a).size : Int) := by omega
      have hca := txt_get h1
      by_cases h2 : n < (txt b).size
      · have h2I : (n : Int) < ((txt b).size : Int) := by omega
        have hcb := txt_get h2
        obtain ⟨g1, g2⟩ := byte_eq (x := (txt a)[n]) (y := (txt b)[n])
        by_cases hxy : (txt a)[n] = (txt b)[n]
        · rw [decide_eq_true hxy] at g1 g2
          have Ht := Lib.hid (take_on htk.out hca (by rw [hxy]; exact hcb))
          clear hxy
          go_wp2
          go_quiet (fail)
          go_wp2
          go_roundw
          case rel => exact ⟨n + 1, by go_num, by omega, by omega, Ht.out, below_drewN hbw _⟩
          case measure => simp [Lib.intOf]; omega
        · rw [decide_eq_false hxy] at g1 g2
          have Hv := Lib.hid (cpl_of n a b htk.out (by rw [← hza.out]; omega) (by rw [← hzb.out]; omega) (.inr (.inr (by rw [hca.out, hcb.out]; simpa using hxy))))
          clear hxy
          go_wp2
          go_quiet (fail)
          go_wp2
          go_ret
          exact ⟨ret_i64 (by rw [Hv.out]), below_drewN hbw _⟩
      · have h2' : n = (txt b).size := by omega
        have h2I : ¬ ((n : Int) < ((txt b).size : Int)) := by omega
        have h2d : decide ((n : Int) < ((txt b).size : Int)) = false := by simpa using h2I
        have Hv := Lib.hid (cpl_of n a b htk.out (by rw [← hza.out]; omega) (by rw [← hzb.out]; omega) (.inr (.inl (by rw [← hzb.out]; exact h2'))))
        clear h2'
        go_wp2
        go_quiet (fail)
        go_wp2
        go_ret
        exact ⟨ret_i64 (by rw [Hv.out]), below_drewN hbw _⟩
    · have h1' : n = (txt a).size := by omega
      have h1I : ¬ ((n : Int) < ((txt a).size : Int)) := by omega
      have h1d : decide ((n : Int) < ((txt a).size : Int)) = false := by simpa using h1I
      have Hv := Lib.hid (cpl_of n a b htk.out (by rw [← hza.out]; omega) (by rw [← hzb.out]; omega) (.inl (by rw [← hza.out]; exact h1')))
      clear h1'
      go_wp2
      go_quiet (fail)
      go_wp2
      go_ret
      exact ⟨ret_i64 (by rw [Hv.out]), below_drewN hbw _⟩
set_option maxHeartbeats 2000000 in
set_option maxRecDepth 100000 in
theorem sameEnd_any (a b : List UInt8) (w : World) (ha : a.length ≤ 1099511627776) (hb : b.length ≤ 1099511627776) :
    Calls Try.prog 46 #[.string (txt a), .string (txt b)] w fun e w' => e = .returned (.int .i64 ((cpl a.reverse b.reverse : Nat) : Int)) ∧ Below w.heap.size w w' := by
  have hza := Lib.hid (txt_size a)
  have hzb := Lib.hid (txt_size b)
  have hlaI : ((txt a).size : Int) ≤ 1099511627776 := by rw [hza.out]; omega
  have hlbI : ((txt b).size : Int) ≤ 1099511627776 := by rw [hzb.out]; omega
  clear ha hb
  go_enter Try.func46, Try.ntmps46
  go_wp2
  go_loopw [5] (fun v wr => ∃ n : Nat, v = .int .i64 (n : Int) ∧ n ≤ (txt a).size ∧ n ≤ (txt b).size ∧ Hid (a.reverse.take n = b.reverse.take n) ∧ Below w.heap.size w wr) (fun v _ => (txt a).size - (Lib.intOf v).toNat)
  case atStart => exact ⟨0, rfl, by omega, by omega, rfl, .refl _ _⟩
  case round =>
    obtain ⟨n, rfl, hna, hnb, htk, hbw⟩ := hrel
    by_cases h1 : n < (txt a).size
    · have h1I : (n : Int) < ((txt a).size : Int) := by omega
      by_cases h2 : n < (txt b).size
      · have h2I : (n : Int) < ((txt b).size : Int) := by omega
        obtain ⟨ka, hka⟩ : ∃ ka, ka + n + 1 = (txt a).size := ⟨(txt a).size - 1 - n, by omega⟩
        obtain ⟨kb, hkb⟩ : ∃ kb, kb + n + 1 = (txt b).size := ⟨(txt b).size - 1 - n, by omega⟩
        have hla : ka < (txt a).size := by omega
        have hlb : kb < (txt b).size := by omega
        have hlaK : (ka : Int) < ((txt a).size : Int) := by omega
        have hlbK : (kb : Int) < ((txt b).size : Int) := by omega
        have hca := rev_get (n := n) (by rw [← hza.out]; exact hka) (txt_get hla)
        have hcb := rev_get (n := n) (by rw [← hzb.out]; exact hkb) (txt_get hlb)
        have Hs1 := Lib.hid (show IntKind.i64.wrap (((txt a).size : Int) - 1) = ((txt a).size : Int) - 1 from IntWalk.i64_in _ (by omega))
        have Hs2 := Lib.hid (show IntKind.i64.wrap (((txt a).size : Int) - 1 - (n : Int)) = (ka : Int) by rw [IntWalk.i64_in _ (by omega)]; omega)
        have Hs3 := Lib.hid (show IntKind.i64.wrap (((txt b).size : Int) - 1) = ((txt b).size : Int) - 1 from IntWalk.i64_in _ (by omega))
        have Hs4 := Lib.hid (show IntKind.i64.wrap (((txt b).size : Int) - 1 - (n : Int)) = (kb : Int) by rw [IntWalk.i64_in _ (by omega)]; omega)
        clear hka hkb
        obtain ⟨g1, g2⟩ := byte_eq (x := (txt a)[ka]) (y := (txt b)[kb])
        by_cases hxy : (txt a)[ka] = (txt b)[kb]
        · rw [decide_eq_true hxy] at g1 g2
          have Ht := Lib.hid (take_on htk.out hca (by rw [hxy]; exact hcb))
          clear hxy
          go_wp2
          have s1 := Hs1.out
          have s2 := Hs2.out
          have s3 := Hs3.out
          have s4 := Hs4.out
          go_quiet (fail)
          clear s1 s2 s3 s4
          go_wp2
          go_roundw
          case rel => exact ⟨n + 1, by go_num, by omega, by omega, Ht.out, below_drewN hbw _⟩
          case measure => simp [Lib.intOf]; omega
        · rw [decide_eq_false hxy] at g1 g2
          have Hv := Lib.hid (cpl_of n a.reverse b.reverse htk.out (by rw [List.length_reverse, ← hza.out]; omega) (by rw [List.length_reverse, ← hzb.out]; omega) (.inr (.inr (by rw [hca.out, hcb.out]; simpa using hxy))))
          clear hxy
          go_wp2
          have s1 := Hs1.out
          have s2 := Hs2.out
          have s3 := Hs3.out
          have s4 := Hs4.out
          go_quiet (fail)
          clear s1 s2 s3 s4
          go_wp2
          go_ret
          exact ⟨ret_i64 (by rw [Hv.out]), below_drewN hbw _⟩
      · have h2' : n = (txt b).size := by omega
        have h2I : ¬ ((n : Int) < ((txt b).size : Int)) := by omega
        have h2d : decide ((n : Int) < ((txt b).size : Int)) = false := by simpa using h2I
        have Hv := Lib.hid (cpl_of n a.reverse b.reverse htk.out (by rw [List.length_reverse, ← hza.out]; omega) (by rw [List.length_reverse, ← hzb.out]; omega) (.inr (.inl (by rw [List.length_reverse, ← hzb.out]; exact h2'))))
        clear h2'
        go_wp2
        go_quiet (fail)
        go_wp2
        go_ret
        exact ⟨ret_i64 (by rw [Hv.out]), below_drewN hbw _⟩
    · have h1' : n = (txt a).size := by omega
      have h1I : ¬ ((n : Int) < ((txt a).size : Int)) := by omega
      have h1d : decide ((n : Int) < ((txt a).size : Int)) = false := by simpa using h1I
      have Hv := Lib.hid (cpl_of n a.reverse b.reverse htk.out (by rw [List.length_reverse, ← hza.out]; omega) (by rw [List.length_reverse, ← hzb.out]; omega) (.inl (by rw [List.length_reverse, ← hza.out]; exact h1')))
      clear h1'
      go_wp2
      go_quiet (fail)
      go_wp2
      go_ret
      exact ⟨ret_i64 (by rw [Hv.out]), below_drewN hbw _⟩
end Go.Proofs.Ytohgghaooppcoaa
