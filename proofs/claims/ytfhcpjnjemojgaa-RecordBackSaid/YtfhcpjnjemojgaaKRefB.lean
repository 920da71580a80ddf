/- The walks of the document's own rows of numbers, texts, and of its look at a place. Conditions: numbers below 2^64, at most 2^36 of them; rows of at most 2^40 bytes. -/
import Derived.Test.YtfhcpjnjemojgaaKRefA
namespace Go.Proofs.Ytfhcpjnjemojgaa
open Go.RowKit

set_option maxHeartbeats 1000000 in
set_option maxRecDepth 100000 in
theorem refAll_any (A : Option Addr) (c : Nat) (l : List Nat) (w : World) (hl : l.length ≤ 68719476736) (hr : RdU w w.heap.size A l) (hn : ∀ n ∈ l, n < 18446744073709551616) :
    Calls Try.prog 23 #[.slice A l.length c] w fun e w' => ∃ v, e = .returned v ∧ w'.ownsRow w.heap.size 5 1 v (encs l).length (bs (encs l)) ∧ Below w.heap.size w w' := by
  have hlen : (l.length : Int) ≤ 68719476736 := by omega
  have Hn := Lib.hid hn
  clear hn hl
  go_enter Try.func23, Try.ntmps23
  go_wp2
  go_loopw [3, 4] (fun v i wr => ∃ k : Nat, k ≤ l.length ∧ i = .int .i64 (k : Int) ∧ wr.ownsRow w.heap.size 5 1 v (encs (l.take k)).length (bs (encs (l.take k))) ∧ Below w.heap.size w wr) (fun _ i _ => l.length - (intOf i).toNat)
  case atStart => exact ⟨0, by omega, rfl, World.ownsRow_nil _ _ _ _, .refl _ _⟩
  case round =>
    obtain ⟨k, hk, rfl, hown, hb⟩ := hrel
    by_cases hlt : k < l.length
    · obtain ⟨ad, x, rfl, _, hc, hx⟩ := RdU.at_ (hr.below hb) hlt
      have hb10 := sz_10 (Hn.out x (mem_of_get hx))
      unfold sz at hb10
      have Hb10 := Lib.hid hb10
      have Hb := Lib.hid (encs_take_le Hn.out k)
      clear hb10
      go_wp2_with (first
        | (go_at_call 28; refine (refPut_any _ _ (Hn.out x (mem_of_get hx))).mono ?_; rintro e w1 ⟨v1, rfl, hown1, hb1⟩; obtain ⟨A1, c1, rfl, _, _, hr1⟩ := own_form hown1)
        | (at_builtin; refine push_row (.tmp 11) (.tmp 16) (own_below hown hb1 (Nat.le_refl _)) (Nat.le_trans hb.size hb1.size) hr1 (by have := Hb.out; have := Hb10.out; omega) rfl rfl rfl rfl ?_; intro v2 w2 hown2 hb2 hbs2 hg2; clear hown hown1 hr1))
      go_roundw
      case rel => exact ⟨k + 1, by omega, by go_num, by rw [encs_snoc hx]; exact hown2, (hb.trans (hb1.mono hb.size)).trans hb2⟩
      case measure => simp [intOf]; omega
    · obtain rfl : k = l.length := by omega
      rw [List.take_length] at hown
      go_wp2
      go_ret
      exact ⟨_, rfl, hown, hb⟩

set_option maxHeartbeats 1000000 in
set_option maxRecDepth 100000 in
theorem refText_any (s : ByteArray) (w : World) (hs : s.size ≤ 140737488351232) :
    Calls Try.prog 26 #[.string s] w fun e w' => ∃ v, e = .returned v ∧ w'.ownsRow w.heap.size 5 1 v (encText s.data.toList).length (bs (encText s.data.toList)) ∧ Below w.heap.size w w' := by
  have hsz : (s.size : Int) ≤ 140737488351232 := by omega
  have he := sz_10 (n := s.size) (by omega)
  unfold sz at he
  have Hs := Lib.hid hs
  have He := Lib.hid he
  clear hs he
  have e : s.data.toList.length = s.size := by simp
  have E := Lib.hid e
  clear e
  go_enter Try.func26, Try.ntmps26
  go_wp2_with (go_at_call 28; refine (refPut_any _ _ (by have := Hs.out; omega)).mono ?_; rintro e w1 ⟨v1, rfl, hown1, hb1⟩)
  go_loopw [3, 4] (fun v i wr => ∃ k : Nat, k ≤ s.size ∧ i = .int .i64 (k : Int) ∧ wr.ownsRow w.heap.size 5 1 v (enc s.size ++ s.data.toList.take k).length (bs (enc s.size ++ s.data.toList.take k)) ∧ Below w.heap.size w wr) (fun _ i _ => s.size - (intOf i).toNat)
  case atStart => exact ⟨0, by omega, rfl, by simpa using hown1, hb1⟩
  case round =>
    obtain ⟨k, hk, rfl, hown, hb⟩ := hrel
    clear hown1 hb1
    by_cases hlt : k < s.size
    · have hx : Hid (s.data.toList[k]? = some s[k]) := by
        show s.data.toList[k]? = some s[k]
        have : k < s.data.toList.length := by have := E.out; omega
        rw [List.getElem?_eq_getElem this]
        rfl
      have hpl : (enc s.size ++ s.data.toList.take k).length ≤ 140737488355327 := by
        have := Hs.out
        have := He.out
        have := List.length_take_le k s.data.toList
        rw [List.length_append]
        omega
      have Hpl := Lib.hid hpl
      clear hpl
      go_wp2_with (at_builtin; refine push_byte (.tmp 15) (.tmp 19) _ s[k] hown hb.size Hpl.out rfl rfl rfl rfl rfl ?_; intro v2 w2 hown2 hb2 hbs2; clear hown)
      go_roundw
      case rel => exact ⟨k + 1, by omega, by go_num, by rw [take_snoc hx, ← List.append_assoc]; exact hown2, hb.trans hb2⟩
      case measure => simp [intOf]; omega
    · obtain rfl : k = s.size := by omega
      have hfin : enc s.size ++ s.data.toList.take s.size = encText s.data.toList := by
        unfold encText
        rw [E.out, List.take_of_length_le (by rw [E.out]; omega)]
      rw [hfin] at hown
      clear hfin
      go_wp2
      go_ret
      exact ⟨_, rfl, hown, hb⟩

/-- Do these bytes stand at a place? -/
def standsAt (l : List UInt8) (p : Nat) (m : List UInt8) : Bool := decide ((l.drop p).take m.length = m)
theorem stands_short {l : List UInt8} {p : Nat} {m : List UInt8} (h : l.length < p + m.length) (hm : 0 < m.length) : standsAt l p m = false := by
  unfold standsAt
  rw [decide_eq_false_iff_not]
  intro e
  have := congrArg List.length e
  rw [List.length_take, List.length_drop] at this
  omega
theorem stands_eq {l : List UInt8} {p : Nat} {m : List UInt8} (ht : Hid ((l.drop p).take m.length = m.take m.length)) : standsAt l p m = true := by
  unfold standsAt
  rw [decide_eq_true_iff, ht.out, List.take_length]
theorem stands_ne {l : List UInt8} {p k : Nat} {m : List UInt8} {x y : UInt8} (hx : Hid (l[p + k]? = some x)) (hy : Hid (m[k]? = some y)) (h : x ≠ y) : standsAt l p m = false := by
  unfold standsAt
  rw [decide_eq_false_iff_not]
  intro e
  have h1 : k < m.length := (List.getElem?_eq_some_iff.1 hy.out).1
  have h2 : ((l.drop p).take m.length)[k]? = m[k]? := by rw [e]
  rw [List.getElem?_take, if_pos h1, List.getElem?_drop, hx.out, hy.out] at h2
  injection h2 with h2
  exact h h2

set_option maxHeartbeats 1000000 in
set_option maxRecDepth 100000 in
theorem refSame_any (A A' : Option Addr) (c c' B B' p : Nat) (l m : List UInt8) (w : World) (hl : l.length ≤ 140737488351232) (hp : p ≤ 140737488351232) (hml : m.length ≤ 140737488351232) (hm0 : 0 < m.length) (hr : RdB w B A l) (hm : RdB w B' A' m) :
    Calls Try.prog 46 #[.slice A l.length c, .int .i64 (p : Int), .slice A' m.length c'] w fun e w' => e = .returned (.bool (standsAt l p m)) ∧ ∃ n, w' = w.drewN n := by
  have hlen : (l.length : Int) ≤ 140737488351232 := by omega
  have hmlen : (m.length : Int) ≤ 140737488351232 := by omega
  have hplen : (p : Int) ≤ 140737488351232 := by omega
  clear hl hml hp
  by_cases hfit : p + m.length ≤ l.length
  · have hf : decide ((l.length : Int) < (p : Int) + (m.length : Int)) = false := by rw [decide_eq_false_iff_not]; omega
    have hf' : ¬ (l.length : Int) < (p : Int) + (m.length : Int) := by omega
    go_enter Try.func46, Try.ntmps46
    go_wp2
    go_loopw [7] (fun i wr => ∃ k n : Nat, k ≤ m.length ∧ i = .int .i64 (k : Int) ∧ wr = w.drewN n ∧ Hid ((l.drop p).take k = m.take k)) (fun i _ => m.length - (intOf i).toNat)
    case atStart => exact ⟨0, 0, by omega, rfl, rfl, by exact rfl⟩
    case round =>
      obtain ⟨k, n, hk, rfl, rfl, ht⟩ := hrel
      by_cases hlt : k < m.length
      · obtain ⟨ad, x, rfl, _, hc, hx⟩ := RdB.at_ hr (k := p + k) (by omega)
        obtain ⟨ad', y, rfl, _, hc', hy⟩ := RdB.at_ hm hlt
        have hix : IntKind.i64.wrap ((p : Int) + (k : Int)) = ((p + k : Nat) : Int) := by rw [IntWalk.i64_in _ (by omega)]; omega
        have hilt : (p : Int) + (k : Int) < (l.length : Int) := by omega
        have hi0 : 0 ≤ (p : Int) + (k : Int) := by omega
        have hin : ((p : Int) + (k : Int)).toNat = p + k := by omega
        by_cases hxy : x = y
        · subst hxy
          go_wp2
          go_quiet (fail)
          go_wp2
          go_roundw
          case rel =>
            refine ⟨k + 1, _, by omega, by go_num, rfl, takes_snoc ht ?_ hy⟩
            show (l.drop p)[k]? = some x
            rw [List.getElem?_drop]
            exact hx.out
          case measure => simp [intOf]; omega
        · have hv : ((x.toNat : Int) != (y.toNat : Int)) = true := by
            rw [bne_iff_ne]
            intro e
            exact hxy (UInt8.toNat_inj.1 (by omega))
          have hv' : (x.toNat != y.toNat) = true := by
            rw [bne_iff_ne]
            intro e
            exact hxy (UInt8.toNat_inj.1 e)
          have Hxy := Lib.hid hxy
          clear hxy
          go_wp2
          go_quiet (fail)
          go_wp2
          go_ret
          exact ⟨ret_bool (stands_ne hx hy Hxy.out).symm, _, World.drewN_drewN _ _ _⟩
      · obtain rfl : k = m.length := by omega
        go_wp2
        go_ret
        exact ⟨ret_bool (stands_eq ht).symm, _, rfl⟩
  · have hf : decide ((l.length : Int) < (p : Int) + (m.length : Int)) = true := by rw [decide_eq_true_iff]; omega
    have hf' : (l.length : Int) < (p : Int) + (m.length : Int) := by omega
    have hss := stands_short (l := l) (p := p) (m := m) (by omega) hm0
    have Hss := Lib.hid hss
    clear hss
    go_enter Try.func46, Try.ntmps46
    go_wp2
    go_ret
    exact ⟨ret_bool Hss.out.symm, 0, rfl⟩
end Go.Proofs.Ytfhcpjnjemojgaa
