/- Calls as cells; few, Pick, alike, same. Conditions: at most 2^40 entries. -/
import Derived.Test.YtdnbflhpgfgnnaaDrJ
namespace Go.Proofs.Ytdnbflhpgfgnnaa
open Go.RowKit

/-- A call: its kind, its name, its number. -/
structure Ac where
  k : Int
  b : List UInt8
  n : Int
def Ac.cs (a : Ac) : List Value := [.int .i64 a.k, .string (txt a.b), .int .i64 a.n]
def acells (l : List Ac) : List Value := l.flatMap Ac.cs
theorem acells_len (l : List Ac) : (acells l).length = l.length * 3 := by
  induction l with
  | nil => rfl
  | cons f l ih =>
    unfold acells at ih ⊢
    rw [List.flatMap_cons, List.length_append, ih, List.length_cons]
    simp [Ac.cs]
    omega
theorem acells_append (a b : List Ac) : acells (a ++ b) = acells a ++ acells b := by simp [acells]
theorem acells_get {l : List Ac} {k : Nat} {a : Ac} (h : l[k]? = some a) {j : Nat} (hj : j < 3) : (acells l)[k * 3 + j]? = a.cs[j]? := by
  obtain ⟨hk, e⟩ := List.getElem?_eq_some_iff.1 h
  have hl : (acells (l.take k)).length = k * 3 := by rw [acells_len, List.length_take]; congr 1; omega
  have hs : acells l = acells (l.take k) ++ (a.cs ++ acells (l.drop (k + 1))) := by
    conv => lhs; rw [← List.take_append_drop k l, List.drop_eq_getElem_cons hk, e]
    rw [acells_append]
    rfl
  rw [hs, List.getElem?_append_right (by omega), hl, show k * 3 + j - k * 3 = j by omega, List.getElem?_append_left (by show j < 3; exact hj)]
/-- Its parts fit. -/
structure Ac.Ok (a : Ac) : Prop where
  lo : -9223372036854775808 ≤ a.k
  hi : a.k ≤ 9223372036854775807
  nlo : -9223372036854775808 ≤ a.n
  nhi : a.n ≤ 9223372036854775807
  b : a.b.length ≤ 9223372036854775807
theorem padd_next2 (a : Addr) (n : Nat) : a.add (n + 2) = ⟨(a.add n).block, (a.add n).off + 2, none⟩ := by
  unfold Addr.add
  by_cases h : n = 0 <;> simp [h, Nat.add_assoc]
/-- Calls, as a slice value reads. -/
structure AcX (w : World) (X : Nat → Prop) (A : Option Addr) (l : List Ac) : Prop where
  top : RdX w X 3 A l.length (acells l)
  ok : ∀ a ∈ l, a.Ok
section
variable {w w' : World} {X Y : Nat → Prop} {A : Option Addr} {l : List Ac}
theorem AcX.keep (h : AcX w X A l) (ht : Touch X w w') : AcX w' X A l := ⟨h.top.keep ht, h.ok⟩
theorem AcX.below (h : AcX w X A l) (ht : Below w.heap.size w w') : AcX w' X A l := ⟨h.top.below ht, h.ok⟩
theorem AcX.nil : AcX w X A [] := ⟨⟨rfl, fun h => absurd h (by simp)⟩, by simp⟩
theorem AcX.at_ {k : Nat} (h : AcX w X A l) (hk : k < l.length) :
    ∃ (ad : Addr) (a : Ac), A = some ad ∧ ad.block < w.heap.size ∧ w.cell? (ad.add (k * 3)) = some (.int .i64 a.k) ∧ w.cell? ⟨(ad.add (k * 3)).block, (ad.add (k * 3)).off + 1, none⟩ = some (.string (txt a.b)) ∧ w.cell? ⟨(ad.add (k * 3)).block, (ad.add (k * 3)).off + 2, none⟩ = some (.int .i64 a.n) ∧ Hid (l[k]? = some a) ∧ a.Ok := by
  obtain ⟨ad, e, hb, _, hc⟩ := h.top.2 (by omega)
  have hr : l[k]? = some l[k] := List.getElem?_eq_getElem hk
  have hm := List.mem_of_getElem? hr
  refine ⟨ad, _, e, hb, hc _ _ (acells_get hr (j := 0) (by omega)), ?_, ?_, hr, h.ok _ hm⟩
  · rw [← padd_next]; exact hc _ _ (acells_get hr (j := 1) (by omega))
  · rw [← padd_next2]; exact hc _ _ (acells_get hr (j := 2) (by omega))
end
/-- Few calls, of short names. -/
def SmA (l : List Ac) (n : Nat) : Prop := l.length ≤ n ∧ ∀ a ∈ l, a.b.length ≤ 80
instance (l : List Ac) (n : Nat) : Decidable (SmA l n) := inferInstanceAs (Decidable (_ ∧ _))
set_option maxHeartbeats 1000000 in
set_option maxRecDepth 100000 in
theorem few_any {A : Option Addr} {c t n : Nat} {X : Nat → Prop} {l : List Ac} {w : World} (hn : l.length = n) (ht : t ≤ 1000) (hl : n ≤ 9223372036854775807) (hr : AcX w X A l) :
    Calls Try.prog 7 #[.slice A n c, .int .i64 (t : Int)] w fun e w' => e = .returned (.bool (decide (SmA l t))) ∧ w' = w := by
  have hnI : (n : Int) ≤ 9223372036854775807 := by omega
  have htI : (t : Int) ≤ 1000 := by omega
  have Hn := Lib.hid hn
  clear hl
  go_enter Try.func7, Try.ntmps7
  go_wp2
  go_loopw [5] (fun i wr => ∃ k : Nat, k ≤ n ∧ i = .int .i64 (k : Int) ∧ wr = w ∧ Hid (∀ a ∈ l.take k, a.b.length ≤ 80)) (fun i _ => n - (intOf i).toNat)
  case atStart => exact ⟨0, by omega, rfl, rfl, by intro a ha; simp at ha⟩
  case round =>
    obtain ⟨k, hk, rfl, rfl, hall⟩ := hrel
    by_cases hltn : k < n
    · obtain ⟨ad, a, rfl, hab, hc0, hc1, hc2, hx, hok⟩ := hr.at_ (k := k) (by rw [Hn.out]; exact hltn)
      have hll1 : (a.b.length : Int) ≤ 9223372036854775807 := by have := hok.b; omega
      have hlen : (txt a.b).size = a.b.length := txt_size a.b
      have hkn : (k : Int) < (n : Int) := by omega
      clear hok
      by_cases h1 : 80 < a.b.length
      · have h1I : (80 : Int) < (a.b.length : Int) := by omega
        have hns : Hid (¬ SmA l t) := fun h => by
          have := h.2 a (List.mem_of_getElem? hx.out)
          omega
        go_wp2
        go_ret
        exact ⟨by rw [decide_eq_false hns.out]; rfl, rfl⟩
      · have h1I : (a.b.length : Int) ≤ 80 := by omega
        have h1d : decide ((80 : Int) < (a.b.length : Int)) = false := by rw [decide_eq_false_iff_not]; omega
        have hall' : Hid (∀ b ∈ l.take (k + 1), b.b.length ≤ 80) := by
          intro b hb
          rw [take_snoc hx, List.mem_append, List.mem_singleton] at hb
          rcases hb with hb | rfl
          · exact hall.out b hb
          · omega
        go_wp2
        go_roundw
        case rel => exact ⟨k + 1, by omega, by go_num, trivial, hall'⟩
        case measure => simp [intOf]; omega
    · obtain rfl : k = n := by omega
      have hfin : Hid (decide (k ≤ t) = decide (SmA l t)) := by
        have h1 : ∀ a ∈ l, a.b.length ≤ 80 := fun a ha => hall.out a (by rw [← Hn.out, List.take_length]; exact ha)
        show decide _ = decide _
        rw [decide_eq_decide]
        constructor
        · intro h
          exact ⟨by rw [Hn.out]; omega, h1⟩
        · intro h
          have := h.1
          rw [Hn.out] at this
          omega
      have hd : decide ((k : Int) < (k : Int)) = false := by simp
      go_wp2
      go_ret
      exact ⟨congrArg (fun x => Ending.returned (.bool x)) hfin.out, rfl⟩
theorem tmod6_bounds (z : Int) : -5 ≤ z.tmod 6 ∧ z.tmod 6 ≤ 5 ∧ (z.tmod 6 + 6) % 6 = z % 6 := by
  have h0 := Int.mul_tdiv_add_tmod z 6
  rcases Int.le_total 0 z with h | h
  · have := Int.tmod_eq_emod_of_nonneg (b := 6) h
    omega
  · have h1 : z.tmod 6 = -((-z).tmod 6) := by rw [Int.neg_tmod, Int.neg_neg]
    have := Int.tmod_eq_emod_of_nonneg (a := -z) (b := 6) (by omega)
    omega
set_option maxHeartbeats 1000000 in
theorem pick6_any (z : Int) (w : World) :
    Calls Try.prog 16 #[.int .i64 z, .int .i64 6] w fun e w' => e = .returned (.int .i64 (z % 6)) ∧ w' = w := by
  obtain ⟨h1, h2, h3⟩ := tmod6_bounds z
  have H3 := Lib.hid h3
  clear h3
  go_enter Try.func16, Try.ntmps16
  go_wp2
  go_ret
  exact ⟨congrArg (fun x => Ending.returned (.int .i64 x)) H3.out, rfl⟩
theorem take_eq_snoc {a b : List En} {k : Nat} {x : En} (h : a.take k = b.take k) (hx : a[k]? = some x) (hy : b[k]? = some x) : a.take (k + 1) = b.take (k + 1) := by
  rw [take_snoc hx, take_snoc hy, h]
set_option maxHeartbeats 1000000 in
set_option maxRecDepth 100000 in
theorem alike_any {A B : Option Addr} {c d n m : Nat} {X : Nat → Prop} {a b : List En} {w : World} (hn : a.length = n) (hm : b.length = m) (hl : n ≤ 1099511627776) (hl2 : m ≤ 1099511627776) (ha : EnX w X A a) (hb : EnX w X B b) :
    Calls Try.prog 19 #[.slice A n c, .slice B m d] w fun e w' => e = .returned (.bool (decide (a = b))) ∧ Below w.heap.size w w' := by
  have hnI : (n : Int) ≤ 1099511627776 := by omega
  have hmI : (m : Int) ≤ 1099511627776 := by omega
  have Hn := Lib.hid hn
  have Hm := Lib.hid hm
  clear hl hl2 hn hm
  by_cases hnm : n = m
  · subst hnm
    have Ha := Lib.hid ha
    have Hb := Lib.hid hb
    clear ha hb
    go_enter Try.func19, Try.ntmps19
    go_wp2
    go_loopw [5] (fun i wr => ∃ k : Nat, k ≤ n ∧ i = .int .i64 (k : Int) ∧ Hid (Below w.heap.size w wr) ∧ Hid (a.take k = b.take k)) (fun i _ => n - (intOf i).toNat)
    case atStart => exact ⟨0, by omega, rfl, Lib.hid (Below.refl _ _), Lib.hid rfl⟩
    case round =>
      obtain ⟨k, hk, rfl, hbr, hall⟩ := hrel
      by_cases hltn : k < n
      · obtain ⟨ad, x, rfl, hab, _, hc0, hc1, hx⟩ := EnX.at_ (RdX.below Ha.out hbr.out) (k := k) (by rw [Hn.out]; exact hltn)
        obtain ⟨bd, y, rfl, hbb, _, hd0, hd1, hy⟩ := EnX.at_ (RdX.below Hb.out hbr.out) (k := k) (by rw [Hm.out]; exact hltn)
        have hkn : (k : Int) < (n : Int) := by omega
        by_cases hxy : x = y
        · have hd : decide (x = y) = true := by simp [hxy]
          subst hxy
          have Hbr := Lib.hid hbr
          clear hbr
          go_wp2
          go_quiet (fail)
          go_wp2
          go_roundw
          case rel => exact ⟨k + 1, by omega, by go_num, Lib.hid (below_drewN Hbr.out _), Lib.hid (take_eq_snoc hall.out hx.out hy.out)⟩
          case measure => simp [intOf]; omega
        · have hne : Hid (¬ a = b) := by
            intro e
            subst e
            have h1 := hx.out
            rw [hy.out] at h1
            injection h1 with h1
            exact hxy h1.symm
          by_cases h1 : x.1 = y.1
          · have h2 : ¬ x.2 = y.2 := fun e => hxy (Prod.ext h1 e)
            rw [h1] at hc0
            go_wp2
            go_quiet (fail)
            go_wp2
            go_ret
            exact ⟨by rw [decide_eq_false hne.out]; rfl, below_drewN hbr.out _⟩
          · have h2 : ¬ (txt x.1).toList = (txt y.1).toList := fun e => by
              have h3 := @txt_beq x.1 y.1
              rw [beq_iff_eq.2 e] at h3
              exact h1 (of_decide_eq_true h3.symm)
            go_wp2
            go_quiet (fail)
            go_wp2
            go_ret
            exact ⟨by rw [decide_eq_false hne.out]; rfl, below_drewN hbr.out _⟩
      · obtain rfl : k = n := by omega
        have he : a = b := by
          have h1 := hall.out
          rw [← Hn.out, List.take_length, Hn.out, ← Hm.out, List.take_length] at h1
          exact h1
        go_wp2
        go_ret
        exact ⟨by rw [decide_eq_true he]; rfl, hbr.out⟩
  · have hne : ¬ a = b := fun e => hnm (by rw [← Hn.out, ← Hm.out, e])
    have hnmI : ¬ (n : Int) = (m : Int) := by omega
    go_enter Try.func19, Try.ntmps19
    go_wp2
    go_ret
    exact ⟨by rw [decide_eq_false hne]; rfl, Below.refl _ _⟩
set_option maxHeartbeats 1000000 in
set_option maxRecDepth 100000 in
theorem same_any {A B : Option Addr} {c d n m : Nat} {X : Nat → Prop} {a b : List En} {w : World} (hn : a.length = n) (hm : b.length = m) (hl : n ≤ 1099511627776) (hl2 : m ≤ 1099511627776) (ha : EnX w X A a) (hb : EnX w X B b) :
    Calls Try.prog 23 #[.slice A n c, .slice B m d] w fun e w' => e = .returned (.bool (decide (a = b))) ∧ Below w.heap.size w w' := by
  have hnI : (n : Int) ≤ 1099511627776 := by omega
  have hmI : (m : Int) ≤ 1099511627776 := by omega
  have Hn := Lib.hid hn
  have Hm := Lib.hid hm
  clear hl hl2 hn hm
  by_cases hnm : n = m
  · subst hnm
    have Ha := Lib.hid ha
    have Hb := Lib.hid hb
    clear ha hb
    go_enter Try.func23, Try.ntmps23
    go_wp2
    go_loopw [5] (fun i wr => ∃ k : Nat, k ≤ n ∧ i = .int .i64 (k : Int) ∧ Hid (Below w.heap.size w wr) ∧ Hid (a.take k = b.take k)) (fun i _ => n - (intOf i).toNat)
    case atStart => exact ⟨0, by omega, rfl, Lib.hid (Below.refl _ _), Lib.hid rfl⟩
    case round =>
      obtain ⟨k, hk, rfl, hbr, hall⟩ := hrel
      by_cases hltn : k < n
      · obtain ⟨ad, x, rfl, hab, _, hc0, hc1, hx⟩ := EnX.at_ (RdX.below Ha.out hbr.out) (k := k) (by rw [Hn.out]; exact hltn)
        obtain ⟨bd, y, rfl, hbb, _, hd0, hd1, hy⟩ := EnX.at_ (RdX.below Hb.out hbr.out) (k := k) (by rw [Hm.out]; exact hltn)
        have hkn : (k : Int) < (n : Int) := by omega
        by_cases hxy : x = y
        · have hd : decide (x = y) = true := by simp [hxy]
          subst hxy
          have Hbr := Lib.hid hbr
          clear hbr
          go_wp2
          go_quiet (fail)
          go_wp2
          go_roundw
          case rel => exact ⟨k + 1, by omega, by go_num, Lib.hid (below_drewN Hbr.out _), Lib.hid (take_eq_snoc hall.out hx.out hy.out)⟩
          case measure => simp [intOf]; omega
        · have hne : Hid (¬ a = b) := by
            intro e
            subst e
            have h1 := hx.out
            rw [hy.out] at h1
            injection h1 with h1
            exact hxy h1.symm
          by_cases h1 : x.1 = y.1
          · have h2 : ¬ x.2 = y.2 := fun e => hxy (Prod.ext h1 e)
            rw [h1] at hc0
            go_wp2
            go_quiet (fail)
            go_wp2
            go_ret
            exact ⟨by rw [decide_eq_false hne.out]; rfl, below_drewN hbr.out _⟩
          · have h2 : ¬ (txt x.1).toList = (txt y.1).toList := fun e => by
              have h3 := @txt_beq x.1 y.1
              rw [beq_iff_eq.2 e] at h3
              exact h1 (of_decide_eq_true h3.symm)
            go_wp2
            go_quiet (fail)
            go_wp2
            go_ret
            exact ⟨by rw [decide_eq_false hne.out]; rfl, below_drewN hbr.out _⟩
      · obtain rfl : k = n := by omega
        have he : a = b := by
          have h1 := hall.out
          rw [← Hn.out, List.take_length, Hn.out, ← Hm.out, List.take_length] at h1
          exact h1
        go_wp2
        go_ret
        exact ⟨by rw [decide_eq_true he]; rfl, hbr.out⟩
  · have hne : ¬ a = b := fun e => hnm (by rw [← Hn.out, ← Hm.out, e])
    have hnmI : ¬ (n : Int) = (m : Int) := by omega
    go_enter Try.func23, Try.ntmps23
    go_wp2
    go_ret
    exact ⟨by rw [decide_eq_false hne]; rfl, Below.refl _ _⟩
end Go.Proofs.Ytdnbflhpgfgnnaa
