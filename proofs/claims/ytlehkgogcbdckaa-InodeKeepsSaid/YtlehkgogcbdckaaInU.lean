/- Calls as values and cells; the walk of few. Conditions: none. -/
import Derived.Test.YtlehkgogcbdckaaInT
namespace Go.Proofs.Ytlehkgogcbdckaa
open Go.RowKit

/-- A slice of bools as a value. -/
structure KRow where
  A : Option Addr
  c : Nat
  l : List Bool
/-- A slice of numbers as a value. -/
structure IRow where
  A : Option Addr
  c : Nat
  l : List Int
def ic (l : List Int) : List Value := l.map (Value.int .i64)
theorem ic_len (l : List Int) : (ic l).length = l.length := by simp [ic]
abbrev RdI (w : World) (B : Nat) (A : Option Addr) (l : List Int) : Prop := Reads w B 1 A l.length (ic l)
/-- A call: its kind, its number, its bytes, its names, what it keeps. -/
structure Ac where
  k : Int
  i : Int
  r : Row
  ns : IRow
  q : KRow
def Ac.cs (a : Ac) : List Value := [.int .i64 a.k, .int .i64 a.i, .slice a.r.A a.r.l.length a.r.c, .slice a.ns.A a.ns.l.length a.ns.c, .slice a.q.A a.q.l.length a.q.c]
def acells (l : List Ac) : List Value := l.flatMap Ac.cs
theorem acells_len (l : List Ac) : (acells l).length = l.length * 5 := by
  induction l with
  | nil => rfl
  | cons f l ih =>
    unfold acells at ih ⊢
    rw [List.flatMap_cons, List.length_append, ih, List.length_cons]
    simp [Ac.cs]
    omega
theorem acells_append (a b : List Ac) : acells (a ++ b) = acells a ++ acells b := by simp [acells]
theorem acells_get {l : List Ac} {k : Nat} {a : Ac} (h : l[k]? = some a) {j : Nat} (hj : j < 5) : (acells l)[k * 5 + j]? = a.cs[j]? := by
  obtain ⟨hk, e⟩ := List.getElem?_eq_some_iff.1 h
  have hl : (acells (l.take k)).length = k * 5 := by rw [acells_len, List.length_take]; congr 1; omega
  have hs : acells l = acells (l.take k) ++ (a.cs ++ acells (l.drop (k + 1))) := by
    conv => lhs; rw [← List.take_append_drop k l, List.drop_eq_getElem_cons hk, e]
    rw [acells_append]
    rfl
  rw [hs, List.getElem?_append_right (by omega), hl, show k * 5 + j - k * 5 = j by omega, List.getElem?_append_left (by show j < 5; exact hj)]
/-- Its parts fit. -/
structure Ac.Ok (a : Ac) : Prop where
  lo : -9223372036854775808 ≤ a.k
  hi : a.k ≤ 9223372036854775807
  r : a.r.l.length ≤ 9223372036854775807
  q : a.q.l.length ≤ 9223372036854775807
  qc : a.q.l.length ≤ a.q.c
  i : -9223372036854775808 ≤ a.i ∧ a.i ≤ 9223372036854775807
  n : a.ns.l.length ≤ 9223372036854775807
  nf : ∀ z ∈ a.ns.l, -9223372036854775808 ≤ z ∧ z ≤ 9223372036854775807
/-- Calls, as a slice value reads. -/
structure RdAc (w : World) (B : Nat) (A : Option Addr) (l : List Ac) : Prop where
  top : Reads w B 5 A l.length (acells l)
  row : ∀ a ∈ l, RdB w B a.r.A a.r.l
  told : ∀ a ∈ l, RdK w B a.q.A a.q.l
  nums : ∀ a ∈ l, RdI w B a.ns.A a.ns.l
  ok : ∀ a ∈ l, a.Ok
section
variable {w w' : World} {B B' : Nat} {A : Option Addr} {l : List Ac}
theorem RdAc.below (h : RdAc w B A l) (hb : Below B w w') : RdAc w' B A l := ⟨h.top.below hb, fun a ha => (h.row a ha).below hb, fun a ha => (h.told a ha).below hb, fun a ha => (h.nums a ha).below hb, h.ok⟩
theorem RdAc.more (h : RdAc w B A l) (hB : B ≤ B') : RdAc w B' A l := ⟨h.top.more hB, fun a ha => (h.row a ha).more hB, fun a ha => (h.told a ha).more hB, fun a ha => (h.nums a ha).more hB, h.ok⟩
theorem RdAc.nil : RdAc w B A [] := ⟨Reads.none_, by simp, by simp, by simp, by simp⟩
theorem padd_next2 (a : Addr) (n : Nat) : a.add (n + 2) = ⟨(a.add n).block, (a.add n).off + 2, none⟩ := by
  unfold Addr.add
  by_cases h : n = 0 <;> simp [h, Nat.add_assoc]
theorem padd_next3 (a : Addr) (n : Nat) : a.add (n + 3) = ⟨(a.add n).block, (a.add n).off + 3, none⟩ := by
  unfold Addr.add
  by_cases h : n = 0 <;> simp [h, Nat.add_assoc]
theorem padd_next4 (a : Addr) (n : Nat) : a.add (n + 4) = ⟨(a.add n).block, (a.add n).off + 4, none⟩ := by
  unfold Addr.add
  by_cases h : n = 0 <;> simp [h, Nat.add_assoc]
/-- A call's cells, one by one. -/
structure AcAt (w : World) (p : Addr) (a : Ac) : Prop where
  c0 : w.cell? p = some (.int .i64 a.k)
  c1 : w.cell? ⟨p.block, p.off + 1, none⟩ = some (.int .i64 a.i)
  c2 : w.cell? ⟨p.block, p.off + 2, none⟩ = some (.slice a.r.A a.r.l.length a.r.c)
  c3 : w.cell? ⟨p.block, p.off + 3, none⟩ = some (.slice a.ns.A a.ns.l.length a.ns.c)
  c4 : w.cell? ⟨p.block, p.off + 4, none⟩ = some (.slice a.q.A a.q.l.length a.q.c)
theorem AcAt.below {p : Addr} {a : Ac} (h : AcAt w p a) (hp : p.block < w.heap.size) (hb : Below w.heap.size w w') : AcAt w' p a :=
  ⟨(hb.cell (p := p) hp).trans h.c0, (hb.cell (p := ⟨p.block, p.off + 1, none⟩) hp).trans h.c1, (hb.cell (p := ⟨p.block, p.off + 2, none⟩) hp).trans h.c2, (hb.cell (p := ⟨p.block, p.off + 3, none⟩) hp).trans h.c3, (hb.cell (p := ⟨p.block, p.off + 4, none⟩) hp).trans h.c4⟩
theorem RdAc.at_ {k : Nat} (h : RdAc w B A l) (hk : k < l.length) :
    ∃ (ad : Addr) (a : Ac), A = some ad ∧ ad.block < B ∧ AcAt w (ad.add (k * 5)) a ∧ Hid (l[k]? = some a) ∧ RdB w B a.r.A a.r.l ∧ RdI w B a.ns.A a.ns.l ∧ RdK w B a.q.A a.q.l ∧ a.Ok := by
  obtain ⟨ad, e, hb, hc⟩ := h.top.2 (by omega)
  have hr : l[k]? = some l[k] := List.getElem?_eq_getElem hk
  have hm := List.mem_of_getElem? hr
  refine ⟨ad, _, e, hb, ⟨hc _ _ (acells_get hr (j := 0) (by omega)), ?_, ?_, ?_, ?_⟩, hr, h.row _ hm, h.nums _ hm, h.told _ hm, h.ok _ hm⟩
  · rw [← padd_next]; exact hc _ _ (acells_get hr (j := 1) (by omega))
  · rw [← padd_next2]; exact hc _ _ (acells_get hr (j := 2) (by omega))
  · rw [← padd_next3]; exact hc _ _ (acells_get hr (j := 3) (by omega))
  · rw [← padd_next4]; exact hc _ _ (acells_get hr (j := 4) (by omega))
end
/-- Few calls, of few bytes. -/
def SmA (l : List Ac) (n : Nat) : Prop := l.length ≤ n ∧ ∀ a ∈ l, a.r.l.length ≤ 20 ∧ a.ns.l.length ≤ 20 ∧ a.q.l.length ≤ 30
set_option maxHeartbeats 1000000 in
set_option maxRecDepth 100000 in
theorem few_any {A : Option Addr} {c B t n : Nat} {l : List Ac} {w : World} (hn : l.length = n) (ht : t ≤ 40) (hl : n ≤ 9223372036854775807) (hr : RdAc w B A l) :
    Calls Try.prog 5 #[.slice A n c, .int .i64 (t : Int)] w fun e w' => ∃ b : Bool, e = .returned (.bool b) ∧ (b = true → SmA l t) ∧ w' = w := by
  have hnI : (n : Int) ≤ 9223372036854775807 := by omega
  have htI : (t : Int) ≤ 40 := by omega
  have Hn := Lib.hid hn
  clear hl
  go_enter Try.func5, Try.ntmps5
  go_wp2
  go_loopw [5] (fun i wr => ∃ k : Nat, k ≤ n ∧ k ≤ 100 ∧ i = .int .i64 (k : Int) ∧ wr = w ∧ Hid (∀ a ∈ l.take k, a.r.l.length ≤ 20 ∧ a.ns.l.length ≤ 20 ∧ a.q.l.length ≤ 30)) (fun i _ => n - (Go.Lib.intOf i).toNat)
  case atStart => exact ⟨0, by omega, by omega, rfl, rfl, by intro a ha; simp at ha⟩
  case round =>
    obtain ⟨k, hk, hk1, rfl, rfl, hall⟩ := hrel
    by_cases hlt : k < n ∧ k < 100
    · obtain ⟨hltn, hlth⟩ := hlt
      obtain ⟨ad, a, rfl, hab, hcs, hx, _, _, _, hok⟩ := hr.at_ (k := k) (by rw [Hn.out]; exact hltn)
      obtain ⟨_, _, hc2, hc3, hc4⟩ := hcs
      have hll1 : (a.r.l.length : Int) ≤ 9223372036854775807 := by have := hok.r; omega
      have hll2 : (a.ns.l.length : Int) ≤ 9223372036854775807 := by have := hok.n; omega
      have hll3 : (a.q.l.length : Int) ≤ 9223372036854775807 := by have := hok.q; omega
      have hkn : (k : Int) < (n : Int) := by omega
      have hkh : (k : Int) < 100 := by omega
      clear hok
      by_cases h1 : 20 < a.r.l.length
      · have h1I : (20 : Int) < (a.r.l.length : Int) := by omega
        go_wp2
        go_ret
        exact ⟨false, rfl, fun h => (by cases h), rfl⟩
      · have h1I : (a.r.l.length : Int) ≤ 20 := by omega
        have h1d : decide ((20 : Int) < (a.r.l.length : Int)) = false := by rw [decide_eq_false_iff_not]; omega
        by_cases h3 : 20 < a.ns.l.length
        · have h3I : (20 : Int) < (a.ns.l.length : Int) := by omega
          go_wp2
          go_ret
          exact ⟨false, rfl, fun h => (by cases h), rfl⟩
        · have h3I : (a.ns.l.length : Int) ≤ 20 := by omega
          have h3d : decide ((20 : Int) < (a.ns.l.length : Int)) = false := by rw [decide_eq_false_iff_not]; omega
          by_cases h2 : 30 < a.q.l.length
          · have h2I : (30 : Int) < (a.q.l.length : Int) := by omega
            go_wp2
            go_ret
            exact ⟨false, rfl, fun h => (by cases h), rfl⟩
          · have h2I : (a.q.l.length : Int) ≤ 30 := by omega
            have h2d : decide ((30 : Int) < (a.q.l.length : Int)) = false := by rw [decide_eq_false_iff_not]; omega
            have hall' : Hid (∀ b ∈ l.take (k + 1), b.r.l.length ≤ 20 ∧ b.ns.l.length ≤ 20 ∧ b.q.l.length ≤ 30) := by
              intro b hb
              rw [take_snoc hx, List.mem_append, List.mem_singleton] at hb
              rcases hb with hb | rfl
              · exact hall.out b hb
              · exact ⟨by omega, by omega, by omega⟩
            go_wp2
            go_roundw
            case rel => exact ⟨k + 1, by omega, by omega, by go_num, trivial, hall'⟩
            case measure => simp [Go.Lib.intOf]; omega
    · have hfin : Hid (decide (n ≤ t) = true → SmA l t) := by
        intro h
        have h' := of_decide_eq_true h
        have hkn : k = n := by omega
        refine ⟨by rw [Hn.out]; omega, fun a ha => hall.out a ?_⟩
        rw [hkn, ← Hn.out, List.take_length]
        exact ha
      by_cases hkn : k < n
      · have hk100 : k = 100 := by omega
        subst hk100
        have hknI : (100 : Int) < (n : Int) := by omega
        go_wp2
        go_ret
        exact ⟨_, rfl, hfin.out, rfl⟩
      · obtain rfl : k = n := by omega
        have hd : decide ((k : Int) < (k : Int)) = false := by simp
        go_wp2
        go_ret
        exact ⟨_, rfl, hfin.out, rfl⟩
end Go.Proofs.Ytlehkgogcbdckaa
