/- Edits as plain values: which are right, how many bytes they have, what they make of a text, the normal ones, how they are written and taken. No program in sight. Conditions: none. -/
import Derived.Test.YtohgghaooppcoaaVar0
import Derived.Test.YtohgghaooppcoaaTakeA
namespace Go.Proofs.Ytohgghaooppcoaa
open Go.RowKit

/-- An edit. -/
structure Ed where
  k : UInt8
  n : Int
  s : List UInt8
  deriving DecidableEq, Inhabited
def Ed.zero : Ed := ⟨0, 0, []⟩
def rt (x : Ed) : Bool := if x.k = 2 then decide (x.n = 0 ∧ x.s ≠ []) else decide ((x.k = 1 ∨ x.k = 3) ∧ 1 ≤ x.n ∧ x.n ≤ 2147483647 ∧ x.s = [])
def allRt (l : List Ed) : Bool := l.all rt
theorem rt_two {x : Ed} (h : x.k = 2) : rt x = decide (x.n = 0 ∧ x.s ≠ []) := if_pos h
theorem rt_not {x : Ed} (h : x.k ≠ 2) : rt x = decide ((x.k = 1 ∨ x.k = 3) ∧ 1 ≤ x.n ∧ x.n ≤ 2147483647 ∧ x.s = []) := if_neg h
/-- The three kinds of right edits. -/
theorem rt_cases {x : Ed} (h : rt x = true) : (x.k = 2 ∧ x.n = 0 ∧ x.s ≠ []) ∨ ((x.k = 1 ∨ x.k = 3) ∧ x.k ≠ 2 ∧ 1 ≤ x.n ∧ x.n ≤ 2147483647 ∧ x.s = []) := by
  by_cases h2 : x.k = 2
  · rw [rt_two h2] at h
    exact .inl ⟨h2, by simpa using h⟩
  · rw [rt_not h2] at h
    simp only [decide_eq_true_eq] at h
    exact .inr ⟨h.1, h2, h.2⟩
theorem rt_n {x : Ed} (h : rt x = true) : 0 ≤ x.n ∧ x.n ≤ 2147483647 := by
  rcases rt_cases h with ⟨_, h, _⟩ | ⟨_, _, h1, h2, _⟩ <;> omega
theorem allRt_get {l : List Ed} {k : Nat} {x : Ed} (h : allRt l = true) (hx : Hid (l[k]? = some x)) : rt x = true := List.all_eq_true.1 h x (mem_of_get hx)
theorem allRt_false {l : List Ed} {k : Nat} {x : Ed} (hx : Hid (l[k]? = some x)) (h : rt x = false) : allRt l = false := by
  unfold allRt
  rw [List.all_eq_false]
  exact ⟨x, mem_of_get hx, by simp [h]⟩
theorem allRt_takes {l : List Ed} (h : Hid (allRt (l.take l.length) = true)) : allRt l = true := by
  have := h.out
  rwa [List.take_length] at this
theorem allRt_snoc {l : List Ed} {k : Nat} {x : Ed} (h : Hid (allRt (l.take k) = true)) (hx : Hid (l[k]? = some x)) (hr : rt x = true) : Hid (allRt (l.take (k + 1)) = true) := by
  show allRt _ = true
  unfold allRt at *
  rw [take_snoc hx, List.all_append, h.out]
  simp [hr]

/-! ### sizes -/
def frN (x : Ed) : Nat := if rt x then x.n.toNat else 0
def toN (x : Ed) : Nat := if rt x then (if x.k = 3 then 0 else x.n.toNat + x.s.length) else 0
def szF : List Ed → Nat
  | [] => 0
  | x :: l => frN x + szF l
def szT : List Ed → Nat
  | [] => 0
  | x :: l => toN x + szT l
theorem szF_append : ∀ (l m : List Ed), szF (l ++ m) = szF l + szF m
  | [], m => by simp [szF]
  | x :: l, m => by simp only [List.cons_append, szF, szF_append l m]; omega
theorem szT_append : ∀ (l m : List Ed), szT (l ++ m) = szT l + szT m
  | [], m => by simp [szT]
  | x :: l, m => by simp only [List.cons_append, szT, szT_append l m]; omega
theorem szF_snoc {l : List Ed} {k : Nat} {x : Ed} (hx : Hid (l[k]? = some x)) : szF (l.take (k + 1)) = szF (l.take k) + frN x := by
  rw [take_snoc hx, szF_append]; simp [szF]
theorem szT_snoc {l : List Ed} {k : Nat} {x : Ed} (hx : Hid (l[k]? = some x)) : szT (l.take (k + 1)) = szT (l.take k) + toN x := by
  rw [take_snoc hx, szT_append]; simp [szT]
theorem frN_le (x : Ed) : frN x ≤ 2147483647 := by
  unfold frN
  split
  · rename_i h
    have := rt_n h
    omega
  · omega
theorem toN_le (x : Ed) : toN x ≤ 2147483647 + x.s.length := by
  unfold toN
  split
  · rename_i h
    have := rt_n h
    split <;> omega
  · omega
theorem szF_le : ∀ (l : List Ed), szF l ≤ 2147483647 * l.length
  | [] => by simp [szF]
  | x :: l => by
    have := szF_le l
    have := frN_le x
    simp only [szF, List.length_cons]
    omega
theorem szT_le : ∀ (l : List Ed) (M : Nat), (∀ x ∈ l, x.s.length ≤ M) → szT l ≤ (2147483647 + M) * l.length
  | [], M, _ => by simp [szT]
  | x :: l, M, h => by
    have h1 := szT_le l M (fun y hy => h y (List.mem_cons_of_mem _ hy))
    have h2 := toN_le x
    have h3 := h x (List.mem_cons_self ..)
    simp only [szT, List.length_cons, Nat.mul_add, Nat.mul_one]
    omega

/-! ### what a delta makes of a text -/
def app : List UInt8 → List Ed → List UInt8
  | _, [] => []
  | b, x :: l => if x.k = 2 then x.s ++ app b l else if x.k = 1 then b.take x.n.toNat ++ app (b.drop x.n.toNat) l else app (b.drop x.n.toNat) l
def isOf (b : List UInt8) (l : List Ed) : Bool := decide (szF l = b.length) && allRt l
def appB (b : List UInt8) (l : List Ed) : List UInt8 := if isOf b l then app b l else []
def appE (b : List UInt8) (l : List Ed) : Nat := if isOf b l then 0 else 50
theorem isOf_iff {b : List UInt8} {l : List Ed} : isOf b l = true ↔ szF l = b.length ∧ allRt l = true := by simp [isOf]
theorem isOf_no {b : List UInt8} {l : List Ed} (h : szF l ≠ b.length ∨ allRt l = false) : isOf b l = false := by
  unfold isOf
  rcases h with h | h
  · simp [h]
  · simp [h]
theorem app_two {b : List UInt8} {l : List Ed} {x : Ed} (h : x.k = 2) : app b (x :: l) = x.s ++ app b l := by simp [app, h]
theorem app_one {b : List UInt8} {l : List Ed} {x : Ed} (h : x.k = 1) : app b (x :: l) = b.take x.n.toNat ++ app (b.drop x.n.toNat) l := by simp [app, h]
theorem app_del {b : List UInt8} {l : List Ed} {x : Ed} (h : x.k ≠ 2) (h' : x.k ≠ 1) : app b (x :: l) = app (b.drop x.n.toNat) l := by simp [app, h, h']
theorem app_len : ∀ (l : List Ed) (b : List UInt8), allRt l = true → szF l = b.length → (app b l).length = szT l
  | [], b, _, _ => by simp [app, szT]
  | x :: l, b, h, hb => by
    simp only [allRt, List.all_cons, Bool.and_eq_true] at h
    obtain ⟨hx, hl⟩ := h
    have hf : frN x = x.n.toNat := by unfold frN; rw [if_pos hx]
    simp only [szF] at hb
    rcases rt_cases hx with ⟨h2, hn, _⟩ | ⟨h13, h2, hn, _, hs⟩
    · rw [app_two h2, List.length_append, app_len l b hl (by omega)]
      have : toN x = x.s.length := by unfold toN; rw [if_pos hx, if_neg (by rw [h2]; decide)]; omega
      simp only [szT]
      omega
    · have ih := app_len l (b.drop x.n.toNat) hl (by rw [List.length_drop]; omega)
      rcases h13 with h1 | h3
      · rw [app_one h1, List.length_append, ih, List.length_take]
        have : toN x = x.n.toNat := by unfold toN; rw [if_pos hx, if_neg (by rw [h1]; decide), hs]; rfl
        simp only [szT]
        omega
      · rw [app_del h2 (by rw [h3]; decide), ih]
        have : toN x = 0 := by unfold toN; rw [if_pos hx, if_pos h3]
        simp only [szT]
        omega

/-! ### normal ones -/
def eR (n : Nat) : Ed := ⟨1, n, []⟩
def eI (s : List UInt8) : Ed := ⟨2, 0, s⟩
def eD (n : Nat) : Ed := ⟨3, n, []⟩
/-- A run, as edits. -/
def flush (st : Nat) (cm : List UInt8) (go : Nat) : List Ed := (if 0 < st then [eR st] else []) ++ ((if cm ≠ [] then [eI cm] else []) ++ (if 0 < go then [eD go] else []))
def nrm : Nat → List UInt8 → Nat → List Ed → List Ed
  | st, cm, go, [] => flush st cm go
  | st, cm, go, x :: l =>
    if x.k = 2 then nrm st (cm ++ x.s) go l
    else if x.k = 3 then nrm st cm (go + x.n.toNat) l
    else if cm ≠ [] ∨ 0 < go then flush st cm go ++ nrm x.n.toNat [] 0 l
    else nrm (st + x.n.toNat) cm go l
def norm (l : List Ed) : List Ed := nrm 0 [] 0 l
/-- Edits of a kind with what they should have, whatever the greatest N. -/
def wr (x : Ed) : Prop := (x.k = 2 ∧ x.n = 0 ∧ x.s ≠ []) ∨ (x.k = 1 ∧ 1 ≤ x.n ∧ x.s = []) ∨ (x.k = 3 ∧ 1 ≤ x.n ∧ x.s = [])
def wrs (l : List Ed) : Prop := ∀ x ∈ l, wr x
theorem wr_of_rt {x : Ed} (h : rt x = true) : wr x := by
  rcases rt_cases h with h | ⟨h1 | h1, _, h2, _, h3⟩
  · exact .inl h
  · exact .inr (.inl ⟨h1, h2, h3⟩)
  · exact .inr (.inr ⟨h1, h2, h3⟩)
theorem wrs_of_all {l : List Ed} (h : allRt l = true) : wrs l := fun x hx => wr_of_rt (List.all_eq_true.1 h x hx)
theorem rt_of_wr {x : Ed} (h : wr x) (hn : x.n ≤ 2147483647) : rt x = true := by
  rcases h with ⟨h1, h2, h3⟩ | ⟨h1, h2, h3⟩ | ⟨h1, h2, h3⟩
  · rw [rt_two h1]; simp [h2, h3]
  · rw [rt_not (by rw [h1]; decide)]; simp [h1, h2, h3, hn]
  · rw [rt_not (by rw [h1]; decide)]; simp [h1, h2, h3, hn]
theorem wr_n {x : Ed} (h : wr x) : 0 ≤ x.n := by
  rcases h with ⟨h1, h2, h3⟩ | ⟨h1, h2, h3⟩ | ⟨h1, h2, h3⟩ <;> omega
/-- The first two that may be brought together, or changed about, are. -/
def mg : List Ed → Option (List Ed)
  | a :: b :: l => if a.k = b.k then some (⟨a.k, a.n + b.n, a.s ++ b.s⟩ :: l) else if a.k = 3 ∧ b.k = 2 then some (b :: a :: l) else (mg (b :: l)).map (a :: ·)
  | _ => none
theorem mg_eq {a b : Ed} {l : List Ed} (h : a.k = b.k) : mg (a :: b :: l) = some (⟨a.k, a.n + b.n, a.s ++ b.s⟩ :: l) := by simp [mg, h]
theorem mg_swap {a b : Ed} {l : List Ed} (h : a.k = 3) (h' : b.k = 2) : mg (a :: b :: l) = some (b :: a :: l) := by simp [mg, h, h']
theorem mg_on {a b : Ed} {l : List Ed} (h : a.k ≠ b.k) (h' : ¬ (a.k = 3 ∧ b.k = 2)) : mg (a :: b :: l) = (mg (b :: l)).map (a :: ·) := by rw [mg, if_neg h, if_neg h']
/-- What holds for two that are brought together, and for two that are changed about, holds for a row with them: for what is put ahead. -/
theorem mg_ind {P : List Ed → List Ed → Prop} (he : ∀ a b l, a.k = b.k → P (a :: b :: l) (⟨a.k, a.n + b.n, a.s ++ b.s⟩ :: l)) (hs : ∀ a b l, a.k = 3 → b.k = 2 → P (a :: b :: l) (b :: a :: l)) (hc : ∀ a l l', P l l' → P (a :: l) (a :: l')) :
    ∀ {l l' : List Ed}, mg l = some l' → P l l'
  | [], _, h => by simp [mg] at h
  | [a], _, h => by simp [mg] at h
  | a :: b :: l, l', h => by
    by_cases h1 : a.k = b.k
    · rw [mg_eq h1] at h
      injection h with h
      subst h
      exact he a b l h1
    · by_cases h2 : a.k = 3 ∧ b.k = 2
      · rw [mg_swap h2.1 h2.2] at h
        injection h with h
        subst h
        exact hs a b l h2.1 h2.2
      · rw [mg_on h1 h2] at h
        cases hm : mg (b :: l) with
        | none => rw [hm] at h; simp at h
        | some m =>
          rw [hm] at h
          simp only [Option.map_some, Option.some.injEq] at h
          subst h
          exact hc a _ _ (mg_ind he hs hc hm)
theorem mg_wrs {l l' : List Ed} (h : mg l = some l') : wrs l → wrs l' := by
  refine mg_ind (P := fun l l' => wrs l → wrs l') ?_ ?_ ?_ h
  · intro a b l hk hw x hx
    rcases List.mem_cons.1 hx with rfl | hx
    · have ha := hw a (by simp)
      have hb := hw b (by simp)
      rcases ha with ⟨h1, h2, h3⟩ | ⟨h1, h2, h3⟩ | ⟨h1, h2, h3⟩ <;> rcases hb with ⟨g1, g2, g3⟩ | ⟨g1, g2, g3⟩ | ⟨g1, g2, g3⟩
      all_goals first
        | (exfalso; rw [h1, g1] at hk; revert hk; decide)
        | exact .inl ⟨h1, by simp only; omega, by simp [h3]⟩
        | exact .inr (.inl ⟨h1, by simp only; omega, by simp [h3, g3]⟩)
        | exact .inr (.inr ⟨h1, by simp only; omega, by simp [h3, g3]⟩)
    · exact hw x (by simp [hx])
  · intro a b l _ _ hw x hx
    exact hw x (by simp only [List.mem_cons] at hx ⊢; rcases hx with h | h | h <;> simp [h])
  · intro a l l' ih hw x hx
    rcases List.mem_cons.1 hx with rfl | hx
    · exact hw _ (by simp)
    · exact ih (fun y hy => hw y (by simp [hy])) x hx
theorem toNat_add {a b : Int} (ha : 0 ≤ a) (hb : 0 ≤ b) : (a + b).toNat = a.toNat + b.toNat := by omega
theorem mg_nrm {l l' : List Ed} (h : mg l = some l') : wrs l → ∀ st cm go, nrm st cm go l' = nrm st cm go l := by
  refine mg_ind (P := fun l l' => wrs l → ∀ st cm go, nrm st cm go l' = nrm st cm go l) ?_ ?_ ?_ h
  · intro a b l hk hw st cm go
    have ha := wr_n (hw a (by simp))
    have hb := wr_n (hw b (by simp))
    have e := toNat_add ha hb
    by_cases h2 : a.k = 2
    · simp only [nrm, if_pos h2, if_pos (hk ▸ h2 : b.k = 2), List.append_assoc]
    · by_cases h3 : a.k = 3
      · simp only [nrm, if_neg h2, if_neg (hk ▸ h2 : ¬ b.k = 2), if_pos h3, if_pos (hk ▸ h3 : b.k = 3), e, Nat.add_assoc]
      · simp only [nrm, if_neg h2, if_neg (hk ▸ h2 : ¬ b.k = 2), if_neg h3, if_neg (hk ▸ h3 : ¬ b.k = 3), e]
        by_cases hc : cm ≠ [] ∨ 0 < go
        · simp [if_pos hc]
        · simp [if_neg hc, Nat.add_assoc]
  · intro a b l h3 h2 hw st cm go
    have e3 : ¬ a.k = 2 := by rw [h3]; decide
    simp only [nrm, if_pos h2, if_neg e3, if_pos h3]
  · intro a l l' ih hw st cm go
    have ih' := ih (fun y hy => hw y (by simp [hy]))
    simp only [nrm, ih']
theorem mg_app {l l' : List Ed} (h : mg l = some l') : wrs l → ∀ b, app b l' = app b l := by
  refine mg_ind (P := fun l l' => wrs l → ∀ b, app b l' = app b l) ?_ ?_ ?_ h
  · intro a b l hk hw t
    have ha := wr_n (hw a (by simp))
    have hb := wr_n (hw b (by simp))
    have e := toNat_add ha hb
    by_cases h2 : a.k = 2
    · simp only [app, if_pos h2, if_pos (hk ▸ h2 : b.k = 2), List.append_assoc]
    · by_cases h1 : a.k = 1
      · simp only [app, if_neg h2, if_neg (hk ▸ h2 : ¬ b.k = 2), if_pos h1, if_pos (hk ▸ h1 : b.k = 1), e, List.take_add, List.drop_drop, List.append_assoc]
      · simp only [app, if_neg h2, if_neg (hk ▸ h2 : ¬ b.k = 2), if_neg h1, if_neg (hk ▸ h1 : ¬ b.k = 1), e, List.drop_drop]
  · intro a b l h3 h2 hw t
    have e3 : ¬ a.k = 2 := by rw [h3]; decide
    have e1 : ¬ a.k = 1 := by rw [h3]; decide
    simp only [app, if_pos h2, if_neg e3, if_neg e1]
  · intro a l l' ih hw t
    have ih' := ih (fun y hy => hw y (by simp [hy]))
    simp only [app, ih']
theorem mg_len {l l' : List Ed} (h : mg l = some l') : l'.length ≤ l.length := by
  refine mg_ind (P := fun l l' => l'.length ≤ l.length) ?_ ?_ ?_ h
  · intro a b l _; simp
  · intro a b l _ _; simp
  · intro a l l' ih; simpa using ih
/-- The Ns together, and the Ns of Retains and Deletes. -/
def sumN : List Ed → Nat
  | [] => 0
  | x :: l => x.n.toNat + sumN l
def sumT : List Ed → Nat
  | [] => 0
  | x :: l => (if x.k = 3 then 0 else x.n.toNat + x.s.length) + sumT l
theorem mg_sumN {l l' : List Ed} (h : mg l = some l') : wrs l → sumN l' = sumN l := by
  refine mg_ind (P := fun l l' => wrs l → sumN l' = sumN l) ?_ ?_ ?_ h
  · intro a b l _ hw
    have e := toNat_add (wr_n (hw a (by simp))) (wr_n (hw b (by simp)))
    simp only [sumN, e]
    omega
  · intro a b l _ _ hw; simp only [sumN]; omega
  · intro a l l' ih hw
    have ih' := ih (fun y hy => hw y (by simp [hy]))
    simp only [sumN, ih']
theorem mg_sumT {l l' : List Ed} (h : mg l = some l') : wrs l → sumT l' = sumT l := by
  refine mg_ind (P := fun l l' => wrs l → sumT l' = sumT l) ?_ ?_ ?_ h
  · intro a b l hk hw
    have e := toNat_add (wr_n (hw a (by simp))) (wr_n (hw b (by simp)))
    simp only [sumT, e, List.length_append]
    by_cases h3 : a.k = 3
    · rw [if_pos h3, if_pos h3, if_pos (hk ▸ h3)]; omega
    · rw [if_neg h3, if_neg h3, if_neg (hk ▸ h3)]; omega
  · intro a b l _ _ hw; simp only [sumT]; omega
  · intro a l l' ih hw
    have ih' := ih (fun y hy => hw y (by simp [hy]))
    simp only [sumT, ih']
/-- What grows less. -/
def mu : Nat → List Ed → Nat
  | _, [] => 0
  | i, x :: l => 1 + (if x.k = 2 then i + 1 else 0) + mu (i + 1) l
theorem mu_mono : ∀ (l : List Ed) (i : Nat), mu i l ≤ mu (i + 1) l
  | [], _ => by simp [mu]
  | x :: l, i => by
    have := mu_mono l (i + 1)
    simp only [mu]
    split <;> omega
theorem mg_mu {l l' : List Ed} (h : mg l = some l') : ∀ i, mu i l' < mu i l := by
  refine mg_ind (P := fun l l' => ∀ i, mu i l' < mu i l) ?_ ?_ ?_ h
  · intro a b l hk i
    have := mu_mono l (i + 1)
    simp only [mu]
    by_cases h2 : a.k = 2
    · rw [if_pos h2, if_pos (hk ▸ h2)]; omega
    · rw [if_neg h2, if_neg (hk ▸ h2)]; omega
  · intro a b l h3 h2 i
    have e3 : ¬ a.k = 2 := by rw [h3]; decide
    simp only [mu, if_pos h2, if_neg e3]
    omega
  · intro a l l' ih i
    have := ih (i + 1)
    simp only [mu]
    omega
/-- Where nothing may be brought together any more. -/
theorem irr_tail {x : Ed} {l : List Ed} (h : mg (x :: l) = none) : mg l = none := by
  cases l with
  | nil => rfl
  | cons b l =>
    by_cases h1 : x.k = b.k
    · rw [mg_eq h1] at h; cases h
    · by_cases h2 : x.k = 3 ∧ b.k = 2
      · rw [mg_swap h2.1 h2.2] at h; cases h
      · rw [mg_on h1 h2] at h
        simpa using h
theorem irr_app : ∀ (a : List Ed) {l : List Ed}, mg (a ++ l) = none → mg l = none
  | [], _, h => h
  | _ :: a, _, h => irr_app a (irr_tail (l := a ++ _) h)
theorem irr_two {a b : Ed} {l : List Ed} (h : mg (a :: b :: l) = none) : a.k ≠ b.k ∧ ¬ (a.k = 3 ∧ b.k = 2) := by
  refine ⟨fun h1 => ?_, fun h2 => ?_⟩
  · rw [mg_eq h1] at h; cases h
  · rw [mg_swap h2.1 h2.2] at h; cases h
theorem irr_at (p : List Ed) {a b : Ed} {l : List Ed} (h : mg (p ++ a :: b :: l) = none) : a.k ≠ b.k ∧ ¬ (a.k = 3 ∧ b.k = 2) := irr_two (irr_app p h)
theorem flush_go {st : Nat} {cm : List UInt8} {go : Nat} (h : 0 < go) : flush st cm go = flush st cm 0 ++ [eD go] := by simp [flush, h]
theorem flush_cm {st : Nat} {cm : List UInt8} (h : cm ≠ []) : flush st cm 0 = flush st [] 0 ++ [eI cm] := by simp [flush, h]
theorem flush_st {st : Nat} (h : 0 < st) : flush st [] 0 = [eR st] := by simp [flush, h]
theorem eI_of {x : Ed} (h : x.k = 2) (hn : x.n = 0) : eI x.s = x := by
  obtain ⟨k, n, s⟩ := x
  simp only at h hn
  subst h hn
  rfl
theorem eR_of {x : Ed} (h : x.k = 1) (hn : 1 ≤ x.n) (hs : x.s = []) : eR x.n.toNat = x := by
  obtain ⟨k, n, s⟩ := x
  simp only at h hn hs
  subst h hs
  simp only [eR, Ed.mk.injEq, and_true, true_and]
  omega
theorem eD_of {x : Ed} (h : x.k = 3) (hn : 1 ≤ x.n) (hs : x.s = []) : eD x.n.toNat = x := by
  obtain ⟨k, n, s⟩ := x
  simp only at h hn hs
  subst h hs
  simp only [eD, Ed.mk.injEq, and_true, true_and]
  omega
theorem nrm_irr : ∀ (l : List Ed) (st : Nat) (cm : List UInt8) (go : Nat), wrs l → mg (flush st cm go ++ l) = none → nrm st cm go l = flush st cm go ++ l
  | [], st, cm, go, _, _ => by simp [nrm]
  | x :: l, st, cm, go, hw, h => by
    have hwl : wrs l := fun y hy => hw y (by simp [hy])
    rcases hw x (by simp) with ⟨h2, hn, hs⟩ | ⟨h1, hn, hs⟩ | ⟨h3, hn, hs⟩
    · have hg : go = 0 := by
        rcases Nat.eq_zero_or_pos go with h0 | h0
        · exact h0
        · rw [flush_go h0, List.append_assoc] at h
          exact absurd ⟨rfl, h2⟩ (irr_at _ h).2
      subst hg
      have hc : cm = [] := by
        by_cases h0 : cm = []
        · exact h0
        · rw [flush_cm h0, List.append_assoc] at h
          exact absurd h2.symm (irr_at _ h).1
      subst hc
      have e : flush st x.s 0 ++ l = flush st [] 0 ++ x :: l := by rw [flush_cm hs, eI_of h2 hn, List.append_assoc]; rfl
      rw [nrm, if_pos h2, List.nil_append, nrm_irr l st x.s 0 hwl (by rw [e]; exact h), e]
    · have e2 : ¬ x.k = 2 := by rw [h1]; decide
      have e3 : ¬ x.k = 3 := by rw [h1]; decide
      have e : flush x.n.toNat [] 0 ++ l = x :: l := by rw [flush_st (by omega), eR_of h1 hn hs]; rfl
      rw [nrm, if_neg e2, if_neg e3]
      by_cases hc : cm ≠ [] ∨ 0 < go
      · rw [if_pos hc, nrm_irr l x.n.toNat [] 0 hwl (by rw [e]; exact irr_app _ h), e]
      · rw [if_neg hc]
        have hcm : cm = [] := by
          by_cases h0 : cm = []
          · exact h0
          · exact absurd (Or.inl h0) hc
        have hgo : go = 0 := by omega
        subst hcm hgo
        have hst : st = 0 := by
          rcases Nat.eq_zero_or_pos st with h0 | h0
          · exact h0
          · rw [flush_st h0] at h
            exact absurd h1.symm (irr_at [] h).1
        subst hst
        have e0 : flush 0 [] 0 = [] := by simp [flush]
        rw [Nat.zero_add, nrm_irr l x.n.toNat [] 0 hwl (by rw [e]; exact irr_app _ h), e, e0]
        rfl
    · have e2 : ¬ x.k = 2 := by rw [h3]; decide
      have hg : go = 0 := by
        rcases Nat.eq_zero_or_pos go with h0 | h0
        · exact h0
        · rw [flush_go h0, List.append_assoc] at h
          exact absurd h3.symm (irr_at _ h).1
      subst hg
      have e : flush st cm x.n.toNat ++ l = flush st cm 0 ++ x :: l := by rw [flush_go (by omega), eD_of h3 hn hs, List.append_assoc]; rfl
      rw [nrm, if_neg e2, if_pos h3, Nat.zero_add, nrm_irr l st cm x.n.toNat hwl (by rw [e]; exact h), e]
theorem norm_irr {l : List Ed} (hw : wrs l) (h : mg l = none) : norm l = l := nrm_irr l 0 [] 0 hw (by simpa [flush] using h)
/-- Whatever stays when two are brought together, or changed about, holds of the normal one; there nothing may be brought together. -/
theorem norm_ind {P : List Ed → Prop} (hP : ∀ l l', wrs l → P l → mg l = some l' → P l') : ∀ (m : Nat) (l : List Ed), mu 0 l ≤ m → wrs l → P l → P (norm l) ∧ mg (norm l) = none ∧ wrs (norm l)
  | 0, l, hm, hw, h => by
    have : l = [] := by
      cases l with
      | nil => rfl
      | cons x l => simp only [mu] at hm; omega
    subst this
    exact ⟨h, rfl, hw⟩
  | m + 1, l, hm, hw, h => by
    cases hg : mg l with
    | none => rw [norm_irr hw hg]; exact ⟨h, hg, hw⟩
    | some l' =>
      have e : norm l' = norm l := mg_nrm hg hw 0 [] 0
      have hlt := mg_mu hg 0
      have := norm_ind hP m l' (by omega) (mg_wrs hg hw) (hP l l' hw h hg)
      rwa [e] at this
theorem norm_all {P : List Ed → Prop} (hP : ∀ l l', wrs l → P l → mg l = some l' → P l') {l : List Ed} (hw : wrs l) (h : P l) : P (norm l) := (norm_ind hP _ l (Nat.le_refl _) hw h).1
theorem norm_wrs {l : List Ed} (hw : wrs l) : wrs (norm l) := (norm_ind (P := fun _ => True) (fun _ _ _ _ _ => trivial) _ l (Nat.le_refl _) hw trivial).2.2
theorem norm_none {l : List Ed} (hw : wrs l) : mg (norm l) = none := (norm_ind (P := fun _ => True) (fun _ _ _ _ _ => trivial) _ l (Nat.le_refl _) hw trivial).2.1
theorem norm_norm {l : List Ed} (hw : wrs l) : norm (norm l) = norm l := norm_irr (norm_wrs hw) (norm_none hw)
theorem norm_app {l : List Ed} (hw : wrs l) (b : List UInt8) : app b (norm l) = app b l :=
  norm_all (P := fun m => app b m = app b l) (fun _ _ hw h hg => (mg_app hg hw b).trans h) hw rfl
theorem norm_len {l : List Ed} (hw : wrs l) : (norm l).length ≤ l.length :=
  norm_all (P := fun m => m.length ≤ l.length) (fun _ _ _ h hg => Nat.le_trans (mg_len hg) h) hw (Nat.le_refl _)
theorem norm_sumN {l : List Ed} (hw : wrs l) : sumN (norm l) = sumN l :=
  norm_all (P := fun m => sumN m = sumN l) (fun _ _ hw h hg => (mg_sumN hg hw).trans h) hw rfl
theorem norm_sumT {l : List Ed} (hw : wrs l) : sumT (norm l) = sumT l :=
  norm_all (P := fun m => sumT m = sumT l) (fun _ _ hw h hg => (mg_sumT hg hw).trans h) hw rfl
theorem szF_sum : ∀ {l : List Ed}, allRt l = true → szF l = sumN l
  | [], _ => rfl
  | x :: l, h => by
    simp only [allRt, List.all_cons, Bool.and_eq_true] at h
    simp only [szF, sumN, szF_sum h.2, frN, if_pos h.1]
theorem szT_sum : ∀ {l : List Ed}, allRt l = true → szT l = sumT l
  | [], _ => rfl
  | x :: l, h => by
    simp only [allRt, List.all_cons, Bool.and_eq_true] at h
    simp only [szT, sumT, szT_sum h.2, toN, if_pos h.1]
/-- Normal's answer. -/
def nrmE (l : List Ed) : Nat := if allRt l then (if allRt (norm l) then 0 else 3) else 2
def nrmL (l : List Ed) : List Ed := if nrmE l = 0 then norm l else []
theorem nrmE_ok {l : List Ed} (h : nrmE l = 0) : allRt l = true ∧ allRt (norm l) = true := by
  unfold nrmE at h
  split at h
  · split at h
    · exact ⟨‹_›, ‹_›⟩
    · omega
  · omega
theorem norm_isOf {l : List Ed} (h : nrmE l = 0) (b : List UInt8) : isOf b (norm l) = isOf b l := by
  obtain ⟨h1, h2⟩ := nrmE_ok h
  unfold isOf
  rw [h1, h2, szF_sum h1, szF_sum h2, norm_sumN (wrs_of_all h1)]
theorem norm_appB {l : List Ed} (h : nrmE l = 0) (b : List UInt8) : appB b (norm l) = appB b l := by
  unfold appB
  rw [norm_isOf h, norm_app (wrs_of_all (nrmE_ok h).1)]
theorem norm_appE {l : List Ed} (h : nrmE l = 0) (b : List UInt8) : appE b (norm l) = appE b l := by
  unfold appE
  rw [norm_isOf h]
theorem norm_szF {l : List Ed} (h : nrmE l = 0) : szF (norm l) = szF l := by
  obtain ⟨h1, h2⟩ := nrmE_ok h
  rw [szF_sum h1, szF_sum h2, norm_sumN (wrs_of_all h1)]
theorem norm_szT {l : List Ed} (h : nrmE l = 0) : szT (norm l) = szT l := by
  obtain ⟨h1, h2⟩ := nrmE_ok h
  rw [szT_sum h1, szT_sum h2, norm_sumT (wrs_of_all h1)]
theorem norm_twice {l : List Ed} (h : nrmE l = 0) : nrmE (norm l) = 0 ∧ nrmL (norm l) = norm l := by
  obtain ⟨h1, h2⟩ := nrmE_ok h
  have e := norm_norm (wrs_of_all h1)
  have h0 : nrmE (norm l) = 0 := by unfold nrmE; rw [e, if_pos h2, if_pos h2]
  exact ⟨h0, by unfold nrmL; rw [if_pos h0, e]⟩

/-! ### written -/
def encE (x : Ed) : List UInt8 := x.k :: (if x.k = 2 then enc x.s.length ++ x.s else enc x.n.toNat)
def encEs (l : List Ed) : List UInt8 := l.flatMap encE
def putE (l : List Ed) : Nat := if allRt l then 0 else 2
def putB (l : List Ed) : List UInt8 := if allRt l then encEs l else []
theorem encEs_snoc {l : List Ed} {k : Nat} {x : Ed} (hx : Hid (l[k]? = some x)) : encEs (l.take (k + 1)) = encEs (l.take k) ++ encE x := by
  unfold encEs
  rw [take_snoc hx, List.flatMap_append, List.flatMap_singleton]
theorem encE_len {x : Ed} (h : rt x = true) (hs : x.s.length < 1099511627776) : (encE x).length ≤ 11 + x.s.length := by
  unfold encE
  have h1 := rt_n h
  have h2 := sz_10 (n := x.s.length) (by omega)
  have h3 := sz_10 (n := x.n.toNat) (by omega)
  unfold sz at h2 h3
  split
  · simp only [List.length_cons, List.length_append]; omega
  · simp only [List.length_cons]; omega
theorem encEs_len : ∀ {l : List Ed}, allRt l = true → (∀ x ∈ l, x.s.length ≤ 1099511627) → (encEs l).length ≤ 1099511638 * l.length
  | [], _, _ => by simp [encEs]
  | x :: l, h, hs => by
    simp only [allRt, List.all_cons, Bool.and_eq_true] at h
    have h1 := encEs_len (l := l) h.2 (fun y hy => hs y (by simp [hy]))
    have h2 := hs x (by simp)
    have h3 := encE_len h.1 (by omega)
    unfold encEs at h1 ⊢
    simp only [List.flatMap_cons, List.length_append, List.length_cons]
    omega
theorem encEs_take_le {l : List Ed} (h : allRt l = true) (hs : ∀ x ∈ l, x.s.length ≤ 1099511627) (k : Nat) : (encEs (l.take k)).length ≤ 1099511638 * l.length := by
  have h1 : allRt (l.take k) = true := by
    unfold allRt at *
    rw [List.all_eq_true] at *
    exact fun x hx => h x (List.mem_of_mem_take hx)
  have h2 := encEs_len h1 (fun x hx => hs x (List.mem_of_mem_take hx))
  have h3 : (l.take k).length ≤ l.length := List.length_take_le' _ _
  have : 1099511638 * (l.take k).length ≤ 1099511638 * l.length := Nat.mul_le_mul_left _ h3
  omega

/-! ### taken -/
/-- The edit whose kind stands at a place: it, the place behind it, the error. -/
def tkE (b : List UInt8) (p : Nat) : Ed × Int × Nat :=
  if b[p]?.getD 0 = 2 then
    ((⟨2, 0, (takeText b ((p : Int) + 1)).1⟩ : Ed), (takeText b ((p : Int) + 1)).2.1, if (takeText b ((p : Int) + 1)).2.2 = 0 ∧ rt ⟨2, 0, (takeText b ((p : Int) + 1)).1⟩ = false then 2 else (takeText b ((p : Int) + 1)).2.2)
  else if b[p]?.getD 0 = 1 ∨ b[p]?.getD 0 = 3 then
    ((⟨b[p]?.getD 0, ((min (take b ((p : Int) + 1)).1 2147483648 : Nat) : Int), []⟩ : Ed), (take b ((p : Int) + 1)).2.1, if (take b ((p : Int) + 1)).2.2 = 0 ∧ rt ⟨b[p]?.getD 0, ((min (take b ((p : Int) + 1)).1 2147483648 : Nat) : Int), []⟩ = false then 2 else (take b ((p : Int) + 1)).2.2)
  else (Ed.zero, 0, 60)
def parF (b : List UInt8) : Nat → Nat → List Ed × Nat
  | 0, _ => ([], 0)
  | f + 1, p => if p < b.length then (if (tkE b p).2.2 = 0 then (if (parF b f (tkE b p).2.1.toNat).2 = 0 then ((tkE b p).1 :: (parF b f (tkE b p).2.1.toNat).1, 0) else ([], (parF b f (tkE b p).2.1.toNat).2)) else ([], (tkE b p).2.2)) else ([], 0)
/-- Parse's answer. -/
def par (b : List UInt8) : List Ed × Nat := parF b b.length 0
/-- .. with what is there already. -/
def fin (acc : List Ed) (r : List Ed × Nat) : List Ed × Nat := if r.2 = 0 then (acc ++ r.1, 0) else ([], r.2)
theorem fin_nil (b : List UInt8) (f p : Nat) : fin [] (parF b f p) = parF b f p := by
  unfold fin
  split
  · rename_i h
    rw [List.nil_append, ← h]
  · rename_i h
    cases f with
    | zero => simp [parF] at h
    | succ f =>
      simp only [parF] at h ⊢
      repeat' split
      all_goals first
        | rfl
        | (exfalso; simp_all)
theorem fin_on {b : List UInt8} {f p : Nat} {acc : List Ed} {x : Ed} {nx : Nat} (hp : p < b.length) (ht : tkE b p = (x, (nx : Int), 0)) : fin acc (parF b (f + 1) p) = fin (acc ++ [x]) (parF b f nx) := by
  unfold fin
  simp only [parF, if_pos hp, ht, Int.toNat_natCast, if_true]
  by_cases h : (parF b f nx).2 = 0
  · simp [h]
  · simp [h]
theorem fin_err {b : List UInt8} {f p : Nat} {acc : List Ed} {x : Ed} {nx : Int} {e : Nat} (hp : p < b.length) (ht : tkE b p = (x, nx, e)) (he : e ≠ 0) : fin acc (parF b (f + 1) p) = ([], e) := by
  unfold fin
  simp only [parF, if_pos hp, ht, if_neg he]
theorem fin_end {b : List UInt8} {f p : Nat} {acc : List Ed} (hp : b.length ≤ p) : fin acc (parF b f p) = (acc, 0) := by
  unfold fin
  cases f with
  | zero => simp [parF]
  | succ f => simp [parF, Nat.not_lt.2 hp]
/-- What is taken is right, lies behind, and stands there. -/
theorem tkE_ok {b : List UInt8} {p : Nat} (hp : p < b.length) (h : (tkE b p).2.2 = 0) :
    ∃ nx : Nat, (tkE b p).2.1 = (nx : Int) ∧ p < nx ∧ nx ≤ b.length ∧ rt (tkE b p).1 = true ∧ encE (tkE b p).1 = (b.drop p).take (nx - p) ∧ (tkE b p).1.s.length ≤ b.length := by
  have hcons : ∀ m, (b.drop p).take (m + 1) = b[p]?.getD 0 :: (b.drop (p + 1)).take m := by
    intro m
    rw [List.drop_eq_getElem_cons hp, List.take_succ_cons, List.getElem?_eq_getElem hp]
    rfl
  have e1 : ((p : Int) + 1).toNat = p + 1 := by omega
  unfold tkE at h ⊢
  by_cases h2 : b[p]?.getD 0 = 2
  · rw [if_pos h2] at h ⊢
    simp only at h ⊢
    have ht : (takeText b ((p : Int) + 1)).2.2 = 0 := by
      split at h
      · omega
      · exact h
    have hr : rt ⟨2, 0, (takeText b ((p : Int) + 1)).1⟩ = true := by
      cases hq : rt ⟨2, 0, (takeText b ((p : Int) + 1)).1⟩ with
      | true => rfl
      | false => rw [if_pos ⟨ht, hq⟩] at h; omega
    have h0 : (take b ((p : Int) + 1)).2.2 = 0 := by
      by_cases h0 : (take b ((p : Int) + 1)).2.2 = 0
      · exact h0
      · unfold takeText at ht
        rw [if_pos h0] at ht
        exact absurd ht h0
    obtain ⟨_, _, k, hk0, hk, hkl, he⟩ := take_ok h0
    rw [e1] at he
    have hs : ¬ (b.length : Int) - (take b ((p : Int) + 1)).2.1 < (take b ((p : Int) + 1)).1 := by
      intro hs
      unfold takeText at ht
      rw [if_neg (by omega), if_pos hs] at ht
      simp at ht
    have htt : takeText b ((p : Int) + 1) = ((b.drop (take b ((p : Int) + 1)).2.1.toNat).take (take b ((p : Int) + 1)).1, (take b ((p : Int) + 1)).2.1 + (take b ((p : Int) + 1)).1, 0) := by
      unfold takeText
      rw [if_neg (by omega), if_neg hs]
    rw [htt] at hr ⊢
    simp only at hr ⊢
    have hF : (take b ((p : Int) + 1)).2.1.toNat = p + 1 + k := by omega
    generalize hn : (take b ((p : Int) + 1)).1 = n at *
    rw [hF] at hr ⊢
    have hlen : ((b.drop (p + 1 + k)).take n).length = n := by rw [List.length_take, List.length_drop]; omega
    refine ⟨p + 1 + k + n, by omega, by omega, by omega, hr, ?_, by rw [hlen]; omega⟩
    unfold encE
    simp only [if_true]
    rw [hlen, show p + 1 + k + n - p = (k + n) + 1 by omega, hcons, h2, he, List.take_add, List.drop_drop]
  · rw [if_neg h2] at h ⊢
    by_cases h13 : b[p]?.getD 0 = 1 ∨ b[p]?.getD 0 = 3
    · rw [if_pos h13] at h ⊢
      simp only at h ⊢
      have ht : (take b ((p : Int) + 1)).2.2 = 0 := by
        split at h
        · omega
        · exact h
      have hr : rt ⟨b[p]?.getD 0, ((min (take b ((p : Int) + 1)).1 2147483648 : Nat) : Int), []⟩ = true := by
        cases hq : rt ⟨b[p]?.getD 0, ((min (take b ((p : Int) + 1)).1 2147483648 : Nat) : Int), []⟩ with
        | true => rfl
        | false => rw [if_pos ⟨ht, hq⟩] at h; omega
      obtain ⟨_, _, k, hk0, hk, hkl, he⟩ := take_ok ht
      rw [e1] at he
      have hn := rt_n hr
      simp only at hn
      have hmin : min (take b ((p : Int) + 1)).1 2147483648 = (take b ((p : Int) + 1)).1 := by omega
      refine ⟨p + 1 + k, by omega, by omega, by omega, hr, ?_, by simp⟩
      unfold encE
      simp only [if_neg h2, Int.toNat_natCast]
      rw [hmin, he, show p + 1 + k - p = k + 1 by omega, hcons]
    · rw [if_neg h13] at h
      simp at h
theorem tkE_enc {b : List UInt8} {p : Nat} {x : Ed} {rest : List UInt8} (hx : rt x = true) (hs : x.s.length < 18446744073709551616) (h : b.drop p = encE x ++ rest) : tkE b p = (x, ((p + (encE x).length : Nat) : Int), 0) := by
  have hlen := congrArg List.length h
  have hpos : 0 < (encE x).length := by simp [encE]
  rw [List.length_drop, List.length_append] at hlen
  have hp : p < b.length := by omega
  have hk : b[p]?.getD 0 = x.k := by
    rw [List.drop_eq_getElem_cons hp] at h
    unfold encE at h
    simp only [List.cons_append, List.cons.injEq] at h
    rw [List.getElem?_eq_getElem hp, h.1]
    rfl
  have h1 : b.drop (p + 1) = (if x.k = 2 then enc x.s.length ++ x.s else enc x.n.toNat) ++ rest := by
    rw [← List.drop_drop, h]
    rfl
  have e1 : ((p : Int) + 1) = ((p + 1 : Nat) : Int) := by omega
  unfold tkE
  rw [hk, e1]
  rcases rt_cases hx with ⟨h2, hn, hne⟩ | ⟨h13, h2, hn, hm, hs0⟩
  · rw [if_pos h2] at h1
    rw [List.append_assoc] at h1
    have ht := takeText_enc (l := b) (p := p + 1) (s := x.s) (rest := rest) hs h1
    rw [if_pos h2, ht]
    have hr : rt ⟨2, 0, x.s⟩ = true := by rw [rt_two rfl]; simp [hne]
    simp only [hr, Prod.mk.injEq]
    refine ⟨?_, ?_, by simp⟩
    · obtain ⟨k, n, s⟩ := x
      simp only at h2 hn
      rw [h2, hn]
    · unfold encE
      rw [if_pos h2]
      simp only [List.length_cons, List.length_append, sz]
      omega
  · rw [if_neg h2] at h1
    have ht := take_enc (l := b) (p := p + 1) (n := x.n.toNat) (rest := rest) (by omega) h1
    rw [if_neg h2, if_pos h13, ht]
    have hmin : ((min x.n.toNat 2147483648 : Nat) : Int) = x.n := by omega
    have he : (⟨x.k, x.n, []⟩ : Ed) = x := by
      obtain ⟨k, n, s⟩ := x
      simp only at hs0
      rw [hs0]
    simp only [hmin, he, hx, Prod.mk.injEq]
    refine ⟨trivial, ?_, by simp⟩
    unfold encE
    rw [if_neg h2]
    simp only [List.length_cons, sz]
    omega
theorem fin_encs {b : List UInt8} : ∀ (l : List Ed) (p f : Nat) (acc : List Ed), allRt l = true → (∀ x ∈ l, x.s.length < 18446744073709551616) → b.drop p = encEs l → b.length ≤ p + f → p ≤ b.length → fin acc (parF b f p) = (acc ++ l, 0)
  | [], p, f, acc, _, _, h, _, hp => by
    have := congrArg List.length h
    rw [List.length_drop] at this
    rw [fin_end (by simp [encEs] at this; omega)]
    simp
  | x :: l, p, f, acc, ha, hs, h, hf, hp => by
    simp only [allRt, List.all_cons, Bool.and_eq_true] at ha
    have h' : b.drop p = encE x ++ encEs l := h
    have ht := tkE_enc ha.1 (hs x (by simp)) h'
    have hpos : 0 < (encE x).length := by simp [encE]
    have hlen := congrArg List.length h'
    rw [List.length_drop, List.length_append] at hlen
    obtain ⟨g, rfl⟩ : ∃ g, f = g + 1 := ⟨f - 1, by omega⟩
    rw [fin_on (by omega) ht, fin_encs l (p + (encE x).length) g (acc ++ [x]) ha.2 (fun y hy => hs y (by simp [hy])) (by rw [← List.drop_drop, h']; exact List.drop_left) (by omega) (by omega)]
    simp
/-- What is written is taken as it was. -/
theorem par_enc {l : List Ed} (ha : allRt l = true) (hs : ∀ x ∈ l, x.s.length < 18446744073709551616) : par (encEs l) = (l, 0) := by
  have := fin_encs (b := encEs l) l 0 (encEs l).length [] ha hs rfl (by omega) (by omega)
  rwa [fin_nil] at this
/-- What is taken is right, no more than the bytes are, and written as it was. -/
def ParOk (b : List UInt8) (p : Nat) (l : List Ed) : Prop := allRt l = true ∧ encEs l = b.drop p ∧ l.length ≤ b.length - p ∧ ∀ x ∈ l, x.s.length ≤ b.length
theorem parF_back {b : List UInt8} : ∀ (f p : Nat), b.length ≤ p + f → p ≤ b.length → (parF b f p).2 = 0 → ParOk b p (parF b f p).1
  | 0, p, hf, hp, _ => by
    refine ⟨rfl, ?_, by simp [parF], by simp [parF]⟩
    rw [List.drop_eq_nil_of_le (by omega)]
    rfl
  | f + 1, p, hf, hp, h => by
    by_cases hpb : p < b.length
    · simp only [parF, if_pos hpb] at h ⊢
      by_cases ht : (tkE b p).2.2 = 0
      · simp only [if_pos ht] at h ⊢
        obtain ⟨nx, hnx, h1, h2, h3, h4, h5⟩ := tkE_ok hpb ht
        rw [hnx, Int.toNat_natCast] at h ⊢
        by_cases hr : (parF b f nx).2 = 0
        · simp only [if_pos hr] at h ⊢
          obtain ⟨g1, g2, g3, g4⟩ := parF_back f nx (by omega) h2 hr
          refine ⟨?_, ?_, ?_, ?_⟩
          · unfold allRt at *
            simp [h3, g1]
          · have : encEs ((tkE b p).1 :: (parF b f nx).1) = encE (tkE b p).1 ++ encEs (parF b f nx).1 := rfl
            rw [this, g2, h4]
            have : b.drop nx = (b.drop p).drop (nx - p) := by rw [List.drop_drop]; congr 1; omega
            rw [this, List.take_append_drop]
          · simp only [List.length_cons]; omega
          · intro x hx
            rcases List.mem_cons.1 hx with rfl | hx
            · exact h5
            · exact g4 x hx
        · simp only [if_neg hr] at h
          exact absurd h hr
      · simp only [if_neg ht] at h
        exact absurd h ht
    · simp only [parF, if_neg hpb]
      refine ⟨rfl, ?_, by simp, by simp⟩
      rw [List.drop_eq_nil_of_le (by omega)]
      rfl
theorem par_back {b : List UInt8} (h : (par b).2 = 0) : ParOk b 0 (par b).1 := parF_back b.length 0 (by omega) (by omega) h
end Go.Proofs.Ytohgghaooppcoaa
