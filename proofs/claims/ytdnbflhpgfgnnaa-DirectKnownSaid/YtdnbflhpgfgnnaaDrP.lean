/- What DirectFails is about: states behind each call. Conditions: none. -/
import Derived.Test.YtdnbflhpgfgnnaaDrO
namespace Go.Proofs.Ytdnbflhpgfgnnaa
open Go.RowKit

/-- A call, Sync left out. -/
def St.step (s : St) (a : Ac) : St := if a.k % 6 = 3 then s else s.does1 a
def St.nb (s : St) (l : List Ac) : St := l.foldl St.step s
theorem St.nb_snoc (s : St) (l : List Ac) (a : Ac) : s.nb (l ++ [a]) = (s.nb l).step a := by simp [St.nb, List.foldl_append]
theorem St.add_or (s : St) (k : List UInt8) (n : Int) : (s.add k n).1 = s ∨ ∃ o, (s.add k n).1 = ⟨s.dur, s.ops ++ [o]⟩ := by
  unfold St.add
  split
  · exact .inl rfl
  · split
    · exact .inl rfl
    · exact .inr ⟨_, rfl⟩
theorem St.remove_or (s : St) (k : List UInt8) : (s.remove k).1 = s ∨ ∃ o, (s.remove k).1 = ⟨s.dur, s.ops ++ [o]⟩ := by
  unfold St.remove
  cases getE s.now k with
  | none => exact .inl rfl
  | some v => exact .inr ⟨_, rfl⟩
theorem St.step_or (s : St) (a : Ac) : s.step a = s ∨ ∃ o, s.step a = ⟨s.dur, s.ops ++ [o]⟩ := by
  unfold St.step
  split
  · exact .inl rfl
  · unfold St.does1
    split
    · exact s.add_or _ _
    · split
      · exact s.remove_or _
      · exact .inl rfl
theorem St.step_len (s : St) (a : Ac) : s.ops.length ≤ (s.step a).ops.length ∧ (s.step a).ops.length ≤ s.ops.length + 1 ∧ (s.step a).dur = s.dur ∧ s.ops <+: (s.step a).ops := by
  rcases s.step_or a with h | ⟨o, h⟩
  · rw [h]; exact ⟨Nat.le_refl _, by omega, rfl, List.prefix_refl _⟩
  · rw [h]; exact ⟨by simp, by simp, rfl, List.prefix_append _ _⟩
theorem St.nb_dur (s : St) : ∀ l : List Ac, (s.nb l).dur = s.dur := by
  intro l
  unfold St.nb
  induction l generalizing s with
  | nil => rfl
  | cons a l ih => rw [List.foldl_cons, ih]; exact (s.step_len a).2.2.1
theorem St.nb_take {s : St} {l : List Ac} {j : Nat} {a : Ac} (h : l[j]? = some a) : s.nb (l.take (j + 1)) = (s.nb (l.take j)).step a := by rw [take_snoc h, St.nb_snoc]
/-- Each number of operations was reached. -/
theorem St.nb_ex (s : St) (l : List Ac) : ∀ j, j ≤ l.length → ∀ T, s.ops.length ≤ T → T ≤ (s.nb (l.take j)).ops.length → ∃ i, i ≤ j ∧ (s.nb (l.take i)).ops = (s.nb (l.take j)).ops.take T
  | 0, _, T, h1, h2 => ⟨0, Nat.le_refl _, by
    have h3 : (s.nb (l.take 0)).ops = s.ops := by rw [List.take_zero]; rfl
    rw [h3] at h2 ⊢
    rw [List.take_of_length_le h1]⟩
  | j + 1, hj, T, h1, h2 => by
    have hx : l[j]? = some l[j] := List.getElem?_eq_getElem (by omega)
    rw [St.nb_take hx] at h2 ⊢
    obtain ⟨a1, a2, a3, a4⟩ := (s.nb (l.take j)).step_len l[j]
    by_cases hT : T ≤ (s.nb (l.take j)).ops.length
    · obtain ⟨i, hi, e⟩ := St.nb_ex s l j (by omega) T h1 hT
      refine ⟨i, by omega, e.trans ?_⟩
      obtain ⟨t, ht⟩ := a4
      rw [← ht, List.take_append_of_le_length hT]
    · refine ⟨j + 1, Nat.le_refl _, ?_⟩
      rw [St.nb_take hx]
      exact (List.take_of_length_le (by omega)).symm
theorem St.add_now {s t : St} (h : s.now = t.now) (k : List UInt8) (n : Int) : (s.add k n).1.now = (t.add k n).1.now := by
  unfold St.add
  split
  · exact h
  · rw [h]
    split
    · exact h
    · show runs s.dur (s.ops ++ [_]) = runs t.dur (t.ops ++ [_])
      rw [runs_snoc, runs_snoc]
      exact congrArg _ h
theorem St.remove_now {s t : St} (h : s.now = t.now) (k : List UInt8) : (s.remove k).1.now = (t.remove k).1.now := by
  unfold St.remove
  rw [h]
  cases getE t.now k with
  | none => exact h
  | some v =>
    show runs s.dur (s.ops ++ [_]) = runs t.dur (t.ops ++ [_])
    rw [runs_snoc, runs_snoc]
    exact congrArg _ h
theorem St.step_now {s t : St} (h : s.now = t.now) (a : Ac) : (s.step a).now = (t.step a).now := by
  unfold St.step St.does1
  split
  · exact h
  · split
    · exact St.add_now h _ _
    · split
      · exact St.remove_now h _
      · exact h
theorem St.step_all (s : St) {a : Ac} (h : ¬ a.k % 6 = 3) : s.all [a] = s.step a := by
  unfold St.step
  rw [if_neg h]
  rfl
theorem St.step_skip (s : St) {a : Ac} (h : a.k % 6 = 3) : s.step a = s := by unfold St.step; rw [if_pos h]
/-- What is there behind a failure was there behind some call. -/
theorem St.fail_ex {s : St} (hs : s.ops = []) (l : List Ac) (keep : Int) : ∃ i, i ≤ l.length ∧ ((s.nb l).fail keep).now = (s.nb (l.take i)).now := by
  have h1 := stay_le (s.nb l).ops.length keep
  have h0 := St.nb_ex s l l.length (Nat.le_refl _) (stay (s.nb l).ops.length keep) (by rw [hs]; simp) (by rw [List.take_length]; exact h1)
  obtain ⟨i, hi, e⟩ := h0
  rw [List.take_length] at e
  refine ⟨i, hi, ?_⟩
  show runs (runs (s.nb l).dur ((s.nb l).ops.take _)) [] = runs (s.nb (l.take i)).dur (s.nb (l.take i)).ops
  rw [e, St.nb_dur, St.nb_dur]
  rfl
theorem St.fail_all (s : St) : (s.fail (s.ops.length : Int)).now = s.now := by
  show runs (runs s.dur (s.ops.take (stay s.ops.length (s.ops.length : Int)))) [] = runs s.dur s.ops
  have h : stay s.ops.length (s.ops.length : Int) = s.ops.length := by unfold stay; omega
  rw [h, List.take_length]
  rfl
theorem St.fail_none (s : St) : (s.fail 0).now = s.dur := by
  show runs (runs s.dur (s.ops.take (stay s.ops.length 0))) [] = s.dur
  have h : stay s.ops.length 0 = 0 := by unfold stay; omega
  rw [h]
  rfl
/-! ### readings of a part -/
section
variable {w0 w : World} {N n m i c : Nat} {A B : Option Addr} {l : List Ac} {L : List (Nat × St)} {R R' : List Rd} {a b : List En} {x : Ac}
theorem Ds.part (h : Ds w0 w N L R) (hr : (⟨3, A, n, acells l⟩ : Rd) ∈ R) (hx : l[i]? = some x) (hn : l.length = n) (hc : n ≤ c) :
    Ds w0 w N L (⟨3, (if c = i then A else A.map (·.add (i * 3))), 1, acells [x]⟩ :: R) := by
  obtain ⟨cc, h⟩ := h
  refine ⟨cc, h.low, h.bel, h.dir, fun r hr' => ?_⟩
  rcases List.mem_cons.1 hr' with rfl | hr'
  · have h1 := h.row _ hr
    have hi : i < l.length := (List.getElem?_eq_some_iff.1 hx).1
    refine ⟨acells_len [x], fun _ => ?_⟩
    obtain ⟨ad, e, hb, hX, hcell⟩ := h1.2 (by simp only; omega)
    simp only at e
    subst e
    rw [if_neg (by omega)]
    refine ⟨ad.add (i * 3), rfl, by rw [block_of_add]; exact hb, by rw [block_of_add]; exact hX, fun j u hu => ?_⟩
    rw [add_of_add]
    have hj : j < 3 := by
      have := (List.getElem?_eq_some_iff.1 hu).1
      rw [acells_len] at this
      simpa using this
    refine hcell _ _ ?_
    simp only
    rw [acells_get hx hj, ← hu]
    have := acells_get (l := [x]) (k := 0) (a := x) rfl hj
    rw [Nat.zero_mul, Nat.zero_add] at this
    exact this.symm
  · exact h.row r hr'
theorem alike_at (h : Ds w0 w N L R) (ha : (⟨2, A, n, ecells a⟩ : Rd) ∈ R) (hb : (⟨2, B, m, ecells b⟩ : Rd) ∈ R) (hn : a.length = n) (hm : b.length = m) (hl : n ≤ 1000) (hl2 : m ≤ 1000) (hw : ∀ r ∈ R', r ∈ R) (v : Bool) (hv : decide (a = b) = v) (c d : Nat) :
    Calls Try.prog 19 #[.slice A n c, .slice B m d] w fun e w' => e = .returned (.bool v) ∧ Ds w0 w' N L R' := by
  have h1 := h.reads ha
  have h2 := h.reads hb
  simp only at h1 h2
  subst hv
  subst hn
  subst hm
  refine (alike_any rfl rfl (by omega) (by omega) h1 h2).mono ?_
  rintro e w' ⟨rfl, hb'⟩
  exact ⟨rfl, (h.below hb').weak hw⟩
theorem few_at (h : Ds w0 w N L R) (hr : (⟨3, A, n, acells l⟩ : Rd) ∈ R) (hn : l.length = n) (hl : n ≤ 9223372036854775807) (hok : ∀ a ∈ l, a.Ok) (t c : Nat) (ht : t ≤ 1000) :
    Calls Try.prog 7 #[.slice A n c, .int .i64 (t : Int)] w fun e w' => e = .returned (.bool (decide (SmA l t))) ∧ w' = w := by
  have h1 := h.reads hr
  simp only at h1
  subst hn
  exact few_any rfl ht hl ⟨h1, hok⟩
end
end Go.Proofs.Ytdnbflhpgfgnnaa
