/- What the last loops of InodeKeeps keep: all files' names, their bytes, the table. Conditions: none. -/
import Derived.Test.YtlehkgogcbdckaaInY
namespace Go.Proofs.Ytlehkgogcbdckaa
open Go.RowKit Go.Maps

section
variable {ops : Array Oper} {rest : List Oper} {o : Oper} {a : Act} {Q : Exit → Act → World → Prop} {w : World} {base : Nat} {v : Value}
theorem push_own (s x : Operand) {own : List Row} {A : Option Addr} {n c : Nat} (r : Row) (hr : Value.slice A n c = r.v) (hown : Owns base w v own) (hbase : base ≤ w.heap.size) (hl : own.length ≤ 1099511627776)
    (hrow : RdB w w.heap.size r.A r.l) (hap : ∀ ad, r.A = some ad → ad.block < w.heap.size ∧ v.ownBlock ≠ some ad.block)
    (hgd : o.guard = none) (ho : o.op = .call { callee := .builtin .append, args := #[s, x], argTypes := #[43, 43] })
    (hs : a.eval s = v) (hx : a.eval x = .slice (some ⟨w.heap.size, 0, none⟩) 1 1)
    (h : ∀ v' w', Owns base w' v' (own ++ [r]) → w.grownBy w' v.ownBlock → (v'.ownBlock = v.ownBlock ∨ v'.ownBlock = some (w.heap.size + 1)) → Below base w w' → wpList Try.prog ops Q rest (a.put o.dst v') w') :
    wpList Try.prog ops Q (o :: rest) a (w.alloc (.cells #[.slice A n c] 29)) := by
  rw [hr]
  obtain ⟨i0, hi0, hz0, hz1, hz2⟩ := info_parts info_row
  have hnew := reads_new w 29 [r.v]
  refine wpList_append_any _ hgd s x _ ho base 29 i0 _ 1 24 Try.underlying43 hi0 hz0 hz1 hz2 rfl (by omega) v _ _ hs (hown.head.alloc _) (w.heap.size + 1) _ 1 1 [r.v] hx hnew (by intro u hu; simp only [List.mem_singleton] at hu; subst hu; rfl) (by simp only [maxLen]; omega) (by omega) (by simp; omega) ?_
  intro v1 w1 h1 h2 h3
  have hb := ((Below.refl base w).alloc hbase _).trans (grown_below (hown.head.alloc (.cells #[r.v] 29)) h2 (by simp; omega))
  have hsz : w.heap.size + 1 ≤ w1.heap.size := by have := h2.size; simpa using this
  have hall : ∀ q ∈ own ++ [r], RdB w w.heap.size q.A q.l ∧ ∀ ad, q.A = some ad → ad.block < w.heap.size ∧ v.ownBlock ≠ some ad.block := by
    intro q hq
    rw [List.mem_append, List.mem_singleton] at hq
    rcases hq with hq | rfl
    · exact ⟨hown.row q hq, hown.apart q hq⟩
    · exact ⟨hrow, hap⟩
  refine h v1 w1 ⟨?_, fun q hq => ?_, fun q hq ad e => ?_⟩ ⟨h2.os, h2.tape, h2.output, Nat.le_trans (by simp) h2.size, fun k hk hne => (h2.block k (by simp; omega) hne).trans (heap_alloc_old w _ hk)⟩ (by simpa using h3) hb
  · rw [List.map_append, List.length_append]
    exact h1
  · have := (Reads.alloc (hall q hq).1 (Nat.le_refl _) (.cells #[r.v] 29)).grown_apart h2 (by simp) (fun ad e => ((hall q hq).2 ad e).2)
    exact this.more (by omega)
  · obtain ⟨hlt, hne⟩ := (hall q hq).2 ad e
    refine ⟨by omega, ?_⟩
    rcases h3 with h3 | h3
    · rw [h3]; exact hne
    · rw [h3]
      intro e'
      injection e' with e'
      simp at e'
      omega
end
/-- The rows' blocks. -/
def Zf (own : List Row) : Nat → Prop := fun b => ∃ r ∈ own, ∃ ad : Addr, r.A = some ad ∧ b = ad.block
theorem Owns.touch {base : Nat} {w w' : World} {v : Value} {own : List Row} {X : Nat → Prop} (h : Owns base w v own) (ht : Touch X w w') (h1 : ∀ b, v.ownBlock = some b → ¬ X b) (h2 : ∀ b, Zf own b → ¬ X b) : Owns base w' v own := by
  refine ⟨own_touch h.head ht h1, fun r hr => ?_, fun r hr ad e => ⟨Nat.lt_of_lt_of_le (h.apart r hr ad e).1 ht.size, (h.apart r hr ad e).2⟩⟩
  obtain ⟨hl, hc⟩ := h.row r hr
  refine ⟨hl, fun hn => ?_⟩
  obtain ⟨ad, e, hb, hcell⟩ := hc hn
  exact ⟨ad, e, Nat.lt_of_lt_of_le hb ht.size, fun j u hu => (ht.cell (by rw [block_of_add]; exact hb) (by rw [block_of_add]; exact h2 _ ⟨r, hr, ad, e, rfl⟩)).trans (hcell j u hu)⟩
section
variable {w0 w w' : World} {Y Y' : Nat → Prop} {t : Nat} {q : Int} {made : Nat} {fs : List Fi} {N : Nat}
/-- The caller writes into its own, and has more of its own. -/
theorem WS.both (h : WS w0 Y t q made fs N w) (ht : Touch Y w w') (hY : ∀ k, Y k → w0.heap.size ≤ k) (hy : ∀ k, Y' k → Y k ∨ (w.heap.size ≤ k ∧ k < w'.heap.size)) : WS w0 Y' t q made fs N w' := by
  obtain ⟨mp, hT, hX, hap⟩ := h.ex
  refine ⟨⟨mp, (hT.high.keep ht fun b _ hb => ⟨.inl hb, hap b hb⟩).mono fun k _ hk => ?_, hX, fun k hk hx => ?_⟩, h.ok, h.below.trans (ht.below h.below.size hY), fun k hk => ?_⟩
  · rcases hy k hk with h | h
    · exact .inl h
    · exact .inr h.1
  · rcases hy k hk with h | h
    · exact hap k h hx
    · have := hT.lt hx; omega
  · rcases hy k hk with h1 | h1
    · exact Nat.lt_of_lt_of_le (h.low k h1) ht.size
    · exact h1.2
end

/-! ### every second file is synced -/
def syF (f : Fi) : Fi := ⟨f.i, f.g, f.n, syncM f.m⟩
def mkS (fs : List Fi) (k : Nat) : List Fi := fs.mapIdx fun j f => if j < k ∧ j % 2 = 0 then syF f else f
theorem mkS_len (fs : List Fi) (k : Nat) : (mkS fs k).length = fs.length := by simp [mkS]
theorem mkS_zero (fs : List Fi) : mkS fs 0 = fs := by
  apply List.ext_getElem?
  intro j
  simp [mkS]
theorem mkS_get {fs : List Fi} {k j : Nat} {f : Fi} (h : fs[j]? = some f) : (mkS fs k)[j]? = some (if j < k ∧ j % 2 = 0 then syF f else f) := by
  unfold mkS
  rw [List.getElem?_mapIdx, h, Option.map_some]
theorem mkS_i (fs : List Fi) (k : Nat) : (mkS fs k).map Fi.i = fs.map Fi.i := by
  apply List.ext_getElem?
  intro j
  rw [List.getElem?_map, List.getElem?_map]
  cases h : fs[j]? with
  | none =>
    have : fs.length ≤ j := List.getElem?_eq_none_iff.1 h
    rw [List.getElem?_eq_none (by rw [mkS_len]; exact this), Option.map_none]
  | some f =>
    rw [mkS_get h]
    simp only [Option.map_some]
    split <;> rfl
theorem mkS_sort {fs : List Fi} (k : Nat) (h : fs.Pairwise fun a b => a.i < b.i) : (mkS fs k).Pairwise fun a b => a.i < b.i := by
  have h2 : (fs.map Fi.i).Pairwise (· < ·) := by rw [List.pairwise_map]; exact h
  rw [← mkS_i fs k, List.pairwise_map] at h2
  exact h2
theorem mkS_odd {fs : List Fi} {k : Nat} (h : k % 2 ≠ 0) : mkS fs (k + 1) = mkS fs k := by
  unfold mkS
  congr 1
  funext j f
  by_cases hj : j = k
  · subst hj
    rw [if_neg (by omega), if_neg (by omega)]
  · by_cases h1 : j < k ∧ j % 2 = 0
    · rw [if_pos h1, if_pos ⟨by omega, h1.2⟩]
    · rw [if_neg h1, if_neg (by omega)]
theorem mkS_even {fs : List Fi} {k : Nat} {f : Fi} (hs : fs.Pairwise fun a b => a.i < b.i) (hf : fs[k]? = some f) (h : k % 2 = 0) : doSync (mkS fs k) f.i = (mkS fs (k + 1), 0) := by
  have hg := mkS_get (k := k) hf
  rw [if_neg (by omega)] at hg
  have hfind := findF_at (mkS_sort k hs) hg
  unfold doSync
  rw [hfind]
  simp only
  congr 1
  apply List.ext_getElem?
  intro j
  unfold updF
  rw [List.getElem?_map]
  cases hj : fs[j]? with
  | none =>
    have : fs.length ≤ j := List.getElem?_eq_none_iff.1 hj
    rw [List.getElem?_eq_none (by rw [mkS_len]; exact this), List.getElem?_eq_none (by rw [mkS_len]; exact this)]
    rfl
  | some x =>
    rw [mkS_get hj, mkS_get hj, Option.map_some]
    congr 1
    obtain ⟨y, hy⟩ : ∃ y, (if j < k ∧ j % 2 = 0 then syF x else x) = y := ⟨_, rfl⟩
    have hyi : y.i = x.i := by rw [← hy]; split <;> rfl
    rw [hy]
    by_cases hjk : j = k
    · subst hjk
      rw [hf] at hj
      injection hj with hj
      subst hj
      rw [if_neg (by omega)] at hy
      subst hy
      rw [if_pos rfl, if_pos ⟨by omega, h⟩]
      rfl
    · have hne : x.i ≠ f.i := by
        have hp := hs
        rw [List.pairwise_iff_getElem] at hp
        obtain ⟨l1, e1⟩ := List.getElem?_eq_some_iff.1 hj
        obtain ⟨l2, e2⟩ := List.getElem?_eq_some_iff.1 hf
        rcases Nat.lt_or_gt_of_ne hjk with hlt | hgt
        · have := hp j k l1 l2 hlt
          rw [e1, e2] at this
          omega
        · have := hp k j l2 l1 hgt
          rw [e1, e2] at this
          omega
      rw [if_neg (by rw [hyi]; exact hne), ← hy]
      by_cases hc : j < k ∧ j % 2 = 0
      · rw [if_pos hc, if_pos ⟨by omega, hc.2⟩]
      · rw [if_neg hc, if_neg (by omega)]
theorem syF_cont (f : Fi) : contM (syF f).m = contM f.m := contM_sync f.m
/-- All names, of which the first k are told to be one. -/
def oneE (fs : List Fi) (k : Nat) : List En := ((manyC fs).take k).map (fun e => (e.1, 1)) ++ (manyC fs).drop k
theorem manyC_len (fs : List Fi) : (manyC fs).length = fs.length := by simp [manyC]
theorem oneE_len (fs : List Fi) {k : Nat} : (oneE fs k).length = fs.length := by
  unfold oneE
  rw [List.length_append, List.length_map, List.length_take, List.length_drop, manyC_len]
  omega
theorem oneE_zero (fs : List Fi) : oneE fs 0 = manyC fs := rfl
theorem oneE_set {fs : List Fi} {k : Nat} {f : Fi} (hf : fs[k]? = some f) : (ecells (oneE fs k)).set (k * 2 + 1) (.int .i64 1) = ecells (oneE fs (k + 1)) := by
  have hk := (List.getElem?_eq_some_iff.1 hf).1
  have hm : (manyC fs)[k]? = some (f.i, f.n) := by unfold manyC; rw [List.getElem?_map, hf]; rfl
  obtain ⟨hk', e⟩ := List.getElem?_eq_some_iff.1 hm
  have hl : (ecells (((manyC fs).take k).map fun e => (e.1, (1 : Int)))).length = k * 2 := by rw [ecells_len, List.length_map, List.length_take, manyC_len]; congr 1; omega
  have e1 : oneE fs k = ((manyC fs).take k).map (fun e => (e.1, (1 : Int))) ++ ((f.i, f.n) :: (manyC fs).drop (k + 1)) := by
    unfold oneE
    rw [List.drop_eq_getElem_cons hk', e]
  have e2 : oneE fs (k + 1) = ((manyC fs).take k).map (fun e => (e.1, (1 : Int))) ++ ((f.i, 1) :: (manyC fs).drop (k + 1)) := by
    unfold oneE
    rw [List.take_add_one, hm]
    simp
  rw [e1, e2, ecells_append, ecells_append, List.set_append_right _ _ (by omega), hl, show k * 2 + 1 - k * 2 = 1 by omega]
  rfl
theorem oneE_at {fs : List Fi} {k j : Nat} {f : Fi} (hf : fs[j]? = some f) : ∃ n, (oneE fs k)[j]? = some (f.i, n) := by
  have hm : (manyC fs)[j]? = some (f.i, f.n) := by unfold manyC; rw [List.getElem?_map, hf]; rfl
  have hj := (List.getElem?_eq_some_iff.1 hf).1
  unfold oneE
  by_cases h : j < k
  · rw [List.getElem?_append_left (by rw [List.length_map, List.length_take, manyC_len]; omega), List.getElem?_map, List.getElem?_take, if_pos h, hm]
    exact ⟨1, rfl⟩
  · rw [List.getElem?_append_right (by rw [List.length_map, List.length_take, manyC_len]; omega), List.length_map, List.length_take, manyC_len, List.getElem?_drop]
    refine ⟨f.n, ?_⟩
    rw [show k + (j - min k fs.length) = j by omega]
    exact hm
theorem oneE_all (fs : List Fi) : oneE fs fs.length = fs.map fun f => (f.i, 1) := by
  unfold oneE
  rw [← manyC_len, List.take_length, List.drop_length, List.append_nil]
  unfold manyC
  rw [List.map_map]
  rfl
theorem oneE_many {fs : List Fi} {f : Fi} (hs : fs.Pairwise fun a b => a.i < b.i) (hf : f ∈ fs) : manyF (oneE fs fs.length) f.i = 1 := by
  rw [oneE_all]
  unfold manyF
  induction fs with
  | nil => cases hf
  | cons x fs ih =>
    rw [List.pairwise_cons] at hs
    rw [List.map_cons, List.find?_cons]
    rw [List.mem_cons] at hf
    by_cases e : x.i = f.i
    · simp [e]
    · rcases hf with rfl | hf
      · exact absurd rfl e
      · simp only [e, decide_false]
        exact ih hs.2 hf
theorem failT_stays {names : List En} : ∀ {fs : List Fi} {keep : List Bool} {f : Fi}, f ∈ fs → 1 ≤ manyF names f.i → ∃ k, failF f names k ∈ failT fs names keep
  | [], _, _, h, _ => by cases h
  | x :: fs, keep, f, h, h1 => by
    unfold failT
    rw [List.mem_cons] at h
    rcases h with rfl | h
    · refine ⟨keep, ?_⟩
      unfold stayF
      rw [if_neg (by show ¬ manyF names f.i < 1; omega)]
      simp
    · obtain ⟨k, hk⟩ := failT_stays (keep := keep.drop (volM x.m)) h h1
      exact ⟨k, by rw [List.mem_append]; exact .inr hk⟩
theorem failT_sort {names : List En} {fs : List Fi} {keep : List Bool} (hs : fs.Pairwise fun a b => a.i < b.i) : (failT fs names keep).Pairwise fun a b => a.i < b.i := by
  have h2 : (fs.map Fi.i).Pairwise (· < ·) := by rw [List.pairwise_map]; exact hs
  have h3 := h2.sublist (failT_i names fs keep)
  rw [List.pairwise_map] at h3
  exact h3
/-- A file behind the failure. -/
theorem sure_at {fs : List Fi} {j : Nat} {f : Fi} {keep : List Bool} (hs : fs.Pairwise fun a b => a.i < b.i) (hf : fs[j]? = some f) :
    ∃ x, findF (failT (mkS fs fs.length) (oneE fs fs.length) keep) f.i = some x ∧ (contM x.m).length ≤ (contM f.m).length ∧ (j % 2 = 0 → contM x.m = contM f.m) := by
  have hj := (List.getElem?_eq_some_iff.1 hf).1
  have hg := mkS_get (k := fs.length) hf
  have hs2 := mkS_sort fs.length hs
  obtain ⟨y, hy⟩ : ∃ y, (if j < fs.length ∧ j % 2 = 0 then syF f else f) = y := ⟨_, rfl⟩
  rw [hy] at hg
  have hyi : y.i = f.i := by rw [← hy]; split <;> rfl
  have hyc : contM y.m = contM f.m := by rw [← hy]; split; exact syF_cont f; rfl
  obtain ⟨k, hk⟩ := failT_stays (names := oneE fs fs.length) (keep := keep) (List.mem_of_getElem? hg) (by rw [hyi, oneE_many hs (List.mem_of_getElem? hf)]; omega)
  refine ⟨failF y (oneE fs fs.length) k, ?_, ?_, ?_⟩
  · have := findF_of_mem (failT_sort hs2) hk
    rw [show (failF y (oneE fs fs.length) k).i = f.i from hyi] at this
    exact this
  · show (contM (failM y.m _)).length ≤ _
    rw [← hyc]
    exact failM_less _ _
  · intro he
    rw [if_pos ⟨hj, he⟩] at hy
    subst hy
    show contM (failM (syncM f.m) _) = _
    rw [syncM_done, contM_sync]
end Go.Proofs.Ytlehkgogcbdckaa
