/- A table's failure, by definition, and what follows of it; how sizes go on. Conditions: none. -/
import Derived.Test.YtlehkgogcbdckaaInR
namespace Go.Proofs.Ytlehkgogcbdckaa
open Go.RowKit Go.Maps

theorem Tb.Ok.upd {T : Tb} {N M : Nat} {z n : Int} {m : List Pt} (h : T.Ok N) (hn : -9223372036854775808 ≤ n ∧ n ≤ 9223372036854775807) (hm : Sz m M) (hNM : N ≤ M) : ({ T with fs := updF T.fs z n m } : Tb).Ok M := by
  refine ⟨h.q, Nat.le_trans h.made hNM, by show (updF _ _ _ _).length ≤ _; rw [updF_len]; exact Nat.le_trans h.len hNM, ?_, fun x hx => ?_, fun x hx => ?_, fun x hx => ?_⟩
  · have h2 : (T.fs.map Fi.i).Pairwise (· < ·) := by rw [List.pairwise_map]; exact h.sort
    rw [← updF_i T.fs z n m, List.pairwise_map] at h2
    exact h2
  · obtain ⟨f, hf, e, _⟩ := updF_mem hx
    rw [e]
    exact h.num f hf
  · obtain ⟨f, hf, _, _, hc⟩ := updF_mem hx
    rcases hc with ⟨_, e, _⟩ | ⟨_, rfl⟩
    · rw [e]; exact hn
    · exact h.many _ hf
  · obtain ⟨f, hf, _, _, hc⟩ := updF_mem hx
    rcases hc with ⟨_, _, e⟩ | ⟨_, rfl⟩
    · rw [e]; exact hm
    · exact (h.size _ hf).mono hNM
theorem Tb.Ok.sub {T : Tb} {N : Nat} {fs : List Fi} (h : T.Ok N) (hs : fs.Sublist T.fs) : ({ T with fs := fs } : Tb).Ok N :=
  ⟨h.q, h.made, Nat.le_trans hs.length_le h.len, h.sort.sublist hs, fun f hf => h.num f (hs.mem hf), fun f hf => h.many f (hs.mem hf), fun f hf => h.size f (hs.mem hf)⟩
theorem leaveF_sub (fs : List Fi) (z n : Int) : (leaveF fs z n).Sublist fs := by
  unfold leaveF delF
  split
  · exact List.filter_sublist
  · exact List.Sublist.refl _
theorem wrap_in (z : Int) : -9223372036854775808 ≤ wrap64 z ∧ wrap64 z ≤ 9223372036854775807 := by
  unfold wrap64
  omega
theorem Tb.Ok.drop {T : Tb} {N : Nat} {z : Int} {f : Fi} (h : T.Ok N) (hf : findF T.fs z = some f) : (T.drop z f).Ok N :=
  (h.upd (wrap_in _) (h.size f (findF_mem hf).1) (Nat.le_refl _)).sub (leaveF_sub _ _ _)
theorem Made.ok {w w' : World} {Z : Nat → Prop} {t N : Nat} {T T' : Tb} (h : Made w w' Z t T T') (hok : T.Ok N) : T'.Ok (N + 1) := by
  obtain ⟨g, _, hfs⟩ := h.fs
  refine ⟨by rw [h.q]; exact hok.q, by rw [h.made]; have := hok.made; omega, by rw [hfs, List.length_append]; have := hok.len; simp; omega, ?_, fun x hx => ?_, fun x hx => ?_, fun x hx => ?_⟩
  · rw [hfs, List.pairwise_append]
    refine ⟨hok.sort, by simp, fun a ha b hb => ?_⟩
    rw [List.mem_singleton] at hb
    subst hb
    have := (hok.num a ha).2
    show a.i < (T.made : Int) + 1
    omega
  all_goals
    rw [hfs, List.mem_append, List.mem_singleton] at hx
    rcases hx with hx | rfl
  · have := hok.num x hx; rw [h.made]; omega
  · rw [h.made]; show 1 ≤ (T.made : Int) + 1 ∧ (T.made : Int) + 1 ≤ ((T.made + 1 : Nat) : Int); omega
  · exact hok.many x hx
  · show -9223372036854775808 ≤ (0 : Int) ∧ (0 : Int) ≤ 9223372036854775807; omega
  · exact (hok.size x hx).mono (by omega)
  · exact ⟨by simp, by simp⟩

/-! ### the middle -/
section
variable {done rest : List Fi} {f : Fi}
theorem mid_lt (hs : (done ++ f :: rest).Pairwise fun a b => a.i < b.i) : (∀ x ∈ done, x.i < f.i) ∧ ∀ x ∈ rest, f.i < x.i := by
  rw [List.pairwise_append, List.pairwise_cons] at hs
  exact ⟨fun x hx => hs.2.2 x hx f (by simp), hs.2.1.1⟩
theorem updF_mid (hs : (done ++ f :: rest).Pairwise fun a b => a.i < b.i) (n : Int) (m : List Pt) : updF (done ++ f :: rest) f.i n m = done ++ ⟨f.i, f.g, n, m⟩ :: rest := by
  obtain ⟨h1, h2⟩ := mid_lt hs
  unfold updF
  rw [List.map_append, List.map_cons, if_pos rfl]
  congr 1
  · conv => rhs; rw [← List.map_id done]
    apply List.map_congr_left
    intro x hx
    have := h1 x hx
    rw [if_neg (by omega)]
    rfl
  · congr 1
    conv => rhs; rw [← List.map_id rest]
    apply List.map_congr_left
    intro x hx
    have := h2 x hx
    rw [if_neg (by omega)]
    rfl
theorem delF_mid (hs : (done ++ f :: rest).Pairwise fun a b => a.i < b.i) : delF (done ++ f :: rest) f.i = done ++ rest := by
  obtain ⟨h1, h2⟩ := mid_lt hs
  unfold delF
  rw [List.filter_append, List.filter_cons_of_neg (by simp), List.filter_eq_self.2, List.filter_eq_self.2]
  · intro x hx
    have := h2 x hx
    have hne : ¬ x.i = f.i := by omega
    simp [hne]
  · intro x hx
    have := h1 x hx
    have hne : ¬ x.i = f.i := by omega
    simp [hne]
theorem findF_mid (hs : (done ++ f :: rest).Pairwise fun a b => a.i < b.i) : findF (done ++ f :: rest) f.i = some f := findF_of_mem hs (by simp)
end

/-! ### a failure -/
def failF (f : Fi) (names : List En) (keep : List Bool) : Fi := ⟨f.i, f.g, manyF names f.i, failM f.m (keep.take (volM f.m))⟩
def stayF (f : Fi) : List Fi := if f.n < 1 then [] else [f]
def failT : List Fi → List En → List Bool → List Fi
  | [], _, _ => []
  | f :: fs, names, keep => stayF (failF f names keep) ++ failT fs names (keep.drop (volM f.m))
theorem failT_mem {names : List En} {x : Fi} : ∀ {fs : List Fi} {keep : List Bool}, x ∈ failT fs names keep → ∃ f ∈ fs, ∃ k, x = failF f names k ∧ ¬ x.n < 1
  | [], _, h => by cases h
  | f :: fs, keep, h => by
    unfold failT at h
    rw [List.mem_append] at h
    rcases h with h | h
    · unfold stayF at h
      split at h
      · cases h
      · rename_i hn
        rw [List.mem_singleton] at h
        subst h
        exact ⟨f, by simp, keep, rfl, hn⟩
    · obtain ⟨y, hy, k, e, hn⟩ := failT_mem h
      exact ⟨y, by simp [hy], k, e, hn⟩
theorem failT_i (names : List En) : ∀ (fs : List Fi) (keep : List Bool), ((failT fs names keep).map Fi.i).Sublist (fs.map Fi.i)
  | [], _ => List.Sublist.refl _
  | f :: fs, keep => by
    have ih := failT_i names fs (keep.drop (volM f.m))
    unfold failT stayF
    split
    · exact List.Sublist.cons _ ih
    · exact ih.cons_cons _
theorem failT_used (names : List En) : ∀ (fs : List Fi) (keep : List Bool), usedF (failT fs names keep) ≤ usedF fs
  | [], _ => Nat.le_refl _
  | f :: fs, keep => by
    have ih := failT_used names fs (keep.drop (volM f.m))
    have h1 := failM_less f.m (keep.take (volM f.m))
    have e : usedF (f :: fs) = (contM f.m).length + usedF fs := by simp [usedF, sumF]
    rw [e]
    unfold failT stayF
    split
    · rw [List.nil_append]; omega
    · have e2 : usedF ([failF f names keep] ++ failT fs names (keep.drop (volM f.m))) = (contM (failM f.m (keep.take (volM f.m)))).length + usedF (failT fs names (keep.drop (volM f.m))) := by simp [usedF, sumF, failF]
      rw [e2]
      omega
theorem failT_vol (names : List En) : ∀ (fs : List Fi) (keep : List Bool), volF (failT fs names keep) = 0
  | [], _ => rfl
  | f :: fs, keep => by
    have ih := failT_vol names fs (keep.drop (volM f.m))
    unfold failT stayF
    split
    · rw [List.nil_append]; exact ih
    · have e2 : volF ([failF f names keep] ++ failT fs names (keep.drop (volM f.m))) = volM (failM f.m (keep.take (volM f.m))) + volF (failT fs names (keep.drop (volM f.m))) := by simp [volF, sumF, failF]
      rw [e2, ih, failM_vol]
theorem Tb.Ok.fail {T : Tb} {N : Nat} {names : List En} {keep : List Bool} (h : T.Ok N) (hf : FitE names) : ({ T with fs := failT T.fs names keep } : Tb).Ok N := by
  have hsub := failT_i names T.fs keep
  refine ⟨h.q, h.made, ?_, ?_, fun x hx => ?_, fun x hx => ?_, fun x hx => ?_⟩
  · have := hsub.length_le
    rw [List.length_map, List.length_map] at this
    exact Nat.le_trans this h.len
  · have h2 : (T.fs.map Fi.i).Pairwise (· < ·) := by rw [List.pairwise_map]; exact h.sort
    have h3 := h2.sublist hsub
    rw [List.pairwise_map] at h3
    exact h3
  all_goals obtain ⟨f, hf', k, rfl, _⟩ := failT_mem hx
  · exact h.num f hf'
  · exact manyF_fit hf f.i
  · exact (h.size f hf').fail _
end Go.Proofs.Ytlehkgogcbdckaa
