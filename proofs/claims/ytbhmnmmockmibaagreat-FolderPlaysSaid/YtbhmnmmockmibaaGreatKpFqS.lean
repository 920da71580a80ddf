/- What holds of a folder, whatever is called: each file counts its names, and the pending Unlinks of it; no state of the directory has more names than may be. Conditions: none. -/
import Derived.Test.YtbhmnmmockmibaaGreatKpFoP
import Derived.Test.YtbhmnmmockmibaaGreatKpFqQ
import Derived.Test.YtbhmnmmockmibaaGreatKpSwap
import Derived.Deep.QuietTactic
import Derived.BigQuiet
namespace Go.Proofs.YtbhmnmmockmibaaGreat
open Go.RowKit Go.Maps
def cnt (m : List EnD) (z : Int) : Nat := (m.map Prod.snd).count z
theorem ins_perm (x : EnD) : ∀ m : List EnD, (insE x m).Perm (x :: m)
  | [] => .refl _
  | y :: r => by
    unfold insE
    split
    · exact .refl _
    · exact ((ins_perm x r).cons y).trans (.swap x y r)
theorem cnt_ins (x : EnD) (m : List EnD) (z : Int) : cnt (insE x m) z = cnt m z + if x.2 = z then 1 else 0 := by
  unfold cnt
  rw [((ins_perm x m).map Prod.snd).count_eq, List.map_cons, List.count_cons]
  simp
theorem ins_del {m : List EnD} (hm : Srt m) {k : List UInt8} {v : Int} (h : (k, v) ∈ m) : insE (k, v) (delE m k) = m := by
  refine srt_ext ((hm.del k).ins (has_del m k)) hm fun x => ?_
  rw [mem_ins, mem_del]
  constructor
  · rintro (rfl | h2)
    · exact h
    · exact h2.1
  · intro hx
    by_cases hk : x.1 = k
    · refine .inl (Prod.ext hk ?_)
      have hx' : (k, x.2) ∈ m := by rw [← hk]; exact hx
      exact srt_one hm hx' h
    · exact .inr ⟨hx, hk⟩
theorem cnt_del {m : List EnD} (hm : Srt m) {k : List UInt8} {v : Int} (h : (k, v) ∈ m) (z : Int) : cnt m z = cnt (delE m k) z + if v = z then 1 else 0 := by
  have := cnt_ins (k, v) (delE m k) z
  rw [ins_del hm h] at this
  exact this
theorem cnt_pos {m : List EnD} {e : EnD} (h : e ∈ m) : 1 ≤ cnt m e.2 := List.count_pos_iff.2 (List.mem_map.2 ⟨e, h, rfl⟩)
theorem cnt_of {m : List EnD} {z : Int} (h : 1 ≤ cnt m z) : ∃ e ∈ m, e.2 = z := List.mem_map.1 (List.count_pos_iff.1 h)
theorem cnt_le (m : List EnD) (z : Int) : cnt m z ≤ m.length := by unfold cnt; have := List.count_le_length (a := z) (l := m.map Prod.snd); rwa [List.length_map] at this
structure Cn (c : Int → Nat) (fs : List Fi) : Prop where
  n : ∀ f ∈ fs, f.n = (c f.i : Int) ∧ 1 ≤ c f.i
  has : ∀ z, 1 ≤ c z → ∃ f ∈ fs, f.i = z
abbrev plus (c : Int → Nat) (z0 : Int) : Int → Nat := fun z => c z + if z0 = z then 1 else 0
section
variable {c c' : Int → Nat} {fs : List Fi} {z : Int} {f : Fi}
theorem Cn.eq (h : Cn c fs) (e : ∀ z, c z = c' z) : Cn c' fs := ⟨fun f hf => by rw [← e]; exact h.n f hf, fun z hz => h.has z (by rw [e]; exact hz)⟩
theorem wrap_id {n : Int} (h1 : -9223372036854775808 ≤ n) (h2 : n ≤ 9223372036854775807) : wrap64 n = n := by unfold wrap64; omega
theorem Cn.cont (h : Cn c fs) (hf : findF fs z = some f) (m : List Pt) : Cn c (updF fs z f.n m) := by
  have hfm := findF_mem hf
  refine ⟨fun x hx => ?_, fun y hy => ?_⟩
  · obtain ⟨g, hg, e1, _, h2⟩ := updF_mem hx
    rw [e1]
    rcases h2 with ⟨e2, e3, _⟩ | ⟨_, rfl⟩
    · have := h.n f hfm.1
      rw [hfm.2] at this
      rw [e2, e3]
      exact this
    · exact h.n x hg
  · obtain ⟨g, hg, e⟩ := h.has y hy
    have hm : g.i ∈ (updF fs z f.n m).map Fi.i := by rw [updF_i]; exact List.mem_map.2 ⟨g, hg, rfl⟩
    obtain ⟨x, hx, ex⟩ := List.mem_map.1 hm
    exact ⟨x, hx, ex.trans e⟩
theorem Cn.link (h : Cn c fs) (hf : findF fs z = some f) (hs : c z ≤ 100000) : Cn (plus c z) (updF fs z (wrap64 (f.n + 1)) f.m) := by
  have hfm := findF_mem hf
  have hn := h.n f hfm.1
  rw [hfm.2] at hn
  rw [wrap_id (by omega) (by omega)]
  refine ⟨fun x hx => ?_, fun y hy => ?_⟩
  · obtain ⟨g, hg, e1, _, h2⟩ := updF_mem hx
    rw [e1]
    rcases h2 with ⟨e2, e3, _⟩ | ⟨hne, rfl⟩
    · rw [e2, e3]
      simp only [plus, if_true]
      omega
    · have := h.n x hg
      simp only [plus, if_neg (Ne.symm hne)]
      exact this
  · by_cases hyz : z = y
    · subst hyz
      have hm : f.i ∈ (updF fs z (f.n + 1) f.m).map Fi.i := by rw [updF_i]; exact List.mem_map.2 ⟨f, hfm.1, rfl⟩
      obtain ⟨x, hx, ex⟩ := List.mem_map.1 hm
      exact ⟨x, hx, ex.trans hfm.2⟩
    · simp only [plus, if_neg hyz, Nat.add_zero] at hy
      obtain ⟨g, hg, e⟩ := h.has y hy
      have hm : g.i ∈ (updF fs z (f.n + 1) f.m).map Fi.i := by rw [updF_i]; exact List.mem_map.2 ⟨g, hg, rfl⟩
      obtain ⟨x, hx, ex⟩ := List.mem_map.1 hm
      exact ⟨x, hx, ex.trans e⟩
theorem upd_off {fs : List Fi} {z n : Int} {m : List Pt} (h : ∀ f ∈ fs, f.i ≠ z) : updF fs z n m = fs := by
  unfold updF
  conv => rhs; rw [← List.map_id fs]
  refine List.map_congr_left fun f hf => ?_
  rw [if_neg (h f hf)]
  rfl
theorem find_new {fs : List Fi} {x : Fi} (h : ∀ f ∈ fs, f.i ≠ x.i) : findF (fs ++ [x]) x.i = some x := by
  unfold findF
  rw [List.find?_append, List.find?_eq_none.2 fun f hf => (by simpa using h f hf)]
  simp
theorem made_eq {fs : List Fi} {z : Int} (h : ∀ f ∈ fs, f.i ≠ z) (g : Nat) : (doLink (fs ++ [⟨z, g, 0, []⟩]) z).1 = fs ++ [⟨z, g, 1, []⟩] := by
  unfold doLink
  rw [find_new (x := ⟨z, g, 0, []⟩) h]
  simp only
  rw [wrap_id (by omega) (by omega)]
  have : updF (fs ++ [⟨z, g, 0, []⟩]) z (0 + 1) [] = updF fs z (0 + 1) [] ++ [⟨z, g, 1, []⟩] := by
    unfold updF
    rw [List.map_append]
    simp
  rw [this, upd_off h]
theorem Cn.make (h : Cn c fs) (hz : ∀ f ∈ fs, f.i ≠ z) (g : Nat) : Cn (plus c z) (fs ++ [⟨z, g, 1, []⟩]) := by
  have hc : c z = 0 := by
    rcases Nat.eq_zero_or_pos (c z) with h0 | h0
    · exact h0
    · obtain ⟨f, hf, e⟩ := h.has z h0
      exact absurd e (hz f hf)
  refine ⟨fun x hx => ?_, fun y hy => ?_⟩
  · rcases List.mem_append.1 hx with hx | hx
    · have := h.n x hx
      simp only [plus, if_neg (fun e => hz x hx (Eq.symm e))]
      exact this
    · rw [List.mem_singleton] at hx
      subst hx
      simp only [plus, if_true, hc]
      omega
  · by_cases hyz : z = y
    · exact ⟨_, List.mem_append_right _ (List.mem_singleton.2 rfl), hyz⟩
    · simp only [plus, if_neg hyz, Nat.add_zero] at hy
      obtain ⟨f, hf, e⟩ := h.has y hy
      exact ⟨f, List.mem_append_left _ hf, e⟩
theorem Cn.drop (h : Cn (plus c z) fs) (hs : c z ≤ 100000) (hz : fs.Pairwise fun a b => a.i < b.i) : Cn c (doDrop fs z).1 := by
  obtain ⟨f0, hf0, e0⟩ := h.has z (by simp only [plus, if_true]; omega)
  have hf : findF fs z = some f0 := by rw [← e0]; exact findF_of_mem hz hf0
  have hn := h.n f0 hf0
  rw [e0] at hn
  simp only [plus, if_true] at hn
  unfold doDrop
  rw [hf]
  simp only
  rw [wrap_id (by omega) (by omega)]
  have hup : ∀ x ∈ updF fs z (f0.n - 1) f0.m, (x.i = z ∧ x.n = (c z : Int)) ∨ (x.i ≠ z ∧ x ∈ fs) := by
    intro x hx
    obtain ⟨g, hg, e1, _, h2⟩ := updF_mem hx
    rcases h2 with ⟨e2, e3, _⟩ | ⟨hne, rfl⟩
    · exact .inl ⟨e1.trans e2, by rw [e3]; omega⟩
    · exact .inr ⟨hne, hg⟩
  have hother : ∀ x ∈ fs, x.i ≠ z → x.n = (c x.i : Int) ∧ 1 ≤ c x.i := by
    intro x hx hne
    have := h.n x hx
    simp only [plus, if_neg (Ne.symm hne)] at this
    exact this
  have hin : ∀ y, (∃ f ∈ fs, f.i = y) → ∃ x ∈ updF fs z (f0.n - 1) f0.m, x.i = y := by
    rintro y ⟨g, hg, e⟩
    have hm : g.i ∈ (updF fs z (f0.n - 1) f0.m).map Fi.i := by rw [updF_i]; exact List.mem_map.2 ⟨g, hg, rfl⟩
    obtain ⟨x, hx, ex⟩ := List.mem_map.1 hm
    exact ⟨x, hx, ex.trans e⟩
  have hhas : ∀ y, 1 ≤ c y → ∃ f ∈ fs, f.i = y := fun y hy => h.has y (by simp only [plus]; omega)
  unfold leaveF
  split
  · rename_i hlt
    have hc0 : c z = 0 := by omega
    refine ⟨fun x hx => ?_, fun y hy => ?_⟩
    · unfold delF at hx
      obtain ⟨hx1, hx2⟩ := List.mem_filter.1 hx
      have hne : x.i ≠ z := by simpa using hx2
      rcases hup x hx1 with ⟨e, _⟩ | ⟨_, h3⟩
      · exact absurd e hne
      · exact hother x h3 hne
    · have hne : y ≠ z := by rintro rfl; omega
      obtain ⟨x, hx, e⟩ := hin y (hhas y hy)
      exact ⟨x, List.mem_filter.2 ⟨hx, by simp [e, hne]⟩, e⟩
  · refine ⟨fun x hx => ?_, fun y hy => hin y (hhas y hy)⟩
    rcases hup x hx with ⟨e, e2⟩ | ⟨hne, h3⟩
    · rw [e, e2]
      exact ⟨rfl, by omega⟩
    · exact hother x h3 hne
theorem used_upd (hs : fs.Pairwise fun a b => a.i < b.i) (hf : findF fs z = some f) (n : Int) (m : List Pt) : usedF (updF fs z n m) + (contM f.m).length = usedF fs + (contM m).length := sum_upd (μ := fun f => (contM f.m).length) hs hf
theorem used_drop (hs : fs.Pairwise fun a b => a.i < b.i) (z : Int) : usedF (doDrop fs z).1 ≤ usedF fs := by
  unfold doDrop
  cases hf : findF fs z with
  | none => exact Nat.le_refl _
  | some f =>
    have h1 := used_upd hs hf (wrap64 (f.n - 1)) f.m
    have h2 : usedF (updF fs z (wrap64 (f.n - 1)) f.m) = usedF fs := by omega
    simp only
    unfold leaveF
    split
    · exact Nat.le_trans (sum_rest _ _) (Nat.le_of_eq h2)
    · exact Nat.le_of_eq h2
end
end Go.Proofs.YtbhmnmmockmibaaGreat

namespace Go.Proofs.YtbhmnmmockmibaaGreat
open Go.RowKit Go.Maps
def Fo.c (s : Fo) : Int → Nat := fun z => cnt s.d.now z + s.tk.count z
structure Fo.Inv (s : Fo) : Prop where
  c : Cn s.c s.fs
  tk : s.tk = (s.d.ops.filter fun o => !o.add).map Pr.v
  used : (usedF s.fs : Int) ≤ s.q
  bound : ∀ j, ((runs s.d.dur (s.d.ops.take j)).length : Int) ≤ s.most
section
variable {s : Fo} {N : Nat} {n t l : List UInt8} {g k : Nat} {v : Int}
theorem Fo.Ok.c_le (h : s.Ok N) (z : Int) : s.c z ≤ 2 * N := by
  have h1 := cnt_le s.d.now z
  have h2 := h.d.now.1
  have h3 := List.count_le_length (a := z) (l := s.tk)
  have h4 := h.tk
  unfold Fo.c
  omega
theorem Fo.Inv.well (h : s.Inv) (hok : s.Ok N) : s.Well := by
  have hin : ∀ e ∈ s.d.now, ∃ f ∈ s.fs, f.i = e.2 := fun e he => h.c.has e.2 (by unfold Fo.c; have := cnt_pos he; omega)
  refine ⟨fun e he => ?_, h.used, fun e he => ?_⟩
  · obtain ⟨f, hf, e1⟩ := hin e he
    exact ⟨f, by rw [← e1]; exact findF_of_mem hok.srt hf⟩
  · obtain ⟨f, hf, e1⟩ := hin e he
    have := ((tabOk hok).num f hf).1
    omega
theorem Fo.Inv.files (h : s.Inv) {fs : List Fi} (hc : Cn s.c fs) (hu : (usedF fs : Int) ≤ s.q) : ({ s with fs := fs } : Fo).Inv := ⟨hc, h.tk, hu, h.bound⟩
theorem Fo.Inv.sync1 (h : s.Inv) (hok : s.Ok N) (z : Int) : ({ s with fs := (doSync s.fs z).1 } : Fo).Inv := by
  unfold doSync
  cases hf : findF s.fs z with
  | none => exact h
  | some f =>
    refine h.files (h.c.cont hf _) ?_
    have h1 := used_upd hok.srt hf f.n (syncM f.m)
    have h2 := h.used
    rw [contM_sync] at h1
    simp only
    omega
theorem Fo.Inv.app (h : s.Inv) (hok : s.Ok N) (z : Int) (l : List UInt8) : ({ s with fs := (doApp s.q s.fs z l).1 } : Fo).Inv := by
  unfold doApp
  cases hf : findF s.fs z with
  | none => exact h
  | some f =>
    simp only
    split
    · exact h
    · rename_i hq
      refine h.files (h.c.cont hf _) ?_
      have h1 := used_upd hok.srt hf f.n (appM f.m l)
      rw [contM_app, List.length_append] at h1
      simp only
      omega
theorem take_end {α : Type} (l : List α) (x : α) (j : Nat) : (l ++ [x]).take j = l.take j ∨ (l ++ [x]).take j = l ++ [x] := by
  by_cases h : j ≤ l.length
  · exact .inl (List.take_append_of_le_length h)
  · right
    rw [List.take_of_length_le]
    rw [List.length_append, List.length_singleton]
    omega
theorem Fo.Inv.add (h : s.Inv) (hok : s.Ok N) (hk : hasE s.d.now n = false) (hm : s.many < s.most) {fs : List Fi} (hc : Cn (plus s.c v) fs) (hu : (usedF fs : Int) ≤ s.q) {made : Nat} {many : Int} :
    ({ s with d := s.d.addE n v, made := made, many := many, fs := fs } : Fo).Inv := by
  have hnow : (s.d.addE n v).now = insE (n, v) s.d.now := St.now_add hk
  refine ⟨hc.eq fun z => ?_, ?_, hu, fun j => ?_⟩
  · show plus s.c v z = cnt (s.d.addE n v).now z + s.tk.count z
    rw [hnow, cnt_ins]
    show cnt s.d.now z + s.tk.count z + _ = _
    simp only
    omega
  · show s.tk = ((s.d.ops ++ [(⟨true, n, v⟩ : Pr)]).filter _).map _
    rw [List.filter_append, List.map_append, ← h.tk]
    simp
  · show ((runs s.d.dur ((s.d.ops ++ [(⟨true, n, v⟩ : Pr)]).take j)).length : Int) ≤ s.most
    rcases take_end s.d.ops (⟨true, n, v⟩ : Pr) j with e | e
    · rw [e]; exact h.bound j
    · rw [e]
      have e2 : runs s.d.dur (s.d.ops ++ [(⟨true, n, v⟩ : Pr)]) = insE (n, v) s.d.now := hnow
      rw [e2, ins_len]
      have := hok.many
      omega
theorem may_nil0 (h : s.may n = 0) : n ≠ [] ∧ hasE s.d.now n = false ∧ s.many < s.most := by
  unfold Fo.may at h
  split at h
  · cases h
  · rename_i h1
    split at h
    · cases h
    · rename_i h2
      split at h
      · cases h
      · rename_i h3
        exact ⟨h1, by simpa using h2, by omega⟩
theorem Fo.Inv.create (h : s.Inv) (hok : s.Ok N) (g : Nat) (hm : s.may n = 0) : (s.create g n).Inv := by
  have h0 := may_nil0 hm
  have h2 := h0.2.1
  have h3 := h0.2.2
  have hz : ∀ f ∈ s.fs, f.i ≠ (s.made : Int) + 1 := by
    intro f hf e
    have e2 : f.i ≤ (s.made : Int) := ((tabOk hok).num f hf).2
    omega
  unfold Fo.create
  rw [made_eq hz]
  refine h.add hok h2 h3 (h.c.make hz g) ?_
  have := h.used
  have e : usedF (s.fs ++ [⟨(s.made : Int) + 1, g, 1, []⟩]) = usedF s.fs := by
    unfold usedF
    rw [sum_append]
    rfl
  rw [e]
  exact this
theorem Fo.Inv.take (h : s.Inv) (hok : s.Ok N) (hg : getE s.d.now n = some v) {many : Int} : ({ s with d := s.d.rem n v, many := many, tk := s.tk ++ [v] } : Fo).Inv := by
  have hmem := getE_some hg
  have hsr := hok.d.ok.now
  refine ⟨h.c.eq fun z => ?_, ?_, h.used, fun j => ?_⟩
  · show cnt s.d.now z + s.tk.count z = cnt (s.d.rem n v).now z + (s.tk ++ [v]).count z
    rw [St.now_rem, cnt_del hsr hmem, List.count_append, List.count_cons, List.count_nil]
    simp only [beq_iff_eq]
    omega
  · show s.tk ++ [v] = ((s.d.ops ++ [(⟨false, n, v⟩ : Pr)]).filter _).map _
    rw [List.filter_append, List.map_append, ← h.tk]
    simp
  · show ((runs s.d.dur ((s.d.ops ++ [(⟨false, n, v⟩ : Pr)]).take j)).length : Int) ≤ s.most
    rcases take_end s.d.ops (⟨false, n, v⟩ : Pr) j with e | e
    · rw [e]; exact h.bound j
    · rw [e]
      have e2 : runs s.d.dur (s.d.ops ++ [(⟨false, n, v⟩ : Pr)]) = delE s.d.now n := St.now_rem (s := s.d) (k := n) (v := v)
      rw [e2]
      have h1 := del_len s.d.now n
      have h2 := h.bound s.d.ops.length
      rw [List.take_length] at h2
      have h3 : ((s.d.now.length : Nat) : Int) ≤ s.most := h2
      omega
theorem drops_cn (c : Int → Nat) : ∀ (l : List Int) (s : Fo), s.Ok N → N ≤ 900 → Cn (fun z => c z + l.count z) s.fs → (∀ z, c z ≤ 2000) → l.length ≤ 2000 → Cn c (dropsF s.fs l) ∧ usedF (dropsF s.fs l) ≤ usedF s.fs
  | [], s, _, _, h, _, _ => ⟨h.eq fun z => by simp, Nat.le_refl _⟩
  | z0 :: l, s, hok, hN, h, hc, hl => by
    have h1 : Cn (plus (fun z => c z + l.count z) z0) s.fs := h.eq fun z => by
      simp only [plus, List.count_cons, beq_iff_eq]
      omega
    have hl' : l.length ≤ 2000 := by rw [List.length_cons] at hl; omega
    have hs : (fun z => c z + l.count z) z0 ≤ 100000 := by
      have := hc z0
      have := List.count_le_length (a := z0) (l := l)
      show c z0 + l.count z0 ≤ _
      omega
    have h2 := h1.drop hs hok.srt
    have hok2 : ({ s with fs := (doDrop s.fs z0).1 } : Fo).Ok N := hok.drops [z0]
    obtain ⟨h3, h4⟩ := drops_cn c l { s with fs := (doDrop s.fs z0).1 } hok2 hN h2 hc hl'
    exact ⟨h3, Nat.le_trans h4 (used_drop hok.srt z0)⟩
theorem Fo.Inv.sync (h : s.Inv) (hok : s.Ok N) (hN : N ≤ 900) : s.sync.Inv := by
  have h1 := hok.tk
  have h2 := hok.d.now.1
  obtain ⟨h3, h4⟩ := drops_cn (cnt s.d.now) s.tk s hok hN h.c (fun z => by have := cnt_le s.d.now z; omega) (by omega)
  refine ⟨h3.eq fun z => by simp [Fo.sync, Fo.c, St.now_sync], rfl, ?_, fun j => ?_⟩
  · have := h.used
    show (usedF (dropsF s.fs s.tk) : Int) ≤ s.q
    omega
  · show ((runs s.d.now ([].take j)).length : Int) ≤ s.most
    have := h.bound s.d.ops.length
    rw [List.take_length] at this
    rw [List.take_nil]
    exact this
theorem Fo.Inv.doC (h : s.Inv) (hok : s.Ok N) (hN : N ≤ 900) (g k : Nat) (n t l : List UInt8) : (s.doC g k n t l).1.Inv := by
  unfold Fo.doC
  split
  · unfold Fo.doCreate
    split
    · rename_i hm
      exact h.create hok g hm
    · exact h
  · unfold Fo.doWrite
    split
    · exact h
    · exact h.app hok _ l
  · unfold Fo.doFsync
    split
    · exact h
    · exact h.sync1 hok _
  · exact h.sync hok hN
  · unfold Fo.doLink
    split
    · exact h
    · rename_i v hg
      split
      · rename_i hm
        have hz0 := may_nil0 hm
        have h2 := hz0.2.1
        have h3 := hz0.2.2
        have hz : 1 ≤ s.c v := by unfold Fo.c; have : 1 ≤ cnt s.d.now v := cnt_pos (getE_some hg); omega
        obtain ⟨f, hf, e⟩ := h.c.has v hz
        have hff : findF s.fs v = some f := by rw [← e]; exact findF_of_mem hok.srt hf
        have hl : (Proofs.YtbhmnmmockmibaaGreat.doLink s.fs v).1 = updF s.fs v (wrap64 (f.n + 1)) f.m := by unfold Proofs.YtbhmnmmockmibaaGreat.doLink; rw [hff]
        have hu := used_upd hok.srt hff (wrap64 (f.n + 1)) f.m
        have h0 := h.used
        have hcl := hok.c_le v
        simp only [hl]
        exact h.add (made := s.made) hok h2 h3 (h.c.link hff (by omega)) (by omega)
      · exact h
  · unfold Fo.doTake
    split
    · exact h
    · rename_i v hg
      exact h.take hok hg
  · exact h
  · unfold Fo.doRead
    split <;> exact h
  · exact h
theorem Fo.Inv.new (bytes entries : Int) : (Fo.new bytes entries).Inv := by
  refine ⟨⟨fun f hf => ?_, fun z hz => ?_⟩, rfl, ?_, fun j => ?_⟩
  · cases hf
  · exact absurd hz (by show ¬ 1 ≤ cnt [] z + ([] : List Int).count z; simp [cnt])
  · show ((0 : Nat) : Int) ≤ max bytes 0
    omega
  · show ((runs [] ([].take j)).length : Int) ≤ max entries 0
    rw [List.take_nil]
    show ((0 : Nat) : Int) ≤ _
    omega
end
end Go.Proofs.YtbhmnmmockmibaaGreat

namespace Go.Proofs.YtbhmnmmockmibaaGreat
open Go.RowKit Go.Maps
theorem failT_has {names : List En} {f : Fi} (hn : 1 ≤ manyF names f.i) : ∀ {fs : List Fi} {keep : List Bool}, f ∈ fs → ∃ k, failF f names k ∈ failT fs names keep
  | g :: fs, keep, h => by
    unfold failT
    rcases List.mem_cons.1 h with rfl | h
    · refine ⟨keep, List.mem_append_left _ ?_⟩
      unfold stayF
      rw [if_neg (by show ¬ manyF names f.i < 1; omega)]
      exact List.mem_singleton.2 rfl
    · obtain ⟨k, hk⟩ := failT_has hn (keep := keep.drop (volM g.m)) h
      exact ⟨k, List.mem_append_right _ hk⟩
theorem manyF_upd {fs : List Fi} (l : List Int) {f : Fi} (h : f ∈ fs) : manyF ((manyC fs).map (updC l)) f.i = (l.count f.i : Nat) := by
  unfold manyF manyC
  rw [List.map_map]
  induction fs with
  | nil => cases h
  | cons g fs ih =>
    rw [List.map_cons, List.find?_cons]
    by_cases e : g.i = f.i
    · simp [updC, e]
    · rcases List.mem_cons.1 h with rfl | h
      · exact absurd rfl e
      · simp only [Function.comp, updC, e, decide_false]
        exact ih h
section
variable {s : Fo} {N : Nat}
theorem Fo.Inv.old (h : s.Inv) (hok : s.Ok N) {e : EnD} : ∀ (d j : Nat), j + d = s.d.ops.length → e ∈ runs s.d.dur (s.d.ops.take j) → 1 ≤ s.c e.2
  | 0, j, hj, he => by
    have : s.d.ops.take j = s.d.ops := List.take_of_length_le (by omega)
    rw [this] at he
    have := cnt_pos (m := s.d.now) he
    unfold Fo.c
    omega
  | d + 1, j, hj, he => by
    have hjl : j < s.d.ops.length := by omega
    have ho : s.d.ops[j]? = some s.d.ops[j] := List.getElem?_eq_getElem hjl
    obtain ⟨o, eo⟩ : ∃ o, s.d.ops[j] = o := ⟨_, rfl⟩
    rw [eo] at ho
    have hok1 := hok.d.ok.oks j o ho
    have hst : runs s.d.dur (s.d.ops.take (j + 1)) = o.does (runs s.d.dur (s.d.ops.take j)) := by
      rw [List.take_add_one, ho]
      exact runs_snoc _ _ _
    have hsr : Srt (runs s.d.dur (s.d.ops.take j)) := runs_srt hok.d.ok.srt
    by_cases hk : e ∈ runs s.d.dur (s.d.ops.take (j + 1))
    · exact Fo.Inv.old h hok d (j + 1) (by omega) hk
    · rw [hst] at hk
      unfold Pr.does at hk
      unfold Pr.ok at hok1
      cases ha : o.add with
      | true =>
        rw [ha] at hk hok1
        simp only [if_true] at hk hok1
        rw [put_new hok1] at hk
        exact absurd (mem_ins.2 (.inr he)) hk
      | false =>
        rw [ha] at hk hok1
        simp only [Bool.false_eq_true, if_false] at hk hok1
        have hek : e.1 = o.k := by
          rcases Decidable.em (e.1 = o.k) with h1 | h1
          · exact h1
          · exact absurd (mem_del.2 ⟨he, h1⟩) hk
        have hev : e.2 = o.v := srt_one hsr (k := o.k) (by rw [← hek]; exact he) hok1
        have hin : o.v ∈ s.tk := by
          rw [h.tk]
          exact List.mem_map.2 ⟨o, List.mem_filter.2 ⟨List.mem_of_getElem? ho, by rw [ha]; rfl⟩, rfl⟩
        have := List.count_pos_iff.2 hin
        unfold Fo.c
        rw [hev]
        omega
theorem Fo.Inv.power (h : s.Inv) (hok : s.Ok N) (ops : Int) (keep : List Bool) : (s.power ops keep).Inv := by
  have hnow : (s.d.fail ops).now = runs s.d.dur (s.d.ops.take (stay s.d.ops.length ops)) := rfl
  refine ⟨⟨fun x hx => ?_, fun z hz => ?_⟩, rfl, ?_, fun j => ?_⟩
  · have hx' : x ∈ failT s.fs ((manyC s.fs).map (updC ((s.d.fail ops).now.map Prod.snd))) keep := hx
    obtain ⟨f, hf, k, rfl, hn⟩ := failT_mem hx'
    have e : manyF ((manyC s.fs).map (updC ((s.d.fail ops).now.map Prod.snd))) f.i = (cnt (s.d.fail ops).now f.i : Nat) := manyF_upd _ hf
    have hn' : ¬ manyF ((manyC s.fs).map (updC ((s.d.fail ops).now.map Prod.snd))) f.i < 1 := hn
    show manyF ((manyC s.fs).map (updC ((s.d.fail ops).now.map Prod.snd))) f.i = ((cnt (s.d.fail ops).now f.i + ([] : List Int).count f.i : Nat) : Int) ∧ 1 ≤ cnt (s.d.fail ops).now f.i + ([] : List Int).count f.i
    rw [e] at hn' ⊢
    rw [List.count_nil, Nat.add_zero]
    exact ⟨rfl, by omega⟩
  · have hz' : 1 ≤ cnt (s.d.fail ops).now z := by
      have : 1 ≤ cnt (s.d.fail ops).now z + ([] : List Int).count z := hz
      rwa [List.count_nil, Nat.add_zero] at this
    obtain ⟨e, he, rfl⟩ := cnt_of hz'
    rw [hnow] at he
    have hle := stay_le s.d.ops.length ops
    have h1 := h.old hok (s.d.ops.length - stay s.d.ops.length ops) (stay s.d.ops.length ops) (by omega) he
    obtain ⟨f, hf, hfe⟩ := h.c.has _ h1
    have hm : 1 ≤ manyF ((manyC s.fs).map (updC ((s.d.fail ops).now.map Prod.snd))) f.i := by
      have e1 : manyF ((manyC s.fs).map (updC ((s.d.fail ops).now.map Prod.snd))) f.i = (cnt (s.d.fail ops).now f.i : Nat) := manyF_upd _ hf
      rw [e1, hfe]
      omega
    obtain ⟨k, hk⟩ := failT_has hm (keep := keep) hf
    exact ⟨_, hk, hfe⟩
  · have h1 := failT_used ((manyC s.fs).map (updC ((s.d.fail ops).now.map Prod.snd))) s.fs keep
    have h2 := h.used
    show (usedF (failT s.fs ((manyC s.fs).map (updC ((s.d.fail ops).now.map Prod.snd))) keep) : Int) ≤ s.q
    omega
  · show ((runs (runs s.d.dur (s.d.ops.take (stay s.d.ops.length ops))) ([].take j)).length : Int) ≤ s.most
    rw [List.take_nil]
    exact h.bound _
end
end Go.Proofs.YtbhmnmmockmibaaGreat

namespace Go.Proofs.YtbhmnmmockmibaaGreat
open Go.RowKit
abbrev scells (l : List (List UInt8)) : List Value := l.map fun k => .string (txt k)
section
variable {w : World} {X Y : Nat → Prop} {A A' : Option Addr} {c c' n : Nat} {l : List (List UInt8)}
theorem StX.at_ (h : RdX w X 1 A n (scells l)) {k : Nat} {x : List UInt8} (hk : l[k]? = some x) (hn : k < n) : ∃ ad : Addr, A = some ad ∧ w.cell? (ad.add k) = some (.string (txt x)) := by
  obtain ⟨ad, e, _, _, hc⟩ := h.2 (by omega)
  exact ⟨ad, e, hc k _ (by rw [List.getElem?_map, hk]; rfl)⟩
set_option maxHeartbeats 1000000 in
theorem sameTexts_eq (hl : n ≤ 1000) (hn : l.length = n) (h : RdX w X 1 A n (scells l)) (h' : RdX w Y 1 A' n (scells l)) :
    Calls Tryz.prog 50 #[.slice A n c, .slice A' n c'] w fun e w' => e = .returned (.bool true) ∧ ∃ m, w' = w.drewN m := by
  have hlen : (n : Int) ≤ 1000 := by omega
  go_enter Tryz.func50, Tryz.ntmps50
  go_wp2
  go_loopw [5] (fun i wr => ∃ k m : Nat, k ≤ n ∧ i = .int .i64 (k : Int) ∧ wr = w.drewN m) (fun i _ => n - (intOf i).toNat)
  case atStart => exact ⟨0, 0, by omega, rfl, rfl⟩
  case round =>
    obtain ⟨k, m, hk, rfl, rfl⟩ := hrel
    by_cases hlt : k < n
    · have hg : l[k]? = some (l[k]'(by omega)) := List.getElem?_eq_getElem _
      obtain ⟨ad, rfl, hc⟩ := StX.at_ h hg hlt
      obtain ⟨ad', rfl, hc'⟩ := StX.at_ h' hg hlt
      obtain ⟨x, hx⟩ : ∃ x, l[k]'(by omega) = x := ⟨_, rfl⟩
      rw [hx] at hc hc'
      clear hg hx
      go_wp2
      go_quiet (fail)
      go_wp2
      go_roundw
      case rel => exact ⟨k + 1, _, by omega, by go_num, rfl⟩
      case measure => simp [intOf]; omega
    · obtain rfl : k = n := by omega
      go_wp2
      go_ret
      exact ⟨rfl, _, rfl⟩
end
theorem ReV.rd {w : World} {base : Nat} {v : Value} {e : Int} {ns : List (List UInt8)} {b : List UInt8} (h : ReV w base v e ns b) : ReR w (fun k => k < base) v e ns b := by
  obtain ⟨A, n, c, A', n', c', h0, h1, h2, h3, h4⟩ := h
  subst h2 h4
  exact ⟨A, _, c, A', _, c', h0, rfl, own_avoid h1 fun _ e => e, rfl, own_avoid h3 fun _ e => e⟩
section
variable {w : World} {X Y : Nat → Prop} {x y : Value} {e : Int} {ns : List (List UInt8)} {b : List UInt8}
set_option maxHeartbeats 2000000 in
theorem same_eq (hx : ReR w X x e ns b) (hy : ReR w Y y e ns b) (hn : ns.length ≤ 1000) (hb : b.length ≤ 60000) :
    Calls Tryz.prog 15 #[x, y] w fun en w' => en = .returned (.bool true) ∧ Below w.heap.size w w' := by
  obtain ⟨A, n, c, A', n', c', rfl, hn1, h1, hn2, h2⟩ := hx
  obtain ⟨B, m, d, B', m', d', rfl, hm1, k1, hm2, k2⟩ := hy
  obtain rfl : n = m := hn1.trans hm1.symm
  obtain rfl : n' = m' := hn2.trans hm2.symm
  have hst := Lib.hid (fun wx (hw : Below w.heap.size w wx) => sameTexts_eq (c := c) (c' := d) (by omega) hn1.symm (h1.below hw) (k1.below hw))
  have hsb := Lib.hid (fun wx (hw : Below w.heap.size w wx) => sameBytes_any A' B' c' d' _ _ b b wx (by omega) (by rw [hn2] at h2; exact (h2.below hw).reads) (by rw [hn2] at k2; exact (k2.below hw).reads))
  have hd : decide (b = b) = true := decide_eq_true rfl
  rw [← hn2, hd] at hsb
  obtain ⟨W, hW⟩ : ∃ W, Hid ((w.alloc (.cells #[.int .i64 e, .slice A n c, .slice A' n' c'] 51)).alloc (.cells #[.int .i64 e, .slice B n d, .slice B' n' d'] 53) = W) := ⟨_, rfl⟩
  obtain ⟨g, hg⟩ : ∃ g, Hid (w.heap.size = g) := ⟨_, rfl⟩
  obtain ⟨g', hg'⟩ : ∃ g, Hid (w.heap.size + 1 = g) := ⟨_, rfl⟩
  have hbw : Hid (Below w.heap.size w W) := by rw [← hW.out]; exact (below_new _ _).alloc (by simp) _
  have e0 : Hid (W.heap[g]? = some (.cells #[.int .i64 e, .slice A n c, .slice A' n' c'] 51 (0, 0))) := by
    rw [← hW.out, ← hg.out]
    rw [heap_alloc_old _ _ (by simp)]
    exact heap_alloc_new _ _
  have e1 : Hid (W.heap[g']? = some (.cells #[.int .i64 e, .slice B n d, .slice B' n' d'] 53 (0, 0))) := by
    rw [← hW.out, ← hg'.out]
    have := heap_alloc_new (w.alloc (.cells #[.int .i64 e, .slice A n c, .slice A' n' c'] 51)) (.cells #[.int .i64 e, .slice B n d, .slice B' n' d'] 53)
    rwa [World.size_alloc] at this
  obtain ⟨a0, a1, a2⟩ := tri_cell e0.out
  obtain ⟨b0, b1, b2⟩ := tri_cell e1.out
  clear h1 h2 k1 k2 hd hn hb hn1 hn2 hm1 hm2
  go_enter Tryz.func15, Tryz.ntmps15
  go_upto_region 1 with fail
  rw [hg'.out, hg.out, hW.out]
  go_wp2_with (first
    | (go_at_call 50; refine (hst.out _ hbw.out).mono ?_; rintro _ w2 ⟨rfl, m, rfl⟩)
    | (go_at_call 51; refine (hsb.out _ (below_drewN hbw.out _)).mono ?_; rintro _ w3 ⟨rfl, m2, rfl⟩))
  go_ret
  exact ⟨rfl, below_drewN hbw.out _⟩
end
end Go.Proofs.YtbhmnmmockmibaaGreat

namespace Go.Proofs.YtbhmnmmockmibaaGreat
open Go.RowKit
section
variable {w : World} {k : Int} {n t : String} {Ab : Option Addr} {cb nl Bb : Nat} {l : List UInt8}
theorem ret_rc {fn : Func} {R : Ending → World → Prop} {p : Tmp} (h : fn.results = #[.cell p 46]) {a : Act} {w : World} (g : Nat) (x y z u : Value) (t : TypeId) (fr : Nat × Nat)
    (hp : a.tmps.getD p undef = .pointer (some ⟨g, 0, none⟩)) (hg : w.heap[g]? = some (.cells #[x, y, z, u] t fr)) (hd : a.defers = []) (hR : R (.returned (.agg #[x, y, z, u])) w) : bodyPost Tryz.prog fn R .ret a w := by
  refine bodyPost_ret (v := .agg #[x, y, z, u]) ?_ hd hR
  have hp' : a.tmps[p]?.getD undef = .pointer (some ⟨g, 0, none⟩) := by simpa using hp
  have hty := run_loadVar_row (P := Tryz.prog) w g t 46 #[x, y, z, u] fr _ hg Tryz.underlying46 rfl size_rc
  simp [results, h, hp', asAddr, hty]
abbrev fcv (k : Int) (n t : List UInt8) (Ab : Option Addr) (nl cb : Nat) : Value := .agg #[.int .u8 k, .string (txt n), .string (txt t), .slice Ab nl cb]
set_option maxHeartbeats 4000000 in
set_option maxRecDepth 100000 in
theorem call_any {n t : List UInt8} (hnl : l.length = nl) (hl : nl ≤ 60000) (hB : Bb ≤ w.heap.size) (hr : RdB w Bb Ab l) :
    Calls Tryz.prog 12 #[fcv k n t Ab nl cb] w fun e w' => ∃ A c, e = .returned (fcv k n t A nl c) ∧ w'.ownsRow w.heap.size 5 1 (.slice A nl c) nl (bs l) ∧ Below w.heap.size w w' := by
  obtain ⟨g1, hg1⟩ : ∃ g, Hid (w.heap.size = g) := ⟨_, rfl⟩
  obtain ⟨g2, hg2⟩ : ∃ g, Hid (w.heap.size + 1 = g) := ⟨_, rfl⟩
  obtain ⟨g3, hg3⟩ : ∃ g, Hid (w.heap.size + 1 + 1 = g) := ⟨_, rfl⟩
  obtain ⟨W, hW⟩ : ∃ W, Hid ((w.alloc (.cells #[.int .u8 k, .string (txt n), .string (txt t), .slice Ab nl cb] 40)).alloc (.cells #[.int .u8 0, .string ⟨#[]⟩, .string ⟨#[]⟩, .slice none 0 0] 46) = W) := ⟨_, rfl⟩
  have hs := Lib.hid (show W.heap.size = g3 by rw [← hW.out, ← hg3.out]; simp)
  have hbw : Hid (Below w.heap.size w W) := by rw [← hW.out]; exact (below_new _ _).alloc (by simp) _
  have e1 : Hid (W.heap[g1]? = some (.cells #[.int .u8 k, .string (txt n), .string (txt t), .slice Ab nl cb] 40 (0, 0))) := by
    rw [← hW.out, ← hg1.out]
    rw [heap_alloc_old _ _ (by simp)]
    exact heap_alloc_new _ _
  have e2 : Hid (W.heap[g2]? = some (.cells #[.int .u8 0, .string ⟨#[]⟩, .string ⟨#[]⟩, .slice none 0 0] 46 (0, 0))) := by
    rw [← hW.out, ← hg2.out]
    have := heap_alloc_new (w.alloc (.cells #[.int .u8 k, .string (txt n), .string (txt t), .slice Ab nl cb] 40)) (.cells #[.int .u8 0, .string ⟨#[]⟩, .string ⟨#[]⟩, .slice none 0 0] 46)
    rwa [World.size_alloc] at this
  obtain ⟨a0, a1, a2, a3⟩ := quad_cell e1.out
  obtain ⟨b0, b1, b2, b3⟩ := quad_cell e2.out
  have Hr := Lib.hid hr
  have HB := Lib.hid hB
  have Hnl := Lib.hid hnl
  clear hr hB hnl
  go_enter Tryz.func12, Tryz.ntmps12
  go_upto_region 1 with fail
  rw [hg2.out, hg1.out, hW.out]
  go_upto_region 2 with fail
  rw [hs.out]
  obtain ⟨W3, hW3⟩ : ∃ W', Hid (W.alloc (.cells #[.int .u8 k, .string (txt n), .string (txt t), .slice none 0 0] 46) = W') := ⟨_, rfl⟩
  have e3 : Hid (W3.heap[g3]? = some (.cells #[.int .u8 k, .string (txt n), .string (txt t), .slice none 0 0] 46 (0, 0))) := by rw [← hW3.out, ← hs.out]; exact heap_alloc_new _ _
  have hb3 : Hid (Below W.heap.size W W3) := by rw [← hW3.out]; exact below_new _ _
  have f1 := Lib.hid ((hb3.out.block _ (Array.getElem?_eq_some_iff.1 e1.out).1).trans e1.out)
  have f2 := Lib.hid ((hb3.out.block _ (Array.getElem?_eq_some_iff.1 e2.out).1).trans e2.out)
  rw [hW3.out]
  clear a0 a1 a2 a3 b0 b1 b2 b3
  obtain ⟨a0, a1, a2, a3⟩ := quad_cell f1.out
  obtain ⟨c0, c1, c2, c3⟩ := quad_cell e3.out
  have cf := fun i => d_frozen (i := i) e3.out
  obtain ⟨B3, hB3⟩ : ∃ b, Hid (W3.heap.size = b) := ⟨_, rfl⟩
  have hRd := Lib.hid ((Hr.out.below (hbw.out.mono HB.out)).below (hb3.out.mono (Nat.le_trans HB.out hbw.out.size)))
  go_upto_region 3 with (at_builtin; refine push_row (.tmp 12) (.tmp 14) (l := []) (base := B3) (B := Bb) (World.ownsRow_nil _ _ _ _) (by rw [hB3.out]; exact Nat.le_refl _) hRd.out (by have := Hnl.out; simp only [List.length_nil]; omega) rfl rfl rfl (by rw [Hnl.out]; rfl) ?_; intro v4 w4 ho4 hb4 _ _; rw [List.nil_append, Hnl.out] at ho4; obtain ⟨A4, k4, rfl, _, _, _⟩ := own_form ho4; have Ho4 := Lib.hid ho4; have Hb4 := Lib.hid hb4; clear ho4 hb4; have x3 := Lib.hid ((Hb4.out.block _ (by rw [← hB3.out]; exact (Array.getElem?_eq_some_iff.1 e3.out).1)).trans e3.out); have x2 := Lib.hid ((Hb4.out.block _ (by rw [← hB3.out]; exact (Array.getElem?_eq_some_iff.1 f2.out).1)).trans f2.out); have cf4 := fun i => d_frozen (i := i) x3.out; obtain ⟨z0, z1, z2, z3⟩ := quad_cell x3.out)
  obtain ⟨W5, hW5⟩ : ∃ W', Hid (w4.setCell ⟨g3, 3, none⟩ (.slice A4 nl k4) = W') := ⟨_, rfl⟩
  have y3 := Lib.hid (heap_setCell_same w4 g3 3 _ _ (.slice A4 nl k4) x3.out)
  have y3 := Lib.hid (show (w4.setCell ⟨g3, 3, none⟩ (.slice A4 nl k4)).heap[g3]? = some (.cells #[.int .u8 k, .string (txt n), .string (txt t), .slice A4 nl k4] 46 (0, 0)) from y3.out)
  have ht5 := Touch.cell1 w4 g3 3 (.slice A4 nl k4)
  rw [hW5.out] at y3 ht5 ⊢
  have y2 := Lib.hid (ht5.heap (show ¬ g2 = g3 by have := hg2.out; have := hg3.out; omega) x2.out)
  obtain ⟨d0, d1, d2, d3⟩ := quad_cell y3.out
  go_wp2_with (first | (refine wpList_store_row rfl 46 (.tmp 2) (.tmp 17) rfl g2 _ rfl rfl _ _ y2.out size_rc rfl (by simp [Value.oneCell']) ?_) | (refine wpList_load_row rfl 46 (.tmp 3) rfl g3 rfl _ _ _ _ y3.out Tryz.underlying46 rfl size_rc ?_))
  have ht6 := Touch.row1 W5 g2 #[.int .u8 k, .string (txt n), .string (txt t), .slice A4 nl k4]
  refine ret_rc rfl g2 _ _ _ _ _ (0, 0) rfl (setRow_heap _ _ _ _ _ _ y2.out) rfl ?_
  have hlo : w.heap.size ≤ B3 := by have := hbw.out.size; have := hb3.out.size; rw [← hB3.out]; omega
  have h35 : g3 < B3 := by rw [← hB3.out]; exact (Array.getElem?_eq_some_iff.1 e3.out).1
  have h25 : g2 < B3 := by rw [← hB3.out]; exact (Array.getElem?_eq_some_iff.1 f2.out).1
  have ho5 := own_touch Ho4.out ht5 fun b hb e => by have := (Ho4.out.lt b hb).1; omega
  have ho6 := own_touch ho5 ht6 fun b hb e => by have := (ho5.lt b hb).1; omega
  have hb4 : Below w.heap.size w w4 := (hbw.out.trans (hb3.out.mono hbw.out.size)).trans (Hb4.out.mono hlo)
  have hb5 : Below w.heap.size w W5 := hb4.trans (ht5.below hb4.size fun b e => by have := hg3.out; omega)
  exact ⟨A4, k4, rfl, own_base ho6 hlo, hb5.trans (ht6.below hb5.size fun b e => by have := hg2.out; omega)⟩
end
end Go.Proofs.YtbhmnmmockmibaaGreat
