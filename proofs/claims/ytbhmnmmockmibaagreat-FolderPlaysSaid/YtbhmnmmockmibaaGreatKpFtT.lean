/- A table's failure, by definition, and what follows of it; how sizes go on. Conditions: none. The walk of Fail. Conditions: at most 1000 files, of at most 1000 parts of 60 bytes, 1000 names, 1000 told. -/
import Derived.Test.YtbhmnmmockmibaaGreatKpFtR
namespace Go.Proofs.YtbhmnmmockmibaaGreat
open Go.RowKit Go.Maps
theorem Tb.Ok.upd {T : Tb} {N M : Nat} {z n : Int} {m : List Pt} (h : T.Ok N) (hn : -9223372036854775808 ≤ n ∧ n ≤ 9223372036854775807) (hm : Sz m M) (hNM : N ≤ M) : ({ T with fs := updF T.fs z n m } : Tb).Ok M := by
  refine ⟨h.q, Nat.le_trans h.made hNM, by show (updF _ _ _ _).length ≤ _; rw [updF_len]; exact Nat.le_trans h.len hNM, ?_, fun x hx => ?_, fun x hx => ?_, fun x hx => ?_⟩
  · have h2 : (T.fs.map Fi.i).Pairwise (· < ·) := by rw [List.pairwise_map]; exact h.sort
    rw [← updF_i T.fs z n m, List.pairwise_map] at h2
    exact h2
  · obtain ⟨f, hf, e, _⟩ := updF_mem hx
    rw [e]
    exact h.num f hf
  · obtain ⟨f, hf, _, _, hc⟩ := updF_mem hx
    rcases hc with ⟨_, e, _⟩ | ⟨_, rfl⟩
    · rw [e]; exact hn
    · exact h.many _ hf
  · obtain ⟨f, hf, _, _, hc⟩ := updF_mem hx
    rcases hc with ⟨_, _, e⟩ | ⟨_, rfl⟩
    · rw [e]; exact hm
    · exact (h.size _ hf).mono hNM
theorem Tb.Ok.sub {T : Tb} {N : Nat} {fs : List Fi} (h : T.Ok N) (hs : fs.Sublist T.fs) : ({ T with fs := fs } : Tb).Ok N :=
  ⟨h.q, h.made, Nat.le_trans hs.length_le h.len, h.sort.sublist hs, fun f hf => h.num f (hs.mem hf), fun f hf => h.many f (hs.mem hf), fun f hf => h.size f (hs.mem hf)⟩
theorem leaveF_sub (fs : List Fi) (z n : Int) : (leaveF fs z n).Sublist fs := by
  unfold leaveF delF
  split
  · exact List.filter_sublist
  · exact List.Sublist.refl _
theorem wrap_in (z : Int) : -9223372036854775808 ≤ wrap64 z ∧ wrap64 z ≤ 9223372036854775807 := by
  unfold wrap64
  omega
theorem Tb.Ok.drop {T : Tb} {N : Nat} {z : Int} {f : Fi} (h : T.Ok N) (hf : findF T.fs z = some f) : (T.drop z f).Ok N :=
  (h.upd (wrap_in _) (h.size f (findF_mem hf).1) (Nat.le_refl _)).sub (leaveF_sub _ _ _)
theorem Made.ok {w w' : World} {Z : Nat → Prop} {t N : Nat} {T T' : Tb} (h : Made w w' Z t T T') (hok : T.Ok N) : T'.Ok (N + 1) := by
  obtain ⟨g, _, hfs⟩ := h.fs
  refine ⟨by rw [h.q]; exact hok.q, by rw [h.made]; have := hok.made; omega, by rw [hfs, List.length_append]; have := hok.len; simp; omega, ?_, fun x hx => ?_, fun x hx => ?_, fun x hx => ?_⟩
  · rw [hfs, List.pairwise_append]
    refine ⟨hok.sort, by simp, fun a ha b hb => ?_⟩
    rw [List.mem_singleton] at hb
    subst hb
    have := (hok.num a ha).2
    show a.i < (T.made : Int) + 1
    omega
  all_goals
    rw [hfs, List.mem_append, List.mem_singleton] at hx
    rcases hx with hx | rfl
  · have := hok.num x hx; rw [h.made]; omega
  · rw [h.made]; show 1 ≤ (T.made : Int) + 1 ∧ (T.made : Int) + 1 ≤ ((T.made + 1 : Nat) : Int); omega
  · exact hok.many x hx
  · show -9223372036854775808 ≤ (0 : Int) ∧ (0 : Int) ≤ 9223372036854775807; omega
  · exact (hok.size x hx).mono (by omega)
  · exact ⟨by simp, by simp⟩
section
variable {done rest : List Fi} {f : Fi}
theorem mid_lt (hs : (done ++ f :: rest).Pairwise fun a b => a.i < b.i) : (∀ x ∈ done, x.i < f.i) ∧ ∀ x ∈ rest, f.i < x.i := by
  rw [List.pairwise_append, List.pairwise_cons] at hs
  exact ⟨fun x hx => hs.2.2 x hx f (by simp), hs.2.1.1⟩
theorem updF_mid (hs : (done ++ f :: rest).Pairwise fun a b => a.i < b.i) (n : Int) (m : List Pt) : updF (done ++ f :: rest) f.i n m = done ++ ⟨f.i, f.g, n, m⟩ :: rest := by
  obtain ⟨h1, h2⟩ := mid_lt hs
  unfold updF
  rw [List.map_append, List.map_cons, if_pos rfl]
  congr 1
  · conv => rhs; rw [← List.map_id done]
    apply List.map_congr_left
    intro x hx
    have := h1 x hx
    rw [if_neg (by omega)]
    rfl
  · congr 1
    conv => rhs; rw [← List.map_id rest]
    apply List.map_congr_left
    intro x hx
    have := h2 x hx
    rw [if_neg (by omega)]
    rfl
theorem delF_mid (hs : (done ++ f :: rest).Pairwise fun a b => a.i < b.i) : delF (done ++ f :: rest) f.i = done ++ rest := by
  obtain ⟨h1, h2⟩ := mid_lt hs
  unfold delF
  rw [List.filter_append, List.filter_cons_of_neg (by simp), List.filter_eq_self.2, List.filter_eq_self.2]
  · intro x hx
    have := h2 x hx
    have hne : ¬ x.i = f.i := by omega
    simp [hne]
  · intro x hx
    have := h1 x hx
    have hne : ¬ x.i = f.i := by omega
    simp [hne]
theorem findF_mid (hs : (done ++ f :: rest).Pairwise fun a b => a.i < b.i) : findF (done ++ f :: rest) f.i = some f := findF_of_mem hs (by simp)
end
def failF (f : Fi) (names : List En) (keep : List Bool) : Fi := ⟨f.i, f.g, manyF names f.i, failM f.m (keep.take (volM f.m))⟩
def stayF (f : Fi) : List Fi := if f.n < 1 then [] else [f]
def failT : List Fi → List En → List Bool → List Fi
  | [], _, _ => []
  | f :: fs, names, keep => stayF (failF f names keep) ++ failT fs names (keep.drop (volM f.m))
theorem failT_mem {names : List En} {x : Fi} : ∀ {fs : List Fi} {keep : List Bool}, x ∈ failT fs names keep → ∃ f ∈ fs, ∃ k, x = failF f names k ∧ ¬ x.n < 1
  | [], _, h => by cases h
  | f :: fs, keep, h => by
    unfold failT at h
    rw [List.mem_append] at h
    rcases h with h | h
    · unfold stayF at h
      split at h
      · cases h
      · rename_i hn
        rw [List.mem_singleton] at h
        subst h
        exact ⟨f, by simp, keep, rfl, hn⟩
    · obtain ⟨y, hy, k, e, hn⟩ := failT_mem h
      exact ⟨y, by simp [hy], k, e, hn⟩
theorem failT_i (names : List En) : ∀ (fs : List Fi) (keep : List Bool), ((failT fs names keep).map Fi.i).Sublist (fs.map Fi.i)
  | [], _ => List.Sublist.refl _
  | f :: fs, keep => by
    have ih := failT_i names fs (keep.drop (volM f.m))
    unfold failT stayF
    split
    · exact List.Sublist.cons _ ih
    · exact ih.cons_cons _
theorem failT_used (names : List En) : ∀ (fs : List Fi) (keep : List Bool), usedF (failT fs names keep) ≤ usedF fs
  | [], _ => Nat.le_refl _
  | f :: fs, keep => by
    have ih := failT_used names fs (keep.drop (volM f.m))
    have h1 := failM_less f.m (keep.take (volM f.m))
    have e : usedF (f :: fs) = (contM f.m).length + usedF fs := by simp [usedF, sumF]
    rw [e]
    unfold failT stayF
    split
    · rw [List.nil_append]; omega
    · have e2 : usedF ([failF f names keep] ++ failT fs names (keep.drop (volM f.m))) = (contM (failM f.m (keep.take (volM f.m)))).length + usedF (failT fs names (keep.drop (volM f.m))) := by simp [usedF, sumF, failF]
      rw [e2]
      omega
theorem Tb.Ok.fail {T : Tb} {N : Nat} {names : List En} {keep : List Bool} (h : T.Ok N) (hf : FitE names) : ({ T with fs := failT T.fs names keep } : Tb).Ok N := by
  have hsub := failT_i names T.fs keep
  refine ⟨h.q, h.made, ?_, ?_, fun x hx => ?_, fun x hx => ?_, fun x hx => ?_⟩
  · have := hsub.length_le
    rw [List.length_map, List.length_map] at this
    exact Nat.le_trans this h.len
  · have h2 : (T.fs.map Fi.i).Pairwise (· < ·) := by rw [List.pairwise_map]; exact h.sort
    have h3 := h2.sublist hsub
    rw [List.pairwise_map] at h3
    exact h3
  all_goals obtain ⟨f, hf', k, rfl, _⟩ := failT_mem hx
  · exact h.num f hf'
  · exact manyF_fit hf f.i
  · exact (h.size f hf').fail _
end Go.Proofs.YtbhmnmmockmibaaGreat

namespace Go.Proofs.YtbhmnmmockmibaaGreat
open Go.RowKit Go.Maps
theorem run_frontK (w : World) (A : Option Addr) {n m c : Nat} (hm : m ≤ c) :
    (Instr.slice 41 (.slice A n c) none (some (.int .i64 (m : Int))) none).run Tryz.prog w = .ok (.slice A m c) w := by
  have hm' : (m : Int) ≤ c := by omega
  go_simp
theorem run_backK (w : World) (A : Option Addr) {n m c : Nat} (hm : m ≤ n) (hc : n ≤ c) :
    (Instr.slice 41 (.slice A n c) (some (.int .i64 (m : Int))) none none).run Tryz.prog w = .ok (.slice (if c = m then A else A.map (·.add m)) (n - m) (c - m)) w := by
  have hm' : (m : Int) ≤ n := by omega
  have hc' : (n : Int) ≤ c := by omega
  go_simp
section
variable {w w' : World} {X : Nat → Prop} {A : Option Addr}
abbrev KeX (w : World) (X : Nat → Prop) (A : Option Addr) (l : List Bool) : Prop := RdX w X 1 A l.length (kc l)
theorem KeX.front {l : List Bool} (h : KeX w X A l) (j : Nat) : KeX w X A (l.take j) := by
  refine ⟨by rw [kc_len]; omega, fun hn => ?_⟩
  rw [List.length_take] at hn
  obtain ⟨ad, e, hb, hx, hc⟩ := h.2 (by omega)
  refine ⟨ad, e, hb, hx, fun i u hu => hc i u ?_⟩
  unfold kc at hu ⊢
  rw [List.map_take, List.getElem?_take] at hu
  split at hu
  · exact hu
  · cases hu
theorem KeX.back {l : List Bool} {c m : Nat} (h : KeX w X A l) (hm : m ≤ l.length) (hc : l.length ≤ c) : KeX w X (if c = m then A else A.map (·.add m)) (l.drop m) := by
  refine ⟨by rw [kc_len]; omega, fun hn => ?_⟩
  rw [List.length_drop] at hn
  obtain ⟨ad, rfl, hb, hx, hcell⟩ := h.2 (by omega)
  rw [if_neg (by omega)]
  refine ⟨ad.add m, rfl, by rw [block_of_add]; exact hb, by rw [block_of_add]; exact hx, fun j u hu => ?_⟩
  rw [add_of_add]
  refine hcell _ u ?_
  unfold kc at hu ⊢
  rw [List.map_drop, List.getElem?_drop] at hu
  exact hu
end
structure FsSt (w wr : World) (Z : Nat → Prop) (t N : Nat) (T : Tb) (names : List En) (keep : List Bool) (k : Nat) (done : List Fi) (kk : List Bool) (Ak : Option Addr) (nk ck : Nat) : Prop where
  n : kk.length = nk
  cap : nk ≤ ck
  small : nk ≤ 1000
  kr : KeX wr (T.X t) Ak kk
  tab : TabAt wr Z t { T with fs := done ++ T.fs.drop k }
  ok : ({ T with fs := done ++ T.fs.drop k } : Tb).Ok N
  eq : done ++ failT (T.fs.drop k) names kk = failT T.fs names keep
  touch : Touch (T.X t) w wr
  sub : ∀ x ∈ done, ∃ f ∈ T.fs, x.g = f.g
section
variable {w wr : World} {Z : Nat → Prop} {t N k nk ck : Nat} {T : Tb} {names : List En} {keep kk : List Bool} {done : List Fi} {Ak : Option Addr}
theorem FsSt.X (h : FsSt w wr Z t N T names keep k done kk Ak nk ck) (b : Nat) (hb : ({ T with fs := done ++ T.fs.drop k } : Tb).X t b) : T.X t b := by
  rcases hb with e | e | ⟨x, hx, e⟩
  · exact .inl e
  · exact .inr (.inl e)
  · have hx : x ∈ done ++ T.fs.drop k := hx
    rw [List.mem_append] at hx
    rcases hx with hx | hx
    · obtain ⟨f, hf, e'⟩ := h.sub x hx
      exact .inr (.inr ⟨f, hf, by rw [e, e']⟩)
    · exact .inr (.inr ⟨x, List.mem_of_mem_drop hx, e⟩)
theorem drop_at {f : Fi} (hf : T.fs[k]? = some f) : T.fs.drop k = f :: T.fs.drop (k + 1) := by
  obtain ⟨hk, e⟩ := List.getElem?_eq_some_iff.1 hf
  rw [List.drop_eq_getElem_cons hk, e]
theorem leave_mid {done rest : List Fi} {f : Fi} (hs : (done ++ f :: rest).Pairwise fun a b => a.i < b.i) : leaveF (done ++ f :: rest) f.i f.n = done ++ stayF f ++ rest := by
  unfold leaveF stayF
  by_cases h : f.n < 1
  · rw [if_pos h, if_pos h, delF_mid hs, List.append_nil]
  · rw [if_neg h, if_neg h, List.append_assoc]
    rfl
theorem FsSt.below {w' : World} (h : FsSt w wr Z t N T names keep k done kk Ak nk ck) (hb : Below wr.heap.size wr w') : FsSt w w' Z t N T names keep k done kk Ak nk ck :=
  ⟨h.n, h.cap, h.small, h.kr.below hb, h.tab.below hb, h.ok, h.eq, h.touch.trans (.of hb), h.sub⟩
theorem FsSt.next {wl : World} {f : Fi} {j : Nat} (h : FsSt w wr Z t N T names keep k done kk Ak nk ck) (hf : T.fs[k]? = some f) (hj : j = min (volM f.m) nk) (hfit : FitE names) (ht : Touch (T.X t) wr wl)
    (hT : TabAt wl Z t { T with fs := leaveF (done ++ failF f names kk :: T.fs.drop (k + 1)) f.i (manyF names f.i) }) :
    FsSt w wl Z t N T names keep (k + 1) (done ++ stayF (failF f names kk)) (kk.drop j) (if ck = j then Ak else Ak.map (·.add j)) (nk - j) (ck - j) := by
  have hd := drop_at hf
  have hmem := List.mem_of_getElem? hf
  have hok := h.ok
  rw [hd] at hok
  have hs1 := hok.sort
  have hu := updF_mid hs1 (manyF names f.i) (failM f.m (kk.take (volM f.m)))
  have hup := hok.upd (z := f.i) (manyF_fit hfit f.i) ((hok.size f (by simp)).fail (kk.take (volM f.m))) (Nat.le_refl _)
  simp only at hup
  rw [hu] at hup
  have hlm := leave_mid hup.sort
  have hlm' : leaveF (done ++ failF f names kk :: T.fs.drop (k + 1)) f.i (manyF names f.i) = done ++ stayF (failF f names kk) ++ T.fs.drop (k + 1) := hlm
  have hok2 := hup.sub (leaveF_sub (done ++ failF f names kk :: T.fs.drop (k + 1)) f.i (manyF names f.i))
  simp only at hok2
  rw [hlm'] at hT hok2
  have hn := h.n
  have hdrop : kk.drop (volM f.m) = kk.drop j := by
    by_cases hv : volM f.m ≤ nk
    · rw [hj, Nat.min_eq_left hv]
    · rw [hj, Nat.min_eq_right (by omega), ← hn, List.drop_length, List.drop_eq_nil_of_le (by omega)]
  refine ⟨by rw [List.length_drop, hn], by have := h.cap; omega, by have := h.small; omega, ?_, hT, hok2, ?_, h.touch.trans ht, fun x hx => ?_⟩
  · exact KeX.back (h.kr.keep ht) (by rw [hn, hj]; omega) (by rw [hn]; exact h.cap)
  · rw [← h.eq, hd, List.append_assoc]
    show _ = done ++ (stayF (failF f names kk) ++ failT (T.fs.drop (k + 1)) names (kk.drop (volM f.m)))
    rw [hdrop]
  · rw [List.mem_append] at hx
    rcases hx with hx | hx
    · exact h.sub x hx
    · unfold stayF at hx
      split at hx
      · cases hx
      · rw [List.mem_singleton] at hx
        exact ⟨f, hmem, by rw [hx]; rfl⟩
theorem FsSt.fail {wv : World} {f : Fi} {j : Nat} (h : FsSt w wr Z t N T names keep k done kk Ak nk ck) (hf : T.fs[k]? = some f) (hj : j = min (volM f.m) nk) (hN : N ≤ 1000) (hZ : ∀ b, Z b → b < w.heap.size) (hb : Below wr.heap.size wr wv) :
    Calls Tryz.prog 64 #[.pointer (some ⟨f.g, 0, none⟩), .slice Ak j ck] wv fun e w' => e = .returned (.tuple #[]) ∧ Touch (T.X t) wr w' ∧ TabAt w' Z t { T with fs := done ++ ⟨f.i, f.g, f.n, failM f.m (kk.take (volM f.m))⟩ :: T.fs.drop (k + 1) } := by
  have hd := drop_at hf
  have hmem := List.mem_of_getElem? hf
  have hT := h.tab.below hb
  have hok := h.ok
  rw [hd] at hok hT
  have hfind := findF_mid hok.sort
  obtain ⟨A, n, c, hv, hF⟩ := hT.filed hfind
  obtain ⟨A', c', ps, e, hcap, hp, hsay⟩ := hF
  injection e with e1 e2 e3
  subst e1 e2 e3
  have hsm : SmM (says ps) := by rw [hsay]; exact (hok.size f (by simp)).sm hN
  have hn := h.n
  have htake : kk.take (volM f.m) = kk.take j := by
    by_cases hvv : volM f.m ≤ nk
    · rw [hj, Nat.min_eq_left hvv]
    · rw [hj, Nat.min_eq_right (by omega), ← hn, List.take_length, List.take_of_length_le (by omega)]
  have hjl : (kk.take j).length = j := by rw [List.length_take, hn, hj]; omega
  have hkr := KeX.front (h.kr.below hb) j
  have hcall := fail_any (nm := .int .i64 f.n) hv hsm hp (Nat.le_refl _) hkr.reads (ck := ck) (by rw [hjl, hj]; have := h.cap; omega) (by rw [hjl, hj]; have := h.small; omega)
  rw [hjl] at hcall
  refine hcall.mono ?_
  rintro e w2 ⟨rfl, ht, v, hv', hF'⟩
  refine ⟨rfl, (Touch.of hb).trans (ht.mono fun b _ e => .inr (.inr ⟨f, hmem, e⟩)), ?_⟩
  have hu := updF_mid hok.sort f.n (failM f.m (kk.take (volM f.m)))
  have := hT.upd hok.sort hfind (n := f.n) (m := failM f.m (kk.take (volM f.m))) ht hv' (by
    rw [hsay, ← htake] at hF'
    refine hF'.mono fun b _ hb' => hT.lowF (fun b hzb => ?_) b hb'
    exact Nat.lt_of_lt_of_le (hZ b hzb) (Nat.le_trans h.touch.size hb.size))
  simp only at this
  rw [hu] at this
  exact this
theorem FsSt.many {wf : World} {f : Fi} (h : FsSt w wr Z t N T names keep k done kk Ak nk ck) (hf : T.fs[k]? = some f) (hN : N ≤ 1000) (hfit : FitE names) (ht : Touch (T.X t) wr wf)
    (hT : TabAt wf Z t { T with fs := done ++ ⟨f.i, f.g, f.n, failM f.m (kk.take (volM f.m))⟩ :: T.fs.drop (k + 1) }) :
    wf.frozen? ⟨f.g, 1, none⟩ = false ∧ (∃ u, wf.cell? ⟨f.g, 1, none⟩ = some u) ∧ Calls Tryz.prog 65 #[.pointer (some ⟨t, 5, none⟩), .int .i64 f.i, .pointer (some ⟨f.g, 0, none⟩)] (wf.setCell ⟨f.g, 1, none⟩ (.int .i64 (manyF names f.i))) fun e w' => e = .returned (.tuple #[]) ∧ Touch (T.X t) wr w' ∧
      TabAt w' Z t { T with fs := leaveF (done ++ failF f names kk :: T.fs.drop (k + 1)) f.i (manyF names f.i) } := by
  have hd := drop_at hf
  have hmem := List.mem_of_getElem? hf
  have hok := h.ok
  rw [hd] at hok
  have hz := num_ok hok hN (f := f) (by simp)
  have hu := updF_mid hok.sort f.n (failM f.m (kk.take (volM f.m)))
  have hup := hok.upd (z := f.i) (hok.many f (by simp)) ((hok.size f (by simp)).fail (kk.take (volM f.m))) (Nat.le_refl _)
  simp only at hup
  rw [hu] at hup
  have hfind := findF_mid hup.sort
  simp only at hfind
  obtain ⟨A, n, c, hv, hF⟩ := hT.filed hfind
  simp only at hv
  have htc := Touch.cell1 wf f.g 1 (.int .i64 (manyF names f.i))
  have hX : ∀ b, ({ T with fs := done ++ ⟨f.i, f.g, f.n, failM f.m (kk.take (volM f.m))⟩ :: T.fs.drop (k + 1) } : Tb).X t b → T.X t b := by
    rintro b (e | e | ⟨x, hx, e⟩)
    · exact .inl e
    · exact .inr (.inl e)
    · have hx : x ∈ done ++ _ := hx
      rw [List.mem_append, List.mem_cons] at hx
      rcases hx with hx | rfl | hx
      · obtain ⟨f', hf', e'⟩ := h.sub x hx
        exact .inr (.inr ⟨f', hf', by rw [e, e']⟩)
      · exact .inr (.inr ⟨f, hmem, e⟩)
      · exact .inr (.inr ⟨x, List.mem_of_mem_drop hx, e⟩)
  have hT2 := hT.upd hup.sort (f := ⟨f.i, f.g, f.n, failM f.m (kk.take (volM f.m))⟩) hfind htc (bx_set1 (.int .i64 (manyF names f.i)) hv) (hF.keep (htc.mono fun b _ e => .inl (.inr (.inr ⟨_, (findF_mem hfind).1, e⟩))))
  simp only at hT2
  have hu2 := updF_mid hup.sort (manyF names f.i) (failM f.m (kk.take (volM f.m)))
  simp only at hu2
  rw [hu2] at hT2
  have hup2 := hup.upd (z := f.i) (manyF_fit hfit f.i) ((hok.size f (by simp)).fail (kk.take (volM f.m))) (Nat.le_refl _)
  simp only at hup2
  rw [hu2] at hup2
  have hfind2 := findF_mid hup2.sort
  simp only at hfind2
  refine ⟨bx_frozen1 hv, ⟨_, bx_cell1 hv⟩, ?_⟩
  refine (leave_any hT2 hz hfind2).mono ?_
  rintro e w' ⟨rfl, ht', hT'⟩
  refine ⟨rfl, ht.trans ((htc.mono fun b _ e => .inr (.inr ⟨f, hmem, e⟩)).trans (ht'.mono fun b _ hb => ?_)), hT'⟩
  rcases hb with e | e | ⟨x, hx, e⟩
  · exact .inl e
  · exact .inr (.inl e)
  · have hx : x ∈ done ++ _ := hx
    rw [List.mem_append, List.mem_cons] at hx
    rcases hx with hx | rfl | hx
    · obtain ⟨f', hf', e'⟩ := h.sub x hx
      exact .inr (.inr ⟨f', hf', by rw [e, e']⟩)
    · exact .inr (.inr ⟨f, hmem, e⟩)
    · exact .inr (.inr ⟨x, List.mem_of_mem_drop hx, e⟩)
set_option maxHeartbeats 4000000 in
set_option maxRecDepth 100000 in
theorem tfail_any {A : Option Addr} {cap : Nat} (h : TabAt w Z t T) (hok : T.Ok N) (hN : N ≤ 1000) (hZ : ∀ b, Z b → b < w.heap.size) {Xn : Nat → Prop} (hr : EnX w Xn A names) (hl : names.length ≤ 1000) (hfit : FitE names)
    (hk : KeX w (T.X t) Ak keep) (hkc : keep.length ≤ ck) (hkl : keep.length ≤ 1000) :
    Calls Tryz.prog 29 #[.pointer (some ⟨t, 5, none⟩), .slice A names.length cap, .slice Ak keep.length ck] w fun e w' => e = .returned (.tuple #[]) ∧ Touch (T.X t) w w' ∧ TabAt w' Z t { T with fs := failT T.fs names keep } := by
  have Hf := Lib.hid (first_any (cap := cap) hr hl hfit)
  obtain ⟨n, hn⟩ : ∃ n, Hid (T.fs.length = n) := ⟨_, rfl⟩
  have hnI : (n : Int) ≤ 1000 := by have := hok.len; have := hn.out; omega
  obtain ⟨nn, hnn⟩ : ∃ nn, Hid (names.length = nn) := ⟨_, rfl⟩
  obtain ⟨nk, hnk⟩ : ∃ nk, Hid (keep.length = nk) := ⟨_, rfl⟩
  have Hfit := Lib.hid hfit
  have HN := Lib.hid hN
  have Hok := Lib.hid hok
  have HZ := Lib.hid hZ
  have Hnn1 := Lib.hid hl
  have hst0 : Hid (FsSt w w Z t N T names keep 0 [] keep Ak nk ck) := ⟨hnk.out, by rw [← hnk.out]; exact hkc, by rw [← hnk.out]; exact hkl, hk, h, hok, rfl, .refl _ _, fun x hx => (by cases hx)⟩
  have Hnum := Lib.hid (fun w1 (hb : Below w.heap.size w w1) => numbers_any (h.below hb) hok hN)
  have Hlt : Hid (∀ b, T.X t b → b < w.heap.size) := fun b hb => h.lt hb
  rw [hnn.out] at Hf ⊢
  rw [hnk.out]
  rw [hn.out] at Hnum
  clear h hok hN hr hl hfit hk hkc hkl hZ
  go_enter Tryz.func29, Tryz.ntmps29
  go_wp2_with (first
    | (go_at_call 62; refine Hf.out.mono ?_; rintro e w1 ⟨bm, rfl, hbm, hb1, hm1⟩; have Hn1 := Lib.hid (Hnum.out _ hb1))
    | (go_at_call 61; refine Hn1.out.mono ?_; rintro e w2 ⟨v0, rfl, ho, hb2⟩; obtain ⟨A0, c0, rfl, _, _, hr0⟩ := own_form ho))
  have hX2 : Hid (RdX w2 (T.X t) 1 A0 n (numC T.fs)) := own_avoid ho fun b hb => Nat.lt_of_lt_of_le (Hlt.out b hb) hb1.size
  have hw2 : Hid (Below w.heap.size w w2) := hb1.trans (hb2.mono hb1.size)
  have hst2 : Hid (FsSt w2 w2 Z t N T names keep 0 [] keep Ak nk ck) := by
    have h1 := hst0.out.below hw2.out
    exact ⟨h1.n, h1.cap, h1.small, h1.kr, h1.tab, h1.ok, h1.eq, .refl _ _, h1.sub⟩
  have hm2 : Hid (w2.ownsMap (H := Unit) Tryz.prog 3 (plainElem Tryz.prog 3) bm nn (mapN names.reverse)) := owns_touch hm1 (Touch.of (X := fun _ => False) hb2) fun e => e
  have hbX : Hid (¬ T.X t bm) := fun hx => by have := Hlt.out bm hx; omega
  have HZ2 : Hid (∀ b, Z b → b < w2.heap.size) := fun b hb => Nat.lt_of_lt_of_le (HZ.out b hb) hw2.out.size
  clear ho hr0 hm1 hb1 hb2 hbm
  go_loopw [2, 16] (fun kv i wr => ∃ (k : Nat) (done : List Fi) (kk : List Bool) (Ak : Option Addr) (nk ck : Nat), k ≤ n ∧ i = .int .i64 (k : Int) ∧ kv = .slice Ak nk ck ∧ Hid (FsSt w2 wr Z t N T names keep k done kk Ak nk ck)) (fun _ i _ => n - (Go.Lib.intOf i).toNat)
  case atStart => exact ⟨0, [], keep, Ak, nk, ck, by omega, rfl, rfl, hst2⟩
  case round =>
    clear hst2 hst0
    obtain ⟨k, done, kk, Ak', nk', ck', hk, rfl, rfl, hst⟩ := hrel
    by_cases hlt : k < n
    · have hkl : k < T.fs.length := by rw [hn.out]; exact hlt
      obtain ⟨f, hf⟩ : ∃ f, Hid (T.fs[k]? = some f) := ⟨_, List.getElem?_eq_getElem hkl⟩
      obtain ⟨ad, rfl, hab, hxa, hcell⟩ := (hX2.out.keep hst.out.touch).2 (by omega)
      have hck : wr.cell? (ad.add k) = some (.int .i64 f.i) := hcell k _ (by unfold numC; rw [List.getElem?_map, List.getElem?_map, hf.out]; rfl)
      have hokk := hst.out.ok
      rw [drop_at hf.out] at hokk
      have hz := num_ok hokk HN.out (f := f) (by simp)
      have hfind := findF_mid hokk.sort
      have hT := hst.out.tab
      obtain ⟨c0, c1, c2⟩ := hT.cells
      rw [drop_at hf.out] at hT
      have hl := hT.look hz
      rw [hfind] at hl
      simp only [Option.map_some, ptr] at hl
      obtain ⟨Av, nv, cv, hv, hF⟩ := hT.filed hfind
      have cf := bx_cell hv
      obtain ⟨A', c', ps, e, hcap, hp, hsay⟩ := hF
      injection e with e1 e2 e3
      subst e1 e2 e3
      have hsm : SmM (says ps) := by rw [hsay]; exact (hokk.size f (by simp)).sm HN.out
      have hvol := Lib.hid (vol_any Av cv ps wr hsm hp)
      rw [hsay] at hvol
      obtain ⟨vl, hvl⟩ : ∃ vl, Hid (volM f.m = vl) := ⟨_, rfl⟩
      obtain ⟨j, hj⟩ : ∃ j, Hid (j = min (volM f.m) nk') := ⟨_, rfl⟩
      have hvlI : (vl : Int) ≤ 1000 := by
        have h1 := volM_le f.m
        have h2 := (hokk.size f (by simp)).n
        have h3 := HN.out
        have h4 := hvl.out
        omega
      rw [hvl.out] at hvol
      have hmin : min (vl : Int) (nk' : Int) = (j : Int) := by rw [hj.out, hvl.out]; omega
      have hjn : j ≤ nk' := by rw [hj.out]; omega
      have hnc := hst.out.cap
      have hfr := fun w => run_frontK w Ak' (n := nk') (m := j) (c := ck') (by omega)
      have hbk := fun w => run_backK w Ak' (n := nk') (m := j) (c := ck') hjn hnc
      have hnkI : (nk' : Int) ≤ 1000 := by have := hst.out.small; omega
      have hfl := Lib.hid (fun wv (hb : Below wr.heap.size wr wv) => hst.out.fail hf.out hj.out HN.out HZ2.out hb)
      have hmany := Lib.hid (fun wf (ht : Touch (T.X t) wr wf) hT => hst.out.many (wf := wf) hf.out HN.out Hfit.out ht hT)
      have hlk := Lib.hid (fun wf (ht : Touch (T.X t) wr wf) => ((owns_touch hm2.out (hst.out.touch.trans ht) hbX.out).lookup_int keyI Tryz.underlying86 Tryz.underlying3 (Tryz.zeroValue3 _) (key_i hz)))
      obtain ⟨A2, hA2⟩ : ∃ A2, Hid ((if ck' = j then Ak' else Ak'.map (·.add j)) = A2) := ⟨_, rfl⟩
      obtain ⟨n2, hn2⟩ : ∃ n2, Hid (nk' - j = n2) := ⟨_, rfl⟩
      obtain ⟨c3, hc3⟩ : ∃ c3, Hid (ck' - j = c3) := ⟨_, rfl⟩
      rw [hA2.out, hn2.out, hc3.out] at hbk
      obtain ⟨mp, hmp⟩ : ∃ mp, Hid (T.mp = mp) := ⟨_, rfl⟩
      have d2 : wr.cell? ⟨t, 7, none⟩ = some (.map mp) := by rw [← hmp.out]; exact c2
      obtain ⟨g, hg⟩ : ∃ g, Hid (f.g = g) := ⟨_, rfl⟩
      obtain ⟨z, hzz⟩ : ∃ z, Hid (f.i = z) := ⟨_, rfl⟩
      obtain ⟨mz, hmz⟩ : ∃ mz, Hid (manyF names z = mz) := ⟨_, rfl⟩
      have hlk2 : Hid (∀ wf, Touch (T.X t) wr wf → (Instr.lookup 86 (.map (some bm)) (.int .i64 z) false).run Tryz.prog wf = .ok (.int .i64 mz) wf) := by
        intro wf ht
        obtain ⟨c, hrun, hat, _⟩ := hlk.out wf ht
        rw [hzz.out] at hrun hat
        rw [mapN_at, hmz.out] at hat
        injection hat with hat
        injection hat with _ hat
        rw [hat]
        exact hrun
      rw [hg.out, hmp.out] at hl
      rw [hg.out] at cf hfl hmany
      rw [hzz.out] at hl hck hfl hmany
      rw [hmz.out] at hmany
      have Hst := Lib.hid hst
      obtain ⟨pl, hpl⟩ : ∃ pl, Hid (ps.length = pl) := ⟨_, rfl⟩
      rw [hpl.out] at cf hvol
      clear hv hp hsay hsm hcap hT hokk hz hfind hkl hcell hlk c0 c1 c2 hst hnc hjn
      go_upto_region 6 with (go_at_call 63; refine hvol.out.mono ?_; rintro e wv ⟨rfl, hbv⟩)
      have Hbv := Lib.hid hbv
      clear hbv hck hl cf d2
      go_region_held3 (fun _ => True) (exact trivial) (first | (go_at_call 64; refine (hfl.out _ Hbv.out.drew).mono ?_; rintro e wf ⟨rfl, htf, hTf⟩))
      have hlkf := hlk2.out wf htf
      obtain ⟨fzf, ⟨u, cuf⟩, hlv⟩ := hmany.out wf htf hTf
      have Hlv := Lib.hid hlv
      clear hlv hTf hmin
      go_wp2_with (go_at_call 65; refine Hlv.out.mono ?_; rintro e wl ⟨rfl, htl, hTl⟩)
      go_roundw
      case rel => exact ⟨k + 1, _, _, A2, n2, c3, by omega, by go_num, rfl, by
        have h1 := Hst.out.next hf.out hj.out Hfit.out htl (by rw [hzz.out, hmz.out]; exact hTl)
        rw [hA2.out, hn2.out, hc3.out] at h1
        exact h1⟩
      case measure => simp [Go.Lib.intOf]; omega
    · obtain rfl : k = n := by omega
      go_wp2
      go_end0
      refine ⟨rfl, (Touch.of hw2.out).trans hst.out.touch, ?_⟩
      have h1 := hst.out.tab
      have h2 := hst.out.eq
      have h3 : T.fs.drop k = [] := List.drop_eq_nil_of_le (by rw [hn.out]; exact Nat.le_refl _)
      rw [h3] at h1 h2
      have h4 : done = failT T.fs names keep := by simpa [failT] using h2
      rw [List.append_nil, h4] at h1
      exact h1
end
end Go.Proofs.YtbhmnmmockmibaaGreat
