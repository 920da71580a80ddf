/- A table in memory: its own block, its map, its files' blocks; what stays while something is done. Conditions: files of at most 1000 parts of 30 bytes. -/
import Derived.Test.YtlehkgogcbdckaaInA
import Derived.Test.YtlehkgogcbdckaaInM
namespace Go.Proofs.Ytlehkgogcbdckaa
open Go.RowKit Go.Maps

section
variable {H : Type} {P : Program} {k : TypeId} {R : Value → Option (DataW H × List MemPlace)} {w w' : World} {b n : Nat} {D : DataW H}
theorem owns_size (h : w.ownsMap P k R b n D) : w.ownsMap P k R b (Maps.size D) D := by
  obtain ⟨es, clock, hb, F, _, rfl⟩ := h
  exact ⟨es, clock, hb, F, by simp [Maps.size, length_sorted], rfl⟩
theorem owns_touch {X : Nat → Prop} (h : w.ownsMap P k R b n D) (ht : Touch X w w') (hx : ¬ X b) : w'.ownsMap P k R b n D := by
  obtain ⟨es, clock, hb, F, hs, rfl⟩ := h
  exact ⟨es, clock, ht.heap hx hb, F, hs, rfl⟩
end

/-! ### sizes of files -/
theorem failM_less (m : List Pt) (q : List Bool) : (contM (failM m q)).length ≤ (contM m).length := (failM_nought m q).1
theorem failM_len (m : List Pt) (q : List Bool) : (failM m q).length ≤ m.length := by
  unfold failM failH
  rw [List.length_map, List.length_take, holdM_len]
  have : (fullM m).length ≤ m.length := List.length_filter_le _ _
  omega
theorem failM_short {m : List Pt} {q : List Bool} {N : Nat} (h : ∀ p ∈ m, p.1.length ≤ N) {p : Pt} (hp : p ∈ failM m q) : p.1.length ≤ N := by
  unfold failM failH at hp
  rw [List.mem_map] at hp
  obtain ⟨r, hr, rfl⟩ := hp
  rw [fillP_len]
  obtain ⟨i, hi⟩ := List.getElem?_of_mem (List.mem_of_mem_take hr)
  have hlt := (List.getElem?_eq_some_iff.1 hi).1
  rw [holdM_len] at hlt
  obtain ⟨d, hd, _⟩ := holdM_get (k := q) (List.getElem?_eq_getElem hlt)
  rw [hd] at hi
  injection hi with hi
  rw [← hi]
  have hin := List.getElem_mem hlt
  have h5 := h _ (List.mem_filter.1 hin).1
  exact h5
theorem failM_vol (m : List Pt) (q : List Bool) : volM (failM m q) = 0 := volM_durable fun _ hp => failM_durable hp
theorem contM_flag (m : List Pt) : contM (m.map fun p => (p.1, true)) = contM m := by
  induction m with
  | nil => rfl
  | cons p m ih => rw [List.map_cons, contM_cons, contM_cons, ih]
theorem contM_sync (m : List Pt) : contM (syncM m) = contM m := by unfold syncM; rw [contM_flag, contM_full]
theorem syncM_full {m : List Pt} {p : Pt} (h : p ∈ syncM m) : p.1 ≠ [] ∧ p.2 = true := by
  unfold syncM at h
  rw [List.mem_map] at h
  obtain ⟨q, hq, rfl⟩ := h
  have := fullM_mem hq
  exact ⟨this, rfl⟩
theorem syncM_done (m : List Pt) (q : List Bool) : failM (syncM m) q = syncM m := failM_done (fun _ hp => (syncM_full hp).1) (fun _ hp => (syncM_full hp).2)
theorem contM_app (m : List Pt) (l : List UInt8) : contM (appM m l) = contM m ++ l := by unfold appM; rw [contM_full, contM_append, contM_one]
structure Sz (m : List Pt) (N : Nat) : Prop where
  n : m.length ≤ N
  l : ∀ p ∈ m, p.1.length ≤ 30
section
variable {m : List Pt} {N M : Nat} {l : List UInt8}
theorem Sz.mono (h : Sz m N) (hN : N ≤ M) : Sz m M := ⟨Nat.le_trans h.n hN, h.l⟩
theorem Sz.sm (h : Sz m N) (hN : N ≤ 1000) : SmM m := ⟨Nat.le_trans h.n hN, fun p hp => by have := h.l p hp; omega⟩
theorem Sz.more (h : Sz m N) (l : List UInt8) (hl : l.length ≤ 30) : Sz (m ++ [(l, false)]) (N + 1) := by
  refine ⟨by rw [List.length_append]; have := h.n; simp; omega, fun p hp => ?_⟩
  rw [List.mem_append, List.mem_singleton] at hp
  rcases hp with hp | rfl
  · exact h.l p hp
  · exact hl
theorem Sz.full (h : Sz m N) : Sz (fullM m) N := ⟨Nat.le_trans (List.length_filter_le _ _) h.n, fun p hp => h.l p (List.mem_filter.1 hp).1⟩
theorem Sz.app (h : Sz m N) (hl : l.length ≤ 30) : Sz (appM m l) (N + 1) := (h.more l hl).full
theorem Sz.sync (h : Sz m N) : Sz (syncM m) N := by
  refine ⟨by unfold syncM; rw [List.length_map]; have := h.full.n; omega, fun p hp => ?_⟩
  unfold syncM at hp
  rw [List.mem_map] at hp
  obtain ⟨q, hq, rfl⟩ := hp
  exact h.full.l q hq
theorem Sz.fail (h : Sz m N) (q : List Bool) : Sz (failM m q) N := ⟨by have := failM_len m q; have := h.n; omega, fun p hp => failM_short h.l hp⟩
theorem Sz.cont (h : Sz m N) : (contM m).length ≤ N * 30 := by
  have : ∀ m : List Pt, (∀ p ∈ m, p.1.length ≤ 30) → (contM m).length ≤ m.length * 30 := by
    intro m
    induction m with
    | nil => intro _; simp [contM]
    | cons p m ih =>
      intro h
      have h1 := ih (fun q hq => h q (by simp [hq]))
      have h2 := h p (by simp)
      rw [contM_cons, List.length_append, List.length_cons]
      omega
  have h1 := this m h.l
  have h2 := h.n
  omega
end

/-! ### tables -/
structure Tb where
  q : Int
  made : Nat
  mp : Option Nat
  fs : List Fi
/-- A table behind at most N calls. -/
structure Tb.Ok (T : Tb) (N : Nat) : Prop where
  q : 0 ≤ T.q ∧ T.q ≤ 9223372036854775807
  made : T.made ≤ N
  len : T.fs.length ≤ N
  sort : T.fs.Pairwise fun a b => a.i < b.i
  num : ∀ f ∈ T.fs, 1 ≤ f.i ∧ f.i ≤ T.made
  many : ∀ f ∈ T.fs, -9223372036854775808 ≤ f.n ∧ f.n ≤ 9223372036854775807
  size : ∀ f ∈ T.fs, Sz f.m N
def Tb.X (T : Tb) (t : Nat) : Nat → Prop := fun k => k = t ∨ T.mp = some k ∨ ∃ f ∈ T.fs, k = f.g
/-- A table in the block t; its files' bytes lie in no block of Z. -/
structure TabAt (w : World) (Z : Nat → Prop) (t : Nat) (T : Tb) : Prop where
  top : w.heap[t]? = some (.cells #[.int .i64 T.q, .int .i64 (T.made : Int), .map T.mp] 53 (0, 0))
  map : ∀ b, T.mp = some b → w.ownsMap Try.prog 3 RF b T.fs.length (datum T.fs)
  non : T.mp = none → T.fs = []
  file : ∀ f ∈ T.fs, ∃ v, w.heap[f.g]? = some (.cells #[v, .int .i64 f.n] 59 (0, 0)) ∧ FileV w (fun k => T.X t k ∨ Z k) v f.m
  dist : T.fs.Pairwise fun a b => a.g ≠ b.g
section
variable {w w' : World} {Z Y : Nat → Prop} {t N M : Nat} {T : Tb}
theorem Tb.Ok.mono (h : T.Ok N) (hN : N ≤ M) : T.Ok M := ⟨h.q, Nat.le_trans h.made hN, Nat.le_trans h.len hN, h.sort, h.num, h.many, fun f hf => (h.size f hf).mono hN⟩
theorem Tb.Ok.used (h : T.Ok N) : usedF T.fs ≤ N * (N * 30) := by
  have h1 := sum_le (μ := fun f => (contM f.m).length) (K := N * 30) fun f hf => (h.size f hf).cont
  exact Nat.le_trans h1 (Nat.mul_le_mul_right _ h.len)
theorem Tb.Ok.vol (h : T.Ok N) : volF T.fs ≤ N * N := by
  have h1 := sum_le (μ := fun f => volM f.m) (K := N) fun f hf => Nat.le_trans (volM_le _) (h.size f hf).n
  exact Nat.le_trans h1 (Nat.mul_le_mul_right _ h.len)
theorem TabAt.lt (h : TabAt w Z t T) {k : Nat} (hk : T.X t k) : k < w.heap.size := by
  rcases hk with rfl | hk | ⟨f, hf, rfl⟩
  · exact (Array.getElem?_eq_some_iff.1 h.top).1
  · exact (h.map k hk).lt
  · obtain ⟨v, hv, _⟩ := h.file f hf
    exact (Array.getElem?_eq_some_iff.1 hv).1
theorem TabAt.keep (h : TabAt w Z t T) (ht : Touch Y w w') (hy : ∀ b, b < w.heap.size → Y b → Z b ∧ ¬ T.X t b) : TabAt w' Z t T := by
  have hn : ∀ b, T.X t b → ¬ Y b := fun b hb hyb => (hy b (h.lt hb) hyb).2 hb
  refine ⟨ht.heap (hn t (.inl rfl)) h.top, fun b hb => owns_touch (h.map b hb) ht (hn b (.inr (.inl hb))), h.non, fun f hf => ?_, h.dist⟩
  obtain ⟨v, hv, hF⟩ := h.file f hf
  refine ⟨v, ht.heap (hn f.g (.inr (.inr ⟨f, hf, rfl⟩))) hv, ?_⟩
  obtain ⟨A, c, ps, e, hc, hp, hsay⟩ := hF
  have hk : ∀ {size n : Nat} {A : Option Addr} {xs : List Value}, RdX w (fun k => T.X t k ∨ Z k) size A n xs → RdX w' (fun k => T.X t k ∨ Z k) size A n xs := fun hr =>
    ⟨hr.1, fun hn => by
      obtain ⟨ad, e, hb, hx, hc⟩ := hr.2 hn
      exact ⟨ad, e, Nat.lt_of_lt_of_le hb ht.size, hx, fun j u hu => (ht.cell (by rw [block_of_add]; exact hb) (by rw [block_of_add]; exact fun hyb => hx (.inr (hy _ hb hyb).1))).trans (hc j u hu)⟩⟩
  exact ⟨A, c, ps, e, hc, ⟨hk hp.top, fun p hp' => hk (hp.row p hp')⟩, hsay⟩
theorem TabAt.below (h : TabAt w Z t T) (hb : Below w.heap.size w w') : TabAt w' Z t T := h.keep (Touch.of (X := fun _ => False) hb) fun _ _ h => h.elim
/-- What lies high is avoided as well. -/
theorem TabAt.high (h : TabAt w Z t T) : TabAt w (fun b => Z b ∨ w.heap.size ≤ b) t T := by
  refine ⟨h.top, h.map, h.non, fun f hf => ?_, h.dist⟩
  obtain ⟨v, hv, A, c, ps, e, hc, hp, hsay⟩ := h.file f hf
  have hk : ∀ {size n : Nat} {A : Option Addr} {xs : List Value}, RdX w (fun k => T.X t k ∨ Z k) size A n xs → RdX w (fun k => T.X t k ∨ Z k ∨ w.heap.size ≤ k) size A n xs := fun hr =>
    ⟨hr.1, fun hn => by
      obtain ⟨ad, e, hb, hx, hc⟩ := hr.2 hn
      exact ⟨ad, e, hb, fun h => by
        rcases h with h | h | h
        · exact hx (.inl h)
        · exact hx (.inr h)
        · omega, hc⟩⟩
  exact ⟨v, hv, A, c, ps, e, hc, ⟨hk hp.top, fun p hp' => hk (hp.row p hp')⟩, hsay⟩
theorem TabAt.mono (h : TabAt w Z t T) (hx : ∀ b, b < w.heap.size → Y b → Z b) : TabAt w Y t T := by
  refine ⟨h.top, h.map, h.non, fun f hf => ?_, h.dist⟩
  obtain ⟨v, hv, hF⟩ := h.file f hf
  exact ⟨v, hv, hF.mono fun b hb hy => hy.elim .inl fun hy => .inr (hx b hb hy)⟩
theorem dist_of_mem {fs : List Fi} (_hs : fs.Pairwise fun a b => a.i < b.i) (hd : fs.Pairwise fun a b => a.g ≠ b.g) {f x : Fi} (hf : f ∈ fs) (hx : x ∈ fs) (hne : f.i ≠ x.i) : f.g ≠ x.g := by
  obtain ⟨j, hj⟩ := List.getElem?_of_mem hf
  obtain ⟨k, hk⟩ := List.getElem?_of_mem hx
  have h1 := (List.getElem?_eq_some_iff.1 hj)
  have h2 := (List.getElem?_eq_some_iff.1 hk)
  obtain ⟨l1, e1⟩ := h1
  obtain ⟨l2, e2⟩ := h2
  rw [List.pairwise_iff_getElem] at hd
  rcases Nat.lt_trichotomy j k with hlt | heq | hgt
  · have := hd j k l1 l2 hlt
    rw [e1, e2] at this
    exact this
  · subst heq
    rw [e1] at e2
    exact absurd (congrArg Fi.i e2) hne
  · have := hd k j l2 l1 hgt
    rw [e1, e2] at this
    exact fun e => this e.symm
/-- A file is another one. -/
theorem TabAt.upd (h : TabAt w Z t T) (hok : T.fs.Pairwise fun a b => a.i < b.i) {f : Fi} {n : Int} {m : List Pt} {v : Value} (hf : findF T.fs f.i = some f) (ht : Touch (fun k => k = f.g) w w') (hv : w'.heap[f.g]? = some (.cells #[v, .int .i64 n] 59 (0, 0))) (hF : FileV w' (fun k => T.X t k ∨ Z k) v m) :
    TabAt w' Z t { T with fs := updF T.fs f.i n m } := by
  obtain ⟨hm, _⟩ := findF_mem hf
  obtain ⟨v0, hv0, _⟩ := h.file f hm
  have ht0 : ¬ t = f.g := fun e => by
    have := h.top
    rw [e, hv0] at this
    injection this with this
    injection this with this _ _
    simp at this
  have hX : ∀ k, ({ T with fs := updF T.fs f.i n m } : Tb).X t k ↔ T.X t k := fun k => by
    unfold Tb.X
    simp only
    have : (∃ x ∈ updF T.fs f.i n m, k = x.g) ↔ ∃ x ∈ T.fs, k = x.g := by
      constructor
      · rintro ⟨x, hx, rfl⟩
        obtain ⟨y, hy, _, hg, _⟩ := updF_mem hx
        exact ⟨y, hy, hg⟩
      · rintro ⟨x, hx, rfl⟩
        have : x.g ∈ (updF T.fs f.i n m).map Fi.g := by rw [updF_g]; exact List.mem_map_of_mem hx
        obtain ⟨y, hy, e⟩ := List.mem_map.1 this
        exact ⟨y, hy, e.symm⟩
    rw [this]
  refine ⟨ht.heap ht0 h.top, fun b hb => ?_, fun hn => ?_, fun x hx => ?_, ?_⟩
  · simp only
    rw [updF_datum, updF_len]
    refine owns_touch (h.map b hb) ht fun e => ?_
    obtain ⟨es, clock, hb', _⟩ := h.map b hb
    rw [e, hv0] at hb'
    cases hb'
  · have := h.non hn
    simp only
    rw [this]
    rfl
  · obtain ⟨y, hy, hi, hg, hc⟩ := updF_mem hx
    rcases hc with ⟨e, hn', hm'⟩ | ⟨e, rfl⟩
    · have hyf : y = f := by
        have := findF_of_mem hok hy
        rw [e, hf] at this
        injection this with this
        exact this.symm
      subst hyf
      refine ⟨v, by rw [hg, hn']; exact hv, ?_⟩
      rw [hm']
      exact hF.mono fun b _ hb => hb.elim (fun hb => .inl ((hX b).1 hb)) .inr
    · obtain ⟨v1, hv1, hF1⟩ := h.file x hy
      have hne := dist_of_mem hok h.dist hm hy fun h' => e h'.symm
      refine ⟨v1, ht.heap (fun e => hne e.symm) hv1, ?_⟩
      refine (hF1.mono fun b _ hb => hb.elim (fun hb => .inl ((hX b).1 hb)) .inr).keep (Touch.mono ht fun b _ e => ?_)
      exact .inl ((hX b).2 (.inr (.inr ⟨f, hm, e⟩)))
  · have h1 := h.dist
    have e2 := updF_g T.fs f.i n m
    have h2 : (T.fs.map Fi.g).Pairwise (· ≠ ·) := by rw [List.pairwise_map]; exact h1
    rw [← e2, List.pairwise_map] at h2
    exact h2
end
end Go.Proofs.Ytlehkgogcbdckaa
