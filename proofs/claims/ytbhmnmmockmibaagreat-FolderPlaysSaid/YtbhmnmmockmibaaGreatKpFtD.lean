/- A table in memory: its own block, its map, its files' blocks; what stays while something is done. Conditions: files of at most 1000 parts of 60 bytes. The walks of New, find, Sync, Link, Bytes. Conditions: files of at most 1000 parts of 60 bytes. The walks of Used and Volatile. -/
import Derived.Test.YtbhmnmmockmibaaGreatKpInA
import Derived.Test.YtbhmnmmockmibaaGreatKpFoMem
namespace Go.Proofs.YtbhmnmmockmibaaGreat
open Go.RowKit Go.Maps
section
variable {H : Type} {P : Program} {k : TypeId} {R : Value → Option (DataW H × List MemPlace)} {w w' : World} {b n : Nat} {D : DataW H}
theorem owns_size (h : w.ownsMap P k R b n D) : w.ownsMap P k R b (Maps.size D) D := by
  obtain ⟨es, clock, hb, F, _, rfl⟩ := h
  exact ⟨es, clock, hb, F, by simp [Maps.size, length_sorted], rfl⟩
theorem owns_touch {X : Nat → Prop} (h : w.ownsMap P k R b n D) (ht : Touch X w w') (hx : ¬ X b) : w'.ownsMap P k R b n D := by
  obtain ⟨es, clock, hb, F, hs, rfl⟩ := h
  exact ⟨es, clock, ht.heap hx hb, F, hs, rfl⟩
end
theorem failM_less (m : List Pt) (q : List Bool) : (contM (failM m q)).length ≤ (contM m).length := (failM_nought m q).1
theorem failM_len (m : List Pt) (q : List Bool) : (failM m q).length ≤ m.length := by
  unfold failM failH
  rw [List.length_map, List.length_take, holdM_len]
  have : (fullM m).length ≤ m.length := List.length_filter_le _ _
  omega
theorem failM_short {m : List Pt} {q : List Bool} {N : Nat} (h : ∀ p ∈ m, p.1.length ≤ N) {p : Pt} (hp : p ∈ failM m q) : p.1.length ≤ N := by
  unfold failM failH at hp
  rw [List.mem_map] at hp
  obtain ⟨r, hr, rfl⟩ := hp
  rw [fillP_len]
  obtain ⟨i, hi⟩ := List.getElem?_of_mem (List.mem_of_mem_take hr)
  have hlt := (List.getElem?_eq_some_iff.1 hi).1
  rw [holdM_len] at hlt
  obtain ⟨d, hd, _⟩ := holdM_get (k := q) (List.getElem?_eq_getElem hlt)
  rw [hd] at hi
  injection hi with hi
  rw [← hi]
  have hin := List.getElem_mem hlt
  have h5 := h _ (List.mem_filter.1 hin).1
  exact h5
theorem contM_flag (m : List Pt) : contM (m.map fun p => (p.1, true)) = contM m := by
  induction m with
  | nil => rfl
  | cons p m ih => rw [List.map_cons, contM_cons, contM_cons, ih]
theorem contM_sync (m : List Pt) : contM (syncM m) = contM m := by unfold syncM; rw [contM_flag, contM_full]
theorem contM_app (m : List Pt) (l : List UInt8) : contM (appM m l) = contM m ++ l := by unfold appM; rw [contM_full, contM_append, contM_one]
structure Sz (m : List Pt) (N : Nat) : Prop where
  n : m.length ≤ N
  l : ∀ p ∈ m, p.1.length ≤ 60
section
variable {m : List Pt} {N M : Nat} {l : List UInt8}
theorem Sz.mono (h : Sz m N) (hN : N ≤ M) : Sz m M := ⟨Nat.le_trans h.n hN, h.l⟩
theorem Sz.sm (h : Sz m N) (hN : N ≤ 1000) : SmM m := ⟨Nat.le_trans h.n hN, fun p hp => by have := h.l p hp; omega⟩
theorem Sz.more (h : Sz m N) (l : List UInt8) (hl : l.length ≤ 60) : Sz (m ++ [(l, false)]) (N + 1) := by
  refine ⟨by rw [List.length_append]; have := h.n; simp; omega, fun p hp => ?_⟩
  rw [List.mem_append, List.mem_singleton] at hp
  rcases hp with hp | rfl
  · exact h.l p hp
  · exact hl
theorem Sz.full (h : Sz m N) : Sz (fullM m) N := ⟨Nat.le_trans (List.length_filter_le _ _) h.n, fun p hp => h.l p (List.mem_filter.1 hp).1⟩
theorem Sz.app (h : Sz m N) (hl : l.length ≤ 60) : Sz (appM m l) (N + 1) := (h.more l hl).full
theorem Sz.sync (h : Sz m N) : Sz (syncM m) N := by
  refine ⟨by unfold syncM; rw [List.length_map]; have := h.full.n; omega, fun p hp => ?_⟩
  unfold syncM at hp
  rw [List.mem_map] at hp
  obtain ⟨q, hq, rfl⟩ := hp
  exact h.full.l q hq
theorem Sz.fail (h : Sz m N) (q : List Bool) : Sz (failM m q) N := ⟨by have := failM_len m q; have := h.n; omega, fun p hp => failM_short h.l hp⟩
theorem Sz.cont (h : Sz m N) : (contM m).length ≤ N * 60 := by
  have : ∀ m : List Pt, (∀ p ∈ m, p.1.length ≤ 60) → (contM m).length ≤ m.length * 60 := by
    intro m
    induction m with
    | nil => intro _; simp [contM]
    | cons p m ih =>
      intro h
      have h1 := ih (fun q hq => h q (by simp [hq]))
      have h2 := h p (by simp)
      rw [contM_cons, List.length_append, List.length_cons]
      omega
  have h1 := this m h.l
  have h2 := h.n
  omega
end
structure Ps where
  nm : Value
  pd : Value
  m : Value
  n : Value
  tk : Value
structure Tb where
  pp : Ps
  q : Int
  made : Nat
  mp : Option Nat
  fs : List Fi
structure Tb.Ok (T : Tb) (N : Nat) : Prop where
  q : 0 ≤ T.q ∧ T.q ≤ 9223372036854775807
  made : T.made ≤ N
  len : T.fs.length ≤ N
  sort : T.fs.Pairwise fun a b => a.i < b.i
  num : ∀ f ∈ T.fs, 1 ≤ f.i ∧ f.i ≤ T.made
  many : ∀ f ∈ T.fs, -9223372036854775808 ≤ f.n ∧ f.n ≤ 9223372036854775807
  size : ∀ f ∈ T.fs, Sz f.m N
def Tb.X (T : Tb) (t : Nat) : Nat → Prop := fun k => k = t ∨ T.mp = some k ∨ ∃ f ∈ T.fs, k = f.g
structure TabAt (w : World) (Z : Nat → Prop) (t : Nat) (T : Tb) : Prop where
  top : w.heap[t]? = some (.cells #[T.pp.nm, T.pp.pd, T.pp.m, T.pp.n, T.pp.tk, .int .i64 T.q, .int .i64 (T.made : Int), .map T.mp] 84 (0, 0))
  map : ∀ b, T.mp = some b → w.ownsMap Tryz.prog 3 RF b T.fs.length (datum T.fs)
  non : T.mp = none → T.fs = []
  file : ∀ f ∈ T.fs, ∃ v, w.heap[f.g]? = some (.cells #[v, .int .i64 f.n] 129 (0, 0)) ∧ FileV w (fun k => T.X t k ∨ Z k) v f.m
  dist : T.fs.Pairwise fun a b => a.g ≠ b.g
section
variable {w w' : World} {Z Y : Nat → Prop} {t N M : Nat} {T : Tb}
theorem Tb.Ok.mono (h : T.Ok N) (hN : N ≤ M) : T.Ok M := ⟨h.q, Nat.le_trans h.made hN, Nat.le_trans h.len hN, h.sort, h.num, h.many, fun f hf => (h.size f hf).mono hN⟩
theorem Tb.Ok.used (h : T.Ok N) : usedF T.fs ≤ N * (N * 60) := by
  have h1 := sum_le (μ := fun f => (contM f.m).length) (K := N * 60) fun f hf => (h.size f hf).cont
  exact Nat.le_trans h1 (Nat.mul_le_mul_right _ h.len)
theorem Tb.Ok.vol (h : T.Ok N) : volF T.fs ≤ N * N := by
  have h1 := sum_le (μ := fun f => volM f.m) (K := N) fun f hf => Nat.le_trans (volM_le _) (h.size f hf).n
  exact Nat.le_trans h1 (Nat.mul_le_mul_right _ h.len)
theorem TabAt.lt (h : TabAt w Z t T) {k : Nat} (hk : T.X t k) : k < w.heap.size := by
  rcases hk with rfl | hk | ⟨f, hf, rfl⟩
  · exact (Array.getElem?_eq_some_iff.1 h.top).1
  · exact (h.map k hk).lt
  · obtain ⟨v, hv, _⟩ := h.file f hf
    exact (Array.getElem?_eq_some_iff.1 hv).1
theorem TabAt.keep (h : TabAt w Z t T) (ht : Touch Y w w') (hy : ∀ b, b < w.heap.size → Y b → Z b ∧ ¬ T.X t b) : TabAt w' Z t T := by
  have hn : ∀ b, T.X t b → ¬ Y b := fun b hb hyb => (hy b (h.lt hb) hyb).2 hb
  refine ⟨ht.heap (hn t (.inl rfl)) h.top, fun b hb => owns_touch (h.map b hb) ht (hn b (.inr (.inl hb))), h.non, fun f hf => ?_, h.dist⟩
  obtain ⟨v, hv, hF⟩ := h.file f hf
  refine ⟨v, ht.heap (hn f.g (.inr (.inr ⟨f, hf, rfl⟩))) hv, ?_⟩
  obtain ⟨A, c, ps, e, hc, hp, hsay⟩ := hF
  have hk : ∀ {size n : Nat} {A : Option Addr} {xs : List Value}, RdX w (fun k => T.X t k ∨ Z k) size A n xs → RdX w' (fun k => T.X t k ∨ Z k) size A n xs := fun hr =>
    ⟨hr.1, fun hn => by
      obtain ⟨ad, e, hb, hx, hc⟩ := hr.2 hn
      exact ⟨ad, e, Nat.lt_of_lt_of_le hb ht.size, hx, fun j u hu => (ht.cell (by rw [block_of_add]; exact hb) (by rw [block_of_add]; exact fun hyb => hx (.inr (hy _ hb hyb).1))).trans (hc j u hu)⟩⟩
  exact ⟨A, c, ps, e, hc, ⟨hk hp.top, fun p hp' => hk (hp.row p hp')⟩, hsay⟩
theorem TabAt.below (h : TabAt w Z t T) (hb : Below w.heap.size w w') : TabAt w' Z t T := h.keep (Touch.of (X := fun _ => False) hb) fun _ _ h => h.elim
theorem TabAt.high (h : TabAt w Z t T) : TabAt w (fun b => Z b ∨ w.heap.size ≤ b) t T := by
  refine ⟨h.top, h.map, h.non, fun f hf => ?_, h.dist⟩
  obtain ⟨v, hv, A, c, ps, e, hc, hp, hsay⟩ := h.file f hf
  have hk : ∀ {size n : Nat} {A : Option Addr} {xs : List Value}, RdX w (fun k => T.X t k ∨ Z k) size A n xs → RdX w (fun k => T.X t k ∨ Z k ∨ w.heap.size ≤ k) size A n xs := fun hr =>
    ⟨hr.1, fun hn => by
      obtain ⟨ad, e, hb, hx, hc⟩ := hr.2 hn
      exact ⟨ad, e, hb, fun h => by
        rcases h with h | h | h
        · exact hx (.inl h)
        · exact hx (.inr h)
        · omega, hc⟩⟩
  exact ⟨v, hv, A, c, ps, e, hc, ⟨hk hp.top, fun p hp' => hk (hp.row p hp')⟩, hsay⟩
theorem TabAt.mono (h : TabAt w Z t T) (hx : ∀ b, b < w.heap.size → Y b → Z b) : TabAt w Y t T := by
  refine ⟨h.top, h.map, h.non, fun f hf => ?_, h.dist⟩
  obtain ⟨v, hv, hF⟩ := h.file f hf
  exact ⟨v, hv, hF.mono fun b hb hy => hy.elim .inl fun hy => .inr (hx b hb hy)⟩
theorem dist_of_mem {fs : List Fi} (_hs : fs.Pairwise fun a b => a.i < b.i) (hd : fs.Pairwise fun a b => a.g ≠ b.g) {f x : Fi} (hf : f ∈ fs) (hx : x ∈ fs) (hne : f.i ≠ x.i) : f.g ≠ x.g := by
  obtain ⟨j, hj⟩ := List.getElem?_of_mem hf
  obtain ⟨k, hk⟩ := List.getElem?_of_mem hx
  have h1 := (List.getElem?_eq_some_iff.1 hj)
  have h2 := (List.getElem?_eq_some_iff.1 hk)
  obtain ⟨l1, e1⟩ := h1
  obtain ⟨l2, e2⟩ := h2
  rw [List.pairwise_iff_getElem] at hd
  rcases Nat.lt_trichotomy j k with hlt | heq | hgt
  · have := hd j k l1 l2 hlt
    rw [e1, e2] at this
    exact this
  · subst heq
    rw [e1] at e2
    exact absurd (congrArg Fi.i e2) hne
  · have := hd k j l2 l1 hgt
    rw [e1, e2] at this
    exact fun e => this e.symm
theorem TabAt.upd (h : TabAt w Z t T) (hok : T.fs.Pairwise fun a b => a.i < b.i) {f : Fi} {n : Int} {m : List Pt} {v : Value} (hf : findF T.fs f.i = some f) (ht : Touch (fun k => k = f.g) w w') (hv : w'.heap[f.g]? = some (.cells #[v, .int .i64 n] 129 (0, 0))) (hF : FileV w' (fun k => T.X t k ∨ Z k) v m) :
    TabAt w' Z t { T with fs := updF T.fs f.i n m } := by
  obtain ⟨hm, _⟩ := findF_mem hf
  obtain ⟨v0, hv0, _⟩ := h.file f hm
  have ht0 : ¬ t = f.g := fun e => by
    have := h.top
    rw [e, hv0] at this
    injection this with this
    injection this with this _ _
    simp at this
  have hX : ∀ k, ({ T with fs := updF T.fs f.i n m } : Tb).X t k ↔ T.X t k := fun k => by
    unfold Tb.X
    simp only
    have : (∃ x ∈ updF T.fs f.i n m, k = x.g) ↔ ∃ x ∈ T.fs, k = x.g := by
      constructor
      · rintro ⟨x, hx, rfl⟩
        obtain ⟨y, hy, _, hg, _⟩ := updF_mem hx
        exact ⟨y, hy, hg⟩
      · rintro ⟨x, hx, rfl⟩
        have : x.g ∈ (updF T.fs f.i n m).map Fi.g := by rw [updF_g]; exact List.mem_map_of_mem hx
        obtain ⟨y, hy, e⟩ := List.mem_map.1 this
        exact ⟨y, hy, e.symm⟩
    rw [this]
  refine ⟨ht.heap ht0 h.top, fun b hb => ?_, fun hn => ?_, fun x hx => ?_, ?_⟩
  · simp only
    rw [updF_datum, updF_len]
    refine owns_touch (h.map b hb) ht fun e => ?_
    obtain ⟨es, clock, hb', _⟩ := h.map b hb
    rw [e, hv0] at hb'
    cases hb'
  · have := h.non hn
    simp only
    rw [this]
    rfl
  · obtain ⟨y, hy, hi, hg, hc⟩ := updF_mem hx
    rcases hc with ⟨e, hn', hm'⟩ | ⟨e, rfl⟩
    · have hyf : y = f := by
        have := findF_of_mem hok hy
        rw [e, hf] at this
        injection this with this
        exact this.symm
      subst hyf
      refine ⟨v, by rw [hg, hn']; exact hv, ?_⟩
      rw [hm']
      exact hF.mono fun b _ hb => hb.elim (fun hb => .inl ((hX b).1 hb)) .inr
    · obtain ⟨v1, hv1, hF1⟩ := h.file x hy
      have hne := dist_of_mem hok h.dist hm hy fun h' => e h'.symm
      refine ⟨v1, ht.heap (fun e => hne e.symm) hv1, ?_⟩
      refine (hF1.mono fun b _ hb => hb.elim (fun hb => .inl ((hX b).1 hb)) .inr).keep (Touch.mono ht fun b _ e => ?_)
      exact .inl ((hX b).2 (.inr (.inr ⟨f, hm, e⟩)))
  · have h1 := h.dist
    have e2 := updF_g T.fs f.i n m
    have h2 : (T.fs.map Fi.g).Pairwise (· ≠ ·) := by rw [List.pairwise_map]; exact h1
    rw [← e2, List.pairwise_map] at h2
    exact h2
end
end Go.Proofs.YtbhmnmmockmibaaGreat

namespace Go.Proofs.YtbhmnmmockmibaaGreat
open Go.RowKit Go.Maps
theorem keyI : Keyed Tryz.prog 3 := int_keyed Tryz.underlying3
theorem key_i {z : Int} (hz : -9223372036854775808 ≤ z ∧ z ≤ 9223372036854775807) : keyOf Tryz.prog 3 (.int .i64 z) = some (.int .i64 z) :=
  keyOf_int_mk Tryz.underlying3 (by simp only [Lit.wf, Bool.and_eq_true, decide_eq_true_eq]; exact hz)
section
variable {w : World} {Z : Nat → Prop} {t N : Nat} {T : Tb}
set_option maxRecDepth 100000 in
theorem TabAt.look (h : TabAt w Z t T) {z : Int} (hz : -9223372036854775808 ≤ z ∧ z ≤ 9223372036854775807) :
    (Instr.lookup 78 (.map T.mp) (.int .i64 z) false).run Tryz.prog w = .ok (ptr ((findF T.fs z).map Fi.g)) w := by
  cases hm : T.mp with
  | none =>
    have := Maps.look_nil (w := w) false keyI Tryz.underlying78 (Tryz.zeroValue130 w) (key_i hz)
    rw [h.non hm]
    exact this
  | some b =>
    obtain ⟨v, ps, hrun, hv⟩ := (h.map b hm).lookup keyI Tryz.underlying78 (Tryz.zeroValue130 w) (zd := dt none) (zp := []) rfl (key_i hz)
    obtain ⟨p, rfl, hp⟩ := RF_inv hv
    rw [datum_at] at hp
    injection hp with hp _
    have e : ptr p = ptr ((findF T.fs z).map Fi.g) := by
      cases hf : findF T.fs z with
      | none =>
        rw [hf] at hp
        rw [← dt_inj (p := none) hp]
        rfl
      | some f =>
        rw [hf] at hp
        rw [← dt_inj (p := some f.g) hp]
        rfl
    rw [e] at hrun
    exact hrun
theorem TabAt.cells (h : TabAt w Z t T) : w.cell? ⟨t, 5, none⟩ = some (.int .i64 T.q) ∧ w.cell? ⟨t, 6, none⟩ = some (.int .i64 (T.made : Int)) ∧ w.cell? ⟨t, 7, none⟩ = some (.map T.mp) := by
  refine ⟨?_, ?_, ?_⟩ <;> (rw [cell_of_row w t _ _ _ _ h.top]; rfl)
theorem TabAt.filed (h : TabAt w Z t T) {z : Int} {f : Fi} (hf : findF T.fs z = some f) : ∃ A n c, w.heap[f.g]? = some (.cells #[.slice A n c, .int .i64 f.n] 129 (0, 0)) ∧ FileV w (fun k => T.X t k ∨ Z k) (.slice A n c) f.m := by
  obtain ⟨v, hv, hF⟩ := h.file f (findF_mem hf).1
  obtain ⟨A, c, ps, rfl, hr⟩ := hF
  exact ⟨A, _, c, hv, A, c, ps, rfl, hr⟩
set_option maxHeartbeats 1000000 in
theorem find_some (h : TabAt w Z t T) {z : Int} (hz : -9223372036854775808 ≤ z ∧ z ≤ 9223372036854775807) {f : Fi} (hf : findF T.fs z = some f) :
    Calls Tryz.prog 91 #[.pointer (some ⟨t, 5, none⟩), .int .i64 z] w fun e w' => e = .returned (.tuple #[.pointer (some ⟨f.g, 0, none⟩), .int .i64 0]) ∧ w' = w := by
  obtain ⟨c0, c1, c2⟩ := h.cells
  have hl := h.look hz
  rw [hf] at hl
  simp only [Option.map_some, ptr] at hl
  generalize T.mp = mp at *
  generalize f.g = g at *
  clear h
  go_enter Tryz.func91, Tryz.ntmps91
  go_wp2
  go_ret2
  exact ⟨rfl, rfl⟩
set_option maxHeartbeats 1000000 in
theorem find_none (h : TabAt w Z t T) {z : Int} (hz : -9223372036854775808 ≤ z ∧ z ≤ 9223372036854775807) (hf : findF T.fs z = none) :
    Calls Tryz.prog 91 #[.pointer (some ⟨t, 5, none⟩), .int .i64 z] w fun e w' => e = .returned (.tuple #[.pointer none, .int .i64 80]) ∧ w' = w := by
  obtain ⟨c0, c1, c2⟩ := h.cells
  have hl := h.look hz
  rw [hf] at hl
  simp only [Option.map_none, ptr] at hl
  generalize T.mp = mp at *
  clear h
  go_enter Tryz.func91, Tryz.ntmps91
  go_wp2
  go_ret2
  exact ⟨rfl, rfl⟩
theorem TabAt.lowF (h : TabAt w Z t T) (hZ : ∀ b, Z b → b < w.heap.size) (b : Nat) (hb : T.X t b ∨ Z b) : XW w b := hb.elim (fun hb => h.lt hb) (hZ b)
set_option maxHeartbeats 1000000 in
theorem sync_some (h : TabAt w Z t T) (hok : T.Ok N) (hN : N ≤ 1000) (hZ : ∀ b, Z b → b < w.heap.size) {z : Int} (hz : -9223372036854775808 ≤ z ∧ z ≤ 9223372036854775807) {f : Fi} (hf : findF T.fs z = some f) :
    Calls Tryz.prog 74 #[.pointer (some ⟨t, 5, none⟩), .int .i64 z] w fun e w' => e = .returned (.int .i64 0) ∧ Touch (T.X t) w w' ∧ TabAt w' Z t { T with fs := updF T.fs z f.n (syncM f.m) } := by
  have Hc := Lib.hid (find_some h hz hf)
  obtain ⟨hm, hi⟩ := findF_mem hf
  obtain ⟨A, n, c, hv, hF⟩ := h.filed hf
  obtain ⟨A', c', ps, e, hcap, hp, hsay⟩ := hF
  injection e with e1 e2 e3
  subst e1 e2 e3
  have hsm : SmM (says ps) := by rw [hsay]; exact (hok.size f hm).sm hN
  have Hs := Lib.hid (sync_any (nm := .int .i64 f.n) hv hsm hp)
  have Hfin : Hid (∀ w' v, Touch (fun k => k = f.g) w w' → w'.heap[f.g]? = some (.cells #[v, .int .i64 f.n] 129 (0, 0)) → FileV w' (XW w) v (syncM (says ps)) → Touch (T.X t) w w' ∧ TabAt w' Z t { T with fs := updF T.fs z f.n (syncM f.m) }) := by
    intro w' v ht hv' hF'
    refine ⟨ht.mono fun b _ e => .inr (.inr ⟨f, hm, e⟩), ?_⟩
    rw [← hi]
    refine h.upd hok.sort (by rw [hi]; exact hf) ht hv' ?_
    rw [hsay] at hF'
    exact hF'.mono fun b _ hb => h.lowF hZ b hb
  generalize f.g = g at *
  clear h hok hv hp hsm hm hf hi hsay hcap
  go_enter Tryz.func74, Tryz.ntmps74
  go_wp2_with (first
    | (go_at_call 91; refine Hc.out.mono ?_; rintro e w1 ⟨rfl, rfl⟩)
    | (go_at_call 108; refine Hs.out.mono ?_; rintro e w1 ⟨rfl, ht, v, hv', hF'⟩))
  go_ret
  exact ⟨rfl, Hfin.out _ _ ht hv' hF'⟩
set_option maxHeartbeats 1000000 in
theorem link_some (h : TabAt w Z t T) (hok : T.Ok N) {z : Int} (hz : -9223372036854775808 ≤ z ∧ z ≤ 9223372036854775807) {f : Fi} (hf : findF T.fs z = some f) :
    Calls Tryz.prog 104 #[.pointer (some ⟨t, 5, none⟩), .int .i64 z] w fun e w' => e = .returned (.int .i64 0) ∧ Touch (T.X t) w w' ∧ TabAt w' Z t { T with fs := updF T.fs z (wrap64 (f.n + 1)) f.m } := by
  have Hc := Lib.hid (find_some h hz hf)
  obtain ⟨hm, hi⟩ := findF_mem hf
  obtain ⟨A, n, c, hv, hF⟩ := h.filed hf
  have c1 := bx_cell1 hv
  have z1 := bx_frozen1 hv
  have Hfin : Hid (∀ u, Touch (T.X t) w (w.setCell ⟨f.g, 1, none⟩ (.int .i64 u)) ∧ TabAt (w.setCell ⟨f.g, 1, none⟩ (.int .i64 u)) Z t { T with fs := updF T.fs z u f.m }) := by
    intro u
    have ht := Touch.cell1 w f.g 1 (.int .i64 u)
    refine ⟨ht.mono fun b _ e => .inr (.inr ⟨f, hm, e⟩), ?_⟩
    rw [← hi]
    exact h.upd hok.sort (by rw [hi]; exact hf) ht (bx_set1 _ hv) (hF.keep (ht.mono fun b _ e => .inl (.inr (.inr ⟨f, hm, e⟩))))
  generalize f.g = g at *
  clear h hok hv hF hm hf hi
  go_enter Tryz.func104, Tryz.ntmps104
  go_wp2_with (go_at_call 91; refine Hc.out.mono ?_; rintro e w1 ⟨rfl, rfl⟩)
  go_ret
  exact ⟨rfl, Hfin.out _⟩
set_option maxHeartbeats 1000000 in
theorem bytes_some (h : TabAt w Z t T) (hok : T.Ok N) (hN : N ≤ 1000) {z : Int} (hz : -9223372036854775808 ≤ z ∧ z ≤ 9223372036854775807) {f : Fi} (hf : findF T.fs z = some f) :
    Calls Tryz.prog 56 #[.pointer (some ⟨t, 5, none⟩), .int .i64 z] w fun e w' => ∃ v, e = .returned (.tuple #[v, .int .i64 0]) ∧ Below w.heap.size w w' ∧ w'.ownsRow w.heap.size 5 1 v (contM f.m).length (bs (contM f.m)) := by
  have Hc := Lib.hid (find_some h hz hf)
  obtain ⟨hm, hi⟩ := findF_mem hf
  obtain ⟨A, n, c, hv, hF⟩ := h.filed hf
  obtain ⟨A', c', ps, e, hcap, hp, hsay⟩ := hF
  injection e with e1 e2 e3
  subst e1 e2 e3
  have hsm : SmM (says ps) := by rw [hsay]; exact (hok.size f hm).sm hN
  have c0 := bx_cell hv
  have Hs := Lib.hid (bytes_any A c ps w hsm hp)
  rw [hsay] at Hs
  generalize f.g = g at *
  generalize ps.length = n at *
  clear h hok hv hp hsm hm hf hi hsay hcap
  go_enter Tryz.func56, Tryz.ntmps56
  go_wp2_with (first
    | (go_at_call 91; refine Hc.out.mono ?_; rintro e w1 ⟨rfl, rfl⟩)
    | (go_at_call 92; refine Hs.out.mono ?_; rintro e w1 ⟨v, rfl, ho, hb⟩))
  go_ret2
  exact ⟨_, rfl, hb, ho⟩
end
end Go.Proofs.YtbhmnmmockmibaaGreat

namespace Go.Proofs.YtbhmnmmockmibaaGreat
open Go.RowKit Go.Maps
section
variable {w : World} {Z : Nat → Prop} {t N : Nat} {T : Tb}
set_option maxHeartbeats 2000000 in
set_option maxRecDepth 100000 in
theorem tused_any (h : TabAt w Z t T) (hok : T.Ok N) (hN : N ≤ 1000) :
    Calls Tryz.prog 59 #[.pointer (some ⟨t, 5, none⟩)] w fun e w' => e = .returned (.int .i64 (usedF T.fs : Nat)) ∧ Below w.heap.size w w' := by
  have htop : (usedF T.fs : Int) ≤ 30000000000 := by
    have h1 := hok.used
    have h2 : N * (N * 60) ≤ 1000 * (1000 * 60) := Nat.mul_le_mul hN (Nat.mul_le_mul_right _ hN)
    omega
  obtain ⟨c0, c1, c2⟩ := h.cells
  have H := Lib.hid h
  have Hok := Lib.hid hok
  cases hm : T.mp with
  | none =>
    rw [hm] at c2
    have hfs : T.fs = [] := h.non hm
    have hz : (usedF T.fs : Int) = 0 := by rw [hfs]; rfl
    have hz' : Hid (usedF T.fs = 0) := by show _ = _; rw [hfs]; rfl
    have hrg := run_range_nilMap (P := Tryz.prog) w 78 _ _ Tryz.underlying78
    have hnx : ∀ ty, (Instr.next (.pointer (some ⟨w.heap.size, 0, none⟩)) false ty).run Tryz.prog (w.alloc (.mapIter none 0 #[] 0)) = _ := fun ty => run_next_nilMap _ ty 0 0 #[]
    rw [hz'.out]
    clear h hok hfs hz hz' htop H Hok hm
    go_enter Tryz.func59, Tryz.ntmps59
    go_wp2
    refine wp_loop_rounds 1 ?_
    rw [rounds_succ]
    go_wp2
    go_ret
    exact ⟨rfl, below_new _ _⟩
  | some b =>
    rw [hm] at c2
    have hown := h.map b hm
    clear h hok
    go_enter Tryz.func59, Tryz.ntmps59
    go_wp2_with (at_range; refine wpList_range_own _ rfl _ 78 rfl 3 130 keyI Tryz.underlying78 _ b _ _ rfl hown ?_; intro w0 hrg0 hg0 hs0)
    go_frame
    obtain ⟨r, hr⟩ : ∃ r, Hid (w.heap.size = r) := ⟨_, rfl⟩
    have hB0 : Hid (Below w.heap.size w w0) := Go.RowKit.Below.grown (.refl _ _) hg0 (Nat.le_refl _) (fun j hj => by cases hj)
    rw [hr.out] at hrg0 ⊢
    clear hs0 hg0 c0 c1 c2 hown
    go_loopw [3] (fun s wr => ∃ (left : Lit → Bool) (cnt n : Nat), s = .int .i64 (n : Int) ∧ wr.ranges Tryz.prog 3 RF b r T.fs.length (datum T.fs) left cnt ∧ Hid (n + sumF (fun f => (contM f.m).length) (restF T.fs left) = usedF T.fs) ∧ Hid (Below w.heap.size w wr)) (fun _ wr => wr.rangeLeft b r)
    case atStart => exact ⟨_, _, 0, rfl, hrg0, by show _ = _; rw [rest_start, Nat.zero_add]; rfl, hB0⟩
    case round =>
      clear hrg0 hB0
      obtain ⟨left, cnt, n, rfl, hrg, hsum, hB⟩ := hrel
      have Hrg := Lib.hid hrg
      clear hrg
      go_wp2_with (at_next; refine wpList_next_ranges _ rfl _ rfl 3 keyI RF (Value.int .i64) ptr (fun key kl hk => by obtain ⟨x, hx, _⟩ := Maps.keyOf_int_inv Tryz.underlying3 hk; exact ⟨x, hx⟩) (fun v y hv => by obtain ⟨p, rfl, _⟩ := RF_inv hv; exact ⟨p, rfl⟩) b r _ _ _ _ rfl Hrg.out ?_ ?_)
      · intro hc0 hl0
        have hn : Hid (n = usedF T.fs) := by
          have := hsum.out
          rw [rest_end hl0] at this
          exact this
        clear hl0
        go_wp2
        go_ret
        exact ⟨by rw [hn.out]; rfl, hB.out⟩
      · intro x p kl yd yp w2 cnt2 hkey hlk hv hat hrg2 hlt hg2 hs2 hen
        obtain ⟨x', ex, rfl, hwf⟩ := Maps.keyOf_int_inv Tryz.underlying3 hkey
        obtain rfl : x = x' := by injection ex
        obtain ⟨rfl, rfl⟩ : yd = dt p ∧ yp = [] := by rw [RF_ptr] at hv; injection hv with hv; injection hv with h1 h2; exact ⟨h1.symm, h2.symm⟩
        obtain ⟨f, hf, rfl⟩ := datum_found hat
        have hrw : Hid (w.heap.size ≤ r) := by show _ ≤ _; rw [hr.out]; exact Nat.le_refl _
        have hB2 : Hid (Below w.heap.size w w2) := hB.out.trans (Go.RowKit.Below.grown (.refl _ _) hg2 hB.out.size (fun j hj => by injection hj with hj; have := hrw.out; omega))
        have h2 := Lib.hid (H.out.below hB2.out)
        obtain ⟨A, nn, c, hv2, hF⟩ := h2.out.filed hf
        have cf := bx_cell hv2
        obtain ⟨A', c', ps, e, hcap, hp, hsay⟩ := hF
        injection e with e1 e2 e3
        subst e1 e2 e3
        have hmem := (findF_mem hf).1
        have hsm : SmM (says ps) := by rw [hsay]; exact (Hok.out.size f hmem).sm hN
        have Hs := Lib.hid (len_any A c ps w2 hsm hp)
        have hstep := Lib.hid (rest_step (fun f => (contM f.m).length) Hok.out.sort hf hlk)
        obtain ⟨u, hu⟩ : ∃ u, Hid ((contM f.m).length = u) := ⟨_, rfl⟩
        rw [hsay, hu.out] at Hs
        have hun : Hid (n + u ≤ usedF T.fs) := by
          have a1 := hsum.out
          have a2 := hstep.out
          rw [hu.out] at a2
          show _ ≤ _
          omega
        have hunI : (n : Int) + (u : Int) ≤ 30000000000 := by have := hun.out; omega
        generalize f.g = g at *
        generalize ps.length = m at *
        have Hrg2 := Lib.hid hrg2
        have Hlt := Lib.hid hlt
        clear hv2 hp hsay hsm hcap hs2 hrg2 hg2 hat hkey ex hlk hv hlt hf hmem hwf
        simp only [ptr] at hen ⊢
        go_wp2_with (go_at_call 93; refine Hs.out.mono ?_; rintro e w3 ⟨rfl, hb3⟩; go_frame)
        have hB3 : Hid (Below w.heap.size w w3) := hB2.out.trans (hb3.mono hB2.out.size)
        have hrg3 : w3.ranges Tryz.prog 3 RF b r T.fs.length (datum T.fs) (fun z => left z && !z.sameKey (.int .i64 x)) cnt2 := Hrg2.out.kept (row := none) ⟨hb3.os, hb3.tape, hb3.output, hb3.size, fun i hi _ => hb3.block i hi⟩ (by simp) (by simp)
        go_roundw
        case rel => exact ⟨_, cnt2, n + u, by go_num, hrg3, by have a1 := hsum.out; have a2 := hstep.out; rw [hu.out] at a2; show _ = _; omega, hB3⟩
        case measure => rw [hrg3.left_eq, Hrg.out.left_eq]; exact Hlt.out
set_option maxHeartbeats 2000000 in
set_option maxRecDepth 100000 in
theorem tvol_any (h : TabAt w Z t T) (hok : T.Ok N) (hN : N ≤ 1000) :
    Calls Tryz.prog 58 #[.pointer (some ⟨t, 5, none⟩)] w fun e w' => e = .returned (.int .i64 (volF T.fs : Nat)) ∧ Below w.heap.size w w' := by
  have htop : (volF T.fs : Int) ≤ 30000000000 := by
    have h1 := hok.vol
    have h2 : N * N ≤ 1000 * 1000 := Nat.mul_le_mul hN hN
    omega
  obtain ⟨c0, c1, c2⟩ := h.cells
  have H := Lib.hid h
  have Hok := Lib.hid hok
  cases hm : T.mp with
  | none =>
    rw [hm] at c2
    have hfs : T.fs = [] := h.non hm
    have hz : (volF T.fs : Int) = 0 := by rw [hfs]; rfl
    have hz' : Hid (volF T.fs = 0) := by show _ = _; rw [hfs]; rfl
    have hrg := run_range_nilMap (P := Tryz.prog) w 78 _ _ Tryz.underlying78
    have hnx : ∀ ty, (Instr.next (.pointer (some ⟨w.heap.size, 0, none⟩)) false ty).run Tryz.prog (w.alloc (.mapIter none 0 #[] 0)) = _ := fun ty => run_next_nilMap _ ty 0 0 #[]
    rw [hz'.out]
    clear h hok hfs hz hz' htop H Hok hm
    go_enter Tryz.func58, Tryz.ntmps58
    go_wp2
    refine wp_loop_rounds 1 ?_
    rw [rounds_succ]
    go_wp2
    go_ret
    exact ⟨rfl, below_new _ _⟩
  | some b =>
    rw [hm] at c2
    have hown := h.map b hm
    clear h hok
    go_enter Tryz.func58, Tryz.ntmps58
    go_wp2_with (at_range; refine wpList_range_own _ rfl _ 78 rfl 3 130 keyI Tryz.underlying78 _ b _ _ rfl hown ?_; intro w0 hrg0 hg0 hs0)
    go_frame
    obtain ⟨r, hr⟩ : ∃ r, Hid (w.heap.size = r) := ⟨_, rfl⟩
    have hB0 : Hid (Below w.heap.size w w0) := Go.RowKit.Below.grown (.refl _ _) hg0 (Nat.le_refl _) (fun j hj => by cases hj)
    rw [hr.out] at hrg0 ⊢
    clear hs0 hg0 c0 c1 c2 hown
    go_loopw [3] (fun s wr => ∃ (left : Lit → Bool) (cnt n : Nat), s = .int .i64 (n : Int) ∧ wr.ranges Tryz.prog 3 RF b r T.fs.length (datum T.fs) left cnt ∧ Hid (n + sumF (fun f => volM f.m) (restF T.fs left) = volF T.fs) ∧ Hid (Below w.heap.size w wr)) (fun _ wr => wr.rangeLeft b r)
    case atStart => exact ⟨_, _, 0, rfl, hrg0, by show _ = _; rw [rest_start, Nat.zero_add]; rfl, hB0⟩
    case round =>
      clear hrg0 hB0
      obtain ⟨left, cnt, n, rfl, hrg, hsum, hB⟩ := hrel
      have Hrg := Lib.hid hrg
      clear hrg
      go_wp2_with (at_next; refine wpList_next_ranges _ rfl _ rfl 3 keyI RF (Value.int .i64) ptr (fun key kl hk => by obtain ⟨x, hx, _⟩ := Maps.keyOf_int_inv Tryz.underlying3 hk; exact ⟨x, hx⟩) (fun v y hv => by obtain ⟨p, rfl, _⟩ := RF_inv hv; exact ⟨p, rfl⟩) b r _ _ _ _ rfl Hrg.out ?_ ?_)
      · intro hc0 hl0
        have hn : Hid (n = volF T.fs) := by
          have := hsum.out
          rw [rest_end hl0] at this
          exact this
        clear hl0
        go_wp2
        go_ret
        exact ⟨by rw [hn.out]; rfl, hB.out⟩
      · intro x p kl yd yp w2 cnt2 hkey hlk hv hat hrg2 hlt hg2 hs2 hen
        obtain ⟨x', ex, rfl, hwf⟩ := Maps.keyOf_int_inv Tryz.underlying3 hkey
        obtain rfl : x = x' := by injection ex
        obtain ⟨rfl, rfl⟩ : yd = dt p ∧ yp = [] := by rw [RF_ptr] at hv; injection hv with hv; injection hv with h1 h2; exact ⟨h1.symm, h2.symm⟩
        obtain ⟨f, hf, rfl⟩ := datum_found hat
        have hrw : Hid (w.heap.size ≤ r) := by show _ ≤ _; rw [hr.out]; exact Nat.le_refl _
        have hB2 : Hid (Below w.heap.size w w2) := hB.out.trans (Go.RowKit.Below.grown (.refl _ _) hg2 hB.out.size (fun j hj => by injection hj with hj; have := hrw.out; omega))
        have h2 := Lib.hid (H.out.below hB2.out)
        obtain ⟨A, nn, c, hv2, hF⟩ := h2.out.filed hf
        have cf := bx_cell hv2
        obtain ⟨A', c', ps, e, hcap, hp, hsay⟩ := hF
        injection e with e1 e2 e3
        subst e1 e2 e3
        have hmem := (findF_mem hf).1
        have hsm : SmM (says ps) := by rw [hsay]; exact (Hok.out.size f hmem).sm hN
        have Hs := Lib.hid (vol_any A c ps w2 hsm hp)
        have hstep := Lib.hid (rest_step (fun f => volM f.m) Hok.out.sort hf hlk)
        obtain ⟨u, hu⟩ : ∃ u, Hid (volM f.m = u) := ⟨_, rfl⟩
        rw [hsay, hu.out] at Hs
        have hun : Hid (n + u ≤ volF T.fs) := by
          have a1 := hsum.out
          have a2 := hstep.out
          rw [hu.out] at a2
          show _ ≤ _
          omega
        have hunI : (n : Int) + (u : Int) ≤ 30000000000 := by have := hun.out; omega
        generalize f.g = g at *
        generalize ps.length = m at *
        have Hrg2 := Lib.hid hrg2
        have Hlt := Lib.hid hlt
        clear hv2 hp hsay hsm hcap hs2 hrg2 hg2 hat hkey ex hlk hv hlt hf hmem hwf
        simp only [ptr] at hen ⊢
        go_wp2_with (go_at_call 63; refine Hs.out.mono ?_; rintro e w3 ⟨rfl, hb3⟩; go_frame)
        have hB3 : Hid (Below w.heap.size w w3) := hB2.out.trans (hb3.mono hB2.out.size)
        have hrg3 : w3.ranges Tryz.prog 3 RF b r T.fs.length (datum T.fs) (fun z => left z && !z.sameKey (.int .i64 x)) cnt2 := Hrg2.out.kept (row := none) ⟨hb3.os, hb3.tape, hb3.output, hb3.size, fun i hi _ => hb3.block i hi⟩ (by simp) (by simp)
        go_roundw
        case rel => exact ⟨_, cnt2, n + u, by go_num, hrg3, by have a1 := hsum.out; have a2 := hstep.out; rw [hu.out] at a2; show _ = _; omega, hB3⟩
        case measure => rw [hrg3.left_eq, Hrg.out.left_eq]; exact Hlt.out
end
end Go.Proofs.YtbhmnmmockmibaaGreat
