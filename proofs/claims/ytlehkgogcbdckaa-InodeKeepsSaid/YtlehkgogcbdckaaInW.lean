/- A table that a call has made: what each of its methods does, and what stays. Conditions: at most 990 files, of at most 990 parts of 30 bytes. -/
import Derived.Test.YtlehkgogcbdckaaInV
namespace Go.Proofs.Ytlehkgogcbdckaa
open Go.RowKit Go.Maps

/-- What a table's methods may touch: blocks since w0, but none of Y. -/
def Fr (w0 : World) (Y : Nat → Prop) : Nat → Prop := fun k => w0.heap.size ≤ k ∧ ¬ Y k
/-- A table made since w0; its files' bytes, and its blocks, lie apart from Y. -/
structure WS (w0 : World) (Y : Nat → Prop) (t : Nat) (q : Int) (made : Nat) (fs : List Fi) (N : Nat) (w : World) : Prop where
  ex : ∃ mp, TabAt w Y t ⟨q, made, mp, fs⟩ ∧ (∀ k, (⟨q, made, mp, fs⟩ : Tb).X t k → w0.heap.size ≤ k) ∧ ∀ k, Y k → ¬ (⟨q, made, mp, fs⟩ : Tb).X t k
  ok : ∀ mp, (⟨q, made, mp, fs⟩ : Tb).Ok N
  below : Below w0.heap.size w0 w
  low : ∀ k, Y k → k < w.heap.size
def doApp (q : Int) (fs : List Fi) (z : Int) (l : List UInt8) : List Fi × Int := match findF fs z with
  | none => (fs, 80)
  | some f => if q < (l.length : Int) + usedF fs then (fs, 90) else (updF fs z f.n (appM f.m l), 0)
def doSync (fs : List Fi) (z : Int) : List Fi × Int := match findF fs z with
  | none => (fs, 80)
  | some f => (updF fs z f.n (syncM f.m), 0)
def doLink (fs : List Fi) (z : Int) : List Fi × Int := match findF fs z with
  | none => (fs, 80)
  | some f => (updF fs z (wrap64 (f.n + 1)) f.m, 0)
def doDrop (fs : List Fi) (z : Int) : List Fi × Int := match findF fs z with
  | none => (fs, 80)
  | some f => (leaveF (updF fs z (wrap64 (f.n - 1)) f.m) z (wrap64 (f.n - 1)), 0)
section
variable {w0 w w' : World} {Y Y' : Nat → Prop} {t : Nat} {q : Int} {made : Nat} {fs fs' : List Fi} {N M : Nat}
theorem updF_sub {z n : Int} {m : List Pt} {x : Fi} (hx : x ∈ updF fs z n m) : ∃ f ∈ fs, x.g = f.g := by
  obtain ⟨f, hf, _, hg, _⟩ := updF_mem hx
  exact ⟨f, hf, hg⟩
theorem WS.mono (h : WS w0 Y t q made fs N w) (hN : N ≤ M) : WS w0 Y t q made fs M w := ⟨h.ex, fun mp => (h.ok mp).mono hN, h.below, h.low⟩
theorem WS.step {mp : Option Nat} (h : WS w0 Y t q made fs N w) (hX : ∀ k, (⟨q, made, mp, fs⟩ : Tb).X t k → w0.heap.size ≤ k) (hap : ∀ k, Y k → ¬ (⟨q, made, mp, fs⟩ : Tb).X t k) (ht : Touch ((⟨q, made, mp, fs⟩ : Tb).X t) w w') (hT' : TabAt w' Y t ⟨q, made, mp, fs'⟩) (hsub : ∀ x ∈ fs', ∃ f ∈ fs, x.g = f.g) (hok : ∀ mp, (⟨q, made, mp, fs'⟩ : Tb).Ok M) :
    WS w0 Y t q made fs' M w' ∧ Touch (Fr w0 Y) w w' := by
  have hX' : ∀ k, (⟨q, made, mp, fs'⟩ : Tb).X t k → (⟨q, made, mp, fs⟩ : Tb).X t k := fun k hk => by
    rcases hk with e | e | ⟨x, hx, e⟩
    · exact .inl e
    · exact .inr (.inl e)
    · obtain ⟨f, hf, e'⟩ := hsub x hx
      exact .inr (.inr ⟨f, hf, by rw [e, e']⟩)
  refine ⟨⟨⟨mp, hT', fun k hk => hX k (hX' k hk), fun k hy hk => hap k hy (hX' k hk)⟩, hok, ?_, fun k hk => Nat.lt_of_lt_of_le (h.low k hk) ht.size⟩, ht.mono fun b _ hb => ⟨hX b hb, fun hy => hap b hy hb⟩⟩
  exact h.below.trans (ht.below h.below.size fun b hb => hX b hb)
theorem WS.quiet (h : WS w0 Y t q made fs N w) (hb : Below w.heap.size w w') : WS w0 Y t q made fs N w' ∧ Touch (Fr w0 Y) w w' := by
  obtain ⟨mp, hT, hX, hap⟩ := h.ex
  exact ⟨⟨⟨mp, hT.below hb, hX, hap⟩, h.ok, h.below.trans (hb.mono h.below.size), fun k hk => Nat.lt_of_lt_of_le (h.low k hk) hb.size⟩, .of hb⟩
/-- New blocks of the caller's own. -/
theorem WS.more (h : WS w0 Y t q made fs N w) (hb : Below w.heap.size w w') (hy : ∀ k, Y' k → Y k ∨ (w.heap.size ≤ k ∧ k < w'.heap.size)) : WS w0 Y' t q made fs N w' := by
  obtain ⟨mp, hT, hX, hap⟩ := h.ex
  refine ⟨⟨mp, ((hT.high.below hb).mono fun k _ hk => ?_), hX, fun k hk hx => ?_⟩, h.ok, h.below.trans (hb.mono h.below.size), fun k hk => ?_⟩
  · rcases hy k hk with h | h
    · exact .inl h
    · exact .inr h.1
  · rcases hy k hk with h | h
    · exact hap k h hx
    · have := hT.lt hx; omega
  · rcases hy k hk with h1 | h1
    · exact Nat.lt_of_lt_of_le (h.low k h1) hb.size
    · exact h1.2
/-- The caller writes into its own. -/
theorem WS.write (h : WS w0 Y t q made fs N w) (ht : Touch Y w w') (hY : ∀ k, Y k → w0.heap.size ≤ k) : WS w0 Y t q made fs N w' := by
  obtain ⟨mp, hT, hX, hap⟩ := h.ex
  exact ⟨⟨mp, hT.keep ht fun b _ hb => ⟨hb, hap b hb⟩, hX, hap⟩, h.ok, h.below.trans (ht.below h.below.size hY), fun k hk => Nat.lt_of_lt_of_le (h.low k hk) ht.size⟩
theorem WS.new (quota : Int) (h1 : -9223372036854775808 ≤ quota) (h2 : quota ≤ 9223372036854775807) (hb : Below w0.heap.size w0 w) :
    Calls Try.prog 7 #[.int .i64 quota] w fun e w' => e = .returned (.pointer (some ⟨w.heap.size, 0, none⟩)) ∧ WS w0 (fun _ => False) w.heap.size (max quota 0) 0 [] 0 w' := by
  refine (new_any quota w h1 h2).mono ?_
  rintro e w' ⟨rfl, hb', hT⟩
  refine ⟨rfl, ⟨none, hT, fun k hk => ?_, fun k h => h.elim⟩, fun mp => ?_, hb.trans (hb'.mono hb.size), fun k h => h.elim⟩
  · rcases hk with e | e | ⟨f, hf, _⟩
    · rw [e]; exact hb.size
    · cases e
    · cases hf
  · have h := Tb.new_ok quota h2
    exact ⟨h.q, h.made, h.len, h.sort, h.num, h.many, h.size⟩
theorem WS.make (h : WS w0 Y t q made fs N w) (hN : N ≤ 990) :
    Calls Try.prog 9 #[.pointer (some ⟨t, 0, none⟩)] w fun e w' => e = .returned (.int .i64 ((made : Int) + 1)) ∧ ∃ g, WS w0 Y t q (made + 1) (fs ++ [⟨(made : Int) + 1, g, 0, []⟩]) (N + 1) w' ∧ Touch (Fr w0 Y) w w' := by
  obtain ⟨mp, hT, hX, hap⟩ := h.ex
  refine (make_any hT (h.ok mp) (by omega)).mono ?_
  rintro e w' ⟨rfl, T', hM⟩
  have hok := hM.ok (h.ok mp)
  obtain ⟨g, hg, hfs⟩ := hM.fs
  obtain ⟨q', made', mp', fs''⟩ := T'
  have e1 := hM.q
  have e2 := hM.made
  simp only at e1 e2 hfs
  subst e1 e2 hfs
  have hw : ∀ k, (⟨q', made + 1, mp', fs ++ [⟨(made : Int) + 1, g, 0, []⟩]⟩ : Tb).X t k → w0.heap.size ≤ k := fun k hk => by
    rcases hM.X k hk with h1 | h1
    · exact hX k h1
    · exact Nat.le_trans h.below.size h1
  refine ⟨rfl, g, ⟨⟨mp', hM.tab, hw, fun k hy hk => ?_⟩, fun mp => ⟨hok.q, hok.made, hok.len, hok.sort, hok.num, hok.many, hok.size⟩, ?_, fun k hk => Nat.lt_of_lt_of_le (h.low k hk) hM.touch.size⟩, hM.touch.mono fun b _ hb => ⟨hX b hb, fun hy => hap b hy hb⟩⟩
  · rcases hM.X k hk with h1 | h1
    · exact hap k hy h1
    · have := h.low k hy; omega
  · exact h.below.trans (hM.touch.below h.below.size fun b hb => hX b hb)
theorem WS.sync (h : WS w0 Y t q made fs N w) (hN : N ≤ 990) {z : Int} (hz : -9223372036854775808 ≤ z ∧ z ≤ 9223372036854775807) :
    Calls Try.prog 10 #[.pointer (some ⟨t, 0, none⟩), .int .i64 z] w fun e w' => e = .returned (.int .i64 (doSync fs z).2) ∧ WS w0 Y t q made (doSync fs z).1 N w' ∧ Touch (Fr w0 Y) w w' := by
  obtain ⟨mp, hT, hX, hap⟩ := h.ex
  unfold doSync
  cases hf : findF fs z with
  | none =>
    refine (sync_none hT hz hf).mono ?_
    rintro e w' ⟨rfl, rfl⟩
    exact ⟨rfl, h, .refl _ _⟩
  | some f =>
    refine (sync_some hT (h.ok mp) (by omega) h.low hz hf).mono ?_
    rintro e w' ⟨rfl, ht, hT'⟩
    exact ⟨rfl, h.step hX hap ht hT' (fun x hx => updF_sub hx) fun mp => (h.ok mp).upd ((h.ok mp).many f (findF_mem hf).1) (((h.ok mp).size f (findF_mem hf).1).sync) (Nat.le_refl _)⟩
theorem WS.link (h : WS w0 Y t q made fs N w) {z : Int} (hz : -9223372036854775808 ≤ z ∧ z ≤ 9223372036854775807) :
    Calls Try.prog 11 #[.pointer (some ⟨t, 0, none⟩), .int .i64 z] w fun e w' => e = .returned (.int .i64 (doLink fs z).2) ∧ WS w0 Y t q made (doLink fs z).1 N w' ∧ Touch (Fr w0 Y) w w' := by
  obtain ⟨mp, hT, hX, hap⟩ := h.ex
  unfold doLink
  cases hf : findF fs z with
  | none =>
    refine (link_none hT hz hf).mono ?_
    rintro e w' ⟨rfl, rfl⟩
    exact ⟨rfl, h, .refl _ _⟩
  | some f =>
    refine (link_some hT (h.ok mp) hz hf).mono ?_
    rintro e w' ⟨rfl, ht, hT'⟩
    exact ⟨rfl, h.step hX hap ht hT' (fun x hx => updF_sub hx) fun mp => (h.ok mp).upd (wrap_in _) ((h.ok mp).size f (findF_mem hf).1) (Nat.le_refl _)⟩
theorem WS.drop (h : WS w0 Y t q made fs N w) {z : Int} (hz : -9223372036854775808 ≤ z ∧ z ≤ 9223372036854775807) :
    Calls Try.prog 12 #[.pointer (some ⟨t, 0, none⟩), .int .i64 z] w fun e w' => e = .returned (.int .i64 (doDrop fs z).2) ∧ WS w0 Y t q made (doDrop fs z).1 N w' ∧ Touch (Fr w0 Y) w w' := by
  obtain ⟨mp, hT, hX, hap⟩ := h.ex
  unfold doDrop
  cases hf : findF fs z with
  | none =>
    refine (drop_none hT hz hf).mono ?_
    rintro e w' ⟨rfl, rfl⟩
    exact ⟨rfl, h, .refl _ _⟩
  | some f =>
    refine (drop_some hT (h.ok mp) hz hf).mono ?_
    rintro e w' ⟨rfl, ht, hT'⟩
    exact ⟨rfl, h.step hX hap ht hT' (fun x hx => updF_sub (leaveF_mem hx)) fun mp => (h.ok mp).drop hf⟩
theorem WS.append {Ab : Option Addr} {cb nl B : Nat} {l : List UInt8} (h : WS w0 Y t q made fs N w) (hN : N ≤ 990) {z : Int} (hz : -9223372036854775808 ≤ z ∧ z ≤ 9223372036854775807) (hn : l.length = nl) (hl : nl ≤ 30) (hB : B ≤ w.heap.size) (hr : RdB w B Ab l) :
    Calls Try.prog 17 #[.pointer (some ⟨t, 0, none⟩), .int .i64 z, .slice Ab nl cb] w fun e w' => e = .returned (.int .i64 (doApp q fs z l).2) ∧ WS w0 Y t q made (doApp q fs z l).1 (N + 1) w' ∧ Touch (Fr w0 Y) w w' := by
  subst hn
  obtain ⟨mp, hT, hX, hap⟩ := h.ex
  unfold doApp
  cases hf : findF fs z with
  | none =>
    refine (append_none hT hz hf).mono ?_
    rintro e w' ⟨rfl, rfl⟩
    exact ⟨rfl, h.mono (by omega), .refl _ _⟩
  | some f =>
    by_cases hq : q < (l.length : Int) + usedF fs
    · simp only
      rw [if_pos hq]
      refine (append_full hT (h.ok mp) (by omega) hz hf hl hq).mono ?_
      rintro e w' ⟨rfl, hb⟩
      obtain ⟨h1, h2⟩ := h.quiet hb
      exact ⟨rfl, h1.mono (by omega), h2⟩
    · simp only
      rw [if_neg hq]
      refine (append_some hT (h.ok mp) (by omega) h.low hz hf hl hB hr (by show _ ≤ q; show (l.length : Int) + (usedF fs : Int) ≤ q; omega)).mono ?_
      rintro e w' ⟨rfl, ht, hT'⟩
      exact ⟨rfl, h.step hX hap ht hT' (fun x hx => updF_sub hx) fun mp => (h.ok mp).upd ((h.ok mp).many f (findF_mem hf).1) (((h.ok mp).size f (findF_mem hf).1).app hl) (by omega)⟩
theorem WS.used (h : WS w0 Y t q made fs N w) (hN : N ≤ 990) :
    Calls Try.prog 14 #[.pointer (some ⟨t, 0, none⟩)] w fun e w' => e = .returned (.int .i64 (usedF fs : Nat)) ∧ WS w0 Y t q made fs N w' ∧ Touch (Fr w0 Y) w w' ∧ Below w.heap.size w w' := by
  obtain ⟨mp, hT, hX, hap⟩ := h.ex
  refine (tused_any hT (h.ok mp) (by omega)).mono ?_
  rintro e w' ⟨rfl, hb⟩
  exact ⟨rfl, (h.quiet hb).1, (h.quiet hb).2, hb⟩
theorem WS.vol (h : WS w0 Y t q made fs N w) (hN : N ≤ 990) :
    Calls Try.prog 16 #[.pointer (some ⟨t, 0, none⟩)] w fun e w' => e = .returned (.int .i64 (volF fs : Nat)) ∧ WS w0 Y t q made fs N w' ∧ Touch (Fr w0 Y) w w' ∧ Below w.heap.size w w' := by
  obtain ⟨mp, hT, hX, hap⟩ := h.ex
  refine (tvol_any hT (h.ok mp) (by omega)).mono ?_
  rintro e w' ⟨rfl, hb⟩
  exact ⟨rfl, (h.quiet hb).1, (h.quiet hb).2, hb⟩
theorem WS.bytes (h : WS w0 Y t q made fs N w) (hN : N ≤ 990) {z : Int} (hz : -9223372036854775808 ≤ z ∧ z ≤ 9223372036854775807) {f : Fi} (hf : findF fs z = some f) :
    Calls Try.prog 19 #[.pointer (some ⟨t, 0, none⟩), .int .i64 z] w fun e w' => ∃ v, e = .returned (.tuple #[v, .int .i64 0]) ∧ w'.ownsRow w.heap.size 5 1 v (contM f.m).length (bs (contM f.m)) ∧ WS w0 Y t q made fs N w' ∧ Touch (Fr w0 Y) w w' ∧ Below w.heap.size w w' := by
  obtain ⟨mp, hT, hX, hap⟩ := h.ex
  refine (bytes_some hT (h.ok mp) (by omega) hz hf).mono ?_
  rintro e w' ⟨v, rfl, hb, ho⟩
  exact ⟨v, rfl, ho, (h.quiet hb).1, (h.quiet hb).2, hb⟩
theorem WS.bytesNo (h : WS w0 Y t q made fs N w) {z : Int} (hz : -9223372036854775808 ≤ z ∧ z ≤ 9223372036854775807) (hf : findF fs z = none) :
    Calls Try.prog 19 #[.pointer (some ⟨t, 0, none⟩), .int .i64 z] w fun e w' => e = .returned (.tuple #[.slice none 0 0, .int .i64 80]) ∧ w' = w := by
  obtain ⟨mp, hT, hX, hap⟩ := h.ex
  exact bytes_none hT hz hf
theorem WS.all (h : WS w0 Y t q made fs N w) (hN : N ≤ 990) :
    Calls Try.prog 18 #[.pointer (some ⟨t, 0, none⟩)] w fun e w' => ∃ v, e = .returned v ∧ OwnEn 45 w.heap.size w' v (manyC fs) ∧ WS w0 Y t q made fs N w' ∧ Touch (Fr w0 Y) w w' ∧ Below w.heap.size w w' := by
  obtain ⟨mp, hT, hX, hap⟩ := h.ex
  refine (all_any hT (h.ok mp) (by omega)).mono ?_
  rintro e w' ⟨v, rfl, ho, hb⟩
  exact ⟨v, rfl, ho, (h.quiet hb).1, (h.quiet hb).2, hb⟩
theorem WS.fail {A Ak : Option Addr} {cap ck nn nk : Nat} {names : List En} {keep : List Bool} {Xn : Nat → Prop} (h : WS w0 Y t q made fs N w) (hN : N ≤ 990) (hr : EnX w Xn A names) (hnn : names.length = nn) (hl : nn ≤ 1000) (hfit : FitE names)
    (hk : KeX w (Fr w0 Y) Ak keep) (hnk : keep.length = nk) (hkc : nk ≤ ck) (hkl : nk ≤ 1000) :
    Calls Try.prog 15 #[.pointer (some ⟨t, 0, none⟩), .slice A nn cap, .slice Ak nk ck] w fun e w' => e = .returned (.tuple #[]) ∧ WS w0 Y t q made (failT fs names keep) N w' ∧ Touch (Fr w0 Y) w w' := by
  subst hnn hnk
  obtain ⟨mp, hT, hX, hap⟩ := h.ex
  refine (tfail_any hT (h.ok mp) (by omega) h.low hr hl hfit (hk.mono fun b _ hb => ⟨hX b hb, fun hy => hap b hy hb⟩) hkc hkl).mono ?_
  rintro e w' ⟨rfl, ht, hT'⟩
  refine ⟨rfl, h.step hX hap ht hT' (fun x hx => ?_) fun mp => (h.ok mp).fail hfit⟩
  obtain ⟨f, hf, k, rfl, _⟩ := failT_mem hx
  exact ⟨f, hf, rfl⟩
end
end Go.Proofs.Ytlehkgogcbdckaa
