/- A folder in memory: its block, what the directory, the table and the list of files that were taken own; what stays while something is done. Conditions: none. Call by call: the reference's answer is the project's. Conditions: numbers rise; what is used is not above the quota. -/
import Derived.Test.YtbhmnmmockmibaaGreatKpFtF
import Derived.Test.YtbhmnmmockmibaaGreatKpFdA
import Derived.Test.YtbhmnmmockmibaaGreatKpFuV
import Derived.Test.YtbhmnmmockmibaaGreatKpFuA
import Derived.Test.YtbhmnmmockmibaaGreatKpFdJ
import Derived.BigQuiet
namespace Go.Proofs.YtbhmnmmockmibaaGreat
open Go.RowKit Go.Maps
structure Fo where
  d : St
  q : Int
  made : Nat
  fs : List Fi
  most : Int
  many : Int
  tk : List Int
def Fo.zz (s : Fo) (tk : Value) (mp : Option Nat) : Rs := ⟨.int .i64 s.most, .int .i64 s.many, tk, .int .i64 s.q, .int .i64 (s.made : Int), .map mp⟩
def Fo.tb (s : Fo) (nm pd tk : Value) (mp : Option Nat) : Tb := ⟨⟨nm, pd, .int .i64 s.most, .int .i64 s.many, tk⟩, s.q, s.made, mp, s.fs⟩
abbrev ics (l : List Int) : List Value := l.map (Value.int .i64)
def Fr (w0 : World) (Y : Nat → Prop) : Nat → Prop := fun k => w0.heap.size ≤ k ∧ ¬ Y k
structure FS0 (w0 : World) (Y : Nat → Prop) (F : Nat) (s : Fo) (w : World) (c : Nat → Nat) (nm pd tk : Value) (mp : Option Nat) : Prop where
  dir : DirAt w c 1 F (s.zz tk mp) s.d
  tab : TabAt w (fun k => c k ≠ 0) F (s.tb nm pd tk mp)
  row : w.ownsRow 0 3 1 tk s.tk.length (ics s.tk)
  rowc : ∀ r, tk.ownBlock = some r → c r = 4
  col : ∀ k, (s.tb nm pd tk mp).X F k → k = F ∨ c k = 2
  low : ∀ k, c k ≠ 0 → w0.heap.size ≤ k ∧ k < w.heap.size
  y : ∀ k, Y k → c k = 3
  below : Below w0.heap.size w0 w
section
variable {w0 w w' : World} {Y : Nat → Prop} {F : Nat} {s s' : Fo} {c c' : Nat → Nat} {nm pd tk : Value} {mp : Option Nat}
theorem FS0.top (h : FS0 w0 Y F s w c nm pd tk mp) : w.heap[F]? = some (.cells #[nm, pd, .int .i64 s.most, .int .i64 s.many, tk, .int .i64 s.q, .int .i64 (s.made : Int), .map mp] 84 (0, 0)) := h.tab.top
theorem FS0.lt (h : FS0 w0 Y F s w c nm pd tk mp) : F < w.heap.size := h.tab.lt (.inl rfl)
theorem FS0.one (h : FS0 w0 Y F s w c nm pd tk mp) : c F = 1 := h.dir.col
theorem recol (n : Nat) (c : Nat → Nat) (X : Nat → Prop) (i : Nat) : ∃ c' : Nat → Nat, ∀ b, (b < n → c' b = c b) ∧ (¬ b < n → (X b → c' b = i) ∧ (¬ X b → c' b = 0)) := by
  refine ⟨fun b => if b < n then c b else @ite _ (X b) (Classical.propDecidable _) i 0, fun b => ⟨fun h => if_pos h, fun h => ⟨fun hx => ?_, fun hx => ?_⟩⟩⟩
  · show (if b < n then c b else _) = i
    rw [if_neg h]
    exact if_pos hx
  · show (if b < n then c b else _) = 0
    rw [if_neg h]
    exact if_neg hx
theorem norm_same (c : Nat → Nat) (w : World) : Same w c (fun b => if b < w.heap.size then c b else 0) := fun _ hb => if_pos hb
theorem TabAt.retop {Z Z' X : Nat → Prop} {t : Nat} {T T' : Tb} (h : TabAt w Z t T) (hmp : T'.mp = T.mp) (hfs : T'.fs = T.fs) (ht : Touch X w w') (hx : ∀ b, b < w.heap.size → X b → b = t ∨ (Z b ∧ ¬ T.X t b))
    (hz : ∀ b, b < w.heap.size → Z' b → Z b ∨ T.X t b) (htop : w'.heap[t]? = some (.cells #[T'.pp.nm, T'.pp.pd, T'.pp.m, T'.pp.n, T'.pp.tk, .int .i64 T'.q, .int .i64 (T'.made : Int), .map T'.mp] 84 (0, 0))) : TabAt w' Z' t T' := by
  have hX : ∀ b, T'.X t b ↔ T.X t b := fun b => by unfold Tb.X; rw [hmp, hfs]
  have hne : ∀ b, b < w.heap.size → T.X t b → b ≠ t → ¬ X b := fun b hb hbx hbt e => by
    rcases hx b hb e with h1 | h1
    · exact hbt h1
    · exact h1.2 hbx
  have htop0 := h.top
  refine ⟨htop, fun b hb => ?_, fun hn => ?_, fun f hf => ?_, ?_⟩
  · rw [hfs]
    rw [hmp] at hb
    have ho := h.map b hb
    refine owns_touch ho ht (hne b ho.lt (.inr (.inl hb)) fun e => ?_)
    obtain ⟨es, clock, hh, _⟩ := ho
    rw [e, htop0] at hh
    cases hh
  · rw [hfs]; rw [hmp] at hn; exact h.non hn
  · rw [hfs] at hf
    obtain ⟨v, hv, hF⟩ := h.file f hf
    have hlt := (Array.getElem?_eq_some_iff.1 hv).1
    refine ⟨v, ht.heap (hne f.g hlt (.inr (.inr ⟨f, hf, rfl⟩)) fun e => ?_) hv, ?_⟩
    · rw [e, htop0] at hv
      injection hv with hv
      injection hv with hv _ _
      simp at hv
    · have hF1 : FileV w (fun k => T'.X t k ∨ Z' k ∨ X k) v f.m := hF.mono fun b hb hk => by
        rcases hk with hk | hk | hk
        · exact .inl ((hX b).1 hk)
        · exact (hz b hb hk).elim .inr .inl
        · rcases hx b hb hk with h1 | h1
          · exact .inl (.inl h1)
          · exact .inr h1.1
      exact (hF1.keep (ht.mono fun b _ e => .inr (.inr e))).mono fun b _ hk => hk.elim .inl fun hk => .inr (.inl hk)
  · rw [hfs]; exact h.dist
theorem DirAt.retop {X : Nat → Prop} {i g : Nat} {zz zz' : Rs} {d : St} (h : DirAt w c i g zz d) (ht : Touch X w w') (hx : ∀ b, b < w.heap.size → X b → b = g ∨ (c b ≠ i ∧ c b ≠ 0)) (hs : Same w c c') (hi : i ≠ 0)
    (htop : ∀ mv pv, w.heap[g]? = some (.cells #[mv, pv, zz.m, zz.n, zz.tk, zz.q, zz.k, zz.mp] 84 (0, 0)) → w'.heap[g]? = some (.cells #[mv, pv, zz'.m, zz'.n, zz'.tk, zz'.q, zz'.k, zz'.mp] 84 (0, 0))) : DirAt w' c' i g zz' d := by
  obtain ⟨mv, pv, hg, hm, hp⟩ := h.v
  have hg' := htop mv pv hg
  have ht' : Touch (fun b => X b ∧ b < w.heap.size) w w' := ⟨ht.os, ht.tape, ht.output, ht.size, fun k hk hn => ht.block k hk fun e => hn ⟨e, hk⟩⟩
  refine ⟨(hs g h.lt).trans h.col, fun pv' h' => h.ne pv' ?_, mv, pv, hg', ?_, ?_⟩
  · rw [hg'] at h'
    rw [hg]
    injection h' with h'
    injection h' with h' _ _
    simp at h'
    simp [h']
  · rcases hm with h1 | ⟨b, hv, hb, ho⟩
    · exact .inl h1
    · refine .inr ⟨b, hv, (hs b ho.lt).trans hb, owns_touchD ho ht' fun e => ?_⟩
      rcases hx b e.2 e.1 with h1 | h1
      · obtain ⟨es, clock, hh, _⟩ := ho
        rw [h1, hg] at hh
        cases hh
      · exact h1.1 hb
  · refine hp.keep ht' (fun r cs t fr hh hc hne e => ?_) (fun b e => ?_) hs
    · rcases hx r e.2 e.1 with h1 | h1
      · exact hne h1
      · exact h1.1 hc
    · rcases hx b e.2 e.1 with h1 | h1
      · rw [h1, h.col]; exact hi
      · exact h1.2
theorem FS0.dirS (h : FS0 w0 Y F s w c nm pd tk mp) {d : St} (hd : ∃ c', Same w c c' ∧ Touch (Ow c 1) w w' ∧ DirAt w' c' 1 F (s.zz tk mp) d) : ∃ c' nm' pd', FS0 w0 Y F { s with d := d } w' c' nm' pd' tk mp ∧ Touch (Fr w0 Y) w w' ∧ Same w c c' := by
  obtain ⟨c1, hs1, ht, hD⟩ := hd
  obtain ⟨mv, pv, hg, _, _⟩ := hD.v
  have hs2 := norm_same c1 w'
  have hs : Same w c (fun b => if b < w'.heap.size then c1 b else 0) := hs1.trans hs2 ht.size
  have hF := h.one
  have hlow : ∀ k, (if k < w'.heap.size then c1 k else 0) ≠ 0 → w0.heap.size ≤ k ∧ k < w'.heap.size := fun k hk => by
    by_cases hk' : k < w'.heap.size
    · by_cases hk2 : k < w.heap.size
      · have e : (if k < w'.heap.size then c1 k else 0) = c k := hs k hk2
        rw [e] at hk
        exact ⟨(h.low k hk).1, hk'⟩
      · exact ⟨by have := h.below.size; omega, hk'⟩
    · rw [if_neg hk'] at hk; exact absurd rfl hk
  have ht' : Touch (Fr w0 Y) w w' := ht.mono fun b _ e => ⟨(h.low b (by have e' : c b = 1 := e; rw [e']; decide)).1, fun hy => by have e' : c b = 1 := e; rw [h.y b hy] at e'; cases e'⟩
  refine ⟨_, mv, pv, ⟨hD.keep (Touch.refl (fun _ => False) _) (fun _ e => e.elim) hs2, ?_, ?_, fun r hr => ?_, fun k hk => ?_, hlow, fun k hk => ?_, ?_⟩, ht', hs⟩
  · refine h.tab.retop (T' := Fo.tb { s with d := d } mv pv tk mp) rfl rfl ht (fun b hb e => ?_) (fun b hb e => .inl ?_) hg
    · have e' : c b = 1 := e
      by_cases hbF : b = F
      · exact .inl hbF
      · refine .inr ⟨by show c b ≠ 0; rw [e']; decide, fun hx => ?_⟩
        rcases h.col b hx with h1 | h1
        · exact hbF h1
        · rw [h1] at e'; cases e'
    · have e2 : c b ≠ 0 := by rw [← hs b hb]; exact e
      exact e2
  · refine own_touch h.row ht fun b hb e => ?_
    have e' : c b = 1 := e
    rw [h.rowc b hb] at e'
    cases e'
  · exact (hs r (h.row.lt r hr).2).trans (h.rowc r hr)
  · rcases h.col k hk with h1 | h1
    · exact .inl h1
    · exact .inr ((hs k (h.tab.lt hk)).trans h1)
  · have h1 := h.y k hk
    exact (hs k (h.low k (by rw [h1]; decide)).2).trans h1
  · exact h.below.trans (ht'.below h.below.size fun b hb => hb.1)
theorem FS0.tabS (h : FS0 w0 Y F s w c nm pd tk mp) {q : Int} {made : Nat} {mp' : Option Nat} {fs : List Fi} (ht : Touch ((s.tb nm pd tk mp).X F) w w') (hT : TabAt w' (fun k => c k ≠ 0) F (Fo.tb { s with q := q, made := made, fs := fs } nm pd tk mp'))
    (hX : ∀ k, (Fo.tb { s with q := q, made := made, fs := fs } nm pd tk mp').X F k → (s.tb nm pd tk mp).X F k ∨ w.heap.size ≤ k) : ∃ c', FS0 w0 Y F { s with q := q, made := made, fs := fs } w' c' nm pd tk mp' ∧ Touch (Fr w0 Y) w w' ∧ Same w c c' := by
  obtain ⟨c', hc'⟩ : ∃ c' : Nat → Nat, ∀ b, (b < w.heap.size → c' b = c b) ∧ (¬ b < w.heap.size → ((Fo.tb { s with q := q, made := made, fs := fs } nm pd tk mp').X F b → c' b = 2) ∧ (¬ (Fo.tb { s with q := q, made := made, fs := fs } nm pd tk mp').X F b → c' b = 0)) :=
    recol _ _ _ _
  have hs : Same w c c' := fun b hb => (hc' b).1 hb
  have htf : Touch (Fr w0 Y) w w' := ht.mono fun b hb e => by
    rcases h.col b e with h1 | h1
    · subst h1; exact ⟨(h.low b (by rw [h.one]; decide)).1, fun hy => by have := h.y b hy; rw [h.one] at this; cases this⟩
    · exact ⟨(h.low b (by rw [h1]; decide)).1, fun hy => by have := h.y b hy; rw [h1] at this; cases this⟩
  refine ⟨c', ⟨h.dir.retop ht (fun b hb e => ?_) hs (by decide) (fun mv pv hg => ?_), ?_, ?_, fun r hr => ?_, fun k hk => ?_, fun k hk => ?_, fun k hk => ?_, ?_⟩, htf, hs⟩
  · rcases h.col b e with h1 | h1
    · exact .inl h1
    · exact .inr ⟨by rw [h1]; decide, by rw [h1]; decide⟩
  · have h1 := h.top
    rw [hg] at h1
    injection h1 with h1
    injection h1 with h1 _ _
    simp at h1
    have h2 := hT.top
    rw [h1.1, h1.2.1]
    exact h2
  · refine hT.retop (T' := Fo.tb { s with q := q, made := made, fs := fs } nm pd tk mp') rfl rfl (Touch.refl (fun _ => False) _) (fun _ _ e => e.elim) (fun b hb e => ?_) hT.top
    by_cases hb' : b < w.heap.size
    · rw [(hc' b).1 hb'] at e; exact .inl e
    · by_cases hx : (Fo.tb { s with q := q, made := made, fs := fs } nm pd tk mp').X F b
      · exact .inr hx
      · exact absurd (((hc' b).2 hb').2 hx) e
  · refine own_touch h.row ht fun b hb e => ?_
    have h4 := h.rowc b hb
    rcases h.col b e with h1 | h1
    · rw [h1, h.one] at h4; cases h4
    · rw [h1] at h4; cases h4
  · exact (hs r (h.row.lt r hr).2).trans (h.rowc r hr)
  · by_cases hb' : k < w.heap.size
    · rcases hX k hk with h1 | h1
      · rcases h.col k h1 with h2 | h2
        · exact .inl h2
        · exact .inr ((hs k hb').trans h2)
      · omega
    · exact .inr (((hc' k).2 hb').1 hk)
  · by_cases hb' : k < w.heap.size
    · rw [(hc' k).1 hb'] at hk
      exact ⟨(h.low k hk).1, Nat.lt_of_lt_of_le hb' ht.size⟩
    · by_cases hx : (Fo.tb { s with q := q, made := made, fs := fs } nm pd tk mp').X F k
      · exact ⟨by have := h.below.size; omega, hT.lt hx⟩
      · exact absurd (((hc' k).2 hb').2 hx) hk
  · have h1 := h.y k hk
    exact (hs k (h.low k (by rw [h1]; decide)).2).trans h1
  · exact h.below.trans (htf.below h.below.size fun b hb => hb.1)
theorem FS0.ownS (h : FS0 w0 Y F s w c nm pd tk mp) {many : Int} {l : List Int} {tk' : Value} (ht : Touch (fun b => b = F ∨ tk.ownBlock = some b) w w')
    (htop : w'.heap[F]? = some (.cells #[nm, pd, .int .i64 s.most, .int .i64 many, tk', .int .i64 s.q, .int .i64 (s.made : Int), .map mp] 84 (0, 0)))
    (hrow : w'.ownsRow 0 3 1 tk' l.length (ics l)) (hblk : tk'.ownBlock = none ∨ tk'.ownBlock = tk.ownBlock ∨ ∃ r, tk'.ownBlock = some r ∧ w.heap.size ≤ r) :
    ∃ c', FS0 w0 Y F { s with many := many, tk := l } w' c' nm pd tk' mp ∧ Touch (Fr w0 Y) w w' ∧ Same w c c' := by
  obtain ⟨c', hc'⟩ : ∃ c' : Nat → Nat, ∀ b, (b < w.heap.size → c' b = c b) ∧ (¬ b < w.heap.size → (tk'.ownBlock = some b → c' b = 4) ∧ (¬ tk'.ownBlock = some b → c' b = 0)) :=
    recol _ _ _ _
  have hs : Same w c c' := fun b hb => (hc' b).1 hb
  have hcol : ∀ b, (b = F ∨ tk.ownBlock = some b) → b = F ∨ c b = 4 := fun b e => e.elim .inl fun e => .inr (h.rowc b e)
  have htf : Touch (Fr w0 Y) w w' := ht.mono fun b hb e => by
    rcases hcol b e with h1 | h1
    · subst h1; exact ⟨(h.low b (by rw [h.one]; decide)).1, fun hy => by have := h.y b hy; rw [h.one] at this; cases this⟩
    · exact ⟨(h.low b (by rw [h1]; decide)).1, fun hy => by have := h.y b hy; rw [h1] at this; cases this⟩
  have hxx : ∀ k, (Fo.tb { s with many := many, tk := l } nm pd tk' mp).X F k ↔ (s.tb nm pd tk mp).X F k := fun k => Iff.rfl
  have hrc : ∀ r, tk'.ownBlock = some r → c' r = 4 := fun r hr => by
    by_cases hb : r < w.heap.size
    · rw [hs r hb]
      rcases hblk with e | e | ⟨r', e, hle⟩
      · rw [e] at hr; cases hr
      · exact h.rowc r (e ▸ hr)
      · rw [e] at hr; injection hr with hr; omega
    · exact ((hc' r).2 hb).1 hr
  refine ⟨c', ⟨h.dir.retop ht (fun b hb e => ?_) hs (by decide) (fun mv pv hg => ?_), ?_, hrow, hrc, fun k hk => ?_, fun k hk => ?_, fun k hk => ?_, ?_⟩, htf, hs⟩
  · rcases hcol b e with h1 | h1
    · exact .inl h1
    · exact .inr ⟨by rw [h1]; decide, by rw [h1]; decide⟩
  · have h1 := h.top
    rw [hg] at h1
    injection h1 with h1
    injection h1 with h1 _ _
    simp at h1
    rw [h1.1, h1.2.1]
    exact htop
  · refine h.tab.retop (T' := Fo.tb { s with many := many, tk := l } nm pd tk' mp) rfl rfl ht (fun b hb e => ?_) (fun b hb e => ?_) htop
    · rcases hcol b e with h1 | h1
      · exact .inl h1
      · by_cases hbF : b = F
        · exact .inl hbF
        · refine .inr ⟨by show c b ≠ 0; rw [h1]; decide, fun hx => ?_⟩
          rcases h.col b hx with h2 | h2
          · exact hbF h2
          · rw [h1] at h2; cases h2
    · rw [hs b hb] at e; exact .inl e
  · rcases h.col k ((hxx k).1 hk) with h1 | h1
    · exact .inl h1
    · exact .inr ((hs k (h.tab.lt ((hxx k).1 hk))).trans h1)
  · by_cases hb' : k < w.heap.size
    · rw [(hc' k).1 hb'] at hk
      exact ⟨(h.low k hk).1, Nat.lt_of_lt_of_le hb' ht.size⟩
    · by_cases hx : tk'.ownBlock = some k
      · exact ⟨by have := h.below.size; omega, (hrow.lt k hx).2⟩
      · exact absurd (((hc' k).2 hb').2 hx) hk
  · have h1 := h.y k hk
    exact (hs k (h.low k (by rw [h1]; decide)).2).trans h1
  · exact h.below.trans (htf.below h.below.size fun b hb => hb.1)
theorem FS0.quiet (h : FS0 w0 Y F s w c nm pd tk mp) (hb : Below w.heap.size w w') : FS0 w0 Y F s w' c nm pd tk mp :=
  ⟨h.dir.below hb, h.tab.below hb, own_touch h.row (Touch.of (X := fun _ => False) hb) fun _ _ e => e, h.rowc, h.col, fun k hk => ⟨(h.low k hk).1, Nat.lt_of_lt_of_le (h.low k hk).2 hb.size⟩, h.y, h.below.trans (hb.mono h.below.size)⟩
end
structure Fo.Ok (s : Fo) (N : Nat) : Prop where
  d : Good s.d N
  t : ∀ pp mp, (⟨pp, s.q, s.made, mp, s.fs⟩ : Tb).Ok N
  most : 0 ≤ s.most ∧ s.most ≤ 9223372036854775807
  many : s.many = (s.d.now.length : Int)
  tk : s.tk.length ≤ N
  num : ∀ z ∈ s.tk, -9223372036854775808 ≤ z ∧ z ≤ 9223372036854775807
structure FS (w0 : World) (Y : Nat → Prop) (F : Nat) (s : Fo) (N : Nat) (w : World) : Prop where
  ex : ∃ c nm pd tk mp, FS0 w0 Y F s w c nm pd tk mp
  ok : s.Ok N
section
variable {w0 w w' : World} {Y Y' : Nat → Prop} {F N M : Nat} {s s' : Fo}
theorem Fo.Ok.mono (h : s.Ok N) (hN : N ≤ M) : s.Ok M := ⟨h.d.more hN, fun pp mp => (h.t pp mp).mono hN, h.most, h.many, Nat.le_trans h.tk hN, h.num⟩
theorem FS.mono (h : FS w0 Y F s N w) (hN : N ≤ M) : FS w0 Y F s M w := ⟨h.ex, h.ok.mono hN⟩
theorem FS.below (h : FS w0 Y F s N w) : Below w0.heap.size w0 w := by obtain ⟨c, nm, pd, tk, mp, h0⟩ := h.ex; exact h0.below
theorem FS.ylow (h : FS w0 Y F s N w) {k : Nat} (hk : Y k) : k < w.heap.size ∧ w0.heap.size ≤ k := by
  obtain ⟨c, nm, pd, tk, mp, h0⟩ := h.ex
  have := h0.low k (by rw [h0.y k hk]; decide)
  exact ⟨this.2, this.1⟩
theorem FS.quiet (h : FS w0 Y F s N w) (hb : Below w.heap.size w w') : FS w0 Y F s N w' ∧ Touch (Fr w0 Y) w w' := by
  obtain ⟨c, nm, pd, tk, mp, h0⟩ := h.ex
  exact ⟨⟨⟨c, nm, pd, tk, mp, h0.quiet hb⟩, h.ok⟩, .of hb⟩
theorem FS.more (h : FS w0 Y F s N w) (hb : Below w.heap.size w w') (hy : ∀ k, Y' k → Y k ∨ (w.heap.size ≤ k ∧ k < w'.heap.size)) : FS w0 Y' F s N w' := by
  obtain ⟨c, nm, pd, tk, mp, h0⟩ := h.ex
  have h1 := h0.quiet hb
  obtain ⟨c', hc'⟩ : ∃ c' : Nat → Nat, ∀ b, (b < w.heap.size → c' b = c b) ∧ (¬ b < w.heap.size → (Y' b → c' b = 3) ∧ (¬ Y' b → c' b = 0)) :=
    recol _ _ _ _
  have hs : Same w c c' := fun b hb => (hc' b).1 hb
  refine ⟨⟨c', nm, pd, tk, mp, h0.dir.belowS hb hs, ?_, h1.row, fun r hr => (hs r (h0.row.lt r hr).2).trans (h0.rowc r hr), fun k hk => ?_, fun k hk => ?_, fun k hk => ?_, h1.below⟩, h.ok⟩
  · refine h0.tab.retop (T' := s.tb nm pd tk mp) rfl rfl (Touch.of (X := fun _ => False) hb) (fun _ _ e => e.elim) (fun b hb' e => ?_) h1.tab.top
    rw [hs b hb'] at e; exact .inl e
  · rcases h0.col k hk with h2 | h2
    · exact .inl h2
    · exact .inr ((hs k (h0.tab.lt hk)).trans h2)
  · by_cases hb' : k < w.heap.size
    · rw [(hc' k).1 hb'] at hk
      exact ⟨(h0.low k hk).1, Nat.lt_of_lt_of_le hb' hb.size⟩
    · by_cases hx : Y' k
      · rcases hy k hx with h2 | h2
        · have := (h0.low k (by rw [h0.y k h2]; decide)).2; omega
        · exact ⟨by have := h0.below.size; omega, h2.2⟩
      · exact absurd (((hc' k).2 hb').2 hx) hk
  · by_cases hb' : k < w.heap.size
    · rw [(hc' k).1 hb']
      rcases hy k hk with h2 | h2
      · exact h0.y k h2
      · omega
    · exact ((hc' k).2 hb').1 hk
theorem FS.write (h : FS w0 Y F s N w) (ht : Touch Y w w') : FS w0 Y F s N w' := by
  obtain ⟨c, nm, pd, tk, mp, h0⟩ := h.ex
  have hc : ∀ b, Y b → c b = 3 := h0.y
  have hF : ¬ Y F := fun e => by have := hc F e; rw [h0.one] at this; cases this
  refine ⟨⟨c, nm, pd, tk, mp, h0.dir.keep ht (fun b e => by rw [hc b e]; decide) (Same.refl _ _), ?_, own_touch h0.row ht fun b hb e => ?_, h0.rowc, h0.col, fun k hk => ⟨(h0.low k hk).1, Nat.lt_of_lt_of_le (h0.low k hk).2 ht.size⟩, h0.y, h0.below.trans (ht.below h0.below.size fun b hb => (h0.low b (by rw [hc b hb]; decide)).1)⟩, h.ok⟩
  · refine h0.tab.keep ht fun b _ e => ⟨by show c b ≠ 0; rw [hc b e]; decide, fun hx => ?_⟩
    rcases h0.col b hx with h1 | h1
    · exact hF (h1 ▸ e)
    · rw [hc b e] at h1; cases h1
  · have := h0.rowc b hb
    rw [hc b e] at this
    cases this
end
end Go.Proofs.YtbhmnmmockmibaaGreat

namespace Go.Proofs.YtbhmnmmockmibaaGreat
open Go.RowKit
theorem RefT.wide {w0 w w' : World} {Y : Nat → Prop} {v : Value} {M : List Rm} {q l : Int} (h : RefT w' (AX w (Fr w0 Y)) v M q l) : RefT w' (Fr w0 fun k => Y k ∨ (w.heap.size ≤ k ∧ k < w'.heap.size)) v M q l :=
  h.mono fun b hb (e : Fr w0 _ b) => ⟨Nat.lt_of_not_le fun hle => e.2 (.inr ⟨hle, hb⟩), e.1, fun hy => e.2 (.inl hy)⟩
section
variable {fs : List Fi} {z er : Int} {P : List Rm → Prop}
theorem tie_sync (hs : fs.Pairwise fun a b => a.i < b.i) (h : (er = 80 ∧ (∀ x ∈ rmT fs, x.i ≠ z) ∧ P (rmT fs)) ∨ (er = 0 ∧ ∃ (k : Nat) (x : Rm), (rmT fs)[k]? = some x ∧ x.i = z ∧ P ((rmT fs).set k ⟨x.i, x.n, syncM x.m⟩))) :
    er = (doSync fs z).2 ∧ P (rmT (doSync fs z).1) := by
  unfold doSync
  rcases h with ⟨rfl, hn, hP⟩ | ⟨rfl, k, x, hx, hz, hP⟩
  · rw [rmT_none hn]; exact ⟨rfl, hP⟩
  · obtain ⟨f, hf, hff, rfl⟩ := rmT_some hs hx hz
    rw [hff]
    refine ⟨rfl, ?_⟩
    have hfi : f.i = z := hz
    show P (rmT (updF fs z f.n (syncM f.m)))
    rw [← hfi, ← rmT_upd hs hf]
    exact hP
theorem tie_link (hs : fs.Pairwise fun a b => a.i < b.i) (h : (er = 80 ∧ (∀ x ∈ rmT fs, x.i ≠ z) ∧ P (rmT fs)) ∨ (er = 0 ∧ ∃ (k : Nat) (x : Rm), (rmT fs)[k]? = some x ∧ x.i = z ∧ P ((rmT fs).set k ⟨x.i, wrap64 (x.n + 1), x.m⟩))) :
    er = (doLink fs z).2 ∧ P (rmT (doLink fs z).1) := by
  unfold doLink
  rcases h with ⟨rfl, hn, hP⟩ | ⟨rfl, k, x, hx, hz, hP⟩
  · rw [rmT_none hn]; exact ⟨rfl, hP⟩
  · obtain ⟨f, hf, hff, rfl⟩ := rmT_some hs hx hz
    rw [hff]
    refine ⟨rfl, ?_⟩
    have hfi : f.i = z := hz
    show P (rmT (updF fs z (wrap64 (f.n + 1)) f.m))
    rw [← hfi, ← rmT_upd hs hf]
    exact hP
theorem tie_drop (hs : fs.Pairwise fun a b => a.i < b.i) (h : (er = 80 ∧ (∀ x ∈ rmT fs, x.i ≠ z) ∧ P (rmT fs)) ∨ (er = 0 ∧ ∃ (k : Nat) (x : Rm), (rmT fs)[k]? = some x ∧ x.i = z ∧ P (outR (rmT fs) k (rmT fs).length))) :
    er = (doDrop fs z).2 ∧ P (rmT (doDrop fs z).1) := by
  unfold doDrop
  rcases h with ⟨rfl, hn, hP⟩ | ⟨rfl, k, x, hx, hz, hP⟩
  · rw [rmT_none hn]; exact ⟨rfl, hP⟩
  · obtain ⟨f, hf, hff, rfl⟩ := rmT_some hs hx hz
    rw [hff]
    refine ⟨rfl, ?_⟩
    have hfi : f.i = z := hz
    show P (rmT (leaveF (updF fs z (wrap64 (f.n - 1)) f.m) z (wrap64 (f.n - 1))))
    rw [← hfi, ← rmT_drop hs hf]
    exact hP
theorem tie_app {q : Int} {m : Nat} {bl : List UInt8} (hs : fs.Pairwise fun a b => a.i < b.i) (hu : (usedF fs : Int) ≤ q) (hm : bl.length = m) (h : (er = 80 ∧ (∀ x ∈ rmT fs, x.i ≠ z) ∧ P (rmT fs)) ∨ (er = 90 ∧ (∃ x ∈ rmT fs, x.i = z) ∧ 0 < m ∧ q < (usedR (rmT fs) : Int) + m ∧ P (rmT fs)) ∨ (er = 0 ∧ (m = 0 ∨ (usedR (rmT fs) : Int) + m ≤ q) ∧ ∃ (k : Nat) (x : Rm), (rmT fs)[k]? = some x ∧ x.i = z ∧ P ((rmT fs).set k ⟨x.i, x.n, appM x.m bl⟩))) :
    er = (doApp q fs z bl).2 ∧ P (rmT (doApp q fs z bl).1) := by
  unfold doApp
  rw [rmT_used] at h
  rcases h with ⟨rfl, hn, hP⟩ | ⟨rfl, ⟨x, hx, hz⟩, h0, hq, hP⟩ | ⟨rfl, hq, k, x, hx, hz, hP⟩
  · rw [rmT_none hn]; exact ⟨rfl, hP⟩
  · obtain ⟨k, hk⟩ := List.getElem?_of_mem hx
    obtain ⟨f, hf, hff, rfl⟩ := rmT_some hs hk hz
    rw [hff]
    show 90 = (if q < (bl.length : Int) + usedF fs then (fs, (90 : Int)) else _).2 ∧ P (rmT (if q < (bl.length : Int) + usedF fs then (fs, (90 : Int)) else _).1)
    rw [if_pos (by omega)]
    exact ⟨rfl, hP⟩
  · obtain ⟨f, hf, hff, rfl⟩ := rmT_some hs hx hz
    rw [hff]
    have hfi : f.i = z := hz
    show 0 = (if q < (bl.length : Int) + usedF fs then (fs, (90 : Int)) else (updF fs z f.n (appM f.m bl), 0)).2 ∧ P (rmT (if q < (bl.length : Int) + usedF fs then (fs, (90 : Int)) else (updF fs z f.n (appM f.m bl), 0)).1)
    rw [if_neg (by omega)]
    refine ⟨rfl, ?_⟩
    show P (rmT (updF fs z f.n (appM f.m bl)))
    rw [← hfi, ← rmT_upd hs hf]
    exact hP
end
end Go.Proofs.YtbhmnmmockmibaaGreat

namespace Go.Proofs.YtbhmnmmockmibaaGreat
open Go.RowKit Go.Maps
def Fo.find (s : Fo) (k : List UInt8) : Int × Int := match getE s.d.now k with
  | none => (0, 80)
  | some v => (v, 0)
def Fo.may (s : Fo) (k : List UInt8) : Int := if k = [] then 2 else if hasE s.d.now k = true then 81 else if s.most ≤ s.many then 90 else 0
section
variable {w0 w w' : World} {Y : Nat → Prop} {F N : Nat} {s : Fo} {c : Nat → Nat} {nm pd tk : Value} {mp : Option Nat}
theorem Fo.find_has (s : Fo) (k : List UInt8) : (hasE s.d.now k = true → ∃ v, getE s.d.now k = some v ∧ s.find k = (v, 0)) ∧ (hasE s.d.now k = false → getE s.d.now k = none ∧ s.find k = (0, 80)) := by
  unfold Fo.find
  rw [← getE_has]
  cases getE s.d.now k with
  | none => exact ⟨fun h => (by cases h), fun _ => ⟨rfl, rfl⟩⟩
  | some v => exact ⟨fun _ => ⟨v, rfl, rfl⟩, fun h => (by cases h)⟩
set_option maxHeartbeats 1000000 in
theorem ffind_any (h : FS0 w0 Y F s w c nm pd tk mp) (k : List UInt8) (hk : k.length ≤ 1000) :
    Calls Tryz.prog 72 #[.pointer (some ⟨F, 0, none⟩), .string (txt k)] w fun e w' => e = .returned (.tuple #[.int .i64 (s.find k).1, .int .i64 (s.find k).2]) ∧ w' = w := by
  have hget := Lib.hid (get_anyD h.dir k hk)
  obtain ⟨h1, h2⟩ := s.find_has k
  clear h hk
  by_cases hh : hasE s.d.now k = true
  · obtain ⟨v, e1, e2⟩ := h1 hh
    rw [e1, hh] at hget
    rw [e2]
    simp only [Option.getD_some] at hget
    clear h1 h2 hh e1 e2
    go_enter Tryz.func72, Tryz.ntmps72
    go_wp2_with (go_at_call 106; refine hget.out.mono ?_; rintro e w1 ⟨rfl, rfl⟩)
    go_ret2
    exact ⟨rfl, rfl⟩
  · have hh' : hasE s.d.now k = false := by simpa using hh
    obtain ⟨e1, e2⟩ := h2 hh'
    rw [e1, hh'] at hget
    rw [e2]
    simp only [Option.getD_none] at hget
    clear h1 h2 hh hh' e1 e2
    go_enter Tryz.func72, Tryz.ntmps72
    go_wp2_with (go_at_call 106; refine hget.out.mono ?_; rintro e w1 ⟨rfl, rfl⟩)
    go_ret2
    exact ⟨rfl, rfl⟩
set_option maxHeartbeats 1000000 in
theorem fmay_any (h : FS0 w0 Y F s w c nm pd tk mp) (k : List UInt8) (hk : k.length ≤ 1000) :
    Calls Tryz.prog 69 #[.pointer (some ⟨F, 0, none⟩), .string (txt k)] w fun e w' => e = .returned (.int .i64 (s.may k)) ∧ ∃ n, w' = w.drewN n := by
  have hf := Lib.hid (ffind_any h k hk)
  obtain ⟨h1, h2⟩ := s.find_has k
  obtain ⟨c2, c3, c4⟩ := f_cells h.top
  clear h hk
  unfold Fo.may
  by_cases hkk : k = []
  · rw [if_pos hkk]
    have he1 : (txt k).toList.isEmpty = true := by rw [txt_isEmpty, hkk]; rfl
    have he2 : (txt k).toList = [] := List.isEmpty_iff.1 he1
    clear hf h1 h2 hkk
    go_enter Tryz.func69, Tryz.ntmps69
    go_wp2
    go_ret
    exact ⟨rfl, 0, rfl⟩
  · rw [if_neg hkk]
    have he1 : (txt k).toList.isEmpty = false := by
      rw [txt_isEmpty]
      cases k with
      | nil => exact absurd rfl hkk
      | cons _ _ => rfl
    have he2 : ¬ (txt k).toList = [] := fun e => by rw [e] at he1; cases he1
    clear hkk
    by_cases hh : hasE s.d.now k = true
    · obtain ⟨v, e1, e2⟩ := h1 hh
      rw [e2] at hf
      rw [if_pos hh]
      clear h1 h2 hh e1 e2
      go_enter Tryz.func69, Tryz.ntmps69
      go_wp2_with (go_at_call 72; refine hf.out.mono ?_; rintro e w1 ⟨rfl, rfl⟩)
      go_ret
      exact ⟨rfl, 0, rfl⟩
    · have hh' : hasE s.d.now k = false := by simpa using hh
      obtain ⟨e1, e2⟩ := h2 hh'
      rw [e2] at hf
      rw [if_neg hh]
      obtain ⟨most, hm⟩ : ∃ m, Hid (s.most = m) := ⟨_, rfl⟩
      obtain ⟨many, hn⟩ : ∃ m, Hid (s.many = m) := ⟨_, rfl⟩
      rw [hm.out] at c2 ⊢
      rw [hn.out] at c3 ⊢
      clear h1 h2 hh hh' e1 e2
      by_cases hge : most ≤ many
      · have hd : decide (most ≤ many) = true := decide_eq_true hge
        rw [if_pos hge]
        go_enter Tryz.func69, Tryz.ntmps69
        go_wp2_with (go_at_call 72; refine hf.out.mono ?_; rintro e w1 ⟨rfl, rfl⟩)
        go_quiet (fail)
        go_wp2
        go_ret
        exact ⟨rfl, _, rfl⟩
      · have hd : decide (most ≤ many) = false := decide_eq_false hge
        rw [if_neg hge]
        go_enter Tryz.func69, Tryz.ntmps69
        go_wp2_with (go_at_call 72; refine hf.out.mono ?_; rintro e w1 ⟨rfl, rfl⟩)
        go_quiet (fail)
        go_wp2
        go_ret
        exact ⟨rfl, _, rfl⟩
end
end Go.Proofs.YtbhmnmmockmibaaGreat
