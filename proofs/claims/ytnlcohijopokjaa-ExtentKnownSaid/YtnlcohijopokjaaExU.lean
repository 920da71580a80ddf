/- What ExtentPlays needs: own rows that may be spoilt; two files in their blocks; what is done to both. Conditions: none. -/
import Derived.Test.YtnlcohijopokjaaLawEK
namespace Go.Proofs.Ytnlcohijopokjaa
open Go.RowKit

/-! ### sizes -/
/-- A file of at most N parts of 30 bytes. -/
structure Sz (m : List Pt) (N : Nat) : Prop where
  n : m.length ≤ N
  l : ∀ p ∈ m, p.1.length ≤ 30
section
variable {m : List Pt} {N : Nat} {l : List UInt8}
theorem Sz.sm (h : Sz m N) (hN : N ≤ 1000) : SmM m := ⟨Nat.le_trans h.n hN, fun p hp => by have := h.l p hp; omega⟩
theorem Sz.more (h : Sz m N) (l : List UInt8) (hl : l.length ≤ 30) : Sz (m ++ [(l, false)]) (N + 1) := by
  refine ⟨by rw [List.length_append]; have := h.n; simp; omega, fun p hp => ?_⟩
  rw [List.mem_append, List.mem_singleton] at hp
  rcases hp with hp | rfl
  · exact h.l p hp
  · exact hl
theorem Sz.full (h : Sz m N) : Sz (fullM m) N := ⟨Nat.le_trans (List.length_filter_le _ _) h.n, fun p hp => h.l p (List.mem_filter.1 hp).1⟩
theorem Sz.app (h : Sz m N) (hl : l.length ≤ 30) : Sz (appM m l) (N + 1) := (h.more l hl).full
theorem Sz.sync (h : Sz m N) : Sz (syncM m) (N + 1) := by
  refine ⟨by unfold syncM; rw [List.length_map]; have := h.full.n; omega, fun p hp => ?_⟩
  unfold syncM at hp
  rw [List.mem_map] at hp
  obtain ⟨q, hq, rfl⟩ := hp
  exact h.full.l q hq
theorem Sz.fail (h : Sz m N) (q : List Bool) : Sz (failM m q) (N + 1) := ⟨by have := failM_len m q; have := h.n; omega, fun p hp => failM_short h.l hp⟩
theorem Sz.of {l : List (List UInt8)} (hn : l.length ≤ N) (hl : ∀ b ∈ l, b.length ≤ 30) : Sz (ofM l) N := by
  refine Sz.full ⟨by simpa using hn, fun p hp => ?_⟩
  rw [List.mem_map] at hp
  obtain ⟨b, hb, rfl⟩ := hp
  exact hl b hb
end

/-! ### files that avoid more -/
section
variable {w w' w0 : World} {X Y : Nat → Prop} {v : Value} {m mF mR m' : List Pt} {F R g : Nat}
theorem RdX.both {size n : Nat} {A : Option Addr} {xs : List Value} (h : RdX w X size A n xs) : RdX w (fun b => X b ∨ w.heap.size ≤ b) size A n xs := by
  refine ⟨h.1, fun hn => ?_⟩
  obtain ⟨ad, e, hb, hx, hc⟩ := h.2 hn
  exact ⟨ad, e, hb, fun h => by rcases h with h | h; exact hx h; omega, hc⟩
theorem FileV.both (h : FileV w X v m) : FileV w (fun b => X b ∨ w.heap.size ≤ b) v m := by
  obtain ⟨A, c, ps, e, hc, hp, hs⟩ := h
  exact ⟨A, c, ps, e, hc, ⟨hp.top.both, fun p hq => (hp.row p hq).both⟩, hs⟩
theorem FileAt.both (h : FileAt w X g m) : FileAt w (fun b => X b ∨ w.heap.size ≤ b) g m := by
  obtain ⟨v, hv, hf⟩ := h.v
  exact ⟨v, hv, hf.both⟩
/-- The reference's file in its block. -/
structure RefAt (w : World) (X : Nat → Prop) (g : Nat) (m : List Pt) : Prop where
  v : ∃ v, w.heap[g]? = some (.cells #[v] 34 (0, 0)) ∧ FileV w X v m
theorem RefAt.other (h : RefAt w X g m) (ht : Touch Y w w') (hne : ¬ Y g) (hX : ∀ b, b < w.heap.size → Y b → X b) : RefAt w' X g m := by
  obtain ⟨v, hv, hf⟩ := h.v
  exact ⟨v, ht.heap hne hv, hf.keep (ht.mono hX)⟩
theorem FileAt.other2 (h : FileAt w X g m) (ht : Touch Y w w') (hne : ¬ Y g) (hX : ∀ b, b < w.heap.size → Y b → X b) : FileAt w' X g m := by
  obtain ⟨v, hv, hf⟩ := h.v
  exact ⟨v, ht.heap hne hv, hf.keep (ht.mono hX)⟩
theorem RefAt.below (h : RefAt w X g m) (hb : Below w.heap.size w w') : RefAt w' X g m := by
  obtain ⟨v, hv, hf⟩ := h.v
  exact ⟨v, (hb.block g (Array.getElem?_eq_some_iff.1 hv).1).trans hv, hf.below hb⟩
theorem RefAt.mono (h : RefAt w X g m) (hx : ∀ b, b < w.heap.size → Y b → X b) : RefAt w Y g m := by
  obtain ⟨v, hv, hf⟩ := h.v
  exact ⟨v, hv, hf.mono hx⟩
theorem RefAt.both (h : RefAt w X g m) : RefAt w (fun b => X b ∨ w.heap.size ≤ b) g m := by
  obtain ⟨v, hv, hf⟩ := h.v
  exact ⟨v, hv, hf.both⟩
theorem RefAt.lt (h : RefAt w X g m) : g < w.heap.size := by
  obtain ⟨v, hv, _⟩ := h.v
  exact (Array.getElem?_eq_some_iff.1 hv).1
theorem RefAt.loadC (h : RefAt w X g m) : ∃ A c n, w.cell? ⟨g, 0, none⟩ = some (.slice A n c) ∧ w.heap[g]? = some (.cells #[.slice A n c] 34 (0, 0)) ∧ FileV w X (.slice A n c) m := by
  obtain ⟨v, hv, hf⟩ := h.v
  obtain ⟨A, c, ps, rfl, h1, h2, h3⟩ := hf
  exact ⟨A, c, ps.length, box_cell hv, hv, A, c, ps, rfl, h1, h2, h3⟩
/-- Two files, of which nothing lies in the other's block, nor in Y. -/
structure PS (w0 : World) (F R : Nat) (Y : Nat → Prop) (mF mR : List Pt) (w : World) : Prop where
  below : Below w0.heap.size w0 w
  lF : w0.heap.size ≤ F
  lR : w0.heap.size ≤ R
  ne : F ≠ R
  hF : ¬ Y F
  hR : ¬ Y R
  f : FileAt w (fun b => b = F ∨ b = R ∨ Y b) F mF
  r : RefAt w (fun b => b = F ∨ b = R ∨ Y b) R mR
theorem PS.then_ (h : PS w0 F R Y mF mR w) (hb : Below w.heap.size w w') : PS w0 F R Y mF mR w' := ⟨h.below.trans (hb.mono h.below.size), h.lF, h.lR, h.ne, h.hF, h.hR, h.f.below hb, h.r.below hb⟩
theorem PS.less (h : PS w0 F R Y mF mR w) : PS w0 F R (fun _ => False) mF mR w :=
  ⟨h.below, h.lF, h.lR, h.ne, fun e => e, fun e => e, h.f.mono fun _ _ e => by rcases e with e | e | e; exact .inl e; exact .inr (.inl e); exact e.elim, h.r.mono fun _ _ e => by rcases e with e | e | e; exact .inl e; exact .inr (.inl e); exact e.elim⟩
/-- What is made from now on is none of theirs. -/
theorem PS.fresh (h : PS w0 F R (fun _ => False) mF mR w) (hb : Below w.heap.size w w') : PS w0 F R (fun b => w.heap.size ≤ b ∧ b < w'.heap.size) mF mR w' := by
  have lf := h.f.lt
  have lr := h.r.lt
  have hx : ∀ b, b < w.heap.size → (b = F ∨ b = R ∨ (w.heap.size ≤ b ∧ b < w'.heap.size)) → ((b = F ∨ b = R ∨ False) ∨ w.heap.size ≤ b) := by
    rintro b hb2 (e | e | e)
    · exact .inl (.inl e)
    · exact .inl (.inr (.inl e))
    · exact .inr e.1
  exact ⟨h.below.trans (hb.mono h.below.size), h.lF, h.lR, h.ne, fun e => by omega, fun e => by omega, (h.f.both.mono hx).below hb, (h.r.both.mono hx).below hb⟩
/-- Memory of Y is written over. -/
theorem PS.over (h : PS w0 F R Y mF mR w) (ht : Touch Y w w') (hl : ∀ b, Y b → w0.heap.size ≤ b) : PS w0 F R Y mF mR w' :=
  ⟨h.below.trans (ht.below h.below.size hl), h.lF, h.lR, h.ne, h.hF, h.hR, h.f.other2 ht h.hF fun _ _ e => .inr (.inr e), h.r.other ht h.hR fun _ _ e => .inr (.inr e)⟩
theorem PS.hX (h : PS w0 F R Y mF mR w) (hY : ∀ b, Y b → b < w.heap.size) (b : Nat) (hb : b = F ∨ b = R ∨ Y b) : b < w.heap.size := by
  rcases hb with e | e | e
  · rw [e]; exact h.f.lt
  · rw [e]; exact h.r.lt
  · exact hY b e
theorem PS.first (h : PS w0 F R Y mF mR w) (ht : Touch (fun k => k = F) w w') (hf : FileAt w' (fun b => b = F ∨ b = R ∨ Y b) F m') : PS w0 F R Y m' mR w' :=
  ⟨h.below.trans (ht.below h.below.size fun b e => by rw [e]; exact h.lF), h.lF, h.lR, h.ne, h.hF, h.hR, hf, h.r.other ht (fun e => h.ne e.symm) fun b _ e => .inl e⟩
/-- The reference's file is stored anew. -/
theorem PS.store (h : PS w0 F R Y mF mR w) (hY : ∀ b, Y b → b < w.heap.size) (hb : Below w.heap.size w w') {v' : Value} (hf : FileV w' (XW w) v' m') : PS w0 F R Y mF m' (w'.setCell ⟨R, 0, none⟩ v') := by
  have h2 := h.then_ hb
  have ht := Touch.cell1 w' R 0 v'
  obtain ⟨v, hv, _⟩ := h2.r.v
  refine ⟨h2.below.trans (ht.below h2.below.size fun b e => by rw [e]; exact h.lR), h.lF, h.lR, h.ne, h.hF, h.hR, h2.f.other2 ht h.ne fun b _ e => .inr (.inl e), _, box_set _ hv, ?_⟩
  refine (hf.mono fun b _ e => ?_).keep (ht.mono fun b _ e => .inr (.inl e))
  exact h.hX hY b e
theorem PS.app {Ab : Option Addr} {cb B nl : Nat} {l : List UInt8} (h : PS w0 F R Y mF mR w) (hY : ∀ b, Y b → b < w.heap.size) (hs : SmM (mF ++ [(l, false)])) (hn : l.length = nl) (hB : B ≤ w.heap.size) (hb : RdB w B Ab l) :
    Calls Try.prog 17 #[.pointer (some ⟨F, 0, none⟩), .slice Ab nl cb] w fun e w' => e = .returned (.tuple #[]) ∧ Touch (fun k => k = F) w w' ∧ PS w0 F R Y (appM mF l) mR w' := by
  refine (appAt h.f (h.hX hY) hs hn hB hb).mono ?_
  rintro e w' ⟨e1, ht, hf⟩
  exact ⟨e1, ht, h.first ht hf⟩
theorem PS.sync (h : PS w0 F R Y mF mR w) (hY : ∀ b, Y b → b < w.heap.size) (hs : SmM mF) :
    Calls Try.prog 13 #[.pointer (some ⟨F, 0, none⟩)] w fun e w' => e = .returned (.tuple #[]) ∧ PS w0 F R Y (syncM mF) mR w' := by
  refine (syncAt h.f (h.hX hY) hs).mono ?_
  rintro e w' ⟨e1, ht, hf⟩
  exact ⟨e1, h.first ht hf⟩
theorem PS.fail {Ak : Option Addr} {ck B nk : Nat} {keep : List Bool} (h : PS w0 F R Y mF mR w) (hY : ∀ b, Y b → b < w.heap.size) (hs : SmM mF) (hn : keep.length = nk) (hB : B ≤ w.heap.size) (hkr : RdK w B Ak keep) (hkc : nk ≤ ck) (hkl : nk ≤ 1000) :
    Calls Try.prog 15 #[.pointer (some ⟨F, 0, none⟩), .slice Ak nk ck] w fun e w' => e = .returned (.tuple #[]) ∧ PS w0 F R Y (failM mF keep) mR w' := by
  refine (failAt h.f (h.hX hY) hs hn hB hkr hkc hkl).mono ?_
  rintro e w' ⟨e1, ht, hf⟩
  exact ⟨e1, h.first ht hf⟩
theorem PS.start {w1 w2 wa wb : World} {A A' : Option Addr} {c n c' n' : Nat} {Z : Nat → Prop} {w : World} (hb0 : Below w0.heap.size w0 w) (hb1 : Below w.heap.size w w1) (hf : FileV w1 (XW w) (.slice A n c) m) (ea : w1.alloc (.cells #[.slice A n c] 30) = wa)
    (hb2 : Below wa.heap.size wa w2) (hr : FileV w2 (XW wa) (.slice A' n' c') m) (eb : w2.alloc (.cells #[.slice A' n' c'] 34) = wb) (hZ : ∀ b, Z b → b < w.heap.size) :
    PS w0 w1.heap.size w2.heap.size Z m m wb := by
  subst ea eb
  have hsa : (w1.alloc (.cells #[.slice A n c] 30)).heap.size = w1.heap.size + 1 := by simp
  have hs2 := hb2.size
  have hs1 := hb1.size
  have fa : FileAt (w1.alloc (.cells #[.slice A n c] 30)) (fun b => XW w b ∨ w1.heap.size ≤ b) w1.heap.size m := ⟨_, heap_alloc_new _ _, FileV.below hf.both (below_new _ _)⟩
  have fb : RefAt (w2.alloc (.cells #[.slice A' n' c'] 34)) (fun b => XW (w1.alloc (.cells #[.slice A n c] 30)) b ∨ w2.heap.size ≤ b) w2.heap.size m := ⟨_, heap_alloc_new _ _, FileV.below hr.both (below_new _ _)⟩
  have hbz := hb0.size
  refine ⟨?_, by omega, by omega, by omega, fun e => by have := hZ _ e; omega, fun e => by have := hZ _ e; omega, ?_, ?_⟩
  · refine ((((hb0.trans (hb1.mono hbz)).alloc (by omega) _).trans (hb2.mono (by omega))).alloc (by omega) _)
  · refine ((fa.mono ?_).below hb2).below (below_new _ _)
    rintro b _ (e | e | e)
    · exact .inr (by omega)
    · exact .inr (by omega)
    · exact .inl (hZ b e)
  · refine fb.mono ?_
    rintro b _ (e | e | e)
    · exact .inl (by show _ < _; omega)
    · exact .inr (by omega)
    · exact .inl (by show _ < _; have := hZ b e; omega)
end

/-! ### own rows -/
theorem own_base {base base' size n : Nat} {w : World} {e : TypeId} {v : Value} {xs : List Value} (h : w.ownsRow base' e size v n xs) (hb : base ≤ base') : w.ownsRow base e size v n xs := by
  refine ⟨h.1, ?_⟩
  rcases h.2 with hn | ⟨g, cap, cur, rfl, hg, rest⟩
  · exact .inl hn
  · exact .inr ⟨g, cap, cur, rfl, Nat.le_trans hb hg, rest⟩
structure OX (base : Nat) (w : World) (v : Value) (own : List Row) : Prop where
  o : Owns base w v own
  r : ∀ r ∈ own, w.ownsRow base 5 1 r.v r.l.length (bs r.l)
  p : own.Pairwise fun r q => ∀ a b : Addr, r.A = some a → q.A = some b → a.block ≠ b.block
theorem OX.nil (base : Nat) (w : World) : OX base w (.slice none 0 0) [] := ⟨Owns.nil _ _, by simp, List.Pairwise.nil⟩
theorem OX.below {base : Nat} {w w' : World} {v : Value} {own : List Row} (h : OX base w v own) (hb : Below w.heap.size w w') : OX base w' v own := ⟨h.o.below hb, fun r hr => own_below (h.r r hr) hb (Nat.le_refl _), h.p⟩
section
variable {ops : Array Oper} {rest : List Oper} {o : Oper} {a : Act} {Q : Exit → Act → World → Prop} {w : World} {base : Nat} {v : Value}
/-- A row behind a list of the call's own. -/
theorem push_slice7 (s x : Operand) {own : List Row} {A : Option Addr} {n c : Nat} (r : Row) (hr : Value.slice A n c = r.v) (hownX : OX base w v own) (hbase : base ≤ w.heap.size) (hl : own.length ≤ 1099511627776)
    (hrowX : w.ownsRow base 5 1 r.v r.l.length (bs r.l)) (hap : ∀ ad, r.A = some ad → ad.block < w.heap.size ∧ v.ownBlock ≠ some ad.block) (hdis : ∀ q ∈ own, ∀ a b : Addr, q.A = some a → r.A = some b → a.block ≠ b.block)
    (hgd : o.guard = none) (ho : o.op = .call { callee := .builtin .append, args := #[s, x], argTypes := #[22, 22] })
    (hs : a.eval s = v) (hx : a.eval x = .slice (some ⟨w.heap.size, 0, none⟩) 1 1)
    (h : ∀ v' w', OX base w' v' (own ++ [r]) → Below base w w' → base ≤ w'.heap.size → wpList Try.prog ops Q rest (a.put o.dst v') w') :
    wpList Try.prog ops Q (o :: rest) a (w.alloc (.cells #[.slice A n c] 26)) := by
  have hown := hownX.o
  have hrow : RdB w w.heap.size r.A r.l := by
    obtain ⟨A', c', e', _, _, h'⟩ := own_form hrowX
    injection e' with e1 _ _
    rw [e1]
    exact h'
  rw [hr]
  obtain ⟨i0, hi0, hz0, hz1, hz2⟩ := info_parts info_row
  have hnew := reads_new w 26 [r.v]
  refine wpList_append_any _ hgd s x _ ho base 26 i0 _ 1 24 Try.underlying22 hi0 hz0 hz1 hz2 rfl (by omega) v _ _ hs (hown.head.alloc _) (w.heap.size + 1) _ 1 1 [r.v] hx hnew (by intro u hu; simp only [List.mem_singleton] at hu; subst hu; rfl) (by simp only [maxLen]; omega) (by omega) (by simp; omega) ?_
  intro v1 w1 h1 h2 h3
  have hb := ((Below.refl base w).alloc hbase _).trans (grown_below (hown.head.alloc (.cells #[r.v] 26)) h2 (by simp; omega))
  have hsz : w.heap.size + 1 ≤ w1.heap.size := by have := h2.size; simpa using this
  have hall : ∀ q ∈ own ++ [r], RdB w w.heap.size q.A q.l ∧ ∀ ad, q.A = some ad → ad.block < w.heap.size ∧ v.ownBlock ≠ some ad.block := by
    intro q hq
    rw [List.mem_append, List.mem_singleton] at hq
    rcases hq with hq | rfl
    · exact ⟨hown.row q hq, hown.apart q hq⟩
    · exact ⟨hrow, hap⟩
  have hO : Owns base w1 v1 (own ++ [r]) := by
    refine ⟨?_, fun q hq => ?_, fun q hq ad e => ?_⟩
    · rw [List.map_append, List.length_append]
      exact h1
    · have := (Reads.alloc (hall q hq).1 (Nat.le_refl _) (.cells #[r.v] 26)).grown_apart h2 (by simp) (fun ad e => ((hall q hq).2 ad e).2)
      exact this.more (by omega)
    · obtain ⟨hlt, hne⟩ := (hall q hq).2 ad e
      refine ⟨by omega, ?_⟩
      rcases h3 with h3 | h3
      · rw [h3]; exact hne
      · rw [h3]
        intro e'
        injection e' with e'
        simp at e'
        omega
  refine h v1 w1 ⟨hO, fun q hq => ?_, ?_⟩ hb (Nat.le_trans hbase hb.size)
  · have hq2 : w.ownsRow base 5 1 q.v q.l.length (bs q.l) := by
      rw [List.mem_append, List.mem_singleton] at hq
      rcases hq with hq | rfl
      · exact hownX.r q hq
      · exact hrowX
    have hq3 := (hall q hq).2
    refine own_touch (own_below hq2 (below_new w (.cells #[r.v] 26)) (Nat.le_refl _)) (Touch.grown (X := fun k => v.ownBlock = some k) h2 fun k e => e) fun b hb e => ?_
    cases hA : q.A with
    | none => unfold Row.v at hb; rw [hA] at hb; cases hb
    | some ad =>
      unfold Row.v at hb
      rw [hA] at hb
      injection hb with hb
      exact (hq3 ad hA).2 (by rw [hb]; exact e)
  · rw [List.pairwise_append]
    refine ⟨hownX.p, List.pairwise_singleton _ _, fun q hq x hx => ?_⟩
    rw [List.mem_singleton] at hx
    subst hx
    exact hdis q hq
end
/-- The rows' blocks. -/
def Zf (own : List Row) : Nat → Prop := fun b => ∃ r ∈ own, ∃ ad : Addr, r.A = some ad ∧ b = ad.block
/-- From row k on they may still be written over. -/
structure SpI (base : Nat) (W : World) (own : List Row) (k : Nat) (w : World) : Prop where
  t : Touch (Zf own) W w
  r : ∀ (j : Nat) (r : Row), k ≤ j → own[j]? = some r → ∃ ys, w.ownsRow base 5 1 r.v r.l.length ys
theorem SpI.step {base k : Nat} {W w w' : World} {own : List Row} {r : Row} {ys : List Value} (h : SpI base W own k w) (hp : own.Pairwise fun r q => ∀ a b : Addr, r.A = some a → q.A = some b → a.block ≠ b.block) (hr : own[k]? = some r) (_hy : w'.ownsRow base 5 1 r.v r.l.length ys)
    (hg : w.grownBy w' r.v.ownBlock) : SpI base W own (k + 1) w' := by
  have hob : ∀ b, r.v.ownBlock = some b → ∃ ad, r.A = some ad ∧ b = ad.block := by
    intro b hb
    cases hA : r.A with
    | none => unfold Row.v at hb; rw [hA] at hb; cases hb
    | some ad =>
      unfold Row.v at hb
      rw [hA] at hb
      injection hb with hb
      exact ⟨ad, rfl, hb.symm⟩
  have ht : Touch (fun b => r.v.ownBlock = some b) w w' := Touch.grown hg fun k e => e
  refine ⟨h.t.trans (ht.mono fun b _ e => ?_), fun j q hj hq => ?_⟩
  · obtain ⟨ad, h1, h2⟩ := hob b e
    exact ⟨r, List.mem_of_getElem? hr, ad, h1, h2⟩
  · obtain ⟨zs, hz⟩ := h.r j q (by omega) hq
    refine ⟨zs, own_touch hz ht fun b hb e => ?_⟩
    obtain ⟨ad, h1, h2⟩ := hob b e
    cases hA : q.A with
    | none => unfold Row.v at hb; rw [hA] at hb; cases hb
    | some ad2 =>
      unfold Row.v at hb
      rw [hA] at hb
      injection hb with hb
      have hk1 := (List.getElem?_eq_some_iff.1 hr)
      have hj1 := (List.getElem?_eq_some_iff.1 hq)
      obtain ⟨hk2, ek⟩ := hk1
      obtain ⟨hj2, ej⟩ := hj1
      have := List.pairwise_iff_getElem.1 hp k j hk2 hj2 (by omega)
      rw [ek, ej] at this
      exact this ad ad2 h1 hA (by omega)
end Go.Proofs.Ytnlcohijopokjaa
