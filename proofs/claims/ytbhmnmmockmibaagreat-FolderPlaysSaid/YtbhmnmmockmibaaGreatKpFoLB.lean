/- A call that fails changes nothing; quotas stay; how many names there may be. Conditions: none. What was fsynced, and whose name was there, stays, whatever is called, but for an Unlink of it, and behind a power failure. Conditions: none. Calls and failures as values and cells. Conditions: none. -/
import Derived.Test.YtbhmnmmockmibaaGreatKpFqS
import Derived.Test.YtbhmnmmockmibaaGreatKpFoAl
import Derived.Test.YtbhmnmmockmibaaGreatKpFqX
namespace Go.Proofs.YtbhmnmmockmibaaGreat
open Go.RowKit Go.Maps
section
variable {s : Fo} {N : Nat} {n t l : List UInt8} {g k : Nat}
theorem Fo.Inv.names (h : s.Inv) : (s.files.length : Int) ≤ s.most := by
  have := h.bound s.d.ops.length
  rw [List.take_length] at this
  unfold Fo.files
  rw [List.length_map]
  exact this
theorem files_short {s : Fo} {N : Nat} (hok : s.Ok N) : s.files.length ≤ N := by
  unfold Fo.files
  rw [List.length_map]
  exact hok.d.now.1
end
end Go.Proofs.YtbhmnmmockmibaaGreat

namespace Go.Proofs.YtbhmnmmockmibaaGreat
open Go.RowKit Go.Maps
def PreM (b : List UInt8) (m : List Pt) : Prop := ∃ m1 m2, m = m1 ++ m2 ∧ b <+: contM m1 ∧ ∀ p ∈ m1, p.2 = true
section
variable {b : List UInt8} {m : List Pt}
theorem PreM.cont (h : PreM b m) : b <+: contM m := by
  obtain ⟨m1, m2, rfl, h1, _⟩ := h
  rw [contM_append]
  exact h1.trans (List.prefix_append _ _)
theorem fullM_sub {p : Pt} (h : p ∈ fullM m) : p ∈ m := (List.mem_filter.1 h).1
theorem PreM.app (h : PreM b m) (l : List UInt8) : PreM b (appM m l) := by
  obtain ⟨m1, m2, rfl, h1, h2⟩ := h
  refine ⟨fullM m1, fullM (m2 ++ [(l, false)]), ?_, by rw [contM_full]; exact h1, fun p hp => h2 p (fullM_sub hp)⟩
  unfold appM
  rw [List.append_assoc, fullM_append]
theorem sync_durable {p : Pt} (h : p ∈ syncM m) : p.2 = true := by
  unfold syncM at h
  obtain ⟨q, _, rfl⟩ := List.mem_map.1 h
  rfl
theorem PreM.all (hc : b <+: contM m) (hd : ∀ p ∈ m, p.2 = true) : PreM b m := ⟨m, [], by simp, hc, hd⟩
theorem PreM.sync (h : PreM b m) : PreM b (syncM m) := .all (by rw [contM_sync]; exact h.cont) fun _ hp => sync_durable hp
theorem PreM.fail (h : PreM b m) (k : List Bool) : PreM b (failM m k) := by
  refine .all ?_ fun _ hp => failM_durable hp
  obtain ⟨m1, m2, rfl, h1, h2⟩ := h
  have e : failM (m1 ++ m2) k = failM (fullM (m1 ++ m2)) k := by unfold failM; rw [fullM_idem]
  rw [e, fullM_append]
  have hx : (fullM m1 ++ fullM m2).take (fullM m1).length = fullM m1 := by simp
  have := failM_keeps (m := fullM m1 ++ fullM m2) (k := k) (j := (fullM m1).length) (fun p hp => by
    rcases List.mem_append.1 hp with hp | hp <;> exact fullM_mem hp) (fun p hp => by rw [hx] at hp; exact h2 p (fullM_sub hp))
  rw [hx, contM_full] at this
  exact h1.trans this
end
def Fo.Holds (s : Fo) (k : List UInt8) (b : List UInt8) : Prop := ∃ v, (∀ j, (k, v) ∈ runs s.d.dur (s.d.ops.take j)) ∧ ∃ f ∈ s.fs, f.i = v ∧ PreM b f.m
section
variable {s : Fo} {N : Nat} {n t l k b : List UInt8} {g kk : Nat}
theorem Fo.Holds.now (h : s.Holds k b) : ∃ v, (k, v) ∈ s.d.now ∧ ∃ f ∈ s.fs, f.i = v ∧ PreM b f.m := by
  obtain ⟨v, h1, h2⟩ := h
  have := h1 s.d.ops.length
  rw [List.take_length] at this
  exact ⟨v, this, h2⟩
def GoOn (fs fs' : List Fi) : Prop := ∀ x ∈ fs', ∀ f ∈ fs, x.i = f.i → ∀ b, PreM b f.m → PreM b x.m
theorem GoOn.refl (hs : s.Ok N) : GoOn s.fs s.fs := by
  intro x hx f hf e b hb
  have h1 := findF_of_mem hs.srt hx
  have h2 := findF_of_mem hs.srt hf
  rw [e, h2] at h1
  injection h1 with h1
  rw [← h1]; exact hb
theorem GoOn.upd (hs : s.Ok N) {z : Int} {f0 : Fi} (hf0 : findF s.fs z = some f0) {m : List Pt} {c : Int} (hm : ∀ b, PreM b f0.m → PreM b m) : GoOn s.fs (updF s.fs z c m) := by
  intro x hx f hf e b hb
  obtain ⟨f1, hf1, e1, _, h⟩ := updF_mem hx
  have h1 := findF_of_mem hs.srt hf1
  have h2 := findF_of_mem hs.srt hf
  rw [← e1, e, h2] at h1
  injection h1 with h1
  subst h1
  rcases h with ⟨h3, _, h4⟩ | ⟨_, h4⟩
  · rw [h3, hf0] at h2
    injection h2 with h2
    subst h2
    rw [h4]; exact hm b hb
  · rw [h4]; exact hb
theorem leave_mem {fs : List Fi} {z n : Int} {x : Fi} (h : x ∈ leaveF fs z n) : x ∈ fs := by
  unfold leaveF at h
  split at h
  · exact (List.mem_filter.1 h).1
  · exact h
theorem GoOn.drop (hs : s.Ok N) (z : Int) : GoOn s.fs (doDrop s.fs z).1 := by
  unfold doDrop
  cases hf : findF s.fs z with
  | none => exact GoOn.refl hs
  | some f0 =>
    intro x hx
    exact GoOn.upd hs hf (fun b hb => hb) x (leave_mem hx)
theorem drops_sub : ∀ (l : List Int) (fs : List Fi) (x : Fi), x ∈ dropsF fs l → ∃ f ∈ fs, x.i = f.i ∧ x.m = f.m
  | [], _, x, h => ⟨x, h, rfl, rfl⟩
  | z :: l, fs, x, h => by
    obtain ⟨f1, hf1, e1, e2⟩ := drops_sub l (doDrop fs z).1 x h
    unfold doDrop at hf1
    cases hf : findF fs z with
    | none => rw [hf] at hf1; exact ⟨f1, hf1, e1, e2⟩
    | some f0 =>
      rw [hf] at hf1
      obtain ⟨f, hff, e3, _, h⟩ := updF_mem (leave_mem hf1)
      rcases h with ⟨h3, _, h4⟩ | ⟨_, h4⟩
      · obtain ⟨h5, h6⟩ := findF_mem hf
        exact ⟨f0, h5, by rw [e1, e3, h3, h6], by rw [e2, h4]⟩
      · exact ⟨f, hff, by rw [e1, e3], by rw [e2, h4]⟩
theorem GoOn.drops (hs : s.Ok N) (l : List Int) : GoOn s.fs (dropsF s.fs l) := by
  intro x hx f hf e b hb
  obtain ⟨f1, hf1, e1, e2⟩ := drops_sub l s.fs x hx
  rw [e2]
  exact GoOn.refl hs f1 hf1 f hf (by rw [← e1, e]) b hb
theorem GoOn.fail (hs : s.Ok N) (names : List En) (keep : List Bool) : GoOn s.fs (failT s.fs names keep) := by
  intro x hx f hf e b hb
  obtain ⟨f1, hf1, k, rfl, _⟩ := failT_mem hx
  have h1 : PreM b f1.m := GoOn.refl hs f1 hf1 f hf e b hb
  exact h1.fail _
theorem Fo.Holds.go {s' : Fo} (h : s.Holds k b) (hi' : s'.Inv) (hok' : s'.Ok N) (hd : ∀ v, (∀ j, (k, v) ∈ runs s.d.dur (s.d.ops.take j)) → ∀ j, (k, v) ∈ runs s'.d.dur (s'.d.ops.take j)) (hg : GoOn s.fs s'.fs) : s'.Holds k b := by
  obtain ⟨v, h1, f, hf, e, hp⟩ := h
  have h2 := hd v h1
  refine ⟨v, h2, ?_⟩
  have h3 := h2 s'.d.ops.length
  rw [List.take_length] at h3
  obtain ⟨x, hx⟩ := (hi'.well hok').file _ h3
  obtain ⟨hx1, hx2⟩ := findF_mem hx
  have hx2 : x.i = v := hx2
  exact ⟨x, hx1, hx2, hg x hx1 f hf (by rw [hx2, e]) b hp⟩
theorem runs_more {d : St} {o : Pr} {v : Int} (h : ∀ j, (k, v) ∈ runs d.dur (d.ops.take j)) (ho : (k, v) ∈ o.does d.now) : ∀ j, (k, v) ∈ runs d.dur ((d.ops ++ [o]).take j) := by
  intro j
  rcases take_end d.ops o j with e | e
  · rw [e]; exact h j
  · rw [e, runs_snoc]; exact ho
theorem now_of {d : St} {v : Int} (h : ∀ j, (k, v) ∈ runs d.dur (d.ops.take j)) : (k, v) ∈ d.now := by
  have := h d.ops.length
  rwa [List.take_length] at this
theorem runs_add {d : St} {v v' : Int} (hn : hasE d.now n = false) (h : ∀ j, (k, v) ∈ runs d.dur (d.ops.take j)) : ∀ j, (k, v) ∈ runs (d.addE n v').dur ((d.addE n v').ops.take j) := by
  refine runs_more h ?_
  show (k, v) ∈ putE d.now (n, v')
  rw [put_new hn]
  exact mem_ins.2 (.inr (now_of h))
theorem runs_rem {d : St} {v v' : Int} (hn : k ≠ n) (h : ∀ j, (k, v) ∈ runs d.dur (d.ops.take j)) : ∀ j, (k, v) ∈ runs (d.rem n v').dur ((d.rem n v').ops.take j) := by
  refine runs_more h ?_
  show (k, v) ∈ delE d.now n
  exact mem_del.2 ⟨now_of h, hn⟩
theorem Fo.Holds.doC (h : s.Holds k b) (hok : s.Ok N) (hi' : (s.doC g kk n t l).1.Inv) (hok' : (s.doC g kk n t l).1.Ok (N + 2)) (hk : kk = 6 → k ≠ n) : (s.doC g kk n t l).1.Holds k b := by
  have hid : ∀ v, (∀ j, (k, v) ∈ runs s.d.dur (s.d.ops.take j)) → ∀ j, (k, v) ∈ runs s.d.dur (s.d.ops.take j) := fun _ h => h
  revert hi' hok'
  unfold Fo.doC
  split
  · unfold Fo.doCreate
    split
    · rename_i hm
      intro hi' hok'
      have hz : ∀ f ∈ s.fs, f.i ≠ (s.made : Int) + 1 := by
        intro f hf e
        have e2 : f.i ≤ (s.made : Int) := ((tabOk hok).num f hf).2
        omega
      refine h.go hi' hok' (fun v hv => runs_add (may_nil0 hm).2.1 hv) ?_
      intro x hx f hf e b hb
      have hx' : x ∈ (Proofs.YtbhmnmmockmibaaGreat.doLink (s.fs ++ [⟨(s.made : Int) + 1, g, 0, []⟩]) ((s.made : Int) + 1)).1 := hx
      rw [made_eq hz] at hx'
      rcases List.mem_append.1 hx' with hx' | hx'
      · exact GoOn.refl hok x hx' f hf e b hb
      · rw [List.mem_singleton] at hx'
        subst hx'
        exact absurd e.symm (hz f hf)
    · intro _ _; exact h
  · unfold Fo.doWrite
    split
    · intro _ _; exact h
    · rename_i v hv
      intro hi' hok'
      refine h.go hi' hok' hid ?_
      show GoOn s.fs (doApp s.q s.fs v l).1
      unfold doApp
      cases hf : findF s.fs v with
      | none => exact GoOn.refl hok
      | some f0 =>
        simp only
        split
        · exact GoOn.refl hok
        · exact GoOn.upd hok hf fun b hb => hb.app l
  · unfold Fo.doFsync
    split
    · intro _ _; exact h
    · rename_i v hv
      intro hi' hok'
      refine h.go hi' hok' hid ?_
      show GoOn s.fs (doSync s.fs v).1
      unfold doSync
      cases hf : findF s.fs v with
      | none => exact GoOn.refl hok
      | some f0 => exact GoOn.upd hok hf fun b hb => hb.sync
  · intro hi' hok'
    refine h.go hi' hok' (fun v hv j => ?_) (GoOn.drops hok _)
    show (k, v) ∈ runs s.d.now ([].take j)
    rw [List.take_nil]
    exact now_of hv
  · unfold Fo.doLink
    split
    · intro _ _; exact h
    · rename_i v hv
      split
      · rename_i hm
        intro hi' hok'
        refine h.go hi' hok' (fun v hv => runs_add (may_nil0 hm).2.1 hv) ?_
        show GoOn s.fs (Proofs.YtbhmnmmockmibaaGreat.doLink s.fs v).1
        unfold Proofs.YtbhmnmmockmibaaGreat.doLink
        cases hf : findF s.fs v with
        | none => exact GoOn.refl hok
        | some f0 => exact GoOn.upd hok hf fun b hb => hb
      · intro _ _; exact h
  · unfold Fo.doTake
    split
    · intro _ _; exact h
    · intro hi' hok'
      exact h.go hi' hok' (fun v hv => runs_rem (hk rfl) hv) (GoOn.refl hok)
  · intro _ _; exact h
  · unfold Fo.doRead
    split <;> (intro _ _; exact h)
  · intro _ _; exact h
theorem Fo.Holds.power (h : s.Holds k b) (hi : s.Inv) (hok : s.Ok N) (ops : Int) (keep : List Bool) (hok' : (s.power ops keep).Ok N) : (s.power ops keep).Holds k b := by
  refine h.go (hi.power hok ops keep) hok' (fun v hv j => ?_) (GoOn.fail hok _ _)
  show (k, v) ∈ runs (runs s.d.dur (s.d.ops.take (stay s.d.ops.length ops))) ([].take j)
  rw [List.take_nil]
  exact hv _
end
end Go.Proofs.YtbhmnmmockmibaaGreat

namespace Go.Proofs.YtbhmnmmockmibaaGreat
open Go.RowKit
structure KRow where
  A : Option Addr
  c : Nat
  l : List Bool
structure Af where
  k : Nat
  n : List UInt8
  t : List UInt8
  r : Row
  o : Int
  q : KRow
def Af.cs (a : Af) : List Value := [.int .u8 (a.k : Int), .string (txt a.n), .string (txt a.t), .slice a.r.A a.r.l.length a.r.c, .int .i64 a.o, .slice a.q.A a.q.l.length a.q.c]
def afcells (l : List Af) : List Value := l.flatMap Af.cs
theorem afcells_len (l : List Af) : (afcells l).length = l.length * 6 := by
  induction l with
  | nil => rfl
  | cons f l ih =>
    unfold afcells at ih ⊢
    rw [List.flatMap_cons, List.length_append, ih, List.length_cons]
    simp [Af.cs]
    omega
theorem afcells_append (a b : List Af) : afcells (a ++ b) = afcells a ++ afcells b := by simp [afcells]
theorem afcells_get {l : List Af} {k : Nat} {a : Af} (h : l[k]? = some a) {j : Nat} (hj : j < 6) : (afcells l)[k * 6 + j]? = a.cs[j]? := by
  obtain ⟨hk, e⟩ := List.getElem?_eq_some_iff.1 h
  have hl : (afcells (l.take k)).length = k * 6 := by rw [afcells_len, List.length_take]; congr 1; omega
  have hs : afcells l = afcells (l.take k) ++ (a.cs ++ afcells (l.drop (k + 1))) := by
    conv => lhs; rw [← List.take_append_drop k l, List.drop_eq_getElem_cons hk, e]
    rw [afcells_append]
    rfl
  rw [hs, List.getElem?_append_right (by omega), hl, show k * 6 + j - k * 6 = j by omega, List.getElem?_append_left (by show j < 6; exact hj)]
structure Af.Ok (a : Af) : Prop where
  k : a.k ≤ 255
  n : a.n.length ≤ 9223372036854775807
  t : a.t.length ≤ 9223372036854775807
  r : a.r.l.length ≤ 9223372036854775807
  q : a.q.l.length ≤ 9223372036854775807
  qc : a.q.l.length ≤ a.q.c
  o : -9223372036854775808 ≤ a.o ∧ a.o ≤ 9223372036854775807
structure AfX (w : World) (X : Nat → Prop) (A : Option Addr) (l : List Af) : Prop where
  top : RdX w X 6 A l.length (afcells l)
  row : ∀ a ∈ l, BsX w X a.r.A a.r.l
  told : ∀ a ∈ l, KeX w X a.q.A a.q.l
  ok : ∀ a ∈ l, a.Ok
theorem gadd_next (a : Addr) (n j : Nat) (hj : 0 < j) : a.add (n + j) = ⟨(a.add n).block, (a.add n).off + j, none⟩ := by
  unfold Addr.add
  by_cases h : n = 0
  · subst h
    rw [if_pos rfl, if_neg (by omega)]
    simp
  · rw [if_neg h, if_neg (by omega)]
    simp [Nat.add_assoc]
structure AfAt (w : World) (p : Addr) (a : Af) : Prop where
  c0 : w.cell? p = some (.int .u8 (a.k : Int))
  c1 : w.cell? ⟨p.block, p.off + 1, none⟩ = some (.string (txt a.n))
  c2 : w.cell? ⟨p.block, p.off + 2, none⟩ = some (.string (txt a.t))
  c3 : w.cell? ⟨p.block, p.off + 3, none⟩ = some (.slice a.r.A a.r.l.length a.r.c)
  c4 : w.cell? ⟨p.block, p.off + 4, none⟩ = some (.int .i64 a.o)
  c5 : w.cell? ⟨p.block, p.off + 5, none⟩ = some (.slice a.q.A a.q.l.length a.q.c)
section
variable {w w' : World} {X Y : Nat → Prop} {A : Option Addr} {l : List Af}
theorem AfX.keep (h : AfX w X A l) (ht : Touch X w w') : AfX w' X A l := ⟨h.top.keep ht, fun a ha => (h.row a ha).keep ht, fun a ha => RdX.keep (h.told a ha) ht, h.ok⟩
theorem AfX.below (h : AfX w X A l) (ht : Below w.heap.size w w') : AfX w' X A l := h.keep (.of ht)
theorem AfX.mono (h : AfX w X A l) (hx : ∀ b, b < w.heap.size → Y b → X b) : AfX w Y A l := ⟨h.top.mono hx, fun a ha => (h.row a ha).mono hx, fun a ha => RdX.mono (h.told a ha) hx, h.ok⟩
theorem AfX.nil : AfX w X A [] := ⟨RdX.none_, by simp, by simp, by simp⟩
theorem AfAt.keep {p : Addr} {a : Af} (h : AfAt w p a) (hp : p.block < w.heap.size) (hx : ¬ X p.block) (ht : Touch X w w') : AfAt w' p a :=
  ⟨(ht.cell (p := p) hp hx).trans h.c0, (ht.cell (p := ⟨p.block, p.off + 1, none⟩) hp hx).trans h.c1, (ht.cell (p := ⟨p.block, p.off + 2, none⟩) hp hx).trans h.c2, (ht.cell (p := ⟨p.block, p.off + 3, none⟩) hp hx).trans h.c3, (ht.cell (p := ⟨p.block, p.off + 4, none⟩) hp hx).trans h.c4, (ht.cell (p := ⟨p.block, p.off + 5, none⟩) hp hx).trans h.c5⟩
theorem AfX.at_ {k : Nat} (h : AfX w X A l) (hk : k < l.length) :
    ∃ (ad : Addr) (a : Af), A = some ad ∧ ad.block < w.heap.size ∧ ¬ X ad.block ∧ AfAt w (ad.add (k * 6)) a ∧ Hid (l[k]? = some a) ∧ BsX w X a.r.A a.r.l ∧ KeX w X a.q.A a.q.l ∧ a.Ok := by
  obtain ⟨ad, e, hb, hx, hc⟩ := h.top.2 (by omega)
  have hr : l[k]? = some l[k] := List.getElem?_eq_getElem hk
  have hm := List.mem_of_getElem? hr
  refine ⟨ad, _, e, hb, hx, ⟨hc _ _ (afcells_get hr (j := 0) (by omega)), ?_, ?_, ?_, ?_, ?_⟩, hr, h.row _ hm, h.told _ hm, h.ok _ hm⟩
  · rw [← gadd_next _ _ 1 (by omega)]; exact hc _ _ (afcells_get hr (j := 1) (by omega))
  · rw [← gadd_next _ _ 2 (by omega)]; exact hc _ _ (afcells_get hr (j := 2) (by omega))
  · rw [← gadd_next _ _ 3 (by omega)]; exact hc _ _ (afcells_get hr (j := 3) (by omega))
  · rw [← gadd_next _ _ 4 (by omega)]; exact hc _ _ (afcells_get hr (j := 4) (by omega))
  · rw [← gadd_next _ _ 5 (by omega)]; exact hc _ _ (afcells_get hr (j := 5) (by omega))
end
def SmF (l : List Af) (n : Nat) : Prop := l.length ≤ n ∧ ∀ a ∈ l, a.n.length ≤ 80 ∧ a.t.length ≤ 80 ∧ a.r.l.length ≤ 60 ∧ a.q.l.length ≤ 60
end Go.Proofs.YtbhmnmmockmibaaGreat

namespace Go.Proofs.YtbhmnmmockmibaaGreat
open Go.RowKit
def FewQ (l : List Af) (t : Nat) (w : World) (e : Ending) (w' : World) : Prop := ∃ b : Bool, e = .returned (.bool b) ∧ (b = true → SmF l t) ∧ w' = w
theorem FewQ.intro {l : List Af} {t : Nat} {w w' : World} {e : Ending} (b : Bool) (h1 : e = .returned (.bool b)) (h2 : b = true → SmF l t) (h3 : w' = w) : FewQ l t w e w' := ⟨b, h1, h2, h3⟩
set_option maxHeartbeats 4000000 in
set_option maxRecDepth 100000 in
theorem few_any {A : Option Addr} {c t n : Nat} {l : List Af} {w : World} {X : Nat → Prop} (hn : l.length = n) (ht : t ≤ 40) (hl : n ≤ 9223372036854775807) (hr : AfX w X A l) :
    Calls Tryz.prog 6 #[.slice A n c, .int .i64 (t : Int)] w fun e w' => FewQ l t w e w' := by
  have hnI : (n : Int) ≤ 9223372036854775807 := by omega
  have htI : (t : Int) ≤ 40 := by omega
  have Hn := Lib.hid hn
  clear hl
  go_enter Tryz.func6, Tryz.ntmps6
  go_wp2
  go_loopw [5] (fun i wr => ∃ k : Nat, k ≤ n ∧ i = .int .i64 (k : Int) ∧ wr = w ∧ Hid (∀ a ∈ l.take k, a.n.length ≤ 80 ∧ a.t.length ≤ 80 ∧ a.r.l.length ≤ 60 ∧ a.q.l.length ≤ 60)) (fun i _ => n - (Go.Lib.intOf i).toNat)
  case atStart => exact ⟨0, by omega, rfl, rfl, by intro a ha; simp at ha⟩
  case round =>
    obtain ⟨k, hk, rfl, rfl, hall⟩ := hrel
    by_cases hltn : k < n
    · obtain ⟨ad, a, rfl, _, _, hcs, hx, _, _, hok⟩ := hr.at_ (k := k) (by rw [Hn.out]; exact hltn)
      obtain ⟨_, hc1, hc2, hc3, _, hc5⟩ := hcs
      have hll3 : (a.r.l.length : Int) ≤ 9223372036854775807 := by have := hok.r; omega
      have hll5 : (a.q.l.length : Int) ≤ 9223372036854775807 := by have := hok.q; omega
      obtain ⟨n1, hn1⟩ : ∃ m, Hid (a.n.length = m) := ⟨_, rfl⟩
      obtain ⟨n2, hn2⟩ : ∃ m, Hid (a.t.length = m) := ⟨_, rfl⟩
      obtain ⟨n3, hn3⟩ : ∃ m, Hid (a.r.l.length = m) := ⟨_, rfl⟩
      obtain ⟨n5, hn5⟩ : ∃ m, Hid (a.q.l.length = m) := ⟨_, rfl⟩
      have hz1 : Hid ((txt a.n).size = n1) := by rw [← hn1.out]; exact txt_size a.n
      have hz2 : Hid ((txt a.t).size = n2) := by rw [← hn2.out]; exact txt_size a.t
      obtain ⟨s1, hs1⟩ : ∃ s, Hid (txt a.n = s) := ⟨_, rfl⟩
      obtain ⟨s2, hs2⟩ : ∃ s, Hid (txt a.t = s) := ⟨_, rfl⟩
      rw [hs1.out] at hc1 hz1
      rw [hs2.out] at hc2 hz2
      rw [hn3.out] at hc3 hll3
      rw [hn5.out] at hc5 hll5
      have hm1 : n1 ≤ 9223372036854775807 := by have := hok.n; have := hn1.out; omega
      have hm2 : n2 ≤ 9223372036854775807 := by have := hok.t; have := hn2.out; omega
      have hz1' : (s1.size : Int) = (n1 : Int) := by rw [hz1.out]
      have hz2' : (s2.size : Int) = (n2 : Int) := by rw [hz2.out]
      have hkn : (k : Int) < (n : Int) := by omega
      clear hok
      have hd1 : decide ((80 : Int) < (n1 : Int)) = decide (80 < n1) := decide_eq_decide.2 (by omega)
      have hd2 : decide ((80 : Int) < (n2 : Int)) = decide (80 < n2) := decide_eq_decide.2 (by omega)
      have hd3 : decide ((60 : Int) < (n3 : Int)) = decide (60 < n3) := decide_eq_decide.2 (by omega)
      have hd5 : decide ((60 : Int) < (n5 : Int)) = decide (60 < n5) := decide_eq_decide.2 (by omega)
      by_cases h1 : 80 < n1
      · rw [decide_eq_true h1] at hd1
        go_wp2
        go_ret
        exact FewQ.intro false rfl (fun h => (by cases h)) rfl
      · rw [decide_eq_false h1] at hd1
        by_cases h2 : 80 < n2
        · rw [decide_eq_true h2] at hd2
          go_wp2
          go_ret
          exact FewQ.intro false rfl (fun h => (by cases h)) rfl
        · rw [decide_eq_false h2] at hd2
          by_cases h3 : 60 < n3
          · rw [decide_eq_true h3] at hd3
            go_wp2
            go_ret
            exact FewQ.intro false rfl (fun h => (by cases h)) rfl
          · rw [decide_eq_false h3] at hd3
            by_cases h5 : 60 < n5
            · rw [decide_eq_true h5] at hd5
              go_wp2
              go_ret
              exact FewQ.intro false rfl (fun h => (by cases h)) rfl
            · rw [decide_eq_false h5] at hd5
              have hall' : Hid (∀ b ∈ l.take (k + 1), b.n.length ≤ 80 ∧ b.t.length ≤ 80 ∧ b.r.l.length ≤ 60 ∧ b.q.l.length ≤ 60) := by
                intro b hb
                rw [take_snoc hx, List.mem_append, List.mem_singleton] at hb
                rcases hb with hb | rfl
                · exact hall.out b hb
                · have := hn1.out
                  have := hn2.out
                  have := hn3.out
                  have := hn5.out
                  exact ⟨by omega, by omega, by omega, by omega⟩
              go_wp2
              go_roundw
              case rel => exact ⟨k + 1, by omega, by go_num, trivial, hall'⟩
              case measure => simp [Go.Lib.intOf]; omega
    · obtain rfl : k = n := by omega
      have hfin : Hid (decide (k ≤ t) = true → SmF l t) := by
        intro h
        have h' := of_decide_eq_true h
        refine ⟨by rw [Hn.out]; omega, fun a ha => hall.out a ?_⟩
        rw [← Hn.out, List.take_length]
        exact ha
      have hd : decide ((k : Int) < (k : Int)) = false := by simp
      go_wp2
      go_ret
      exact FewQ.intro _ rfl hfin.out rfl
end Go.Proofs.YtbhmnmmockmibaaGreat

namespace Go.Proofs.YtbhmnmmockmibaaGreat
open Go.RowKit Go.Maps
section
variable {w wr w' : World} {X Y : Nat → Prop} {A : Option Addr} {l : List Af}
theorem AfX.low (h : AfX w (fun _ => False) A l) : AfX w (fun b => w.heap.size ≤ b) A l := h.mono fun b hb e => by omega
theorem FlO.made {ty : TypeId} {base n c : Nat} {es : List Fv} (h : FlO ty base w (.slice A n c) es) (hX : ∀ b, b < w.heap.size → X b → b < base) : n = es.length ∧ FlX w X A es := by
  obtain ⟨h1, h2⟩ := h.reads (X := fun b => b < base) fun _ e => e
  exact ⟨h1, h2.mono hX⟩
end
theorem files_cont {s : Fo} {N : Nat} (hok : s.Ok N) (hN : N ≤ 900) : ∀ y ∈ s.files, y.2.length ≤ 60000 := by
  intro y hy
  unfold Fo.files at hy
  obtain ⟨e, _, rfl⟩ := List.mem_map.1 hy
  show (bytesF s.fs e.2).1.length ≤ 60000
  unfold bytesF
  split
  · simp
  · rename_i f hf
    have := ((tabOk hok).size f (findF_mem hf).1).cont
    simp only
    omega
end Go.Proofs.YtbhmnmmockmibaaGreat
