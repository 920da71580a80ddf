/- What ExtentKeeps needs: what is kept behind failures; the file in its block; a few operations. Conditions: none. -/
import Derived.Test.YtnlcohijopokjaaExS
import Derived.Test.YtnlcohijopokjaaSkip
namespace Go.Proofs.Ytnlcohijopokjaa
open Go.RowKit

/-! ### what is kept -/
/-- A file behind k calls, of which so many bytes are sure. -/
structure KeI (m : List Pt) (s k : Nat) : Prop where
  n : m.length ≤ k
  l : ∀ p ∈ m, p.1 ≠ [] ∧ p.1.length ≤ 30
  s : ∃ j, j ≤ m.length ∧ s = (contM (m.take j)).length ∧ ∀ p ∈ m.take j, p.2 = true
section
variable {m : List Pt} {s k : Nat} {l : List UInt8}
theorem KeI.start : KeI [] 0 0 := ⟨by simp, by simp, 0, by simp, by simp [contM], by simp⟩
theorem KeI.full (h : KeI m s k) : fullM m = m := fullM_id fun p hp => (h.l p hp).1
theorem appM_of (h : KeI m s k) (l : List UInt8) : appM m l = m ++ fullM [(l, false)] := by
  unfold appM
  rw [fullM_append, h.full]
theorem KeI.app (h : KeI m s k) (hl : l.length ≤ 30) : KeI (appM m l) s (k + 1) := by
  rw [appM_of h]
  obtain ⟨j, hj, hs, hd⟩ := h.s
  have hlen : (fullM [(l, false)]).length ≤ 1 := List.length_filter_le _ _
  refine ⟨by rw [List.length_append]; have := h.n; omega, fun p hp => ?_, j, by rw [List.length_append]; omega, ?_, ?_⟩
  · rw [List.mem_append] at hp
    rcases hp with hp | hp
    · exact h.l p hp
    · have hp2 := (List.mem_filter.1 hp).1
      rw [List.mem_singleton] at hp2
      refine ⟨fullM_mem hp, ?_⟩
      rw [hp2]
      exact hl
  · rw [List.take_append_of_le_length hj]; exact hs
  · rw [List.take_append_of_le_length hj]; exact hd
theorem contM_flag (m : List Pt) : contM (m.map fun p => (p.1, true)) = contM m := by
  unfold contM
  rw [List.flatMap_map]
theorem contM_sync (m : List Pt) : contM (syncM m) = contM m := by
  unfold syncM
  rw [contM_flag, contM_full]
theorem KeI.sync (h : KeI m s k) : KeI (syncM m) (contM (syncM m)).length (k + 1) := by
  have e : syncM m = m.map fun p => (p.1, true) := by unfold syncM; rw [h.full]
  refine ⟨by rw [e, List.length_map]; have := h.n; omega, fun p hp => ?_, (syncM m).length, Nat.le_refl _, by rw [List.take_length], fun p hp => ?_⟩
  · rw [e, List.mem_map] at hp
    obtain ⟨q, hq, rfl⟩ := hp
    exact h.l q hq
  · rw [List.take_length, e, List.mem_map] at hp
    obtain ⟨q, _, rfl⟩ := hp
    rfl
theorem KeI.sm (h : KeI m s k) (hk : k ≤ 30) : SmM m := ⟨by have := h.n; omega, fun p hp => by have := (h.l p hp).2; omega⟩
theorem SmM.more (h : KeI m s k) (hk : k ≤ 30) (hl : l.length ≤ 100000) : SmM (m ++ [(l, false)]) := by
  refine ⟨by rw [List.length_append]; have := h.n; simp; omega, fun p hp => ?_⟩
  rw [List.mem_append, List.mem_singleton] at hp
  rcases hp with hp | rfl
  · exact (h.sm hk).l p hp
  · exact hl
theorem contM_few {m : List Pt} (h : ∀ p ∈ m, p.1.length ≤ 30) : (contM m).length ≤ m.length * 30 := by
  induction m with
  | nil => simp [contM]
  | cons p m ih =>
    rw [contM_cons, List.length_append, List.length_cons]
    have h1 := h p (by simp)
    have h2 := ih fun q hq => h q (by simp [hq])
    omega
theorem KeI.cont (h : KeI m s k) (hk : k ≤ 30) : (contM m).length ≤ 900 := by
  have h1 := contM_few fun p hp => (h.l p hp).2
  have := h.n
  have h2 : m.length * 30 ≤ 30 * 30 := Nat.mul_le_mul_right _ (by omega)
  omega
theorem KeI.sure (h : KeI m s k) : s ≤ (contM m).length := by
  obtain ⟨j, _, hs, _⟩ := h.s
  rw [hs]
  exact contM_take_len m j
theorem KeI.pre (h : KeI m s k) (q : List Bool) : ∃ x, x.length = s ∧ x <+: contM m ∧ x <+: contM (failM m q) := by
  obtain ⟨j, _, hs, hd⟩ := h.s
  refine ⟨contM (m.take j), hs.symm, ?_, failM_keeps (fun p hp => (h.l p hp).1) hd⟩
  refine ⟨contM (m.drop j), ?_⟩
  rw [← contM_append, List.take_append_drop]
theorem KeI.kept (h : KeI m s k) (q : List Bool) : s ≤ (contM (failM m q)).length := by
  obtain ⟨x, hx, _, h2⟩ := h.pre q
  rw [← hx]
  exact h2.length_le
theorem failM_less (m : List Pt) (q : List Bool) : (contM (failM m q)).length ≤ (contM m).length := (failM_nought m q).1
theorem KeI.same (h : KeI m s k) {q : List Bool} (ha : ∀ i, i < volM m → q[i]? = some true) : contM (failM m q) = contM m := by
  rw [failM_all (fun p hp => (h.l p hp).1) ha, contM_flag]
theorem KeI.differ (h : KeI m s k) (q : List Bool) {i : Nat} {x y : UInt8} (hx : (contM (failM m q))[i]? = some x) (hy : (contM m)[i]? = some y) (hne : x ≠ y) : x = 0 ∧ s ≤ i ∧ ¬ ∀ i, i < volM m → q[i]? = some true := by
  refine ⟨?_, ?_, fun ha => ?_⟩
  · rcases (failM_nought m q).2 i x y hx hy with e | e
    · exact absurd e hne
    · exact e
  · refine Nat.le_of_not_lt fun hi => hne ?_
    obtain ⟨z, hz, ⟨t1, h1⟩, ⟨t2, h2⟩⟩ := h.pre q
    rw [← h1, List.getElem?_append_left (by omega)] at hy
    rw [← h2, List.getElem?_append_left (by omega)] at hx
    rw [hx] at hy
    injection hy
  · rw [h.same ha, hy] at hx
    injection hx with e
    exact hne e.symm
theorem failM_len (m : List Pt) (q : List Bool) : (failM m q).length ≤ m.length := by
  unfold failM failH
  rw [List.length_map, List.length_take, holdM_len]
  have : (fullM m).length ≤ m.length := List.length_filter_le _ _
  omega
theorem failM_short {m : List Pt} {q : List Bool} {N : Nat} (h : ∀ p ∈ m, p.1.length ≤ N) {p : Pt} (hp : p ∈ failM m q) : p.1.length ≤ N := by
  unfold failM failH at hp
  rw [List.mem_map] at hp
  obtain ⟨r, hr, rfl⟩ := hp
  rw [fillP_len]
  obtain ⟨i, hi⟩ := List.getElem?_of_mem (List.mem_of_mem_take hr)
  have hlt := (List.getElem?_eq_some_iff.1 hi).1
  rw [holdM_len] at hlt
  obtain ⟨d, hd, _⟩ := holdM_get (k := q) (List.getElem?_eq_getElem hlt)
  rw [hd] at hi
  injection hi with hi
  rw [← hi]
  have hin := List.getElem_mem hlt
  have h5 := h _ (List.mem_filter.1 hin).1
  exact h5
theorem KeI.fail (h : KeI m s k) (q : List Bool) : KeI (failM m q) 0 k := by
  refine ⟨Nat.le_trans (failM_len m q) h.n, fun p hp => ⟨failM_full hp, failM_short (fun p hp => (h.l p hp).2) hp⟩, 0, by simp, by simp [contM], by simp⟩
theorem failM_twice (m : List Pt) (q r : List Bool) : failM (failM m q) r = failM m q := failM_done (fun _ hp => failM_full hp) (fun _ hp => failM_durable hp)
theorem syncM_full {m : List Pt} {p : Pt} (h : p ∈ syncM m) : p.1 ≠ [] ∧ p.2 = true := by
  unfold syncM at h
  rw [List.mem_map] at h
  obtain ⟨q, hq, rfl⟩ := h
  have := fullM_mem hq
  exact ⟨this, rfl⟩
theorem syncM_done (m : List Pt) (q : List Bool) : failM (syncM m) q = syncM m := failM_done (fun _ hp => (syncM_full hp).1) (fun _ hp => (syncM_full hp).2)
theorem KeI.ends (h : KeI m s k) (l : List UInt8) : (contM (syncM (appM m l))).length = (contM m).length + l.length := by
  rw [contM_sync, appM_of h, contM_append, contM_full, contM_one, List.length_append]
theorem SmM.add (h : SmM (m ++ [(l, false)])) : SmM (appM m l) := h.full
end

/-! ### the file in its block -/
structure KS (w0 : World) (F : Nat) (m : List Pt) (w : World) : Prop where
  below : Below w0.heap.size w0 w
  low : w0.heap.size ≤ F
  f : FileAt w (fun b => b = F) F m
section
variable {w0 w w' : World} {F : Nat} {m m' : List Pt}
theorem KS.hX (h : KS w0 F m w) (b : Nat) (hb : (fun b => b = F) b) : b < w.heap.size := by rw [hb]; exact h.f.lt
theorem KS.then_ (h : KS w0 F m w) (hb : Below w.heap.size w w') : KS w0 F m w' := ⟨h.below.trans (hb.mono h.below.size), h.low, h.f.below hb⟩
theorem KS.touch (h : KS w0 F m w) (ht : Touch (fun k => k = F) w w') (hf : FileAt w' (fun b => b = F) F m') : KS w0 F m' w' :=
  ⟨h.below.trans (ht.below h.below.size fun x e => by rw [e]; exact h.low), h.low, hf⟩
theorem KS.start {w0 wn : World} {A : Option Addr} {c n : Nat} (hb : Below w0.heap.size w0 wn) (hf : FileV wn (XW w0) (.slice A n c) m) : KS w0 wn.heap.size m (wn.alloc (.cells #[.slice A n c] 30)) := by
  refine ⟨hb.alloc hb.size _, hb.size, _, heap_alloc_new _ _, ?_⟩
  exact FileV.below (hf.mono fun b hb2 e => by subst e; exact absurd hb2 (by omega)) (below_new _ _)
theorem KS.app {Ab : Option Addr} {cb B nl : Nat} {l : List UInt8} (h : KS w0 F m w) (hs : SmM (m ++ [(l, false)])) (hn : l.length = nl) (hB : B ≤ w.heap.size) (hb : RdB w B Ab l) :
    Calls Try.prog 17 #[.pointer (some ⟨F, 0, none⟩), .slice Ab nl cb] w fun e w' => e = .returned (.tuple #[]) ∧ Touch (fun k => k = F) w w' ∧ KS w0 F (appM m l) w' := by
  refine (appAt h.f h.hX hs hn hB hb).mono ?_
  rintro e w' ⟨e1, ht, hf⟩
  exact ⟨e1, ht, h.touch ht hf⟩
theorem KS.sync (h : KS w0 F m w) (hs : SmM m) :
    Calls Try.prog 13 #[.pointer (some ⟨F, 0, none⟩)] w fun e w' => e = .returned (.tuple #[]) ∧ Touch (fun k => k = F) w w' ∧ KS w0 F (syncM m) w' := by
  refine (syncAt h.f h.hX hs).mono ?_
  rintro e w' ⟨e1, ht, hf⟩
  exact ⟨e1, ht, h.touch ht hf⟩
theorem KS.fail {Ak : Option Addr} {ck B nk : Nat} {keep : List Bool} (h : KS w0 F m w) (hs : SmM m) (hn : keep.length = nk) (hB : B ≤ w.heap.size) (hkr : RdK w B Ak keep) (hkc : nk ≤ ck) (hkl : nk ≤ 1000) (he : failM m keep = m') :
    Calls Try.prog 15 #[.pointer (some ⟨F, 0, none⟩), .slice Ak nk ck] w fun e w' => e = .returned (.tuple #[]) ∧ Touch (fun k => k = F) w w' ∧ KS w0 F m' w' := by
  subst he
  refine (failAt h.f h.hX hs hn hB hkr hkc hkl).mono ?_
  rintro e w' ⟨e1, ht, hf⟩
  exact ⟨e1, ht, h.touch ht hf⟩
/-- The content, in memory that is none of the file's. -/
theorem bytesY {X : Nat → Prop} {v : Value} {l : List UInt8} {nm : Nat} (hX : ∀ b, X b → b < w.heap.size) (hm : SmM m) (hl : contM m = l) (hn : l.length = nm) (hv : FileV w X v m) :
    Calls Try.prog 21 #[.agg #[v]] w fun e w' => ∃ u, e = .returned u ∧ Below w.heap.size w w' ∧ ∃ A c, u = .slice A nm c ∧ RdX w' X 1 A nm (bs l) := by
  obtain ⟨A, c, ps, rfl, hc, hp, rfl⟩ := hv
  subst hl hn
  refine (bytes_any A c ps w hm hp).mono ?_
  rintro e w' ⟨u, rfl, hown, hb⟩
  obtain ⟨A2, c2, rfl, _, _, _⟩ := own_form hown
  exact ⟨_, rfl, hb, A2, c2, rfl, own_avoid hown hX⟩
end
section
variable {b : Act} {w : World} {o : Oper}
theorem exec_at8 {x y : Operand} {ad : Addr} {n c k : Nat} (ho : o.op = .indexAddr 26 x y) (h : b.eval x = .slice (some ad) n c) (h' : b.eval y = .int .i64 (k : Int)) (hk : k < n) : (execOp b.eval o).run Try.prog w = .ok (.value (.pointer (some (ad.add k)))) w := by
  have hk' : (k : Int) < n := by omega
  unfold execOp
  simp only [ho, h, h']
  go_simp
theorem exec_ld8 {x : Operand} {a : Addr} {u : Value} (ho : o.op = .load 5 x) (h : b.eval x = .pointer (some a)) (hc : w.cell? a = some u) : (execOp b.eval o).run Try.prog w = .ok (.value u) w := by
  unfold execOp
  simp only [ho, h]
  go_simp
theorem exec_ne8f {x y : Operand} {i : Int} (ho : o.op = .binOp .neq 5 x y 5) (h : b.eval x = .int .u8 i) (h' : b.eval y = .int .u8 i) : (execOp b.eval o).run Try.prog w = .ok (.value (.bool false)) w := by
  unfold execOp
  simp only [ho, h, h']
  go_simp
theorem exec_ne8t {x y : Operand} {i j : Int} (ho : o.op = .binOp .neq 5 x y 5) (h : b.eval x = .int .u8 i) (h' : b.eval y = .int .u8 j) (hne : i ≠ j) : (execOp b.eval o).run Try.prog w = .ok (.value (.bool true)) w := by
  unfold execOp
  simp only [ho, h, h']
  go_simp
theorem exec_ltf {x y : Operand} {i j : Int} (ho : o.op = .binOp .lss 3 x y 3) (h : b.eval x = .int .i64 i) (h' : b.eval y = .int .i64 j) (hn : ¬ i < j) : (execOp b.eval o).run Try.prog w = .ok (.value (.bool false)) w := by
  have hd : decide (i < j) = false := decide_eq_false hn
  unfold execOp
  simp only [ho, h, h']
  go_simp
end
end Go.Proofs.Ytnlcohijopokjaa
