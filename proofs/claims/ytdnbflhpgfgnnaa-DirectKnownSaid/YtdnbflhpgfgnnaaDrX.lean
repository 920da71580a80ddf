/- Directories beside each other, with blocks that stay, and a directory of the reference. Conditions: at most 1000 operations. -/
import Derived.Test.YtdnbflhpgfgnnaaDrV
namespace Go.Proofs.Ytdnbflhpgfgnnaa
open Go.RowKit

/-- Directories, readings, and blocks that none of them owns. -/
structure Dk0 (w0 w : World) (N : Nat) (c : Nat → Nat) (L : List (Nat × St)) (R : List Rd) (K : List (Nat × Obj × Nat)) : Prop where
  ds : Ds0 w0 w N c L R
  len : L.length < 50
  blk : ∀ p ∈ K, w.heap[p.1]? = some p.2.1 ∧ c p.1 = p.2.2 ∧ (p.2.2 = 0 ∨ 50 ≤ p.2.2)
def Dk (w0 w : World) (N : Nat) (L : List (Nat × St)) (R : List Rd) (K : List (Nat × Obj × Nat)) : Prop := ∃ c, Dk0 w0 w N c L R K
/-- The reference's value is among the readings. -/
def RvIn (R : List Rd) (v : Value) (s : St) : Prop := ∃ A c A' c', v = .agg #[.slice A s.dur.length c, .slice A' s.ops.length c'] ∧ (⟨2, A, s.dur.length, ecells s.dur⟩ : Rd) ∈ R ∧ (⟨3, A', s.ops.length, prcells s.ops⟩ : Rd) ∈ R
section
variable {w0 w w' : World} {N k g : Nat} {c : Nat → Nat} {L : List (Nat × St)} {R R' : List Rd} {K : List (Nat × Obj × Nat)} {s s' t : St} {u v : Value}
theorem DirAt.recolor {c' : Nat → Nat} {i j : Nat} (h : DirAt w c i g s) (h1 : ∀ b, c b = i → c' b = j) (h2 : ∀ b, c' b ≠ 0 → c b ≠ 0) : DirAt w c' j g s := by
  obtain ⟨mv, pv, hg, hm, ps, e, ho, hr, hp⟩ := h.v
  refine ⟨h1 _ h.col, h.ne, mv, pv, hg, ?_, ps, e, ho, fun r hv => ⟨h1 _ (hr r hv).1, (hr r hv).2⟩, fun p hq => (hp p hq).mono fun b _ e => h2 b e⟩
  rcases hm with hm | ⟨b, hv, hb, ho⟩
  · exact .inl hm
  · exact .inr ⟨b, hv, h1 _ hb, ho⟩
/-- One directory alone. -/
theorem Ds.only (h : Ds w0 w N L R) (hk : L[k]? = some (g, s)) : Ds w0 w N [(g, s)] R := by
  obtain ⟨c, h⟩ := h
  obtain ⟨hd, hg⟩ := h.dir k g s hk
  have h2 : ∀ b, (if c b = k + 1 then 1 else 0) ≠ 0 → c b ≠ 0 := fun b e => by
    by_cases hb : c b = k + 1
    · omega
    · rw [if_neg hb] at e; exact absurd rfl e
  refine ⟨fun b => if c b = k + 1 then 1 else 0, fun b hb => ?_, h.bel, fun j g2 s2 hj => ?_, fun r hr => (h.row r hr).mono fun b _ e => h2 b e⟩
  · show (if c b = k + 1 then 1 else 0) = 0
    rw [h.low b hb, if_neg (by omega)]
  · have hj0 : j = 0 := by
      have := (List.getElem?_eq_some_iff.1 hj).1
      simp only [List.length_cons, List.length_nil] at this
      omega
    subst hj0
    simp only [List.getElem?_cons_zero, Option.some.injEq, Prod.mk.injEq] at hj
    obtain ⟨rfl, rfl⟩ := hj
    exact ⟨hd.recolor (fun b e => if_pos e) h2, hg⟩
theorem RvIn.more (h : RvIn R v s) (hs : ∀ r ∈ R, r ∈ R') : RvIn R' v s := by
  obtain ⟨A, c, A', c', e, h1, h2⟩ := h
  exact ⟨A, c, A', c', e, hs _ h1, hs _ h2⟩
theorem RvIn.form (h : RvIn R v s) : ∃ A n c A' n' c', v = .agg #[.slice A n c, .slice A' n' c'] := by
  obtain ⟨A, c, A', c', e, _⟩ := h
  exact ⟨A, _, c, A', _, c', e⟩
theorem Ds0.ref (h : Ds0 w0 w N c L R) (hv : RvIn R v s) : RefV w (Mu c) v s := by
  obtain ⟨A, n, A', n', e, h1, h2⟩ := hv
  exact ⟨A, n, A', n', e, h.row _ h1, h.row _ h2⟩
theorem Dk.ds (h : Dk w0 w N L R K) : Ds w0 w N L R := h.elim fun c h => ⟨c, h.ds⟩
theorem Dk.at_ {p : Nat × Obj × Nat} (h : Dk w0 w N L R K) (hp : p ∈ K) : w.heap[p.1]? = some p.2.1 := h.elim fun _ h => (h.blk p hp).1
theorem Dk.start (h : Ds w0 w N L R) (hl : L.length < 50) : Dk w0 w N L R [] := by
  obtain ⟨c, h⟩ := h
  exact ⟨c, h, hl, fun p hp => by cases hp⟩
theorem Dk.below (h : Dk w0 w N L R K) (hb : Below w.heap.size w w') : Dk w0 w' N L R K := by
  obtain ⟨c, h⟩ := h
  exact ⟨c, h.ds.belowS hb (Same.refl _ _), h.len, fun p hp => ⟨(hb.block _ (Array.getElem?_eq_some_iff.1 (h.blk p hp).1).1).trans (h.blk p hp).1, (h.blk p hp).2⟩⟩
/-- A block more. -/
theorem Dk.cons (h : Dk w0 w N L R K) (b : Nat) (o : Obj) (q : Nat) (hb : Below w.heap.size w w') (h1 : w'.heap[b]? = some o) (h2 : w.heap.size ≤ b) (hq : q = 0 ∨ 50 ≤ q) : Dk w0 w' N L R ((b, o, q) :: K) := by
  obtain ⟨c, h⟩ := h
  refine ⟨ext w c q, h.ds.belowS hb (ext_same w c q), h.len, fun p hp => ?_⟩
  rcases List.mem_cons.1 hp with rfl | hp
  · exact ⟨h1, ext_new w c q h2, hq⟩
  · have hl := (Array.getElem?_eq_some_iff.1 (h.blk p hp).1).1
    exact ⟨(hb.block _ hl).trans (h.blk p hp).1, (ext_same w c q _ hl).trans (h.blk p hp).2.1, (h.blk p hp).2.2⟩
/-- The answer's block, written. -/
theorem Dk.fin {bz q : Nat} {x y x' y' : Value} {T : TypeId} {K' : List (Nat × Obj × Nat)} (h : Dk w0 w N L R K) (hz : (bz, .cells #[x, y] T (0, 0), q) ∈ K) (hq : 50 ≤ q) (hK : ∀ p ∈ K', p ∈ K ∧ p.2.2 ≠ q) :
    Dk w0 ((w.setCell ⟨bz, 0, none⟩ x').setCell ⟨bz, 1, none⟩ y') N L R ((bz, .cells #[x', y'] T (0, 0), q) :: K') := by
  obtain ⟨c, h⟩ := h
  obtain ⟨h1, h2, _⟩ := h.blk _ hz
  simp only at h1 h2
  have hT := (Touch.cell1 w bz 0 x').trans (Touch.cell1 _ bz 1 y')
  have hT2 : Touch (Ow c q) w _ := hT.mono fun b _ e => by rw [e]; exact h2
  have hh := h.ds
  refine ⟨c, ⟨hh.low, hh.bel.trans ⟨hT.os, hT.tape, hT.output, hT.size, fun b hb => hT.block b (Nat.lt_of_lt_of_le hb hh.bel.size) fun e => ?_⟩, fun k g s hk => ?_, fun r hr => (hh.row r hr).other (by omega) hT2 (Same.refl _ _)⟩, h.len, fun p hp => ?_⟩
  · have := hh.low b hb
    rw [e, h2] at this
    omega
  · have hkl := (List.getElem?_eq_some_iff.1 hk).1
    have := h.len
    exact ⟨(hh.dir k g s hk).1.other (by omega) (by omega) hT2 (Same.refl _ _), (hh.dir k g s hk).2⟩
  · rcases List.mem_cons.1 hp with rfl | hp
    · exact ⟨two_set1 y' (two_set0 x' h1), h2, .inr hq⟩
    · obtain ⟨g1, g2⟩ := hK p hp
      obtain ⟨h3, h4, h5⟩ := h.blk p g1
      exact ⟨hT2.heap (fun e => g2 (h4.symm.trans e)) h3, h4, h5⟩
theorem Dk.weakK {K' : List (Nat × Obj × Nat)} (h : Dk w0 w N L R K) (hK : ∀ p ∈ K', p ∈ K) : Dk w0 w N L R K' := h.elim fun c h => ⟨c, h.ds, h.len, fun p hp => h.blk p (hK p hp)⟩
theorem Dk.more {M : Nat} (h : Dk w0 w N L R K) (hM : N ≤ M) : Dk w0 w M L R K := by
  obtain ⟨c, h⟩ := h
  have hh := h.ds
  exact ⟨c, ⟨hh.low, hh.bel, fun k g s hk => ⟨(hh.dir k g s hk).1, (hh.dir k g s hk).2.more hM⟩, hh.row⟩, h.len, h.blk⟩
/-- One directory alone. -/
theorem Dk.only (h : Dk w0 w N L R K) (hk : L[k]? = some (g, s)) : Dk w0 w N [(g, s)] R K := by
  obtain ⟨c, h⟩ := h
  have hh := h.ds
  obtain ⟨hd, hg⟩ := hh.dir k g s hk
  have hkl := (List.getElem?_eq_some_iff.1 hk).1
  have hlen := h.len
  have h2 : ∀ b, (if c b = k + 1 then 1 else if 50 ≤ c b then c b else 0) ≠ 0 → c b ≠ 0 := fun b e => by
    split at e
    · omega
    · split at e
      · omega
      · exact absurd rfl e
  refine ⟨fun b => if c b = k + 1 then 1 else if 50 ≤ c b then c b else 0, ⟨fun b hb => ?_, hh.bel, fun j g2 s2 hj => ?_, fun r hr => (hh.row r hr).mono fun b _ e => h2 b e⟩, by show 1 < 50; decide, fun p hp => ?_⟩
  · show (if c b = k + 1 then 1 else if 50 ≤ c b then c b else 0) = 0
    rw [hh.low b hb, if_neg (by omega), if_neg (by omega)]
  · have hj0 : j = 0 := by
      have := (List.getElem?_eq_some_iff.1 hj).1
      simp only [List.length_cons, List.length_nil] at this
      omega
    subst hj0
    simp only [List.getElem?_cons_zero, Option.some.injEq, Prod.mk.injEq] at hj
    obtain ⟨rfl, rfl⟩ := hj
    exact ⟨hd.recolor (fun b e => if_pos e) h2, hg⟩
  · obtain ⟨g1, g2, g3⟩ := h.blk p hp
    refine ⟨g1, ?_, g3⟩
    show (if c p.1 = k + 1 then 1 else if 50 ≤ c p.1 then c p.1 else 0) = _
    rcases g3 with g3 | g3
    · rw [g2, g3, if_neg (by omega), if_neg (by omega)]
    · rw [g2, if_neg (by omega), if_pos g3]
theorem Dk0.did (h : Dk0 w0 w N c L R K) (hk : L[k]? = some (g, s)) (hd : Did w c (k + 1) g s' w') {M : Nat} (hM : N ≤ M) (hg : Good s' M) : Dk w0 w' M (L.set k (g, s')) R K := by
  obtain ⟨c', h1, h2, h3⟩ := hd
  have hkl : k < L.length := (List.getElem?_eq_some_iff.1 hk).1
  have hh := h.ds
  refine ⟨c', ⟨fun b hb => (h1 b (Nat.lt_of_lt_of_le hb hh.bel.size)).trans (hh.low b hb), hh.bel.trans ⟨h2.os, h2.tape, h2.output, h2.size, fun b hb => h2.block b (Nat.lt_of_lt_of_le hb hh.bel.size) fun e => ?_⟩, fun j g2 s2 hj => ?_, fun r hr => (hh.row r hr).other (by omega) h2 h1⟩, by rw [List.length_set]; exact h.len, fun p hp => ?_⟩
  · have e' : c b = k + 1 := e
    rw [hh.low b hb] at e'
    omega
  · by_cases hjk : j = k
    · subst hjk
      rw [List.getElem?_set_self hkl] at hj
      injection hj with hj
      injection hj with e1 e2
      subst e1
      subst e2
      exact ⟨h3, hg⟩
    · rw [List.getElem?_set_ne (fun e => hjk e.symm)] at hj
      obtain ⟨h4, h5⟩ := hh.dir j g2 s2 hj
      exact ⟨h4.other (by omega) (by omega) h2 h1, h5.more hM⟩
  · obtain ⟨hb1, hb2, hb3⟩ := h.blk p hp
    refine ⟨h2.heap (fun e => ?_) hb1, (h1 _ (Array.getElem?_eq_some_iff.1 hb1).1).trans hb2, hb3⟩
    have e' : c p.1 = k + 1 := e
    have := h.len
    omega
theorem Dk0.refNew (h : Dk0 w0 w N c L R K) (hb : Below w.heap.size w w') (hu : RefV w' (fun b => b < w.heap.size ∧ Mu c b) u t) : ∃ R', Dk w0 w' N L R' K ∧ RvIn R' u t ∧ ∀ r ∈ R, r ∈ R' := by
  have hf := hu.free
  obtain ⟨A, n, A', n', e, h1, h2⟩ := hf.v
  have h3 := h.ds.belowS hb (ext_same w c 0)
  refine ⟨⟨2, A, t.dur.length, ecells t.dur⟩ :: ⟨3, A', t.ops.length, prcells t.ops⟩ :: R, ⟨ext w c 0, ⟨h3.low, h3.bel, h3.dir, fun r hr => ?_⟩, h.len, fun q hq => ?_⟩, ⟨A, n, A', n', e, by simp, by simp⟩, fun r hr => List.mem_cons_of_mem _ (List.mem_cons_of_mem _ hr)⟩
  · rcases List.mem_cons.1 hr with rfl | hr
    · exact h1
    · rcases List.mem_cons.1 hr with rfl | hr
      · exact h2
      · exact h3.row r hr
  · have hl := (Array.getElem?_eq_some_iff.1 (h.blk q hq).1).1
    exact ⟨(hb.block _ hl).trans (h.blk q hq).1, (ext_same w c 0 _ hl).trans (h.blk q hq).2.1, (h.blk q hq).2.2⟩
/-! ### each call -/
theorem add_dk (h : Dk w0 w N L R K) (hk : L[k]? = some (g, s)) (hN : N ≤ 1000) (b : List UInt8) (n : Int) (hs : Sz (b, n)) :
    Calls Try.prog 22 #[.pointer (some ⟨g, 0, none⟩), .string (txt b), .int .i64 n] w fun e w' => e = .returned (.int .i64 (s.add b n).2) ∧ Dk w0 w' (N + 1) (L.set k (g, (s.add b n).1)) R K := by
  obtain ⟨c, h⟩ := h
  obtain ⟨h1, h2⟩ := h.ds.dir k g s hk
  refine (add_any h1 (by omega) h2 hN b n hs).mono ?_
  rintro e w' ⟨rfl, hd⟩
  exact ⟨rfl, h.did hk hd (by omega) (h2.addE b n hs)⟩
theorem remove_dk (h : Dk w0 w N L R K) (hk : L[k]? = some (g, s)) (hN : N ≤ 1000) (b : List UInt8) (hb : b.length ≤ 1000) :
    Calls Try.prog 20 #[.pointer (some ⟨g, 0, none⟩), .string (txt b)] w fun e w' => e = .returned (.tuple #[.int .i64 (s.remove b).2.1, .int .i64 (s.remove b).2.2]) ∧ Dk w0 w' (N + 1) (L.set k (g, (s.remove b).1)) R K := by
  obtain ⟨c, h⟩ := h
  obtain ⟨h1, h2⟩ := h.ds.dir k g s hk
  refine (remove_any h1 (by omega) h2 hN b hb).mono ?_
  rintro e w' ⟨rfl, hd⟩
  exact ⟨rfl, h.did hk hd (by omega) (h2.rem b)⟩
theorem sync_dk (h : Dk w0 w N L R K) (hk : L[k]? = some (g, s)) :
    Calls Try.prog 13 #[.pointer (some ⟨g, 0, none⟩)] w fun e w' => e = .returned (.tuple #[]) ∧ Dk w0 w' N (L.set k (g, s.sync)) R K := by
  obtain ⟨c, h⟩ := h
  obtain ⟨h1, h2⟩ := h.ds.dir k g s hk
  refine (sync_any h1).mono ?_
  rintro e w' ⟨rfl, ht, hd⟩
  exact ⟨rfl, h.did hk ⟨c, Same.refl _ _, ht, hd⟩ (Nat.le_refl _) h2.sync⟩
theorem fail_dk (h : Dk w0 w N L R K) (hk : L[k]? = some (g, s)) (hN : N ≤ 1000) (z : Int) (hz1 : -9223372036854775808 ≤ z) (hz2 : z ≤ 9223372036854775807) :
    Calls Try.prog 18 #[.pointer (some ⟨g, 0, none⟩), .int .i64 z] w fun e w' => e = .returned (.tuple #[]) ∧ Dk w0 w' N (L.set k (g, s.fail z)) R K := by
  obtain ⟨c, h⟩ := h
  obtain ⟨h1, h2⟩ := h.ds.dir k g s hk
  refine (fail_any h1 (by omega) h2 hN z hz1 hz2).mono ?_
  rintro e w' ⟨rfl, hd⟩
  exact ⟨rfl, h.did hk hd (Nat.le_refl _) (h2.fail z)⟩
theorem get_dk (h : Dk w0 w N L R K) (hk : L[k]? = some (g, s)) (b : List UInt8) (hb : b.length ≤ 1000) :
    Calls Try.prog 21 #[.pointer (some ⟨g, 0, none⟩), .string (txt b)] w fun e w' => e = .returned (.tuple #[.int .i64 ((getE s.now b).getD 0), .bool (hasE s.now b)]) ∧ w' = w := get_ds h.ds hk b hb
theorem copy_dk (h : Dk w0 w N L R K) (hk : L[k]? = some (g, s)) (hN : N ≤ 1000) (hl2 : L.length + 1 < 50) :
    Calls Try.prog 17 #[.pointer (some ⟨g, 0, none⟩)] w fun e w' => ∃ g', e = .returned (.pointer (some ⟨g', 0, none⟩)) ∧ Dk w0 w' N (L ++ [(g', s)]) R K := by
  obtain ⟨c, h⟩ := h
  obtain ⟨h1, h2⟩ := h.ds.dir k g s hk
  refine (copy_any h1 h2 hN (j := L.length + 1)).mono ?_
  rintro e w' ⟨hb, g', rfl, hd⟩
  refine ⟨g', rfl, ?_⟩
  have h3 := h.ds.belowS hb (ext_same w c (L.length + 1))
  refine ⟨_, ⟨h3.low, h3.bel, fun k g2 s2 hk => ?_, h3.row⟩, by rw [List.length_append]; exact hl2, fun q hq => ?_⟩
  · by_cases hkl : k < L.length
    · rw [List.getElem?_append_left hkl] at hk
      exact h3.dir k g2 s2 hk
    · have hl := (List.getElem?_eq_some_iff.1 hk).1
      rw [List.length_append, List.length_singleton] at hl
      obtain rfl : k = L.length := by omega
      rw [List.getElem?_append_right (Nat.le_refl _), Nat.sub_self] at hk
      injection hk with hk
      injection hk with e1 e2
      subst e1
      subst e2
      exact ⟨hd, h2⟩
  · have hl := (Array.getElem?_eq_some_iff.1 (h.blk q hq).1).1
    exact ⟨(hb.block _ hl).trans (h.blk q hq).1, (ext_same w c _ _ hl).trans (h.blk q hq).2.1, (h.blk q hq).2.2⟩
theorem refAdd_dk (h : Dk w0 w N L R K) (hv : RvIn R v s) (hg : Good s N) (hN : N ≤ 1000) (b : List UInt8) (n : Int) (hs : Sz (b, n)) :
    Calls Try.prog 24 #[v, .string (txt b), .int .i64 n] w fun e w' => ∃ u R', e = .returned (.tuple #[u, .int .i64 (s.add b n).2]) ∧ Dk w0 w' N L R' K ∧ RvIn R' u (s.add b n).1 ∧ ∀ r ∈ R, r ∈ R' := by
  obtain ⟨c, h⟩ := h
  refine (refAdd_any (h.ds.ref hv) hg hN b n hs.k hs.v).mono ?_
  rintro e w' ⟨u, rfl, hu, hb⟩
  obtain ⟨R', h1, h2, h3⟩ := h.refNew hb hu
  exact ⟨u, R', rfl, h1, h2, h3⟩
theorem refRemove_dk (h : Dk w0 w N L R K) (hv : RvIn R v s) (hg : Good s N) (hN : N ≤ 1000) (b : List UInt8) (hb : b.length ≤ 1000) :
    Calls Try.prog 25 #[v, .string (txt b)] w fun e w' => ∃ u R', e = .returned (.tuple #[u, .int .i64 (s.remove b).2.1, .int .i64 (s.remove b).2.2]) ∧ Dk w0 w' N L R' K ∧ RvIn R' u (s.remove b).1 ∧ ∀ r ∈ R, r ∈ R' := by
  obtain ⟨c, h⟩ := h
  refine (refRemove_any (h.ds.ref hv) hg hN b hb).mono ?_
  rintro e w' ⟨u, rfl, hu, hb⟩
  obtain ⟨R', h1, h2, h3⟩ := h.refNew hb hu
  exact ⟨u, R', rfl, h1, h2, h3⟩
theorem refFail_dk (h : Dk w0 w N L R K) (hv : RvIn R v s) (hg : Good s N) (hN : N ≤ 1000) (z : Int) (hz1 : -9223372036854775808 ≤ z) (hz2 : z ≤ 9223372036854775807) :
    Calls Try.prog 28 #[v, .int .i64 z] w fun e w' => ∃ u R', e = .returned u ∧ Dk w0 w' N L R' K ∧ RvIn R' u (s.fail z) ∧ ∀ r ∈ R, r ∈ R' := by
  obtain ⟨c, h⟩ := h
  refine (refFail_any (h.ds.ref hv) hg hN z hz1 hz2).mono ?_
  rintro e w' ⟨u, rfl, hu, hb⟩
  obtain ⟨R', h1, h2, h3⟩ := h.refNew hb hu
  exact ⟨u, R', rfl, h1, h2, h3⟩
theorem refGet_dk (h : Dk w0 w N L R K) (hv : RvIn R v s) (hg : Good s N) (hN : N ≤ 1000) (b : List UInt8) :
    Calls Try.prog 26 #[v, .string (txt b)] w fun e w' => e = .returned (.tuple #[.int .i64 ((getE s.now b).getD 0), .bool (hasE s.now b)]) ∧ Dk w0 w' N L R K := by
  obtain ⟨c, h'⟩ := id h
  refine (refGet_any (h'.ds.ref hv) hg hN b).mono ?_
  rintro e w' ⟨rfl, hb⟩
  exact ⟨rfl, h.below hb⟩
/-- List, as the durable part of what Sync leaves. -/
theorem refList_dk (h : Dk w0 w N L R K) (hv : RvIn R v s) (hg : Good s N) (hN : N ≤ 1000) :
    Calls Try.prog 27 #[v] w fun e w' => ∃ A n d R', e = .returned (.slice A n d) ∧ Dk w0 w' N L R' K ∧ RvIn R' (.agg #[.slice A n d, .slice none 0 0]) s.sync ∧ ∀ r ∈ R, r ∈ R' := by
  obtain ⟨c, h⟩ := h
  refine (refList_any (h.ds.ref hv) hg hN).mono ?_
  rintro e w' ⟨A, n, d, rfl, hn, hE, hb⟩
  have hu : RefV w' (fun b => b < w.heap.size ∧ Mu c b) (.agg #[.slice A n d, .slice none 0 0]) s.sync := ⟨A, d, none, 0, by rw [hn]; rfl, hE, RdX.none_⟩
  obtain ⟨R', h1, h2, h3⟩ := h.refNew hb hu
  exact ⟨A, n, d, R', rfl, h1, h2, h3⟩
end
end Go.Proofs.Ytdnbflhpgfgnnaa
