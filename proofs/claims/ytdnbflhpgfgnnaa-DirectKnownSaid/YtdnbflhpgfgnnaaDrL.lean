/- Several directories, and rows that are read, beside each other. Conditions: none. -/
import Derived.Test.YtdnbflhpgfgnnaaDrK
namespace Go.Proofs.Ytdnbflhpgfgnnaa
open Go.RowKit

theorem Good.addE {s : St} {N : Nat} (h : Good s N) (k : List UInt8) (n : Int) (hs : Sz (k, n)) : Good (s.add k n).1 (N + 1) := by
  unfold St.add
  split
  · exact h.more (by omega)
  · split
    · exact h.more (by omega)
    · rename_i hh
      exact h.snoc (o := ⟨true, k, n⟩) (by simpa [Pr.ok] using hh) hs
theorem Good.rem {s : St} {N : Nat} (h : Good s N) (k : List UInt8) : Good (s.remove k).1 (N + 1) := by
  unfold St.remove
  cases hg : getE s.now k with
  | none => exact h.more (by omega)
  | some v => exact h.snoc (o := ⟨false, k, v⟩) (by simpa [Pr.ok] using getE_some hg) (h.now.2 _ (getE_some hg))
/-- A reading. -/
structure Rd where
  size : Nat
  A : Option Addr
  n : Nat
  xs : List Value
/-- Directories, each one's blocks its own; readings that none of them touches; what was there ahead of all is as it was. -/
structure Ds0 (w0 w : World) (N : Nat) (c : Nat → Nat) (L : List (Nat × St)) (R : List Rd) : Prop where
  low : ∀ b, b < w0.heap.size → c b = 0
  bel : Below w0.heap.size w0 w
  dir : ∀ k g s, L[k]? = some (g, s) → DirAt w c (k + 1) g s ∧ Good s N
  row : ∀ r ∈ R, RdX w (Mu c) r.size r.A r.n r.xs
def Ds (w0 w : World) (N : Nat) (L : List (Nat × St)) (R : List Rd) : Prop := ∃ c, Ds0 w0 w N c L R
section
variable {w0 w w' : World} {N k g : Nat} {c : Nat → Nat} {L : List (Nat × St)} {R : List Rd} {s s' : St}
theorem Ds.start (w : World) (R : List Rd) (h : ∀ r ∈ R, RdX w (fun _ => False) r.size r.A r.n r.xs) : Ds w w 0 [] R :=
  ⟨fun _ => 0, fun _ _ => rfl, Below.refl _ _, fun _ _ _ h => by simp at h, fun r hr => (h r hr).mono fun _ _ e => e rfl⟩
theorem Ds.bel (h : Ds w0 w N L R) : Below w0.heap.size w0 w := h.elim fun _ h => h.bel
theorem Ds.more {M : Nat} (h : Ds w0 w N L R) (hM : N ≤ M) : Ds w0 w M L R := by
  obtain ⟨c, h⟩ := h
  exact ⟨c, h.low, h.bel, fun k g s hk => ⟨(h.dir k g s hk).1, (h.dir k g s hk).2.more hM⟩, h.row⟩
theorem Ds.good (h : Ds w0 w N L R) (hk : L[k]? = some (g, s)) : Good s N := h.elim fun _ h => (h.dir k g s hk).2
theorem Ds.reads {r : Rd} (h : Ds w0 w N L R) (hr : r ∈ R) : RdX w (fun _ => False) r.size r.A r.n r.xs := h.elim fun _ h => (h.row r hr).mono fun _ _ e => e.elim
theorem Ds.weak {R' : List Rd} (h : Ds w0 w N L R) (hr : ∀ r ∈ R', r ∈ R) : Ds w0 w N L R' := h.elim fun c h => ⟨c, h.low, h.bel, h.dir, fun r hr' => h.row r (hr r hr')⟩
theorem Ds0.did (h : Ds0 w0 w N c L R) (hk : L[k]? = some (g, s)) (hd : Did w c (k + 1) g s' w') {M : Nat} (hM : N ≤ M) (hg : Good s' M) : Ds w0 w' M (L.set k (g, s')) R := by
  obtain ⟨c', h1, h2, h3⟩ := hd
  have hkl : k < L.length := (List.getElem?_eq_some_iff.1 hk).1
  refine ⟨c', fun b hb => (h1 b (Nat.lt_of_lt_of_le hb h.bel.size)).trans (h.low b hb), h.bel.trans ⟨h2.os, h2.tape, h2.output, h2.size, fun b hb => h2.block b (Nat.lt_of_lt_of_le hb h.bel.size) fun e => ?_⟩, fun j g2 s2 hj => ?_, fun r hr => (h.row r hr).other (by omega) h2 h1⟩
  · have e' : c b = k + 1 := e
    rw [h.low b hb] at e'
    omega
  · by_cases hjk : j = k
    · subst hjk
      rw [List.getElem?_set_self hkl] at hj
      injection hj with hj
      injection hj with e1 e2
      subst e1
      subst e2
      exact ⟨h3, hg⟩
    · rw [List.getElem?_set_ne (fun e => hjk e.symm)] at hj
      obtain ⟨h4, h5⟩ := h.dir j g2 s2 hj
      exact ⟨h4.other (by omega) (by omega) h2 h1, h5.more hM⟩
theorem Ds0.belowS {c' : Nat → Nat} (h : Ds0 w0 w N c L R) (hb : Below w.heap.size w w') (hs : Same w c c') : Ds0 w0 w' N c' L R :=
  ⟨fun b hl => (hs b (Nat.lt_of_lt_of_le hl h.bel.size)).trans (h.low b hl), below_then' h.bel hb, fun k g s hk => ⟨(h.dir k g s hk).1.belowS hb hs, (h.dir k g s hk).2⟩, fun r hr => (h.row r hr).belowS hb hs⟩
where
  below_then' {a b d : World} (h : Below a.heap.size a b) (h' : Below b.heap.size b d) : Below a.heap.size a d := h.trans (h'.mono h.size)
theorem Ds.below (h : Ds w0 w N L R) (hb : Below w.heap.size w w') : Ds w0 w' N L R := h.elim fun c h => ⟨c, h.belowS hb (Same.refl _ _)⟩
/-- A row that a call made. -/
theorem Ds.rowOf {t size n cap : Nat} {A : Option Addr} {xs : List Value} (h : Ds w0 w N L R) (hb : Below w.heap.size w w') (ho : w'.ownsRow w.heap.size t size (.slice A n cap) n xs) : Ds w0 w' N L (⟨size, A, n, xs⟩ :: R) := by
  obtain ⟨c, h⟩ := h
  have h2 := h.belowS hb (ext_same w c 0)
  refine ⟨ext w c 0, h2.low, h2.bel, h2.dir, fun r hr => ?_⟩
  rcases List.mem_cons.1 hr with rfl | hr
  · refine (own_avoid ho (X := fun b => b < w.heap.size) fun _ e => e).mono fun b _ e => ?_
    by_cases hbl : b < w.heap.size
    · exact hbl
    · exact absurd (ext_new w c 0 (by omega)) e
  · exact h2.row r hr
/-- A directory more. -/
theorem Ds0.snoc {g : Nat} (h : Ds0 w0 w N c L R) (hb : Below w.heap.size w w') (hd : DirAt w' (ext w c (L.length + 1)) (L.length + 1) g s) (hg : Good s N) : Ds w0 w' N (L ++ [(g, s)]) R := by
  have h2 := h.belowS hb (ext_same w c (L.length + 1))
  refine ⟨_, h2.low, h2.bel, fun k g2 s2 hk => ?_, h2.row⟩
  by_cases hkl : k < L.length
  · rw [List.getElem?_append_left hkl] at hk
    exact h2.dir k g2 s2 hk
  · have hl := (List.getElem?_eq_some_iff.1 hk).1
    rw [List.length_append, List.length_singleton] at hl
    obtain rfl : k = L.length := by omega
    rw [List.getElem?_append_right (Nat.le_refl _), Nat.sub_self] at hk
    injection hk with hk
    injection hk with e1 e2
    subst e1
    subst e2
    exact ⟨hd, hg⟩
/-! ### each call -/
theorem new_ds (h : Ds w0 w N L R) : Calls Try.prog 9 #[] w fun e w' => ∃ g, e = .returned (.pointer (some ⟨g, 0, none⟩)) ∧ Ds w0 w' N (L ++ [(g, St.new)]) R := by
  obtain ⟨c, h⟩ := h
  refine (new_any w).mono ?_
  rintro e w' ⟨rfl, rfl⟩
  exact ⟨_, rfl, h.snoc (below_new _ _) (dir_new _ _ _) (Good.new N)⟩
theorem add_ds (h : Ds w0 w N L R) (hk : L[k]? = some (g, s)) (hN : N ≤ 1000) (b : List UInt8) (n : Int) (hs : Sz (b, n)) :
    Calls Try.prog 22 #[.pointer (some ⟨g, 0, none⟩), .string (txt b), .int .i64 n] w fun e w' => e = .returned (.int .i64 (s.add b n).2) ∧ Ds w0 w' (N + 1) (L.set k (g, (s.add b n).1)) R := by
  obtain ⟨c, h⟩ := h
  obtain ⟨h1, h2⟩ := h.dir k g s hk
  refine (add_any h1 (by omega) h2 hN b n hs).mono ?_
  rintro e w' ⟨rfl, hd⟩
  exact ⟨rfl, h.did hk hd (by omega) (h2.addE b n hs)⟩
theorem remove_ds (h : Ds w0 w N L R) (hk : L[k]? = some (g, s)) (hN : N ≤ 1000) (b : List UInt8) (hb : b.length ≤ 1000) :
    Calls Try.prog 20 #[.pointer (some ⟨g, 0, none⟩), .string (txt b)] w fun e w' => e = .returned (.tuple #[.int .i64 (s.remove b).2.1, .int .i64 (s.remove b).2.2]) ∧ Ds w0 w' (N + 1) (L.set k (g, (s.remove b).1)) R := by
  obtain ⟨c, h⟩ := h
  obtain ⟨h1, h2⟩ := h.dir k g s hk
  refine (remove_any h1 (by omega) h2 hN b hb).mono ?_
  rintro e w' ⟨rfl, hd⟩
  exact ⟨rfl, h.did hk hd (by omega) (h2.rem b)⟩
theorem sync_ds (h : Ds w0 w N L R) (hk : L[k]? = some (g, s)) :
    Calls Try.prog 13 #[.pointer (some ⟨g, 0, none⟩)] w fun e w' => e = .returned (.tuple #[]) ∧ Ds w0 w' N (L.set k (g, s.sync)) R := by
  obtain ⟨c, h⟩ := h
  obtain ⟨h1, h2⟩ := h.dir k g s hk
  refine (sync_any h1).mono ?_
  rintro e w' ⟨rfl, ht, hd⟩
  exact ⟨rfl, h.did hk ⟨c, Same.refl _ _, ht, hd⟩ (Nat.le_refl _) h2.sync⟩
theorem fail_ds (h : Ds w0 w N L R) (hk : L[k]? = some (g, s)) (hN : N ≤ 1000) (z : Int) (hz1 : -9223372036854775808 ≤ z) (hz2 : z ≤ 9223372036854775807) :
    Calls Try.prog 18 #[.pointer (some ⟨g, 0, none⟩), .int .i64 z] w fun e w' => e = .returned (.tuple #[]) ∧ Ds w0 w' N (L.set k (g, s.fail z)) R := by
  obtain ⟨c, h⟩ := h
  obtain ⟨h1, h2⟩ := h.dir k g s hk
  refine (fail_any h1 (by omega) h2 hN z hz1 hz2).mono ?_
  rintro e w' ⟨rfl, hd⟩
  exact ⟨rfl, h.did hk hd (Nat.le_refl _) (h2.fail z)⟩
theorem get_ds (h : Ds w0 w N L R) (hk : L[k]? = some (g, s)) (b : List UInt8) (hb : b.length ≤ 1000) :
    Calls Try.prog 21 #[.pointer (some ⟨g, 0, none⟩), .string (txt b)] w fun e w' => e = .returned (.tuple #[.int .i64 ((getE s.now b).getD 0), .bool (hasE s.now b)]) ∧ w' = w := by
  obtain ⟨c, h⟩ := h
  exact get_any (h.dir k g s hk).1 b hb
theorem pending_ds (h : Ds w0 w N L R) (hk : L[k]? = some (g, s)) :
    Calls Try.prog 15 #[.pointer (some ⟨g, 0, none⟩)] w fun e w' => e = .returned (.int .i64 (s.ops.length : Int)) ∧ w' = w := by
  obtain ⟨c, h⟩ := h
  exact pending_any (h.dir k g s hk).1
theorem copy_ds (h : Ds w0 w N L R) (hk : L[k]? = some (g, s)) (hN : N ≤ 1000) :
    Calls Try.prog 17 #[.pointer (some ⟨g, 0, none⟩)] w fun e w' => ∃ g', e = .returned (.pointer (some ⟨g', 0, none⟩)) ∧ Ds w0 w' N (L ++ [(g', s)]) R := by
  obtain ⟨c, h⟩ := h
  obtain ⟨h1, h2⟩ := h.dir k g s hk
  refine (copy_any h1 h2 hN (j := L.length + 1)).mono ?_
  rintro e w' ⟨hb, g', rfl, hd⟩
  exact ⟨g', rfl, h.snoc hb hd h2⟩
theorem list_ds (h : Ds w0 w N L R) (hk : L[k]? = some (g, s)) (hN : N ≤ 1000) :
    Calls Try.prog 14 #[.pointer (some ⟨g, 0, none⟩)] w fun e w' => ∃ A c, e = .returned (.slice A s.now.length c) ∧ OwnEn 66 w.heap.size w' (.slice A s.now.length c) s.now ∧ Below w.heap.size w w' ∧ Ds w0 w' N L (⟨2, A, s.now.length, ecells s.now⟩ :: R) := by
  obtain ⟨c, h'⟩ := id h
  obtain ⟨h1, h2⟩ := h'.dir k g s hk
  refine (list_any h1 h2 hN).mono ?_
  rintro e w' ⟨v, rfl, ho, hb⟩
  obtain ⟨A, c, rfl, _⟩ := own_form ho
  exact ⟨A, c, rfl, ho, hb, h.rowOf hb ho⟩
end
end Go.Proofs.Ytdnbflhpgfgnnaa
