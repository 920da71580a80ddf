/- The walks of Add and Remove. Conditions: names of at most 1000 bytes, at most 1000 operations. -/
import Derived.Test.YtdnbflhpgfgnnaaDrD
namespace Go.Proofs.Ytdnbflhpgfgnnaa
open Go.RowKit Go.Maps

def St.add (s : St) (k : List UInt8) (n : Int) : St × Int := if k = [] ∨ n < 0 then (s, 2) else if hasE s.now k = true then (s, 81) else (s.addE k n, 0)
def St.remove (s : St) (k : List UInt8) : St × Int × Int := match getE s.now k with
  | none => (s, 0, 80)
  | some v => (s.rem k v, v, 0)
theorem St.remove_none {s : St} {k : List UInt8} (h : hasE s.now k = false) : s.remove k = (s, 0, 80) := by
  unfold St.remove
  cases hg : getE s.now k with
  | none => rfl
  | some v => rw [← getE_has, hg] at h; cases h
theorem St.remove_some {s : St} {k : List UInt8} (h : hasE s.now k = true) : s.remove k = (s.rem k ((getE s.now k).getD 0), (getE s.now k).getD 0, 0) ∧ getE s.now k = some ((getE s.now k).getD 0) := by
  unfold St.remove
  cases hg : getE s.now k with
  | none => rw [← getE_has, hg] at h; cases h
  | some v => exact ⟨rfl, rfl⟩
/-- What an answer says, and the directory behind it. -/
def Did (w : World) (c : Nat → Nat) (i g : Nat) (s : St) (w' : World) : Prop := ∃ c', Same w c c' ∧ Touch (Ow c i) w w' ∧ DirAt w' c' i g s
theorem Did.refl {w : World} {c : Nat → Nat} {i g : Nat} {s : St} (h : DirAt w c i g s) : Did w c i g s w := ⟨c, Same.refl _ _, Touch.refl _ _, h⟩
section
variable {w : World} {c : Nat → Nat} {i g N : Nat} {s : St}
theorem pn_free {w1 : World} {p : Pn} (h : PnAt w1 (fun b => b < w.heap.size) p) : PnAt w1 (Mu (ext w c 0)) p :=
  h.mono fun b _ e => by
    show b < w.heap.size
    by_cases hb : b < w.heap.size
    · exact hb
    · exact absurd (ext_new w c 0 (by omega)) e
theorem did_then {w1 w2 : World} {c1 : Nat → Nat} (hb : Below w.heap.size w w1) (hs : Same w c c1) (h : Did w1 c1 i g s w2) : Did w c i g s w2 := by
  obtain ⟨c2, h1, h2, h3⟩ := h
  refine ⟨c2, hs.trans h1 hb.size, (Touch.of (X := Ow c i) hb).then_ h2 fun b hl e => ?_, h3⟩
  show c b = i
  rw [← hs b hl]
  exact e
theorem addNil_any (k : List UInt8) (n : Int) (w : World) : Calls Try.prog 22 #[.pointer none, .string (txt k), .int .i64 n] w fun e w' => e = .returned (.int .i64 1) ∧ w' = w := by
  go_enter Try.func22, Try.ntmps22
  go_wp2
  go_ret
  exact ⟨rfl, rfl⟩
theorem removeNil_any (k : List UInt8) (w : World) : Calls Try.prog 20 #[.pointer none, .string (txt k)] w fun e w' => e = .returned (.tuple #[.int .i64 0, .int .i64 1]) ∧ w' = w := by
  go_enter Try.func20, Try.ntmps20
  go_wp2
  go_ret2
  exact ⟨rfl, rfl⟩
set_option maxHeartbeats 1000000 in
set_option maxRecDepth 100000 in
theorem add_any (h : DirAt w c i g s) (hi : i ≠ 0) (hg : Good s N) (hN : N ≤ 1000) (k : List UInt8) (n : Int) (hs : Sz (k, n)) :
    Calls Try.prog 22 #[.pointer (some ⟨g, 0, none⟩), .string (txt k), .int .i64 n] w fun e w' => e = .returned (.int .i64 (s.add k n).2) ∧ Did w c i g (s.add k n).1 w' := by
  have hb := hs.v
  simp only at hb
  obtain ⟨hb1, hb2⟩ := hb
  by_cases hk : k = [] ∨ n < 0
  · have e0 : Hid (s.add k n = (s, 2)) := by show s.add k n = _; unfold St.add; rw [if_pos hk]
    have H := Lib.hid h
    clear h hi hg hN hs
    rw [e0.out]
    by_cases hkk : k = []
    · have he1 : (txt k).toList.isEmpty = true := by rw [txt_isEmpty, hkk]; rfl
      have he2 : (txt k).toList = [] := List.isEmpty_iff.1 he1
      clear hk hkk
      go_enter Try.func22, Try.ntmps22
      go_wp2
      go_ret
      exact ⟨rfl, .refl H.out⟩
    · have hn : n < 0 := hk.resolve_left hkk
      clear hk
      have he1 : (txt k).toList.isEmpty = false := by
        rw [txt_isEmpty]
        cases k with
        | nil => exact absurd rfl hkk
        | cons _ _ => rfl
      have he2 : ¬ (txt k).toList = [] := fun e => by rw [e] at he1; cases he1
      clear hkk
      go_enter Try.func22, Try.ntmps22
      go_wp2
      go_ret
      exact ⟨rfl, .refl H.out⟩
  · have hkk : ¬ k = [] := fun e => hk (.inl e)
    have hn : ¬ n < 0 := fun e => hk (.inr e)
    have hn' : 0 ≤ n := by omega
    have he1 : (txt k).toList.isEmpty = false := by
      rw [txt_isEmpty]
      cases k with
      | nil => exact absurd rfl hkk
      | cons _ _ => rfl
    have he2 : ¬ (txt k).toList = [] := fun e => by rw [e] at he1; cases he1
    have hget := Lib.hid (get_any h k hs.k)
    have H := Lib.hid h
    have Hg := Lib.hid hg
    have HN := Lib.hid hN
    have Hs := Lib.hid hs
    have Hi := Lib.hid hi
    have Hk := Lib.hid hk
    clear h hi hg hN hs hkk hk
    obtain ⟨z, hz⟩ : ∃ z, Hid ((getE s.now k).getD 0 = z) := ⟨_, rfl⟩
    rw [hz.out] at hget
    by_cases hh : hasE s.now k = true
    · have e0 : Hid (s.add k n = (s, 81)) := by show s.add k n = _; unfold St.add; rw [if_neg Hk.out, if_pos hh]
      rw [hh] at hget
      rw [e0.out]
      clear hh
      go_enter Try.func22, Try.ntmps22
      go_wp2_with (go_at_call 21; refine hget.out.mono ?_; rintro e w1 ⟨rfl, rfl⟩)
      go_ret
      exact ⟨rfl, .refl H.out⟩
    · have hh' : hasE s.now k = false := by simpa using hh
      have e0 : Hid (s.add k n = (s.addE k n, 0)) := by show s.add k n = _; unfold St.add; rw [if_neg Hk.out, if_neg hh]
      rw [hh'] at hget
      rw [e0.out]
      have hadd := Lib.hid (adding_any k n w Hs.out.k)
      clear hh hh'
      go_enter Try.func22, Try.ntmps22
      go_wp2_with (first
        | (go_at_call 21; refine hget.out.mono ?_; rintro e w1 ⟨rfl, rfl⟩)
        | (go_at_call 37; refine hadd.out.mono ?_; rintro e w1 ⟨p, hp, rfl, hat, hb⟩; obtain ⟨u, hu⟩ : ∃ u, Hid (p.v = u) := ⟨_, rfl⟩; rw [hu.out]; have Hp := Lib.hid hp; have Hat := Lib.hid hat; have Hb := Lib.hid hb; clear hp hat hb)
        | (go_at_call 35; rw [← hu.out]; refine (do_any (H.out.belowS Hb.out (ext_same _ c 0)) Hi.out Hg.out HN.out (pn_free Hat.out) (by rw [Hp.out]; exact Hs.out)).mono ?_; rintro e w2 ⟨rfl, hdo⟩))
      go_ret
      refine ⟨rfl, ?_⟩
      rw [Hp.out] at hdo
      exact did_then Hb.out (ext_same _ c 0) hdo
set_option maxHeartbeats 1000000 in
set_option maxRecDepth 100000 in
theorem remove_any (h : DirAt w c i g s) (hi : i ≠ 0) (hg : Good s N) (hN : N ≤ 1000) (k : List UInt8) (hk : k.length ≤ 1000) :
    Calls Try.prog 20 #[.pointer (some ⟨g, 0, none⟩), .string (txt k)] w fun e w' => e = .returned (.tuple #[.int .i64 (s.remove k).2.1, .int .i64 (s.remove k).2.2]) ∧ Did w c i g (s.remove k).1 w' := by
  have hget := Lib.hid (get_any h k hk)
  have H := Lib.hid h
  have Hg := Lib.hid hg
  have HN := Lib.hid hN
  have Hi := Lib.hid hi
  have Hk := Lib.hid hk
  clear h hi hg hN hk
  obtain ⟨z, hz⟩ : ∃ z, Hid ((getE s.now k).getD 0 = z) := ⟨_, rfl⟩
  rw [hz.out] at hget
  by_cases hh : hasE s.now k = true
  · obtain ⟨e1, e2⟩ := St.remove_some hh
    rw [hz.out] at e1 e2
    have E1 := Lib.hid e1
    have E2 := Lib.hid e2
    rw [hh] at hget
    rw [e1]
    have hadd := Lib.hid (removing_any k z w Hk.out)
    clear hh e1 e2
    go_enter Try.func20, Try.ntmps20
    go_wp2_with (first
      | (go_at_call 21; refine hget.out.mono ?_; rintro e w1 ⟨rfl, rfl⟩)
      | (go_at_call 36; refine hadd.out.mono ?_; rintro e w1 ⟨p, hp, rfl, hat, hb⟩; obtain ⟨u, hu⟩ : ∃ u, Hid (p.v = u) := ⟨_, rfl⟩; rw [hu.out]; have Hp := Lib.hid hp; have Hat := Lib.hid hat; have Hb := Lib.hid hb; clear hp hat hb)
      | (go_at_call 35; rw [← hu.out]; refine (do_any (H.out.belowS Hb.out (ext_same _ c 0)) Hi.out Hg.out HN.out (pn_free Hat.out) (by rw [Hp.out]; exact Hg.out.now.2 _ (getE_some E2.out))).mono ?_; rintro e w2 ⟨rfl, hdo⟩))
    go_ret2
    refine ⟨rfl, ?_⟩
    rw [Hp.out] at hdo
    exact did_then Hb.out (ext_same _ c 0) hdo
  · have hh' : hasE s.now k = false := by simpa using hh
    have e1 := St.remove_none hh'
    rw [hh'] at hget
    rw [e1]
    clear hh hh' e1
    go_enter Try.func20, Try.ntmps20
    go_wp2_with (go_at_call 21; refine hget.out.mono ?_; rintro e w1 ⟨rfl, rfl⟩)
    go_ret2
    exact ⟨rfl, .refl H.out⟩
end
end Go.Proofs.Ytdnbflhpgfgnnaa
