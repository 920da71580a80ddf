/- What stands in the package-level variables, whatever is made behind it; a text cut at its first stroke; the number that digits are. Conditions: texts below 2^32. -/
import Derived.Test.YtipmpebckfaknaaDoorNmMath
import Derived.Test.YtipmpebckfaknaaDoorShelf
namespace Go.Proofs.YtipmpebckfaknaaDoor
open Go.RowKit Go.Lib

/-- The cells of name.shapes. -/
def shapeCells : List Value := [.string (txt []), .int .i64 0, .string (txt [115]), .int .i64 2, .string (txt [98]), .int .i64 2, .string (txt [116]), .int .i64 3, .string (txt [106]), .int .i64 4]
structure Env0 (w : World) : Prop where
  mx : ∃ m, w.cell? ⟨2, 0, none⟩ = some (.int .i64 m)
  syn : ∃ t p, w.cell? ⟨3, 0, none⟩ = some (.iface t p)
  rng : ∃ t p, w.cell? ⟨4, 0, none⟩ = some (.iface t p)
  pow : Lib.TabIs Tryd.prog w "internal/strconv.uint64pow10" .u64 Lib.pow10Tab
  shp : ∀ j v, shapeCells[j]? = some v → w.cell? ⟨0, j, none⟩ = some v
/-- The variables stand so, whatever is made behind all that is there. -/
def Env (w : World) : Prop := ∀ w', Below w.heap.size w w' → Env0 w'
theorem Env.here {w : World} (h : Env w) : Env0 w := h w (Below.refl _ _)
theorem Env.on {w w' : World} (h : Env w) (hb : Below w.heap.size w w') : Env w' := fun w2 h2 => h w2 (hb.trans (h2.mono hb.size))

/-! ### cut -/
theorem index_stroke (l : List UInt8) : ((45 : UInt8) ∉ l ∧ Lib.index l [45] = -1) ∨ ∃ a b, l = a ++ 45 :: b ∧ (45 : UInt8) ∉ a ∧ Lib.index l [45] = (a.length : Int) := by
  induction l with
  | nil => exact .inl ⟨by simp, rfl⟩
  | cons c r ih =>
    by_cases hc : c = 45
    · subst hc
      exact .inr ⟨[], r, rfl, List.not_mem_nil, by unfold Lib.index; rw [if_pos (by simp [List.isPrefixOf])]; try rfl⟩
    · have hp : ([45] : List UInt8).isPrefixOf (c :: r) = false := by
        simp only [List.isPrefixOf, Bool.and_true, beq_eq_false_iff_ne, ne_eq]
        exact fun e => hc e.symm
      rcases ih with ⟨h1, h2⟩ | ⟨a, b, h1, h2, h3⟩
      · refine .inl ⟨by simp [h1, Ne.symm hc], ?_⟩
        unfold Lib.index
        rw [if_neg (by rw [hp]; simp), h2]
        rfl
      · refine .inr ⟨c :: a, b, by rw [h1]; rfl, by simp [h2, Ne.symm hc], ?_⟩
        unfold Lib.index
        rw [if_neg (by rw [hp]; simp), h3, if_neg (by simp <;> omega)]
        simp
theorem cut_at {a b : List UInt8} (h : (45 : UInt8) ∉ a) : Lib.cut (a ++ 45 :: b) [45] = (a, b, true) := by
  rcases index_stroke (a ++ 45 :: b) with ⟨h1, _⟩ | ⟨a', b', h1, h2, h3⟩
  · exact absurd (by simp) h1
  · have haa : splitD (a ++ 45 :: b) = splitD (a' ++ 45 :: b') := by rw [h1]
    rw [splitD_cut h, splitD_cut h2] at haa
    have h4 : a = a' := by injection haa
    subst h4
    unfold Lib.cut
    rw [h3, if_pos (by omega)]
    have e1 : ((a.length : Int)).toNat = a.length := by omega
    rw [e1, List.take_left]
    have e2 : (a ++ 45 :: b).drop (a.length + [(45 : UInt8)].length) = b := by
      rw [← List.drop_drop, List.drop_left]; rfl
    rw [e2]
theorem cut_none {l : List UInt8} (h : (45 : UInt8) ∉ l) : Lib.cut l [45] = (l, [], false) := by
  rcases index_stroke l with ⟨_, h2⟩ | ⟨a, b, h1, _, _⟩
  · unfold Lib.cut
    rw [h2, if_neg (by decide)]
  · exact absurd (by rw [h1]; simp) h
/-- A text: the part ahead of its first stroke, and what stands behind it. -/
theorem stroke_cases (l : List UInt8) : (45 : UInt8) ∉ l ∨ ∃ a b, l = a ++ 45 :: b ∧ (45 : UInt8) ∉ a := by
  rcases index_stroke l with ⟨h, _⟩ | ⟨a, b, h1, h2, _⟩
  · exact .inl h
  · exact .inr ⟨a, b, h1, h2⟩
theorem cut_yes (l a b : List UInt8) (w : World) (hE : Env w) (hl : l.length < 4294967281) (h : l = a ++ 45 :: b) (ha : (45 : UInt8) ∉ a) :
    Calls Tryd.prog 33 #[.string (txt l), .string ⟨#[45]⟩] w fun e w' => e = .returned (.tuple #[.string (txt a), .string (txt b), .bool true]) ∧ ∃ n, w' = w.drewN n := by
  obtain ⟨m, hm⟩ := hE.here.mx
  have hc := Tryd.strings_Cut (txt l) ⟨#[45]⟩ m w (by rw [txt_size]; exact hl) hm
  rw [txt_data, show (⟨#[45]⟩ : ByteArray).data.toList = [45] from rfl, h, cut_at ha] at hc
  subst h
  exact hc
theorem cut_not (l : List UInt8) (w : World) (hE : Env w) (hl : l.length < 4294967281) (h : (45 : UInt8) ∉ l) :
    Calls Tryd.prog 33 #[.string (txt l), .string ⟨#[45]⟩] w fun e w' => e = .returned (.tuple #[.string (txt l), .string (txt []), .bool false]) ∧ ∃ n, w' = w.drewN n := by
  obtain ⟨m, hm⟩ := hE.here.mx
  have hc := Tryd.strings_Cut (txt l) ⟨#[45]⟩ m w (by rw [txt_size]; exact hl) hm
  rw [txt_data, show (⟨#[45]⟩ : ByteArray).data.toList = [45] from rfl, cut_none h] at hc
  exact hc

/-! ### the number that digits are -/
/-- A number's answer. -/
def NumAns (l : List UInt8) (e : Ending) : Prop := match numOf l with
  | some u => e = .returned (.tuple #[.int .u64 (u : Int), .bool true])
  | none => ∃ x : Int, e = .returned (.tuple #[.int .u64 x, .bool false])
theorem below_bytesWorld (w : World) (t : TypeId) (s : ByteArray) : Below w.heap.size w (Lib.bytesWorld w t s) := Lib.bytesWorld_below _ _ _
theorem parseUint_ok (l : List UInt8) (u : Nat) (w : World) (hl : l.length < 4294967281) (hp : parseUintB 64 l = .ok u) :
    Calls Tryd.prog 43 #[.string (txt l), .int .i64 10, .int .i64 64] w fun e w' => e = .returned (.tuple #[.int .u64 (u : Int), .nilIface]) ∧ Below w.heap.size w w' := by
  refine (Tryd.strconv_ParseUint_10_at64_ok (txt l) (by rw [txt_size]; omega) u (by rw [txt_data]; exact hp) w).mono ?_
  rintro e w' ⟨rfl, rfl | rfl⟩
  · exact ⟨rfl, .refl _ _⟩
  · exact ⟨rfl, below_bytesWorld _ _ _⟩
theorem parseUint_bad (l : List UInt8) (w : World) (hE : Env w) (hl : l.length < 4294967281) (hp : ∀ u, parseUintB 64 l ≠ .ok u) :
    Calls Tryd.prog 43 #[.string (txt l), .int .i64 10, .int .i64 64] w fun e w' => (∃ (x : Int) (t : TypeId) (p : Value), e = .returned (.tuple #[.int .u64 x, .iface t p])) ∧ Below w.heap.size w w' := by
  cases hq : parseUintB 64 l with
  | ok u => exact absurd hq (hp u)
  | range =>
    obtain ⟨t, p, hv⟩ := hE.here.rng
    refine (Tryd.strconv_ParseUint_10_at64_range (txt l) (by rw [txt_size]; omega) (by rw [txt_data]; exact hq) _ w hv (.inr ⟨t, p, rfl⟩)).mono ?_
    rintro e w' ⟨N, rfl, _, _, hb⟩
    exact ⟨⟨_, _, _, rfl⟩, hb⟩
  | _ =>
    obtain ⟨t, p, hv⟩ := hE.here.syn
    refine (Tryd.strconv_ParseUint_10_at64_syntax (txt l) (by rw [txt_size]; omega) (by rw [txt_data, hq]; unfold Lib.parseUintB; exact (if_pos rfl).symm) _ w hv (.inr ⟨t, p, rfl⟩)).mono ?_
    rintro e w' ⟨N, rfl, _, _, hb⟩
    exact ⟨⟨_, _, _, rfl⟩, hb⟩
theorem txt_zero {l : List UInt8} (h : 0 < (txt l).size) : (txt l)[0].toNat = 48 ↔ l.head? = some 48 := by
  cases l with
  | nil => rw [txt_size] at h; simp at h
  | cons c r =>
    show c.toNat = 48 ↔ some c = some 48
    constructor
    · intro e
      have h1 : UInt8.ofNat c.toNat = c := UInt8.ofNat_toNat
      rw [e] at h1
      rw [← h1]; rfl
    · intro e
      injection e with e
      rw [e]; rfl
theorem numOf_lead {l : List UInt8} (h1 : 1 < l.length) (h2 : l.head? = some 48) : numOf l = none := if_pos ⟨h1, h2⟩
theorem numOf_ok {l : List UInt8} {u : Nat} (h : ¬ (1 < l.length ∧ l.head? = some 48)) (hp : parseUintB 64 l = .ok u) : numOf l = some u := by
  unfold numOf; rw [if_neg h, hp]
theorem numOf_bad {l : List UInt8} (hp : ∀ u, parseUintB 64 l ≠ .ok u) : numOf l = none := by
  unfold numOf
  split
  · rfl
  · split
    · rename_i u h; exact absurd h (hp u)
    · rfl
theorem NumAns.none {l : List UInt8} {x : Int} (h : numOf l = none) : NumAns l (.returned (.tuple #[.int .u64 x, .bool false])) := by
  unfold NumAns; rw [h]; exact ⟨_, rfl⟩
theorem NumAns.some {l : List UInt8} {u : Nat} (h : numOf l = some u) : NumAns l (.returned (.tuple #[.int .u64 (u : Int), .bool true])) := by
  unfold NumAns; rw [h]

theorem number_any (l : List UInt8) (w : World) (hE : Env w) (hl : l.length < 4294967281) :
    Calls Tryd.prog 34 #[.string (txt l)] w fun e w' => NumAns l e ∧ Below w.heap.size w w' := by
  by_cases hp : ∃ u, parseUintB 64 l = .ok u
  · obtain ⟨u, hp⟩ := hp
    have Hp := Lib.hid hp
    have Hl := Lib.hid hl
    clear hp hl
    go_enter Tryd.func34, Tryd.ntmps34
    go_wp2_with (go_at_call 43; refine (parseUint_ok l u _ Hl.out Hp.out).mono ?_; rintro e w1 ⟨rfl, hb⟩)
    · rename_i h1 h2 h3
      go_ret2
      have h4 : ((txt l)[0].toNat : Int) = 48 := by simpa using h3
      exact ⟨.none (numOf_lead (by rw [txt_size] at h1; omega) ((txt_zero h2).1 (by omega))), .refl _ _⟩
    · rename_i h1 h2 h3 _ _
      go_quiet (fail)
      go_wp2
      go_ret2
      have h4 : ¬ ((txt l)[0].toNat : Int) = 48 := by simpa using h3
      exact ⟨.some (numOf_ok (fun h => h4 (by have := (txt_zero h2).2 h.2; omega)) Hp.out), below_drewN hb _⟩
    · rename_i h1 _ _
      go_quiet (fail)
      go_wp2
      go_ret2
      exact ⟨.some (numOf_ok (fun h => by have := h.1; rw [txt_size] at h1; omega) Hp.out), below_drewN hb _⟩
  · have hp' : ∀ u, parseUintB 64 l ≠ .ok u := fun u h => hp ⟨u, h⟩
    have Hp := Lib.hid hp'
    have Hl := Lib.hid hl
    have HE := Lib.hid hE
    clear hp hp' hl hE
    go_enter Tryd.func34, Tryd.ntmps34
    go_wp2_with (go_at_call 43; refine (parseUint_bad l _ HE.out Hl.out Hp.out).mono ?_; rintro e w1 ⟨⟨x, t, p, rfl⟩, hb⟩)
    · go_ret2
      exact ⟨.none (numOf_bad Hp.out), .refl _ _⟩
    · go_quiet (fail)
      go_wp2
      go_ret2
      exact ⟨.none (numOf_bad Hp.out), below_drewN hb _⟩
    · go_quiet (fail)
      go_wp2
      go_ret2
      exact ⟨.none (numOf_bad Hp.out), below_drewN hb _⟩
end Go.Proofs.YtipmpebckfaknaaDoor
