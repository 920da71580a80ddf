/- The walk of the stage's examples. Conditions: none. -/
import Derived.Test.YtdnbflhpgfgnnaaDrL
namespace Go.Proofs.Ytdnbflhpgfgnnaa
open Go.RowKit

section
variable {w0 w w' : World} {N k g : Nat} {L L' : List (Nat × St)} {R : List Rd} {s s' : St}
theorem add_at (h : Ds w0 w N L R) (k : Nat) (hk : L[k]? = some (g, s)) (hN : N ≤ 1000) (b : List UInt8) (n : Int) (hs : Sz (b, n)) (r : Int) (hr : s.add b n = (s', r)) (hL : L.set k (g, s') = L') :
    Calls Try.prog 22 #[.pointer (some ⟨g, 0, none⟩), .string (txt b), .int .i64 n] w fun e w' => e = .returned (.int .i64 r) ∧ Ds w0 w' (N + 1) L' R := by
  have h1 := add_ds h hk hN b n hs
  rw [hr] at h1
  rw [← hL]
  exact h1
theorem remove_at (h : Ds w0 w N L R) (k : Nat) (hk : L[k]? = some (g, s)) (hN : N ≤ 1000) (b : List UInt8) (hb : b.length ≤ 1000) (r q : Int) (hr : s.remove b = (s', r, q)) (hL : L.set k (g, s') = L') :
    Calls Try.prog 20 #[.pointer (some ⟨g, 0, none⟩), .string (txt b)] w fun e w' => e = .returned (.tuple #[.int .i64 r, .int .i64 q]) ∧ Ds w0 w' (N + 1) L' R := by
  have h1 := remove_ds h hk hN b hb
  rw [hr] at h1
  rw [← hL]
  exact h1
theorem sync_at (h : Ds w0 w N L R) (k : Nat) (hk : L[k]? = some (g, s)) (hr : s.sync = s') (hL : L.set k (g, s') = L') :
    Calls Try.prog 13 #[.pointer (some ⟨g, 0, none⟩)] w fun e w' => e = .returned (.tuple #[]) ∧ Ds w0 w' N L' R := by
  have h1 := sync_ds h hk
  rw [hr] at h1
  rw [← hL]
  exact h1
theorem fail_at (h : Ds w0 w N L R) (k : Nat) (hk : L[k]? = some (g, s)) (hN : N ≤ 1000) (z : Int) (hz1 : -9223372036854775808 ≤ z) (hz2 : z ≤ 9223372036854775807) (hr : s.fail z = s') (hL : L.set k (g, s') = L') :
    Calls Try.prog 18 #[.pointer (some ⟨g, 0, none⟩), .int .i64 z] w fun e w' => e = .returned (.tuple #[]) ∧ Ds w0 w' N L' R := by
  have h1 := fail_ds h hk hN z hz1 hz2
  rw [hr] at h1
  rw [← hL]
  exact h1
theorem pending_at (h : Ds w0 w N L R) (k : Nat) (hk : L[k]? = some (g, s)) (n : Nat) (hr : s.ops.length = n) :
    Calls Try.prog 15 #[.pointer (some ⟨g, 0, none⟩)] w fun e w' => e = .returned (.int .i64 (n : Int)) ∧ w' = w := by
  have h1 := pending_ds h hk
  rw [hr] at h1
  exact h1
theorem copy_at (h : Ds w0 w N L R) (k : Nat) (hk : L[k]? = some (g, s)) (hN : N ≤ 1000) :
    Calls Try.prog 17 #[.pointer (some ⟨g, 0, none⟩)] w fun e w' => ∃ g', e = .returned (.pointer (some ⟨g', 0, none⟩)) ∧ Ds w0 w' N (L ++ [(g', s)]) R := copy_ds h hk hN
/-- The names, as a list that reads so. -/
theorem list_at (h : Ds w0 w N L R) (k : Nat) (hk : L[k]? = some (g, s)) (hN : N ≤ 1000) (m : List En) (hm : s.now = m) (n : Nat) (hn : m.length = n) :
    Calls Try.prog 14 #[.pointer (some ⟨g, 0, none⟩)] w fun e w' => ∃ A c, e = .returned (.slice A n c) ∧ EnX w' (fun _ => False) A m ∧ Ds w0 w' N L (⟨2, A, n, ecells m⟩ :: R) := by
  subst hm
  subst hn
  refine (list_ds h hk hN).mono ?_
  rintro e w' ⟨A, c, rfl, ho, hb, hD⟩
  exact ⟨A, c, rfl, hD.reads (r := ⟨2, A, s.now.length, ecells s.now⟩) (by simp), hD⟩
end
/-- A literal row of entries. -/
theorem lit_en (w : World) (t : TypeId) (l : List En) (cs : Array Value) (hcs : (ecells l).toArray = cs) : EnX (w.alloc (.cells cs t)) (fun _ => False) (some ⟨w.heap.size, 0, none⟩) l := by
  refine ⟨ecells_len l, fun _ => ⟨_, rfl, by simp, fun e => e, fun j u hu => ?_⟩⟩
  rw [lit_add, Nat.zero_add, cell_of_row (w.alloc (.cells cs t)) w.heap.size j cs t (0, 0) (heap_alloc_new w _), ← hcs]
  simpa using hu
theorem wk1 : St.new.add [97] 1 = (⟨[], [⟨true, [97], 1⟩]⟩, 0) := by kernel_rfl
theorem wk2 : St.sync ⟨[], [⟨true, [97], 1⟩]⟩ = ⟨[([97], 1)], []⟩ := by kernel_rfl
theorem wk3 : St.add ⟨[([97], 1)], []⟩ [98] 2 = (⟨[([97], 1)], [⟨true, [98], 2⟩]⟩, 0) := by kernel_rfl
theorem wk4 : St.remove ⟨[([97], 1)], [⟨true, [98], 2⟩]⟩ [97] = (⟨[([97], 1)], [⟨true, [98], 2⟩, ⟨false, [97], 1⟩]⟩, 1, 0) := by kernel_rfl
theorem wk5 : St.fail ⟨[([97], 1)], [⟨true, [98], 2⟩, ⟨false, [97], 1⟩]⟩ 1 = ⟨[([97], 1), ([98], 2)], []⟩ := by kernel_rfl
theorem wk6 : St.fail ⟨[([97], 1)], [⟨true, [98], 2⟩, ⟨false, [97], 1⟩]⟩ 0 = ⟨[([97], 1)], []⟩ := by kernel_rfl
theorem wk7 : St.fail ⟨[([97], 1)], [⟨true, [98], 2⟩, ⟨false, [97], 1⟩]⟩ 2 = ⟨[([98], 2)], []⟩ := by kernel_rfl
theorem wk8 : St.remove ⟨[([97], 1)], [⟨true, [98], 2⟩, ⟨false, [97], 1⟩]⟩ [120] = (⟨[([97], 1)], [⟨true, [98], 2⟩, ⟨false, [97], 1⟩]⟩, 0, 80) := by kernel_rfl
theorem wk9 : St.add ⟨[([97], 1)], [⟨true, [98], 2⟩, ⟨false, [97], 1⟩]⟩ [98] 1 = (⟨[([97], 1)], [⟨true, [98], 2⟩, ⟨false, [97], 1⟩]⟩, 81) := by kernel_rfl
theorem wk10 : St.add ⟨[([97], 1)], [⟨true, [98], 2⟩, ⟨false, [97], 1⟩]⟩ [] 1 = (⟨[([97], 1)], [⟨true, [98], 2⟩, ⟨false, [97], 1⟩]⟩, 2) := by kernel_rfl
theorem sz1 : Sz ([97], 1) := ⟨by decide, by decide⟩
theorem sz2 : Sz ([98], 2) := ⟨by decide, by decide⟩
theorem sz3 : Sz ([98], 1) := ⟨by decide, by decide⟩
theorem sz4 : Sz ([], 1) := ⟨by decide, by decide⟩
set_option maxHeartbeats 4000000 in
set_option maxRecDepth 100000 in
theorem works_any (w : World) : Calls Try.prog 8 #[] w fun e w' => e = .returned (.bool true) ∧ Below w.heap.size w w' := by
  have t1 := Lib.hid True.intro
  have t2 := Lib.hid True.intro
  have t3 := Lib.hid True.intro
  have t4 := Lib.hid True.intro
  have t5 := Lib.hid True.intro
  have t6 := Lib.hid True.intro
  have t7 := Lib.hid True.intro
  have t8 := Lib.hid True.intro
  have t9 := Lib.hid True.intro
  have t10 := Lib.hid True.intro
  have t11 := Lib.hid True.intro
  have t12 := Lib.hid True.intro
  have t13 := Lib.hid True.intro
  have t14 := Lib.hid True.intro
  have t15 := Lib.hid True.intro
  have t16 := Lib.hid True.intro
  have t17 := Lib.hid True.intro
  have t18 := Lib.hid True.intro
  have t19 := Lib.hid True.intro
  have t20 := Lib.hid True.intro
  have t21 := Lib.hid True.intro
  have hD : Ds w w 0 [] [] := Ds.start w [] (by simp)
  go_enter Try.func8, Try.ntmps8
  go_upto_region 6 with (first
    | (go_at_call 9; clear t1; refine (new_ds hD).mono ?_; rintro e w1 ⟨g, rfl, hD⟩)
    | (go_at_call 22; clear t2; refine (add_at hD 0 rfl (by decide) [97] 1 sz1 0 wk1 rfl).mono ?_; rintro e w2 ⟨rfl, hD⟩)
    | (go_at_call 22; clear t3; refine (add_at hD 0 rfl (by decide) [98] 2 sz2 0 wk3 rfl).mono ?_; rintro e w3 ⟨rfl, hD⟩)
    | (go_at_call 13; clear t4; refine (sync_at hD 0 rfl wk2 rfl).mono ?_; rintro e w4 ⟨rfl, hD⟩)
    | (go_at_call 20; clear t5; refine (remove_at hD 0 rfl (by decide) [97] (by decide) 1 0 wk4 rfl).mono ?_; rintro e w5 ⟨rfl, hD⟩))
  go_upto_region 13 with (first
    | (go_at_call 15; clear t6; refine (pending_at hD 0 rfl 2 rfl).mono ?_; rintro e w6 ⟨rfl, rfl⟩)
    | (go_at_call 17; clear t7; refine (copy_at hD 0 rfl (by decide)).mono ?_; rintro e w71 ⟨g1, rfl, hD⟩)
    | (go_at_call 17; clear t8; refine (copy_at hD 0 rfl (by decide)).mono ?_; rintro e w72 ⟨g2, rfl, hD⟩)
    | (go_at_call 17; clear t9; refine (copy_at hD 0 rfl (by decide)).mono ?_; rintro e w73 ⟨g3, rfl, hD⟩)
    | (go_at_call 18; clear t10; refine (fail_at hD 1 rfl (by decide) 1 (by decide) (by decide) wk5 rfl).mono ?_; rintro e w8 ⟨rfl, hD⟩)
    | (go_at_call 18; clear t11; refine (fail_at hD 2 rfl (by decide) 0 (by decide) (by decide) wk6 rfl).mono ?_; rintro e w9 ⟨rfl, hD⟩)
    | (go_at_call 18; clear t12; refine (fail_at hD 3 rfl (by decide) 2 (by decide) (by decide) wk7 rfl).mono ?_; rintro e w10 ⟨rfl, hD⟩)
    | (go_at_call 20; clear t13; refine (remove_at hD 0 rfl (by decide) [120] (by decide) 0 80 wk8 rfl).mono ?_; rintro e w11 ⟨rfl, hD⟩))
  go_wp2_with (first
    | (go_at_call 14; clear t14; refine (list_at hD 1 rfl (by decide) [([97], 1), ([98], 2)] rfl 2 rfl).mono ?_; rintro e w12 ⟨A1, c1, rfl, hL, hD⟩)
    | (go_at_call 14; clear t15; refine (list_at hD 2 rfl (by decide) [([97], 1)] rfl 1 rfl).mono ?_; rintro e w13 ⟨A2, c2, rfl, hL, hD⟩)
    | (go_at_call 14; clear t16; refine (list_at hD 3 rfl (by decide) [([98], 2)] rfl 1 rfl).mono ?_; rintro e w14 ⟨A3, c3, rfl, hL, hD⟩)
    | (go_at_call 23; clear t17; refine (same_any (a := [([97], 1), ([98], 2)]) (b := [([97], 1), ([98], 2)]) rfl rfl (by decide) (by decide) (hL.below (below_new _ _)) (lit_en _ _ _ _ rfl)).mono ?_; rintro e w15 ⟨rfl, hb⟩; have hD := hD.below (below_then (below_new _ _) hb (Nat.le_refl _)))
    | (go_at_call 23; clear t18; refine (same_any (a := [([97], 1)]) (b := [([97], 1)]) rfl rfl (by decide) (by decide) (hL.below (below_new _ _)) (lit_en _ _ _ _ rfl)).mono ?_; rintro e w16 ⟨rfl, hb⟩; have hD := hD.below (below_then (below_new _ _) hb (Nat.le_refl _)))
    | (go_at_call 23; clear t19; refine (same_any (a := [([98], 2)]) (b := [([98], 2)]) rfl rfl (by decide) (by decide) (hL.below (below_new _ _)) (lit_en _ _ _ _ rfl)).mono ?_; rintro e w17 ⟨rfl, hb⟩; have hD := hD.below (below_then (below_new _ _) hb (Nat.le_refl _)))
    | (go_at_call 22; clear t20; refine (add_at hD 0 rfl (by decide) [98] 1 sz3 81 wk9 rfl).mono ?_; rintro e w18 ⟨rfl, hD⟩)
    | (go_at_call 22; clear t21; refine (add_at hD 0 rfl (by decide) [] 1 sz4 2 wk10 rfl).mono ?_; rintro e w19 ⟨rfl, hD⟩))
  go_ret
  exact ⟨rfl, hD.bel⟩
end Go.Proofs.Ytdnbflhpgfgnnaa
