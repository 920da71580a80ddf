/- The walks of New, Sync, Pending, Get. Conditions: names of at most 1000 bytes. -/
import Derived.Test.YtdnbflhpgfgnnaaDrB
namespace Go.Proofs.Ytdnbflhpgfgnnaa
open Go.RowKit Go.Maps

section
variable {w : World} {c : Nat → Nat} {i g : Nat} {s : St}
set_option maxHeartbeats 1000000 in
theorem new_any (w : World) : Calls Try.prog 9 #[] w fun e w' => e = .returned (.pointer (some ⟨w.heap.size, 0, none⟩)) ∧ w' = w.alloc (.cells #[.map none, .slice none 0 0] 59) := by
  go_enter Try.func9, Try.ntmps9
  go_wp2
  go_ret
  exact ⟨rfl, rfl⟩
theorem dir_new (w : World) (c : Nat → Nat) (i : Nat) : DirAt (w.alloc (.cells #[.map none, .slice none 0 0] 59)) (ext w c i) i w.heap.size St.new := by
  refine ⟨ext_new w c i (Nat.le_refl _), fun _ _ => rfl, .map none, .slice none 0 0, heap_alloc_new _ _, .inl ⟨rfl, rfl⟩, [], rfl, World.ownsRow_nil _ _ _ _, fun r h => (by cases h), fun p h => (by simp at h)⟩

set_option maxHeartbeats 1000000 in
theorem sync_any (h : DirAt w c i g s) : Calls Try.prog 13 #[.pointer (some ⟨g, 0, none⟩)] w fun e w' => e = .returned (.tuple #[]) ∧ Touch (Ow c i) w w' ∧ DirAt w' c i g s.sync := by
  obtain ⟨hcol, hne, mv, pv, hg, hm, hp⟩ := h
  have hc := (two_cells hg).2
  have hf := two_frozen (i := 1) hg
  have Hg := Lib.hid hg
  have Hm := Lib.hid hm
  have Hcol := Lib.hid hcol
  clear hg hm hp hcol hne
  go_enter Try.func13, Try.ntmps13
  go_wp2
  go_end0
  have ht := Touch.cell1 w g 1 (.slice none 0 0)
  have ht2 : Touch (Ow c i) w (w.setCell ⟨g, 1, none⟩ (.slice none 0 0)) := ht.mono fun b _ e => by show c b = i; rw [e]; exact Hcol.out
  refine ⟨rfl, ht2, Hcol.out, fun _ _ => rfl, mv, .slice none 0 0, two_set1 _ Hg.out, ?_, [], rfl, World.ownsRow_nil _ _ _ _, fun r h => (by cases h), fun p h => (by simp at h)⟩
  rcases Hm.out with h | ⟨b, hv, hb, ho⟩
  · exact .inl h
  · refine .inr ⟨b, hv, hb, owns_touch ho ht fun e => ?_⟩
    obtain ⟨es, clock, hh, _⟩ := ho
    rw [e, Hg.out] at hh
    cases hh
set_option maxHeartbeats 1000000 in
theorem syncNil_any (w : World) : Calls Try.prog 13 #[.pointer none] w fun e w' => e = .returned (.tuple #[]) ∧ w' = w := by
  go_enter Try.func13, Try.ntmps13
  go_wp2
  refine bodyPost_ret (results_none rfl _ _ _) rfl ?_
  exact ⟨rfl, rfl⟩
set_option maxHeartbeats 1000000 in
theorem pending_any (h : DirAt w c i g s) : Calls Try.prog 15 #[.pointer (some ⟨g, 0, none⟩)] w fun e w' => e = .returned (.int .i64 (s.ops.length : Int)) ∧ w' = w := by
  obtain ⟨hcol, hne, mv, pv, hg, hm, ps, hps, ho, hr, hp⟩ := h
  obtain ⟨A, n, rfl, _, _, _⟩ := own_form ho
  have hc := (two_cells hg).2
  have hl : ps.length = s.ops.length := by rw [← hps, List.length_map]
  rw [hl] at hc
  clear hg hm hp hcol hne hps ho hr hl
  go_enter Try.func15, Try.ntmps15
  go_wp2
  go_ret
  exact ⟨rfl, rfl⟩
set_option maxHeartbeats 1000000 in
theorem pendingNil_any (w : World) : Calls Try.prog 15 #[.pointer none] w fun e w' => e = .returned (.int .i64 0) ∧ w' = w := by
  go_enter Try.func15, Try.ntmps15
  go_wp2
  go_ret
  exact ⟨rfl, rfl⟩
set_option maxHeartbeats 1000000 in
theorem getNil_any (k : List UInt8) (w : World) : Calls Try.prog 21 #[.pointer none, .string (txt k)] w fun e w' => e = .returned (.tuple #[.int .i64 0, .bool false]) ∧ w' = w := by
  go_enter Try.func21, Try.ntmps21
  go_wp2
  go_ret2
  exact ⟨rfl, rfl⟩
set_option maxHeartbeats 1000000 in
theorem get_any (h : DirAt w c i g s) (k : List UInt8) (hk : k.length ≤ 1000) :
    Calls Try.prog 21 #[.pointer (some ⟨g, 0, none⟩), .string (txt k)] w fun e w' => e = .returned (.tuple #[.int .i64 ((getE s.now k).getD 0), .bool (hasE s.now k)]) ∧ w' = w := by
  obtain ⟨hcol, hne, mv, pv, hg, hm, hp⟩ := h
  have hc := (two_cells hg).1
  clear hg hp hcol hne
  rcases hm with ⟨rfl, hm⟩ | ⟨b, rfl, hb, ho⟩
  · have hl := Maps.look_nil (w := w) true law Try.underlying56 (Try.zeroValue3 w) (key_of (k := k) (by omega))
    simp only [if_true] at hl
    rw [hm]
    clear hm hk
    go_enter Try.func21, Try.ntmps21
    go_wp2
    go_ret2
    exact ⟨rfl, rfl⟩
  · have Ho := Lib.hid ho
    have Hk := Lib.hid hk
    clear ho hk hb
    go_enter Try.func21, Try.ntmps21
    go_wp2_with (at_lookup; refine wpList_lookup_own_ok_int _ rfl _ _ 56 rfl 9 3 .i64 law Try.underlying56 Try.underlying3 (Try.zeroValue3 _) b _ _ rfl Ho.out _ (.string k) rfl (key_of (by have := Hk.out; omega)) ?_; intro z hat hwz)
    go_ret2
    rw [mapD_at, mapD_has] at *
    have e : (getE s.now k).getD 0 = z := by injection hat with hat; injection hat
    rw [e]
    exact ⟨rfl, rfl⟩
end
end Go.Proofs.Ytdnbflhpgfgnnaa
