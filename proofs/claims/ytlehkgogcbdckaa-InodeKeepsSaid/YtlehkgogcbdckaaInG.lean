/- The walks of numbers and All. Conditions: at most 1000 files. -/
import Derived.Test.YtlehkgogcbdckaaInF
import Derived.Test.YtlehkgogcbdckaaInShelf
import Derived.TacticsInMore
namespace Go.Proofs.Ytlehkgogcbdckaa
open Go.RowKit Go.Maps Go.Sort

theorem own_base {base base' size n : Nat} {w : World} {e : TypeId} {v : Value} {xs : List Value} (h : w.ownsRow base' e size v n xs) (hb : base ≤ base') : w.ownsRow base e size v n xs := by
  refine ⟨h.1, ?_⟩
  rcases h.2 with hn | ⟨g, cap, cur, rfl, hg, rest⟩
  · exact .inl hn
  · exact .inr ⟨g, cap, cur, rfl, Nat.le_trans hb hg, rest⟩
theorem sorts_in (m : Nat) : AnyZI.SortsIn Try.prog Try.laysSorted_ren Fence.wide m :=
  ⟨fun blk off cap ss W hH hblk hsz => callsIn_wide.2 (AnyM.slices_Sort_int Try.laysSort blk off cap ss W hH hblk hsz),
   fun p cap W => callsIn_wide.2 (AnyM.slices_Sort_int_none Try.laysSort p cap W)⟩
theorem keys_in (mb : Option Nat) (W : World) : CallsIn Fence.wide 5 Try.prog 39 #[.map mb] W fun e w' => e = .returned (.func (.func 59) #[] #[.pointer (some ⟨W.heap.size, 0, none⟩)]) ∧ w' = W.alloc (.cells #[.map mb] 51) := AnyZI.keys_in Try.laysKeys Fence.wide 5 trivial rfl mb W
theorem numbers_nil (w : World) : Calls Try.prog 27 #[.pointer none] w fun e w' => e = .returned (.slice none 0 0) ∧ w' = w := by
  go_enter Try.func27, Try.ntmps27
  go_wp2
  go_ret
  exact ⟨rfl, rfl⟩
section
variable {w : World} {Z : Nat → Prop} {t N : Nat} {T : Tb}
/-- The files' numbers, as cells. -/
def numC (fs : List Fi) : List Value := (fs.map Fi.i).map (Value.int .i64)
theorem sorted_nums {fs : List Fi} {ss : List Int} (hs : fs.Pairwise fun a b => a.i < b.i) (h : ss.Perm (fs.map Fi.i)) : (ss.mergeSort fun x y => decide (x ≤ y)) = fs.map Fi.i := by
  rw [show (fun x y : Int => decide (x ≤ y)) = leI from rfl, mergeSort_of_perm_i h]
  refine List.mergeSort_of_pairwise ?_
  rw [List.pairwise_map]
  exact hs.imp fun h => by simp only [leI, decide_eq_true_eq]; omega
set_option maxHeartbeats 2000000 in
set_option maxRecDepth 100000 in
theorem numbers_any (h : TabAt w Z t T) (hok : T.Ok N) (hN : N ≤ 1000) :
    Calls Try.prog 27 #[.pointer (some ⟨t, 0, none⟩)] w fun e w' => ∃ v, e = .returned v ∧ w'.ownsRow w.heap.size 3 1 v T.fs.length (numC T.fs) ∧ Below w.heap.size w w' := by
  obtain ⟨c0, c1, c2⟩ := h.cells
  have Hs := Lib.hid hok.sort
  have hlen : T.fs.length ≤ 1000 := Nat.le_trans hok.len hN
  have hfK : Fence.wide.fn 39 := trivial
  have hfS : Fence.wide.fn 38 := trivial
  refine (callsIn_wide (n := 6)).1 ?_
  obtain ⟨mp, hmp⟩ : ∃ mp, T.mp = mp := ⟨_, rfl⟩
  rw [hmp] at c2
  cases mp with
  | none =>
    have hnil : T.fs = [] := h.non hmp
    have hseq : SeqGives Fence.wide 2 Try.prog 59 #[.pointer (some ⟨w.heap.size, 0, none⟩)] encZ (fun ss : List Int => ss = []) 0 (w.alloc (.cells #[.map none] 51)) :=
      AnyZI.keys_gives_nil (ρ := Try.laysKeys_ren) { Try.laysKeys with } Fence.wide _ trivial rfl w.heap.size _ (by simp) (by simp)
    have cS := AnyZI.sorted_in Try.laysSorted Fence.wide 5 trivial trivial trivial trivial rfl (by omega) (sorts_in _) (enters_of Try.func58 (by kernel_rfl) rfl) 59 #[.pointer (some ⟨w.heap.size, 0, none⟩)] trivial (enters_of Try.func59 (by kernel_rfl) rfl) _ 0 (Nat.zero_le _) (by omega) _ hseq
    change CallsIn _ _ Try.prog 38 _ _ _ at cS
    have HcS := Lib.hid cS
    have Hnil := Lib.hid hnil
    clear h hok hseq cS hmp hnil
    refine callsIn_of_wp Try.func27 rfl trivial ?_ rfl
    simp only [Try.ntmps27, List.size_toArray, List.length_cons, List.length_nil, Nat.reduceAdd, Nat.reduceSub, Array.replicate_succ, Array.replicate_zero, List.push_toArray, List.append_toArray, List.nil_append, List.cons_append]
    gi_wp2_with (first
      | (gi_at_call 39; refine (keys_in _ _).mono ?_; rintro e w' ⟨rfl, rfl⟩)
      | (gi_at_call 38; refine HcS.out.mono ?_; rintro e w' ⟨v, ss, rfl, rfl, hrow, hnil, hb⟩; obtain rfl : v = .slice none 0 0 := hnil.2 rfl))
    go_ret
    refine ⟨_, rfl, ?_, (below_new _ _).trans (hb.mono (by simp))⟩
    rw [Hnil.out]
    exact World.ownsRow_nil _ _ _ _
  | some b =>
    have hown := h.map b hmp
    have hbl := hown.lt
    have hsz := datum_size T.fs
    have hseq : SeqGives Fence.wide 2 Try.prog 59 #[.pointer (some ⟨w.heap.size, 0, none⟩)] encZ (fun ss => ss.Perm (intKeys (datum T.fs))) (Maps.size (datum T.fs)) (w.alloc (.cells #[.map (some b)] 51)) :=
      AnyZI.keys_gives (ρ := Try.laysKeys_ren) { Try.laysKeys with } Fence.wide _ trivial rfl (by omega) w.heap.size b T.fs.length (datum T.fs) _ (by simp) (by simp) (by
        obtain ⟨es, clock, hb, Ft, hs, hD⟩ := hown
        exact ⟨es, clock, (Below.heap_alloc _ _ b hbl).trans hb, Ft, hs, hD⟩)
    have cS := AnyZI.sorted_in Try.laysSorted Fence.wide 5 trivial trivial trivial trivial rfl (by omega) (sorts_in _) (enters_of Try.func58 (by kernel_rfl) rfl) 59 #[.pointer (some ⟨w.heap.size, 0, none⟩)] trivial (enters_of Try.func59 (by kernel_rfl) rfl) _ _ (by rw [hsz]; simp only [maxLen]; omega) (by rw [hsz]; omega) _ hseq
    change CallsIn _ _ Try.prog 38 _ _ _ at cS
    have HcS := Lib.hid cS
    clear h hok hseq cS hmp hown hsz hbl
    refine callsIn_of_wp Try.func27 rfl trivial ?_ rfl
    simp only [Try.ntmps27, List.size_toArray, List.length_cons, List.length_nil, Nat.reduceAdd, Nat.reduceSub, Array.replicate_succ, Array.replicate_zero, List.push_toArray, List.append_toArray, List.nil_append, List.cons_append]
    gi_wp2_with (first
      | (gi_at_call 39; refine (keys_in _ _).mono ?_; rintro e w' ⟨rfl, rfl⟩)
      | (gi_at_call 38; refine HcS.out.mono ?_; rintro e w' ⟨v, ss, rfl, hS, hrow, hnil, hb⟩))
    go_ret
    refine ⟨_, rfl, ?_, (below_new _ _).trans (hb.mono (by simp))⟩
    rw [datum_keys] at hS
    have hl : ss.length = T.fs.length := by rw [hS.length_eq, List.length_map]
    rw [sorted_nums Hs.out hS, hl] at hrow
    exact own_base hrow (by simp)
end
end Go.Proofs.Ytlehkgogcbdckaa
