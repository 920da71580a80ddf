/- The walk of the chapter's examples (works): they hold. Conditions: none. -/
import Derived.Test.YtfhcpjnjemojgaaKCrcF
import Derived.Lib.SlBytesConst
namespace Go.Proofs.Ytfhcpjnjemojgaa
open Go.RowKit

theorem sumOne (W : World) (N : Nat) (hN : W.heap.size = N) (A : Option Addr) (c n B : Nat) (l : List UInt8) (hn : l.length = n) (hl : l.length ≤ 140737488351232) (hB : B ≤ N) (hr : RdB W B A l) (z : Int) (hz : ((sum l).toNat : Int) = z) :
    Calls Try.prog 57 #[.slice (some ⟨N, 0, none⟩) 1 1] (W.alloc (.cells #[.slice A n c] 27)) fun e w' => e = .returned (.int .u32 z) ∧ Below N W w' ∧ N + 1 ≤ w'.heap.size := by
  subst hn hz hN
  have h := sum_any (some ⟨W.heap.size, 0, none⟩) 1 (W.heap.size + 1) [⟨A, c, l⟩] (W.alloc (.cells #[.slice A l.length c] 27)) (by simp) (by intro r hr; simp only [List.mem_singleton] at hr; subst hr; exact hl) (by simp) (RdR.new W B [⟨A, c, l⟩] 27 hB (by intro r hr'; simp only [List.mem_singleton] at hr'; subst hr'; exact hr))
  refine h.mono ?_
  rintro e w' ⟨rfl, hb⟩
  exact ⟨congrArg (fun l => Ending.returned (rv (sum l))) (by simp [bytes]), ((Below.refl _ _).alloc (Nat.le_refl _) _).trans (hb.mono (by simp)), by have := hb.size; simpa using this⟩
theorem reads_marked (W : World) {xs : List Value} {l : List UInt8} (hx : xs = bs l) (fr : Nat × Nat) : RdB (W.alloc (.cells xs.toArray 5 fr)) (W.heap.size + 1) (some ⟨W.heap.size, 0, none⟩) l := by
  subst hx
  refine ⟨by rw [bs_len]; omega, fun _ => ⟨_, rfl, by simp, fun j u hu => ?_⟩⟩
  have hadd : (⟨W.heap.size, 0, none⟩ : Addr).add j = ⟨W.heap.size, j, none⟩ := by unfold Addr.add; split <;> simp_all
  rw [hadd, cell_of_row (W.alloc (.cells (bs l).toArray 5 fr)) W.heap.size j (bs l).toArray _ fr (heap_alloc_new W _)]
  simpa using hu
theorem sum_digits : ((sum [49, 50, 51, 52, 53, 54, 55, 56, 57]).toNat : Int) = 3808858755 := by decide +kernel
theorem sum_noughts : ((sum (noughts 32)).toNat : Int) = 2324772522 := by decide +kernel
theorem sum_ones : ((sum (List.replicate 32 255)).toNat : Int) = 1655221059 := by decide +kernel
theorem tab_1 : ((tab 1).toNat : Int) = 4067132163 := by decide +kernel
theorem tab_128 : ((tab 128).toNat : Int) = 2197175160 := by decide +kernel
theorem RdR.nil (w : World) (B : Nat) : RdR w B none [] := ⟨Reads.none_, by simp⟩
theorem sumNil (w : World) : Calls Try.prog 57 #[.slice none 0 0] w fun e w' => e = .returned (.int .u32 0) ∧ Below w.heap.size w w' :=
  (sum_any none 0 0 [] w (by simp) (by simp) (by omega) (RdR.nil w 0)).mono fun _ _ ⟨he, hb⟩ => ⟨he, hb⟩

end Go.Proofs.Ytfhcpjnjemojgaa
