/- A kind's name, and its letters, by the reference. Conditions: none. -/
import Derived.Test.YtfhcpjnjemojgaaKRcB
namespace Go.Proofs.Ytfhcpjnjemojgaa
open Go.RowKit Go.Lib

theorem wordOf_big {k : Nat} (h : 11 < k) : wordOf k = [] := wordOf_no (by unfold isK; rw [decide_eq_false_iff_not]; omega)
theorem lettersOf_big {k : Nat} (h : 11 < k) : lettersOf k = [] := by unfold lettersOf; rw [parts_no (by unfold isK; rw [decide_eq_false_iff_not]; omega)]; rfl
def wordStrs : List Value := [.string (txt []), .string (txt [103, 114, 97, 110, 116]), .string (txt [114, 101, 110, 101, 119]), .string (txt [114, 101, 108, 101, 97, 115, 101]), .string (txt [99, 111, 109, 109, 105, 116]), .string (txt [112, 105, 110]), .string (txt [117, 110, 112, 105, 110]), .string (txt [115, 101, 97, 108]), .string (txt [99, 111, 109, 112, 97, 99, 116]), .string (txt [98, 105, 110, 100]), .string (txt [117, 110, 98, 105, 110, 100]), .string (txt [114, 101, 110, 97, 109, 101])]
def letterStrs : List Value := [.string (txt []), .string (txt [101, 117]), .string (txt [101, 117]), .string (txt [101]), .string (txt [101, 118, 115, 99]), .string (txt [118, 117]), .string (txt [118]), .string (txt []), .string (txt [107]), .string (txt [110]), .string (txt [110]), .string (txt [110, 116])]
theorem str_cell (w : World) {l : List Value} {k : Nat} {v : Value} (h : l[k]? = some v) (t : TypeId) : (w.alloc (.cells l.toArray t)).cell? ⟨w.heap.size, k, none⟩ = some v := by
  have := cell_of_row (w.alloc (.cells l.toArray t)) w.heap.size k l.toArray t (0, 0) (heap_alloc_new _ _)
  rw [this]
  simpa using h
section
variable {b : Act} {w : World} {o : Oper}
theorem exec_loadT {x : Operand} {a : Addr} {v : Value} (ho : o.op = .load 9 x) (h : b.eval x = .pointer (some a)) (h1 : w.cell? a = some v) : (execOp b.eval o).run Try.prog w = .ok (.value v) w := by
  unfold execOp
  simp only [ho, h]
  go_simp
end
set_option maxHeartbeats 4000000 in
set_option maxRecDepth 100000 in
theorem refWord_any (k : Nat) (w : World) : Calls Try.prog 17 #[.int .u8 (k : Int)] w fun e w' => e = .returned (.string (txt (wordOf k))) ∧ Below w.heap.size w w' := by
  by_cases hk : k ≤ 11
  · obtain rfl | rfl | rfl | rfl | rfl | rfl | rfl | rfl | rfl | rfl | rfl | rfl : k = 0 ∨ k = 1 ∨ k = 2 ∨ k = 3 ∨ k = 4 ∨ k = 5 ∨ k = 6 ∨ k = 7 ∨ k = 8 ∨ k = 9 ∨ k = 10 ∨ k = 11 := by omega
    · go_enter Try.func17, Try.ntmps17
      go_upto_region 3 with fail
      refine wp_region_lit (wpList_run (v := .slice (some ⟨w.heap.size, 0, none⟩) 12 12) (w' := w.alloc (.cells wordStrs.toArray 9)) rfl (by kernel_rfl) ?_)
      refine wpList_run rfl (exec_move rfl rfl) (wpList_run (v := .pointer (some ⟨w.heap.size, 0, none⟩)) (w' := w.alloc (.cells wordStrs.toArray 9)) rfl (by kernel_rfl) ?_)
      refine wpList_run (v := wordStrs[0]?.getD undef) rfl (exec_loadT (a := ⟨w.heap.size, 0, none⟩) rfl (by kernel_rfl) (str_cell w (l := wordStrs) rfl _)) (wpList_run (v := wordStrs[0]?.getD undef) rfl (exec_assign rfl (by kernel_rfl)) ?_)
      go_frame
      go_wp2_with fail
      go_ret
      exact ⟨rfl, below_new _ _⟩
    · go_enter Try.func17, Try.ntmps17
      go_upto_region 3 with fail
      refine wp_region_lit (wpList_run (v := .slice (some ⟨w.heap.size, 0, none⟩) 12 12) (w' := w.alloc (.cells wordStrs.toArray 9)) rfl (by kernel_rfl) ?_)
      refine wpList_run rfl (exec_move rfl rfl) (wpList_run (v := .pointer (some ⟨w.heap.size, 1, none⟩)) (w' := w.alloc (.cells wordStrs.toArray 9)) rfl (by kernel_rfl) ?_)
      refine wpList_run (v := wordStrs[1]?.getD undef) rfl (exec_loadT (a := ⟨w.heap.size, 1, none⟩) rfl (by kernel_rfl) (str_cell w (l := wordStrs) rfl _)) (wpList_run (v := wordStrs[1]?.getD undef) rfl (exec_assign rfl (by kernel_rfl)) ?_)
      go_frame
      go_wp2_with fail
      go_ret
      exact ⟨rfl, below_new _ _⟩
    · go_enter Try.func17, Try.ntmps17
      go_upto_region 3 with fail
      refine wp_region_lit (wpList_run (v := .slice (some ⟨w.heap.size, 0, none⟩) 12 12) (w' := w.alloc (.cells wordStrs.toArray 9)) rfl (by kernel_rfl) ?_)
      refine wpList_run rfl (exec_move rfl rfl) (wpList_run (v := .pointer (some ⟨w.heap.size, 2, none⟩)) (w' := w.alloc (.cells wordStrs.toArray 9)) rfl (by kernel_rfl) ?_)
      refine wpList_run (v := wordStrs[2]?.getD undef) rfl (exec_loadT (a := ⟨w.heap.size, 2, none⟩) rfl (by kernel_rfl) (str_cell w (l := wordStrs) rfl _)) (wpList_run (v := wordStrs[2]?.getD undef) rfl (exec_assign rfl (by kernel_rfl)) ?_)
      go_frame
      go_wp2_with fail
      go_ret
      exact ⟨rfl, below_new _ _⟩
    · go_enter Try.func17, Try.ntmps17
      go_upto_region 3 with fail
      refine wp_region_lit (wpList_run (v := .slice (some ⟨w.heap.size, 0, none⟩) 12 12) (w' := w.alloc (.cells wordStrs.toArray 9)) rfl (by kernel_rfl) ?_)
      refine wpList_run rfl (exec_move rfl rfl) (wpList_run (v := .pointer (some ⟨w.heap.size, 3, none⟩)) (w' := w.alloc (.cells wordStrs.toArray 9)) rfl (by kernel_rfl) ?_)
      refine wpList_run (v := wordStrs[3]?.getD undef) rfl (exec_loadT (a := ⟨w.heap.size, 3, none⟩) rfl (by kernel_rfl) (str_cell w (l := wordStrs) rfl _)) (wpList_run (v := wordStrs[3]?.getD undef) rfl (exec_assign rfl (by kernel_rfl)) ?_)
      go_frame
      go_wp2_with fail
      go_ret
      exact ⟨rfl, below_new _ _⟩
    · go_enter Try.func17, Try.ntmps17
      go_upto_region 3 with fail
      refine wp_region_lit (wpList_run (v := .slice (some ⟨w.heap.size, 0, none⟩) 12 12) (w' := w.alloc (.cells wordStrs.toArray 9)) rfl (by kernel_rfl) ?_)
      refine wpList_run rfl (exec_move rfl rfl) (wpList_run (v := .pointer (some ⟨w.heap.size, 4, none⟩)) (w' := w.alloc (.cells wordStrs.toArray 9)) rfl (by kernel_rfl) ?_)
      refine wpList_run (v := wordStrs[4]?.getD undef) rfl (exec_loadT (a := ⟨w.heap.size, 4, none⟩) rfl (by kernel_rfl) (str_cell w (l := wordStrs) rfl _)) (wpList_run (v := wordStrs[4]?.getD undef) rfl (exec_assign rfl (by kernel_rfl)) ?_)
      go_frame
      go_wp2_with fail
      go_ret
      exact ⟨rfl, below_new _ _⟩
    · go_enter Try.func17, Try.ntmps17
      go_upto_region 3 with fail
      refine wp_region_lit (wpList_run (v := .slice (some ⟨w.heap.size, 0, none⟩) 12 12) (w' := w.alloc (.cells wordStrs.toArray 9)) rfl (by kernel_rfl) ?_)
      refine wpList_run rfl (exec_move rfl rfl) (wpList_run (v := .pointer (some ⟨w.heap.size, 5, none⟩)) (w' := w.alloc (.cells wordStrs.toArray 9)) rfl (by kernel_rfl) ?_)
      refine wpList_run (v := wordStrs[5]?.getD undef) rfl (exec_loadT (a := ⟨w.heap.size, 5, none⟩) rfl (by kernel_rfl) (str_cell w (l := wordStrs) rfl _)) (wpList_run (v := wordStrs[5]?.getD undef) rfl (exec_assign rfl (by kernel_rfl)) ?_)
      go_frame
      go_wp2_with fail
      go_ret
      exact ⟨rfl, below_new _ _⟩
    · go_enter Try.func17, Try.ntmps17
      go_upto_region 3 with fail
      refine wp_region_lit (wpList_run (v := .slice (some ⟨w.heap.size, 0, none⟩) 12 12) (w' := w.alloc (.cells wordStrs.toArray 9)) rfl (by kernel_rfl) ?_)
      refine wpList_run rfl (exec_move rfl rfl) (wpList_run (v := .pointer (some ⟨w.heap.size, 6, none⟩)) (w' := w.alloc (.cells wordStrs.toArray 9)) rfl (by kernel_rfl) ?_)
      refine wpList_run (v := wordStrs[6]?.getD undef) rfl (exec_loadT (a := ⟨w.heap.size, 6, none⟩) rfl (by kernel_rfl) (str_cell w (l := wordStrs) rfl _)) (wpList_run (v := wordStrs[6]?.getD undef) rfl (exec_assign rfl (by kernel_rfl)) ?_)
      go_frame
      go_wp2_with fail
      go_ret
      exact ⟨rfl, below_new _ _⟩
    · go_enter Try.func17, Try.ntmps17
      go_upto_region 3 with fail
      refine wp_region_lit (wpList_run (v := .slice (some ⟨w.heap.size, 0, none⟩) 12 12) (w' := w.alloc (.cells wordStrs.toArray 9)) rfl (by kernel_rfl) ?_)
      refine wpList_run rfl (exec_move rfl rfl) (wpList_run (v := .pointer (some ⟨w.heap.size, 7, none⟩)) (w' := w.alloc (.cells wordStrs.toArray 9)) rfl (by kernel_rfl) ?_)
      refine wpList_run (v := wordStrs[7]?.getD undef) rfl (exec_loadT (a := ⟨w.heap.size, 7, none⟩) rfl (by kernel_rfl) (str_cell w (l := wordStrs) rfl _)) (wpList_run (v := wordStrs[7]?.getD undef) rfl (exec_assign rfl (by kernel_rfl)) ?_)
      go_frame
      go_wp2_with fail
      go_ret
      exact ⟨rfl, below_new _ _⟩
    · go_enter Try.func17, Try.ntmps17
      go_upto_region 3 with fail
      refine wp_region_lit (wpList_run (v := .slice (some ⟨w.heap.size, 0, none⟩) 12 12) (w' := w.alloc (.cells wordStrs.toArray 9)) rfl (by kernel_rfl) ?_)
      refine wpList_run rfl (exec_move rfl rfl) (wpList_run (v := .pointer (some ⟨w.heap.size, 8, none⟩)) (w' := w.alloc (.cells wordStrs.toArray 9)) rfl (by kernel_rfl) ?_)
      refine wpList_run (v := wordStrs[8]?.getD undef) rfl (exec_loadT (a := ⟨w.heap.size, 8, none⟩) rfl (by kernel_rfl) (str_cell w (l := wordStrs) rfl _)) (wpList_run (v := wordStrs[8]?.getD undef) rfl (exec_assign rfl (by kernel_rfl)) ?_)
      go_frame
      go_wp2_with fail
      go_ret
      exact ⟨rfl, below_new _ _⟩
    · go_enter Try.func17, Try.ntmps17
      go_upto_region 3 with fail
      refine wp_region_lit (wpList_run (v := .slice (some ⟨w.heap.size, 0, none⟩) 12 12) (w' := w.alloc (.cells wordStrs.toArray 9)) rfl (by kernel_rfl) ?_)
      refine wpList_run rfl (exec_move rfl rfl) (wpList_run (v := .pointer (some ⟨w.heap.size, 9, none⟩)) (w' := w.alloc (.cells wordStrs.toArray 9)) rfl (by kernel_rfl) ?_)
      refine wpList_run (v := wordStrs[9]?.getD undef) rfl (exec_loadT (a := ⟨w.heap.size, 9, none⟩) rfl (by kernel_rfl) (str_cell w (l := wordStrs) rfl _)) (wpList_run (v := wordStrs[9]?.getD undef) rfl (exec_assign rfl (by kernel_rfl)) ?_)
      go_frame
      go_wp2_with fail
      go_ret
      exact ⟨rfl, below_new _ _⟩
    · go_enter Try.func17, Try.ntmps17
      go_upto_region 3 with fail
      refine wp_region_lit (wpList_run (v := .slice (some ⟨w.heap.size, 0, none⟩) 12 12) (w' := w.alloc (.cells wordStrs.toArray 9)) rfl (by kernel_rfl) ?_)
      refine wpList_run rfl (exec_move rfl rfl) (wpList_run (v := .pointer (some ⟨w.heap.size, 10, none⟩)) (w' := w.alloc (.cells wordStrs.toArray 9)) rfl (by kernel_rfl) ?_)
      refine wpList_run (v := wordStrs[10]?.getD undef) rfl (exec_loadT (a := ⟨w.heap.size, 10, none⟩) rfl (by kernel_rfl) (str_cell w (l := wordStrs) rfl _)) (wpList_run (v := wordStrs[10]?.getD undef) rfl (exec_assign rfl (by kernel_rfl)) ?_)
      go_frame
      go_wp2_with fail
      go_ret
      exact ⟨rfl, below_new _ _⟩
    · go_enter Try.func17, Try.ntmps17
      go_upto_region 3 with fail
      refine wp_region_lit (wpList_run (v := .slice (some ⟨w.heap.size, 0, none⟩) 12 12) (w' := w.alloc (.cells wordStrs.toArray 9)) rfl (by kernel_rfl) ?_)
      refine wpList_run rfl (exec_move rfl rfl) (wpList_run (v := .pointer (some ⟨w.heap.size, 11, none⟩)) (w' := w.alloc (.cells wordStrs.toArray 9)) rfl (by kernel_rfl) ?_)
      refine wpList_run (v := wordStrs[11]?.getD undef) rfl (exec_loadT (a := ⟨w.heap.size, 11, none⟩) rfl (by kernel_rfl) (str_cell w (l := wordStrs) rfl _)) (wpList_run (v := wordStrs[11]?.getD undef) rfl (exec_assign rfl (by kernel_rfl)) ?_)
      go_frame
      go_wp2_with fail
      go_ret
      exact ⟨rfl, below_new _ _⟩
  · rw [wordOf_big (by omega)]
    have hk' : 11 < (k : Int) := by omega
    go_enter Try.func17, Try.ntmps17
    go_wp2
    go_ret
    exact ⟨rfl, Below.refl _ _⟩
set_option maxHeartbeats 4000000 in
set_option maxRecDepth 100000 in
theorem parts_any (k : Nat) (w : World) : Calls Try.prog 24 #[.int .u8 (k : Int)] w fun e w' => e = .returned (.string (txt (lettersOf k))) ∧ Below w.heap.size w w' := by
  by_cases hk : k ≤ 11
  · obtain rfl | rfl | rfl | rfl | rfl | rfl | rfl | rfl | rfl | rfl | rfl | rfl : k = 0 ∨ k = 1 ∨ k = 2 ∨ k = 3 ∨ k = 4 ∨ k = 5 ∨ k = 6 ∨ k = 7 ∨ k = 8 ∨ k = 9 ∨ k = 10 ∨ k = 11 := by omega
    · go_enter Try.func24, Try.ntmps24
      go_upto_region 3 with fail
      refine wp_region_lit (wpList_run (v := .slice (some ⟨w.heap.size, 0, none⟩) 12 12) (w' := w.alloc (.cells letterStrs.toArray 9)) rfl (by kernel_rfl) ?_)
      refine wpList_run rfl (exec_move rfl rfl) (wpList_run (v := .pointer (some ⟨w.heap.size, 0, none⟩)) (w' := w.alloc (.cells letterStrs.toArray 9)) rfl (by kernel_rfl) ?_)
      refine wpList_run (v := letterStrs[0]?.getD undef) rfl (exec_loadT (a := ⟨w.heap.size, 0, none⟩) rfl (by kernel_rfl) (str_cell w (l := letterStrs) rfl _)) (wpList_run (v := letterStrs[0]?.getD undef) rfl (exec_assign rfl (by kernel_rfl)) ?_)
      go_frame
      go_wp2_with fail
      go_ret
      exact ⟨rfl, below_new _ _⟩
    · go_enter Try.func24, Try.ntmps24
      go_upto_region 3 with fail
      refine wp_region_lit (wpList_run (v := .slice (some ⟨w.heap.size, 0, none⟩) 12 12) (w' := w.alloc (.cells letterStrs.toArray 9)) rfl (by kernel_rfl) ?_)
      refine wpList_run rfl (exec_move rfl rfl) (wpList_run (v := .pointer (some ⟨w.heap.size, 1, none⟩)) (w' := w.alloc (.cells letterStrs.toArray 9)) rfl (by kernel_rfl) ?_)
      refine wpList_run (v := letterStrs[1]?.getD undef) rfl (exec_loadT (a := ⟨w.heap.size, 1, none⟩) rfl (by kernel_rfl) (str_cell w (l := letterStrs) rfl _)) (wpList_run (v := letterStrs[1]?.getD undef) rfl (exec_assign rfl (by kernel_rfl)) ?_)
      go_frame
      go_wp2_with fail
      go_ret
      exact ⟨rfl, below_new _ _⟩
    · go_enter Try.func24, Try.ntmps24
      go_upto_region 3 with fail
      refine wp_region_lit (wpList_run (v := .slice (some ⟨w.heap.size, 0, none⟩) 12 12) (w' := w.alloc (.cells letterStrs.toArray 9)) rfl (by kernel_rfl) ?_)
      refine wpList_run rfl (exec_move rfl rfl) (wpList_run (v := .pointer (some ⟨w.heap.size, 2, none⟩)) (w' := w.alloc (.cells letterStrs.toArray 9)) rfl (by kernel_rfl) ?_)
      refine wpList_run (v := letterStrs[2]?.getD undef) rfl (exec_loadT (a := ⟨w.heap.size, 2, none⟩) rfl (by kernel_rfl) (str_cell w (l := letterStrs) rfl _)) (wpList_run (v := letterStrs[2]?.getD undef) rfl (exec_assign rfl (by kernel_rfl)) ?_)
      go_frame
      go_wp2_with fail
      go_ret
      exact ⟨rfl, below_new _ _⟩
    · go_enter Try.func24, Try.ntmps24
      go_upto_region 3 with fail
      refine wp_region_lit (wpList_run (v := .slice (some ⟨w.heap.size, 0, none⟩) 12 12) (w' := w.alloc (.cells letterStrs.toArray 9)) rfl (by kernel_rfl) ?_)
      refine wpList_run rfl (exec_move rfl rfl) (wpList_run (v := .pointer (some ⟨w.heap.size, 3, none⟩)) (w' := w.alloc (.cells letterStrs.toArray 9)) rfl (by kernel_rfl) ?_)
      refine wpList_run (v := letterStrs[3]?.getD undef) rfl (exec_loadT (a := ⟨w.heap.size, 3, none⟩) rfl (by kernel_rfl) (str_cell w (l := letterStrs) rfl _)) (wpList_run (v := letterStrs[3]?.getD undef) rfl (exec_assign rfl (by kernel_rfl)) ?_)
      go_frame
      go_wp2_with fail
      go_ret
      exact ⟨rfl, below_new _ _⟩
    · go_enter Try.func24, Try.ntmps24
      go_upto_region 3 with fail
      refine wp_region_lit (wpList_run (v := .slice (some ⟨w.heap.size, 0, none⟩) 12 12) (w' := w.alloc (.cells letterStrs.toArray 9)) rfl (by kernel_rfl) ?_)
      refine wpList_run rfl (exec_move rfl rfl) (wpList_run (v := .pointer (some ⟨w.heap.size, 4, none⟩)) (w' := w.alloc (.cells letterStrs.toArray 9)) rfl (by kernel_rfl) ?_)
      refine wpList_run (v := letterStrs[4]?.getD undef) rfl (exec_loadT (a := ⟨w.heap.size, 4, none⟩) rfl (by kernel_rfl) (str_cell w (l := letterStrs) rfl _)) (wpList_run (v := letterStrs[4]?.getD undef) rfl (exec_assign rfl (by kernel_rfl)) ?_)
      go_frame
      go_wp2_with fail
      go_ret
      exact ⟨rfl, below_new _ _⟩
    · go_enter Try.func24, Try.ntmps24
      go_upto_region 3 with fail
      refine wp_region_lit (wpList_run (v := .slice (some ⟨w.heap.size, 0, none⟩) 12 12) (w' := w.alloc (.cells letterStrs.toArray 9)) rfl (by kernel_rfl) ?_)
      refine wpList_run rfl (exec_move rfl rfl) (wpList_run (v := .pointer (some ⟨w.heap.size, 5, none⟩)) (w' := w.alloc (.cells letterStrs.toArray 9)) rfl (by kernel_rfl) ?_)
      refine wpList_run (v := letterStrs[5]?.getD undef) rfl (exec_loadT (a := ⟨w.heap.size, 5, none⟩) rfl (by kernel_rfl) (str_cell w (l := letterStrs) rfl _)) (wpList_run (v := letterStrs[5]?.getD undef) rfl (exec_assign rfl (by kernel_rfl)) ?_)
      go_frame
      go_wp2_with fail
      go_ret
      exact ⟨rfl, below_new _ _⟩
    · go_enter Try.func24, Try.ntmps24
      go_upto_region 3 with fail
      refine wp_region_lit (wpList_run (v := .slice (some ⟨w.heap.size, 0, none⟩) 12 12) (w' := w.alloc (.cells letterStrs.toArray 9)) rfl (by kernel_rfl) ?_)
      refine wpList_run rfl (exec_move rfl rfl) (wpList_run (v := .pointer (some ⟨w.heap.size, 6, none⟩)) (w' := w.alloc (.cells letterStrs.toArray 9)) rfl (by kernel_rfl) ?_)
      refine wpList_run (v := letterStrs[6]?.getD undef) rfl (exec_loadT (a := ⟨w.heap.size, 6, none⟩) rfl (by kernel_rfl) (str_cell w (l := letterStrs) rfl _)) (wpList_run (v := letterStrs[6]?.getD undef) rfl (exec_assign rfl (by kernel_rfl)) ?_)
      go_frame
      go_wp2_with fail
      go_ret
      exact ⟨rfl, below_new _ _⟩
    · go_enter Try.func24, Try.ntmps24
      go_upto_region 3 with fail
      refine wp_region_lit (wpList_run (v := .slice (some ⟨w.heap.size, 0, none⟩) 12 12) (w' := w.alloc (.cells letterStrs.toArray 9)) rfl (by kernel_rfl) ?_)
      refine wpList_run rfl (exec_move rfl rfl) (wpList_run (v := .pointer (some ⟨w.heap.size, 7, none⟩)) (w' := w.alloc (.cells letterStrs.toArray 9)) rfl (by kernel_rfl) ?_)
      refine wpList_run (v := letterStrs[7]?.getD undef) rfl (exec_loadT (a := ⟨w.heap.size, 7, none⟩) rfl (by kernel_rfl) (str_cell w (l := letterStrs) rfl _)) (wpList_run (v := letterStrs[7]?.getD undef) rfl (exec_assign rfl (by kernel_rfl)) ?_)
      go_frame
      go_wp2_with fail
      go_ret
      exact ⟨rfl, below_new _ _⟩
    · go_enter Try.func24, Try.ntmps24
      go_upto_region 3 with fail
      refine wp_region_lit (wpList_run (v := .slice (some ⟨w.heap.size, 0, none⟩) 12 12) (w' := w.alloc (.cells letterStrs.toArray 9)) rfl (by kernel_rfl) ?_)
      refine wpList_run rfl (exec_move rfl rfl) (wpList_run (v := .pointer (some ⟨w.heap.size, 8, none⟩)) (w' := w.alloc (.cells letterStrs.toArray 9)) rfl (by kernel_rfl) ?_)
      refine wpList_run (v := letterStrs[8]?.getD undef) rfl (exec_loadT (a := ⟨w.heap.size, 8, none⟩) rfl (by kernel_rfl) (str_cell w (l := letterStrs) rfl _)) (wpList_run (v := letterStrs[8]?.getD undef) rfl (exec_assign rfl (by kernel_rfl)) ?_)
      go_frame
      go_wp2_with fail
      go_ret
      exact ⟨rfl, below_new _ _⟩
    · go_enter Try.func24, Try.ntmps24
      go_upto_region 3 with fail
      refine wp_region_lit (wpList_run (v := .slice (some ⟨w.heap.size, 0, none⟩) 12 12) (w' := w.alloc (.cells letterStrs.toArray 9)) rfl (by kernel_rfl) ?_)
      refine wpList_run rfl (exec_move rfl rfl) (wpList_run (v := .pointer (some ⟨w.heap.size, 9, none⟩)) (w' := w.alloc (.cells letterStrs.toArray 9)) rfl (by kernel_rfl) ?_)
      refine wpList_run (v := letterStrs[9]?.getD undef) rfl (exec_loadT (a := ⟨w.heap.size, 9, none⟩) rfl (by kernel_rfl) (str_cell w (l := letterStrs) rfl _)) (wpList_run (v := letterStrs[9]?.getD undef) rfl (exec_assign rfl (by kernel_rfl)) ?_)
      go_frame
      go_wp2_with fail
      go_ret
      exact ⟨rfl, below_new _ _⟩
    · go_enter Try.func24, Try.ntmps24
      go_upto_region 3 with fail
      refine wp_region_lit (wpList_run (v := .slice (some ⟨w.heap.size, 0, none⟩) 12 12) (w' := w.alloc (.cells letterStrs.toArray 9)) rfl (by kernel_rfl) ?_)
      refine wpList_run rfl (exec_move rfl rfl) (wpList_run (v := .pointer (some ⟨w.heap.size, 10, none⟩)) (w' := w.alloc (.cells letterStrs.toArray 9)) rfl (by kernel_rfl) ?_)
      refine wpList_run (v := letterStrs[10]?.getD undef) rfl (exec_loadT (a := ⟨w.heap.size, 10, none⟩) rfl (by kernel_rfl) (str_cell w (l := letterStrs) rfl _)) (wpList_run (v := letterStrs[10]?.getD undef) rfl (exec_assign rfl (by kernel_rfl)) ?_)
      go_frame
      go_wp2_with fail
      go_ret
      exact ⟨rfl, below_new _ _⟩
    · go_enter Try.func24, Try.ntmps24
      go_upto_region 3 with fail
      refine wp_region_lit (wpList_run (v := .slice (some ⟨w.heap.size, 0, none⟩) 12 12) (w' := w.alloc (.cells letterStrs.toArray 9)) rfl (by kernel_rfl) ?_)
      refine wpList_run rfl (exec_move rfl rfl) (wpList_run (v := .pointer (some ⟨w.heap.size, 11, none⟩)) (w' := w.alloc (.cells letterStrs.toArray 9)) rfl (by kernel_rfl) ?_)
      refine wpList_run (v := letterStrs[11]?.getD undef) rfl (exec_loadT (a := ⟨w.heap.size, 11, none⟩) rfl (by kernel_rfl) (str_cell w (l := letterStrs) rfl _)) (wpList_run (v := letterStrs[11]?.getD undef) rfl (exec_assign rfl (by kernel_rfl)) ?_)
      go_frame
      go_wp2_with fail
      go_ret
      exact ⟨rfl, below_new _ _⟩
  · rw [lettersOf_big (by omega)]
    have hk' : 11 < (k : Int) := by omega
    go_enter Try.func24, Try.ntmps24
    go_wp2
    go_ret
    exact ⟨rfl, Below.refl _ _⟩
end Go.Proofs.Ytfhcpjnjemojgaa
