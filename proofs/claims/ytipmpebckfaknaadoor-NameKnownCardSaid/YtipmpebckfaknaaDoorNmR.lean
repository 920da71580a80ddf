/- A Name's text, as the code makes it. Conditions: parts that fit. -/
import Derived.Test.YtipmpebckfaknaaDoorNmQ
import Derived.Test.YtipmpebckfaknaaDoorNmM
namespace Go.Proofs.YtipmpebckfaknaaDoor
open Go.RowKit Go.Lib

theorem rmay_any (x : Nm) (w : World) : Calls Tryd.prog 11 #[x.v] w fun e w' => e = .returned (.bool (mayOf x)) ∧ Below w.heap.size w w' := by
  unfold Nm.v
  go_enter Tryd.func11, Tryd.ntmps11
  go_wp2_with (go_at_call 27; refine (rnum_any x _).mono ?_; rintro e w' ⟨A, c, rfl, _, hb⟩)
  go_ret
  exact ⟨rfl, (below_new w _).trans (hb.mono (by simp))⟩
def zeroS : Array Value := #[.string (txt []), .int .i64 0]
section
variable {b : Act} {w : World} {o : Oper}
theorem exec_idxS {k : Nat} {x : Operand} (hk : k < 5) (ho : o.op = .indexAddr 59 (.global 0) x) (h : b.eval x = .int .u8 (k : Int)) : (execOp b.eval o).run Tryd.prog w = .ok (.value (.pointer (some ⟨0, k * 2, none⟩))) w := by
  have hk' : (k : Int) < 5 := by omega
  unfold execOp
  simp only [ho, h]
  go_simp
theorem exec_allocS (ho : o.op = .alloc 58) : (execOp b.eval o).run Tryd.prog w = .ok (.value (.pointer (some ⟨w.heap.size, 0, none⟩))) (w.alloc (.cells zeroS 58)) := by
  unfold execOp
  simp only [ho]
  go_simp
  rfl
theorem exec_alloc4 (ho : o.op = .alloc 53) : (execOp b.eval o).run Tryd.prog w = .ok (.value (.pointer (some ⟨w.heap.size, 0, none⟩))) (w.alloc (.cells (cells4 []) 53)) := by
  unfold execOp
  simp only [ho]
  go_simp
  rfl
end
theorem may_kind {x : Nm} (h : mayOf x = true) : x.k = 1 ∨ x.k = 2 ∨ x.k = 3 ∨ x.k = 4 := by
  unfold mayOf at h
  split at h
  · omega
  · split at h
    · omega
    · split at h
      · omega
      · cases h
theorem shape_cells {x : Nm} (h : mayOf x = true) : shapeCells[x.k * 2]? = some (.string (txt (letterOf x.k))) ∧ shapeCells[x.k * 2 + 1]? = some (.int .i64 ((numsOf x).length : Int)) := by
  obtain ⟨k, d, n, p, i, c⟩ := x
  rcases may_kind h with h | h | h | h <;> (simp only at h; subst h; exact ⟨rfl, rfl⟩)
theorem fourOf_cells (x : Nm) : fourOf x = .agg (cells4 (numsOf x)) := by
  unfold fourOf numsOf
  split
  · rfl
  · split
    · rfl
    · split
      · rfl
      · rfl
def PutF (x : Nm) (g B : Nat) : Nat → Value → World → Prop
  | 0, v, _ => v = .pointer (some ⟨g, 0, none⟩)
  | 1, v, _ => v = .int .u8 (x.k : Int)
  | 2, v, _ => v = .pointer (some ⟨0, x.k * 2, none⟩)
  | 3, v, _ => v = .agg #[.string (txt (letterOf x.k)), .int .i64 ((numsOf x).length : Int)]
  | 4, v, _ => v = x.v
  | 5, v, _ => v = fourOf x
  | 6, v, w => ∃ r, v = .pointer (some ⟨r, 0, none⟩) ∧ w.heap[r]? = some (.cells zeroS 58 (0, 0)) ∧ B ≤ r
  | 7, v, w => ∃ r, v = .pointer (some ⟨r, 0, none⟩) ∧ w.heap[r]? = some (.cells (cells4 []) 53 (0, 0)) ∧ B ≤ r
  | _, _, _ => True
theorem PutF.keep {x : Nm} {g B : Nat} (j : Nat) (u : Value) (w w' : World) (hb : Below w.heap.size w w') (hfact : PutF x g B j u w) : PutF x g B j u w' :=
  match j, hfact with
  | 0, h => h
  | 1, h => h
  | 2, h => h
  | 3, h => h
  | 4, h => h
  | 5, h => h
  | 6, h => let ⟨r, e, hr, hB⟩ := h; ⟨r, e, (hb.block r (Array.getElem?_eq_some_iff.1 hr).1).trans hr, hB⟩
  | 7, h => let ⟨r, e, hr, hB⟩ := h; ⟨r, e, (hb.block r (Array.getElem?_eq_some_iff.1 hr).1).trans hr, hB⟩
  | _ + 8, h => h
def PutC (W : World) (x : Nm) (g : Nat) (w : World) : Prop := Below W.heap.size W w ∧ BoxNm x w ⟨g, 0, none⟩ ∧ Env w
theorem PutC.keep {W : World} {x : Nm} {g : Nat} (w w' : World) (hb : Below w.heap.size w w') (hc : PutC W x g w) : PutC W x g w' := ⟨hc.1.trans (hb.mono hc.1.size), hc.2.1.keep hb, hc.2.2.on hb⟩
theorem four_one (a b c d : Int) : (#[.int .u64 a, .int .u64 b, .int .u64 c, .int .u64 d] : Array Value).all (·.oneCell') = true := by simp [int_one]
theorem shape_one (s : ByteArray) (a : Int) : (#[.string s, .int .i64 a] : Array Value).all (·.oneCell') = true := by simp [int_one, show (Value.string s).oneCell' = true from rfl]
theorem size_shape : (Tryd.prog.info? 58).map (·.size) = some 2 := by kernel_rfl
theorem letter_le (k : Nat) : (letterOf k).length ≤ 1 := by
  unfold letterOf
  repeat' split
  all_goals simp
theorem cells4_get {ns : List Nat} {k u : Nat} (h : ns[k]? = some u) (hk : k < 4) : (cells4 ns)[k]? = some (.int .u64 (u : Int)) := by
  have hd : ns.getD k 0 = u := by rw [List.getD_eq_getElem?_getD, h]; rfl
  subst hd
  match k, hk with
  | 0, _ => rfl
  | 1, _ => rfl
  | 2, _ => rfl
  | 3, _ => rfl
theorem flat_le : ∀ (us : List Nat), (∀ u ∈ us, u < 18446744073709551616) → (us.flatMap (fun u => 45 :: decDigits u)).length ≤ 21 * us.length
  | [], _ => by simp
  | u :: r, h => by
    have h1 := flat_le r (fun v hv => h v (by simp [hv]))
    have h2 := decDigits_le (h u (by simp))
    rw [List.flatMap_cons, List.length_append, List.length_cons, List.length_cons]
    omega
theorem put_le {x : Nm} {L : List UInt8} {k : Nat} (hx : x.Ok) (hL : L.length ≤ 1) (_hk : k ≤ 4) : (L ++ ((numsOf x).take k).flatMap (fun u => 45 :: decDigits u)).length ≤ 90 := by
  have h1 := flat_le ((numsOf x).take k) (fun u hu => numsOf_ok hx u (List.mem_of_mem_take hu))
  have h2 : ((numsOf x).take k).length ≤ 4 := Nat.le_trans (by rw [List.length_take]; omega) (nums_le x)
  rw [List.length_append]
  omega
theorem heap_ne {w : World} {r q : Nat} {c c' : Array Value} {t t' : TypeId} {f f' : Nat × Nat} (h : w.heap[r]? = some (.cells c t f)) (h' : w.heap[q]? = some (.cells c' t' f')) (ht : t ≠ t') : r ≠ q := by
  rintro rfl
  rw [h] at h'
  injection h' with h'
  injection h' with _ h2 _
  exact ht h2

set_option maxHeartbeats 4000000 in
set_option maxRecDepth 100000 in
theorem put_any (x : Nm) (hx : x.Ok) (w : World) (hE : Env w) : Calls Tryd.prog 12 #[x.v] w fun e w' => e = .returned (.string (txt (putOf x))) ∧ Below w.heap.size w w' := by
  obtain ⟨W0, hW⟩ : ∃ W, Hid (W = w.alloc (.cells #[.int .u8 (x.k : Int), .int .u64 (x.d : Int), .int .u64 (x.n : Int), .int .u64 (x.p : Int), .int .u64 (x.i : Int), .int .u64 (x.c : Int)] 24)) := ⟨_, rfl⟩
  have HB : Hid (BoxNm x W0 ⟨w.heap.size, 0, none⟩) := by rw [hW.out]; exact boxNm_new x w _
  have HG : Hid (Below w.heap.size w W0) := by rw [hW.out]; exact below_new _ _
  have hlt0 : w.heap.size < W0.heap.size := by rw [hW.out]; simp
  have Hlt := Lib.hid hlt0
  clear hlt0
  have HE := Lib.hid hE
  have Hx := Lib.hid hx
  clear hE hx
  by_cases hm : mayOf x = true
  · have hmc : ∀ w', Calls Tryd.prog 10 #[x.v] w' fun e w2 => e = .returned (.bool true) ∧ Below w'.heap.size w' w2 := by
      intro w'
      have := may_any x w'
      rw [hm] at this
      exact this
    have Hmc := Lib.hid hmc
    have Hm := Lib.hid hm
    clear hm hmc
    have Hk5 : Hid (x.k < 5) := by have := may_kind Hm.out; exact (by omega : x.k < 5)
    have Hs0 : Hid (shapeCells[x.k * 2]? = some (.string (txt (letterOf x.k)))) := (shape_cells Hm.out).1
    have Hs1 : Hid (shapeCells[x.k * 2 + 1]? = some (.int .i64 ((numsOf x).length : Int))) := (shape_cells Hm.out).2
    have x0 : W0.cell? ⟨w.heap.size, 0, none⟩ = _ := HB.out.c0
    have x1 : W0.cell? ⟨w.heap.size, 1, none⟩ = _ := HB.out.c1
    have x2 : W0.cell? ⟨w.heap.size, 2, none⟩ = _ := HB.out.c2
    have x3 : W0.cell? ⟨w.heap.size, 3, none⟩ = _ := HB.out.c3
    have x4 : W0.cell? ⟨w.heap.size, 4, none⟩ = _ := HB.out.c4
    have x5 : W0.cell? ⟨w.heap.size, 5, none⟩ = _ := HB.out.c5
    unfold Nm.v
    go_enter Tryd.func12, Tryd.ntmps12
    go_upto_region 1 with fail
    rw [← hW.out]
    go_upto_region 3 with (go_at_call 10; refine (Hmc.out _).mono ?_; rintro e W ⟨rfl, hb1⟩)
    have HBW := Lib.hid (HB.out.keep hb1)
    have HG1 := Lib.hid (HG.out.trans (hb1.mono HG.out.size))
    have Hlt1 := Lib.hid (Nat.lt_of_lt_of_le Hlt.out hb1.size)
    clear x0 x1 x2 x3 x4 x5 hb1
    go_cut [3, 4] from 3 to 16 (fun s t wx => ∃ r q, s = .pointer (some ⟨r, 0, none⟩) ∧ t = .pointer (some ⟨q, 0, none⟩) ∧ wx.heap[r]? = some (.cells #[.string (txt (letterOf x.k)), .int .i64 ((numsOf x).length : Int)] 58 (0, 0)) ∧ wx.heap[q]? = some (.cells (cells4 (numsOf x)) 53 (0, 0)) ∧ Below W.heap.size W wx)
    case first =>
      rename_i J K1 hJ hK
      refine wp_region_tail (n := 36) (m := 8) (PutF x w.heap.size W.heap.size) (PutC W x w.heap.size) (by kernel_rfl) (by kernel_rfl) rfl rfl (by decide) (by kernel_rfl) ?_ ?_ ?_
      · exact ⟨(Below.refl _ _).drew, HBW.out.keep (Below.refl _ _).drew, (HE.out.on HG1.out).on (Below.refl _ _).drew⟩
      · skip
        refine OpsOk.cons _ _ (OpOk.run _ _ PutF.keep PutC.keep fun b v hs hc hg => ⟨rfl, _, _, exec_fieldN 0 (by decide) rfl (hs 1 (by kernel_rfl)), .refl _ _, rfl⟩) ?_
        refine OpsOk.cons _ _ (OpOk.run _ _ PutF.keep PutC.keep fun b v hs hc hg => ⟨rfl, _, _, exec_load8 rfl (dep hg 0 rfl rfl rfl rfl) (hc.2.1).c0, .refl _ _, rfl⟩) ?_
        refine OpsOk.cons _ _ (OpOk.run _ _ PutF.keep PutC.keep fun b v hs hc hg => ⟨rfl, _, _, exec_idxS Hk5.out rfl (dep hg 0 rfl rfl rfl rfl), .refl _ _, rfl⟩) ?_
        refine OpsOk.cons _ _ (OpOk.run _ _ PutF.keep PutC.keep fun b v hs hc hg => ⟨rfl, _, _, exec_loadS rfl (dep hg 0 rfl rfl rfl rfl) (hc.2.2.here.shp _ _ Hs0.out) (hc.2.2.here.shp _ _ Hs1.out), .refl _ _, rfl⟩) ?_
        refine OpsOk.cons _ _ (OpOk.run _ _ PutF.keep PutC.keep fun b v hs hc hg => ⟨rfl, _, _, exec_loadN rfl (hs 1 (by kernel_rfl)) hc.2.1, .refl _ _, rfl⟩) ?_
        refine OpsOk.cons _ _ (OpOk.call _ _ PutF.keep PutC.keep fun b v hs hc hg => ⟨rfl, _, _, exec_call1 (enter_numbers _) rfl (dep hg 0 rfl rfl rfl rfl), ans_q (numbers_any x v)⟩) ?_
        refine OpsOk.cons _ _ (OpOk.run _ _ PutF.keep PutC.keep fun b v hs hc hg => ⟨rfl, _, _, exec_allocS rfl, below_new _ _, ⟨_, rfl, heap_alloc_new v _, hc.1.size⟩⟩) ?_
        refine OpsOk.cons _ _ (OpOk.run _ _ PutF.keep PutC.keep fun b v hs hc hg => ⟨rfl, _, _, exec_alloc4 rfl, below_new _ _, ⟨_, rfl, heap_alloc_new v _, hc.1.size⟩⟩) ?_
        exact OpsOk.nil _ _
      · intro b' w' hsz hd hs hc hall
        obtain ⟨r, e3, hr, hB⟩ := (hall 6 _ _ (by decide) rfl rfl : PutF _ _ _ 6 _ _)
        obtain ⟨q, e4, hq, hB'⟩ := (hall 7 _ _ (by decide) rfl rfl : PutF _ _ _ 7 _ _)
        have e14 : b'.tmps.getD 14 undef = .agg #[.string (txt (letterOf x.k)), .int .i64 ((numsOf x).length : Int)] := hall 3 _ _ (by decide) rfl rfl
        have e16 : b'.tmps.getD 16 undef = .agg (cells4 (numsOf x)) := by rw [← fourOf_cells]; exact hall 5 _ _ (by decide) rfl rfl
        have hne : r ≠ q := heap_ne hr hq (by decide)
        refine wpList_store_row rfl 58 (.tmp 3) (.tmp 14) rfl r _ e3 e14 _ _ hr size_shape rfl (shape_one _ _) ?_
        have hq2 := (setRow_other w' r q #[.string (txt (letterOf x.k)), .int .i64 ((numsOf x).length : Int)] (Ne.symm hne)).trans hq
        refine wpList_store_row rfl 53 (.tmp 4) (.tmp 16) rfl q (cells4 (numsOf x)) e4 e16 _ _ hq2 size_four rfl (four_one _ _ _ _) ?_
        refine hK _ _ (Met.intro (hJ _ _ ?_))
        exact ⟨b'.tmps.getD 3 undef, b'.tmps.getD 4 undef, undef, undef, undef, x.v, .bool true, .bool false, b'.tmps.getD 11 undef, b'.tmps.getD 12 undef, b'.tmps.getD 13 undef, b'.tmps.getD 14 undef, b'.tmps.getD 15 undef, b'.tmps.getD 16 undef, ⟨r, q, e3, e4, (setRow_other _ q r _ hne).trans (setRow_heap _ _ _ _ _ _ hr), setRow_heap _ _ _ _ _ _ hq2, below_setRow' (below_setRow' hc.1 hB _) hB' _⟩, (act_known hsz hd hs).trans (by kernel_rfl)⟩
    obtain ⟨r, q, rfl, rfl, hr, hq, hb⟩ := hcut
    have r0 : wc.cell? ⟨r, 0, none⟩ = some (.string (txt (letterOf x.k))) := cell_of_row wc _ 0 _ _ _ hr
    have r1 : wc.cell? ⟨r, 1, none⟩ = some (.int .i64 ((numsOf x).length : Int)) := cell_of_row wc _ 1 _ _ _ hr
    have HQ := Lib.hid hq
    have HR := Lib.hid hr
    have HBw := Lib.hid (HG1.out.trans (hb.mono HG1.out.size))
    obtain ⟨L, hL⟩ : ∃ L, Hid (letterOf x.k = L) := ⟨_, rfl⟩
    obtain ⟨M, hM⟩ : ∃ M, Hid ((numsOf x).length = M) := ⟨_, rfl⟩
    have hL1 : Hid (L.length ≤ 1) := by rw [← hL.out]; exact letter_le x.k
    have hM4 : M ≤ 4 := by rw [← hM.out]; exact nums_le x
    obtain ⟨v5, w5, hcv, hown5, hb5⟩ := conv_own wc wc.heap.size L (Nat.le_refl _) (by have := hL1.out; omega)
    rw [hL.out] at r0
    have r1' : w5.cell? ⟨r, 1, none⟩ = some (.int .i64 (M : Int)) := by
      rw [← hM.out]
      exact (hb5.cell (p := ⟨r, 1, none⟩) (Array.getElem?_eq_some_iff.1 HR.out).1).trans r1
    have hal : Tryd.prog.arrayLen 53 = 4 := by kernel_rfl
    have hsl : ∀ W, (Instr.sliceAt 53 (.pointer (some ⟨q, 0, none⟩)) none (some (.int .i64 (M : Int))) none).run Tryd.prog W = .ok (.slice (some ⟨q, 0, none⟩) M 4) W := fun W => by
      rw [run_sliceAt_array_h W 53 ⟨q, 0, none⟩ (by simp [Program.arrayLen, Program.elem, Tryd.underlying53]) .i64 (M : Int) (by omega) (by rw [hal]; omega)]
      go_simp
    have HO5 := Lib.hid hown5
    have HB5 := Lib.hid hb5
    have hc0 : ∀ (k u : Nat), (numsOf x)[k]? = some u → wc.cell? ⟨q, k, none⟩ = some (.int .u64 (u : Int)) := fun k u hu => by
      rw [cell_of_row wc q k _ _ _ HQ.out]
      exact cells4_get hu (Nat.lt_of_lt_of_le (List.getElem?_eq_some_iff.1 hu).1 (nums_le x))
    have HC := Lib.hid hc0
    have hqlt := (Array.getElem?_eq_some_iff.1 HQ.out).1
    have HQlt := Lib.hid hqlt
    clear hr hq hb HBW r1 hown5 hb5 hal hc0 hqlt HQ HR
    go_upto_region 5 with fail
    clear hcv r0
    go_wp2
    go_loopw [5, 24] (fun v i wr => ∃ k : Nat, k ≤ M ∧ i = .int .i64 (k : Int) ∧ OwnM wr wc.heap.size v (L ++ ((numsOf x).take k).flatMap (fun u => 45 :: decDigits u)) ∧ Below wc.heap.size wc wr) (fun _ i _ => M - (Lib.intOf i).toNat)
    case atStart => exact ⟨0, Nat.zero_le _, rfl, by simpa using HO5.out, HB5.out⟩
    case round =>
      obtain ⟨k, hk, rfl, hown, hbr⟩ := hrel
      have Hbr := Lib.hid hbr
      have Hown := Lib.hid hown
      clear hbr hown hsl
      obtain ⟨T, hT⟩ : ∃ T, Hid (L ++ ((numsOf x).take k).flatMap (fun u => 45 :: decDigits u) = T) := ⟨_, rfl⟩
      rw [hT.out] at Hown
      have hTl : Hid (T.length ≤ 90) := by rw [← hT.out]; exact put_le Hx.out hL1.out (by omega)
      by_cases hlt : k < M
      · obtain ⟨u, hu⟩ : ∃ u, (numsOf x)[k]? = some u := ⟨_, List.getElem?_eq_getElem (by rw [hM.out]; exact hlt)⟩
        have Hu := Lib.hid hu
        have hcu : wr.cell? ⟨q, k, none⟩ = some (.int .u64 (u : Int)) := (Hbr.out.cell (p := ⟨q, k, none⟩) HQlt.out).trans (HC.out k u hu)
        have Hu64 : Hid (u < 18446744073709551616) := numsOf_ok Hx.out u (List.mem_of_getElem? hu)
        have Hnext : Hid (L ++ ((numsOf x).take (k + 1)).flatMap (fun u => 45 :: decDigits u) = (T ++ [45]) ++ decDigits u) := by
          rw [← hT.out, take_snoc Hu, List.flatMap_append, List.flatMap_singleton]
          simp [Hid]
        clear hu
        have HEr : Hid (Env wr) := HE.out.on (HBw.out.trans (Hbr.out.mono HBw.out.size))
        go_wp2_with (first
          | (at_builtin; refine wpList_appendM (.tmp 28) (.const _) rfl rfl rfl rfl (append_strM (m := [45]) _ Hown.out Hbr.out.size (by have := hTl.out; simp; omega)) ?_; intro v1 w1 hown1 hb1)
          | (go_at_call 28; refine (appendUint_any wc.heap.size v1 (T ++ [45]) u w1 Hu64.out (HE.out.on (HBw.out.trans ((Hbr.out.trans hb1).mono HBw.out.size))) (by have := hTl.out; simp; omega) (Nat.le_trans Hbr.out.size hb1.size) hown1).mono ?_; rintro e w2 ⟨v2, rfl, hown2, hb2⟩))
        go_roundw
        case rel => exact ⟨k + 1, by omega, by go_num, by rw [Hnext.out]; exact hown2, (Hbr.out.trans hb1).trans hb2⟩
        case measure => simp [Lib.intOf]; omega
      · obtain rfl : k = M := by omega
        obtain ⟨A, c, rfl, hR⟩ := Hown.out.reads
        have hst := run_text_any hR c
        have Hput : Hid (putOf x = T) := by
          rw [← hT.out, ← hL.out]
          unfold putOf
          rw [if_pos Hm.out, List.take_of_length_le (Nat.le_of_eq hM.out)]
          exact rfl
        clear Hown hR
        go_wp2
        go_ret
        exact ⟨by rw [Hput.out]; rfl, HBw.out.trans (Hbr.out.mono HBw.out.size)⟩
  · have hmn : mayOf x = false := by simpa using hm
    have hmc : ∀ w', Calls Tryd.prog 10 #[x.v] w' fun e w2 => e = .returned (.bool false) ∧ Below w'.heap.size w' w2 := by
      intro w'
      have := may_any x w'
      rw [hmn] at this
      exact this
    have Hmc := Lib.hid hmc
    have Hput : Hid (putOf x = []) := by unfold putOf; rw [if_neg hm]; exact rfl
    have x0 : W0.cell? ⟨w.heap.size, 0, none⟩ = _ := HB.out.c0
    have x1 : W0.cell? ⟨w.heap.size, 1, none⟩ = _ := HB.out.c1
    have x2 : W0.cell? ⟨w.heap.size, 2, none⟩ = _ := HB.out.c2
    have x3 : W0.cell? ⟨w.heap.size, 3, none⟩ = _ := HB.out.c3
    have x4 : W0.cell? ⟨w.heap.size, 4, none⟩ = _ := HB.out.c4
    have x5 : W0.cell? ⟨w.heap.size, 5, none⟩ = _ := HB.out.c5
    clear hm hmn hmc
    unfold Nm.v
    go_enter Tryd.func12, Tryd.ntmps12
    go_upto_region 1 with fail
    rw [← hW.out]
    go_wp2_with (go_at_call 10; refine (Hmc.out _).mono ?_; rintro e W ⟨rfl, hb1⟩)
    go_ret
    exact ⟨by rw [Hput.out]; rfl, HG.out.trans (hb1.mono HG.out.size)⟩
end Go.Proofs.YtipmpebckfaknaaDoor
