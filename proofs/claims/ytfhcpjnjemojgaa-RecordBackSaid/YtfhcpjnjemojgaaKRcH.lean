/- The walks of the reader's methods. Conditions: numbers below 2^64, rows of at most 2^46 bytes. -/
import Derived.Test.YtfhcpjnjemojgaaKRcG
import Derived.Test.YtfhcpjnjemojgaaKTakeB
namespace Go.Proofs.Ytfhcpjnjemojgaa
open Go.RowKit Go.Lib

/-- A reader, with the place to which it has read. -/
structure RdrAt (b : List UInt8) (A : Option Addr) (c B : Nat) (at_ : Int) (qb : Nat) (w : World) : Prop where
  at_ : w.heap[qb]? = some (.cells #[.slice A b.length c, .int .i64 at_] 75 (0, 0))
  cap : b.length ≤ c
  rd : RdB w B A b
  lt : B ≤ qb
/-- What the reader's operations say. -/
def RdrF (qb : Nat) (a : Addr) (S T M : Value) (p p' e : Int) : Nat → Value → World → Prop
  | 0, v, _ | 15, v, _ => v = .pointer (some a)
  | 1, v, _ | 2, v, _ | 3, v, _ | 4, v, _ | 6, v, _ | 7, v, _ | 17, v, _ => v = .pointer (some ⟨qb, 0, none⟩)
  | 5, v, _ => v = S
  | 8, v, _ | 18, v, _ => v = .pointer (some ⟨qb, 1, none⟩)
  | 9, v, _ => v = .int .i64 p
  | 10, v, _ | 11, v, _ => v = T
  | 12, v, _ => v = M
  | 13, v, _ => v = .int .i64 p'
  | 14, v, _ | 20, v, _ => v = .int .i64 e
  | _, _, _ => True
theorem RdrF.world {qb : Nat} {a : Addr} {S T M : Value} {p p' e : Int} (j : Nat) (u : Value) (w w' : World) (h : RdrF qb a S T M p p' e j u w) : RdrF qb a S T M p p' e j u w' :=
  match j, h with
  | 0, h | 1, h | 2, h | 3, h | 4, h | 5, h | 6, h | 7, h | 8, h | 9, h | 10, h | 11, h | 12, h | 13, h | 14, h | 15, h | 16, h | 17, h | 18, h | 19, h | 20, h => h
  | _ + 21, h => h
section
variable {P : Program} {Q : Exit → Act → World → Prop} {F : Nat → Value → World → Prop} {s t : Nat} {W0 W1 W2 : World} {ops : List Oper} {a : Act} {i : Nat} {o : Oper}
/-- A call that changes nothing, ahead of both stores. -/
theorem OpSt.callQ (hs : i ≠ s) (ht : i ≠ t) (hno : ∀ L : Array Bool, Closed ops L → L.getD i false = false → L.getD s false = false ∧ L.getD t false = false)
    (h : ∀ (b : Act), (∀ t, isDst ops t = false → b.tmps.getD t undef = a.tmps.getD t undef) →
      (∀ e ∈ o.after.toList, Region.binds .any e = true → ∀ oj d, ops[e.on]? = some oj → oj.dst = some d → F e.on (b.tmps.getD d undef) W0) →
      Region.wanted o (yielded ops.toArray b.tmps) = true ∧ ∃ f args, (execOp b.eval o).run P W0 = .ok (.enter f args) W0 ∧ Calls P f args W0 fun e w' => ∃ v, e = .returned v ∧ W0 = w' ∧ F i v W0) : OpSt P Q F (TwoW s t W0 W1 W2) ops a i o := by
  intro L b w hL hi hcl hni _ hsm hC hg
  obtain ⟨h1, h2⟩ := hno L hcl hni
  have hw0 : w = W0 := by
    unfold TwoW at hC
    rw [h1, h2] at hC
    exact hC
  subst hw0
  obtain ⟨hw, f, args, hr, hc⟩ := h b hsm hg
  refine ⟨hw, ?_⟩
  unfold Oper.wp
  rw [hr, Oper.upon_enter]
  refine hc.mono ?_
  rintro e w' ⟨v, rfl, rfl, hf⟩
  refine ⟨v, rfl, ?_, fun _ => hf, fun _ _ h => h⟩
  unfold TwoW at hC ⊢
  rw [getD_set (by omega), getD_set (by omega), decide_eq_false hs, decide_eq_false ht, Bool.false_or, Bool.false_or]
  exact hC
end
set_option maxHeartbeats 2000000 in
set_option maxRecDepth 100000 in
theorem rdNum_any {b : List UInt8} {A : Option Addr} {c B : Nat} {p : Int} {qb rb : Nat} {x : Rc} {w : World} (h : RdrAt b A c B p qb w) (hx : RecAt x w rb) (hB : B ≤ rb) (hne : rb ≠ qb) (hl : b.length ≤ 1000000000) {j : Nat} (hj : j < 9) :
    Calls Try.prog 84 #[.pointer (some ⟨qb, 0, none⟩), .pointer (some ⟨rb, j + 1, none⟩)] w fun e w' => e = .returned (.int .i64 ((take b p).2.2 : Nat)) ∧ RecAt (x.setN j (take b p).1) w' rb ∧ RdrAt b A c B (take b p).2.1 qb w' ∧ But w.heap.size [rb, qb] w w' := by
  obtain ⟨W1, hW1⟩ : ∃ W1, Hid (W1 = w.drew.setCell ⟨rb, j + 1, none⟩ (.int .u64 ((take b p).1 : Int))) := ⟨_, rfl⟩
  obtain ⟨W2, hW2⟩ : ∃ W2, Hid (W2 = W1.setCell ⟨qb, 1, none⟩ (.int .i64 (take b p).2.1)) := ⟨_, rfl⟩
  have hq1 : W1.heap[qb]? = some (.cells #[.slice A b.length c, .int .i64 p] 75 (0, 0)) := by
    rw [hW1.out, Below.heap_setCell _ _ _ _ (fun e => hne e.symm)]
    exact h.at_
  have hx0 : RecAt x w.drew rb := hx
  have H1 : RecAt (x.setN j (take b p).1) W1 rb := by rw [hW1.out]; exact hx0.setN hj _
  have hE : RecAt (x.setN j (take b p).1) W2 rb ∧ RdrAt b A c B (take b p).2.1 qb W2 ∧ But w.heap.size [rb, qb] w W2 := by
    refine ⟨?_, ⟨?_, h.cap, ?_, h.lt⟩, ?_⟩
    · unfold RecAt
      rw [hW2.out, Below.heap_setCell _ _ _ _ hne]
      exact H1
    · rw [hW2.out, setCell_eq_setRow W1 qb 1 _ _ _ _ hq1]
      exact setRow_heap _ _ _ _ _ _ hq1
    · rw [hW2.out, hW1.out]
      exact Reads.setCell (Reads.setCell h.rd (p := ⟨rb, j + 1, none⟩) hB _) (p := ⟨qb, 1, none⟩) h.lt _
    · rw [hW2.out, hW1.out]
      exact but_setCell (p := ⟨qb, 1, none⟩) (but_setCell (p := ⟨rb, j + 1, none⟩) (But.refl _ _ _).drew (.inl (by simp)) _) (.inl (by simp)) _
  have hcall : ∀ wx, RdB wx B A b → Calls Try.prog 50 #[.slice A b.length c, .int .i64 p] wx fun e w' => ∃ v, e = .returned v ∧ wx = w' ∧ v = .tuple #[.int .u64 ((take b p).1 : Int), .int .i64 (take b p).2.1, .int .i64 ((take b p).2.2 : Nat)] := by
    intro wx hr
    refine (take_any A c B b p wx (by omega) h.cap hr).mono ?_
    rintro e w' ⟨rfl, rfl⟩
    exact ⟨_, rfl, rfl, rfl⟩
  have HE := Lib.hid hE
  have Hcall := Lib.hid hcall
  have H := Lib.hid h
  have Hx := Lib.hid hx0
  have HX1 := Lib.hid H1
  have Hq1 := Lib.hid hq1
  have Hcell := Lib.hid ((hx0.cell (j + 1)).trans (cells_num x hj))
  have Hc0 := Lib.hid (show w.drew.cell? ⟨qb, 0, none⟩ = some (.slice A b.length c) from cell_of_row w qb 0 _ _ _ h.at_)
  have Hc1 := Lib.hid (show w.drew.cell? ⟨qb, 1, none⟩ = some (.int .i64 p) from cell_of_row w qb 1 _ _ _ h.at_)
  clear hE hcall h hx hx0 H1 hq1
  obtain ⟨r1, hr1⟩ : ∃ r1 : Value, Hid (r1 = .int .u64 ((take b p).1 : Int)) := ⟨_, rfl⟩
  obtain ⟨r2, hr2⟩ : ∃ r2 : Int, Hid (r2 = (take b p).2.1) := ⟨_, rfl⟩
  obtain ⟨r3, hr3⟩ : ∃ r3 : Int, Hid (r3 = ((take b p).2.2 : Nat)) := ⟨_, rfl⟩
  go_enter Try.func84, Try.ntmps84
  go_upto_region 1 with fail
  go_cut [4] from 5 to 22 (fun s wx => s = .int .i64 r3 ∧ wx = W2)
  case first =>
    rename_i J K1 hJ hK
    refine wp_region_stages (n := 24) (RdrF qb ⟨rb, j + 1, none⟩ (.slice A b.length c) (.tuple #[r1, .int .i64 r2, .int .i64 r3]) r1 p r2 r3) (TwoW 16 19 w.drew W1 W2) (by kernel_rfl) (by kernel_rfl) rfl ?_ ?_ ?_
    · intro L hL
      unfold TwoW
      rw [hL, hL]
      rfl
    · skip
      refine OpsSt.cons _ _ (OpSt.pure (by decide) (by decide) fun b v hs hg => ⟨rfl, _, exec_move rfl (hs 1 (by kernel_rfl)), rfl⟩) ?_
      refine OpsSt.cons _ _ (OpSt.pure (by decide) (by decide) fun b v hs hg => ⟨rfl, _, exec_move rfl (hs 0 (by kernel_rfl)), rfl⟩) ?_
      refine OpsSt.cons _ _ (OpSt.pure (by decide) (by decide) fun b v hs hg => ⟨rfl, _, exec_move rfl (hs 0 (by kernel_rfl)), rfl⟩) ?_
      refine OpsSt.cons _ _ (OpSt.pure (by decide) (by decide) fun b v hs hg => ⟨rfl, _, exec_nilP rfl (dep hg 0 rfl rfl rfl rfl), rfl⟩) ?_
      refine OpsSt.cons _ _ (OpSt.pure (by decide) (by decide) fun b v hs hg => ⟨rfl, _, exec_fieldR0 rfl (dep hg 0 rfl rfl rfl rfl), rfl⟩) ?_
      refine OpsSt.cons _ _ (OpSt.load (by decide) (by decide) (fun L hcl hn => have h10 : L.getD 10 false = false := notyet hcl (ho := rfl) (he := (rfl : _[0]? = _)) rfl hn; have h16 : L.getD 16 false = false := notyet hcl (ho := rfl) (he := (rfl : _[2]? = _)) rfl h10; ⟨h16, notyet hcl (ho := rfl) (he := (rfl : _[2]? = _)) rfl h16⟩) fun b hs hg => ⟨rfl, _, exec_loadB rfl (dep hg 0 rfl rfl rfl rfl) Hc0.out, rfl⟩) ?_
      refine OpsSt.cons _ _ (OpSt.pure (by decide) (by decide) fun b v hs hg => ⟨rfl, _, exec_move rfl (hs 0 (by kernel_rfl)), rfl⟩) ?_
      refine OpsSt.cons _ _ (OpSt.pure (by decide) (by decide) fun b v hs hg => ⟨rfl, _, exec_nilP rfl (dep hg 0 rfl rfl rfl rfl), rfl⟩) ?_
      refine OpsSt.cons _ _ (OpSt.pure (by decide) (by decide) fun b v hs hg => ⟨rfl, _, exec_fieldR1 rfl (dep hg 0 rfl rfl rfl rfl), rfl⟩) ?_
      refine OpsSt.cons _ _ (OpSt.load (by decide) (by decide) (fun L hcl hn => have h10 : L.getD 10 false = false := notyet hcl (ho := rfl) (he := (rfl : _[1]? = _)) rfl hn; have h16 : L.getD 16 false = false := notyet hcl (ho := rfl) (he := (rfl : _[2]? = _)) rfl h10; ⟨h16, notyet hcl (ho := rfl) (he := (rfl : _[2]? = _)) rfl h16⟩) fun b hs hg => ⟨rfl, _, exec_loadI rfl (dep hg 0 rfl rfl rfl rfl) Hc1.out, rfl⟩) ?_
      refine OpsSt.cons _ _ (OpSt.callQ (by decide) (by decide) (fun L hcl h10 => have h16 : L.getD 16 false = false := notyet hcl (ho := rfl) (he := (rfl : _[2]? = _)) rfl h10; ⟨h16, notyet hcl (ho := rfl) (he := (rfl : _[2]? = _)) rfl h16⟩) fun b hs hg => ⟨rfl, _, _, exec_call2 (enter_vtake _) rfl (dep hg 0 rfl rfl rfl rfl) (dep hg 1 rfl rfl rfl rfl), (Hcall.out w.drew H.out.rd).mono ?_⟩) ?_
      · rintro e w' ⟨v, rfl, rfl, rfl⟩
        exact ⟨_, rfl, rfl, show _ = Value.tuple #[r1, .int .i64 r2, .int .i64 r3] by rw [hr1.out, hr2.out, hr3.out]⟩
      refine OpsSt.cons _ _ (OpSt.pure (by decide) (by decide) fun b v hs hg => ⟨rfl, _, exec_move rfl (dep hg 0 rfl rfl rfl rfl), rfl⟩) ?_
      refine OpsSt.cons _ _ (OpSt.pure (by decide) (by decide) fun b v hs hg => ⟨rfl, _, exec_ext 0 rfl (dep hg 0 rfl rfl rfl rfl) rfl, rfl⟩) ?_
      refine OpsSt.cons _ _ (OpSt.pure (by decide) (by decide) fun b v hs hg => ⟨rfl, _, exec_ext 1 rfl (dep hg 0 rfl rfl rfl rfl) rfl, rfl⟩) ?_
      refine OpsSt.cons _ _ (OpSt.pure (by decide) (by decide) fun b v hs hg => ⟨rfl, _, exec_ext 2 rfl (dep hg 0 rfl rfl rfl rfl) rfl, rfl⟩) ?_
      refine OpsSt.cons _ _ (OpSt.pure (by decide) (by decide) fun b v hs hg => ⟨rfl, _, exec_nilP rfl (dep hg 0 rfl rfl rfl rfl), rfl⟩) ?_
      refine OpsSt.cons _ _ (OpSt.first (by decide) RdrF.world rfl (fun L hcl h16 => notyet hcl (ho := rfl) (he := (rfl : _[2]? = _)) rfl h16) fun b hs hg => ⟨rfl, fun K hk => ?_⟩) ?_
      · refine wp_stored (exec_store64 rfl (dep hg 0 rfl rfl rfl rfl) (((dep hg 1 rfl rfl rfl rfl) : b.tmps.getD 17 undef = r1).trans hr1.out) Hcell.out (Hx.out.frozen _)) ?_
        rw [← hW1.out]
        exact hk
      refine OpsSt.cons _ _ (OpSt.pure (by decide) (by decide) fun b v hs hg => ⟨rfl, _, exec_nilP rfl (dep hg 0 rfl rfl rfl rfl), rfl⟩) ?_
      refine OpsSt.cons _ _ (OpSt.pure (by decide) (by decide) fun b v hs hg => ⟨rfl, _, exec_fieldR1 rfl (dep hg 0 rfl rfl rfl rfl), rfl⟩) ?_
      refine OpsSt.cons _ _ (OpSt.last RdrF.world rfl (k := 2) rfl rfl rfl fun b hs hg => ⟨rfl, fun K hk => ?_⟩) ?_
      · refine wp_stored (exec_storeI rfl (dep hg 0 rfl rfl rfl rfl) (dep hg 1 rfl rfl rfl rfl) (cell_of_row W1 qb 1 _ _ _ Hq1.out) (frozen_of_row W1 qb 1 _ _ Hq1.out)) ?_
        rw [hr2.out, ← hW2.out]
        exact hk
      refine OpsSt.cons _ _ (OpSt.pure (by decide) (by decide) fun b v hs hg => ⟨rfl, _, exec_assign rfl (dep hg 0 rfl rfl rfl rfl), rfl⟩) (OpsSt.nil _ _)
    · intro L b' w' hL hsz hd hs hC hall
      have hw : w' = W2 := by
        unfold TwoW at hC
        rw [hL 19 (by decide)] at hC
        exact hC
      have h4 : b'.tmps.getD 4 undef = .int .i64 r3 := hall 20 _ _ rfl rfl
      refine hK _ _ (Met.intro (hJ _ _ ?_))
      exact ⟨b'.tmps.getD 4 undef, b'.tmps.getD 5 undef, b'.tmps.getD 6 undef, b'.tmps.getD 7 undef, b'.tmps.getD 8 undef, b'.tmps.getD 9 undef, b'.tmps.getD 10 undef, b'.tmps.getD 11 undef, b'.tmps.getD 12 undef, b'.tmps.getD 13 undef, b'.tmps.getD 14 undef, b'.tmps.getD 15 undef, b'.tmps.getD 16 undef, b'.tmps.getD 17 undef, b'.tmps.getD 18 undef, b'.tmps.getD 19 undef, b'.tmps.getD 20 undef, b'.tmps.getD 21 undef, b'.tmps.getD 22 undef, ⟨h4, hw⟩, (act_known hsz hd hs).trans (by kernel_rfl)⟩
  obtain ⟨rfl, rfl⟩ := hcut
  go_wp2
  go_ret
  exact ⟨by rw [← hr3.out]; rfl, HE.out⟩
set_option maxHeartbeats 2000000 in
set_option maxRecDepth 100000 in
theorem rdTxt_any {b : List UInt8} {A : Option Addr} {c B : Nat} {p : Int} {qb rb : Nat} {x : Rc} {w : World} (h : RdrAt b A c B p qb w) (hx : RecAt x w rb) (hB : B ≤ rb) (hne : rb ≠ qb) (hl : b.length ≤ 1000000000) {j : Nat} (hj : 9 ≤ j ∧ j ≤ 10) :
    Calls Try.prog 85 #[.pointer (some ⟨qb, 0, none⟩), .pointer (some ⟨rb, j + 1, none⟩)] w fun e w' => e = .returned (.int .i64 ((takeText b p).2.2 : Nat)) ∧ RecAt (x.setT j (takeText b p).1) w' rb ∧ RdrAt b A c B (takeText b p).2.1 qb w' ∧ But w.heap.size [rb, qb] w w' := by
  obtain ⟨W1, hW1⟩ : ∃ W1, Hid (W1 = w.drew.setCell ⟨rb, j + 1, none⟩ (.string (txt (takeText b p).1))) := ⟨_, rfl⟩
  obtain ⟨W2, hW2⟩ : ∃ W2, Hid (W2 = W1.setCell ⟨qb, 1, none⟩ (.int .i64 (takeText b p).2.1)) := ⟨_, rfl⟩
  have hq1 : W1.heap[qb]? = some (.cells #[.slice A b.length c, .int .i64 p] 75 (0, 0)) := by
    rw [hW1.out, Below.heap_setCell _ _ _ _ (fun e => hne e.symm)]
    exact h.at_
  have hx0 : RecAt x w.drew rb := hx
  have H1 : RecAt (x.setT j (takeText b p).1) W1 rb := by rw [hW1.out]; exact hx0.setT hj _
  have hE : RecAt (x.setT j (takeText b p).1) W2 rb ∧ RdrAt b A c B (takeText b p).2.1 qb W2 ∧ But w.heap.size [rb, qb] w W2 := by
    refine ⟨?_, ⟨?_, h.cap, ?_, h.lt⟩, ?_⟩
    · unfold RecAt
      rw [hW2.out, Below.heap_setCell _ _ _ _ hne]
      exact H1
    · rw [hW2.out, setCell_eq_setRow W1 qb 1 _ _ _ _ hq1]
      exact setRow_heap _ _ _ _ _ _ hq1
    · rw [hW2.out, hW1.out]
      exact Reads.setCell (Reads.setCell h.rd (p := ⟨rb, j + 1, none⟩) hB _) (p := ⟨qb, 1, none⟩) h.lt _
    · rw [hW2.out, hW1.out]
      exact but_setCell (p := ⟨qb, 1, none⟩) (but_setCell (p := ⟨rb, j + 1, none⟩) (But.refl _ _ _).drew (.inl (by simp)) _) (.inl (by simp)) _
  have hcall : ∀ wx, RdB wx B A b → Calls Try.prog 86 #[.slice A b.length c, .int .i64 p] wx fun e w' => ∃ v, e = .returned v ∧ wx = w' ∧ v = .tuple #[.string (txt (takeText b p).1), .int .i64 (takeText b p).2.1, .int .i64 ((takeText b p).2.2 : Nat)] := by
    intro wx hr
    refine (takeText_any A c B b p wx (by omega) h.cap hr).mono ?_
    rintro e w' ⟨rfl, rfl⟩
    exact ⟨_, rfl, rfl, rfl⟩
  have HE := Lib.hid hE
  have Hcall := Lib.hid hcall
  have H := Lib.hid h
  have Hx := Lib.hid hx0
  have HX1 := Lib.hid H1
  have Hq1 := Lib.hid hq1
  have Hcell := Lib.hid ((hx0.cell (j + 1)).trans (cells_txt x hj))
  have Hc0 := Lib.hid (show w.drew.cell? ⟨qb, 0, none⟩ = some (.slice A b.length c) from cell_of_row w qb 0 _ _ _ h.at_)
  have Hc1 := Lib.hid (show w.drew.cell? ⟨qb, 1, none⟩ = some (.int .i64 p) from cell_of_row w qb 1 _ _ _ h.at_)
  clear hE hcall h hx hx0 H1 hq1
  obtain ⟨r1, hr1⟩ : ∃ r1 : Value, Hid (r1 = .string (txt (takeText b p).1)) := ⟨_, rfl⟩
  obtain ⟨r2, hr2⟩ : ∃ r2 : Int, Hid (r2 = (takeText b p).2.1) := ⟨_, rfl⟩
  obtain ⟨r3, hr3⟩ : ∃ r3 : Int, Hid (r3 = ((takeText b p).2.2 : Nat)) := ⟨_, rfl⟩
  go_enter Try.func85, Try.ntmps85
  go_upto_region 1 with fail
  go_cut [4] from 5 to 22 (fun s wx => s = .int .i64 r3 ∧ wx = W2)
  case first =>
    rename_i J K1 hJ hK
    refine wp_region_stages (n := 24) (RdrF qb ⟨rb, j + 1, none⟩ (.slice A b.length c) (.tuple #[r1, .int .i64 r2, .int .i64 r3]) r1 p r2 r3) (TwoW 16 19 w.drew W1 W2) (by kernel_rfl) (by kernel_rfl) rfl ?_ ?_ ?_
    · intro L hL
      unfold TwoW
      rw [hL, hL]
      rfl
    · skip
      refine OpsSt.cons _ _ (OpSt.pure (by decide) (by decide) fun b v hs hg => ⟨rfl, _, exec_move rfl (hs 1 (by kernel_rfl)), rfl⟩) ?_
      refine OpsSt.cons _ _ (OpSt.pure (by decide) (by decide) fun b v hs hg => ⟨rfl, _, exec_move rfl (hs 0 (by kernel_rfl)), rfl⟩) ?_
      refine OpsSt.cons _ _ (OpSt.pure (by decide) (by decide) fun b v hs hg => ⟨rfl, _, exec_move rfl (hs 0 (by kernel_rfl)), rfl⟩) ?_
      refine OpsSt.cons _ _ (OpSt.pure (by decide) (by decide) fun b v hs hg => ⟨rfl, _, exec_nilP rfl (dep hg 0 rfl rfl rfl rfl), rfl⟩) ?_
      refine OpsSt.cons _ _ (OpSt.pure (by decide) (by decide) fun b v hs hg => ⟨rfl, _, exec_fieldR0 rfl (dep hg 0 rfl rfl rfl rfl), rfl⟩) ?_
      refine OpsSt.cons _ _ (OpSt.load (by decide) (by decide) (fun L hcl hn => have h10 : L.getD 10 false = false := notyet hcl (ho := rfl) (he := (rfl : _[0]? = _)) rfl hn; have h16 : L.getD 16 false = false := notyet hcl (ho := rfl) (he := (rfl : _[2]? = _)) rfl h10; ⟨h16, notyet hcl (ho := rfl) (he := (rfl : _[2]? = _)) rfl h16⟩) fun b hs hg => ⟨rfl, _, exec_loadB rfl (dep hg 0 rfl rfl rfl rfl) Hc0.out, rfl⟩) ?_
      refine OpsSt.cons _ _ (OpSt.pure (by decide) (by decide) fun b v hs hg => ⟨rfl, _, exec_move rfl (hs 0 (by kernel_rfl)), rfl⟩) ?_
      refine OpsSt.cons _ _ (OpSt.pure (by decide) (by decide) fun b v hs hg => ⟨rfl, _, exec_nilP rfl (dep hg 0 rfl rfl rfl rfl), rfl⟩) ?_
      refine OpsSt.cons _ _ (OpSt.pure (by decide) (by decide) fun b v hs hg => ⟨rfl, _, exec_fieldR1 rfl (dep hg 0 rfl rfl rfl rfl), rfl⟩) ?_
      refine OpsSt.cons _ _ (OpSt.load (by decide) (by decide) (fun L hcl hn => have h10 : L.getD 10 false = false := notyet hcl (ho := rfl) (he := (rfl : _[1]? = _)) rfl hn; have h16 : L.getD 16 false = false := notyet hcl (ho := rfl) (he := (rfl : _[2]? = _)) rfl h10; ⟨h16, notyet hcl (ho := rfl) (he := (rfl : _[2]? = _)) rfl h16⟩) fun b hs hg => ⟨rfl, _, exec_loadI rfl (dep hg 0 rfl rfl rfl rfl) Hc1.out, rfl⟩) ?_
      refine OpsSt.cons _ _ (OpSt.callQ (by decide) (by decide) (fun L hcl h10 => have h16 : L.getD 16 false = false := notyet hcl (ho := rfl) (he := (rfl : _[2]? = _)) rfl h10; ⟨h16, notyet hcl (ho := rfl) (he := (rfl : _[2]? = _)) rfl h16⟩) fun b hs hg => ⟨rfl, _, _, exec_call2 (enter_vtakeText _) rfl (dep hg 0 rfl rfl rfl rfl) (dep hg 1 rfl rfl rfl rfl), (Hcall.out w.drew H.out.rd).mono ?_⟩) ?_
      · rintro e w' ⟨v, rfl, rfl, rfl⟩
        exact ⟨_, rfl, rfl, show _ = Value.tuple #[r1, .int .i64 r2, .int .i64 r3] by rw [hr1.out, hr2.out, hr3.out]⟩
      refine OpsSt.cons _ _ (OpSt.pure (by decide) (by decide) fun b v hs hg => ⟨rfl, _, exec_move rfl (dep hg 0 rfl rfl rfl rfl), rfl⟩) ?_
      refine OpsSt.cons _ _ (OpSt.pure (by decide) (by decide) fun b v hs hg => ⟨rfl, _, exec_ext 0 rfl (dep hg 0 rfl rfl rfl rfl) rfl, rfl⟩) ?_
      refine OpsSt.cons _ _ (OpSt.pure (by decide) (by decide) fun b v hs hg => ⟨rfl, _, exec_ext 1 rfl (dep hg 0 rfl rfl rfl rfl) rfl, rfl⟩) ?_
      refine OpsSt.cons _ _ (OpSt.pure (by decide) (by decide) fun b v hs hg => ⟨rfl, _, exec_ext 2 rfl (dep hg 0 rfl rfl rfl rfl) rfl, rfl⟩) ?_
      refine OpsSt.cons _ _ (OpSt.pure (by decide) (by decide) fun b v hs hg => ⟨rfl, _, exec_nilP rfl (dep hg 0 rfl rfl rfl rfl), rfl⟩) ?_
      refine OpsSt.cons _ _ (OpSt.first (by decide) RdrF.world rfl (fun L hcl h16 => notyet hcl (ho := rfl) (he := (rfl : _[2]? = _)) rfl h16) fun b hs hg => ⟨rfl, fun K hk => ?_⟩) ?_
      · refine wp_stored (exec_storeT rfl (dep hg 0 rfl rfl rfl rfl) (((dep hg 1 rfl rfl rfl rfl) : b.tmps.getD 17 undef = r1).trans hr1.out) Hcell.out (Hx.out.frozen _)) ?_
        rw [← hW1.out]
        exact hk
      refine OpsSt.cons _ _ (OpSt.pure (by decide) (by decide) fun b v hs hg => ⟨rfl, _, exec_nilP rfl (dep hg 0 rfl rfl rfl rfl), rfl⟩) ?_
      refine OpsSt.cons _ _ (OpSt.pure (by decide) (by decide) fun b v hs hg => ⟨rfl, _, exec_fieldR1 rfl (dep hg 0 rfl rfl rfl rfl), rfl⟩) ?_
      refine OpsSt.cons _ _ (OpSt.last RdrF.world rfl (k := 2) rfl rfl rfl fun b hs hg => ⟨rfl, fun K hk => ?_⟩) ?_
      · refine wp_stored (exec_storeI rfl (dep hg 0 rfl rfl rfl rfl) (dep hg 1 rfl rfl rfl rfl) (cell_of_row W1 qb 1 _ _ _ Hq1.out) (frozen_of_row W1 qb 1 _ _ Hq1.out)) ?_
        rw [hr2.out, ← hW2.out]
        exact hk
      refine OpsSt.cons _ _ (OpSt.pure (by decide) (by decide) fun b v hs hg => ⟨rfl, _, exec_assign rfl (dep hg 0 rfl rfl rfl rfl), rfl⟩) (OpsSt.nil _ _)
    · intro L b' w' hL hsz hd hs hC hall
      have hw : w' = W2 := by
        unfold TwoW at hC
        rw [hL 19 (by decide)] at hC
        exact hC
      have h4 : b'.tmps.getD 4 undef = .int .i64 r3 := hall 20 _ _ rfl rfl
      refine hK _ _ (Met.intro (hJ _ _ ?_))
      exact ⟨b'.tmps.getD 4 undef, b'.tmps.getD 5 undef, b'.tmps.getD 6 undef, b'.tmps.getD 7 undef, b'.tmps.getD 8 undef, b'.tmps.getD 9 undef, b'.tmps.getD 10 undef, b'.tmps.getD 11 undef, b'.tmps.getD 12 undef, b'.tmps.getD 13 undef, b'.tmps.getD 14 undef, b'.tmps.getD 15 undef, b'.tmps.getD 16 undef, b'.tmps.getD 17 undef, b'.tmps.getD 18 undef, b'.tmps.getD 19 undef, b'.tmps.getD 20 undef, b'.tmps.getD 21 undef, b'.tmps.getD 22 undef, ⟨h4, hw⟩, (act_known hsz hd hs).trans (by kernel_rfl)⟩
  obtain ⟨rfl, rfl⟩ := hcut
  go_wp2
  go_ret
  exact ⟨by rw [← hr3.out]; rfl, HE.out⟩
end Go.Proofs.Ytfhcpjnjemojgaa
