/- The walk of the document's Get. Conditions: bytes of at most 2^40. -/
import Derived.Test.YtogoaihimepboaaKJoC
import Derived.Test.YtogoaihimepboaaKGc
import Derived.Deep.CutRange
namespace Go.Proofs.Ytogoaihimepboaa
open Go.RowKit

theorem run_rf0 (w : World) (x y : Value) : (Instr.field 34 (.agg #[x, y]) 0).run Try.prog w = .ok x w := by kernel_rfl
def GtF (v0 v1 : Value) (n s : Nat) (p : Value) : Nat → Value → World → Prop
  | 0, u, _ => u = v0
  | 1, u, _ => u = v1
  | 2, u, _ => u = .int .u64 (n : Int)
  | 3, u, _ => u = p
  | 4, u, _ => u = .int .u64 (s : Int)
  | 5, u, _ => u = .bool true
  | 6, u, _ => u = .bool true
  | 13, u, _ => u = .bool true
  | j, u, _ => 7 ≤ j → j ≤ 12 → u = undef
theorem GtF.keep {v0 v1 p : Value} {n s : Nat} (j : Nat) (u : Value) (w w' : World) (_hb : Below w.heap.size w w') (hfact : GtF v0 v1 n s p j u w) : GtF v0 v1 n s p j u w' := by
  unfold GtF at hfact ⊢
  split at hfact <;> exact hfact
section
variable {b : Act} {w : World} {o : Oper}
theorem exec_rf0 {x : Operand} {u v : Value} (ho : o.op = .field 34 x 0) (h : b.eval x = .agg #[u, v]) : (execOp b.eval o).run Try.prog w = .ok (.value u) w := by
  have hr := run_rf0 w u v
  unfold execOp
  simp only [ho, h]
  simp only [Sem.run_bind, hr, Result.andThen, Sem.run_pure]
theorem exec_rfa0 {x : Operand} {g : Nat} (ho : o.op = .fieldAddr 34 x 0) (h : b.eval x = .pointer (some ⟨g, 0, none⟩)) : (execOp b.eval o).run Try.prog w = .ok (.value (.pointer (some ⟨g, 0, none⟩))) w := by
  unfold execOp
  simp only [ho, h]
  go_simp
theorem exec_ld64 {x : Operand} {ad : Addr} {v : Value} (ho : o.op = .load 23 x) (h : b.eval x = .pointer (some ad)) (h1 : w.cell? ad = some v) : (execOp b.eval o).run Try.prog w = .ok (.value v) w := by
  unfold execOp
  simp only [ho, h]
  go_simp
theorem exec_ne64 {x y : Operand} {n s : Nat} (ho : o.op = .binOp .neq 23 x y 23) (h : b.eval x = .int .u64 (n : Int)) (h' : b.eval y = .int .u64 (s : Int)) (hne : n ≠ s) : (execOp b.eval o).run Try.prog w = .ok (.value (.bool true)) w := by
  have hI : ¬ (n : Int) = (s : Int) := by omega
  unfold execOp
  simp only [ho, h, h']
  go_simp
end
theorem enter_rof (w : World) (args : Array Value) : (callFunc 28 args).run Try.prog w = .ok (.enter 28 args) w := by kernel_rfl
theorem run_rf1 (w : World) (x y : Value) : (Instr.field 34 (.agg #[x, y]) 1).run Try.prog w = .ok y w := by kernel_rfl

set_option maxHeartbeats 1000000 in
set_option maxRecDepth 100000 in
theorem refGet_any (A : Option Addr) (c B n : Nat) (l : List UInt8) (p : Int) (s m : Nat) (w : World) (hn : l.length = n) (hl : n ≤ 1099511627776) (hcap : n ≤ c) (hB : B ≤ w.heap.size) (hr : RdB w B A l) :
    Calls Try.prog 12 #[.slice A n c, .int .i64 p, rfV s m] w fun e w' => BytesErr w.heap.size (getJ l p s m) e w' ∧ Below w.heap.size w w' := by
  have hnI : (n : Int) ≤ 1099511627776 := by omega
  obtain ⟨M, nx, er, ht⟩ : ∃ M nx e, nxJ l p = (M, nx, e) := ⟨_, _, _, rfl⟩
  have Ht := Lib.hid ht
  have hM := nxJ_lt l p
  rw [ht] at hM
  simp only at hM
  have hMI : (M.length : Int) ≤ 140737488351232 := by omega
  have HM := Lib.hid hM
  obtain ⟨W, hW⟩ : ∃ W, Hid (w.alloc (.cells #[.int .u64 (s : Int), .int .u64 (m : Int)] 34) = W) := ⟨_, rfl⟩
  obtain ⟨g, hg⟩ : ∃ g, Hid (w.heap.size = g) := ⟨_, rfl⟩
  have hbW : Hid (Below w.heap.size w W) := by rw [← hW.out]; exact (Below.refl _ _).alloc (Nat.le_refl _) _
  have hbx : Hid (W.heap[g]? = some (.cells #[.int .u64 (s : Int), .int .u64 (m : Int)] 34 (0, 0))) := by rw [← hW.out, ← hg.out]; exact heap_alloc_new w _
  have hgW : Hid (g < W.heap.size) := by rw [← hW.out, ← hg.out]; show _ < _; simp
  have HBW := Lib.hid (Nat.le_trans hB hbW.out.size)
  have hT := refNext_any A c B n l p W hn hl hcap (Nat.le_trans hB hbW.out.size) (hr.below (hbW.out.mono hB))
  have HT := Lib.hid hT
  have hc := two_cells hbx.out
  obtain ⟨hc0, hc1⟩ := hc
  unfold rfV
  clear hr hl hcap hB hn hT hM
  by_cases he : er = 0
  · subst he
    obtain ⟨S, hS⟩ : ∃ S, (sum M).toNat = S := ⟨_, rfl⟩
    have hof : Hid (∀ (w3 : World) (A3 : Option Addr) (c3 B3 : Nat), B3 ≤ w3.heap.size → RdB w3 B3 A3 M → Calls Try.prog 28 #[.slice A3 M.length c3] w3 fun e w' => e = .returned (.agg #[.int .u64 (M.length : Int), .int .u64 (S : Int)]) ∧ Below w3.heap.size w3 w') := fun w3 A3 c3 B3 h1 h2 => by
      have := refOf_any A3 c3 B3 M.length M w3 rfl HM.out h1 h2
      unfold ofV rfV at this
      rw [hS] at this
      exact this
    by_cases hk : M.length = s ∧ (sum M).toNat = m
    · have hv := Lib.hid (getJ_good (l := l) (p := p) (s := s) (m := m) (by rw [ht]) (by rw [ht]; exact hk.1) (by rw [ht]; exact hk.2))
      rw [hv.out, ht]
      simp only
      have h1 : s = M.length := hk.1.symm
      have h2 : S = m := by rw [← hS]; exact hk.2
      subst h1 h2
      have hd1 : ((M.length : Int) != (M.length : Int)) = false := by simp
      clear ht hv hS hk
      have hfl0 := run_rf0
      have hfl1 := run_rf1
      go_enter Try.func12, Try.ntmps12
      go_upto_region 1 with fail
      rw [hg.out, hW.out]
      go_upto_region 4 with (go_at_call 10; refine HT.out.mono ?_; rintro e w2 ⟨⟨v2, rfl, hown2⟩, hb2⟩; rw [Ht.out] at hown2 ⊢; simp only at hown2 ⊢; obtain ⟨A2, c2, rfl, _, _, hr2⟩ := own_form hown2; have Hown2 := Lib.hid hown2; have Hr2 := Lib.hid hr2; have Hb2 := Lib.hid hb2; clear hown2 hb2 hr2)
      have HS : Hid (∀ wx, Below w2.heap.size w2 wx → wx.cell? ⟨g, 0, none⟩ = some (.int .u64 (M.length : Int)) ∧ wx.cell? ⟨g, 1, none⟩ = some (.int .u64 (S : Int))) := by
        intro wx hx
        have h1 := hgW.out
        have h2 := Hb2.out.size
        exact two_cells ((hx.block g (by omega)).trans ((Hb2.out.block g hgW.out).trans hbx.out))
      have hbd : Hid (Below w2.heap.size w2 w2.drew) := (Below.refl _ _).drew
      clear hc0 hc1 hnI
      have tok1 := Lib.hid True.intro
      have tok2 := Lib.hid True.intro
      go_region_held3 (fun wx => wx.cell? ⟨g, 0, none⟩ = some (.int .u64 (M.length : Int)) ∧ wx.cell? ⟨g, 1, none⟩ = some (.int .u64 (S : Int))) (first | exact HS.out _ Hb4.out | exact HS.out _ Hb3.out | exact HS.out _ hbd.out) (first | (go_at_call 28; clear tok1; refine (hof.out w2.drew A2 c2 w2.heap.size (Nat.le_refl _) Hr2.out).mono ?_; rintro e w3 ⟨rfl, hb3⟩; have Hb3 := Lib.hid (hbd.out.trans (hb3.mono hbd.out.size)); clear hb3) | (go_at_call 28; clear tok2; refine (hof.out w3 A2 c2 w2.heap.size Hb3.out.size (Hr2.out.below Hb3.out)).mono ?_; rintro e w4 ⟨rfl, hb4⟩; have Hb4 := Lib.hid (Hb3.out.trans (hb4.mono Hb3.out.size)); clear hb4))
      all_goals
        have hbb := Lib.hid ((hbW.out.trans (Hb2.out.mono hbW.out.size)).trans (Hb4.out.mono (Nat.le_trans hbW.out.size Hb2.out.size)))
        go_wp2
        go_ret2
        exact ⟨⟨_, rfl, own_mono (own_below Hown2.out Hb4.out (Nat.le_refl _)) hbW.out.size⟩, hbb.out⟩
    · have hv := Lib.hid (getJ_ref (l := l) (p := p) (s := s) (m := m) (by rw [ht]) (by rw [ht]; exact hk))
      rw [hv.out]
      by_cases h1 : M.length = s
      · have h2 : S ≠ m := fun e => hk ⟨h1, by rw [hS]; exact e⟩
        have h2I : ¬ (S : Int) = (m : Int) := by omega
        have h2d : ((S : Int) == (m : Int)) = false := by rw [beq_eq_false_iff_ne]; exact h2I
        have h2n : (S == m) = false := by rw [beq_eq_false_iff_ne]; exact h2
        have h3d : ((S : Int) != (m : Int)) = true := by rw [bne_iff_ne]; exact h2I
        have h3n : (S != m) = true := by rw [bne_iff_ne]; exact h2
        subst h1
        clear ht hv hS hk
        have hfl0 := run_rf0
        have hfl1 := run_rf1
        go_enter Try.func12, Try.ntmps12
        go_upto_region 1 with fail
        rw [hg.out, hW.out]
        go_upto_region 4 with (go_at_call 10; refine HT.out.mono ?_; rintro e w2 ⟨⟨v2, rfl, hown2⟩, hb2⟩; rw [Ht.out] at hown2 ⊢; simp only at hown2 ⊢; obtain ⟨A2, c2, rfl, _, _, hr2⟩ := own_form hown2; have Hown2 := Lib.hid hown2; have Hr2 := Lib.hid hr2; have Hb2 := Lib.hid hb2; clear hown2 hb2 hr2)
        have HS : Hid (∀ wx, Below w2.heap.size w2 wx → wx.cell? ⟨g, 0, none⟩ = some (.int .u64 (M.length : Int)) ∧ wx.cell? ⟨g, 1, none⟩ = some (.int .u64 (m : Int))) := by
          intro wx hx
          have h1 := hgW.out
          have h2 := Hb2.out.size
          exact two_cells ((hx.block g (by omega)).trans ((Hb2.out.block g hgW.out).trans hbx.out))
        have hbd : Hid (Below w2.heap.size w2 w2.drew) := (Below.refl _ _).drew
        clear hc0 hc1 hnI
        have tok1 := Lib.hid True.intro
        have tok2 := Lib.hid True.intro
        go_region_held3 (fun wx => wx.cell? ⟨g, 0, none⟩ = some (.int .u64 (M.length : Int)) ∧ wx.cell? ⟨g, 1, none⟩ = some (.int .u64 (m : Int))) (first | exact HS.out _ Hb4.out | exact HS.out _ Hb3.out | exact HS.out _ hbd.out) (first | (go_at_call 28; clear tok1; refine (hof.out w2.drew A2 c2 w2.heap.size (Nat.le_refl _) Hr2.out).mono ?_; rintro e w3 ⟨rfl, hb3⟩; have Hb3 := Lib.hid (hbd.out.trans (hb3.mono hbd.out.size)); clear hb3) | (go_at_call 28; clear tok2; refine (hof.out w3 A2 c2 w2.heap.size Hb3.out.size (Hr2.out.below Hb3.out)).mono ?_; rintro e w4 ⟨rfl, hb4⟩; have Hb4 := Lib.hid (Hb3.out.trans (hb4.mono Hb3.out.size)); clear hb4))
        all_goals
          have hbb := Lib.hid ((hbW.out.trans (Hb2.out.mono hbW.out.size)).trans (Hb4.out.mono (Nat.le_trans hbW.out.size Hb2.out.size)))
          go_wp2
          go_ret2
          exact ⟨⟨_, rfl, World.ownsRow_nil _ _ _ _⟩, hbb.out⟩
      · have h2I : ¬ (M.length : Int) = (s : Int) := by omega
        have h2d : ((M.length : Int) == (s : Int)) = false := by rw [beq_eq_false_iff_ne]; exact h2I
        have h2n : (M.length == s) = false := by rw [beq_eq_false_iff_ne]; exact h1
        have h3d : ((M.length : Int) != (s : Int)) = true := by rw [bne_iff_ne]; exact h2I
        have h3n : (M.length != s) = true := by rw [bne_iff_ne]; exact h1
        have h4 : decide ((M.length : Int) = (s : Int)) = false := decide_eq_false h2I
        have h5 : decide (M.length = s) = false := decide_eq_false h1
        have h6 : (!decide ((M.length : Int) = (s : Int))) = true := by rw [h4]; rfl
        clear ht hv hS hk
        have hfl0 := run_rf0
        have hfl1 := run_rf1
        go_enter Try.func12, Try.ntmps12
        go_upto_region 1 with fail
        rw [hg.out, hW.out]
        go_upto_region 4 with (go_at_call 10; refine HT.out.mono ?_; rintro e w2 ⟨⟨v2, rfl, hown2⟩, hb2⟩; rw [Ht.out] at hown2 ⊢; simp only at hown2 ⊢; obtain ⟨A2, c2, rfl, _, _, hr2⟩ := own_form hown2; have Hown2 := Lib.hid hown2; have Hr2 := Lib.hid hr2; have Hb2 := Lib.hid hb2; clear hown2 hb2 hr2)
        have HS : Hid (∀ wx, Below w2.heap.size w2 wx → wx.cell? ⟨g, 0, none⟩ = some (.int .u64 (s : Int)) ∧ wx.cell? ⟨g, 1, none⟩ = some (.int .u64 (m : Int))) := by
          intro wx hx
          have h1 := hgW.out
          have h2 := Hb2.out.size
          exact two_cells ((hx.block g (by omega)).trans ((Hb2.out.block g hgW.out).trans hbx.out))
        have hbd : Hid (Below w2.heap.size w2 w2.drew) := (Below.refl _ _).drew
        obtain ⟨q0, _⟩ := HS.out _ hbd.out
        clear hc0 hc1 hnI
        go_cut [34] from 21 to 34 (fun u wx => u = .bool true ∧ Below w2.heap.size w2 wx)
        case first =>
          rename_i J K1 hJ hK
          have hmr : Hid (Value.slice A2 M.length c2 = .slice A2 M.length c2) := rfl
          refine wp_region_skips (n := 36) (GtF (.slice A2 M.length c2) (.agg #[.int .u64 (M.length : Int), .int .u64 (S : Int)]) M.length s (.pointer (some ⟨g, 0, none⟩))) (Below w2.heap.size w2) (by kernel_rfl) (by kernel_rfl) rfl hbd.out ?_ ?_
          rotate_left
          · intro b' w' hsz hd hs hcc hall
            have e13 : b'.tmps.getD 34 undef = .bool true := hall 13 _ _ rfl rfl
            refine hK _ _ (Met.intro (hJ _ _ ?_))
            exact ⟨b'.tmps.getD 21 undef, b'.tmps.getD 22 undef, b'.tmps.getD 23 undef, b'.tmps.getD 24 undef, b'.tmps.getD 25 undef, b'.tmps.getD 26 undef, b'.tmps.getD 27 undef, b'.tmps.getD 28 undef, b'.tmps.getD 29 undef, b'.tmps.getD 30 undef, b'.tmps.getD 31 undef, b'.tmps.getD 32 undef, b'.tmps.getD 33 undef, b'.tmps.getD 34 undef, ⟨e13, hcc⟩, (act_known hsz hd hs).trans (by kernel_rfl)⟩
          refine OksOp.cons _ _ (OkOp.of _ _ (OpOk.run _ _ GtF.keep (fun _ _ hb h => h.trans (hb.mono h.size)) fun b v hs hc hg => ⟨rfl, _, _, exec_move rfl (hs 8 (by kernel_rfl)), .refl _ _, rfl⟩)) ?_
          refine OksOp.cons _ _ (OkOp.of _ _ (OpOk.call _ _ GtF.keep (fun _ _ hb h => h.trans (hb.mono h.size)) fun b v hs hc hg => ⟨rfl, _, _, exec_call1 (enter_rof _) rfl (dep hg 0 rfl rfl rfl rfl), ?_⟩)) ?_
          · refine (hof.out v A2 c2 w2.heap.size hc.size (Hr2.out.below hc)).mono ?_
            rintro e w3 ⟨rfl, hb3⟩
            exact ⟨_, rfl, hb3, rfl⟩
          refine OksOp.cons _ _ (OkOp.of _ _ (OpOk.run _ _ GtF.keep (fun _ _ hb h => h.trans (hb.mono h.size)) fun b v hs hc hg => ⟨rfl, _, _, exec_rf0 rfl (dep hg 0 rfl rfl rfl rfl), .refl _ _, rfl⟩)) ?_
          refine OksOp.cons _ _ (OkOp.of _ _ (OpOk.run _ _ GtF.keep (fun _ _ hb h => h.trans (hb.mono h.size)) fun b v hs hc hg => ⟨rfl, _, _, exec_rfa0 rfl (hs 5 (by kernel_rfl)), .refl _ _, rfl⟩)) ?_
          refine OksOp.cons _ _ (OkOp.of _ _ (OpOk.run _ _ GtF.keep (fun _ _ hb h => h.trans (hb.mono h.size)) fun b v hs hc hg => ⟨rfl, _, _, exec_ld64 rfl (dep hg 0 rfl rfl rfl rfl) (HS.out _ hc).1, .refl _ _, rfl⟩)) ?_
          refine OksOp.cons _ _ (OkOp.of _ _ (OpOk.run _ _ GtF.keep (fun _ _ hb h => h.trans (hb.mono h.size)) fun b v hs hc hg => ⟨rfl, _, _, exec_ne64 rfl (dep hg 0 rfl rfl rfl rfl) (dep hg 1 rfl rfl rfl rfl) h1, .refl _ _, rfl⟩)) ?_
          refine OksOp.cons _ _ (OkOp.of _ _ (OpOk.run _ _ GtF.keep (fun _ _ hb h => h.trans (hb.mono h.size)) fun b v hs hc hg => ⟨rfl, _, _, exec_move rfl (dep hg 0 rfl rfl rfl rfl), .refl _ _, rfl⟩)) ?_
          refine OksOp.cons _ _ (OkOp.skip _ _ fun b v hs hc hg => ⟨unwanted_of rfl rfl rfl (dep hg 0 rfl rfl rfl rfl), fun _ _ => rfl⟩) ?_
          refine OksOp.cons _ _ (OkOp.skip _ _ fun b v hs hc hg => ⟨unwanted_of rfl rfl rfl (dep hg 1 rfl rfl rfl rfl), fun _ _ => rfl⟩) ?_
          refine OksOp.cons _ _ (OkOp.skip _ _ fun b v hs hc hg => ⟨unwanted_of rfl rfl rfl (dep hg 1 rfl rfl rfl rfl), fun _ _ => rfl⟩) ?_
          refine OksOp.cons _ _ (OkOp.skip _ _ fun b v hs hc hg => ⟨unwanted_of rfl rfl rfl (dep hg 0 rfl rfl rfl rfl), fun _ _ => rfl⟩) ?_
          refine OksOp.cons _ _ (OkOp.skip _ _ fun b v hs hc hg => ⟨unwanted_of rfl rfl rfl (dep hg 1 rfl rfl rfl rfl), fun _ _ => rfl⟩) ?_
          refine OksOp.cons _ _ (OkOp.skip _ _ fun b v hs hc hg => ⟨unwanted_of rfl rfl rfl (dep hg 2 rfl rfl rfl rfl), fun _ _ => rfl⟩) ?_
          refine OksOp.cons _ _ (OkOp.of _ _ (OpOk.run _ _ GtF.keep (fun _ _ hb h => h.trans (hb.mono h.size)) fun b v hs hc hg => ⟨rfl, _, _, exec_pick rfl (dep hg 0 rfl rfl rfl rfl) rfl, .refl _ _, rfl⟩)) ?_
          exact OksOp.nil _ _
        case rest =>
          obtain ⟨rfl, hb3⟩ := hcut
          go_wp2
          go_ret2
          exact ⟨⟨_, rfl, World.ownsRow_nil _ _ _ _⟩, hbW.out.trans ((Hb2.out.trans (hb3.mono Hb2.out.size)).mono hbW.out.size)⟩
  · have heI : ((er : Int) != 0) = true := by rw [bne_iff_ne]; omega
    have heN : (er != 0) = true := by rw [bne_iff_ne]; exact he
    have hv := Lib.hid (getJ_err (l := l) (p := p) (s := s) (m := m) (by rw [ht]; exact he))
    rw [hv.out, ht]
    simp only
    clear ht hv he
    go_enter Try.func12, Try.ntmps12
    go_upto_region 1 with fail
    rw [hg.out, hW.out]
    go_wp2_with (go_at_call 10; refine HT.out.mono ?_; rintro e w2 ⟨⟨v2, rfl, hown2⟩, hb2⟩; rw [Ht.out] at hown2 ⊢; simp only at hown2 ⊢; obtain ⟨A2, c2, rfl, _, _, hr2⟩ := own_form hown2; have Hown2 := Lib.hid hown2; have Hr2 := Lib.hid hr2; have Hb2 := Lib.hid hb2; clear hown2 hb2 hr2)
    go_ret2
    exact ⟨⟨_, rfl, World.ownsRow_nil _ _ _ _⟩, hbW.out.trans (Hb2.out.mono hbW.out.size)⟩

end Go.Proofs.Ytogoaihimepboaa
