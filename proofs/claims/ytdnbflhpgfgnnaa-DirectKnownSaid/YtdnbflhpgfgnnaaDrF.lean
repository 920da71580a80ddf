/- The walk of Copy. Conditions: at most 1000 operations. -/
import Derived.Test.YtdnbflhpgfgnnaaDrE
namespace Go.Proofs.Ytdnbflhpgfgnnaa
open Go.RowKit Go.Maps

/-- A map of names, in memory from base on. -/
def NamesN (z : Prop) (base : Nat) (w : World) (v : Value) (m : List En) : Prop :=
  ∃ o, v = .map o ∧ ((o = none ∧ m = [] ∧ z) ∨ ∃ b, o = some b ∧ base ≤ b ∧ w.ownsMap (H := Unit) Try.prog 9 (plainElem Try.prog 3) b m.length (mapD m))
theorem NamesN.below {z : Prop} {base : Nat} {w w' : World} {v : Value} {m : List En} (h : NamesN z base w v m) (hb : Below w.heap.size w w') : NamesN z base w' v m := by
  obtain ⟨o, hv, h⟩ := h
  refine ⟨o, hv, ?_⟩
  rcases h with h | ⟨b, e, hb', ho⟩
  · exact .inl h
  · exact .inr ⟨b, e, hb', owns_touch ho (Touch.of (X := fun _ => False) hb) fun e => e⟩
theorem NamesN.more {z : Prop} {base base' : Nat} {w : World} {v : Value} {m : List En} (h : NamesN z base w v m) (hb : base' ≤ base) : NamesN z base' w v m := by
  obtain ⟨o, hv, h⟩ := h
  refine ⟨o, hv, ?_⟩
  rcases h with h | ⟨b, e, hb', ho⟩
  · exact .inl h
  · exact .inr ⟨b, e, Nat.le_trans hb hb', ho⟩
theorem mclone_any {w : World} {c : Nat → Nat} {i : Nat} {v : Value} {m : List En} (h : NamesV w c i v m) :
    Calls Try.prog 32 #[v] w fun e w' => ∃ u, e = .returned u ∧ Below w.heap.size w w' ∧ NamesN (v = .map none) w.heap.size w' u m := by
  rcases h with ⟨rfl, rfl⟩ | ⟨b, rfl, _, ho⟩
  · refine (AnyW.maps_Clone_nil Try.laysMClone w).mono ?_
    rintro e w' ⟨rfl, rfl⟩
    exact ⟨_, rfl, .refl _ _, none, rfl, .inl ⟨rfl, rfl, rfl⟩⟩
  · refine (AnyW.maps_Clone_owns Try.laysMClone 9 _ b _ _ w ho).mono ?_
    rintro e w' ⟨rfl, h1, _, hb⟩
    exact ⟨_, rfl, hb, _, rfl, .inr ⟨_, rfl, Nat.le_refl _, h1⟩⟩
theorem sclone2_any {base n : Nat} {w : World} {v : Value} {xs : List Value} (h : w.ownsRow base 74 2 v n xs) (h1 : ∀ u ∈ xs, u.oneCell' = true) (hn : n ≤ 1000) :
    Calls Try.prog 33 #[v] w fun e w' => ∃ u, e = .returned u ∧ Below w.heap.size w w' ∧ w'.ownsRow w.heap.size 74 2 u n xs := by
  obtain ⟨i0, hi0, hz0, hz1, hz2⟩ := info_parts info_op
  rcases h.2 with ⟨rfl, rfl⟩ | ⟨r, cap, cur, rfl, hb, hg, hnc, hcm, hcur⟩
  · refine (AnyE.slices_Clone_nil Try.laysSClone 0 0 w).mono ?_
    rintro e w' ⟨rfl, rfl⟩
    have hx : xs = [] := List.eq_nil_of_length_eq_zero (by simpa using h.1)
    subst hx
    exact ⟨_, rfl, .refl _ _, World.ownsRow_nil _ _ _ _⟩
  · refine (AnyE.slices_Clone Try.laysSClone i0 _ 2 16 hi0 hz0 hz1 hz2 rfl (by omega) Try.sizeOf74 r 0 n cap xs w h.1 (by simp only [maxLen]; omega) (by omega) (fun j u hu => ?_) h1).mono ?_
    · have := h.cells (g := r) rfl j u hu
      rw [lit_add] at this
      exact this
    · rintro e w' ⟨u, rfl, ho, _, hb⟩
      exact ⟨_, rfl, hb, ho⟩
section
variable {b : Act} {w : World} {o : Oper}
theorem exec_buildD {x y : Operand} {p : Option Nat} {A : Option Addr} {n c : Nat} (ho : o.op = .build 59 #[(0, x), (1, y)]) (h : b.eval x = .map p) (h' : b.eval y = .slice A n c) : (execOp b.eval o).run Try.prog w = .ok (.value (.agg #[.map p, .slice A n c])) w := by
  unfold execOp
  simp only [ho, List.map_toArray, List.map_cons, List.map_nil, h, h']
  go_simp
theorem exec_boxD {x : Operand} {p : Option Nat} {A : Option Addr} {n c : Nat} (ho : o.op = .box 59 x) (h : b.eval x = .agg #[.map p, .slice A n c]) : (execOp b.eval o).run Try.prog w = .ok (.value (.pointer (some ⟨w.heap.size, 0, none⟩))) (w.alloc (.cells #[.map p, .slice A n c] 59)) := by
  unfold execOp
  simp only [ho, h]
  go_simp
end
theorem enter_mclone (w : World) (args : Array Value) : (callFunc 32 args).run Try.prog w = .ok (.enter 32 args) w := by kernel_rfl
theorem enter_sclone (w : World) (args : Array Value) : (callFunc 33 args).run Try.prog w = .ok (.enter 33 args) w := by kernel_rfl
/-- A copy: its parts. -/
def CpV (z : Prop) (base : Nat) (m : List En) (n : Nat) (xs : List Value) (w : World) (u1 u2 : Value) : Prop := NamesN z base w u1 m ∧ w.ownsRow base 74 2 u2 n xs
theorem CpV.below {z : Prop} {base n : Nat} {m : List En} {xs : List Value} {w w' : World} {u1 u2 : Value} (h : CpV z base m n xs w u1 u2) (hb : Below w.heap.size w w') : CpV z base m n xs w' u1 u2 := ⟨h.1.below hb, own_below h.2 hb (Nat.le_refl _)⟩
def CpD (z : Prop) (base : Nat) (m : List En) (n : Nat) (xs : List Value) (v : Value) (w : World) : Prop := ∃ g u1 u2, v = .pointer (some ⟨g, 0, none⟩) ∧ base ≤ g ∧ w.heap[g]? = some (.cells #[u1, u2] 59 (0, 0)) ∧ CpV z base m n xs w u1 u2 ∧ u2.ownBlock ≠ some g
theorem CpD.below {z : Prop} {base n : Nat} {m : List En} {xs : List Value} {v : Value} {w w' : World} (h : CpD z base m n xs v w) (hb : Below w.heap.size w w') : CpD z base m n xs v w' := by
  obtain ⟨g, u1, u2, e, hg, hh, hc, hne⟩ := h
  exact ⟨g, u1, u2, e, hg, (hb.block g (Array.getElem?_eq_some_iff.1 hh).1).trans hh, hc.below hb, hne⟩
def CpF (base g : Nat) (mv pv : Value) (m : List En) (n : Nat) (xs : List Value) : Nat → Value → World → Prop
  | 0, v, _ => v = .pointer (some ⟨g, 0, none⟩)
  | 1, v, _ => v = .pointer (some ⟨g, 0, none⟩)
  | 2, v, _ => v = .pointer (some ⟨g, 0, none⟩)
  | 3, v, _ => v = mv
  | 4, v, w => NamesN (mv = .map none) base w v m
  | 5, v, _ => v = .pointer (some ⟨g, 0, none⟩)
  | 6, v, _ => v = .pointer (some ⟨g, 0, none⟩)
  | 7, v, _ => v = .pointer (some ⟨g, 1, none⟩)
  | 8, v, _ => v = pv
  | 9, v, w => w.ownsRow base 74 2 v n xs
  | 10, v, w => ∃ p A n' c, v = .agg #[.map p, .slice A n' c] ∧ CpV (mv = .map none) base m n xs w (.map p) (.slice A n' c)
  | 11, v, w => CpD (mv = .map none) base m n xs v w
  | 12, v, w => CpD (mv = .map none) base m n xs v w
  | _, _, _ => True
theorem CpF.keep {base g : Nat} {mv pv : Value} {m : List En} {n : Nat} {xs : List Value} (j : Nat) (u : Value) (w w' : World) (hb : Below w.heap.size w w') (h : CpF base g mv pv m n xs j u w) : CpF base g mv pv m n xs j u w' :=
  match j, h with
  | 0, h => h
  | 1, h => h
  | 2, h => h
  | 3, h => h
  | 4, h => h.below hb
  | 5, h => h
  | 6, h => h
  | 7, h => h
  | 8, h => h
  | 9, h => own_below h hb (Nat.le_refl _)
  | 10, ⟨p, A, n', c, e, h⟩ => ⟨p, A, n', c, e, h.below hb⟩
  | 11, h => h.below hb
  | 12, h => h.below hb
  | _ + 13, h => h
section
variable {w : World} {c : Nat → Nat} {i j g N : Nat} {s : St}
theorem copyNil_any (w : World) : Calls Try.prog 17 #[.pointer none] w fun e w' => e = .returned (.pointer none) ∧ w' = w := by
  go_enter Try.func17, Try.ntmps17
  go_wp2
  go_ret
  exact ⟨rfl, rfl⟩
set_option maxHeartbeats 2000000 in
set_option maxRecDepth 100000 in
theorem copy_any (h : DirAt w c i g s) (hg : Good s N) (hN : N ≤ 1000) :
    Calls Try.prog 17 #[.pointer (some ⟨g, 0, none⟩)] w fun e w' => Below w.heap.size w w' ∧ ∃ g', e = .returned (.pointer (some ⟨g', 0, none⟩)) ∧ DirAt w' (ext w c j) j g' s := by
  have hgl := Lib.hid h.lt
  obtain ⟨hcol, hne0, mv, pv, hd, hm, ps, hps, ho, hr, hp⟩ := h
  have hcd := Lib.hid (two_cells hd)
  have hpl : Hid (ps.length ≤ 1000) := by
    have h1 := hg.n
    rw [← hps, List.length_map] at h1
    show _ ≤ _
    omega
  have Hm := Lib.hid hm
  have Ho := Lib.hid ho
  have Hp := Lib.hid hp
  have Hps := Lib.hid hps
  have Hne := Lib.hid (fun e : mv = .map none => hne0 pv (by rw [← e]; exact hd))
  clear hd hm ho hr hp hps hg hN hcol hne0
  go_enter Try.func17, Try.ntmps17
  go_upto_region 3 with fail
  go_cut [2] from 5 to 16 (fun v wx => CpD (mv = .map none) w.heap.size s.now ps.length (pncells ps) v wx ∧ Below w.heap.size w wx)
  case first =>
    rename_i J K hJ hK
    refine wp_region_facts (n := 17) (CpF w.heap.size g mv pv s.now ps.length (pncells ps)) (BelC w) (by kernel_rfl) (by kernel_rfl) rfl (Below.refl _ _).drew ?_ ?_
    rotate_left
    · intro b' w' hsz hd hs hc hall
      refine hK _ _ (Met.intro (hJ _ _ ?_))
      exact ⟨b'.tmps.getD 2 undef, b'.tmps.getD 5 undef, b'.tmps.getD 6 undef, b'.tmps.getD 7 undef, b'.tmps.getD 8 undef, b'.tmps.getD 9 undef, b'.tmps.getD 10 undef, b'.tmps.getD 11 undef, b'.tmps.getD 12 undef, b'.tmps.getD 13 undef, b'.tmps.getD 14 undef, b'.tmps.getD 15 undef, b'.tmps.getD 16 undef, ⟨hall 12 _ _ rfl rfl, hc⟩, (act_known hsz hd hs).trans (by kernel_rfl)⟩
    refine OpsOk.cons _ _ (OpOk.run _ _ CpF.keep BelC.keep fun b v hs hc hg => ⟨rfl, _, _, exec_move rfl (hs 0 (by kernel_rfl)), .refl _ _, rfl⟩) ?_
    refine OpsOk.cons _ _ (OpOk.run _ _ CpF.keep BelC.keep fun b v hs hc hg => ⟨rfl, _, _, exec_nil rfl (dep hg 0 rfl rfl rfl rfl), .refl _ _, rfl⟩) ?_
    refine OpsOk.cons _ _ (OpOk.run _ _ CpF.keep BelC.keep fun b v hs hc hg => ⟨rfl, _, _, exec_fieldD0 rfl (dep hg 0 rfl rfl rfl rfl), .refl _ _, rfl⟩) ?_
    refine OpsOk.cons _ _ (OpOk.run _ _ CpF.keep BelC.keep fun b v hs hc hg => ⟨rfl, _, _, exec_loadM rfl (dep hg 0 rfl rfl rfl rfl) ((hc.cell (p := ⟨g, 0, none⟩) hgl.out).trans hcd.out.1), .refl _ _, rfl⟩) ?_
    refine OpsOk.cons _ _ (OpOk.call _ _ CpF.keep BelC.keep fun b v hs hc hg => ⟨rfl, _, _, exec_call1 (enter_mclone _) rfl (dep hg 0 rfl rfl rfl rfl), (mclone_any (Hm.out.keep (Touch.of (X := fun _ => False) hc) (fun _ e => e.elim) (Same.refl _ _))).mono fun e w' ⟨u, e1, hb, h⟩ => ⟨u, e1, hb, h.more hc.size⟩⟩) ?_
    refine OpsOk.cons _ _ (OpOk.run _ _ CpF.keep BelC.keep fun b v hs hc hg => ⟨rfl, _, _, exec_move rfl (hs 0 (by kernel_rfl)), .refl _ _, rfl⟩) ?_
    refine OpsOk.cons _ _ (OpOk.run _ _ CpF.keep BelC.keep fun b v hs hc hg => ⟨rfl, _, _, exec_nil rfl (dep hg 0 rfl rfl rfl rfl), .refl _ _, rfl⟩) ?_
    refine OpsOk.cons _ _ (OpOk.run _ _ CpF.keep BelC.keep fun b v hs hc hg => ⟨rfl, _, _, exec_fieldD1 rfl (dep hg 0 rfl rfl rfl rfl), .refl _ _, rfl⟩) ?_
    refine OpsOk.cons _ _ (OpOk.run _ _ CpF.keep BelC.keep fun b v hs hc hg => ⟨rfl, _, _, exec_loadPn rfl (dep hg 0 rfl rfl rfl rfl) ((hc.cell (p := ⟨g, 1, none⟩) hgl.out).trans hcd.out.2), .refl _ _, rfl⟩) ?_
    refine OpsOk.cons _ _ (OpOk.call _ _ CpF.keep BelC.keep fun b v hs hc hg => ⟨rfl, _, _, exec_call1 (enter_sclone _) rfl (dep hg 0 rfl rfl rfl rfl), (sclone2_any (own_below Ho.out hc (Nat.le_refl _)) (pncells_one ps) hpl.out).mono fun e w' ⟨u, e1, hb, h⟩ => ⟨u, e1, hb, own_mono h hc.size⟩⟩) ?_
    refine OpsOk.cons _ _ (OpOk.run _ _ CpF.keep BelC.keep fun b v hs hc hg => by
      obtain ⟨p, e4, h4⟩ : CpF w.heap.size g mv pv s.now ps.length (pncells ps) 4 (b.tmps.getD 9 undef) v := (dep hg 0 rfl rfl rfl rfl)
      have h9 : CpF w.heap.size g mv pv s.now ps.length (pncells ps) 9 (b.tmps.getD 14 undef) v := (dep hg 1 rfl rfl rfl rfl)
      obtain ⟨A, n', e9, _, _, _⟩ := own_form (show v.ownsRow w.heap.size 74 2 _ _ _ from h9)
      exact ⟨rfl, _, _, exec_buildD rfl e4 e9, .refl _ _, p, A, _, n', rfl, ⟨p, rfl, h4⟩, by rw [← e9]; exact h9⟩) ?_
    refine OpsOk.cons _ _ (OpOk.run _ _ CpF.keep BelC.keep fun b v hs hc hg => by
      obtain ⟨p, A, n', c', e10, h10⟩ : CpF w.heap.size g mv pv s.now ps.length (pncells ps) 10 (b.tmps.getD 15 undef) v := (dep hg 0 rfl rfl rfl rfl)
      exact ⟨rfl, _, _, exec_boxD rfl e10, below_new _ _, v.heap.size, _, _, rfl, hc.size, heap_alloc_new _ _, h10.below (below_new _ _), fun e => by have := (h10.2.lt _ e).2; omega⟩) ?_
    refine OpsOk.cons _ _ (OpOk.run _ _ CpF.keep BelC.keep fun b v hs hc hg => by
      have h11 : CpF w.heap.size g mv pv s.now ps.length (pncells ps) 11 (b.tmps.getD 16 undef) v := (dep hg 0 rfl rfl rfl rfl)
      exact ⟨rfl, _, _, exec_assign rfl rfl, .refl _ _, h11⟩) ?_
    exact OpsOk.nil _ _
  obtain ⟨⟨g', u1, u2, rfl, hg', hh, ⟨⟨o, rfl, hn⟩, hrow⟩, hne⟩, hb⟩ := hcut
  go_wp2
  go_ret
  refine ⟨hb, g', rfl, ext_new w c j hg', ?_, .map o, u2, hh, ?_, ps, Hps.out, own_mono hrow (Nat.zero_le _), fun r hr => ⟨ext_new w c j (hrow.lt r hr).1, fun e => hne (by rw [hr, e])⟩, fun p hp => (Hp.out p hp).keepC (Touch.of (X := fun _ => False) hb) (fun _ e => e.elim) (ext_same w c j)⟩
  · intro pv' h'
    rw [hh] at h'
    rcases hn with ⟨_, _, ez⟩ | ⟨b, rfl, _, _⟩
    · exact Hne.out ez
    · simp at h'
  rcases hn with ⟨rfl, e, _⟩ | ⟨b, rfl, hb', hown⟩
  · exact .inl ⟨rfl, e⟩
  · exact .inr ⟨b, rfl, ext_new w c j hb', hown⟩
end
end Go.Proofs.Ytdnbflhpgfgnnaa
