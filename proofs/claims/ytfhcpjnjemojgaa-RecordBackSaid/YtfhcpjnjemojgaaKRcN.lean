/- The walk of Put. Conditions: texts of at most 2^19 bytes. -/
import Derived.Test.YtfhcpjnjemojgaaKRcM
import Derived.Test.YtfhcpjnjemojgaaKFrO
namespace Go.Proofs.Ytfhcpjnjemojgaa
open Go.RowKit

/-- Put's answer. -/
def putM (x : Rc) : List UInt8 × Nat := if rightM x = true then (encFr (UInt8.ofNat x.k) (body x (allP x.k)), 0) else ([], 2)
theorem right_isK {x : Rc} (h : rightM x = true) : isK x.k = true := by
  rw [rightM_eq, Bool.and_eq_true] at h
  exact h.1
theorem right_names {x : Rc} (h : rightM x = true) : x.n.length ≤ 64 ∧ x.t.length ≤ 64 := by
  have hk := right_isK h
  rw [right_eq] at h
  obtain ⟨k, p, i, q, e, u, r, c, z, s, n, t⟩ := x
  simp only at hk
  rcases isK_cases hk with rfl | rfl | rfl | rfl | rfl | rfl | rfl | rfl | rfl | rfl | rfl
  all_goals
    simp [rightR, isK, allP, parts, bld, cpP, txOk, Rc.setN, Rc.setT, Rc.num, Rc.tx, Rc.zero] at h
    simp only
    simp_all
    try omega
theorem encP_le {x : Rc} (hx : x.Ok) (hn : x.n.length ≤ 64) (ht : x.t.length ≤ 64) (j : Nat) : (encP x j).length ≤ 74 := by
  unfold encP
  split
  · have := sz_10 (hx.num j)
    unfold sz at this
    omega
  · have hl : (x.tx j).length ≤ 64 := by unfold Rc.tx; split <;> simp_all
    have := sz_10 (n := (x.tx j).length) (by omega)
    unfold sz at this
    unfold encText
    rw [List.length_append]
    omega
theorem body_64 {x : Rc} (hx : x.Ok) (hn : x.n.length ≤ 64) (ht : x.t.length ≤ 64) : ∀ ps : List Nat, (body x ps).length ≤ ps.length * 74
  | [] => by simp [body]
  | j :: ps => by
    have ih := body_64 hx hn ht ps
    have h1 := encP_le hx hn ht j
    unfold body at ih ⊢
    rw [List.flatMap_cons, List.length_append, List.length_cons]
    omega
theorem allP_7 (k : Nat) : (allP k).length ≤ 7 := by
  have := allP_len k
  have := parts_len k
  omega
theorem body_small {x : Rc} (hx : x.Ok) (h : rightM x = true) : (body x (allP x.k)).length ≤ 518 := by
  obtain ⟨hn, ht⟩ := right_names h
  have h1 := body_64 hx hn ht (allP x.k)
  have := allP_7 x.k
  omega
theorem BytesErr.mono {base base' : Nat} {r : List UInt8 × Nat} {e : Ending} {w : World} (h : BytesErr base r e w) (hb : base' ≤ base) : BytesErr base' r e w := by
  obtain ⟨v, he, ho⟩ := h
  exact ⟨v, he, own_mono ho hb⟩
theorem frPut_k {k : Nat} {A : Option Addr} {n c B : Nat} {l : List UInt8} {w : World} (hn : l.length = n) (hk : k < 256) (hl : n ≤ 65535) (hB : B ≤ w.heap.size) (hr : RdB w B A l) :
    Calls Try.prog 33 #[.agg #[.int .u8 (k : Int), .slice A n c]] w fun e w' => BytesErr w.heap.size (encFr (UInt8.ofNat k) l, 0) e w' ∧ Below w.heap.size w w' := by
  subst hn
  have h := frPut_any ⟨UInt8.ofNat k, ⟨A, c, l⟩⟩ B w (by simp only; omega) hB hr
  rw [joinF_one_ok hl] at h
  unfold Fr.v at h
  simp only [u8_toNat hk] at h
  exact h
set_option maxHeartbeats 4000000 in
set_option maxRecDepth 100000 in
theorem rput_any (x : Rc) (hok : x.Ok) (w : World) : Calls Try.prog 12 #[x.v] w fun e w' => BytesErr w.heap.size (putM x) e w' ∧ Below w.heap.size w w' := by
  obtain ⟨W, hW⟩ : ∃ W, Hid (W = w.alloc (.cells x.cells.toArray 24)) := ⟨_, rfl⟩
  have hbW : Hid (Below w.heap.size w W) := by rw [hW.out]; exact below_new _ _
  have hx : Hid (RecAt x W w.heap.size) := by rw [hW.out]; exact recAt_new x w
  have hsz := Lib.hid (show W.heap.size = w.heap.size + 1 by rw [hW.out]; simp)
  have hlt := Lib.hid (show w.heap.size < W.heap.size by rw [hsz.out]; omega)
  have HW' := Lib.hid (show w.alloc (.cells #[.int .u8 (x.k : Int), .int .u64 (x.p : Int), .int .u64 (x.i : Int), .int .u64 (x.q : Int), .int .u64 (x.e : Int), .int .u64 (x.u : Int), .int .u64 (x.r : Int), .int .u64 (x.c : Int), .int .u64 (x.z : Int), .int .u64 (x.s : Int), .string (txt x.n), .string (txt x.t)] 24) = W from hW.out.symm)
  unfold Rc.v
  have Hok := Lib.hid hok
  clear hok
  go_enter Try.func12, Try.ntmps12
  go_upto_region 1 with fail
  rw [HW'.out]
  go_cut [4, 5] from 7 to 13 (fun s u wx => u = .bool (isK x.k) ∧ Below W.heap.size W wx ∧ FormBox x.k s wx)
  case first =>
    rename_i J K1 hJ hK
    refine wp_region_ph (n := 35) (LookF W ⟨w.heap.size, 0, none⟩ x.k) (Ph 8 9 4 4 (fun w' => Below W.heap.size W w') (fun v w' => Below W.heap.size W w' ∧ FormBox x.k v w') (fun v _ w' => Below W.heap.size W w' ∧ FormBox x.k v w')) (by kernel_rfl) (by kernel_rfl) rfl ?_ ?_ ?_
    · intro L hL
      exact Ph.start hL (Below.refl _ _).drew
    · have hA : ∀ u u' : World, Below u.heap.size u u' → Below W.heap.size W u → Below W.heap.size W u' := fun u u' hb h => h.trans (hb.mono h.size)
      refine OpsPh.cons _ _ (OpPh.preC (by decide) (by decide) (fun L hcl hn => have h8 : L.getD 8 false = false := notyet hcl (ho := rfl) (he := (rfl : _[2]? = _)) rfl hn; ⟨h8, notyet hcl (ho := rfl) (he := (rfl : _[1]? = _)) rfl h8⟩) LookF.keep hA fun b v hs hv hg => ⟨rfl, _, _, exec_call0 (enter_forms _) rfl, forms_any v⟩) ?_
      refine OpsPh.cons _ _ (OpPh.free (by decide) (by decide) rfl (by decide) fun b v hs hg => ⟨rfl, _, exec_fieldC 0 (by decide) rfl (hs 1 (by kernel_rfl)), rfl⟩) ?_
      refine OpsPh.cons _ _ (OpPh.pre (by decide) (by decide) (fun L hcl hn => have h8 : L.getD 8 false = false := notyet hcl (ho := rfl) (he := (rfl : _[5]? = _)) rfl hn; ⟨h8, notyet hcl (ho := rfl) (he := (rfl : _[1]? = _)) rfl h8⟩) LookF.keep hA fun b v hs hv hg => ⟨rfl, _, _, exec_load8 rfl (dep hg 0 rfl rfl rfl rfl) ((hv.cell (p := ⟨w.heap.size, 0, none⟩) hlt.out).trans (hx.out.cell 0)), .refl _ _, rfl⟩) ?_
      refine OpsPh.cons _ _ (OpPh.free (by decide) (by decide) rfl (by decide) fun b v hs hg => (by
        obtain ⟨fv, hf, hr⟩ := look_forms (dep hg 0 rfl rfl rfl rfl : LookF _ _ _ 0 _ _) x.k true
        exact ⟨rfl, _, exec_look rfl rfl (dep hg 1 rfl rfl rfl rfl) hr, fv, rfl, hf⟩)) ?_
      refine OpsPh.cons _ _ (OpPh.free (by decide) (by decide) rfl (by decide) fun b v hs hg => (by
        obtain ⟨fv, e, hf⟩ := (dep hg 0 rfl rfl rfl rfl : LookF _ _ _ 3 _ _)
        exact ⟨rfl, _, exec_move rfl e, fv, rfl, hf⟩)) ?_
      refine OpsPh.cons _ _ (OpPh.free (by decide) (by decide) rfl (by decide) fun b v hs hg => (by
        obtain ⟨fv, e, hf⟩ := (dep hg 0 rfl rfl rfl rfl : LookF _ _ _ 4 _ _)
        exact ⟨rfl, _, exec_ext 0 rfl e rfl, hf⟩)) ?_
      refine OpsPh.cons _ _ (OpPh.free (by decide) (by decide) rfl (by decide) fun b v hs hg => (by
        obtain ⟨fv, e, hf⟩ := (dep hg 0 rfl rfl rfl rfl : LookF _ _ _ 4 _ _)
        exact ⟨rfl, _, exec_ext 1 rfl e rfl, rfl⟩)) ?_
      refine OpsPh.cons _ _ (OpPh.pre (by decide) (by decide) (fun L hcl hn => have h8 : L.getD 8 false = false := notyet hcl (ho := rfl) (he := (rfl : _[0]? = _)) rfl hn; ⟨h8, notyet hcl (ho := rfl) (he := (rfl : _[1]? = _)) rfl h8⟩) LookF.keep hA fun b v hs hv hg => ⟨rfl, _, _, exec_allocForm rfl, below_new _ _, v.heap.size, rfl, hv.size, _, rfl, heap_alloc_new _ _⟩) ?_
      refine OpsPh.cons _ _ (OpPh.mid (by decide) (fun L hcl h8 => notyet hcl (ho := rfl) (he := (rfl : _[1]? = _)) rfl h8) fun b v hs hsz hv hg => ⟨rfl, ?_⟩) ?_
      · obtain ⟨q, e, hql, cs, hcs, hq⟩ := (dep hg 0 rfl rfl rfl rfl : LookF _ _ _ 7 _ _)
        obtain ⟨A, c, e5, _, hp⟩ := (dep hg 1 rfl rfl rfl rfl : LookF _ _ _ 5 _ _)
        refine wp_store_row 58 (.tmp 4) (.tmp 12) rfl q #[.string (txt (wordOf x.k)), .slice A (parts x.k).length c] e e5 _ cs hq size_form hcs (pair_one rfl rfl) ?_
        have hb' : Below W.heap.size W (v.setRow q #[.string (txt (wordOf x.k)), .slice A (parts x.k).length c]) := ⟨hv.os, hv.tape, hv.output, by rw [size_setRow]; exact hv.size, fun i hi => (setRow_other v q i _ (by omega)).trans (hv.block i hi)⟩
        exact ⟨undef, rfl, ⟨hb', q, e, A, c, setRow_heap _ _ _ _ _ _ hq, hp.keep (keep_setForm hq)⟩, fun h => by simp at h, fun j u hj h => h.store hq rfl⟩
      refine OpsPh.cons _ _ (OpPh.last (k := 1) rfl rfl rfl fun b v hs hsz hv hg => ⟨rfl, ?_⟩) (OpsPh.nil _ _)
      refine wp_valued (exec_assign rfl (dep hg 0 rfl rfl rfl rfl)) ⟨_, rfl, ?_, fun _ => rfl, fun j u hj h => h⟩
      rw [getD_put _ _ _ _ (by rw [hsz]; decide), if_neg (by decide)]
      exact hv
    · intro L b' w' hL hsz hd hs hC hall
      have h := hC.end_ (hL 9 (by decide))
      have h9 : b'.tmps.getD 5 undef = .bool (isK x.k) := (hall 9 _ _ rfl rfl : LookF _ _ _ 9 _ _)
      refine hK _ _ (Met.intro (hJ _ _ ?_))
      exact ⟨b'.tmps.getD 4 undef, b'.tmps.getD 5 undef, b'.tmps.getD 7 undef, b'.tmps.getD 8 undef, b'.tmps.getD 9 undef, b'.tmps.getD 10 undef, b'.tmps.getD 11 undef, b'.tmps.getD 12 undef, b'.tmps.getD 13 undef, ⟨h9, h⟩, (act_known hsz hd hs).trans (by kernel_rfl)⟩
  obtain ⟨rfl, hbc, q, rfl, A, c, hq, hp⟩ := hcut
  have hb : Below w.heap.size w wc := hbW.out.trans (hbc.mono (by rw [hsz.out]; omega))
  have hxc : RecAt x wc w.heap.size := hx.out.below hbc hlt.out
  have x0 : wc.cell? ⟨w.heap.size, 0, none⟩ = _ := hxc.cell 0
  have x1 : wc.cell? ⟨w.heap.size, 1, none⟩ = _ := hxc.cell 1
  have x2 : wc.cell? ⟨w.heap.size, 2, none⟩ = _ := hxc.cell 2
  have x3 : wc.cell? ⟨w.heap.size, 3, none⟩ = _ := hxc.cell 3
  have x4 : wc.cell? ⟨w.heap.size, 4, none⟩ = _ := hxc.cell 4
  have x5 : wc.cell? ⟨w.heap.size, 5, none⟩ = _ := hxc.cell 5
  have x6 : wc.cell? ⟨w.heap.size, 6, none⟩ = _ := hxc.cell 6
  have x7 : wc.cell? ⟨w.heap.size, 7, none⟩ = _ := hxc.cell 7
  have x8 : wc.cell? ⟨w.heap.size, 8, none⟩ = _ := hxc.cell 8
  have x9 : wc.cell? ⟨w.heap.size, 9, none⟩ = _ := hxc.cell 9
  have x10 : wc.cell? ⟨w.heap.size, 10, none⟩ = _ := hxc.cell 10
  have x11 : wc.cell? ⟨w.heap.size, 11, none⟩ = _ := hxc.cell 11
  simp only [Rc.cells, List.getElem?_cons_zero, List.getElem?_cons_succ] at x0 x1 x2 x3 x4 x5 x6 x7 x8 x9 x10 x11
  have q1 : wc.cell? ⟨q, 1, none⟩ = some (.slice A (parts x.k).length c) := cell_of_row wc q 1 _ _ _ hq
  have hM := rightM_eq x
  have Hb := Lib.hid hb
  have Hxc := Lib.hid hxc
  clear hq hb hbc hxc
  have hno : rightM x = false → BytesErr w.heap.size (putM x) (.returned (.tuple #[.slice none 0 0, .int .i64 2])) wc := by
    intro h
    unfold putM
    rw [if_neg (by rw [h]; simp)]
    exact ⟨_, rfl, World.ownsRow_nil _ _ _ _⟩
  have Hno := Lib.hid hno
  clear hno
  cases hk : isK x.k
  · rw [hk, Bool.false_and] at hM
    have HM := Lib.hid hM
    clear hM
    go_wp2
    go_ret2
    exact ⟨Hno.out HM.out, Hb.out⟩
  · rw [hk, Bool.true_and] at hM
    have Hcall := Lib.hid (right_any x A c wc hp)
    have Hp := Lib.hid hp
    have HM := Lib.hid hM
    clear hM hp
    cases hr : rightP x
    · have hrF : Hid (rightM x = false) := HM.out.trans hr
      rw [hr] at Hcall
      go_wp2_with (go_at_call 31; refine Hcall.out.mono ?_; rintro e w2 ⟨rfl, hb2⟩)
      go_ret2
      unfold putM
      rw [if_neg (by rw [hrF.out]; simp)]
      exact ⟨⟨_, rfl, World.ownsRow_nil _ _ _ _⟩, Hb.out.trans (hb2.mono Hb.out.size)⟩
    · have hrT : Hid (rightM x = true) := HM.out.trans hr
      rw [hr] at Hcall
      go_upto_region 4 with (go_at_call 31; refine Hcall.out.mono ?_; rintro e w2 ⟨rfl, hb2⟩)
      have hgc : w.heap.size < wc.heap.size := Hxc.out.lt
      obtain ⟨W3, hW3⟩ : ∃ W3, Hid (W3 = w2.alloc (.cells #[.slice none 0 0] 64)) := ⟨_, rfl⟩
      have hb3 : Below w2.heap.size w2 W3 := by rw [hW3.out]; exact below_new _ _
      have hx2 := Hxc.out.below hb2 hgc
      have hx3 : RecAt x W3 w.heap.size := hx2.below hb3 hx2.lt
      have hp3 : PartsAt W3 A (parts x.k) := (Hp.out.below hb2).below hb3
      have hw3 : W3.heap[w2.heap.size]? = some (.cells #[.slice none 0 0] 64 (0, 0)) := by rw [hW3.out]; exact heap_alloc_new _ _
      have hqlt := World.block_lt_of_cell? wc _ q1
      have q2 : w2.cell? ⟨q, 1, none⟩ = some (.slice A (parts x.k).length c) := (hb2.cell (p := ⟨q, 1, none⟩) hqlt).trans q1
      have q3 : W3.cell? ⟨q, 1, none⟩ = some (.slice A (parts x.k).length c) := (hb3.cell (p := ⟨q, 1, none⟩) (Nat.lt_of_lt_of_le hqlt hb2.size)).trans q2
      obtain ⟨hn64, ht64⟩ := right_names hrT.out
      have hcw := walkWr_any x Hok.out (by omega) (by omega) x.k w.heap.size w2.heap.size A c W3 hx3 hw3 hp3
      have Hcw := Lib.hid hcw
      have hbl := body_small Hok.out hrT.out
      obtain ⟨l, hl⟩ : ∃ l, Hid (l = body x (allP x.k)) := ⟨_, rfl⟩
      rw [← hl.out] at Hcw hbl
      have Hbl := Lib.hid hbl
      have HbAll := Lib.hid ((Hb.out.trans (hb2.mono Hb.out.size)).trans (hb3.mono (Nat.le_trans Hb.out.size hb2.size)))
      have Hx3 := Lib.hid hx3
      have Hlt3 := Lib.hid (show w.heap.size < w2.heap.size from hx2.lt)
      clear hcw hbl hp3 hw3 hx2 hx3 hb3 hn64 ht64 q2 x0 x1 x2 x3 x4 x5 x6 x7 x8 x9 x10 x11
      go_upto_region 5 with fail
      rw [← hW3.out]
      go_upto_region 6 with (go_at_call 32; refine Hcw.out.mono ?_; rintro e w4 ⟨rfl, ⟨v, hv, hown⟩, hbut⟩)
      have hw3s : W3.heap.size = w2.heap.size + 1 := by rw [hW3.out]; simp
      have hx4 : RecAt x w4 w.heap.size := Hx3.out.but hbut Hx3.out.lt (by have := Hlt3.out; simp; omega)
      obtain ⟨A2, c2, rfl, _, _, hr4⟩ := own_form hown
      have y0 : w4.cell? ⟨w.heap.size, 0, none⟩ = some (.int .u8 (x.k : Int)) := hx4.cell 0
      have y1 : w4.cell? ⟨w2.heap.size, 0, none⟩ = some (.slice A2 l.length c2) := cell_of_row w4 _ 0 _ _ _ hv
      have hb4 : Below w.heap.size w w4 := HbAll.out.trans (hbut.below (by have := HbAll.out.size; omega) (by have := Hlt3.out; simp; omega))
      obtain ⟨n, hn⟩ : ∃ n, Hid (l.length = n) := ⟨_, rfl⟩
      rw [hn.out] at y1
      have Hcp := Lib.hid (frPut_k (c := c2) hn.out Hok.out.k (by have := Hbl.out; rw [hn.out] at this; omega) (Nat.le_refl _) hr4)
      have Hb4 := Lib.hid hb4
      clear hx4 hb4 hown hbut hv hr4 hw3s
      go_wp2_with (go_at_call 33; refine Hcp.out.mono ?_; rintro e w5 ⟨⟨v5, rfl, hown5⟩, hb5⟩)
      go_ret2
      unfold putM
      rw [if_pos hrT.out, ← hl.out]
      exact ⟨⟨_, rfl, own_mono hown5 Hb4.out.size⟩, Hb4.out.trans (hb5.mono Hb4.out.size)⟩
end Go.Proofs.Ytfhcpjnjemojgaa
