/- The walk of the reference's Put. Conditions: texts of at most 2^19 bytes. -/
import Derived.Test.YtfhcpjnjemojgaaKRcP
import Derived.Test.YtfhcpjnjemojgaaKRcQ
import Derived.Test.YtfhcpjnjemojgaaKGc
namespace Go.Proofs.Ytfhcpjnjemojgaa
open Go.RowKit

theorem num_numR (x : Rc) {j : Nat} (hj : 3 ≤ j) (h9 : j < 9) : numR x j = x.num j := by
  obtain rfl | rfl | rfl | rfl | rfl | rfl : j = 3 ∨ j = 4 ∨ j = 5 ∨ j = 6 ∨ j = 7 ∨ j = 8 := by omega
  all_goals rfl
theorem frRPut_k {k : Nat} {A : Option Addr} {n c B : Nat} {l : List UInt8} {w : World} (hn : l.length = n) (hk : k < 256) (hl : n ≤ 65535) (hB : B ≤ w.heap.size) (hr : RdB w B A l) :
    Calls Try.prog 20 #[.agg #[.int .u8 (k : Int), .slice A n c]] w fun e w' => BytesErr w.heap.size (encFr (UInt8.ofNat k) l, 0) e w' ∧ Below w.heap.size w w' := by
  subst hn
  have h := refFrPut_any ⟨UInt8.ofNat k, ⟨A, c, l⟩⟩ B w (by simp only; omega) hB hr
  rw [joinF_one_ok hl] at h
  unfold Fr.v at h
  simp only [u8_toNat hk] at h
  exact h
theorem body_snoc {x : Rc} {l : List Nat} {n j : Nat} (h : l[n]? = some j) : body x (l.take (n + 1)) = body x (l.take n) ++ encP x j := by
  unfold body
  rw [take_snoc (Lib.hid h), List.flatMap_append]
  simp
theorem body_head (x : Rc) (ps : List Nat) : body x (0 :: 1 :: 2 :: ps) = encs [x.p, x.i, x.q] ++ body x ps := by
  unfold body
  simp [encs, encP, Rc.num]
theorem body_take_le (x : Rc) (l : List Nat) (n : Nat) : (body x (l.take n)).length ≤ (body x l).length := by
  have h : body x l = body x (l.take n) ++ body x (l.drop n) := by unfold body; rw [← List.flatMap_append, List.take_append_drop]
  rw [h, List.length_append]
  omega
theorem rdU_new (l : List Nat) (w : World) (t : TypeId) : RdU (w.alloc (.cells (us l).toArray t)) (w.heap.size + 1) (some ⟨w.heap.size, 0, none⟩) l := by
  refine ⟨by simp [us], fun _ => ⟨_, rfl, by simp, fun j u hu => ?_⟩⟩
  have hadd : (⟨w.heap.size, 0, none⟩ : Addr).add j = ⟨w.heap.size, j, none⟩ := by unfold Addr.add; split <;> simp_all
  rw [hadd, cell_of_row (w.alloc (.cells (us l).toArray t)) w.heap.size j (us l).toArray t (0, 0) (heap_alloc_new w _)]
  simpa using hu
theorem enter_refRight (w : World) (args : Array Value) : (callFunc 15 args).run Try.prog w = .ok (.enter 15 args) w := by kernel_rfl
theorem enter_rtext (w : World) (args : Array Value) : (callFunc 26 args).run Try.prog w = .ok (.enter 26 args) w := by kernel_rfl
theorem enter_rput (w : World) (args : Array Value) : (callFunc 28 args).run Try.prog w = .ok (.enter 28 args) w := by kernel_rfl
/-- What the operations say that append one part's bytes. -/
def PuF (x : Rc) (k n j : Nat) (v0 s : Value) (l : List UInt8) : Nat → Value → World → Prop
  | 0, v, _ => v = v0
  | 1, v, _ => v = x.v
  | 2, v, _ => v = .string (txt (lettersOf k))
  | 3, v, _ => v = .int .i64 (n : Int)
  | 4, v, _ => v = .int .u8 (letterOf j : Int)
  | 5, v, _ => v = s
  | 6, v, w => ∃ A c B, v = .slice A l.length c ∧ B ≤ w.heap.size ∧ RdB w B A l
  | _, _, _ => True
theorem PuF.keep {x : Rc} {k n j : Nat} {v0 s : Value} {l : List UInt8} (i : Nat) (u : Value) (w w' : World) (hb : Below w.heap.size w w') (h : PuF x k n j v0 s l i u w) : PuF x k n j v0 s l i u w' :=
  match i, h with
  | 0, h | 1, h | 2, h | 3, h | 4, h | 5, h => h
  | 6, ⟨A, c, B, h1, h2, h3⟩ => ⟨A, c, B, h1, Nat.le_trans h2 hb.size, h3.below (hb.mono h2)⟩
  | _ + 7, h => h
def PuC (W : World) (x : Rc) (g G : Nat) (v0 : Value) (l : List UInt8) (w : World) : Prop := Below W.heap.size W w ∧ RRec x w g ∧ w.ownsRow G 5 1 v0 l.length (bs l)
theorem PuC.keep {W : World} {x : Rc} {g G : Nat} {v0 : Value} {l : List UInt8} (w w' : World) (hb : Below w.heap.size w w') (hc : PuC W x g G v0 l w) : PuC W x g G v0 l w' := ⟨hc.1.trans (hb.mono hc.1.size), hc.2.1.keep hb, own_below hc.2.2 hb (Nat.le_refl _)⟩
theorem ans_row {base : Nat} {f : FuncId} {args : Array Value} {w : World} {l : List UInt8} (h : Calls Try.prog f args w fun e w' => ∃ v, e = .returned v ∧ w'.ownsRow base 5 1 v l.length (bs l) ∧ Below w.heap.size w w') : Calls Try.prog f args w fun e w' => ∃ u, e = .returned u ∧ Below w.heap.size w w' ∧ ∃ A c B, u = .slice A l.length c ∧ B ≤ w'.heap.size ∧ RdB w' B A l := by
  refine h.mono ?_
  rintro e w' ⟨v, rfl, ho, hb⟩
  obtain ⟨A, c, rfl, _, _, hr⟩ := own_form ho
  exact ⟨_, rfl, hb, A, c, _, rfl, Nat.le_refl _, hr⟩
theorem calls_as {f : FuncId} {args args' : Array Value} {w : World} {Q : Ending → World → Prop} (h : args = args') (hc : Calls Try.prog f args' w Q) : Calls Try.prog f args w Q := h ▸ hc
set_option maxHeartbeats 8000000 in
set_option maxRecDepth 100000 in
theorem refRecPut_any (x : Rc) (hok : x.Ok) (w : World) : Calls Try.prog 10 #[x.v] w fun e w' => BytesErr w.heap.size (putM x) e w' ∧ Below w.heap.size w w' := by
  obtain ⟨W, hW⟩ : ∃ W, Hid (W = w.alloc (.cells x.cells.toArray 31)) := ⟨_, rfl⟩
  have hbW : Hid (Below w.heap.size w W) := by rw [hW.out]; exact below_new _ _
  have hx : Hid (RRec x W w.heap.size) := by rw [hW.out]; exact rrec_new x w
  have hsz := Lib.hid (show W.heap.size = w.heap.size + 1 by rw [hW.out]; simp)
  have HW' := Lib.hid (show w.alloc (.cells #[.int .u8 (x.k : Int), .int .u64 (x.p : Int), .int .u64 (x.i : Int), .int .u64 (x.q : Int), .int .u64 (x.e : Int), .int .u64 (x.u : Int), .int .u64 (x.r : Int), .int .u64 (x.c : Int), .int .u64 (x.z : Int), .int .u64 (x.s : Int), .string (txt x.n), .string (txt x.t)] 31) = W from hW.out.symm)
  have Hok := Lib.hid hok
  clear hok
  have Hri := Lib.hid (refRight_any x W)
  unfold Rc.v
  go_enter Try.func10, Try.ntmps10
  go_upto_region 1 with fail
  rw [HW'.out]
  refine wp_region_lit ?_
  refine wpList_runG (v := x.v) (w' := W) (by kernel_rfl) (exec_loadRRec (x := .tmp 1) (g := w.heap.size) rfl (by kernel_rfl) hx.out.cells12) ?_
  go_frame
  refine wpList_callG (by kernel_rfl) (exec_call1 (v := x.v) (enter_refRight _) rfl (by kernel_rfl)) ?_
  refine Hri.out.mono ?_
  rintro e w1 ⟨rfl, hb1⟩
  refine ⟨_, rfl, ?_⟩
  go_frame
  refine wpList_run (v := .bool (!rightM x)) (w' := w1) rfl (by kernel_rfl) ?_
  go_frame
  have hx1 := Lib.hid (hx.out.keep hb1)
  have Hb1 := Lib.hid (hbW.out.trans (hb1.mono (by rw [hsz.out]; omega)))
  have HG1 := Lib.hid hb1.size
  clear hb1
  cases hr : rightM x
  · go_wp2
    go_ret2
    unfold putM
    rw [if_neg (by rw [hr]; simp)]
    exact ⟨⟨_, rfl, World.ownsRow_nil _ _ _ _⟩, Hb1.out⟩
  · have Hr := Lib.hid hr
    have d0 : w1.cell? ⟨w.heap.size, 0, none⟩ = some (.int .u8 (x.k : Int)) := hx1.out.cell 0
    have d1 : w1.cell? ⟨w.heap.size, 1, none⟩ = some (.int .u64 (x.p : Int)) := hx1.out.cell 1
    have d2 : w1.cell? ⟨w.heap.size, 2, none⟩ = some (.int .u64 (x.i : Int)) := hx1.out.cell 2
    have d3 : w1.cell? ⟨w.heap.size, 3, none⟩ = some (.int .u64 (x.q : Int)) := hx1.out.cell 3
    have hgl := hx1.out.lt
    have Hall : Hid (Calls Try.prog 23 #[.slice (some ⟨w1.heap.size, 0, none⟩) 3 3] (w1.alloc (.cells #[.int .u64 (x.p : Int), .int .u64 (x.i : Int), .int .u64 (x.q : Int)] 22)) fun e w' => ∃ v, e = .returned v ∧ w'.ownsRow (w1.heap.size + 1) 5 1 v (encs [x.p, x.i, x.q]).length (bs (encs [x.p, x.i, x.q])) ∧ Below (w1.heap.size + 1) (w1.alloc (.cells #[.int .u64 (x.p : Int), .int .u64 (x.i : Int), .int .u64 (x.q : Int)] 22)) w') := by
      have h := refAll_any (some ⟨w1.heap.size, 0, none⟩) 3 [x.p, x.i, x.q] (w1.alloc (.cells (us [x.p, x.i, x.q]).toArray 22)) (by simp) (by rw [show (w1.alloc (.cells (us [x.p, x.i, x.q]).toArray 22)).heap.size = w1.heap.size + 1 by simp]; exact rdU_new _ _ _) (by
        intro n hn
        simp only [List.mem_cons, List.not_mem_nil, or_false] at hn
        rcases hn with rfl | rfl | rfl
        · exact Hok.out.num 0
        · exact Hok.out.num 1
        · exact Hok.out.num 2)
      rw [show (w1.alloc (.cells (us [x.p, x.i, x.q]).toArray 22)).heap.size = w1.heap.size + 1 by simp] at h
      exact h
    obtain ⟨hn64, ht64⟩ := right_names Hr.out
    have hbl := body_small Hok.out Hr.out
    have Hbl := Lib.hid (show (body x (allP x.k)).length ≤ 518 from hbl)
    have Hbb := Lib.hid (show Below w1.heap.size w1 (w1.alloc (.cells #[.int .u64 (x.p : Int), .int .u64 (x.i : Int), .int .u64 (x.q : Int)] 22)) from below_new _ _)
    have Hname := Lib.hid hn64
    have Htext := Lib.hid ht64
    clear hbl hn64 ht64
    go_upto_region 4 with (go_at_call 23; refine Hall.out.mono ?_; rintro e w2 ⟨v2, rfl, hown2, hb2⟩)
    have hb12 : Below w1.heap.size w1 w2 := Hbb.out.trans (hb2.mono (Nat.le_succ _))
    have Hx2 := Lib.hid (hx1.out.keep hb12)
    have Hb2 := Lib.hid (Hb1.out.trans (hb12.mono Hb1.out.size))
    obtain ⟨G, hG⟩ : ∃ G, Hid (G = w.heap.size + 1) := ⟨_, rfl⟩
    have hgG := Lib.hid (show w.heap.size < G by rw [hG.out]; omega)
    have Hown2 := Lib.hid (own_mono (base := w1.heap.size + 1) (base' := G) hown2 (by rw [hG.out]; omega))
    have HGw2 := Lib.hid (show G ≤ w2.heap.size by rw [hG.out]; exact Hx2.out.lt)
    clear hown2 hb2 hb12 d0 d1 d2 d3 hgl
    have e0 : w2.cell? ⟨w.heap.size, 0, none⟩ = some (.int .u8 (x.k : Int)) := Hx2.out.cell 0
    obtain ⟨L, hL⟩ : ∃ L, Hid (L = txt (lettersOf x.k)) := ⟨_, rfl⟩
    have hLz : L.size = (parts x.k).length := by rw [hL.out, txt_size, letters_len]
    obtain ⟨m, hm⟩ : ∃ m, Hid (m = (parts x.k).length) := ⟨_, rfl⟩
    rw [← hm.out] at hLz
    have hm4 : (m : Int) ≤ 4 := by have := parts_len x.k; rw [← hm.out] at this; omega
    have Hparts := Lib.hid (parts_any x.k w2)
    rw [← hL.out] at Hparts
    go_upto_region 5 with (go_at_call 24; refine Hparts.out.mono ?_; rintro e w3 ⟨rfl, hb3⟩)
    have Hx3 := Lib.hid (Hx2.out.keep hb3)
    have Hb3 := Lib.hid (Hb2.out.trans (hb3.mono Hb2.out.size))
    have Hown3 := Lib.hid (own_below Hown2.out hb3 (Nat.le_refl _))
    clear e0 hb3
    go_wp2
    go_loopw [4, 6] (fun v i wr => ∃ n : Nat, n ≤ m ∧ i = .int .i64 (n : Int) ∧ Hid (RRec x wr w.heap.size) ∧ Hid (wr.ownsRow G 5 1 v (encs [x.p, x.i, x.q] ++ body x ((parts x.k).take n)).length (bs (encs [x.p, x.i, x.q] ++ body x ((parts x.k).take n)))) ∧ Hid (Below w.heap.size w wr)) (fun _ i _ => m - (intOf i).toNat)
    case atStart => exact ⟨0, by omega, rfl, Hx3, by exact Lib.hid (by simpa [body] using Hown3.out), Hb3⟩
    case round =>
    obtain ⟨n, hn, rfl, hxr, hown, hbr⟩ := hrel
    by_cases hlt : n < m
    · obtain ⟨j, hj⟩ : ∃ j, Hid ((parts x.k)[n]? = some j) := ⟨_, List.getElem?_eq_getElem (by rw [← hm.out]; exact hlt)⟩
      have hj3 := Lib.hid (parts_le (List.mem_of_getElem? hj.out))
      obtain ⟨l, hl⟩ : ∃ l, Hid (l = encs [x.p, x.i, x.q] ++ body x ((parts x.k).take n)) := ⟨_, rfl⟩
      rw [← hl.out] at hown
      have hlt' : (n : Int) < (m : Int) := by omega
      have hGw := Lib.hid (show G ≤ wr.heap.size by rw [hG.out]; exact hxr.out.lt)
      have Hll := Lib.hid (show l.length + (encP x j).length ≤ 1000 by
        have h1 := body_take_le x (parts x.k) n
        have h2 := encP_le Hok.out Hname.out Htext.out j
        have h3 := Hbl.out
        rw [allP, body_head, List.length_append] at h3
        rw [hl.out, List.length_append]
        omega)
      obtain ⟨v0, hv0⟩ : ∃ v0, v0 = u4 := ⟨_, rfl⟩
      subst hv0
      by_cases h9 : 9 ≤ j
      · have h9d : decide (9 ≤ j) = true := decide_eq_true h9
        have Hit := Lib.hid (fun v => isText_any hj3.out v)
        have Hlen := Lib.hid (show (txR x j).length ≤ 64 by
          rw [tx_txR x ⟨h9, hj3.out.2⟩]
          unfold Rc.tx
          have := Hname.out
          have := Htext.out
          split <;> first | assumption | simp)
        have HE : Hid (∀ v : World, Calls Try.prog 26 #[.string (txt (txR x j))] v fun e w' => ∃ u, e = .returned u ∧ Below v.heap.size v w' ∧ ∃ A c B, u = .slice A (encP x j).length c ∧ B ≤ w'.heap.size ∧ RdB w' B A (encP x j)) := Lib.hid fun v => ans_row (by
          have h := refText_any (txt (txR x j)) v (by rw [txt_size]; have := Hlen.out; omega)
          rw [txt_data, tx_txR x ⟨h9, hj3.out.2⟩, ← encP_txt h9] at h
          rw [tx_txR x ⟨h9, hj3.out.2⟩]
          exact h)
        go_upto_region 8 with fail
        refine wp_region_lit (wpList_run (v := .string L) (w' := wr) rfl (by kernel_rfl) (wpList_run (v := .int .i64 (n : Int)) (w' := wr) rfl (by kernel_rfl) ?_))
        go_frame
        refine wpList_run (v := .int .u8 (letterOf j : Int)) (w' := wr) rfl (exec_letter (x := .tmp 27) (y := .tmp 28) hL.out hj.out rfl (by kernel_rfl) (by kernel_rfl)) ?_
        go_frame
        refine wpList_call rfl (exec_call1 (v := .int .u8 (letterOf j : Int)) (enter_isText _) rfl (by kernel_rfl)) ((isText_any hj3.out wr).mono ?_)
        rintro e w4 ⟨rfl, rfl⟩
        refine ⟨_, rfl, ?_⟩
        rw [h9d]
        go_frame
        go_upto_region 9 with fail
        obtain ⟨wo, rfl⟩ : ∃ wo : World, wo = wr := ⟨_, rfl⟩
        refine wp_last ?_
        go_cut [4] from 31 to 38 (fun v4 wx => RRec x wx w.heap.size ∧ wx.ownsRow G 5 1 v4 (l ++ encP x j).length (bs (l ++ encP x j)) ∧ Below w.heap.size w wx)
        case first =>
          rename_i J K1 hJ hK
          rw [hL.out]
          refine wp_region_tailP (n := 54) (m := 7) (PuF x x.k n j v0 (.string (txt (txR x j))) (encP x j)) (PuC wo x w.heap.size G v0 l) (by kernel_rfl) (by kernel_rfl) rfl rfl (by decide) (by kernel_rfl) (by kernel_rfl) ?_ ?_ ?_
          · exact ⟨(Below.refl _ _).drew, hxr.out, hown.out⟩
          rotate_left
          · intro b' w' hsz hd hs hc hall
            have h0 : b'.tmps.getD 31 undef = v0 := hall 0 _ _ (by decide) rfl rfl
            obtain ⟨A6, c6, B6, h6, hB6, hr6⟩ : PuF x x.k n j v0 (.string (txt (txR x j))) (encP x j) 6 (b'.tmps.getD 37 undef) w' := hall 6 _ _ (by decide) rfl rfl
            refine push_row (.tmp 31) (.tmp 37) hc.2.2 (by have := hGw.out; have := hbr.out.size; have := hc.1.size; omega) (hr6.more hB6) (by have := Hll.out; omega) rfl rfl h0 h6 ?_
            intro v2 w2 hown2 hb2 hbs2 hg2
            refine wpList_run (v := v2) (w' := w2) rfl (by rw [act_known hsz hd hs]; kernel_rfl) ?_
            refine hK _ _ (Met.intro (hJ _ _ ?_))
            refine ⟨v2, b'.tmps.getD 31 undef, b'.tmps.getD 32 undef, b'.tmps.getD 33 undef, b'.tmps.getD 34 undef, b'.tmps.getD 35 undef, b'.tmps.getD 36 undef, b'.tmps.getD 37 undef, v2, ⟨hc.2.1.below hb2 (by have := hGw.out; have := hgG.out; omega), hown2, ?_⟩, ?_⟩
            · exact (hbr.out.trans (hc.1.mono hbr.out.size)).trans (hb2.mono (Nat.le_of_lt hgG.out))
            · rw [act_known hsz hd hs, ← hL.out]
              kernel_rfl
          refine OpsOk.cons _ _ (OpOk.run _ _ PuF.keep PuC.keep fun b v hs hc hg => ⟨rfl, _, _, exec_move rfl (hs 4 (by kernel_rfl)), .refl _ _, rfl⟩) ?_
          refine OpsOk.cons _ _ (OpOk.run _ _ PuF.keep PuC.keep fun b v hs hc hg => ⟨rfl, _, _, exec_loadRRec rfl (hs 1 (by kernel_rfl)) hc.2.1.cells12, .refl _ _, rfl⟩) ?_
          refine OpsOk.cons _ _ (OpOk.run _ _ PuF.keep PuC.keep fun b v hs hc hg => ⟨rfl, _, _, exec_move rfl (hs 5 (by kernel_rfl)), .refl _ _, rfl⟩) ?_
          refine OpsOk.cons _ _ (OpOk.run _ _ PuF.keep PuC.keep fun b v hs hc hg => ⟨rfl, _, _, exec_move rfl (hs 6 (by kernel_rfl)), .refl _ _, rfl⟩) ?_
          refine OpsOk.cons _ _ (OpOk.run _ _ PuF.keep PuC.keep fun b v hs hc hg => ⟨rfl, _, _, exec_letter rfl hj.out rfl (dep hg 0 rfl rfl rfl rfl) (dep hg 1 rfl rfl rfl rfl), .refl _ _, rfl⟩) ?_
          refine OpsOk.cons _ _ (OpOk.call _ _ PuF.keep PuC.keep fun b v hs hc hg => ⟨rfl, _, _, exec_call2 (enter_textOf _) rfl (dep hg 0 rfl rfl rfl rfl) (dep hg 1 rfl rfl rfl rfl), ans_v (textOf_any x hj3.out v)⟩) ?_
          refine OpsOk.cons _ _ (OpOk.call _ _ PuF.keep PuC.keep fun b v hs hc hg => ⟨rfl, _, _, exec_call1 (enter_rtext _) rfl (dep hg 0 rfl rfl rfl rfl), HE.out v⟩) ?_
          exact OpsOk.nil _ _
        obtain ⟨hx9, hown9, hb9⟩ := hcut
        have Hx9 := Lib.hid hx9
        have Hb9 := Lib.hid hb9
        have Hown9 := Lib.hid hown9
        clear hx9 hown9 hb9
        go_wp2
        go_roundw
        · exact ⟨n + 1, by omega, by exact rfl, Hx9, by exact Lib.hid (by rw [body_snoc hj.out, ← List.append_assoc, ← hl.out]; exact Hown9.out), Hb9⟩
        · show m - (intOf (.int .i64 ((n : Int) + 1))).toNat < m - (intOf (.int .i64 (n : Int))).toNat
          simp only [intOf]
          omega
      · have h9d : decide (9 ≤ j) = false := decide_eq_false h9
        have Hit := Lib.hid (fun v => isText_any hj3.out v)
        have HE : Hid (∀ v : World, Calls Try.prog 28 #[.int .u64 (numR x j : Int)] v fun e w' => ∃ u, e = .returned u ∧ Below v.heap.size v w' ∧ ∃ A c B, u = .slice A (encP x j).length c ∧ B ≤ w'.heap.size ∧ RdB w' B A (encP x j)) := Lib.hid fun v => ans_row (by
          have h := refPut_any (x.num j) v (Hok.out.num j)
          rw [← encP_num (by omega)] at h
          rw [num_numR x hj3.out.1 (by omega)]
          exact h)
        go_upto_region 8 with fail
        refine wp_region_lit (wpList_run (v := .string L) (w' := wr) rfl (by kernel_rfl) (wpList_run (v := .int .i64 (n : Int)) (w' := wr) rfl (by kernel_rfl) ?_))
        go_frame
        refine wpList_run (v := .int .u8 (letterOf j : Int)) (w' := wr) rfl (exec_letter (x := .tmp 27) (y := .tmp 28) hL.out hj.out rfl (by kernel_rfl) (by kernel_rfl)) ?_
        go_frame
        refine wpList_call rfl (exec_call1 (v := .int .u8 (letterOf j : Int)) (enter_isText _) rfl (by kernel_rfl)) ((isText_any hj3.out wr).mono ?_)
        rintro e w4 ⟨rfl, rfl⟩
        refine ⟨_, rfl, ?_⟩
        rw [h9d]
        go_frame
        go_upto_region 10 with fail
        obtain ⟨wo, rfl⟩ : ∃ wo : World, wo = wr := ⟨_, rfl⟩
        refine wp_last ?_
        go_cut [4] from 39 to 46 (fun v4 wx => RRec x wx w.heap.size ∧ wx.ownsRow G 5 1 v4 (l ++ encP x j).length (bs (l ++ encP x j)) ∧ Below w.heap.size w wx)
        case first =>
          rename_i J K1 hJ hK
          rw [hL.out]
          refine wp_region_tailP (n := 54) (m := 7) (PuF x x.k n j v0 (.int .u64 (numR x j : Int)) (encP x j)) (PuC wo x w.heap.size G v0 l) (by kernel_rfl) (by kernel_rfl) rfl rfl (by decide) (by kernel_rfl) (by kernel_rfl) ?_ ?_ ?_
          · exact ⟨(Below.refl _ _).drew, hxr.out, hown.out⟩
          rotate_left
          · intro b' w' hsz hd hs hc hall
            have h0 : b'.tmps.getD 39 undef = v0 := hall 0 _ _ (by decide) rfl rfl
            obtain ⟨A6, c6, B6, h6, hB6, hr6⟩ : PuF x x.k n j v0 (.int .u64 (numR x j : Int)) (encP x j) 6 (b'.tmps.getD 45 undef) w' := hall 6 _ _ (by decide) rfl rfl
            refine push_row (.tmp 39) (.tmp 45) hc.2.2 (by have := hGw.out; have := hbr.out.size; have := hc.1.size; omega) (hr6.more hB6) (by have := Hll.out; omega) rfl rfl h0 h6 ?_
            intro v2 w2 hown2 hb2 hbs2 hg2
            refine wpList_run (v := v2) (w' := w2) rfl (by rw [act_known hsz hd hs]; kernel_rfl) ?_
            refine hK _ _ (Met.intro (hJ _ _ ?_))
            refine ⟨v2, b'.tmps.getD 39 undef, b'.tmps.getD 40 undef, b'.tmps.getD 41 undef, b'.tmps.getD 42 undef, b'.tmps.getD 43 undef, b'.tmps.getD 44 undef, b'.tmps.getD 45 undef, v2, ⟨hc.2.1.below hb2 (by have := hGw.out; have := hgG.out; omega), hown2, ?_⟩, ?_⟩
            · exact (hbr.out.trans (hc.1.mono hbr.out.size)).trans (hb2.mono (Nat.le_of_lt hgG.out))
            · rw [act_known hsz hd hs, ← hL.out]
              kernel_rfl
          refine OpsOk.cons _ _ (OpOk.run _ _ PuF.keep PuC.keep fun b v hs hc hg => ⟨rfl, _, _, exec_move rfl (hs 4 (by kernel_rfl)), .refl _ _, rfl⟩) ?_
          refine OpsOk.cons _ _ (OpOk.run _ _ PuF.keep PuC.keep fun b v hs hc hg => ⟨rfl, _, _, exec_loadRRec rfl (hs 1 (by kernel_rfl)) hc.2.1.cells12, .refl _ _, rfl⟩) ?_
          refine OpsOk.cons _ _ (OpOk.run _ _ PuF.keep PuC.keep fun b v hs hc hg => ⟨rfl, _, _, exec_move rfl (hs 5 (by kernel_rfl)), .refl _ _, rfl⟩) ?_
          refine OpsOk.cons _ _ (OpOk.run _ _ PuF.keep PuC.keep fun b v hs hc hg => ⟨rfl, _, _, exec_move rfl (hs 6 (by kernel_rfl)), .refl _ _, rfl⟩) ?_
          refine OpsOk.cons _ _ (OpOk.run _ _ PuF.keep PuC.keep fun b v hs hc hg => ⟨rfl, _, _, exec_letter rfl hj.out rfl (dep hg 0 rfl rfl rfl rfl) (dep hg 1 rfl rfl rfl rfl), .refl _ _, rfl⟩) ?_
          refine OpsOk.cons _ _ (OpOk.call _ _ PuF.keep PuC.keep fun b v hs hc hg => ⟨rfl, _, _, exec_call2 (enter_number _) rfl (dep hg 0 rfl rfl rfl rfl) (dep hg 1 rfl rfl rfl rfl), ans_v (number_any x hj3.out v)⟩) ?_
          refine OpsOk.cons _ _ (OpOk.call _ _ PuF.keep PuC.keep fun b v hs hc hg => ⟨rfl, _, _, exec_call1 (enter_rput _) rfl (dep hg 0 rfl rfl rfl rfl), HE.out v⟩) ?_
          exact OpsOk.nil _ _
        obtain ⟨hx9, hown9, hb9⟩ := hcut
        have Hx9 := Lib.hid hx9
        have Hb9 := Lib.hid hb9
        have Hown9 := Lib.hid hown9
        clear hx9 hown9 hb9
        go_wp2
        go_roundw
        · exact ⟨n + 1, by omega, by exact rfl, Hx9, by exact Lib.hid (by rw [body_snoc hj.out, ← List.append_assoc, ← hl.out]; exact Hown9.out), Hb9⟩
        · show m - (intOf (.int .i64 ((n : Int) + 1))).toNat < m - (intOf (.int .i64 (n : Int))).toNat
          simp only [intOf]
          omega
    · obtain rfl : n = m := by omega
      rw [hm.out, List.take_length, ← body_head] at hown
      rw [show (0 :: 1 :: 2 :: parts x.k) = allP x.k from rfl] at hown
      obtain ⟨l, hl⟩ : ∃ l, Hid (l = body x (allP x.k)) := ⟨_, rfl⟩
      rw [← hl.out] at hown Hbl
      obtain ⟨A4, c4, rfl, _, _, hr4⟩ := own_form hown.out
      obtain ⟨N, hN⟩ : ∃ N, Hid (l.length = N) := ⟨_, rfl⟩
      rw [hN.out]
      have e0 : wr.cell? ⟨w.heap.size, 0, none⟩ = some (.int .u8 (x.k : Int)) := hxr.out.cell 0
      have Hcp := Lib.hid (frRPut_k (c := c4) hN.out Hok.out.k (by have := Hbl.out; rw [hN.out] at this; omega) (Nat.le_refl _) hr4)
      clear hown hr4
      go_wp2_with (go_at_call 20; refine Hcp.out.mono ?_; rintro e w5 ⟨⟨v5, rfl, hown5⟩, hb5⟩)
      go_ret2
      unfold putM
      rw [if_pos Hr.out, ← hl.out]
      exact ⟨⟨_, rfl, own_mono hown5 hbr.out.size⟩, hbr.out.trans (hb5.mono hbr.out.size)⟩
end Go.Proofs.Ytfhcpjnjemojgaa
