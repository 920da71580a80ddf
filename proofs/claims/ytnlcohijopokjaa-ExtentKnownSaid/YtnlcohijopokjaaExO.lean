/- The walks of the statements' own helpers: ref, Pick. Conditions: files of at most 1000 parts of 100000 bytes. -/
import Derived.Test.YtnlcohijopokjaaExN
import Derived.Test.YtnlcohijopokjaaExKit
namespace Go.Proofs.Ytnlcohijopokjaa
open Go.RowKit

section
variable {b : Act} {w : World} {o : Oper}
theorem exec_buildRa {x y : Operand} {A : Option Addr} {n c : Nat} {l : List UInt8} {d : Bool} (hn : l.length = n) (ho : o.op = .build 58 #[(0, x), (1, y)]) (h : b.eval x = .slice A n c) (h' : b.eval y = .bool d) : (execOp b.eval o).run Try.prog w = .ok (.value (Pa.mk ⟨A, c, l⟩ d).v) w := by
  have := exec_buildR (w := w) ho h h'
  rw [this]
  unfold Pa.v
  rw [hn]
end
theorem enter_own (w : World) (args : Array Value) : (callFunc 8 args).run Try.prog w = .ok (.enter 8 args) w := by kernel_rfl
theorem ownX {W w : World} {X : Nat → Prop} (A : Option Addr) (c B : Nat) (l : List UInt8) (hX : ∀ b, X b → b < W.heap.size) (hl : l.length ≤ 100000) (hc : Below W.heap.size W w) (hr : RdB w B A l) :
    Calls Try.prog 8 #[.slice A l.length c] w fun e w' => ∃ v, e = .returned v ∧ Below w.heap.size w w' ∧ ∃ A c, v = .slice A l.length c ∧ BsX w' X A l := by
  refine (own_any A c B l w (by omega) hr).mono ?_
  rintro e w' ⟨v, rfl, hown, hb⟩
  obtain ⟨A', c', rfl, _, _, _⟩ := own_form hown
  exact ⟨_, rfl, hb, A', c', rfl, own_avoid hown fun b hb' => Nat.lt_of_lt_of_le (hX b hb') hc.size⟩
def RfF (X : Nat → Prop) (Av : Option Addr) (nv cv g2 gb : Nat) (ad : Addr) (n c k : Nat) (Ar : Option Addr) (nr cr : Nat) (l : List UInt8) (d : Bool) : Nat → Value → World → Prop
  | 0, v, _ => v = .pointer (some ⟨g2, 0, none⟩)
  | 1, v, _ => v = .slice Av nv cv
  | 2, v, _ => v = .pointer (some ⟨gb, 0, none⟩)
  | 3, v, _ => v = .slice (some ad) n c
  | 4, v, _ => v = .int .i64 (k : Int)
  | 5, v, _ => v = .pointer (some (ad.add (k * 2)))
  | 6, v, _ => v = .pointer (some (ad.add (k * 2)))
  | 7, v, _ => v = .slice Ar nr cr
  | 8, v, w => ∃ A c, v = .slice A nr c ∧ BsX w X A l
  | 9, v, _ => v = .pointer (some ⟨gb, 0, none⟩)
  | 10, v, _ => v = .slice (some ad) n c
  | 11, v, _ => v = .int .i64 (k : Int)
  | 12, v, _ => v = .pointer (some (ad.add (k * 2)))
  | 13, v, _ => v = .pointer (some ⟨((ad.add (k * 2))).block, ((ad.add (k * 2))).off + 1, none⟩)
  | 14, v, _ => v = .bool d
  | 15, v, w => ∃ A c, v = (Pa.mk ⟨A, c, l⟩ d).v ∧ BsX w X A l
  | 16, v, w => ∃ p : Pa, p.r.l = l ∧ p.d = d ∧ BsX w X p.r.A p.r.l ∧ ∃ A, v = .slice A 1 1 ∧ Reads w w.heap.size 2 A 1 (pcells [p])
  | _, _, _ => True
theorem RfF.keep {X : Nat → Prop} {Av : Option Addr} {nv cv g2 gb : Nat} {ad : Addr} {n c k : Nat} {Ar : Option Addr} {nr cr : Nat} {l : List UInt8} {d : Bool} (j : Nat) (u : Value) (w w' : World) (hb : Below w.heap.size w w') (hfact : RfF X Av nv cv g2 gb ad n c k Ar nr cr l d j u w) : RfF X Av nv cv g2 gb ad n c k Ar nr cr l d j u w' :=
  match j, hfact with
  | 0, h => h
  | 1, h => h
  | 2, h => h
  | 3, h => h
  | 4, h => h
  | 5, h => h
  | 6, h => h
  | 7, h => h
  | 8, h => by obtain ⟨A, c, e, h⟩ := h; exact ⟨A, c, e, h.below hb⟩
  | 9, h => h
  | 10, h => h
  | 11, h => h
  | 12, h => h
  | 13, h => h
  | 14, h => h
  | 15, h => by obtain ⟨A, c, e, h⟩ := h; exact ⟨A, c, e, h.below hb⟩
  | 16, h => by obtain ⟨p, e1, e2, h, A, e3, h2⟩ := h; exact ⟨p, e1, e2, h.below hb, A, e3, (Reads.below h2 hb).more hb.size⟩
  | _ + 17, h => h

structure RfSt (W wr : World) (g : Nat) (v : Value) (qs : List Pa) (m : List Pt) : Prop where
  f : wr.heap[g]? = some (.cells #[v] 34 (0, 0))
  own : OwnP 58 W.heap.size (XW W) wr v qs
  say : says qs = m
  touch : Touch (fun k => k = g) W wr
set_option maxHeartbeats 2000000 in
set_option maxRecDepth 100000 in
theorem lref_any {X : Nat → Prop} {A : Option Addr} {c : Nat} {ps : List Pa} {w : World} (hs : SmM (says ps)) (hr : PsX w X A ps) :
    Calls Try.prog 31 #[.agg #[.slice A ps.length c]] w fun e w' => ∃ v, e = .returned (.agg #[v]) ∧ Below w.heap.size w w' ∧ FileV w' (XW w) v (says ps) := by
  have hlen : (ps.length : Int) ≤ 1000 := by have := hs.n; rw [says_len] at this; omega
  obtain ⟨gb, hb0⟩ : ∃ g, Hid (w.heap.size = g) := ⟨_, rfl⟩
  obtain ⟨g1, h1⟩ : ∃ g, Hid (w.heap.size + 1 = g) := ⟨_, rfl⟩
  obtain ⟨g2, h2⟩ : ∃ g, Hid (w.heap.size + 1 + 1 = g) := ⟨_, rfl⟩
  obtain ⟨W, hW⟩ : ∃ W, Hid (((w.alloc (.cells #[.slice A ps.length c] 30)).alloc (.cells #[.slice none 0 0] 34)).alloc (.cells #[.slice none 0 0] 34) = W) := ⟨_, rfl⟩
  have hbW : Hid (Below w.heap.size w W) := by rw [← hW.out]; exact ((below_new _ _).alloc (by simp) _).alloc (by simp; omega) _
  have hsW : Hid (W.heap.size = w.heap.size + 3) := by rw [← hW.out]; show _ = _; simp
  have fb : Hid (W.heap[gb]? = some (.cells #[.slice A ps.length c] 30 (0, 0))) := by
    rw [← hW.out, ← hb0.out]; show _ = _
    rw [heap_alloc_old _ _ (by simp; omega), heap_alloc_old _ _ (by simp)]
    exact heap_alloc_new _ _
  have f1 : Hid (W.heap[g1]? = some (.cells #[.slice none 0 0] 34 (0, 0))) := by
    rw [← hW.out, ← h1.out]; show _ = _
    rw [heap_alloc_old _ _ (by simp)]
    have := heap_alloc_new (w.alloc (.cells #[.slice A ps.length c] 30)) (.cells #[.slice none 0 0] 34)
    simpa using this
  have f2 : Hid (W.heap[g2]? = some (.cells #[.slice none 0 0] 34 (0, 0))) := by
    rw [← hW.out, ← h2.out]; show _ = _
    have := heap_alloc_new ((w.alloc (.cells #[.slice A ps.length c] 30)).alloc (.cells #[.slice none 0 0] 34)) (.cells #[.slice none 0 0] 34)
    simpa using this
  have gbl : Hid (gb < W.heap.size) := by rw [hsW.out, ← hb0.out]; show _ < _; omega
  have g1l : Hid (g1 < W.heap.size) := by rw [hsW.out, ← h1.out]; show _ < _; omega
  have g2l : Hid (g2 < W.heap.size) := by rw [hsW.out, ← h2.out]; show _ < _; omega
  have gb2 : Hid (gb ≠ g2) := by rw [← hb0.out, ← h2.out]; show _ ≠ _; omega
  have g12 : Hid (g1 ≠ g2) := by rw [← h1.out, ← h2.out]; show _ ≠ _; omega
  have g1w : Hid (w.heap.size ≤ g1) := by rw [← h1.out]; show _ ≤ _; omega
  have g2w : Hid (w.heap.size ≤ g2) := by rw [← h2.out]; show _ ≤ _; omega
  have hX2 : Hid (XV X w.heap.size 3 g2) := Or.inr (by rw [← h2.out]; exact ⟨by omega, by omega⟩)
  have hrW : Hid (PsX W (XV X w.heap.size 3) A ps) := hr.vars hbW.out 3
  have Hs := Lib.hid hs
  have hstart : Hid (RfSt W W g2 (.slice none 0 0) [] (says (ps.take 0))) := ⟨f2.out, OwnP.nil _ _ _ _, rfl, .refl _ _⟩
  clear hs hr
  go_enter Try.func31, Try.ntmps31
  go_upto_region 2 with fail
  rw [hW.out, h2.out, h1.out, hb0.out]
  go_wp2
  go_loopw [4] (fun i wr => ∃ (k : Nat) (v : Value) (qs : List Pa), k ≤ ps.length ∧ i = .int .i64 (k : Int) ∧ Hid (RfSt W wr g2 v qs (says (ps.take k)))) (fun i _ => ps.length - (intOf i).toNat)
  case atStart => exact ⟨0, _, _, by omega, rfl, hstart⟩
  case round =>
    clear hstart
    obtain ⟨k, v, qs, hk, rfl, hst⟩ := hrel
    have ht := hst.out.touch
    have hbr : Below w.heap.size W wr := ht.below hbW.out.size (fun b hb => by rw [hb]; exact g2w.out)
    have cb := Lib.hid (box_cell ((ht.block gb gbl.out gb2.out).trans fb.out))
    have hcb := cb.out
    have hqk : qs.length ≤ 1000 := by
      have := hst.out.say
      rw [← says_len, this, says_take, List.length_take]
      have := Hs.out.n
      omega
    by_cases hlt : k < ps.length
    · obtain ⟨ad, p, rfl, hab, _, hca, hcd, hx, hrow⟩ := (hrW.out.keep (ht.mono fun b _ e => by rw [e]; exact hX2.out)).at_ hlt
      obtain ⟨Av, cv, rfl, _, _⟩ := hst.out.own.reads (fun b hb => hb)
      obtain ⟨nv, hnv⟩ : ∃ nv, Hid (qs.length = nv) := ⟨_, rfl⟩
      have hv := hst.out.f
      rw [hnv.out] at hv
      have Hown := Lib.hid hst.out.own
      rw [hnv.out] at Hown
      have hgl : Hid (g2 < wr.heap.size) := Nat.lt_of_lt_of_le g2l.out ht.size
      have hbl : Hid (gb < wr.heap.size) := Nat.lt_of_lt_of_le gbl.out ht.size
      have cg := Lib.hid (box_cell hv)
      have hadl : Hid ((ad.add (k * 2)).block < wr.heap.size) := by rw [block_of_add]; exact hab
      have ca := Lib.hid hca
      have cd := Lib.hid hcd
      have hkl := Lib.hid hlt
      have Hl := Lib.hid (Hs.out.at_ hx)
      have Hrow := Lib.hid hrow.reads
      have Ht := Lib.hid ht
      have Hvv := Lib.hid hv
      have Hqk := Lib.hid hqk
      have Hsay := Lib.hid hst.out.say
      have hXB : Hid (∀ b, (XB (XW W) (.slice Av nv cv)) b → b < wr.heap.size) := by
        intro b hb
        rcases hb with hb | hb
        · exact Nat.lt_of_lt_of_le (show b < W.heap.size from hb) ht.size
        · exact (Hown.out.head.lt b hb).2
      obtain ⟨nr, hnr⟩ : ∃ nr, Hid (p.r.l.length = nr) := ⟨_, rfl⟩
      have hown : ∀ w0, Below wr.heap.size wr w0 → Calls Try.prog 8 #[.slice p.r.A nr p.r.c] w0 fun e w' => ∃ u, e = .returned u ∧ Below w0.heap.size w0 w' ∧ ∃ A c, u = .slice A nr c ∧ BsX w' (XB (XW W) (.slice Av nv cv)) A p.r.l := by
        intro w0 hc
        rw [← hnr.out]
        exact ownX _ _ wr.heap.size _ hXB.out Hl.out hc (Reads.below Hrow.out hc)
      rw [hnr.out] at ca
      clear hv hca hcd hrow ht hbr hst hqk
      go_upto_region 5 with fail
      refine wp_last ?_
      go_cut [] from 12 to 30 (fun wx => ∃ (v : Value) (qs' : List Pa), RfSt W wx g2 v qs' (says (ps.take (k + 1))))
      case first =>
        rename_i J K1 hJ hK
        refine wp_region_tailP (n := 32) (m := 17) (RfF (XB (XW W) (.slice Av nv cv)) Av nv cv g2 gb ad ps.length c k p.r.A nr p.r.c p.r.l p.d) (BelC wr) (by kernel_rfl) (by kernel_rfl) rfl rfl (by decide) (by kernel_rfl) (by kernel_rfl) ?_ ?_ ?_
        · exact (Below.refl _ _).drew
        rotate_left
        · intro b' w' hsz hd hs hc hall
          obtain ⟨p', hpl, hpd, hpr, Ap, e16, hrp⟩ : RfF (XB (XW W) (.slice Av nv cv)) Av nv cv g2 gb ad ps.length c k p.r.A nr p.r.c p.r.l p.d 16 (b'.tmps.getD 28 undef) w' := hall 16 _ _ (by decide) rfl rfl
          have e1 : b'.tmps.getD 13 undef = .slice Av nv cv := hall 1 _ _ (by decide) rfl rfl
          have e3 : b'.tmps.getD 3 undef = .pointer (some ⟨g2, 0, none⟩) := hs 3 (by kernel_rfl)
          refine push_ps ptSl2 (.tmp 13) (.tmp 28) (own := qs) (new := [p']) rfl (Hown.out.keep hc) (Nat.le_trans Ht.out.size hc.size) hrp (fun q hq => by rw [List.mem_singleton] at hq; rw [hq]; exact hpr) (by simp only [List.length_cons, List.length_nil]; have := Hqk.out; omega) rfl rfl e1 e16 ?_
          intro v7 w7 hown7 hb7 hz7 hg7 _
          obtain ⟨A7, c7, rfl, _, _⟩ := hown7.reads (fun b hb => hb)
          have j2 := (hb7.block g2 g2l.out).trans ((hc.block g2 hgl.out).trans Hvv.out)
          refine wpList_op rfl (exec_fieldF (x := .tmp 3) rfl ((eval_put_ne (by decide)).trans e3)) ?_
          refine wpList_storeR (.tmp 30) (.tmp 29) rfl rfl (eval_put_eq (size_put hsz) (by decide)) ((eval_put_ne (by decide)).trans (eval_put_eq hsz (by decide))) j2 ?_
          refine hK _ _ (Met.intro (hJ _ _ ?_))
          have ht8 : Touch (fun k => k = g2) w7 (w7.setCell ⟨g2, 0, none⟩ (.slice A7 (qs ++ [p']).length c7)) := Touch.cell1 _ _ _ _
          refine ⟨b'.tmps.getD 12 undef, b'.tmps.getD 13 undef, b'.tmps.getD 14 undef, b'.tmps.getD 15 undef, b'.tmps.getD 16 undef, b'.tmps.getD 17 undef, b'.tmps.getD 18 undef, b'.tmps.getD 19 undef, b'.tmps.getD 20 undef, b'.tmps.getD 21 undef, b'.tmps.getD 22 undef, b'.tmps.getD 23 undef, b'.tmps.getD 24 undef, b'.tmps.getD 25 undef, b'.tmps.getD 26 undef, b'.tmps.getD 27 undef, b'.tmps.getD 28 undef, .slice A7 (qs ++ [p']).length c7, .pointer (some ⟨g2, 0, none⟩), ⟨_, qs ++ [p'], box_set _ j2, hown7.touch (fun b hb => hb) (ht8.mono fun b _ e => by rw [e]; exact g2l.out), ?_, ?_⟩, (congrArg (fun a : Act => (a.put (some 29) _).put (some 30) _) (act_known hsz hd hs)).trans (by kernel_rfl)⟩
          · rw [says_append, Hsay.out, says_snoc hx]
            show _ ++ [(p'.r.l, p'.d)] = _
            rw [hpl, hpd]
          · refine ((Ht.out.then_ (Touch.of (X := fun _ => False) hc) (fun _ _ h => h.elim)).then_ (Touch.grown (X := fun b => W.heap.size ≤ b) hg7 fun x hx => ?_) fun x hx e => ?_).trans ht8
            · exact (Hown.out.head.lt x hx).1
            · exfalso; exact absurd hx (Nat.not_lt.2 e)
        refine OpsOk.cons _ _ (OpOk.run _ _ RfF.keep BelC.keep fun b v hs hc hg => ⟨rfl, _, _, exec_fieldF rfl (hs 3 (by kernel_rfl)), .refl _ _, rfl⟩) ?_
        refine OpsOk.cons _ _ (OpOk.run _ _ RfF.keep BelC.keep fun b v hs hc hg => ⟨rfl, _, _, exec_loadRs rfl (dep hg 0 rfl rfl rfl rfl) ((hc.cell (p := ⟨g2, 0, none⟩) hgl.out).trans cg.out), .refl _ _, rfl⟩) ?_
        refine OpsOk.cons _ _ (OpOk.run _ _ RfF.keep BelC.keep fun b v hs hc hg => ⟨rfl, _, _, exec_fieldE rfl (hs 1 (by kernel_rfl)), .refl _ _, rfl⟩) ?_
        refine OpsOk.cons _ _ (OpOk.run _ _ RfF.keep BelC.keep fun b v hs hc hg => ⟨rfl, _, _, exec_loadPs rfl (dep hg 0 rfl rfl rfl rfl) ((hc.cell (p := ⟨gb, 0, none⟩) hbl.out).trans cb.out), .refl _ _, rfl⟩) ?_
        refine OpsOk.cons _ _ (OpOk.run _ _ RfF.keep BelC.keep fun b v hs hc hg => ⟨rfl, _, _, exec_move rfl (hs 4 (by kernel_rfl)), .refl _ _, rfl⟩) ?_
        refine OpsOk.cons _ _ (OpOk.run _ _ RfF.keep BelC.keep fun b v hs hc hg => ⟨rfl, _, _, exec_atP (k := k) rfl (dep hg 0 rfl rfl rfl rfl) (dep hg 1 rfl rfl rfl rfl) hkl.out, .refl _ _, rfl⟩) ?_
        refine OpsOk.cons _ _ (OpOk.run _ _ RfF.keep BelC.keep fun b v hs hc hg => ⟨rfl, _, _, exec_fieldP0 rfl (dep hg 0 rfl rfl rfl rfl), .refl _ _, rfl⟩) ?_
        refine OpsOk.cons _ _ (OpOk.run _ _ RfF.keep BelC.keep fun b v hs hc hg => ⟨rfl, _, _, exec_loadB rfl (dep hg 0 rfl rfl rfl rfl) ((hc.cell (p := ad.add (k * 2)) hadl.out).trans ca.out), .refl _ _, rfl⟩) ?_
        refine OpsOk.cons _ _ (OpOk.call _ _ RfF.keep BelC.keep fun b v hs hc hg => ⟨rfl, _, _, exec_call1 (enter_own _) rfl (dep hg 0 rfl rfl rfl rfl), hown _ hc⟩) ?_
        refine OpsOk.cons _ _ (OpOk.run _ _ RfF.keep BelC.keep fun b v hs hc hg => ⟨rfl, _, _, exec_fieldE rfl (hs 1 (by kernel_rfl)), .refl _ _, rfl⟩) ?_
        refine OpsOk.cons _ _ (OpOk.run _ _ RfF.keep BelC.keep fun b v hs hc hg => ⟨rfl, _, _, exec_loadPs rfl (dep hg 0 rfl rfl rfl rfl) ((hc.cell (p := ⟨gb, 0, none⟩) hbl.out).trans cb.out), .refl _ _, rfl⟩) ?_
        refine OpsOk.cons _ _ (OpOk.run _ _ RfF.keep BelC.keep fun b v hs hc hg => ⟨rfl, _, _, exec_move rfl (hs 4 (by kernel_rfl)), .refl _ _, rfl⟩) ?_
        refine OpsOk.cons _ _ (OpOk.run _ _ RfF.keep BelC.keep fun b v hs hc hg => ⟨rfl, _, _, exec_atP (k := k) rfl (dep hg 0 rfl rfl rfl rfl) (dep hg 1 rfl rfl rfl rfl) hkl.out, .refl _ _, rfl⟩) ?_
        refine OpsOk.cons _ _ (OpOk.run _ _ RfF.keep BelC.keep fun b v hs hc hg => ⟨rfl, _, _, exec_fieldP1 rfl (dep hg 0 rfl rfl rfl rfl), .refl _ _, rfl⟩) ?_
        refine OpsOk.cons _ _ (OpOk.run _ _ RfF.keep BelC.keep fun b v hs hc hg => ⟨rfl, _, _, exec_loadT rfl (dep hg 0 rfl rfl rfl rfl) ((hc.cell (p := ⟨(ad.add (k * 2)).block, (ad.add (k * 2)).off + 1, none⟩) hadl.out).trans cd.out), .refl _ _, rfl⟩) ?_
        refine OpsOk.cons _ _ (OpOk.run _ _ RfF.keep BelC.keep fun b v hs hc hg => by
            obtain ⟨A3, c3, e3, h3⟩ : RfF (XB (XW W) (.slice Av nv cv)) Av nv cv g2 gb ad ps.length c k p.r.A nr p.r.c p.r.l p.d 8 (b.tmps.getD 20 undef) v := (dep hg 0 rfl rfl rfl rfl)
            exact ⟨rfl, _, _, exec_buildRa hnr.out rfl e3 (dep hg 1 rfl rfl rfl rfl), .refl _ _, A3, c3, rfl, h3⟩) ?_
        refine OpsOk.cons _ _ (OpOk.run _ _ RfF.keep BelC.keep fun b v hs hc hg => by
            obtain ⟨A3, c3, e3, h3⟩ : RfF (XB (XW W) (.slice Av nv cv)) Av nv cv g2 gb ad ps.length c k p.r.A nr p.r.c p.r.l p.d 15 (b.tmps.getD 27 undef) v := (dep hg 0 rfl rfl rfl rfl)
            exact ⟨rfl, _, _, exec_listR (p := ⟨⟨A3, c3, p.r.l⟩, p.d⟩) rfl e3, below_new _ _, ⟨⟨A3, c3, p.r.l⟩, p.d⟩, rfl, rfl, h3.below (below_new _ _), _, rfl, psNew_reads _ _ _⟩) ?_
        exact OpsOk.nil _ _

      obtain ⟨v2, qs2, hst2⟩ := hcut
      have Hst2 := Lib.hid hst2
      clear hst2 hcb
      go_wp2
      go_roundw
      case rel => exact ⟨k + 1, v2, qs2, by omega, by go_num, Hst2⟩
      case measure => simp [intOf]; omega
    · obtain rfl : k = ps.length := by omega
      have j0 := (ht.block g1 g1l.out g12.out).trans f1.out
      have hsay := hst.out.say
      rw [List.take_length] at hsay
      have Hf := Lib.hid (hst.out.own.file (fun b hb => hb) hsay)
      obtain ⟨Av, cv, rfl, _, _⟩ := hst.out.own.reads (fun b hb => hb)
      have c1' := box_cell hst.out.f
      have c0' := box_cell j0
      have z0' := box_frozen j0
      have J0 := Lib.hid j0
      have Hbr := Lib.hid hbr
      clear j0 ht hbr hst hsay
      go_wp2
      refine ret_file2 rfl rfl (box_set _ J0.out) rfl ?_
      have ht3 : Touch (fun k => k = g1) wr (wr.setCell ⟨g1, 0, none⟩ (.slice Av qs.length cv)) := Touch.cell1 _ _ _ _
      exact ⟨_, rfl, hbW.out.trans (Hbr.out.trans (ht3.below (Nat.le_trans hbW.out.size Hbr.out.size) fun b hb => by rw [hb]; exact g1w.out)), (Hf.out.keep (ht3.mono fun b _ e => by rw [e]; exact g1l.out)).mono fun b _ hb => Nat.lt_of_lt_of_le hb hbW.out.size⟩

theorem tmod_bounds (z : Int) : -3 ≤ z.tmod 4 ∧ z.tmod 4 ≤ 3 ∧ (z.tmod 4 + 4) % 4 = z % 4 := by
  have h0 := Int.mul_tdiv_add_tmod z 4
  rcases Int.le_total 0 z with h | h
  · have := Int.tmod_eq_emod_of_nonneg (b := 4) h
    omega
  · have h1 : z.tmod 4 = -((-z).tmod 4) := by rw [Int.neg_tmod, Int.neg_neg]
    have := Int.tmod_eq_emod_of_nonneg (a := -z) (b := 4) (by omega)
    omega
set_option maxHeartbeats 1000000 in
theorem pick_any (z : Int) (w : World) :
    Calls Try.prog 12 #[.int .i64 z, .int .i64 4] w fun e w' => e = .returned (.int .i64 (z % 4)) ∧ w' = w := by
  obtain ⟨h1, h2, h3⟩ := tmod_bounds z
  have H3 := Lib.hid h3
  clear h3
  go_enter Try.func12, Try.ntmps12
  go_wp2
  go_ret
  exact ⟨congrArg (fun x => Ending.returned (.int .i64 x)) H3.out, rfl⟩
end Go.Proofs.Ytnlcohijopokjaa
