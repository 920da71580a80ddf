/- The program's Normal. Conditions: at most 900 edits. -/
import Derived.Test.YtohgghaooppcoaaDlF
namespace Go.Proofs.Ytohgghaooppcoaa
open Go.RowKit Go.Lib

theorem own_ne_ty {w : World} {base size n b : Nat} {e T : TypeId} {v : Value} {xs : List Value} {cs : Array Value} {fr : Nat × Nat} (h : w.ownsRow base e size v n xs) (hb : w.heap[b]? = some (.cells cs T fr)) (hT : T ≠ e) : v.ownBlock ≠ some b := by
  rcases h.2 with ⟨rfl, _⟩ | ⟨g, cap, cur, rfl, _, hg, _⟩
  · simp [Value.ownBlock]
  · intro he
    simp only [Value.ownBlock, Option.some.injEq] at he
    subst he
    rw [hg] at hb
    simp only [Option.some.injEq, Obj.cells.injEq] at hb
    exact hT hb.2.1.symm
theorem own_same {w w' : World} {base size n : Nat} {e : TypeId} {v : Value} {xs : List Value} (h : w.ownsRow base e size v n xs) (hk : ∀ g, v.ownBlock = some g → w'.heap[g]? = w.heap[g]?) : w'.ownsRow base e size v n xs := by
  refine ⟨h.1, ?_⟩
  rcases h.2 with hn | ⟨b, cap, cur, rfl, hb, hgg, rest⟩
  · exact .inl hn
  · exact .inr ⟨b, cap, cur, rfl, hb, (hk b rfl).trans hgg, rest⟩
theorem box_set0 {w : World} {R : Nat} {a b c u : Value} {T : TypeId} (h : w.heap[R]? = some (.cells #[a, b, c] T (0, 0))) : (w.setCell ⟨R, 0, none⟩ u).heap[R]? = some (.cells #[u, b, c] T (0, 0)) := by
  simp [World.setCell, Array.getElem?_modify, h]
theorem box_set1 {w : World} {R : Nat} {a b c u : Value} {T : TypeId} (h : w.heap[R]? = some (.cells #[a, b, c] T (0, 0))) : (w.setCell ⟨R, 1, none⟩ u).heap[R]? = some (.cells #[a, u, c] T (0, 0)) := by
  simp [World.setCell, Array.getElem?_modify, h]
theorem box_set2 {w : World} {R : Nat} {a b c u : Value} {T : TypeId} (h : w.heap[R]? = some (.cells #[a, b, c] T (0, 0))) : (w.setCell ⟨R, 2, none⟩ u).heap[R]? = some (.cells #[a, b, u] T (0, 0)) := by
  simp [World.setCell, Array.getElem?_modify, h]
theorem box_cells {w : World} {R : Nat} {a b c : Value} {T : TypeId} (h : w.heap[R]? = some (.cells #[a, b, c] T (0, 0))) :
    w.cell? ⟨R, 0, none⟩ = some a ∧ w.cell? ⟨R, 1, none⟩ = some b ∧ w.cell? ⟨R, 2, none⟩ = some c ∧ w.frozen? ⟨R, 0, none⟩ = false ∧ w.frozen? ⟨R, 1, none⟩ = false ∧ w.frozen? ⟨R, 2, none⟩ = false ∧ R < w.heap.size :=
  ⟨cell_of_heap h 0, cell_of_heap h 1, cell_of_heap h 2, frozen_of_heap h 0, frozen_of_heap h 1, frozen_of_heap h 2, (Array.getElem?_eq_some_iff.1 h).1⟩
theorem run_ne_ed : (74 : TypeId) ≠ 47 := by decide
theorem run_ne_u8 : (74 : TypeId) ≠ 5 := by decide
theorem u8_ne_ed : (5 : TypeId) ≠ 47 := by decide
/-- What Normal's loop has. -/
structure NSt (W : Nat) (l : List Ed) (R : Nat) (vn : Value) (k : Nat) (own : List Ed) (st go : Nat) (cm : List UInt8) (A : Option Addr) (c : Nat) (wr : World) : Prop where
  fo : OwnE 47 W wr vn own
  fr : wr.ownsRow W 5 1 (.slice A cm.length c) cm.length (bs cm)
  fb : wr.heap[R]? = some (.cells #[.int .i64 (st : Int), .slice A cm.length c, .int .i64 (go : Int)] 74 (0, 0))
  fe : own ++ nrm st cm go (l.drop k) = norm l
  bst : st ≤ 2147483647 * k
  bgo : go ≤ 2147483647 * k
  bcm : cm.length ≤ 1099511627 * k
  bown : own.length ≤ 3 * k
section
variable {W : Nat} {l : List Ed} {R : Nat} {vn : Value} {k : Nat} {own : List Ed} {st go : Nat} {cm : List UInt8} {A : Option Addr} {c : Nat} {wr : World} {x : Ed}
theorem NSt.alloc (h : NSt W l R vn k own st go cm A c wr) (o : Obj) : NSt W l R vn k own st go cm A c (wr.alloc o) :=
  ⟨h.fo.alloc o, h.fr.alloc o, (heap_alloc_old wr o (Array.getElem?_eq_some_iff.1 h.fb).1).trans h.fb, h.fe, h.bst, h.bgo, h.bcm, h.bown⟩
theorem NSt.apart (h : NSt W l R vn k own st go cm A c wr) : vn.ownBlock ≠ some R ∧ (Value.slice A cm.length c).ownBlock ≠ some R := ⟨own_ne_ty h.fo h.fb run_ne_ed, own_ne_ty h.fr h.fb run_ne_u8⟩
theorem flush_len (st : Nat) (cm : List UInt8) (go : Nat) : (flush st cm go).length ≤ 3 := by
  unfold flush
  simp only [List.length_append]
  split <;> split <;> split <;> simp
theorem NSt.ins (h : NSt W l R vn k own st go cm A c wr) (hx : Hid (l[k]? = some x)) (h2 : x.k = 2) (hok : x.Ok) {w1 : World} {A1 : Option Addr} {c1 : Nat} {cm1 : List UInt8} (hcm : cm1 = cm ++ x.s)
    (hrow : w1.ownsRow W 5 1 (.slice A1 cm1.length c1) cm1.length (bs cm1)) (hg : wr.grownBy w1 (Value.slice A cm.length c).ownBlock) :
    NSt W l R vn (k + 1) own st go cm1 A1 c1 (w1.setCell ⟨R, 1, none⟩ (.slice A1 cm1.length c1)) ∧ w1.heap[R]? = some (.cells #[.int .i64 (st : Int), .slice A cm.length c, .int .i64 (go : Int)] 74 (0, 0)) := by
  have hR := (Array.getElem?_eq_some_iff.1 h.fb).1
  have hbox : w1.heap[R]? = _ := (hg.block R hR (fun e => h.apart.2 e.symm)).trans h.fb
  have hown : OwnE 47 W w1 vn own := own_same h.fo fun g hv => hg.block g (h.fo.lt g hv).2 (fun e => own_types h.fo h.fr (Ne.symm u8_ne_ed) hv e.symm)
  refine ⟨⟨own_setCell hown (own_ne_ty hown hbox run_ne_ed) _, own_setCell hrow (own_ne_ty hrow hbox run_ne_u8) _, box_set1 hbox, ?_, ?_, ?_, ?_, ?_⟩, hbox⟩
  · have := h.fe
    rw [drop_cons hx, nrm, if_pos h2, ← hcm] at this
    exact this
  · have := h.bst; omega
  · have := h.bgo; omega
  · have := h.bcm
    have := hok.s
    rw [hcm, List.length_append]; omega
  · have := h.bown; omega
theorem NSt.del {m : Nat} (h : NSt W l R vn k own st go cm A c wr) (hx : Hid (l[k]? = some x)) (h3 : x.k = 3) (hn : x.n = (m : Int)) (hm : (m : Int) ≤ 2147483647) : NSt W l R vn (k + 1) own st (go + m) cm A c (wr.setCell ⟨R, 2, none⟩ (.int .i64 ((go : Int) + (m : Int)))) := by
  have e : x.n.toNat = m := by omega
  refine ⟨own_setCell h.fo h.apart.1 _, own_setCell h.fr h.apart.2 _, by rw [Int.natCast_add]; exact box_set2 h.fb, ?_, ?_, ?_, ?_, ?_⟩
  · have := h.fe
    rw [drop_cons hx, nrm, if_neg (by rw [h3]; decide), if_pos h3, e] at this
    exact this
  · have := h.bst; omega
  · have := h.bgo; omega
  · have := h.bcm; omega
  · have := h.bown; omega
theorem NSt.stay {m : Nat} (h : NSt W l R vn k own st go cm A c wr) (hx : Hid (l[k]? = some x)) (h2 : x.k ≠ 2) (h3 : x.k ≠ 3) (hf : ¬ (cm ≠ [] ∨ 0 < go)) (hn : x.n = (m : Int)) (hm : (m : Int) ≤ 2147483647) : NSt W l R vn (k + 1) own (st + m) go cm A c (wr.setCell ⟨R, 0, none⟩ (.int .i64 ((st : Int) + (m : Int)))) := by
  have e : x.n.toNat = m := by omega
  refine ⟨own_setCell h.fo h.apart.1 _, own_setCell h.fr h.apart.2 _, by rw [Int.natCast_add]; exact box_set0 h.fb, ?_, ?_, ?_, ?_, ?_⟩
  · have := h.fe
    rw [drop_cons hx, nrm, if_neg h2, if_neg h3, if_neg hf, e] at this
    exact this
  · have := h.bst; omega
  · have := h.bgo; omega
  · have := h.bcm; omega
  · have := h.bown; omega
theorem NSt.flushed {m : Nat} (h : NSt W l R vn k own st go cm A c wr) (hx : Hid (l[k]? = some x)) (h2 : x.k ≠ 2) (h3 : x.k ≠ 3) (hf : cm ≠ [] ∨ 0 < go) (hn : x.n = (m : Int)) (hm : (m : Int) ≤ 2147483647) {v' : Value} {w1 : World}
    (hown : OwnE 47 W w1 v' (own ++ flush st cm go)) (hk : Kept vn v' wr w1) :
    NSt W l R v' (k + 1) (own ++ flush st cm go) m 0 [] none 0 ((((w1.setCell ⟨R, 0, none⟩ (.int .i64 0)).setCell ⟨R, 1, none⟩ (.slice none 0 0)).setCell ⟨R, 2, none⟩ (.int .i64 0)).setCell ⟨R, 0, none⟩ (.int .i64 (m : Int))) ∧ w1.heap[R]? = some (.cells #[.int .i64 (st : Int), .slice A cm.length c, .int .i64 (go : Int)] 74 (0, 0)) := by
  have e : x.n.toNat = m := by omega
  have hR := (Array.getElem?_eq_some_iff.1 h.fb).1
  obtain ⟨h4, h5⟩ := hk R hR h.apart.1
  have hbox : w1.heap[R]? = _ := h5.trans h.fb
  refine ⟨⟨own_setCell (own_setCell (own_setCell (own_setCell hown h4 _) h4 _) h4 _) h4 _, World.ownsRow_nil _ _ _ _, box_set0 (box_set2 (box_set1 (box_set0 hbox))), ?_, ?_, by omega, by simp, ?_⟩, hbox⟩
  · have := h.fe
    rw [drop_cons hx, nrm, if_neg h2, if_neg h3, if_pos hf, e, ← List.append_assoc] at this
    exact this
  · omega
  · have := h.bown
    have := flush_len st cm go
    rw [List.length_append]; omega
end
/-- Normal's answer, in a world. -/
def NrmVal (ty : TypeId) (base : Nat) (l : List Ed) (e : Ending) (w' : World) : Prop := ∃ v, e = .returned (.tuple #[v, .int .i64 ((nrmE l : Nat) : Int)]) ∧ OwnE ty base w' v (nrmL l)
theorem nrm_bad {l : List Ed} (h : allRt l = false) : nrmE l = 2 ∧ nrmL l = [] := by
  have h1 : nrmE l = 2 := by unfold nrmE; rw [if_neg (by simp [h])]
  exact ⟨h1, by unfold nrmL; rw [h1]; rfl⟩
theorem nrm_big {l : List Ed} (h : allRt l = true) (h' : allRt (norm l) = false) : nrmE l = 3 ∧ nrmL l = [] := by
  have h1 : nrmE l = 3 := by unfold nrmE; rw [if_pos h, if_neg (by simp [h'])]
  exact ⟨h1, by unfold nrmL; rw [h1]; rfl⟩
theorem nrm_fine {l : List Ed} (h : allRt l = true) (h' : allRt (norm l) = true) : nrmE l = 0 ∧ nrmL l = norm l := by
  have h1 : nrmE l = 0 := by unfold nrmE; rw [if_pos h, if_pos h']
  exact ⟨h1, by unfold nrmL; rw [if_pos h1]⟩
set_option maxHeartbeats 2000000 in
set_option maxRecDepth 100000 in
theorem normal_any (A : Option Addr) (c B : Nat) (l : List Ed) (w : World) (hl : l.length ≤ 900) (hok : Oks l) (hB : B ≤ w.heap.size) (hr : RdE w B A l) :
    Calls Try.prog 15 #[.slice A l.length c] w fun e w' => NrmVal 47 w.heap.size l e w' ∧ Below w.heap.size w w' := by
  have hlen : (l.length : Int) ≤ 900 := by omega
  have HB := Lib.hid hB
  have Hok : Hid (Oks l) := hok
  have Hl := Lib.hid hl
  clear hl hB hok
  rcases hid_bool (allRt l) with hall | hall
  · go_enter Try.func15, Try.ntmps15
    go_wp2
    go_step3
    go_wp2_with (go_at_call 21; refine (allRight_is A c B _ l true rfl hall _ (by have := Hl.out; omega) HB.out hr).mono ?_; rintro e w1 ⟨rfl, hb1⟩)
    go_step3
    go_wp2
    obtain ⟨R, hR⟩ : ∃ R, R = w1.heap.size := ⟨_, rfl⟩
    have hbx : (w1.alloc (.cells #[.int .i64 0, .slice none 0 0, .int .i64 0] 74)).heap[R]? = some (.cells #[.int .i64 0, .slice none 0 0, .int .i64 0] 74 (0, 0)) := by rw [hR]; exact heap_alloc_new w1 _
    have hbw := hb1.alloc hb1.size (.cells #[.int .i64 0, .slice none 0 0, .int .i64 0] 74)
    have Hbx := Lib.hid hbx
    have HRw := Lib.hid (show w.heap.size ≤ R by rw [hR]; exact hb1.size)
    rw [← hR]
    have Hr : Hid (RdE w B A l) := hr
    clear hbx hb1 hR hr
    go_loopw [4, 13] (fun vn i wr => ∃ (k : Nat) (own : List Ed) (st go : Nat) (cm : List UInt8) (A : Option Addr) (c : Nat), k ≤ l.length ∧ i = .int .i64 (k : Int) ∧ Hid (NSt w.heap.size l R vn k own st go cm A c wr) ∧ Below w.heap.size w wr) (fun _ i _ => l.length - (Lib.intOf i).toNat)
    case atStart => exact ⟨0, [], 0, 0, [], none, 0, by omega, rfl, ⟨OwnE.nil _ _ _, World.ownsRow_nil _ _ _ _, Hbx.out, rfl, by omega, by omega, by simp, by simp⟩, hbw⟩
    case round =>
      clear hbw
      obtain ⟨k, own, st, go, cm, Ac, cc, hk, rfl, hst, hb⟩ := hrel
      by_cases hlt : k < l.length
      · obtain ⟨ad, x, rfl, had, hc0, hc1, hc2, hx⟩ := RdE.at_ (Reads.below Hr.out (hb.mono HB.out)) hlt
        have hrt := Lib.hid (allRt_get hall.out hx)
        obtain ⟨m, hn, hm, hf⟩ := rt_bounds hrt.out
        have Hn := Lib.hid hn
        have Hm := Lib.hid hm
        rw [hn] at hc1
        have hst1 := Lib.hid (hst.out.alloc (.cells #[.int .u8 (x.k.toNat : Int), .int .i64 (m : Int), .string (txt x.s)] 47))
        have hb1 := hb.alloc hb.size (.cells #[.int .u8 (x.k.toNat : Int), .int .i64 (m : Int), .string (txt x.s)] 47)
        obtain ⟨r0, r1, r2, f0, f1, f2, hRz⟩ := box_cells hst.out.fb
        have hstI : (st : Int) ≤ 1932735282300 := by have := hst.out.bst; have := Hl.out; omega
        have hgoI : (go : Int) ≤ 1932735282300 := by have := hst.out.bgo; have := Hl.out; omega
        have hbz := Lib.hid hb1.size
        clear hn hf
        by_cases h2 : x.k = 2
        · obtain ⟨g1, g2⟩ := eq_lit (m := 2) (by omega) h2
          have H2 := Lib.hid h2
          have hcl : Hid (cm.length + (txt x.s).size ≤ 140737488355327) := by
            have := hst1.out.bcm
            have := (Hok.out.get hx).s
            have := Hl.out
            show _ ≤ _
            rw [txt_size]; omega
          obtain ⟨cm1, hcm1⟩ : ∃ cm1, Hid (cm1 = cm ++ x.s) := ⟨_, rfl⟩
          clear h2
          go_wp2_with (at_builtin; refine push_str (.tmp 22) (.tmp 24) hst1.out.fr hbz.out hcl.out rfl rfl rfl rfl ?_; intro v2 w2 own2 hb2 hbs2 hg2; rw [txt_data, ← hcm1.out] at own2; obtain ⟨A2, c2, rfl, _, _, _⟩ := own_form own2; have hins := Lib.hid (hst1.out.ins hx H2.out (Hok.out.get hx) hcm1.out own2 hg2); obtain ⟨d0, d1, d2, e0, e1, e2, hRz2⟩ := box_cells hins.out.2; have hbb := hb1.trans hb2; clear hb2 hg2 own2)
          go_roundw
          case rel => exact ⟨k + 1, own, st, go, cm1, A2, c2, by omega, by go_num, hins.out.1, hbb.setCell (p := ⟨R, 1, none⟩) HRw.out _⟩
          case measure => simp [Lib.intOf]; omega
        · obtain ⟨g1, g2⟩ := ne_lit (k := x.k) (m := 2) (by omega) h2
          have H2 := Lib.hid h2
          clear h2
          by_cases h3 : x.k = 3
          · obtain ⟨g3, g4⟩ := eq_lit (m := 3) (by omega) h3
            have hdel := Lib.hid ((hst.out.del hx h3 Hn.out Hm.out).alloc (.cells #[.int .u8 (x.k.toNat : Int), .int .i64 (m : Int), .string (txt x.s)] 47))
            clear h3
            go_wp2
            go_roundw
            case rel => exact ⟨k + 1, own, st, go + m, cm, Ac, cc, by omega, by go_num, hdel.out, (hb.setCell (p := ⟨R, 2, none⟩) HRw.out _).alloc (by simp; exact hb.size) _⟩
            case measure => simp [Lib.intOf]; omega
          · obtain ⟨g3, g4⟩ := ne_lit (k := x.k) (m := 3) (by omega) h3
            have H3 := Lib.hid h3
            clear h3
            by_cases hf : cm ≠ [] ∨ 0 < go
            · have Hf := Lib.hid hf
              have hown1 := Lib.hid hst1.out.fo
              have hrow1 := Lib.hid (show RdB (wr.alloc (.cells #[.int .u8 (x.k.toNat : Int), .int .i64 (m : Int), .string (txt x.s)] 47)) (wr.alloc (.cells #[.int .u8 (x.k.toNat : Int), .int .i64 (m : Int), .string (txt x.s)] 47)).heap.size Ac cm by
                obtain ⟨_, _, e, _, _, h⟩ := own_form hst1.out.fr
                injection e with e1 e2 e3
                subst e1
                exact h)
              have haside := Lib.hid (own_aside hst1.out.fr hst1.out.fo u8_ne_ed)
              have hownl := Lib.hid (show own.length ≤ 1000000000 by have := hst1.out.bown; have := Hl.out; omega)
              have hcml := Lib.hid (show cm.length ≤ 1099511627776 by have := hst1.out.bcm; have := Hl.out; omega)
              have hcell := Lib.hid (heap_alloc_new wr (.cells #[.int .u8 (x.k.toNat : Int), .int .i64 (m : Int), .string (txt x.s)] 47))
              have hMne := Lib.hid (own_ne (hst1.out.fo) (M := wr.heap.size))
              by_cases hc : cm = []
              · have hg : 0 < go := by
                  rcases hf with h | h
                  · exact absurd hc h
                  · exact h
                have hgI : (0 : Int) < (go : Int) := by omega
                subst hc
                clear hf
                go_wp2_with (go_at_call 36; refine (appendTo_any w.heap.size _ own st go Ac cc [] _ hownl.out hcml.out hbz.out hown1.out hrow1.out haside.out).mono ?_; rintro e w2 ⟨v2, rfl, hown2, hb2, hz2, hk2⟩; have hfl := Lib.hid (hst1.out.flushed hx H2.out H3.out Hf.out Hn.out Hm.out hown2 hk2); obtain ⟨d0, d1, d2, e0, e1, e2, hRz2⟩ := box_cells hfl.out.2; have hM2 := (hk2 wr.heap.size (by simp) (fun e => by have := (hst.out.fo.lt _ e).2; omega)).2.trans hcell.out; have d3 := cell_of_row w2 wr.heap.size 1 _ _ _ hM2; have hbb := hb1.trans hb2; clear hown2 hb2 hk2 hM2 r0 r1 r2 f0 f1 f2)
                go_roundw
                case rel => exact ⟨k + 1, own ++ flush st [] go, m, 0, [], none, 0, by omega, by go_num, hfl.out.1, (((hbb.setCell (p := ⟨R, 0, none⟩) HRw.out _).setCell (p := ⟨R, 1, none⟩) HRw.out _).setCell (p := ⟨R, 2, none⟩) HRw.out _).setCell (p := ⟨R, 0, none⟩) HRw.out _⟩
                case measure => simp [Lib.intOf]; omega
              · have hcP : 0 < cm.length := List.length_pos_iff.2 hc
                have hcI : (0 : Int) < (cm.length : Int) := by omega
                clear hf hc
                go_wp2_with (go_at_call 36; refine (appendTo_any w.heap.size _ own st go Ac cc cm _ hownl.out hcml.out hbz.out hown1.out hrow1.out haside.out).mono ?_; rintro e w2 ⟨v2, rfl, hown2, hb2, hz2, hk2⟩; have hfl := Lib.hid (hst1.out.flushed hx H2.out H3.out Hf.out Hn.out Hm.out hown2 hk2); obtain ⟨d0, d1, d2, e0, e1, e2, hRz2⟩ := box_cells hfl.out.2; have hM2 := (hk2 wr.heap.size (by simp) (fun e => by have := (hst.out.fo.lt _ e).2; omega)).2.trans hcell.out; have d3 := cell_of_row w2 wr.heap.size 1 _ _ _ hM2; have hbb := hb1.trans hb2; clear hown2 hb2 hk2 hM2 r0 r1 r2 f0 f1 f2)
                go_roundw
                case rel => exact ⟨k + 1, own ++ flush st cm go, m, 0, [], none, 0, by omega, by go_num, hfl.out.1, (((hbb.setCell (p := ⟨R, 0, none⟩) HRw.out _).setCell (p := ⟨R, 1, none⟩) HRw.out _).setCell (p := ⟨R, 2, none⟩) HRw.out _).setCell (p := ⟨R, 0, none⟩) HRw.out _⟩
                case measure => simp [Lib.intOf]; omega
            · have hstay := Lib.hid ((hst.out.stay hx H2.out H3.out hf Hn.out Hm.out).alloc (.cells #[.int .u8 (x.k.toNat : Int), .int .i64 (m : Int), .string (txt x.s)] 47))
              have hc : cm = [] := by
                by_cases h : cm = []
                · exact h
                · exact absurd (Or.inl h) hf
              have hg : go = 0 := by omega
              subst hc hg
              clear hf
              go_wp2
              go_roundw
              case rel => exact ⟨k + 1, own, st + m, 0, [], Ac, cc, by omega, by go_num, hstay.out, (hb.setCell (p := ⟨R, 0, none⟩) HRw.out _).alloc (by simp; exact hb.size) _⟩
              case measure => simp [Lib.intOf]; omega
      · obtain rfl : k = l.length := by omega
        have hE := hst.out.fe
        rw [List.drop_length] at hE
        have HE : Hid (own ++ flush st cm go = norm l) := hE
        have hbz := Lib.hid hb.size
        have hrow1 := Lib.hid (show RdB wr wr.heap.size Ac cm by
          obtain ⟨_, _, e, _, _, h⟩ := own_form hst.out.fr
          injection e with e1 e2 e3
          subst e1
          exact h)
        have haside := Lib.hid (own_aside hst.out.fr hst.out.fo u8_ne_ed)
        have hownl := Lib.hid (show own.length ≤ 1000000000 by have := hst.out.bown; have := Hl.out; omega)
        have hcml := Lib.hid (show cm.length ≤ 1099511627776 by have := hst.out.bcm; have := Hl.out; omega)
        have hnl := Lib.hid (show (norm l).length ≤ 900 from Nat.le_trans (norm_len (wrs_of_all hall.out)) Hl.out)
        obtain ⟨r0, r1, r2, f0, f1, f2, hRz⟩ := box_cells hst.out.fb
        clear hE
        rcases hid_bool (allRt (norm l)) with hnall | hnall
        · obtain ⟨h1, h2⟩ := nrm_fine hall.out hnall.out
          have H1 := Lib.hid h1
          have H2 := Lib.hid h2
          clear h1 h2
          go_wp2_with (first
            | (go_at_call 36; refine (appendTo_any w.heap.size _ own st go Ac cc cm _ hownl.out hcml.out hbz.out hst.out.fo hrow1.out haside.out).mono ?_; rintro e w2 ⟨v2, rfl, hown2, hb2, hz2, hk2⟩; rw [HE.out] at hown2; obtain ⟨A2, c2, rfl, _, _, hr2⟩ := hown2.reads; have hbb := hb.trans hb2; have Hown2 := Lib.hid hown2; have Hr2 : Hid (RdE _ _ _ _) := hr2; clear hown2 hr2 hb2 hk2 hz2 r0 r1 r2 f0 f1 f2)
            | (go_at_call 21; refine (allRight_is A2 c2 _ _ (norm l) true rfl hnall _ (by have := hnl.out; omega) (Nat.le_refl _) Hr2.out).mono ?_; rintro e w3 ⟨rfl, hb3⟩))
          rw [Exit.noGoto_ret]
          go_ret2
          exact ⟨⟨_, by rw [H1.out]; rfl, by rw [H2.out]; exact own_below Hown2.out hb3 (Nat.le_refl _)⟩, hbb.trans (hb3.mono hbb.size)⟩
        · obtain ⟨h1, h2⟩ := nrm_big hall.out hnall.out
          have H1 := Lib.hid h1
          have H2 := Lib.hid h2
          clear h1 h2
          go_wp2_with (first
            | (go_at_call 36; refine (appendTo_any w.heap.size _ own st go Ac cc cm _ hownl.out hcml.out hbz.out hst.out.fo hrow1.out haside.out).mono ?_; rintro e w2 ⟨v2, rfl, hown2, hb2, hz2, hk2⟩; rw [HE.out] at hown2; obtain ⟨A2, c2, rfl, _, _, hr2⟩ := hown2.reads; have hbb := hb.trans hb2; have Hown2 := Lib.hid hown2; have Hr2 : Hid (RdE _ _ _ _) := hr2; clear hown2 hr2 hb2 hk2 hz2 r0 r1 r2 f0 f1 f2)
            | (go_at_call 21; refine (allRight_is A2 c2 _ _ (norm l) false rfl hnall _ (by have := hnl.out; omega) (Nat.le_refl _) Hr2.out).mono ?_; rintro e w3 ⟨rfl, hb3⟩))
          rw [Exit.noGoto_ret]
          go_ret2
          exact ⟨⟨.slice none 0 0, by rw [H1.out]; rfl, by rw [H2.out]; exact OwnE.nil _ _ _⟩, hbb.trans (hb3.mono hbb.size)⟩
  · obtain ⟨h1, h2⟩ := nrm_bad hall.out
    have H1 := Lib.hid h1
    have H2 := Lib.hid h2
    clear h1 h2
    go_enter Try.func15, Try.ntmps15
    go_wp2
    go_step3
    go_wp2_with (go_at_call 21; refine (allRight_is A c B _ l false rfl hall _ (by have := Hl.out; omega) HB.out hr).mono ?_; rintro e w1 ⟨rfl, hb1⟩)
    rw [Exit.noGoto_ret]
    go_ret2
    refine ⟨⟨.slice none 0 0, by rw [H1.out]; rfl, ?_⟩, hb1⟩
    rw [H2.out]
    exact OwnE.nil _ _ _
end Go.Proofs.Ytohgghaooppcoaa
