/- The walk of the reference's Parse. Conditions: at most 10^6 bytes. -/
import Derived.Test.YtfhcpjnjemojgaaKRcR
import Derived.Test.YtfhcpjnjemojgaaKRefD
namespace Go.Proofs.Ytfhcpjnjemojgaa
open Go.RowKit

theorem ret_rrec {fn : Func} {R : Ending → World → Prop} {p u : Tmp} (h : fn.results = #[.cell p 31, .tmp u]) {a : Act} {w : World} (g : Nat) (x : Rc)
    (hp : a.tmps.getD p undef = .pointer (some ⟨g, 0, none⟩)) (hg : RRec x w g) (hd : a.defers = []) (hR : R (.returned (.tuple #[x.v, a.tmps.getD u undef])) w) : bodyPost Try.prog fn R .ret a w :=
  ret_agg2 h rrecTy g x.cells.toArray _ _ rfl hp hg hd hR
theorem runS_go {S : Type} (f : S → Nat → S × Nat) : ∀ (l m : List Nat) (s : S), (runS f s l).2 = 0 → runS f s (l ++ m) = runS f (runS f s l).1 m
  | [], m, s, _ => rfl
  | i :: l, m, s, h => by
    rw [List.cons_append, runS]
    rw [runS] at h
    rw [runS]
    by_cases h0 : (f s i).2 = 0
    · rw [if_neg (by omega)] at h
      rw [if_neg (by omega), if_neg (by omega)]
      exact runS_go f l m _ h
    · rw [if_pos h0] at h
      exact absurd h h0
/-- The record of whose it is, from what was read. -/
def headK (k p i q : Nat) : Rc := ⟨k, p, i, q, 0, 0, 0, 0, 0, 0, [], []⟩
theorem head_link (l : List UInt8) (k : Nat) : ((takeAll l 0 3).2.2 ≠ 0 ∧ (runS (rdP l) (Rc.zero k, 0) [0, 1, 2]).2 = (takeAll l 0 3).2.2) ∨
    ∃ p i q P, takeAll l 0 3 = ([p, i, q], P, 0) ∧ runS (rdP l) (Rc.zero k, 0) [0, 1, 2] = ((headK k p i q, P), 0) ∧ p < 18446744073709551616 ∧ i < 18446744073709551616 ∧ q < 18446744073709551616 := by
  have e : takeAll l 0 3 = takeMany l 0 3 0 [] := rfl
  rw [e]
  by_cases h1 : (take l 0).2.2 = 0
  · rw [many_step h1]
    by_cases h2 : (take l (take l 0).2.1).2.2 = 0
    · rw [many_step h2]
      by_cases h3 : (take l (take l (take l 0).2.1).2.1).2.2 = 0
      · rw [many_step h3]
        refine .inr ⟨_, _, _, _, rfl, ?_, take_lt _ _, take_lt _ _, take_lt _ _⟩
        simp only [runS, rdP, if_pos (show (0 : Nat) < 9 by decide), if_pos (show (1 : Nat) < 9 by decide), if_pos (show (2 : Nat) < 9 by decide)]
        rw [if_neg (by omega), if_neg (by omega), if_neg (by omega)]
        rfl
      · rw [many_stop h3]
        refine .inl ⟨h3, ?_⟩
        simp only [runS, rdP, if_pos (show (0 : Nat) < 9 by decide), if_pos (show (1 : Nat) < 9 by decide), if_pos (show (2 : Nat) < 9 by decide)]
        rw [if_neg (by omega), if_neg (by omega), if_pos h3]
    · rw [many_stop h2]
      refine .inl ⟨h2, ?_⟩
      simp only [runS, rdP, if_pos (show (0 : Nat) < 9 by decide), if_pos (show (1 : Nat) < 9 by decide)]
      rw [if_neg (by omega), if_pos h2]
  · rw [many_stop h1]
    refine .inl ⟨h1, ?_⟩
    simp only [runS, rdP, if_pos (show (0 : Nat) < 9 by decide)]
    rw [if_pos h1]
theorem rd_all (_l : List UInt8) (k : Nat) : allP k = [0, 1, 2] ++ parts k := rfl
theorem rdP_with (l : List UInt8) (y : Rc) (p : Int) {j : Nat} : rdP l (y, p) j = if j < 9 then ((withR y j (take l p).1 [], (take l p).2.1), (take l p).2.2) else ((withR y j 0 (takeText l p).1, (takeText l p).2.1), (takeText l p).2.2) := by
  unfold rdP withR
  split
  · rfl
  · rfl
theorem exec_atU {b : Act} {w : World} {o : Oper} {x : Operand} {v : Value} {ad : Addr} {n c k : Nat} (ho : o.op = .indexAddr 50 x (.const v)) (h : b.eval x = .slice (some ad) n c) (hv : v = .int .i64 (k : Int)) (hk : k < n) : (execOp b.eval o).run Try.prog w = .ok (.value (.pointer (some (ad.add k)))) w := by
  subst hv
  have hk' : (k : Int) < (n : Int) := by omega
  unfold execOp
  simp only [ho, h]
  go_simp
theorem exec_allocRRec {b : Act} {w : World} {o : Oper} (ho : o.op = .alloc 31) : (execOp b.eval o).run Try.prog w = .ok (.value (.pointer (some ⟨w.heap.size, 0, none⟩))) (w.alloc (.cells (Rc.zero 0).cells.toArray 31)) := by
  unfold execOp
  simp only [ho]
  go_simp
  rfl
theorem exec_fieldRFr0 {b : Act} {w : World} {o : Oper} {x : Operand} {g : Nat} (ho : o.op = .fieldAddr 44 x 0) (h : b.eval x = .pointer (some ⟨g, 0, none⟩)) : (execOp b.eval o).run Try.prog w = .ok (.value (.pointer (some ⟨g, 0, none⟩))) w := by
  unfold execOp
  simp only [ho, h]
  go_simp
theorem exec_build4 {b : Act} {w : World} {o : Oper} {x y z t : Operand} {k p i q : Nat} (ho : o.op = .build 31 #[(0, x), (1, y), (2, z), (3, t)]) (h : b.eval x = .int .u8 (k : Int)) (h1 : b.eval y = .int .u64 (p : Int)) (h2 : b.eval z = .int .u64 (i : Int)) (h3 : b.eval t = .int .u64 (q : Int)) : (execOp b.eval o).run Try.prog w = .ok (.value (headK k p i q).v) w := by
  unfold execOp
  simp only [ho, List.map_toArray, List.map_cons, List.map_nil, h, h1, h2, h3]
  go_simp
  rfl
/-- What the operations say that make the record. -/
def MkF (W0 : World) (f k p i q : Nat) (S : Value) (ad : Addr) : Nat → Value → World → Prop
  | 0, v, _ => v = .pointer (some ⟨f, 0, none⟩)
  | 1, v, _ => v = .int .u8 (k : Int)
  | 2, v, _ | 5, v, _ | 8, v, _ => v = S
  | 3, v, _ => v = .pointer (some (ad.add 0))
  | 4, v, _ => v = .int .u64 (p : Int)
  | 6, v, _ => v = .pointer (some (ad.add 1))
  | 7, v, _ => v = .int .u64 (i : Int)
  | 9, v, _ => v = .pointer (some (ad.add 2))
  | 10, v, _ => v = .int .u64 (q : Int)
  | 11, v, _ => v = (headK k p i q).v
  | 12, v, w => ∃ g, v = .pointer (some ⟨g, 0, none⟩) ∧ W0.heap.size ≤ g ∧ RRec (Rc.zero 0) w g
  | _, _, _ => True
theorem MkF.keep {W0 : World} {f k p i q : Nat} {S : Value} {ad : Addr} (j : Nat) (u : Value) (w w' : World) (hb : Below w.heap.size w w') (h : MkF W0 f k p i q S ad j u w) : MkF W0 f k p i q S ad j u w' :=
  match j, h with
  | 0, h | 1, h | 2, h | 3, h | 4, h | 5, h | 6, h | 7, h | 8, h | 9, h | 10, h | 11, h => h
  | 12, ⟨g, e, hl, hr⟩ => ⟨g, e, hl, hr.keep hb⟩
  | _ + 13, h => h
def MkC (W : World) (w : World) : Prop := Below W.heap.size W w
theorem MkC.keep {W : World} (w w' : World) (hb : Below w.heap.size w w') (hc : MkC W w) : MkC W w' := hc.trans (hb.mono hc.size)
theorem run_step {S : Type} {f : S → Nat → S × Nat} {s t : S} {l : List Nat} {n j : Nat} (h : runS f s (l.take n) = (t, 0)) (hj : l[n]? = some j) : runS f s (l.take (n + 1)) = f t j := by
  rw [take_snoc (Lib.hid hj), runS_snoc _ _ _ _ (by rw [h]), h]
theorem run_fail {S : Type} {f : S → Nat → S × Nat} {s t : S} {l : List Nat} {n j : Nat} (h : runS f s (l.take n) = (t, 0)) (hj : l[n]? = some j) (hE : (f t j).2 ≠ 0) : runS f s l = f t j := by
  have h1 := run_step h hj
  have h2 := runS_stop f (l.take (n + 1)) (l.drop (n + 1)) s (by rw [h1]; exact hE)
  rw [List.take_append_drop, h1] at h2
  exact h2
def GtC (W : World) (y : Rc) (g : Nat) (w : World) : Prop := Below W.heap.size W w ∧ RRec y w g
theorem GtC.keep {W : World} {y : Rc} {g : Nat} (w w' : World) (hb : Below w.heap.size w w') (hc : GtC W y g w) : GtC W y g w' := ⟨hc.1.trans (hb.mono hc.1.size), hc.2.keep hb⟩
/-- What the operations say that put a part that was read into the record. -/
def GtF (y : Rc) (k n j a : Nat) (t : List UInt8) : Nat → Value → World → Prop
  | 0, v, _ => v = y.v
  | 1, v, _ => v = .string (txt (lettersOf k))
  | 2, v, _ => v = .int .i64 (n : Int)
  | 3, v, _ => v = .int .u8 (letterOf j : Int)
  | 4, v, _ => v = .int .u64 (a : Int)
  | 5, v, _ => v = .string (txt t)
  | 6, v, _ => v = (withR y j a t).v
  | _, _, _ => True
theorem GtF.keep {y : Rc} {k n j a : Nat} {t : List UInt8} (i : Nat) (u : Value) (w w' : World) (_hb : Below w.heap.size w w') (h : GtF y k n j a t i u w) : GtF y k n j a t i u w' :=
  match i, h with
  | 0, h | 1, h | 2, h | 3, h | 4, h | 5, h | 6, h => h
  | _ + 7, h => h
theorem ad_block (ad : Addr) (k : Nat) : (ad.add k).block = ad.block := by unfold Addr.add; split <;> rfl
set_option maxHeartbeats 8000000 in
set_option maxRecDepth 100000 in
theorem refParse_any (A0 : Option Addr) (c0 B : Nat) (b : List UInt8) (w : World) (hl : b.length ≤ 1000000) (hcap : b.length ≤ c0) (hB : B ≤ w.heap.size) (hr : RdB w B A0 b) :
    Calls Try.prog 19 #[.slice A0 b.length c0] w fun e w' => e = .returned (.tuple #[(parseM b).1.v, .int .i64 ((parseM b).2 : Nat)]) ∧ Below w.heap.size w w' := by
  obtain ⟨W0, hW0⟩ : ∃ W0, Hid (W0 = w.alloc (.cells (Rc.zero 0).cells.toArray 31)) := ⟨_, rfl⟩
  have hb0 := Lib.hid (show Below w.heap.size w W0 by rw [hW0.out]; exact below_new _ _)
  have hx0 := Lib.hid (show RRec (Rc.zero 0) W0 w.heap.size by rw [hW0.out]; exact rrec_new _ w)
  have hsz0 := Lib.hid (show W0.heap.size = w.heap.size + 1 by rw [hW0.out]; simp)
  have HW0 := Lib.hid (show w.alloc (.cells #[.int .u8 0, .int .u64 0, .int .u64 0, .int .u64 0, .int .u64 0, .int .u64 0, .int .u64 0, .int .u64 0, .int .u64 0, .int .u64 0, .string ⟨#[]⟩, .string ⟨#[]⟩] 31) = W0 from hW0.out.symm)
  have hr0 : RdB W0 B A0 b := hr.below (hb0.out.mono hB)
  obtain ⟨f, E, hone⟩ : ∃ f E, oneF b = (f, E) := ⟨_, _, rfl⟩
  obtain ⟨fk, fl⟩ := f
  have hcall := refFrOne_any A0 c0 B b W0 (by omega) hcap (by rw [hsz0.out]; omega) hr0
  rw [hone] at hcall
  have Hcall := Lib.hid hcall
  have Hone := Lib.hid hone
  clear hr hr0 hcall hone hl hcap hB
  go_enter Try.func19, Try.ntmps19
  go_upto_region 1 with fail
  rw [HW0.out]
  by_cases hE : E = 0
  rotate_left
  · have hE1 : ((E : Int) != 0) = true := by rw [bne_iff_ne]; omega
    have hE2 : (E != 0) = true := by rw [bne_iff_ne]; exact hE
    go_wp2_with (first
      | (go_at_call 36; refine Hcall.out.mono ?_; rintro e w1 ⟨⟨v, rfl, hown⟩, hb1⟩; obtain ⟨A2, c2, rfl, _, _, _⟩ := own_form hown; simp only; have hg := RRec.keep (hx0.out.below hb1 hx0.out.lt) (below_new _ (.cells #[.int .u8 (fk.toNat : Int), .slice A2 fl.length c2] 44)))
      | (refine wpList_storeRRec (x := Rc.zero 0) (.tmp 2) (.tmp 21) rfl rfl rfl rfl hg ?_; intro w3 hx3 hb3 _ _))
    refine ret_rrec rfl w.heap.size (Rc.zero 0) rfl hx3 rfl ⟨by rw [parseM_one Hone.out hE]; rfl, ?_⟩
    exact ((hb0.out.trans (hb1.mono (by rw [hsz0.out]; omega))).alloc (Nat.le_trans hb0.out.size hb1.size) _).trans (hb3 _ (Nat.le_refl _))
  subst hE
  go_upto_region 4 with (go_at_call 36; refine Hcall.out.mono ?_; rintro e w1 ⟨⟨v, rfl, hown⟩, hb1⟩; obtain ⟨A2, c2, rfl, hcap2, _, hr2⟩ := own_form hown; simp only)
  obtain ⟨n, hn⟩ : ∃ n, Hid (n = fl.length) := ⟨_, rfl⟩
  rw [← hn.out]
  obtain ⟨kk, hkk⟩ : ∃ kk, Hid (kk = fk.toNat) := ⟨_, rfl⟩
  rw [← hkk.out]
  have hk256 : kk < 256 := by rw [hkk.out]; exact fk.toNat_lt
  obtain ⟨W2, hW2⟩ : ∃ W2, Hid (W2 = w1.alloc (.cells #[.int .u8 (kk : Int), .slice A2 n c2] 44)) := ⟨_, rfl⟩
  rw [← hW2.out]
  obtain ⟨q0, hq0⟩ : ∃ q0, Hid (q0 = w1.heap.size) := ⟨_, rfl⟩
  have hfr : W2.heap[q0]? = some (.cells #[.int .u8 (kk : Int), .slice A2 n c2] 44 (0, 0)) := by rw [hW2.out, hq0.out]; exact heap_alloc_new _ _
  have hb2 := Lib.hid (show Below w.heap.size w W2 by rw [hW2.out]; exact (hb0.out.trans (hb1.mono (by rw [hsz0.out]; omega))).alloc (Nat.le_trans hb0.out.size hb1.size) _)
  have hx2 := Lib.hid (show RRec (Rc.zero 0) W2 w.heap.size by rw [hW2.out]; exact RRec.keep (hx0.out.below hb1 hx0.out.lt) (below_new _ _))
  have hrd2 := Lib.hid (show RdB W2 q0 A2 fl by rw [hW2.out, hq0.out]; exact Reads.alloc hr2 (Nat.le_refl _) _)
  have hfrH := Lib.hid hfr
  have hqlt := Lib.hid (Array.getElem?_eq_some_iff.1 hfr).1
  have hr0q := Lib.hid (show w.heap.size < q0 by rw [hq0.out]; exact Nat.lt_of_lt_of_le hx0.out.lt hb1.size)
  have Hcap2 := Lib.hid hcap2
  have Hlen := Lib.hid (show fl.length ≤ 1000000 from (by have := oneF_len (b := b); rw [Hone.out] at this; simp only at this; omega))
  have f0 : W2.cell? ⟨q0, 0, none⟩ = some (.int .u8 (kk : Int)) := cell_of_row W2 q0 0 _ _ _ hfr
  have f1 : W2.cell? ⟨q0, 1, none⟩ = some (.slice A2 n c2) := cell_of_row W2 q0 1 _ _ _ hfr
  rw [← hq0.out]
  clear hfr hcap2 hr2 hown hb1
  have hno : isK kk = false → parseM b = (Rc.zero 0, 60) := fun h => parseM_kind Hone.out (by rw [← hkk.out]; exact h)
  by_cases hk1 : kk < 1
  · have hk1' : (kk : Int) < 1 := by omega
    have hk0 := Lib.hid (hno (by unfold isK; rw [decide_eq_false_iff_not]; omega))
    clear hno
    go_wp2_with (refine wpList_storeRRec (x := Rc.zero 0) (.tmp 2) (.tmp 31) rfl rfl rfl rfl hx2.out ?_; intro w3 hx3 hb3 _ _)
    refine ret_rrec rfl w.heap.size (Rc.zero 0) rfl hx3 rfl ⟨by rw [hk0.out]; rfl, ?_⟩
    exact hb2.out.trans (hb3 _ (Nat.le_refl _))
  by_cases hk2 : 11 < kk
  · have hk1' : 1 ≤ (kk : Int) := by omega
    have hk2' : 11 < (kk : Int) := by omega
    have hk0 := Lib.hid (hno (by unfold isK; rw [decide_eq_false_iff_not]; omega))
    clear hno hk1
    go_wp2_with (refine wpList_storeRRec (x := Rc.zero 0) (.tmp 2) (.tmp 31) rfl rfl rfl rfl hx2.out ?_; intro w3 hx3 hb3 _ _)
    refine ret_rrec rfl w.heap.size (Rc.zero 0) rfl hx3 rfl ⟨by rw [hk0.out]; rfl, ?_⟩
    exact hb2.out.trans (hb3 _ (Nat.le_refl _))
  have hk1' : 1 ≤ (kk : Int) := by omega
  have hk2' : (kk : Int) ≤ 11 := by omega
  have hK : isK kk = true := by unfold isK; rw [decide_eq_true_eq]; omega
  have HK := Lib.hid hK
  have Hk := Lib.hid (show isK fk.toNat = true by rw [← hkk.out]; exact hK)
  clear hno hk1 hk2 hK
  have hta := refTakeAll_any A2 c2 q0 fl 0 3 W2 (by have := Hlen.out; omega) (Nat.le_of_lt hqlt.out) hrd2.out (by decide)
  rw [← hn.out] at hta
  rcases head_link fl kk with ⟨hbad, hrun⟩ | ⟨p1, i1, q1, P0, htk, hrun, hp1, hi1, hq1⟩
  · obtain ⟨r, hrr⟩ : ∃ r, takeAll fl 0 3 = r := ⟨_, rfl⟩
    obtain ⟨rl, rp, re⟩ := r
    rw [hrr] at hta hbad hrun
    simp only at hbad hrun
    have hpm : parseM b = (Rc.zero 0, re) := parseM_part (E := re) (x := (runS (rdP fl) (Rc.zero fk.toNat, 0) (allP fk.toNat)).1.1) (p := (runS (rdP fl) (Rc.zero fk.toNat, 0) (allP fk.toNat)).1.2) Hone.out Hk.out (by
      have h := runS_stop (rdP fl) [0, 1, 2] (parts fk.toNat) (Rc.zero fk.toNat, 0) (by rw [← hkk.out, hrun]; exact hbad)
      rw [← rd_all fl] at h
      have h2 : (runS (rdP fl) (Rc.zero fk.toNat, 0) (allP fk.toNat)).2 = re := by rw [h, ← hkk.out, hrun]
      rw [← h2]) hbad
    have Hpm := Lib.hid hpm
    have Hta := Lib.hid hta
    have e1 : ((re : Int) != 0) = true := by rw [bne_iff_ne]; omega
    have e2 : (re != 0) = true := by rw [bne_iff_ne]; exact hbad
    clear hta hrr hrun hpm hbad
    go_wp2_with (first
      | (go_at_call 37; refine Hta.out.mono ?_; rintro e w3 ⟨⟨v, rfl, hown⟩, hb3⟩; simp only; have hg := hx2.out.keep hb3)
      | (refine wpList_storeRRec (x := Rc.zero 0) (.tmp 2) (.tmp 41) rfl rfl rfl rfl hg ?_; intro w4 hx4 hb4 _ _))
    refine ret_rrec rfl w.heap.size (Rc.zero 0) rfl hx4 rfl ⟨by rw [Hpm.out]; rfl, ?_⟩
    exact (hb2.out.trans (hb3.mono hb2.out.size)).trans (hb4 _ (Nat.le_refl _))
  rw [htk] at hta
  have Hta := Lib.hid hta
  have Hrun := Lib.hid hrun
  clear hta hrun htk
  go_upto_region 9 with (go_at_call 37; refine Hta.out.mono ?_; rintro e w3 ⟨⟨v, rfl, hown⟩, hb3⟩; simp only)
  obtain ⟨A3, c3, rfl, hcap3, _, hr3⟩ := own_form hown
  obtain ⟨ad, rfl, had⟩ : ∃ ad, A3 = some ad ∧ ad.block < w3.heap.size := by
    obtain ⟨ad, x, e, h, _, _⟩ := RdU.at_ (l := [p1, i1, q1]) hr3 (k := 0) (by simp)
    exact ⟨ad, e, h⟩
  have hu : ∀ k x : Nat, [p1, i1, q1][k]? = some x → w3.cell? (ad.add k) = some (.int .u64 (x : Int)) := by
    intro k x hx
    obtain ⟨ad', x', e, h, hc, hx'⟩ := RdU.at_ (l := [p1, i1, q1]) hr3 (k := k) (List.getElem?_eq_some_iff.1 hx).1
    injection e with e
    subst e
    have := hx'.out
    rw [hx] at this
    injection this with this
    subst this
    exact hc
  have hu0 := Lib.hid (hu 0 p1 rfl)
  have hu1 := Lib.hid (hu 1 i1 rfl)
  have hu2 := Lib.hid (hu 2 q1 rfl)
  have had := Lib.hid had
  have hq0a := Lib.hid (show q0 < w3.heap.size from Nat.lt_of_lt_of_le hqlt.out hb3.size)
  have frc := Lib.hid ((hb3.block q0 hqlt.out).trans hfrH.out)
  have frc0 := Lib.hid (cell_of_row w3 q0 0 _ _ _ frc.out)
  have Hrd3 := Lib.hid (hrd2.out.below (hb3.mono (Nat.le_of_lt hqlt.out)))
  have Hx3 := Lib.hid (hx2.out.keep hb3)
  have Hb3 := Lib.hid (hb2.out.trans (hb3.mono hb2.out.size))
  clear hu hr3 hown hb3 f0 f1 hcap3
  go_cut [9] from 43 to 54 (fun s wx => Below w3.heap.size w3 wx ∧ ∃ g, s = .pointer (some ⟨g, 0, none⟩) ∧ w3.heap.size ≤ g ∧ RRec (headK kk p1 i1 q1) wx g)
  case first =>
    rename_i J K1 hJ hK
    refine wp_region_tailP (n := 106) (m := 13) (MkF w3 q0 kk p1 i1 q1 (.slice (some ad) 3 c3) ad) (MkC w3) (by kernel_rfl) (by kernel_rfl) rfl rfl (by decide) (by kernel_rfl) (by kernel_rfl) ?_ ?_ ?_
    · exact (Below.refl _ _).drew
    rotate_left
    · intro b' w' hsz hd hs hc hall
      obtain ⟨g, e12, hgl, hg⟩ : MkF w3 q0 kk p1 i1 q1 (.slice (some ad) 3 c3) ad 12 (b'.tmps.getD 9 undef) w' := hall 12 _ _ (by decide) rfl rfl
      have e11 : b'.tmps.getD 54 undef = (headK kk p1 i1 q1).v := hall 11 _ _ (by decide) rfl rfl
      refine wpList_storeRRec (.tmp 9) (.tmp 54) rfl rfl e12 e11 hg ?_
      intro w5 hy5 hb5 _ _
      refine hK _ _ (Met.intro (hJ _ _ ?_))
      exact ⟨b'.tmps.getD 9 undef, b'.tmps.getD 43 undef, b'.tmps.getD 44 undef, b'.tmps.getD 45 undef, b'.tmps.getD 46 undef, b'.tmps.getD 47 undef, b'.tmps.getD 48 undef, b'.tmps.getD 49 undef, b'.tmps.getD 50 undef, b'.tmps.getD 51 undef, b'.tmps.getD 52 undef, b'.tmps.getD 53 undef, b'.tmps.getD 54 undef, ⟨hc.trans (hb5 _ hgl), g, e12, hgl, hy5⟩, (act_known hsz hd hs).trans (by kernel_rfl)⟩
    refine OpsOk.cons _ _ (OpOk.run _ _ MkF.keep MkC.keep fun b v hs hc hg => ⟨rfl, _, _, exec_fieldRFr0 rfl (hs 4 (by kernel_rfl)), .refl _ _, rfl⟩) ?_
    refine OpsOk.cons _ _ (OpOk.run _ _ MkF.keep MkC.keep fun b v hs hc hg => ⟨rfl, _, _, exec_load8 rfl (dep hg 0 rfl rfl rfl rfl) (hc.cell (p := ⟨q0, 0, none⟩) hq0a.out |>.trans frc0.out), .refl _ _, rfl⟩) ?_
    refine OpsOk.cons _ _ (OpOk.run _ _ MkF.keep MkC.keep fun b v hs hc hg => ⟨rfl, _, _, exec_move rfl (hs 6 (by kernel_rfl)), .refl _ _, rfl⟩) ?_
    refine OpsOk.cons _ _ (OpOk.run _ _ MkF.keep MkC.keep fun b v hs hc hg => ⟨rfl, _, _, exec_atU (k := 0) rfl (dep hg 0 rfl rfl rfl rfl) rfl (by decide), .refl _ _, rfl⟩) ?_
    refine OpsOk.cons _ _ (OpOk.run _ _ MkF.keep MkC.keep fun b v hs hc hg => ⟨rfl, _, _, exec_load64 rfl (dep hg 0 rfl rfl rfl rfl) ((hc.cell (p := ad.add 0) (by rw [ad_block]; exact had.out)).trans hu0.out), .refl _ _, rfl⟩) ?_
    refine OpsOk.cons _ _ (OpOk.run _ _ MkF.keep MkC.keep fun b v hs hc hg => ⟨rfl, _, _, exec_move rfl (hs 6 (by kernel_rfl)), .refl _ _, rfl⟩) ?_
    refine OpsOk.cons _ _ (OpOk.run _ _ MkF.keep MkC.keep fun b v hs hc hg => ⟨rfl, _, _, exec_atU (k := 1) rfl (dep hg 0 rfl rfl rfl rfl) rfl (by decide), .refl _ _, rfl⟩) ?_
    refine OpsOk.cons _ _ (OpOk.run _ _ MkF.keep MkC.keep fun b v hs hc hg => ⟨rfl, _, _, exec_load64 rfl (dep hg 0 rfl rfl rfl rfl) ((hc.cell (p := ad.add 1) (by rw [ad_block]; exact had.out)).trans hu1.out), .refl _ _, rfl⟩) ?_
    refine OpsOk.cons _ _ (OpOk.run _ _ MkF.keep MkC.keep fun b v hs hc hg => ⟨rfl, _, _, exec_move rfl (hs 6 (by kernel_rfl)), .refl _ _, rfl⟩) ?_
    refine OpsOk.cons _ _ (OpOk.run _ _ MkF.keep MkC.keep fun b v hs hc hg => ⟨rfl, _, _, exec_atU (k := 2) rfl (dep hg 0 rfl rfl rfl rfl) rfl (by decide), .refl _ _, rfl⟩) ?_
    refine OpsOk.cons _ _ (OpOk.run _ _ MkF.keep MkC.keep fun b v hs hc hg => ⟨rfl, _, _, exec_load64 rfl (dep hg 0 rfl rfl rfl rfl) ((hc.cell (p := ad.add 2) (by rw [ad_block]; exact had.out)).trans hu2.out), .refl _ _, rfl⟩) ?_
    refine OpsOk.cons _ _ (OpOk.run _ _ MkF.keep MkC.keep fun b v hs hc hg => ⟨rfl, _, _, exec_build4 rfl (dep hg 0 rfl rfl rfl rfl) (dep hg 1 rfl rfl rfl rfl) (dep hg 2 rfl rfl rfl rfl) (dep hg 3 rfl rfl rfl rfl), .refl _ _, rfl⟩) ?_
    refine OpsOk.cons _ _ (OpOk.run _ _ MkF.keep MkC.keep fun b v hs hc hg => ⟨rfl, _, _, exec_allocRRec rfl, below_new _ _, v.heap.size, rfl, hc.size, rrec_new _ _⟩) (OpsOk.nil _ _)
  obtain ⟨hbc, g9, rfl, hg9, hy⟩ := hcut
  obtain ⟨wa, rfl⟩ : ∃ wa : World, wa = wc := ⟨_, rfl⟩
  have Hxa := Lib.hid (Hx3.out.keep hbc)
  have Hba := Lib.hid (Hb3.out.trans (hbc.mono Hb3.out.size))
  have fra := Lib.hid ((hbc.block q0 hq0a.out).trans frc.out)
  have Hrda := Lib.hid (Hrd3.out.below (hbc.mono (Nat.le_of_lt hq0a.out)))
  have Hya := Lib.hid hy
  have hqg := Lib.hid (show q0 < g9 from Nat.lt_of_lt_of_le hq0a.out hg9)
  have hag := Lib.hid (show w.heap.size < g9 by have := hqg.out; have := hr0q.out; omega)
  clear hbc hy hg9
  have f0 : wa.cell? ⟨q0, 0, none⟩ = some (.int .u8 (kk : Int)) := cell_of_row wa q0 0 _ _ _ fra.out
  obtain ⟨L, hL⟩ : ∃ L, Hid (L = txt (lettersOf kk)) := ⟨_, rfl⟩
  have hLz : L.size = (parts kk).length := by rw [hL.out, txt_size, letters_len]
  obtain ⟨m, hm⟩ : ∃ m, Hid (m = (parts kk).length) := ⟨_, rfl⟩
  rw [← hm.out] at hLz
  have hm4 : (m : Int) ≤ 4 := by have := parts_len kk; rw [← hm.out] at this; omega
  have Hparts := Lib.hid (parts_any kk wa)
  rw [← hL.out] at Hparts
  go_upto_region 11 with (go_at_call 24; refine Hparts.out.mono ?_; rintro e wb ⟨rfl, hb4⟩)
  have hqa := (Array.getElem?_eq_some_iff.1 fra.out).1
  have Hxb := Lib.hid (Hxa.out.keep hb4)
  have Hbb := Lib.hid (Hba.out.trans (hb4.mono Hba.out.size))
  have frb := Lib.hid ((hb4.block q0 hqa).trans fra.out)
  have Hrdb := Lib.hid (Hrda.out.below (hb4.mono (Nat.le_of_lt hqa)))
  have Hyb := Lib.hid (Hya.out.keep hb4)
  clear hb4 f0 hqa
  go_wp2
  go_loopw [7, 8, 11, 12, 13] (fun v7 v8 i v12 v13 wr => ∃ (n1 : Nat) (y : Rc) (P : Int), n1 ≤ m ∧ i = .int .i64 (n1 : Int) ∧ v7 = .int .i64 P ∧ Hid (runS (rdP fl) (headK kk p1 i1 q1, P0) ((parts kk).take n1) = ((y, P), 0)) ∧ Hid (RRec (Rc.zero 0) wr w.heap.size) ∧ Hid (RRec y wr g9) ∧ Hid (wr.heap[q0]? = some (.cells #[.int .u8 (kk : Int), .slice A2 n c2] 44 (0, 0))) ∧ Hid (RdB wr q0 A2 fl) ∧ Hid (Below w.heap.size w wr)) (fun _ _ i _ _ _ => m - (intOf i).toNat)
  case atStart => exact ⟨0, headK kk p1 i1 q1, P0, by omega, rfl, rfl, by exact Lib.hid rfl, Hxb, Hyb, frb, Hrdb, Hbb⟩
  case round =>
    obtain ⟨n1, y, P, hn1, rfl, rfl, hrunP, hxr, hyr, frr, hrdr, hbr⟩ := hrel
    have g0 : wr.cell? ⟨q0, 0, none⟩ = some (.int .u8 (kk : Int)) := cell_of_row wr q0 0 _ _ _ frr.out
    have g1 : wr.cell? ⟨q0, 1, none⟩ = some (.slice A2 n c2) := cell_of_row wr q0 1 _ _ _ frr.out
    have hall : Hid (runS (rdP fl) (Rc.zero fk.toNat, 0) (allP fk.toNat) = runS (rdP fl) (headK kk p1 i1 q1, P0) (parts kk)) := by
      rw [← hkk.out, rd_all fl, runS_go _ _ _ _ (by rw [Hrun.out]), Hrun.out]
      exact Lib.hid rfl
    by_cases hlt : n1 < m
    · obtain ⟨j, hj⟩ : ∃ j, Hid ((parts kk)[n1]? = some j) := ⟨_, List.getElem?_eq_getElem (by rw [← hm.out]; exact hlt)⟩
      have hj3 := Lib.hid (parts_le (List.mem_of_getElem? hj.out))
      have hlt' : (n1 : Int) < (m : Int) := by omega
      have hfail : Hid ((rdP fl (y, P) j).2 ≠ 0 → parseM b = (Rc.zero 0, (rdP fl (y, P) j).2)) := Lib.hid fun hE => parseM_part (x := (rdP fl (y, P) j).1.1) (p := (rdP fl (y, P) j).1.2) Hone.out Hk.out (by rw [hall.out, run_fail hrunP.out hj.out hE]) hE
      have hstep : Hid ((rdP fl (y, P) j).2 = 0 → runS (rdP fl) (headK kk p1 i1 q1, P0) ((parts kk).take (n1 + 1)) = rdP fl (y, P) j) := Lib.hid fun _ => run_step hrunP.out hj.out
      go_upto_region 15 with fail
      refine wp_region_lit (wpList_run (v := .string L) (w' := wr) rfl (by kernel_rfl) (wpList_run (v := .int .i64 (n1 : Int)) (w' := wr) rfl (by kernel_rfl) ?_))
      go_frame
      refine wpList_run (v := .int .u8 (letterOf j : Int)) (w' := wr) rfl (exec_letter (x := .tmp 64) (y := .tmp 65) hL.out hj.out rfl (by kernel_rfl) (by kernel_rfl)) ?_
      go_frame
      refine wpList_call rfl (exec_call1 (v := .int .u8 (letterOf j : Int)) (enter_isText _) rfl (by kernel_rfl)) ((isText_any hj3.out wr).mono ?_)
      rintro e w4 ⟨rfl, rfl⟩
      refine ⟨_, rfl, ?_⟩
      by_cases h9 : 9 ≤ j
      · have h9d : decide (9 ≤ j) = true := decide_eq_true h9
        have hrd := rdP_with fl y P (j := j)
        rw [if_neg (show ¬ j < 9 by omega)] at hrd
        rw [hrd] at hfail hstep
        simp only at hfail hstep
        clear hrd
        obtain ⟨r, hrr⟩ : ∃ r, takeText fl P = r := ⟨_, rfl⟩
        obtain ⟨rt, rp, re⟩ := r
        have hcl := refTakeText_any A2 c2 q0 fl P wr (by have := Hlen.out; omega) (by have := Hcap2.out; omega) (Nat.le_of_lt (Array.getElem?_eq_some_iff.1 frr.out).1) hrdr.out
        rw [hrr] at hfail hstep hcl
        simp only at hfail hstep
        rw [← hn.out] at hcl
        unfold textVal at hcl
        simp only at hcl
        have Hcl := Lib.hid hcl
        clear hcl hrr
        rw [h9d]
        go_frame
        go_upto_region 18 with (go_at_call 38; refine Hcl.out.mono ?_; rintro e w4 ⟨rfl, hb4⟩)
        have hqr := (Array.getElem?_eq_some_iff.1 frr.out).1
        have hx4 := Lib.hid (hxr.out.keep hb4)
        have hy4 := Lib.hid (hyr.out.keep hb4)
        have fr4 := Lib.hid ((hb4.block q0 hqr).trans frr.out)
        have hrd4 := Lib.hid (hrdr.out.below (hb4.mono (Nat.le_of_lt hqr)))
        have hbw4 := Lib.hid (hbr.out.trans (hb4.mono hbr.out.size))
        clear hb4 g0 g1
        by_cases hE : re = 0
        rotate_left
        · have e1 : ((re : Int) != 0) = true := by rw [bne_iff_ne]; omega
          have e2 : (re != 0) = true := by rw [bne_iff_ne]; exact hE
          have Hpm := Lib.hid (hfail.out hE)
          go_wp2_with (refine wpList_storeRRec (x := Rc.zero 0) (.tmp 2) (.tmp 86) rfl rfl rfl rfl hx4.out ?_; intro w6 hx6 hb6 _ _)
          refine ret_rrec rfl w.heap.size (Rc.zero 0) rfl hx6 rfl ⟨by rw [Hpm.out]; rfl, ?_⟩
          exact hbw4.out.trans (hb6 _ (Nat.le_refl _))
        subst hE
        have Hst := Lib.hid (hstep.out rfl)
        clear hfail hstep
        go_upto_region 20 with fail
        refine wp_last ?_
        go_cut [] from 88 to 94 (fun wx => RRec (withR y j 0 rt) wx g9 ∧ Below g9 w4 wx ∧ w4.heap.size ≤ wx.heap.size)
        case first =>
          rename_i J K1 hJ hK
          rw [hL.out]
          refine wp_region_tailP (n := 106) (m := 7) (GtF y kk n1 j 0 rt) (GtC w4 y g9) (by kernel_rfl) (by kernel_rfl) rfl rfl (by decide) (by kernel_rfl) (by kernel_rfl) ?_ ?_ ?_
          · exact ⟨(Below.refl _ _).drew, hy4.out⟩
          rotate_left
          · intro b' w' hsz hd hs hc hall
            have h6 : b'.tmps.getD 94 undef = (withR y j 0 rt).v := hall 6 _ _ (by decide) rfl rfl
            have h9 : b'.tmps.getD 9 undef = .pointer (some ⟨g9, 0, none⟩) := hs 9 (by kernel_rfl)
            refine wpList_storeRRec (.tmp 9) (.tmp 94) rfl rfl h9 h6 hc.2 ?_
            intro w5 hy5 hb5 _ _
            have hbg := hb5 _ (Nat.le_refl _)
            refine hK _ _ (Met.intro (hJ _ _ ?_))
            exact ⟨b'.tmps.getD 88 undef, b'.tmps.getD 89 undef, b'.tmps.getD 90 undef, b'.tmps.getD 91 undef, b'.tmps.getD 92 undef, b'.tmps.getD 93 undef, b'.tmps.getD 94 undef, ⟨hy5, (hc.1.mono (Nat.le_of_lt hy4.out.lt)).trans hbg, Nat.le_trans hc.1.size hbg.size⟩, (act_known hsz hd hs).trans (by rw [← hL.out]; kernel_rfl)⟩
          refine OpsOk.cons _ _ (OpOk.run _ _ GtF.keep GtC.keep fun b v hs hc hg => ⟨rfl, _, _, exec_loadRRec rfl (hs 9 (by kernel_rfl)) hc.2.cells12, .refl _ _, rfl⟩) ?_
          refine OpsOk.cons _ _ (OpOk.run _ _ GtF.keep GtC.keep fun b v hs hc hg => ⟨rfl, _, _, exec_move rfl (hs 10 (by kernel_rfl)), .refl _ _, rfl⟩) ?_
          refine OpsOk.cons _ _ (OpOk.run _ _ GtF.keep GtC.keep fun b v hs hc hg => ⟨rfl, _, _, exec_move rfl (hs 11 (by kernel_rfl)), .refl _ _, rfl⟩) ?_
          refine OpsOk.cons _ _ (OpOk.run _ _ GtF.keep GtC.keep fun b v hs hc hg => ⟨rfl, _, _, exec_letter rfl hj.out rfl (dep hg 0 rfl rfl rfl rfl) (dep hg 1 rfl rfl rfl rfl), .refl _ _, rfl⟩) ?_
          refine OpsOk.cons _ _ (OpOk.run _ _ GtF.keep GtC.keep fun b v hs hc hg => ⟨rfl, _, _, exec_move rfl (hs 12 (by kernel_rfl)), .refl _ _, rfl⟩) ?_
          refine OpsOk.cons _ _ (OpOk.run _ _ GtF.keep GtC.keep fun b v hs hc hg => ⟨rfl, _, _, exec_move rfl (hs 13 (by kernel_rfl)), .refl _ _, rfl⟩) ?_
          refine OpsOk.cons _ _ (OpOk.call _ _ GtF.keep GtC.keep fun b v hs hc hg => ⟨rfl, _, _, exec_call4 (enter_with _) rfl (dep hg 0 rfl rfl rfl rfl) (dep hg 1 rfl rfl rfl rfl) (dep hg 2 rfl rfl rfl rfl) (dep hg 3 rfl rfl rfl rfl), ans_v (with_any _ hj3.out _ _ v)⟩) (OpsOk.nil _ _)
        obtain ⟨hy5, hb5, hs5⟩ := hcut
        have Hy5 := Lib.hid hy5
        have Hx5 := Lib.hid (hx4.out.below hb5 hag.out)
        have fr5 := Lib.hid ((hb5.block q0 hqg.out).trans fr4.out)
        have hrd5 := Lib.hid (hrd4.out.below (hb5.mono (Nat.le_of_lt hqg.out)))
        have hbw5 := Lib.hid (hbw4.out.trans (hb5.mono (Nat.le_of_lt hag.out)))
        clear hy5 hb5 hs5
        go_wp2
        go_roundw
        · exact ⟨n1 + 1, _, _, by omega, by exact rfl, by exact rfl, Hst, Hx5, Hy5, fr5, hrd5, hbw5⟩
        · show m - (intOf (.int .i64 ((n1 : Int) + 1))).toNat < m - (intOf (.int .i64 (n1 : Int))).toNat
          simp only [intOf]
          omega
      · have h9d : decide (9 ≤ j) = false := decide_eq_false h9
        have hrd := rdP_with fl y P (j := j)
        rw [if_pos (show j < 9 by omega)] at hrd
        rw [hrd] at hfail hstep
        simp only at hfail hstep
        clear hrd
        obtain ⟨r, hrr⟩ : ∃ r, take fl P = r := ⟨_, rfl⟩
        obtain ⟨rt, rp, re⟩ := r
        have hcl := refTake_any A2 c2 q0 fl P wr (by have := Hlen.out; omega) (Nat.le_of_lt (Array.getElem?_eq_some_iff.1 frr.out).1) hrdr.out
        rw [hrr] at hfail hstep hcl
        simp only at hfail hstep hcl
        rw [← hn.out] at hcl
        have Hcl := Lib.hid hcl
        clear hcl hrr
        rw [h9d]
        go_frame
        go_upto_region 18 with (go_at_call 39; refine Hcl.out.mono ?_; rintro e w4 ⟨rfl, hb4⟩)
        have hqr := (Array.getElem?_eq_some_iff.1 frr.out).1
        have hx4 := Lib.hid (hxr.out.keep hb4)
        have hy4 := Lib.hid (hyr.out.keep hb4)
        have fr4 := Lib.hid ((hb4.block q0 hqr).trans frr.out)
        have hrd4 := Lib.hid (hrdr.out.below (hb4.mono (Nat.le_of_lt hqr)))
        have hbw4 := Lib.hid (hbr.out.trans (hb4.mono hbr.out.size))
        clear hb4 g0 g1
        by_cases hE : re = 0
        rotate_left
        · have e1 : ((re : Int) != 0) = true := by rw [bne_iff_ne]; omega
          have e2 : (re != 0) = true := by rw [bne_iff_ne]; exact hE
          have Hpm := Lib.hid (hfail.out hE)
          go_wp2_with (refine wpList_storeRRec (x := Rc.zero 0) (.tmp 2) (.tmp 86) rfl rfl rfl rfl hx4.out ?_; intro w6 hx6 hb6 _ _)
          refine ret_rrec rfl w.heap.size (Rc.zero 0) rfl hx6 rfl ⟨by rw [Hpm.out]; rfl, ?_⟩
          exact hbw4.out.trans (hb6 _ (Nat.le_refl _))
        subst hE
        have Hst := Lib.hid (hstep.out rfl)
        clear hfail hstep
        go_upto_region 20 with fail
        refine wp_last ?_
        go_cut [] from 88 to 94 (fun wx => RRec (withR y j rt []) wx g9 ∧ Below g9 w4 wx ∧ w4.heap.size ≤ wx.heap.size)
        case first =>
          rename_i J K1 hJ hK
          rw [hL.out]
          refine wp_region_tailP (n := 106) (m := 7) (GtF y kk n1 j rt []) (GtC w4 y g9) (by kernel_rfl) (by kernel_rfl) rfl rfl (by decide) (by kernel_rfl) (by kernel_rfl) ?_ ?_ ?_
          · exact ⟨(Below.refl _ _).drew, hy4.out⟩
          rotate_left
          · intro b' w' hsz hd hs hc hall
            have h6 : b'.tmps.getD 94 undef = (withR y j rt []).v := hall 6 _ _ (by decide) rfl rfl
            have h9 : b'.tmps.getD 9 undef = .pointer (some ⟨g9, 0, none⟩) := hs 9 (by kernel_rfl)
            refine wpList_storeRRec (.tmp 9) (.tmp 94) rfl rfl h9 h6 hc.2 ?_
            intro w5 hy5 hb5 _ _
            have hbg := hb5 _ (Nat.le_refl _)
            refine hK _ _ (Met.intro (hJ _ _ ?_))
            exact ⟨b'.tmps.getD 88 undef, b'.tmps.getD 89 undef, b'.tmps.getD 90 undef, b'.tmps.getD 91 undef, b'.tmps.getD 92 undef, b'.tmps.getD 93 undef, b'.tmps.getD 94 undef, ⟨hy5, (hc.1.mono (Nat.le_of_lt hy4.out.lt)).trans hbg, Nat.le_trans hc.1.size hbg.size⟩, (act_known hsz hd hs).trans (by rw [← hL.out]; kernel_rfl)⟩
          refine OpsOk.cons _ _ (OpOk.run _ _ GtF.keep GtC.keep fun b v hs hc hg => ⟨rfl, _, _, exec_loadRRec rfl (hs 9 (by kernel_rfl)) hc.2.cells12, .refl _ _, rfl⟩) ?_
          refine OpsOk.cons _ _ (OpOk.run _ _ GtF.keep GtC.keep fun b v hs hc hg => ⟨rfl, _, _, exec_move rfl (hs 10 (by kernel_rfl)), .refl _ _, rfl⟩) ?_
          refine OpsOk.cons _ _ (OpOk.run _ _ GtF.keep GtC.keep fun b v hs hc hg => ⟨rfl, _, _, exec_move rfl (hs 11 (by kernel_rfl)), .refl _ _, rfl⟩) ?_
          refine OpsOk.cons _ _ (OpOk.run _ _ GtF.keep GtC.keep fun b v hs hc hg => ⟨rfl, _, _, exec_letter rfl hj.out rfl (dep hg 0 rfl rfl rfl rfl) (dep hg 1 rfl rfl rfl rfl), .refl _ _, rfl⟩) ?_
          refine OpsOk.cons _ _ (OpOk.run _ _ GtF.keep GtC.keep fun b v hs hc hg => ⟨rfl, _, _, exec_move rfl (hs 12 (by kernel_rfl)), .refl _ _, rfl⟩) ?_
          refine OpsOk.cons _ _ (OpOk.run _ _ GtF.keep GtC.keep fun b v hs hc hg => ⟨rfl, _, _, exec_move rfl (hs 13 (by kernel_rfl)), .refl _ _, rfl⟩) ?_
          refine OpsOk.cons _ _ (OpOk.call _ _ GtF.keep GtC.keep fun b v hs hc hg => ⟨rfl, _, _, exec_call4 (enter_with _) rfl (dep hg 0 rfl rfl rfl rfl) (dep hg 1 rfl rfl rfl rfl) (dep hg 2 rfl rfl rfl rfl) (dep hg 3 rfl rfl rfl rfl), ans_v (with_any _ hj3.out _ _ v)⟩) (OpsOk.nil _ _)
        obtain ⟨hy5, hb5, hs5⟩ := hcut
        have Hy5 := Lib.hid hy5
        have Hx5 := Lib.hid (hx4.out.below hb5 hag.out)
        have fr5 := Lib.hid ((hb5.block q0 hqg.out).trans fr4.out)
        have hrd5 := Lib.hid (hrd4.out.below (hb5.mono (Nat.le_of_lt hqg.out)))
        have hbw5 := Lib.hid (hbw4.out.trans (hb5.mono (Nat.le_of_lt hag.out)))
        clear hy5 hb5 hs5
        go_wp2
        go_roundw
        · exact ⟨n1 + 1, _, _, by omega, by exact rfl, by exact rfl, Hst, Hx5, Hy5, fr5, hrd5, hbw5⟩
        · show m - (intOf (.int .i64 ((n1 : Int) + 1))).toNat < m - (intOf (.int .i64 (n1 : Int))).toNat
          simp only [intOf]
          omega
    · obtain rfl : n1 = m := by omega
      rw [hm.out, List.take_length, ← hall.out] at hrunP
      have hyk : y.k = fk.toNat := by
        have h := runS_rdP_k fl (allP fk.toNat) (Rc.zero fk.toNat, 0)
        rw [hrunP.out] at h
        exact h
      by_cases hlong : P < (n : Int)
      · have Hpm := Lib.hid (parseM_long Hone.out Hk.out hrunP.out (by rw [← hn.out]; exact hlong))
        clear hyk
        go_wp2_with (refine wpList_storeRRec (x := Rc.zero 0) (.tmp 2) (.tmp 100) rfl rfl rfl rfl hxr.out ?_; intro w6 hx6 hb6 _ _)
        refine ret_rrec rfl w.heap.size (Rc.zero 0) rfl hx6 rfl ⟨by rw [Hpm.out]; rfl, ?_⟩
        exact hbr.out.trans (hb6 _ (Nat.le_refl _))
      have Hlong := Lib.hid (show ¬ P < (fl.length : Int) by rw [← hn.out]; exact hlong)
      have hlong' : (n : Int) ≤ P := by omega
      have Hri := Lib.hid (refRight_any y wr)
      clear hlong hyk
      go_upto_region 23 with fail
      refine wp_region_lit ?_
      refine wpList_runG (v := y.v) (w' := wr) (by kernel_rfl) (exec_loadRRec (x := .tmp 9) (g := g9) rfl (by kernel_rfl) hyr.out.cells12) ?_
      go_frame
      refine wpList_callG (by kernel_rfl) (exec_call1 (v := y.v) (enter_refRight _) rfl (by kernel_rfl)) ?_
      refine Hri.out.mono ?_
      rintro e w6 ⟨rfl, hb6⟩
      refine ⟨_, rfl, ?_⟩
      go_frame
      refine wpList_run (v := .bool (!rightM y)) (w' := w6) rfl (by kernel_rfl) ?_
      go_frame
      have Hx6 := Lib.hid (hxr.out.keep hb6)
      have Hy6 := Lib.hid (hyr.out.keep hb6)
      have Hb6 := Lib.hid (hbr.out.trans (hb6.mono hbr.out.size))
      clear hb6
      cases hrt : rightM y
      · have Hpm := Lib.hid (parseM_wrong Hone.out Hk.out hrunP.out Hlong.out hrt)
        go_wp2_with (refine wpList_storeRRec (x := Rc.zero 0) (.tmp 2) (.tmp 104) rfl rfl rfl rfl Hx6.out ?_; intro w7 hx7 hb7 _ _)
        refine ret_rrec rfl w.heap.size (Rc.zero 0) rfl hx7 rfl ⟨by rw [Hpm.out]; rfl, ?_⟩
        exact Hb6.out.trans (hb7 _ (Nat.le_refl _))
      · have Hpm := Lib.hid (parseM_right Hone.out Hk.out hrunP.out Hlong.out hrt)
        go_upto_region 25 with fail
        refine wp_region_lit (wpList_runG (v := y.v) (w' := w6) (by kernel_rfl) (exec_loadRRec (x := .tmp 9) (g := g9) rfl (by kernel_rfl) Hy6.out.cells12) ?_)
        go_frame
        refine wpList_storeRRec (x := y) (.tmp 2) (.tmp 105) rfl rfl (by kernel_rfl) (by kernel_rfl) Hx6.out ?_
        intro w7 hx7 hb7 _ _
        go_frame
        refine wpList_run (v := .int .i64 0) (w' := w7) rfl (by kernel_rfl) ?_
        go_frame
        go_wp2_with fail
        refine ret_rrec rfl w.heap.size y rfl hx7 rfl ⟨by rw [Hpm.out]; rfl, ?_⟩
        exact Hb6.out.trans (hb7 _ (Nat.le_refl _))
end Go.Proofs.Ytfhcpjnjemojgaa
