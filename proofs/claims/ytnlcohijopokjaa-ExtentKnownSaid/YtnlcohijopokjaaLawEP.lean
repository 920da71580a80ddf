/- The walk of ExtentPlays: it holds. Conditions: none. -/
import Derived.Test.YtnlcohijopokjaaExU
namespace Go.Proofs.Ytnlcohijopokjaa
open Go.RowKit

theorem enter_rapp (w : World) (args : Array Value) : (callFunc 18 args).run Try.prog w = .ok (.enter 18 args) w := by kernel_rfl
theorem enter_rfail (w : World) (args : Array Value) : (callFunc 16 args).run Try.prog w = .ok (.enter 16 args) w := by kernel_rfl
section
variable {b : Act} {w : World} {o : Oper}
theorem exec_atA {x y : Operand} {ad : Addr} {n c k : Nat} (ho : o.op = .indexAddr 23 x y) (h : b.eval x = .slice (some ad) n c) (h' : b.eval y = .int .i64 (k : Int)) (hk : k < n) : (execOp b.eval o).run Try.prog w = .ok (.value (.pointer (some (ad.add (k * 3))))) w := by
  have hk' : (k : Int) < n := by omega
  unfold execOp
  simp only [ho, h, h']
  go_simp
theorem exec_fieldA1 {x : Operand} {a : Addr} (ho : o.op = .fieldAddr 40 x 1) (h : b.eval x = .pointer (some a)) : (execOp b.eval o).run Try.prog w = .ok (.value (.pointer (some ⟨a.block, a.off + 1, none⟩))) w := by
  unfold execOp
  simp only [ho, h]
  go_simp
theorem exec_fieldA2 {x : Operand} {a : Addr} (ho : o.op = .fieldAddr 40 x 2) (h : b.eval x = .pointer (some a)) : (execOp b.eval o).run Try.prog w = .ok (.value (.pointer (some ⟨a.block, a.off + 2, none⟩))) w := by
  unfold execOp
  simp only [ho, h]
  go_simp
end
section
variable {w W : World} {X : Nat → Prop} {v : Value} {m m' : List Pt}
theorem rsyncX (hm : SmM m) (hv : FileV w X v m) : Calls Try.prog 14 #[.agg #[v]] w fun e w' => ∃ u, e = .returned u ∧ Below w.heap.size w w' ∧ ∃ u', u = .agg #[u'] ∧ FileV w' (XW w) u' (syncM m) := by
  obtain ⟨A, c, ps, rfl, hc, hp, rfl⟩ := hv
  refine (rsync_any hm hp).mono ?_
  rintro e w' ⟨u, rfl, hb, hf⟩
  exact ⟨_, rfl, hb, u, rfl, hf⟩
theorem rappX {Ab : Option Addr} {cb B nb : Nat} {l : List UInt8} (hm : SmM m) (hv : FileV W X v m) (hl : l.length ≤ 100000) (hn : l.length = nb) (hB : B ≤ W.heap.size) (hb : RdB W B Ab l) (he : appM m l = m') (w : World) (hc : Below W.heap.size W w) :
    Calls Try.prog 18 #[.agg #[v], .slice Ab nb cb] w fun e w' => ∃ u, e = .returned u ∧ Below w.heap.size w w' ∧ ∃ u', u = .agg #[u'] ∧ FileV w' (XW W) u' m' := by
  obtain ⟨A, c, ps, rfl, _, hp, rfl⟩ := hv
  subst he hn
  refine (rapp_any hm (hp.below hc) hl (Nat.le_trans hB hc.size) (Reads.below hb (hc.mono hB))).mono ?_
  rintro e w' ⟨u, rfl, hb, hf⟩
  exact ⟨_, rfl, hb, u, rfl, hf.mono fun b _ e => Nat.lt_of_lt_of_le e hc.size⟩
theorem rfailX {Ak : Option Addr} {ck B nk : Nat} {q : List Bool} (hm : SmM m) (hv : FileV W X v m) (hl : q.length ≤ 1000) (hn : q.length = nk) (hB : B ≤ W.heap.size) (hb : RdK W B Ak q) (he : failM m q = m') (w : World) (hc : Below W.heap.size W w) :
    Calls Try.prog 16 #[.agg #[v], .slice Ak nk ck] w fun e w' => ∃ u, e = .returned u ∧ Below w.heap.size w w' ∧ ∃ u', u = .agg #[u'] ∧ FileV w' (XW W) u' m' := by
  obtain ⟨A, c, ps, rfl, _, hp, rfl⟩ := hv
  subst he hn
  refine (rfail_any hm (hp.below hc) hl (Nat.le_trans hB hc.size) (Reads.below hb (hc.mono hB))).mono ?_
  rintro e w' ⟨u, rfl, hb, hf⟩
  exact ⟨_, rfl, hb, u, rfl, hf.mono fun b _ e => Nat.lt_of_lt_of_le e hc.size⟩
end
def EpB (ad : Addr) (n c k : Nat) (Ar Ab : Option Addr) (nr cr nb cb : Nat) (X : Nat → Prop) (m' : List Pt) : Nat → Value → World → Prop
  | 0, v, _ => v = .agg #[.slice Ar nr cr]
  | 1, v, _ => v = .slice (some ad) n c
  | 2, v, _ => v = .int .i64 (k : Int)
  | 3, v, _ => v = .pointer (some (ad.add (k * 3)))
  | 4, v, _ => v = .pointer (some ⟨((ad.add (k * 3))).block, ((ad.add (k * 3))).off + 1, none⟩)
  | 5, v, _ => v = .slice Ab nb cb
  | 6, v, w => ∃ u, v = .agg #[u] ∧ FileV w X u m'
  | _, _, _ => True
theorem EpB.keep {ad : Addr} {n c k : Nat} {Ar Ab : Option Addr} {nr cr nb cb : Nat} {X : Nat → Prop} {m' : List Pt} (j : Nat) (u : Value) (w w' : World) (hb : Below w.heap.size w w') (hfact : EpB ad n c k Ar Ab nr cr nb cb X m' j u w) : EpB ad n c k Ar Ab nr cr nb cb X m' j u w' :=
  match j, hfact with
  | 0, h => h
  | 1, h => h
  | 2, h => h
  | 3, h => h
  | 4, h => h
  | 5, h => h
  | 6, h => by obtain ⟨u, e, h⟩ := h; exact ⟨u, e, h.below hb⟩
  | _ + 7, h => h
def EpF (ad : Addr) (n c k : Nat) (Ar Ab : Option Addr) (nr cr nb cb : Nat) (X : Nat → Prop) (m' : List Pt) : Nat → Value → World → Prop
  | 0, v, _ => v = .agg #[.slice Ar nr cr]
  | 1, v, _ => v = .slice (some ad) n c
  | 2, v, _ => v = .int .i64 (k : Int)
  | 3, v, _ => v = .pointer (some (ad.add (k * 3)))
  | 4, v, _ => v = .pointer (some ⟨((ad.add (k * 3))).block, ((ad.add (k * 3))).off + 2, none⟩)
  | 5, v, _ => v = .slice Ab nb cb
  | 6, v, w => ∃ u, v = .agg #[u] ∧ FileV w X u m'
  | _, _, _ => True
theorem EpF.keep {ad : Addr} {n c k : Nat} {Ar Ab : Option Addr} {nr cr nb cb : Nat} {X : Nat → Prop} {m' : List Pt} (j : Nat) (u : Value) (w w' : World) (hb : Below w.heap.size w w') (hfact : EpF ad n c k Ar Ab nr cr nb cb X m' j u w) : EpF ad n c k Ar Ab nr cr nb cb X m' j u w' :=
  match j, hfact with
  | 0, h => h
  | 1, h => h
  | 2, h => h
  | 3, h => h
  | 4, h => h
  | 5, h => h
  | 6, h => by obtain ⟨u, e, h⟩ := h; exact ⟨u, e, h.below hb⟩
  | _ + 7, h => h

set_option maxHeartbeats 8000000 in
set_option maxRecDepth 100000 in
theorem plays7_any {A A2 : Option Addr} {c c2 B n n2 : Nat} {rows : List Row} {l : List Ac} {w : World} (hB : B ≤ w.heap.size) (hrr : RdR w B A rows) (hn1 : rows.length = n) (hnl : n ≤ 9223372036854775807) (hls : ∀ r ∈ rows, r.l.length ≤ 9223372036854775807)
    (hr : RdAc w B A2 l) (hn : l.length = n2) (hnl2 : n2 ≤ 9223372036854775807) :
    Calls Try.prog 3 #[.slice A n c, .slice A2 n2 c2] w fun e w' => e = .returned (.bool true) ∧ Below w.heap.size w w' := by
  have hnI : (n : Int) ≤ 9223372036854775807 := by omega
  have hnI2 : (n2 : Int) ≤ 9223372036854775807 := by omega
  have Hfew := Lib.hid (few_any (c := c2) (t := 30) hn (by omega) hnl2 hr)
  have HB := Lib.hid hB
  have Hn := Lib.hid hn
  have Hn1 := Lib.hid hn1
  have Hr := Lib.hid hr
  have Hrr := Lib.hid hrr
  have Hls := Lib.hid hls
  clear hr hrr hls hnl hnl2
  go_enter Try.func3, Try.ntmps3
  by_cases h20 : 20 < n
  · have h1 : decide ((20 : Int) < (n : Int)) = true := by rw [decide_eq_true_eq]; omega
    have h1' : (20 : Int) < (n : Int) := by omega
    go_wp2_with fail
    go_at_call 6
    refine Hfew.out.mono ?_
    rintro e w' ⟨b, rfl, hb, rfl⟩
    cases b
    all_goals
      go_wp2_with fail
      go_at_call 7
      refine works7a_any _ _ ?_
      rintro e w2 ⟨rfl, hbl⟩
      go_wp2
      go_ret
      exact ⟨rfl, hbl⟩
  have h1 : decide ((20 : Int) < (n : Int)) = false := by rw [decide_eq_false_iff_not]; omega
  have h1' : (n : Int) ≤ 20 := by omega
  go_wp2_with fail
  go_at_call 6
  refine Hfew.out.mono ?_
  rintro e w' ⟨b, rfl, hfew, rfl⟩
  cases b
  · skip
    go_wp2_with fail
    go_at_call 7
    refine works7a_any _ _ ?_
    rintro e w2 ⟨rfl, hbl⟩
    go_wp2
    go_ret
    exact ⟨rfl, hbl⟩
  have Hsm := Lib.hid (hfew rfl)
  clear hfew Hfew
  have hn30 : n2 ≤ 30 := by have := Hsm.out.1; have := Hn.out; omega
  go_wp2
  go_loopw [5, 6] (fun v i wr => ∃ (k : Nat) (own : List Row), k ≤ n ∧ i = .int .i64 (k : Int) ∧ Hid (OX w'.heap.size wr v own) ∧ Hid (own.map Row.l = (rows.take k).map Row.l) ∧ Hid (∀ r ∈ rows.take k, r.l.length ≤ 30) ∧ Hid (Below w'.heap.size w' wr)) (fun _ i _ => n - (intOf i).toNat)
  case atStart => exact ⟨0, [], by omega, rfl, OX.nil _ _, rfl, by intro r hr; simp at hr, Below.refl _ _⟩
  case round =>
    obtain ⟨k, own, hk, rfl, HO, hmap, h30, hb⟩ := hrel
    have Hkl : Hid (own.length = k) := by
      have := congrArg List.length hmap.out
      rw [List.length_map, List.length_map, List.length_take, Hn1.out] at this
      show _ = _
      omega
    by_cases hlt : k < n
    · obtain ⟨ad, r, rfl, _, hc, hk', hrow⟩ := (Hrr.out.below (hb.out.mono HB.out)).at_ (k := k) (by rw [Hn1.out]; exact hlt)
      have hrl := Hls.out r (mem_of_get hk')
      have hltI : (k : Int) < (n : Int) := by omega
      by_cases hlong : 30 < r.l.length
      · have hdl : decide ((30 : Int) < (r.l.length : Int)) = true := by rw [decide_eq_true_iff]; omega
        have hdl' : (30 : Int) < (r.l.length : Int) := by omega
        have hrlI : (r.l.length : Int) ≤ 9223372036854775807 := by omega
        clear hrl
        go_wp2_with fail
        go_at_call 7
        refine works7a_any _ _ ?_
        rintro e w2 ⟨rfl, hbl⟩
        go_wp2
        go_ret
        exact ⟨rfl, hb.out.trans (hbl.mono hb.out.size)⟩
      · have hdl : decide ((30 : Int) < (r.l.length : Int)) = false := by rw [decide_eq_false_iff_not]; omega
        have hdl' : (r.l.length : Int) ≤ 30 := by omega
        have Hlong := Lib.hid (show r.l.length ≤ 30 by omega)
        have hz := hb.out.size
        have hown := Lib.hid (own_any r.A r.c B r.l wr (by omega) hrow)
        clear hrl hlong hrow
        have hlt0 := fun g (e : Value.ownBlock _ = some g) => (HO.out.o.head.lt g e).2
        have Hlt0 := Lib.hid hlt0
        clear hlt0
        go_wp2_with fail
        go_at_call 8
        refine hown.out.mono ?_
        rintro e w1 ⟨v1, rfl, hown1, hb1⟩
        obtain ⟨A1, c1, e1, _, _, _⟩ := own_form hown1
        subst e1
        have Hap := Lib.hid (own_apart hown1)
        have Hown1 := Lib.hid hown1
        have HO1 := Lib.hid (HO.out.below hb1)
        have hz1 := Nat.le_trans hz hb1.size
        have hbw1 := Lib.hid (hb.out.trans (hb1.mono hz))
        have hrb : Hid (w1.ownsRow w'.heap.size 5 1 (Row.v ⟨A1, c1, r.l⟩) r.l.length (bs r.l)) := own_base hown1 hz
        have hdis : Hid (∀ q ∈ own, ∀ a b : Addr, q.A = some a → A1 = some b → a.block ≠ b.block) := by
          intro q hq a b ha hb2
          have h1 := (HO.out.o.apart q hq a ha).1
          have h2 := (Hap.out b hb2).1
          omega
        have hapl : Hid (∀ ad, A1 = some ad → ad.block < w1.heap.size ∧ Value.ownBlock _ ≠ some ad.block) := fun ad e => ⟨(Hap.out ad e).2, fun e' => by have h1 := (Hap.out ad e).1; have h2 := Hlt0.out _ e'; omega⟩
        clear hown1 hb1 hown HO
        go_wp2_with (at_builtin; refine push_slice7 (.tmp 34) (.tmp 40) ⟨A1, c1, r.l⟩ rfl HO1.out hz1 (by have := Hkl.out; omega) hrb.out hapl.out hdis.out rfl rfl rfl rfl ?_; intro v2 w2 hO2 hb2 hs2)
        go_roundw
        case rel =>
          refine ⟨k + 1, _, by omega, by go_num, hO2, ?_, ?_, hbw1.out.trans hb2⟩
          · show _ = _
            rw [take_snoc hk', List.map_append, List.map_append, hmap.out]
            rfl
          · intro q hq
            rw [take_snoc hk', List.mem_append, List.mem_singleton] at hq
            rcases hq with hq | rfl
            · exact h30.out q hq
            · exact Hlong.out
        case measure => simp [intOf]; omega
    · obtain rfl : k = n := by omega
      have hlines : Hid (lines own = lines rows) := by
        have h := hmap.out
        rw [List.take_of_length_le (by rw [Hn1.out]; omega)] at h
        exact h
      have h30r : Hid (∀ r ∈ rows, r.l.length ≤ 30) := by
        have h := h30.out
        rw [List.take_of_length_le (by rw [Hn1.out]; omega)] at h
        exact h
      have h30o : Hid (∀ r ∈ own, r.l.length ≤ 30) := by
        intro r hr
        have h : r.l ∈ lines own := List.mem_map.2 ⟨r, hr, rfl⟩
        rw [hlines.out] at h
        obtain ⟨q, hq, e⟩ := List.mem_map.1 h
        rw [← e]
        exact h30r.out q hq
      obtain ⟨m0, hm0⟩ : ∃ m, Hid (ofM (lines rows) = m) := ⟨_, rfl⟩
      have hz0 : Hid (Sz m0 20) := by
        rw [← hm0.out]
        refine Sz.of (by unfold lines; rw [List.length_map, Hn1.out]; omega) fun b hb => ?_
        obtain ⟨q, hq, rfl⟩ := List.mem_map.1 hb
        exact h30r.out q hq
      obtain ⟨Ao, co, e0, _, _, hro0⟩ := own_form HO.out.o.head
      have hro : RdR wr wr.heap.size Ao own := ⟨hro0, HO.out.o.row⟩
      rw [Hkl.out] at e0
      subst e0
      have hof := of_any (c := co) (by rw [Hkl.out]; omega) (fun r hr => by have := h30o.out r hr; omega) (Nat.le_refl _) hro
      rw [Hkl.out, hlines.out, hm0.out] at hof
      have Hof := Lib.hid hof
      clear hof hro hro0 h30 hmap
      go_upto_region 11 with
        (go_at_call 9
         refine Hof.out.mono ?_
         rintro e w5 ⟨v5, rfl, hb5, hf5⟩
         obtain ⟨A5, c5, p5, rfl, _, _, _⟩ := id hf5
         have Hb5 := Lib.hid hb5
         have Hf5 := Lib.hid hf5
         clear hb5 hf5)
      clear Hof
      obtain ⟨F, hF⟩ : ∃ F, Hid (w5.heap.size = F) := ⟨_, rfl⟩
      obtain ⟨Wa, hWa⟩ : ∃ W1, Hid (w5.alloc (.cells #[.slice A5 p5.length c5] 30) = W1) := ⟨_, rfl⟩
      have hbWa : Hid (Below wr.heap.size wr Wa) := by rw [← hWa.out]; exact Hb5.out.alloc Hb5.out.size _
      have hbWa0 : Hid (Below w'.heap.size w' Wa) := hb.out.trans (hbWa.out.mono hb.out.size)
      have hrf := rof_any (c := c) (by rw [Hn1.out]; omega) (fun r hr => by have := h30r.out r hr; omega) (Nat.le_trans HB.out hbWa0.out.size) (Hrr.out.below (hbWa0.out.mono HB.out))
      rw [Hn1.out, hm0.out] at hrf
      have Hrf := Lib.hid hrf
      clear hrf
      rw [hWa.out, hF.out]
      go_upto_region 12 with
        (go_at_call 10
         refine Hrf.out.mono ?_
         rintro e w6 ⟨v6, rfl, hb6, hf6⟩
         obtain ⟨A6, c6, p6, rfl, _, _, _⟩ := id hf6
         have Hb6 := Lib.hid hb6
         have Hf6 := Lib.hid hf6
         clear hb6 hf6)
      clear Hrf
      obtain ⟨R, hR⟩ : ∃ F, Hid (w6.heap.size = F) := ⟨_, rfl⟩
      obtain ⟨Wb, hWb⟩ : ∃ W1, Hid (w6.alloc (.cells #[.slice A6 p6.length c6] 34) = W1) := ⟨_, rfl⟩
      have hZl : Hid (∀ b, Zf own b → b < wr.heap.size) := by
        rintro b ⟨r, hr, ad, e, rfl⟩
        exact (HO.out.o.apart r hr ad e).1
      have hZh : Hid (∀ b, Zf own b → w'.heap.size ≤ b) := by
        rintro b ⟨r, hr, ad, e, rfl⟩
        exact (own_apart (HO.out.r r hr) ad e).1
      have HP : Hid (PS w' F R (Zf own) m0 m0 Wb) := by
        rw [← hF.out, ← hR.out]
        exact PS.start hb.out Hb5.out Hf5.out hWa.out Hb6.out Hf6.out hWb.out hZl.out
      have HOb : Hid (OX w'.heap.size Wb (.slice Ao k co) own) := by
        rw [← hWb.out]
        exact HO.out.below (hbWa.out.trans ((Hb6.out.mono hbWa.out.size).alloc (by have h1 := hbWa.out.size; have h2 := Hb6.out.size; omega) _))
      have hlist : Hid (RdX Wb (Zf own) 1 Ao own.length (own.map Row.v)) := by
        obtain ⟨A', c', e', _, _, h'⟩ := own_form HOb.out.o.head
        injection e' with e1 _ _
        subst e1
        refine ⟨h'.1, fun h => ?_⟩
        obtain ⟨ad, e2, h2, h3⟩ := h'.2 h
        refine ⟨ad, e2, h2, ?_, h3⟩
        rintro ⟨r, hr, ad2, e3, e4⟩
        refine (HOb.out.o.apart r hr ad2 e3).2 ?_
        rw [e2, ← e4]
        rfl
      rw [hWb.out, hR.out]
      have Hsp0 : Hid (SpI w'.heap.size Wb own 0 Wb) := ⟨Touch.refl _ _, fun j r _ hj => ⟨_, HOb.out.r r (List.mem_of_getElem? hj)⟩⟩
      clear hWa hWb hR hF Hb5 Hf5 Hb6 Hf6 hbWa hbWa0 HO hZl hb
      go_wp2
      go_loopw [9] (fun i wr => ∃ j : Nat, j ≤ k ∧ i = .int .i64 (j : Int) ∧ Hid (SpI w'.heap.size Wb own j wr)) (fun i _ => k - (intOf i).toNat)
      case atStart => exact ⟨0, by omega, rfl, Hsp0⟩
      case round =>
        clear Hsp0
        obtain ⟨j, hj, rfl, hst⟩ := hrel
        by_cases hlt : j < k
        · obtain ⟨r, hr⟩ : ∃ r, Hid (own[j]? = some r) := ⟨own[j]'(by rw [Hkl.out]; exact hlt), List.getElem?_eq_getElem _⟩
          obtain ⟨ad, rfl, hadb, _, hcd⟩ := (hlist.out.keep hst.out.t).2 (by rw [Hkl.out]; omega)
          have hcj := hcd j (.slice r.A r.l.length r.c) (by rw [List.getElem?_map, hr.out]; rfl)
          obtain ⟨ys, hys⟩ := hst.out.r j r (Nat.le_refl _) hr.out
          have hltI : (j : Int) < (k : Int) := by omega
          have hspo := spoil_any w'.heap.size r.l.length r.v ys _ (by have := h30o.out r (List.mem_of_getElem? hr.out); omega) hys
          have Hspo : Hid (Calls Try.prog 11 #[.slice r.A r.l.length r.c] _ _) := hspo
          clear hspo hcd hys hadb
          go_wp2_with fail
          go_at_call 11
          refine Hspo.out.mono ?_
          rintro e w7 ⟨rfl, ⟨zs, hz7⟩, hg7⟩
          have Hst7 := Lib.hid (hst.out.step HOb.out.p hr.out hz7 hg7)
          clear hz7 hg7 Hspo hcj
          go_wp2
          go_roundw
          case rel => exact ⟨j + 1, by omega, by go_num, Hst7⟩
          case measure => simp [intOf]; omega
        · obtain rfl : j = k := by omega
          have HP2 := Lib.hid (HP.out.over hst.out.t hZh.out).less
          clear HP HOb hlist hZh hst
          go_wp2
          go_loopw [10] (fun i wr => ∃ (q : Nat) (m : List Pt), q ≤ n2 ∧ i = .int .i64 (q : Int) ∧ Hid (Sz m (20 + q)) ∧ Hid (PS w' F R (fun _ => False) m m wr)) (fun i _ => n2 - (intOf i).toNat)
          case atStart => exact ⟨0, m0, by omega, rfl, hz0, HP2⟩
          case round =>
            clear HP2
            obtain ⟨q, m, hq, rfl, hsz, HP⟩ := hrel
            by_cases hlt : q < n2
            · obtain ⟨ad, a, rfl, hab, hc0', hc1', hc2', hx, hrow', htold', hok⟩ := Hr.out.at_ (k := q) (by rw [Hn.out]; exact hlt)
              have hadw : Hid ((ad.add (q * 3)).block < w'.heap.size) := by show _ < _; rw [block_of_add]; omega
              have hc0 := (HP.out.below.cell (p := ad.add (q * 3)) hadw.out).trans hc0'
              have HC1 := Lib.hid hc1'
              have HC2 := Lib.hid hc2'
              have hrow := Reads.below hrow' (HP.out.below.mono HB.out)
              have htold := Reads.below htold' (HP.out.below.mono HB.out)
              clear hc0' hc1' hc2' hrow' htold' hab
              have hqI : (q : Int) < (n2 : Int) := by omega
              have hkl : Hid (q < n2) := hlt
              have Hrow := Lib.hid hrow
              have Htold := Lib.hid htold
              have Htold0 := Lib.hid (Hr.out.told a (List.mem_of_getElem? hx.out))
              have Hrow0 := Lib.hid (Hr.out.row a (List.mem_of_getElem? hx.out))
              have h30 := Hsm.out.2 a (List.mem_of_getElem? hx.out)
              have hl30 := Lib.hid h30.1
              have hq30 := Lib.hid h30.2
              have hqc := Lib.hid hok.qc
              have Hsm1 := Lib.hid (hsz.out.sm (by omega))
              have hBw := Lib.hid (Nat.le_trans HB.out HP.out.below.size)
              clear hok hrow htold hx h30
              by_cases hz : a.k % 4 = 2
              · have hsy := Lib.hid (HP.out.sync (fun b e => e.elim) Hsm1.out)
                clear HC1 HC2 Hrow Htold
                go_wp2_with fail
                go_at_call 12
                refine (pick_any _ _).mono ?_
                rintro e w7 ⟨rfl, rfl⟩
                go_wp2_with fail
                go_at_call 13
                refine hsy.out.mono ?_
                rintro e w8 ⟨rfl, hps⟩
                have HP8 := Lib.hid hps
                obtain ⟨Ar, cr, nr, hcr, hvr, hfr⟩ := hps.r.loadC
                have hrs := Lib.hid (rsyncX Hsm1.out hfr)
                have hRl := hps.r.lt
                clear hps hsy hc0 hfr
                go_wp2_with fail
                go_at_call 14
                refine hrs.out.mono ?_
                rintro e w9 ⟨u, rfl, hb, u', rfl, hf⟩
                obtain ⟨A9, c9, p9, rfl, _, _, _⟩ := id hf
                have hv9 := (hb.block R hRl).trans hvr
                have HP' := Lib.hid (HP8.out.store (fun b e => e.elim) hb hf)
                have hsz' : Hid (Sz (syncM m) (20 + (q + 1))) := hsz.out.sync
                clear hb hf hrs hcr hvr HP8
                go_wp2_with
                  (refine wpList_storeF (.tmp 8) (.tmp 90) rfl rfl rfl rfl hv9 ?_
                   generalize hWs : w9.setCell ⟨R, 0, none⟩ (.slice A9 p9.length c9) = W9 at HP' ⊢
                   clear hv9 hWs
                   have hsm' := Lib.hid (hsz'.out.sm (by omega))
                   obtain ⟨Af, cf, nf, hcf, hff⟩ := HP'.out.f.loadC
                   obtain ⟨Ar, cr, nr, hcr, _, hfr⟩ := HP'.out.r.loadC
                   have his := Lib.hid (is_any hsm'.out hff hfr)
                   clear hff hfr)
                go_at_call 19
                refine his.out.mono ?_
                rintro e wz ⟨rfl, hb⟩
                have HPz := Lib.hid (HP'.out.then_ hb)
                clear hb his HP' hcf hcr
                go_wp2
                go_roundw
                case rel => exact ⟨q + 1, _, by omega, by go_num, hsz', HPz⟩
                case measure => simp [intOf]; omega
              by_cases hz3 : a.k % 4 = 3
              · have hfa := Lib.hid (HP.out.fail (ck := a.q.c) (nk := a.q.l.length) (fun b e => e.elim) Hsm1.out rfl hBw.out Htold.out hqc.out (by have := hq30.out; omega))
                have hc2 := (HP.out.below.cell (p := ⟨(ad.add (q * 3)).block, (ad.add (q * 3)).off + 2, none⟩) hadw.out).trans HC2.out
                clear HC1 Hrow
                go_wp2_with fail
                go_at_call 12
                refine (pick_any _ _).mono ?_
                rintro e w7 ⟨rfl, rfl⟩
                go_upto_region 29 with
                  (go_at_call 15
                   refine hfa.out.mono ?_
                   rintro e w8 ⟨rfl, hps⟩
                   have HP8 := Lib.hid hps
                   clear hps hfa)
                clear hc0 hc2
                obtain ⟨Ar, cr, nr, hcr, hvr, hfr⟩ := HP8.out.r.loadC
                have cR := Lib.hid hcr
                have hvR := Lib.hid hvr
                have hRl := Lib.hid HP8.out.r.lt
                have hadl : Hid ((ad.add (q * 3)).block < w8.heap.size) := Nat.lt_of_lt_of_le hadw.out HP8.out.below.size
                have cA := Lib.hid ((HP8.out.below.cell (p := ⟨(ad.add (q * 3)).block, (ad.add (q * 3)).off + 2, none⟩) hadw.out).trans HC2.out)
                obtain ⟨m', hm'⟩ : ∃ m', Hid (failM m a.q.l = m') := ⟨_, rfl⟩
                have hsz' : Hid (Sz m' (20 + (q + 1))) := by rw [← hm'.out]; exact hsz.out.fail _
                rw [hm'.out] at HP8
                have hcall := Lib.hid (rfailX (ck := a.q.c) Hsm1.out hfr (by have := hq30.out; omega) rfl (Nat.le_trans HB.out HP8.out.below.size) (Reads.below Htold0.out (HP8.out.below.mono HB.out)) hm'.out)
                clear hcr hvr hfr
                refine wp_last ?_
                go_cut [] from 99 to 105 (fun wx => PS w' F R (fun _ => False) m' m' wx)
                case first =>
                  rename_i J K1 hJ hK
                  refine wp_region_tailP (n := 116) (m := 7) (EpF ad n2 c2 q Ar a.q.A nr cr a.q.l.length a.q.c (XW w8) m') (BelC w8) (by kernel_rfl) (by kernel_rfl) rfl rfl (by decide) (by kernel_rfl) (by kernel_rfl) ?_ ?_ ?_
                  · exact (Below.refl _ _).drew
                  rotate_left
                  · intro b' wy hsz hd hs hc hall
                    obtain ⟨u, e6, hf6⟩ : EpF ad n2 c2 q Ar a.q.A nr cr a.q.l.length a.q.c (XW w8) m' 6 (b'.tmps.getD 105 undef) wy := hall 6 _ _ (by decide) rfl rfl
                    have e8 : b'.tmps.getD 8 undef = .pointer (some ⟨R, 0, none⟩) := hs 8 (by kernel_rfl)
                    obtain ⟨A9, c9, p9, rfl, _, _, _⟩ := id hf6
                    refine wpList_storeF (.tmp 8) (.tmp 105) rfl rfl e8 e6 ((hc.block R hRl.out).trans hvR.out) ?_
                    refine hK _ _ (Met.intro (hJ _ _ ?_))
                    exact ⟨b'.tmps.getD 99 undef, b'.tmps.getD 100 undef, b'.tmps.getD 101 undef, b'.tmps.getD 102 undef, b'.tmps.getD 103 undef, b'.tmps.getD 104 undef, b'.tmps.getD 105 undef, HP8.out.store (fun b e => e.elim) hc hf6, (act_known hsz hd hs).trans (by kernel_rfl)⟩
                  refine OpsOk.cons _ _ (OpOk.run _ _ EpF.keep BelC.keep fun b v hs hc hg => ⟨rfl, _, _, exec_loadFile rfl (hs 8 (by kernel_rfl)) ((hc.cell (p := ⟨R, 0, none⟩) hRl.out).trans cR.out), .refl _ _, rfl⟩) ?_
                  refine OpsOk.cons _ _ (OpOk.run _ _ EpF.keep BelC.keep fun b v hs hc hg => ⟨rfl, _, _, exec_move rfl (hs 1 (by kernel_rfl)), .refl _ _, rfl⟩) ?_
                  refine OpsOk.cons _ _ (OpOk.run _ _ EpF.keep BelC.keep fun b v hs hc hg => ⟨rfl, _, _, exec_move rfl (hs 10 (by kernel_rfl)), .refl _ _, rfl⟩) ?_
                  refine OpsOk.cons _ _ (OpOk.run _ _ EpF.keep BelC.keep fun b v hs hc hg => ⟨rfl, _, _, exec_atA (k := q) rfl (dep hg 0 rfl rfl rfl rfl) (dep hg 1 rfl rfl rfl rfl) hkl.out, .refl _ _, rfl⟩) ?_
                  refine OpsOk.cons _ _ (OpOk.run _ _ EpF.keep BelC.keep fun b v hs hc hg => ⟨rfl, _, _, exec_fieldA2 rfl (dep hg 0 rfl rfl rfl rfl), .refl _ _, rfl⟩) ?_
                  refine OpsOk.cons _ _ (OpOk.run _ _ EpF.keep BelC.keep fun b v hs hc hg => ⟨rfl, _, _, exec_loadK rfl (dep hg 0 rfl rfl rfl rfl) ((hc.cell (p := ⟨(ad.add (q * 3)).block, (ad.add (q * 3)).off + 2, none⟩) hadl.out).trans cA.out), .refl _ _, rfl⟩) ?_
                  refine OpsOk.cons _ _ (OpOk.call _ _ EpF.keep BelC.keep fun b v hs hc hg => ⟨rfl, _, _, exec_call2 (enter_rfail _) rfl (dep hg 0 rfl rfl rfl rfl) (dep hg 1 rfl rfl rfl rfl), hcall.out _ hc⟩) ?_
                  exact OpsOk.nil _ _
                obtain ⟨wx, hwx⟩ : ∃ w2 : World, w2 = wc := ⟨_, rfl⟩
                subst hwx
                have HP' := Lib.hid hcut
                clear hcut HP8 hcall cR hvR hadl cA
                have hsm' := Lib.hid (hsz'.out.sm (by omega))
                obtain ⟨Af, cf, nf, hcf, hff⟩ := HP'.out.f.loadC
                obtain ⟨Ar2, cr2, nr2, hcr2, _, hfr2⟩ := HP'.out.r.loadC
                have his := Lib.hid (is_any hsm'.out hff hfr2)
                clear hff hfr2
                go_wp2_with fail
                go_at_call 19
                refine his.out.mono ?_
                rintro e wz ⟨rfl, hb⟩
                have HPz := Lib.hid (HP'.out.then_ hb)
                clear hb his HP' hcf hcr2
                go_wp2
                go_roundw
                case rel => exact ⟨q + 1, _, by omega, by go_num, hsz', HPz⟩
                case measure => simp [intOf]; omega
              · have hz2b : (a.k % 4 == 2) = false := by rw [beq_eq_false_iff_ne]; exact hz
                have hz3b : (a.k % 4 == 3) = false := by rw [beq_eq_false_iff_ne]; exact hz3
                have hc1 := (HP.out.below.cell (p := ⟨(ad.add (q * 3)).block, (ad.add (q * 3)).off + 1, none⟩) hadw.out).trans HC1.out
                have hown := Lib.hid (own_any a.r.A a.r.c B a.r.l _ (by have := hl30.out; omega) Hrow.out)
                obtain ⟨nb, hnb⟩ : ∃ nb, Hid (a.r.l.length = nb) := ⟨_, rfl⟩
                have hnb30 : nb ≤ 30 := by rw [← hnb.out]; exact hl30.out
                obtain ⟨m', hm'⟩ : ∃ m', Hid (appM m a.r.l = m') := ⟨_, rfl⟩
                have hsz' : Hid (Sz m' (20 + (q + 1))) := by rw [← hm'.out]; exact hsz.out.app hl30.out
                clear HC2 Htold
                go_wp2_with fail
                go_at_call 12
                refine (pick_any _ _).mono ?_
                rintro e w7 ⟨rfl, rfl⟩
                go_wp2_with fail
                go_at_call 8
                refine hown.out.mono ?_
                rintro e w1 ⟨v1, rfl, hown1, hb1⟩
                obtain ⟨A1, c1, e1, _, _, hr1⟩ := own_form hown1
                subst e1
                have HPf := Lib.hid (HP.out.fresh hb1)
                have Hown1 := Lib.hid hown1
                have hlF := HP.out.f.lt
                have hlR := HP.out.r.lt
                have hlw := Lib.hid HP.out.below.size
                have hap := Lib.hid (HPf.out.app (cb := c1) (fun b e => e.2) (((hsz.out.more a.r.l hl30.out).sm (by omega))) rfl (Nat.le_refl _) hr1)
                clear hown1 hb1 hown hc0 hc1 hr1
                go_upto_region 22 with
                  (go_at_call 17
                   refine hap.out.mono ?_
                   rintro e w8 ⟨rfl, ht, hps⟩
                   have HP8 := Lib.hid hps
                   have Hown8 := Lib.hid (own_touch Hown1.out ht (fun b hb e => by have := (Hown1.out.lt b hb).1; omega))
                   have hY8 : Hid (∀ b, (fun b => w7.heap.size ≤ b ∧ b < w1.heap.size) b → b < w8.heap.size) := fun b e => Nat.lt_of_lt_of_le e.2 ht.size
                   clear ht hps hap)
                obtain ⟨Ar, cr, nr, hcr, hvr, hfr⟩ := HP8.out.r.loadC
                have cR := Lib.hid hcr
                have hvR := Lib.hid hvr
                have hRl := Lib.hid HP8.out.r.lt
                have hadl : Hid ((ad.add (q * 3)).block < w8.heap.size) := Nat.lt_of_lt_of_le hadw.out HP8.out.below.size
                have cA := Lib.hid ((HP8.out.below.cell (p := ⟨(ad.add (q * 3)).block, (ad.add (q * 3)).off + 1, none⟩) hadw.out).trans HC1.out)
                rw [hm'.out] at HP8
                have hcall := Lib.hid (rappX (cb := a.r.c) Hsm1.out hfr (by have := hl30.out; omega) rfl (Nat.le_trans HB.out HP8.out.below.size) (Reads.below Hrow0.out (HP8.out.below.mono HB.out)) hm'.out)
                clear hcr hvr hfr
                go_cut [] from 77 to 83 (fun wx => PS w' F R (fun b => w7.heap.size ≤ b ∧ b < w1.heap.size) m' m' wx ∧ wx.ownsRow w7.heap.size 5 1 (.slice A1 a.r.l.length c1) a.r.l.length (bs a.r.l))
                case first =>
                  rename_i J K1 hJ hK
                  refine wp_region_tailP (n := 116) (m := 7) (EpB ad n2 c2 q Ar a.r.A nr cr a.r.l.length a.r.c (XW w8) m') (BelC w8) (by kernel_rfl) (by kernel_rfl) rfl rfl (by decide) (by kernel_rfl) (by kernel_rfl) ?_ ?_ ?_
                  · exact (Below.refl _ _).drew
                  rotate_left
                  · intro b' wy hsz hd hs hc hall
                    obtain ⟨u, e6, hf6⟩ : EpB ad n2 c2 q Ar a.r.A nr cr a.r.l.length a.r.c (XW w8) m' 6 (b'.tmps.getD 83 undef) wy := hall 6 _ _ (by decide) rfl rfl
                    have e8 : b'.tmps.getD 8 undef = .pointer (some ⟨R, 0, none⟩) := hs 8 (by kernel_rfl)
                    obtain ⟨A9, c9, p9, rfl, _, _, _⟩ := id hf6
                    refine wpList_storeF (.tmp 8) (.tmp 83) rfl rfl e8 e6 ((hc.block R hRl.out).trans hvR.out) ?_
                    refine hK _ _ (Met.intro (hJ _ _ ?_))
                    exact ⟨b'.tmps.getD 77 undef, b'.tmps.getD 78 undef, b'.tmps.getD 79 undef, b'.tmps.getD 80 undef, b'.tmps.getD 81 undef, b'.tmps.getD 82 undef, b'.tmps.getD 83 undef, ⟨HP8.out.store hY8.out hc hf6, own_touch (own_below Hown8.out hc (Nat.le_refl _)) (Touch.cell1 wy R 0 (.slice A9 p9.length c9)) (fun b hb e => by have := (Hown8.out.lt b hb).1; omega)⟩, (act_known hsz hd hs).trans (by kernel_rfl)⟩
                  refine OpsOk.cons _ _ (OpOk.run _ _ EpB.keep BelC.keep fun b v hs hc hg => ⟨rfl, _, _, exec_loadFile rfl (hs 8 (by kernel_rfl)) ((hc.cell (p := ⟨R, 0, none⟩) hRl.out).trans cR.out), .refl _ _, rfl⟩) ?_
                  refine OpsOk.cons _ _ (OpOk.run _ _ EpB.keep BelC.keep fun b v hs hc hg => ⟨rfl, _, _, exec_move rfl (hs 1 (by kernel_rfl)), .refl _ _, rfl⟩) ?_
                  refine OpsOk.cons _ _ (OpOk.run _ _ EpB.keep BelC.keep fun b v hs hc hg => ⟨rfl, _, _, exec_move rfl (hs 10 (by kernel_rfl)), .refl _ _, rfl⟩) ?_
                  refine OpsOk.cons _ _ (OpOk.run _ _ EpB.keep BelC.keep fun b v hs hc hg => ⟨rfl, _, _, exec_atA (k := q) rfl (dep hg 0 rfl rfl rfl rfl) (dep hg 1 rfl rfl rfl rfl) hkl.out, .refl _ _, rfl⟩) ?_
                  refine OpsOk.cons _ _ (OpOk.run _ _ EpB.keep BelC.keep fun b v hs hc hg => ⟨rfl, _, _, exec_fieldA1 rfl (dep hg 0 rfl rfl rfl rfl), .refl _ _, rfl⟩) ?_
                  refine OpsOk.cons _ _ (OpOk.run _ _ EpB.keep BelC.keep fun b v hs hc hg => ⟨rfl, _, _, exec_loadB rfl (dep hg 0 rfl rfl rfl rfl) ((hc.cell (p := ⟨(ad.add (q * 3)).block, (ad.add (q * 3)).off + 1, none⟩) hadl.out).trans cA.out), .refl _ _, rfl⟩) ?_
                  refine OpsOk.cons _ _ (OpOk.call _ _ EpB.keep BelC.keep fun b v hs hc hg => ⟨rfl, _, _, exec_call2 (enter_rapp _) rfl (dep hg 0 rfl rfl rfl rfl) (dep hg 1 rfl rfl rfl rfl), hcall.out _ hc⟩) ?_
                  exact OpsOk.nil _ _
                obtain ⟨wx, hwx⟩ : ∃ w2 : World, w2 = wc := ⟨_, rfl⟩
                subst hwx
                obtain ⟨hpx, hownx⟩ := hcut
                have HPx := Lib.hid hpx
                have hspo : Hid (Calls Try.prog 11 #[.slice A1 a.r.l.length c1] _ _) := spoil_any w7.heap.size a.r.l.length (.slice A1 a.r.l.length c1) _ _ (by have := hl30.out; omega) hownx
                clear hpx hownx HP8 hcall cR hvR hadl cA Hown8 hY8 HPf
                go_wp2_with fail
                go_at_call 11
                refine hspo.out.mono ?_
                rintro e wv ⟨rfl, _, hg⟩
                have HP' := Lib.hid (HPx.out.over (Touch.grown hg (fun b hb => Hown1.out.lt b hb)) (fun b e => Nat.le_trans hlw.out e.1)).less
                clear hg hspo HPx
                have hsm' := Lib.hid (hsz'.out.sm (by omega))
                obtain ⟨Af, cf, nf, hcf, hff⟩ := HP'.out.f.loadC
                obtain ⟨Ar2, cr2, nr2, hcr2, _, hfr2⟩ := HP'.out.r.loadC
                have his := Lib.hid (is_any hsm'.out hff hfr2)
                clear hff hfr2
                go_wp2_with fail
                go_at_call 19
                refine his.out.mono ?_
                rintro e wz ⟨rfl, hb⟩
                have HPz := Lib.hid (HP'.out.then_ hb)
                clear hb his HP' hcf hcr2
                go_wp2
                go_roundw
                case rel => exact ⟨q + 1, _, by omega, by go_num, hsz', HPz⟩
                case measure => simp [intOf]; omega
            · obtain rfl : q = n2 := by omega
              have hsm' := Lib.hid (hsz.out.sm (by omega))
              obtain ⟨Af, cf, nf, hcf, hff⟩ := HP.out.f.loadC
              obtain ⟨Ar, cr, nr, hcr, _, hfr⟩ := HP.out.r.loadC
              have his := Lib.hid (is_any hsm'.out hff hfr)
              clear hff hfr
              go_wp2_with fail
              go_at_call 19
              refine his.out.mono ?_
              rintro e wz ⟨rfl, hb⟩
              have HPz := Lib.hid (HP.out.then_ hb)
              clear hb his HP hcf hcr
              go_wp2_with fail
              go_at_call 7
              refine works7a_any _ _ ?_
              rintro e wy ⟨rfl, hbl⟩
              go_wp2
              go_ret
              exact ⟨rfl, HPz.out.below.trans (hbl.mono HPz.out.below.size)⟩
end Go.Proofs.Ytnlcohijopokjaa
