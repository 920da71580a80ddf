/- The reference's put and without. Conditions: at most 2^40 entries. The reference's After, List, Get. Conditions: at most 1000 operations. -/
import Derived.Test.YtbhmnmmockmibaaGreatKpFdJ
import Derived.Test.YtbhmnmmockmibaaGreatKpFtR
namespace Go.Proofs.YtbhmnmmockmibaaGreat
open Go.RowKit
theorem del_snoc (m : List EnD) (y : EnD) (k : List UInt8) : delE (m ++ [y]) k = delE m k ++ (if (y.1 == k) = true then [] else [y]) := by
  unfold delE
  rw [List.filter_append]
  congr 1
  cases h : y.1 == k <;> simp [h]
theorem own_drewN {e : TypeId} {b : Nat} {w : World} {v : Value} {xs : List EnD} (h : OwnEnD e b w v xs) (n : Nat) : OwnEnD e b (w.drewN n) v xs := h
theorem txt_list (l : List UInt8) : (txt l).toList = l := by rw [ByteArray.toList_eq]; rfl
section
variable {A : Option Addr} {c n : Nat} {X : Nat → Prop} {l : List EnD} {w : World}
set_option maxHeartbeats 4000000 in
set_option maxRecDepth 100000 in
theorem without_any (h : EnXD w X A l) (hn : l.length = n) (hl : n ≤ 1099511627775) (k : List UInt8) :
    Calls Tryz.prog 102 #[.slice A n c, .string (txt k)] w fun e w' => ∃ v, e = .returned v ∧ OwnEnD 97 w.heap.size w' v (delE l k) ∧ Below w.heap.size w w' := by
  have hnI : (n : Int) ≤ 1099511627775 := by omega
  have Hn := Lib.hid hn
  have H := Lib.hid h
  clear hn h
  go_enter Tryz.func102, Tryz.ntmps102
  go_wp2
  go_loopw [5, 6] (fun v i wr => ∃ j : Nat, j ≤ n ∧ i = .int .i64 (j : Int) ∧ OwnEnD 97 w.heap.size wr v (delE (l.take j) k) ∧ Hid (Below w.heap.size w wr)) (fun _ i _ => n - (intOf i).toNat)
  case atStart => exact ⟨0, Nat.zero_le _, rfl, by rw [List.take_zero]; exact OwnEnD.nil _ _ _, Lib.hid (Below.refl _ _)⟩
  case round =>
    obtain ⟨j, hj, rfl, hrow, hB⟩ := hrel
    by_cases hlt : j < n
    · obtain ⟨ad, y, rfl, hab, _, hc0, hc1, hy⟩ := EnXD.at_ (RdX.below H.out hB.out) (k := j) (by rw [Hn.out]; exact hlt)
      have hjn : (j : Int) < (n : Int) := by omega
      have Hrow := Lib.hid hrow
      clear hrow
      by_cases hk : y.1 = k
      · have hnext : Hid (delE (l.take (j + 1)) k = delE (l.take j) k) := by
          show _ = _
          rw [take_snoc hy, del_snoc, hk]
          simp
        subst hk
        go_wp2
        go_roundw
        case rel => exact ⟨j + 1, by omega, by go_num, by rw [hnext.out]; exact Hrow.out, hB⟩
        case measure => simp [intOf]; omega
      · have hnext : Hid (delE (l.take (j + 1)) k = delE (l.take j) k ++ [y]) := by
          show _ = _
          rw [take_snoc hy, del_snoc, if_neg (by simp; exact hk)]
        have hne : ((txt y.1).toList == (txt k).toList) = false := by rw [txt_list, txt_list]; simp; exact hk
        have hll : Hid ((delE (l.take j) k).length ≤ 1099511627776) := by
          have := del_len (l.take j) k
          rw [List.length_take] at this
          show _ ≤ _
          omega
        clear hk
        go_wp2_with (at_builtin; refine push_enD enSl2D (.tmp 20) (.tmp 25) y Hrow.out hB.out.size hll.out rfl rfl rfl rfl rfl ?_; intro v' w3 hown' hg3 hblk3 hb3; go_frame)
        go_roundw
        case rel => exact ⟨j + 1, by omega, by go_num, by rw [hnext.out]; exact hown', Lib.hid (hB.out.trans hb3)⟩
        case measure => simp [intOf]; omega
    · obtain rfl : j = n := by omega
      have hd2 : decide ((j : Int) < (j : Int)) = false := by simp
      have he : delE (l.take j) k = delE l k := by rw [← Hn.out, List.take_length]
      rw [he] at hrow
      go_wp2
      go_ret
      exact ⟨_, rfl, hrow, hB.out⟩
set_option maxHeartbeats 4000000 in
set_option maxRecDepth 100000 in
theorem put_anyD (h : EnXD w X A l) (hn : l.length = n) (hl : n ≤ 1099511627775) (x : EnD) :
    Calls Tryz.prog 101 #[.slice A n c, .agg #[.string (txt x.1), .int .i64 x.2]] w fun e w' => ∃ v, e = .returned v ∧ OwnEnD 97 w.heap.size w' v (insE x l) ∧ Below w.heap.size w w' := by
  have hnI : (n : Int) ≤ 1099511627775 := by omega
  have Hn := Lib.hid hn
  have H := Lib.hid h
  clear hn h
  obtain ⟨bx, hbx⟩ : ∃ bx, Hid (w.heap.size = bx) := ⟨_, rfl⟩
  obtain ⟨W, hW⟩ : ∃ W, Hid (w.alloc (.cells #[.string (txt x.1), .int .i64 x.2] 97) = W) := ⟨_, rfl⟩
  have hbW : Hid (Below w.heap.size w W) := by rw [← hW.out]; exact below_new _ _
  have hcx : Hid (W.heap[bx]? = some (.cells #[.string (txt x.1), .int .i64 x.2] 97 (0, 0))) := by rw [← hW.out, ← hbx.out]; exact heap_alloc_new _ _
  have hbl : Hid (bx < W.heap.size) := (Array.getElem?_eq_some_iff.1 hcx.out).1
  go_enter Tryz.func101, Tryz.ntmps101
  go_upto_region 1 with fail
  rw [hbx.out, hW.out]
  go_wp2
  go_loopw [5, 6, 7] (fun v d i wr => ∃ (j : Nat) (done : Bool) (own : List EnD), j ≤ n ∧ i = .int .i64 (j : Int) ∧ d = .bool done ∧ OwnEnD 97 W.heap.size wr v own ∧ Hid (own ++ (if done = true then l.drop j else insE x (l.drop j)) = insE x l) ∧ Hid (Below W.heap.size W wr)) (fun _ _ i _ => n - (intOf i).toNat)
  case atStart => exact ⟨0, false, [], Nat.zero_le _, rfl, rfl, OwnEnD.nil _ _ _, by rw [List.drop_zero]; exact Lib.hid rfl, Lib.hid (Below.refl _ _)⟩
  case round =>
    obtain ⟨j, done, own, hj, rfl, rfl, hrow, hown, hB⟩ := hrel
    have hcb := two_cells ((hB.out.block bx hbl.out).trans hcx.out)
    by_cases hlt : j < n
    · obtain ⟨ad, y, rfl, hab, _, hc0, hc1, hy⟩ := EnXD.at_ (RdX.below H.out (hbW.out.trans (hB.out.mono hbW.out.size))) (k := j) (by rw [Hn.out]; exact hlt)
      have hjn : (j : Int) < (n : Int) := by omega
      have hdr : l.drop j = y :: l.drop (j + 1) := by
        have h1 := (List.getElem?_eq_some_iff.1 hy.out)
        obtain ⟨h2, h3⟩ := h1
        rw [List.drop_eq_getElem_cons h2, h3]
      have hlen : Hid (own.length ≤ n + 1) := by
        have h1 := congrArg List.length hown.out
        rw [List.length_append, ins_len, Hn.out] at h1
        show _ ≤ _
        omega
      have hll : Hid (own.length ≤ 1099511627776) := by have := hlen.out; show _ ≤ _; omega
      have Hrow := Lib.hid hrow
      have hab0 : Hid (ad.block < W.heap.size) := by
        obtain ⟨ad', e', hb', _⟩ := H.out.2 (by rw [Hn.out]; omega)
        injection e' with e'
        rw [e']
        exact Nat.lt_of_lt_of_le hb' hbW.out.size
      have hab1 : Hid (∀ (wx wy : World), Below W.heap.size wx wy → wx.cell? (ad.add (j * 2)) = some (.string (txt y.1)) → wx.cell? ⟨(ad.add (j * 2)).block, (ad.add (j * 2)).off + 1, none⟩ = some (.int .i64 y.2) → wy.cell? (ad.add (j * 2)) = some (.string (txt y.1)) ∧ wy.cell? ⟨(ad.add (j * 2)).block, (ad.add (j * 2)).off + 1, none⟩ = some (.int .i64 y.2)) := by
        intro wx wy hb h0 h1
        have hx : (ad.add (j * 2)).block < W.heap.size := by rw [block_of_add]; exact hab0.out
        exact ⟨(hb.cell hx).trans h0, (hb.cell (p := ⟨(ad.add (j * 2)).block, (ad.add (j * 2)).off + 1, none⟩) hx).trans h1⟩
      clear hrow
      cases done
      · simp only [Bool.false_eq_true, if_false] at hown
        rw [hdr] at hown
        by_cases hxy : blt x.1 y.1 = true
        · have hll2 : Hid ((own ++ [x]).length ≤ 1099511627776) := by
            have h1 := congrArg List.length hown.out
            rw [List.length_append, ins_len, ins_len, Hn.out] at h1
            simp only [List.length_cons] at h1
            rw [List.length_append, List.length_singleton]
            show _ ≤ _
            omega
          have hnext := Lib.hid (show (own ++ [x] ++ [y]) ++ l.drop (j + 1) = insE x l by
            rw [← hown.out]
            unfold insE
            rw [if_pos hxy]
            simp)
          have h1 : Op.bytesLess (txt y.1).toList (txt x.1).toList = false := by rw [txt_list, txt_list, less_blt]; exact blt_asymm hxy
          have h2 : ((txt y.1).toList == (txt x.1).toList) = false := by rw [txt_list, txt_list]; simp; exact (blt_ne hxy).symm
          have t1 := Lib.hid True.intro
          have t2 := Lib.hid True.intro
          clear hdr hxy hown hlen
          go_wp2
          go_quiet (fail)
          have hc01 := fun wy hb => hab1.out (wr.drewN nq) wy hb hc0 hc1
          have Hc01 := Lib.hid hc01
          clear hc01 hc0 hc1
          go_wp2_with (first
            | (at_builtin; clear t1; refine push_enD enSl2D (.tmp 26) (.tmp 28) x (own_drewN Hrow.out nq) hB.out.size hll.out rfl rfl rfl rfl rfl ?_; intro v1 w3 hown1 hg3 hblk3 hb3; clear hg3 hblk3; have Hown1 := Lib.hid hown1; have Hb3 := Lib.hid hb3; clear hown1 hb3; obtain ⟨hc0, hc1⟩ := Hc01.out _ Hb3.out)
            | (at_builtin; clear t2; refine push_enD enSl2D (.tmp 30) (.tmp 35) y Hown1.out (Nat.le_trans hB.out.size Hb3.out.size) hll2.out rfl rfl rfl rfl rfl ?_; intro v2 w4 hown2 hg4 hblk4 hb4; go_frame))
          go_roundw
          case rel => exact ⟨j + 1, true, own ++ [x] ++ [y], by omega, by go_num, rfl, hown2, by rw [if_pos rfl]; exact hnext, Lib.hid ((below_drewN hB.out nq).trans (Hb3.out.trans hb4))⟩
          case measure => simp [intOf]; omega
        · have hnext := Lib.hid (show (own ++ [y]) ++ insE x (l.drop (j + 1)) = insE x l by
            rw [← hown.out]
            conv => rhs; rw [insE, if_neg hxy]
            simp)
          have hh : Hid (Op.bytesLess (txt y.1).toList (txt x.1).toList = true ∨ (Op.bytesLess (txt y.1).toList (txt x.1).toList = false ∧ (txt y.1).toList = (txt x.1).toList)) := by
            rw [txt_list, txt_list, less_blt]
            by_cases e : y.1 = x.1
            · exact .inr ⟨by rw [e]; exact blt_irrefl _, e⟩
            · rcases blt_total e with h | h
              · exact .inl h
              · exact absurd h hxy
          clear hdr hxy hown hlen hab1 hab0
          rcases hh.out with h1 | ⟨h1, h2⟩
          · go_wp2
            go_quiet (fail)
            go_wp2_with (at_builtin; refine push_enD enSl2D (.tmp 30) (.tmp 35) y (own_drewN Hrow.out nq) hB.out.size hll.out rfl rfl rfl rfl rfl ?_; intro v1 w3 hown1 hg3 hblk3 hb3; go_frame)
            go_roundw
            case rel => exact ⟨j + 1, false, own ++ [y], by omega, by go_num, rfl, hown1, by rw [if_neg (by decide)]; exact hnext, Lib.hid ((below_drewN hB.out nq).trans hb3)⟩
            case measure => simp [intOf]; omega
          · go_wp2
            go_quiet (fail)
            go_wp2_with (at_builtin; refine push_enD enSl2D (.tmp 30) (.tmp 35) y (own_drewN Hrow.out nq) hB.out.size hll.out rfl rfl rfl rfl rfl ?_; intro v1 w3 hown1 hg3 hblk3 hb3; go_frame)
            go_roundw
            case rel => exact ⟨j + 1, false, own ++ [y], by omega, by go_num, rfl, hown1, by rw [if_neg (by decide)]; exact hnext, Lib.hid ((below_drewN hB.out nq).trans hb3)⟩
            case measure => simp [intOf]; omega
      · rw [if_pos rfl, hdr] at hown
        have hnext := Lib.hid (show (own ++ [y]) ++ l.drop (j + 1) = insE x l by
          rw [← hown.out]
          simp)
        clear hdr hown hlen hab1 hab0
        go_wp2
        go_quiet (fail)
        go_wp2_with (at_builtin; refine push_enD enSl2D (.tmp 30) (.tmp 35) y (own_drewN Hrow.out nq) hB.out.size hll.out rfl rfl rfl rfl rfl ?_; intro v1 w3 hown1 hg3 hblk3 hb3; go_frame)
        go_roundw
        case rel => exact ⟨j + 1, true, own ++ [y], by omega, by go_num, rfl, hown1, by rw [if_pos rfl]; exact hnext, Lib.hid ((below_drewN hB.out nq).trans hb3)⟩
        case measure => simp [intOf]; omega
    · obtain rfl : j = n := by omega
      have hd2 : decide ((j : Int) < (j : Int)) = false := by simp
      have hd0 : l.drop j = [] := by rw [← Hn.out, List.drop_length]
      have hBB : Hid (Below w.heap.size w wr) := hbW.out.trans (hB.out.mono hbW.out.size)
      rw [hd0] at hown
      cases done
      · rw [if_neg (by decide)] at hown
        have hll : Hid (own.length ≤ 1099511627776) := by
          have h1 := congrArg List.length hown.out
          rw [List.length_append, ins_len, ins_len, Hn.out] at h1
          simp only [List.length_nil] at h1
          show _ ≤ _
          omega
        have Hrow := Lib.hid hrow
        clear hrow
        go_wp2_with (at_builtin; refine push_enD enSl2D (.tmp 39) (.tmp 41) x Hrow.out hB.out.size hll.out rfl rfl rfl rfl rfl ?_; intro v1 w3 hown1 hg3 hblk3 hb3; go_frame)
        go_ret
        have he : own ++ [x] = insE x l := hown.out
        rw [he] at hown1
        exact ⟨_, rfl, own_base hown1 hbW.out.size, hBB.out.trans (hb3.mono hbW.out.size)⟩
      · rw [if_pos rfl, List.append_nil] at hown
        rw [hown.out] at hrow
        go_wp2
        go_ret
        exact ⟨_, rfl, own_base hrow hbW.out.size, hBB.out⟩
end
end Go.Proofs.YtbhmnmmockmibaaGreat

namespace Go.Proofs.YtbhmnmmockmibaaGreat
open Go.RowKit
theorem del_not {m : List EnD} {k : List UInt8} (h : hasE m k = false) : delE m k = m := by
  unfold delE
  rw [List.filter_eq_self]
  intro e he
  cases hk : e.1 == k
  · rfl
  · have : hasE m k = true := hasE_iff.2 ⟨e.2, by have : e.1 = k := by simpa using hk
                                                  rw [← this]; exact he⟩
    rw [h] at this
    cases this
theorem put_ok {o : Pr} {m : List EnD} (h : o.ok m) (ha : o.add = true) : insE (o.k, o.v) m = o.does m := by
  unfold Pr.ok at h
  unfold Pr.does putE
  rw [if_pos ha] at h ⊢
  show _ = insE (o.k, o.v) (delE m o.k)
  rw [del_not h]
theorem without_ok {o : Pr} {m : List EnD} (ha : o.add = false) : delE m o.k = o.does m := by
  unfold Pr.does
  rw [if_neg (by rw [ha]; decide)]
section
variable {X : Nat → Prop} {v : Value} {s : St} {N : Nat} {w : World}
set_option maxHeartbeats 4000000 in
set_option maxRecDepth 100000 in
theorem after_any (h : RefV w X v s) (hg : Good s N) (hN : N ≤ 1000) (t : Nat) (ht : t ≤ s.ops.length) :
    Calls Tryz.prog 66 #[v, .int .i64 (t : Int)] w fun e w' => ∃ A n c, e = .returned (.slice A n c) ∧ n = (runs s.dur (s.ops.take t)).length ∧ EnXD w' (fun b => b < w.heap.size ∧ X b) A (runs s.dur (s.ops.take t)) ∧ Below w.heap.size w w' := by
  obtain ⟨A, c, A', c', rfl, h1, h2⟩ := h.v
  have hlen : Hid (s.ops.length ≤ 1000) := by have := hg.n; show _ ≤ _; omega
  have Hg := Lib.hid hg
  obtain ⟨nd, hnd⟩ : ∃ n, Hid (s.dur.length = n) := ⟨_, rfl⟩
  obtain ⟨no, hno⟩ : ∃ n, Hid (s.ops.length = n) := ⟨_, rfl⟩
  rw [hnd.out, hno.out]
  have ht' : t ≤ no := by rw [← hno.out]; exact ht
  have hno1 : no ≤ 1000 := by rw [← hno.out]; exact hlen.out
  have htI : (t : Int) ≤ 1000 := by omega
  have hnoI : (no : Int) ≤ 1000 := by omega
  obtain ⟨bx, hbx⟩ : ∃ bx, Hid (w.heap.size = bx) := ⟨_, rfl⟩
  obtain ⟨W, hW⟩ : ∃ W, Hid (w.alloc (.cells #[.slice A nd c, .slice A' no c'] 30) = W) := ⟨_, rfl⟩
  have hbW : Hid (Below w.heap.size w W) := by rw [← hW.out]; exact below_new _ _
  have hcx : Hid (W.heap[bx]? = some (.cells #[.slice A nd c, .slice A' no c'] 30 (0, 0))) := by rw [← hW.out, ← hbx.out]; exact heap_alloc_new _ _
  have hbl : Hid (bx < W.heap.size) := (Array.getElem?_eq_some_iff.1 hcx.out).1
  have H1 := Lib.hid h1
  have H2 := Lib.hid h2
  have hcb0 := (two_cells hcx.out).1
  clear h h1 h2 hg ht
  go_enter Tryz.func66, Tryz.ntmps66
  go_upto_region 1 with fail
  rw [hbx.out, hW.out]
  go_wp2
  clear hcb0
  go_loopw [5, 6] (fun lv i wr => ∃ (j : Nat) (B : Option Addr) (n d : Nat), j ≤ t ∧ i = .int .i64 (j : Int) ∧ lv = .slice B n d ∧ Hid (n = (runs s.dur (s.ops.take j)).length) ∧ Hid (EnXD wr (fun b => b < w.heap.size ∧ X b) B (runs s.dur (s.ops.take j))) ∧ Hid (Below W.heap.size W wr)) (fun _ i _ => t - (intOf i).toNat)
  case atStart =>
    refine ⟨0, A, nd, c, Nat.zero_le _, rfl, rfl, ?_, ?_, Lib.hid (Below.refl _ _)⟩
    · rw [List.take_zero]; exact hnd.out.symm
    · rw [List.take_zero]; exact RdX.mono (RdX.below H1.out hbW.out) fun b _ (e : b < w.heap.size ∧ X b) => e.2
  case round =>
    obtain ⟨j, B, n, d, hj, rfl, rfl, hn, hB, hb⟩ := hrel
    have hcb := two_cells ((hb.out.block bx hbl.out).trans hcx.out)
    by_cases hlt : j < t
    · have hbw : Below w.heap.size w wr := hbW.out.trans (hb.out.mono hbW.out.size)
      obtain ⟨ad, o, rfl, hab, _, hc0, hc1, hc2, ho⟩ := PrX.at_ (RdX.below H2.out hbw) (k := j) (by rw [hno.out]; omega)
      have hjt : (j : Int) < (t : Int) := by omega
      have hjn : (j : Int) < (no : Int) := by omega
      have hjn' : j < no := by omega
      have hok : Hid (o.ok (runs s.dur (s.ops.take j))) := Hg.out.ok.oks j o ho.out
      have hnext : Hid (runs s.dur (s.ops.take (j + 1)) = o.does (runs s.dur (s.ops.take j))) := by
        show _ = _
        rw [take_snoc ho, runs_snoc]
      have hn1 : Hid ((runs s.dur (s.ops.take j)).length ≤ 1099511627775) := by have := (Hg.out.runs j).1; show _ ≤ _; omega
      have Hbw := Lib.hid hbw
      clear hbw
      have hfin : Hid (∀ (u : Value) (w2 : World) (m : List EnD), OwnEnD 97 wr.heap.size w2 u m → Below wr.heap.size wr w2 → m = o.does (runs s.dur (s.ops.take j)) → ∃ B' n' d', u = .slice B' n' d' ∧ Hid (n' = (runs s.dur (s.ops.take (j + 1))).length) ∧ Hid (EnXD w2 (fun b => b < w.heap.size ∧ X b) B' (runs s.dur (s.ops.take (j + 1)))) ∧ Hid (Below W.heap.size W w2)) := by
        intro u w2 m hown hb2 hm
        subst hm
        rw [hnext.out]
        obtain ⟨B', d', rfl, _⟩ := own_form hown
        exact ⟨B', _, d', rfl, Lib.hid rfl, Lib.hid (own_avoid hown fun b e => Nat.lt_of_lt_of_le e.1 Hbw.out.size), Lib.hid (hb.out.trans (hb2.mono hb.out.size))⟩
      cases hadd : o.add
      · rw [hadd] at hc0
        go_wp2_with (go_at_call 102; refine (without_any hB.out hn.out.symm (by rw [hn.out]; exact hn1.out) o.k).mono ?_; rintro e w2 ⟨u, rfl, hown, hb2⟩; obtain ⟨B', n', d', rfl, g1, g2, g3⟩ := hfin.out u w2 _ hown hb2 (without_ok hadd))
        go_roundw
        case rel => exact ⟨j + 1, B', n', d', by omega, by go_num, rfl, g1, g2, g3⟩
        case measure => simp [intOf]; omega
      · rw [hadd] at hc0
        go_wp2_with (go_at_call 101; refine (put_anyD hB.out hn.out.symm (by rw [hn.out]; exact hn1.out) (o.k, o.v)).mono ?_; rintro e w2 ⟨u, rfl, hown, hb2⟩; obtain ⟨B', n', d', rfl, g1, g2, g3⟩ := hfin.out u w2 _ hown hb2 (put_ok hok.out hadd))
        go_roundw
        case rel => exact ⟨j + 1, B', n', d', by omega, by go_num, rfl, g1, g2, g3⟩
        case measure => simp [intOf]; omega
    · obtain rfl : j = t := by omega
      have hd2 : decide ((j : Int) < (j : Int)) = false := by simp
      go_wp2
      go_ret
      exact ⟨_, _, _, rfl, hn.out, hB.out, hbW.out.trans (hb.out.mono hbW.out.size)⟩
set_option maxHeartbeats 4000000 in
set_option maxRecDepth 100000 in
theorem refList_any (h : RefV w X v s) (hg : Good s N) (hN : N ≤ 1000) :
    Calls Tryz.prog 31 #[v] w fun e w' => ∃ A n c, e = .returned (.slice A n c) ∧ n = s.now.length ∧ EnXD w' (fun b => b < w.heap.size ∧ X b) A s.now ∧ Below w.heap.size w w' := by
  obtain ⟨A, c, A', c', rfl, h1, h2⟩ := id h.v
  have hlen : Hid (s.ops.length ≤ 1000) := by have := hg.n; show _ ≤ _; omega
  have Hg := Lib.hid hg
  have HN := Lib.hid hN
  have hno1 : (s.ops.length : Int) ≤ 1000 := by have := hlen.out; omega
  obtain ⟨bx, hbx⟩ : ∃ bx, Hid (w.heap.size = bx) := ⟨_, rfl⟩
  obtain ⟨W, hW⟩ : ∃ W, Hid (w.alloc (.cells #[.slice A s.dur.length c, .slice A' s.ops.length c'] 30) = W) := ⟨_, rfl⟩
  have hbW : Hid (Below w.heap.size w W) := by rw [← hW.out]; exact below_new _ _
  have hcx : Hid (W.heap[bx]? = some (.cells #[.slice A s.dur.length c, .slice A' s.ops.length c'] 30 (0, 0))) := by rw [← hW.out, ← hbx.out]; exact heap_alloc_new _ _
  have hcb := two_cells hcx.out
  have H := Lib.hid (h.below hbW.out)
  clear h h1 h2 hg hN
  go_enter Tryz.func31, Tryz.ntmps31
  go_upto_region 1 with fail
  rw [hbx.out, hW.out]
  go_wp2_with (go_at_call 66; refine (after_any H.out Hg.out HN.out s.ops.length (Nat.le_refl _)).mono ?_; rintro e w2 ⟨A2, n2, c2, rfl, hn2, hE, hb2⟩)
  go_ret
  rw [List.take_length] at hn2 hE
  exact ⟨A2, _, c2, rfl, rfl, hE.mono fun b _ (e : b < w.heap.size ∧ X b) => ⟨Nat.lt_of_lt_of_le e.1 hbW.out.size, e.2⟩, hbW.out.trans (hb2.mono hbW.out.size)⟩
set_option maxHeartbeats 4000000 in
set_option maxRecDepth 100000 in
theorem refGet_any (h : RefV w X v s) (hg : Good s N) (hN : N ≤ 1000) (k : List UInt8) :
    Calls Tryz.prog 41 #[v, .string (txt k)] w fun e w' => e = .returned (.tuple #[.int .i64 ((getE s.now k).getD 0), .bool (hasE s.now k)]) ∧ Below w.heap.size w w' := by
  obtain ⟨A, c, A', c', rfl, h1, h2⟩ := id h.v
  have Hg := Lib.hid hg
  have HN := Lib.hid hN
  obtain ⟨bx, hbx⟩ : ∃ bx, Hid (w.heap.size = bx) := ⟨_, rfl⟩
  obtain ⟨W, hW⟩ : ∃ W, Hid (w.alloc (.cells #[.slice A s.dur.length c, .slice A' s.ops.length c'] 30) = W) := ⟨_, rfl⟩
  have hbW : Hid (Below w.heap.size w W) := by rw [← hW.out]; exact below_new _ _
  have hcx : Hid (W.heap[bx]? = some (.cells #[.slice A s.dur.length c, .slice A' s.ops.length c'] 30 (0, 0))) := by rw [← hW.out, ← hbx.out]; exact heap_alloc_new _ _
  have hcb := two_cells hcx.out
  have H := Lib.hid (h.below hbW.out)
  obtain ⟨m, hm⟩ : ∃ m, Hid (s.now = m) := ⟨_, rfl⟩
  have hsrt : Hid (Srt m) := by rw [← hm.out]; exact hg.ok.now
  have hml : Hid (m.length ≤ 1000) := by rw [← hm.out]; have := hg.now.1; show _ ≤ _; omega
  clear h h1 h2 hg hN
  rw [hm.out]
  go_enter Tryz.func41, Tryz.ntmps41
  go_upto_region 1 with fail
  rw [hbx.out, hW.out]
  go_wp2_with (go_at_call 31; refine (refList_any H.out Hg.out HN.out).mono ?_; rintro e w2 ⟨B, n, d, rfl, hn2, hE, hb2⟩; rw [hm.out] at hn2 hE; have HE := Lib.hid hE; have Hn := Lib.hid hn2; have Hb2 := Lib.hid hb2; clear hE hn2 hb2)
  have hnI : (n : Int) ≤ 1000 := by rw [Hn.out]; have := hml.out; omega
  go_loopw [7] (fun i wr => ∃ j : Nat, j ≤ n ∧ i = .int .i64 (j : Int) ∧ wr = w2 ∧ Hid (∀ e ∈ m.take j, e.1 ≠ k)) (fun i _ => n - (intOf i).toNat)
  case atStart => exact ⟨0, Nat.zero_le _, rfl, rfl, by intro e he; simp at he⟩
  case round =>
    obtain ⟨j, hj, rfl, rfl, hall⟩ := hrel
    have hBB : Hid (Below w.heap.size w wr) := hbW.out.trans (Hb2.out.mono hbW.out.size)
    by_cases hlt : j < n
    · obtain ⟨ad, y, rfl, hab, _, hc0, hc1, hy⟩ := EnXD.at_ HE.out (k := j) (by rw [← Hn.out]; exact hlt)
      have hjn : (j : Int) < (n : Int) := by omega
      by_cases hk : y.1 = k
      · have hg1 : getE m k = some y.2 := getE_of hsrt.out (by rw [← hk]; exact List.mem_of_getElem? hy.out)
        have hh1 : hasE m k = true := by rw [← getE_has, hg1]; rfl
        have hr : Hid (Ending.returned (.tuple #[.int .i64 y.2, .bool true]) = .returned (.tuple #[.int .i64 ((getE m k).getD 0), .bool (hasE m k)])) := by rw [hg1, hh1]; exact rfl
        have h1 : ((txt y.1).toList == (txt k).toList) = true := by rw [hk]; simp
        clear hg1 hh1 hk
        go_wp2
        go_ret2
        exact ⟨hr.out, hBB.out⟩
      · have h1 : ((txt y.1).toList == (txt k).toList) = false := by rw [txt_list, txt_list]; simp; exact hk
        have hall' : Hid (∀ e ∈ m.take (j + 1), e.1 ≠ k) := by
          intro e he
          rw [take_snoc hy, List.mem_append, List.mem_singleton] at he
          rcases he with he | rfl
          · exact hall.out e he
          · exact hk
        clear hk
        go_wp2
        go_roundw
        case rel => exact ⟨j + 1, by omega, by go_num, trivial, hall'⟩
        case measure => simp [intOf]; omega
    · obtain rfl : j = n := by omega
      have hd2 : decide ((j : Int) < (j : Int)) = false := by simp
      have hh1 : hasE m k = false := by
        cases hh : hasE m k
        · rfl
        · obtain ⟨z, hz⟩ := hasE_iff.1 hh
          exact absurd rfl (hall.out (k, z) (by rw [Hn.out, List.take_length]; exact hz))
      have hg1 : getE m k = none := by
        cases hg : getE m k with
        | none => rfl
        | some z => rw [← getE_has, hg] at hh1; cases hh1
      have hr : Hid (Ending.returned (.tuple #[.int .i64 0, .bool false]) = .returned (.tuple #[.int .i64 ((getE m k).getD 0), .bool (hasE m k)])) := by rw [hg1, hh1]; exact rfl
      clear hg1 hh1
      go_wp2
      go_ret2
      exact ⟨hr.out, hBB.out⟩
end
end Go.Proofs.YtbhmnmmockmibaaGreat
