/- The reference's put and without. Conditions: at most 2^40 entries. -/
import Derived.Test.YtdnbflhpgfgnnaaDrQ
namespace Go.Proofs.Ytdnbflhpgfgnnaa
open Go.RowKit

theorem del_snoc (m : List En) (y : En) (k : List UInt8) : delE (m ++ [y]) k = delE m k ++ (if (y.1 == k) = true then [] else [y]) := by
  unfold delE
  rw [List.filter_append]
  congr 1
  cases h : y.1 == k <;> simp [h]
theorem gtr_blt (a b : List UInt8) : (!Op.bytesLess a b && !(a == b)) = blt b a := by
  rw [less_blt]
  by_cases h : a = b
  · subst h
    rw [blt_irrefl]
    simp
  · rcases blt_total h with h1 | h1
    · rw [h1, blt_asymm h1]; simp
    · rw [h1, blt_asymm h1]; simp [h]
theorem own_drewN {e : TypeId} {b : Nat} {w : World} {v : Value} {xs : List En} (h : OwnEn e b w v xs) (n : Nat) : OwnEn e b (w.drewN n) v xs := h
theorem txt_list (l : List UInt8) : (txt l).toList = l := by rw [ByteArray.toList_eq]; rfl
section
variable {A : Option Addr} {c n : Nat} {X : Nat → Prop} {l : List En} {w : World}
set_option maxHeartbeats 4000000 in
set_option maxRecDepth 100000 in
theorem without_any (h : EnX w X A l) (hn : l.length = n) (hl : n ≤ 1099511627775) (k : List UInt8) :
    Calls Try.prog 49 #[.slice A n c, .string (txt k)] w fun e w' => ∃ v, e = .returned v ∧ OwnEn 55 w.heap.size w' v (delE l k) ∧ Below w.heap.size w w' := by
  have hnI : (n : Int) ≤ 1099511627775 := by omega
  have Hn := Lib.hid hn
  have H := Lib.hid h
  clear hn h
  go_enter Try.func49, Try.ntmps49
  go_wp2
  go_loopw [5, 6] (fun v i wr => ∃ j : Nat, j ≤ n ∧ i = .int .i64 (j : Int) ∧ OwnEn 55 w.heap.size wr v (delE (l.take j) k) ∧ Hid (Below w.heap.size w wr)) (fun _ i _ => n - (intOf i).toNat)
  case atStart => exact ⟨0, Nat.zero_le _, rfl, by rw [List.take_zero]; exact OwnEn.nil _ _ _, Lib.hid (Below.refl _ _)⟩
  case round =>
    obtain ⟨j, hj, rfl, hrow, hB⟩ := hrel
    by_cases hlt : j < n
    · obtain ⟨ad, y, rfl, hab, _, hc0, hc1, hy⟩ := EnX.at_ (RdX.below H.out hB.out) (k := j) (by rw [Hn.out]; exact hlt)
      have hjn : (j : Int) < (n : Int) := by omega
      have Hrow := Lib.hid hrow
      clear hrow
      by_cases hk : y.1 = k
      · have hnext : Hid (delE (l.take (j + 1)) k = delE (l.take j) k) := by
          show _ = _
          rw [take_snoc hy, del_snoc, hk]
          simp
        subst hk
        go_wp2
        go_roundw
        case rel => exact ⟨j + 1, by omega, by go_num, by rw [hnext.out]; exact Hrow.out, hB⟩
        case measure => simp [intOf]; omega
      · have hnext : Hid (delE (l.take (j + 1)) k = delE (l.take j) k ++ [y]) := by
          show _ = _
          rw [take_snoc hy, del_snoc, if_neg (by simp; exact hk)]
        have hne : ((txt y.1).toList == (txt k).toList) = false := by rw [txt_list, txt_list]; simp; exact hk
        have hll : Hid ((delE (l.take j) k).length ≤ 1099511627776) := by
          have := del_len (l.take j) k
          rw [List.length_take] at this
          show _ ≤ _
          omega
        clear hk
        go_wp2_with (at_builtin; refine push_en enSl2 (.tmp 20) (.tmp 25) y Hrow.out hB.out.size hll.out rfl rfl rfl rfl rfl ?_; intro v' w3 hown' hg3 hblk3 hb3; go_frame)
        go_roundw
        case rel => exact ⟨j + 1, by omega, by go_num, by rw [hnext.out]; exact hown', Lib.hid (hB.out.trans hb3)⟩
        case measure => simp [intOf]; omega
    · obtain rfl : j = n := by omega
      have hd2 : decide ((j : Int) < (j : Int)) = false := by simp
      have he : delE (l.take j) k = delE l k := by rw [← Hn.out, List.take_length]
      rw [he] at hrow
      go_wp2
      go_ret
      exact ⟨_, rfl, hrow, hB.out⟩
set_option maxHeartbeats 4000000 in
set_option maxRecDepth 100000 in
theorem put_any (h : EnX w X A l) (hn : l.length = n) (hl : n ≤ 1099511627775) (x : En) :
    Calls Try.prog 48 #[.slice A n c, .agg #[.string (txt x.1), .int .i64 x.2]] w fun e w' => ∃ v, e = .returned v ∧ OwnEn 55 w.heap.size w' v (insE x l) ∧ Below w.heap.size w w' := by
  have hnI : (n : Int) ≤ 1099511627775 := by omega
  have Hn := Lib.hid hn
  have H := Lib.hid h
  clear hn h
  obtain ⟨bx, hbx⟩ : ∃ bx, Hid (w.heap.size = bx) := ⟨_, rfl⟩
  obtain ⟨W, hW⟩ : ∃ W, Hid (w.alloc (.cells #[.string (txt x.1), .int .i64 x.2] 55) = W) := ⟨_, rfl⟩
  have hbW : Hid (Below w.heap.size w W) := by rw [← hW.out]; exact below_new _ _
  have hcx : Hid (W.heap[bx]? = some (.cells #[.string (txt x.1), .int .i64 x.2] 55 (0, 0))) := by rw [← hW.out, ← hbx.out]; exact heap_alloc_new _ _
  have hbl : Hid (bx < W.heap.size) := (Array.getElem?_eq_some_iff.1 hcx.out).1
  go_enter Try.func48, Try.ntmps48
  go_upto_region 1 with fail
  rw [hbx.out, hW.out]
  go_wp2
  go_loopw [5, 6, 7] (fun v d i wr => ∃ (j : Nat) (done : Bool) (own : List En), j ≤ n ∧ i = .int .i64 (j : Int) ∧ d = .bool done ∧ OwnEn 55 W.heap.size wr v own ∧ Hid (own ++ (if done = true then l.drop j else insE x (l.drop j)) = insE x l) ∧ Hid (Below W.heap.size W wr)) (fun _ _ i _ => n - (intOf i).toNat)
  case atStart => exact ⟨0, false, [], Nat.zero_le _, rfl, rfl, OwnEn.nil _ _ _, by rw [List.drop_zero]; exact Lib.hid rfl, Lib.hid (Below.refl _ _)⟩
  case round =>
    obtain ⟨j, done, own, hj, rfl, rfl, hrow, hown, hB⟩ := hrel
    have hcb := two_cells ((hB.out.block bx hbl.out).trans hcx.out)
    by_cases hlt : j < n
    · obtain ⟨ad, y, rfl, hab, _, hc0, hc1, hy⟩ := EnX.at_ (RdX.below H.out (hbW.out.trans (hB.out.mono hbW.out.size))) (k := j) (by rw [Hn.out]; exact hlt)
      have hjn : (j : Int) < (n : Int) := by omega
      have hdr : l.drop j = y :: l.drop (j + 1) := by
        have h1 := (List.getElem?_eq_some_iff.1 hy.out)
        obtain ⟨h2, h3⟩ := h1
        rw [List.drop_eq_getElem_cons h2, h3]
      have hlen : Hid (own.length ≤ n + 1) := by
        have h1 := congrArg List.length hown.out
        rw [List.length_append, ins_len, Hn.out] at h1
        show _ ≤ _
        omega
      have hll : Hid (own.length ≤ 1099511627776) := by have := hlen.out; show _ ≤ _; omega
      have Hrow := Lib.hid hrow
      have hab0 : Hid (ad.block < W.heap.size) := by
        obtain ⟨ad', e', hb', _⟩ := H.out.2 (by rw [Hn.out]; omega)
        injection e' with e'
        rw [e']
        exact Nat.lt_of_lt_of_le hb' hbW.out.size
      have hab1 : Hid (∀ (wx wy : World), Below W.heap.size wx wy → wx.cell? (ad.add (j * 2)) = some (.string (txt y.1)) → wx.cell? ⟨(ad.add (j * 2)).block, (ad.add (j * 2)).off + 1, none⟩ = some (.int .i64 y.2) → wy.cell? (ad.add (j * 2)) = some (.string (txt y.1)) ∧ wy.cell? ⟨(ad.add (j * 2)).block, (ad.add (j * 2)).off + 1, none⟩ = some (.int .i64 y.2)) := by
        intro wx wy hb h0 h1
        have hx : (ad.add (j * 2)).block < W.heap.size := by rw [block_of_add]; exact hab0.out
        exact ⟨(hb.cell hx).trans h0, (hb.cell (p := ⟨(ad.add (j * 2)).block, (ad.add (j * 2)).off + 1, none⟩) hx).trans h1⟩
      clear hrow
      cases done
      · simp only [Bool.false_eq_true, if_false] at hown
        rw [hdr] at hown
        by_cases hxy : blt x.1 y.1 = true
        · have hll2 : Hid ((own ++ [x]).length ≤ 1099511627776) := by
            have h1 := congrArg List.length hown.out
            rw [List.length_append, ins_len, ins_len, Hn.out] at h1
            simp only [List.length_cons] at h1
            rw [List.length_append, List.length_singleton]
            show _ ≤ _
            omega
          have hnext := Lib.hid (show (own ++ [x] ++ [y]) ++ l.drop (j + 1) = insE x l by
            rw [← hown.out]
            unfold insE
            rw [if_pos hxy]
            simp)
          have h1 : Op.bytesLess (txt y.1).toList (txt x.1).toList = false := by rw [txt_list, txt_list, less_blt]; exact blt_asymm hxy
          have h2 : ((txt y.1).toList == (txt x.1).toList) = false := by rw [txt_list, txt_list]; simp; exact (blt_ne hxy).symm
          have t1 := Lib.hid True.intro
          have t2 := Lib.hid True.intro
          clear hdr hxy hown hlen
          go_wp2
          go_quiet (fail)
          have hc01 := fun wy hb => hab1.out (wr.drewN nq) wy hb hc0 hc1
          have Hc01 := Lib.hid hc01
          clear hc01 hc0 hc1
          go_wp2_with (first
            | (at_builtin; clear t1; refine push_en enSl2 (.tmp 26) (.tmp 28) x (own_drewN Hrow.out nq) hB.out.size hll.out rfl rfl rfl rfl rfl ?_; intro v1 w3 hown1 hg3 hblk3 hb3; clear hg3 hblk3; have Hown1 := Lib.hid hown1; have Hb3 := Lib.hid hb3; clear hown1 hb3; obtain ⟨hc0, hc1⟩ := Hc01.out _ Hb3.out)
            | (at_builtin; clear t2; refine push_en enSl2 (.tmp 30) (.tmp 35) y Hown1.out (Nat.le_trans hB.out.size Hb3.out.size) hll2.out rfl rfl rfl rfl rfl ?_; intro v2 w4 hown2 hg4 hblk4 hb4; go_frame))
          go_roundw
          case rel => exact ⟨j + 1, true, own ++ [x] ++ [y], by omega, by go_num, rfl, hown2, by rw [if_pos rfl]; exact hnext, Lib.hid ((below_drewN hB.out nq).trans (Hb3.out.trans hb4))⟩
          case measure => simp [intOf]; omega
        · have hnext := Lib.hid (show (own ++ [y]) ++ insE x (l.drop (j + 1)) = insE x l by
            rw [← hown.out]
            conv => rhs; rw [insE, if_neg hxy]
            simp)
          have hh : Hid (Op.bytesLess (txt y.1).toList (txt x.1).toList = true ∨ (Op.bytesLess (txt y.1).toList (txt x.1).toList = false ∧ (txt y.1).toList = (txt x.1).toList)) := by
            rw [txt_list, txt_list, less_blt]
            by_cases e : y.1 = x.1
            · exact .inr ⟨by rw [e]; exact blt_irrefl _, e⟩
            · rcases blt_total e with h | h
              · exact .inl h
              · exact absurd h hxy
          clear hdr hxy hown hlen hab1 hab0
          rcases hh.out with h1 | ⟨h1, h2⟩
          · go_wp2
            go_quiet (fail)
            go_wp2_with (at_builtin; refine push_en enSl2 (.tmp 30) (.tmp 35) y (own_drewN Hrow.out nq) hB.out.size hll.out rfl rfl rfl rfl rfl ?_; intro v1 w3 hown1 hg3 hblk3 hb3; go_frame)
            go_roundw
            case rel => exact ⟨j + 1, false, own ++ [y], by omega, by go_num, rfl, hown1, by rw [if_neg (by decide)]; exact hnext, Lib.hid ((below_drewN hB.out nq).trans hb3)⟩
            case measure => simp [intOf]; omega
          · go_wp2
            go_quiet (fail)
            go_wp2_with (at_builtin; refine push_en enSl2 (.tmp 30) (.tmp 35) y (own_drewN Hrow.out nq) hB.out.size hll.out rfl rfl rfl rfl rfl ?_; intro v1 w3 hown1 hg3 hblk3 hb3; go_frame)
            go_roundw
            case rel => exact ⟨j + 1, false, own ++ [y], by omega, by go_num, rfl, hown1, by rw [if_neg (by decide)]; exact hnext, Lib.hid ((below_drewN hB.out nq).trans hb3)⟩
            case measure => simp [intOf]; omega
      · rw [if_pos rfl, hdr] at hown
        have hnext := Lib.hid (show (own ++ [y]) ++ l.drop (j + 1) = insE x l by
          rw [← hown.out]
          simp)
        clear hdr hown hlen hab1 hab0
        go_wp2
        go_quiet (fail)
        go_wp2_with (at_builtin; refine push_en enSl2 (.tmp 30) (.tmp 35) y (own_drewN Hrow.out nq) hB.out.size hll.out rfl rfl rfl rfl rfl ?_; intro v1 w3 hown1 hg3 hblk3 hb3; go_frame)
        go_roundw
        case rel => exact ⟨j + 1, true, own ++ [y], by omega, by go_num, rfl, hown1, by rw [if_pos rfl]; exact hnext, Lib.hid ((below_drewN hB.out nq).trans hb3)⟩
        case measure => simp [intOf]; omega
    · obtain rfl : j = n := by omega
      have hd2 : decide ((j : Int) < (j : Int)) = false := by simp
      have hd0 : l.drop j = [] := by rw [← Hn.out, List.drop_length]
      have hBB : Hid (Below w.heap.size w wr) := hbW.out.trans (hB.out.mono hbW.out.size)
      rw [hd0] at hown
      cases done
      · rw [if_neg (by decide)] at hown
        have hll : Hid (own.length ≤ 1099511627776) := by
          have h1 := congrArg List.length hown.out
          rw [List.length_append, ins_len, ins_len, Hn.out] at h1
          simp only [List.length_nil] at h1
          show _ ≤ _
          omega
        have Hrow := Lib.hid hrow
        clear hrow
        go_wp2_with (at_builtin; refine push_en enSl2 (.tmp 39) (.tmp 41) x Hrow.out hB.out.size hll.out rfl rfl rfl rfl rfl ?_; intro v1 w3 hown1 hg3 hblk3 hb3; go_frame)
        go_ret
        have he : own ++ [x] = insE x l := hown.out
        rw [he] at hown1
        exact ⟨_, rfl, own_base hown1 hbW.out.size, hBB.out.trans (hb3.mono hbW.out.size)⟩
      · rw [if_pos rfl, List.append_nil] at hown
        rw [hown.out] at hrow
        go_wp2
        go_ret
        exact ⟨_, rfl, own_base hrow hbW.out.size, hBB.out⟩
end
end Go.Proofs.Ytdnbflhpgfgnnaa
