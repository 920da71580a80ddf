/- The reference's After, List, Get. Conditions: at most 1000 operations. The reference's with. Conditions: at most 1000 operations. -/
import Derived.Test.YtbhmnmmockmibaaGreatKkFdR
import Derived.Test.YtbhmnmmockmibaaGreatKkFoMem2
import Derived.Deep.RegionWith
import Derived.Deep.RegionHeld3
namespace Go.Proofs.YtbhmnmmockmibaaGreat
open Go.RowKit
theorem del_not {m : List EnD} {k : List UInt8} (h : hasE m k = false) : delE m k = m := by
  unfold delE
  rw [List.filter_eq_self]
  intro e he
  cases hk : e.1 == k
  · rfl
  · have : hasE m k = true := hasE_iff.2 ⟨e.2, by have : e.1 = k := by simpa using hk
                                                  rw [← this]; exact he⟩
    rw [h] at this
    cases this
theorem put_ok {o : Pr} {m : List EnD} (h : o.ok m) (ha : o.add = true) : insE (o.k, o.v) m = o.does m := by
  unfold Pr.ok at h
  unfold Pr.does putE
  rw [if_pos ha] at h ⊢
  show _ = insE (o.k, o.v) (delE m o.k)
  rw [del_not h]
theorem without_ok {o : Pr} {m : List EnD} (ha : o.add = false) : delE m o.k = o.does m := by
  unfold Pr.does
  rw [if_neg (by rw [ha]; decide)]
section
variable {X : Nat → Prop} {v : Value} {s : St} {N : Nat} {w : World}
set_option maxHeartbeats 4000000 in
set_option maxRecDepth 100000 in
theorem after_any (h : RefV w X v s) (hg : Good s N) (hN : N ≤ 1000) (t : Nat) (ht : t ≤ s.ops.length) :
    Calls Tryz.prog 66 #[v, .int .i64 (t : Int)] w fun e w' => ∃ A n c, e = .returned (.slice A n c) ∧ n = (runs s.dur (s.ops.take t)).length ∧ EnXD w' (fun b => b < w.heap.size ∧ X b) A (runs s.dur (s.ops.take t)) ∧ Below w.heap.size w w' := by
  obtain ⟨A, c, A', c', rfl, h1, h2⟩ := h.v
  have hlen : Hid (s.ops.length ≤ 1000) := by have := hg.n; show _ ≤ _; omega
  have Hg := Lib.hid hg
  obtain ⟨nd, hnd⟩ : ∃ n, Hid (s.dur.length = n) := ⟨_, rfl⟩
  obtain ⟨no, hno⟩ : ∃ n, Hid (s.ops.length = n) := ⟨_, rfl⟩
  rw [hnd.out, hno.out]
  have ht' : t ≤ no := by rw [← hno.out]; exact ht
  have hno1 : no ≤ 1000 := by rw [← hno.out]; exact hlen.out
  have htI : (t : Int) ≤ 1000 := by omega
  have hnoI : (no : Int) ≤ 1000 := by omega
  obtain ⟨bx, hbx⟩ : ∃ bx, Hid (w.heap.size = bx) := ⟨_, rfl⟩
  obtain ⟨W, hW⟩ : ∃ W, Hid (w.alloc (.cells #[.slice A nd c, .slice A' no c'] 30) = W) := ⟨_, rfl⟩
  have hbW : Hid (Below w.heap.size w W) := by rw [← hW.out]; exact below_new _ _
  have hcx : Hid (W.heap[bx]? = some (.cells #[.slice A nd c, .slice A' no c'] 30 (0, 0))) := by rw [← hW.out, ← hbx.out]; exact heap_alloc_new _ _
  have hbl : Hid (bx < W.heap.size) := (Array.getElem?_eq_some_iff.1 hcx.out).1
  have H1 := Lib.hid h1
  have H2 := Lib.hid h2
  have hcb0 := (two_cells hcx.out).1
  clear h h1 h2 hg ht
  go_enter Tryz.func66, Tryz.ntmps66
  go_upto_region 1 with fail
  rw [hbx.out, hW.out]
  go_wp2
  clear hcb0
  go_loopw [5, 6] (fun lv i wr => ∃ (j : Nat) (B : Option Addr) (n d : Nat), j ≤ t ∧ i = .int .i64 (j : Int) ∧ lv = .slice B n d ∧ Hid (n = (runs s.dur (s.ops.take j)).length) ∧ Hid (EnXD wr (fun b => b < w.heap.size ∧ X b) B (runs s.dur (s.ops.take j))) ∧ Hid (Below W.heap.size W wr)) (fun _ i _ => t - (intOf i).toNat)
  case atStart =>
    refine ⟨0, A, nd, c, Nat.zero_le _, rfl, rfl, ?_, ?_, Lib.hid (Below.refl _ _)⟩
    · rw [List.take_zero]; exact hnd.out.symm
    · rw [List.take_zero]; exact RdX.mono (RdX.below H1.out hbW.out) fun b _ (e : b < w.heap.size ∧ X b) => e.2
  case round =>
    obtain ⟨j, B, n, d, hj, rfl, rfl, hn, hB, hb⟩ := hrel
    have hcb := two_cells ((hb.out.block bx hbl.out).trans hcx.out)
    by_cases hlt : j < t
    · have hbw : Below w.heap.size w wr := hbW.out.trans (hb.out.mono hbW.out.size)
      obtain ⟨ad, o, rfl, hab, _, hc0, hc1, hc2, ho⟩ := PrX.at_ (RdX.below H2.out hbw) (k := j) (by rw [hno.out]; omega)
      have hjt : (j : Int) < (t : Int) := by omega
      have hjn : (j : Int) < (no : Int) := by omega
      have hjn' : j < no := by omega
      have hok : Hid (o.ok (runs s.dur (s.ops.take j))) := Hg.out.ok.oks j o ho.out
      have hnext : Hid (runs s.dur (s.ops.take (j + 1)) = o.does (runs s.dur (s.ops.take j))) := by
        show _ = _
        rw [take_snoc ho, runs_snoc]
      have hn1 : Hid ((runs s.dur (s.ops.take j)).length ≤ 1099511627775) := by have := (Hg.out.runs j).1; show _ ≤ _; omega
      have Hbw := Lib.hid hbw
      clear hbw
      have hfin : Hid (∀ (u : Value) (w2 : World) (m : List EnD), OwnEnD 97 wr.heap.size w2 u m → Below wr.heap.size wr w2 → m = o.does (runs s.dur (s.ops.take j)) → ∃ B' n' d', u = .slice B' n' d' ∧ Hid (n' = (runs s.dur (s.ops.take (j + 1))).length) ∧ Hid (EnXD w2 (fun b => b < w.heap.size ∧ X b) B' (runs s.dur (s.ops.take (j + 1)))) ∧ Hid (Below W.heap.size W w2)) := by
        intro u w2 m hown hb2 hm
        subst hm
        rw [hnext.out]
        obtain ⟨B', d', rfl, _⟩ := own_form hown
        exact ⟨B', _, d', rfl, Lib.hid rfl, Lib.hid (own_avoid hown fun b e => Nat.lt_of_lt_of_le e.1 Hbw.out.size), Lib.hid (hb.out.trans (hb2.mono hb.out.size))⟩
      cases hadd : o.add
      · rw [hadd] at hc0
        go_wp2_with (go_at_call 102; refine (without_any hB.out hn.out.symm (by rw [hn.out]; exact hn1.out) o.k).mono ?_; rintro e w2 ⟨u, rfl, hown, hb2⟩; obtain ⟨B', n', d', rfl, g1, g2, g3⟩ := hfin.out u w2 _ hown hb2 (without_ok hadd))
        go_roundw
        case rel => exact ⟨j + 1, B', n', d', by omega, by go_num, rfl, g1, g2, g3⟩
        case measure => simp [intOf]; omega
      · rw [hadd] at hc0
        go_wp2_with (go_at_call 101; refine (put_anyD hB.out hn.out.symm (by rw [hn.out]; exact hn1.out) (o.k, o.v)).mono ?_; rintro e w2 ⟨u, rfl, hown, hb2⟩; obtain ⟨B', n', d', rfl, g1, g2, g3⟩ := hfin.out u w2 _ hown hb2 (put_ok hok.out hadd))
        go_roundw
        case rel => exact ⟨j + 1, B', n', d', by omega, by go_num, rfl, g1, g2, g3⟩
        case measure => simp [intOf]; omega
    · obtain rfl : j = t := by omega
      have hd2 : decide ((j : Int) < (j : Int)) = false := by simp
      go_wp2
      go_ret
      exact ⟨_, _, _, rfl, hn.out, hB.out, hbW.out.trans (hb.out.mono hbW.out.size)⟩
set_option maxHeartbeats 4000000 in
set_option maxRecDepth 100000 in
theorem refList_any (h : RefV w X v s) (hg : Good s N) (hN : N ≤ 1000) :
    Calls Tryz.prog 31 #[v] w fun e w' => ∃ A n c, e = .returned (.slice A n c) ∧ n = s.now.length ∧ EnXD w' (fun b => b < w.heap.size ∧ X b) A s.now ∧ Below w.heap.size w w' := by
  obtain ⟨A, c, A', c', rfl, h1, h2⟩ := id h.v
  have hlen : Hid (s.ops.length ≤ 1000) := by have := hg.n; show _ ≤ _; omega
  have Hg := Lib.hid hg
  have HN := Lib.hid hN
  have hno1 : (s.ops.length : Int) ≤ 1000 := by have := hlen.out; omega
  obtain ⟨bx, hbx⟩ : ∃ bx, Hid (w.heap.size = bx) := ⟨_, rfl⟩
  obtain ⟨W, hW⟩ : ∃ W, Hid (w.alloc (.cells #[.slice A s.dur.length c, .slice A' s.ops.length c'] 30) = W) := ⟨_, rfl⟩
  have hbW : Hid (Below w.heap.size w W) := by rw [← hW.out]; exact below_new _ _
  have hcx : Hid (W.heap[bx]? = some (.cells #[.slice A s.dur.length c, .slice A' s.ops.length c'] 30 (0, 0))) := by rw [← hW.out, ← hbx.out]; exact heap_alloc_new _ _
  have hcb := two_cells hcx.out
  have H := Lib.hid (h.below hbW.out)
  clear h h1 h2 hg hN
  go_enter Tryz.func31, Tryz.ntmps31
  go_upto_region 1 with fail
  rw [hbx.out, hW.out]
  go_wp2_with (go_at_call 66; refine (after_any H.out Hg.out HN.out s.ops.length (Nat.le_refl _)).mono ?_; rintro e w2 ⟨A2, n2, c2, rfl, hn2, hE, hb2⟩)
  go_ret
  rw [List.take_length] at hn2 hE
  exact ⟨A2, _, c2, rfl, rfl, hE.mono fun b _ (e : b < w.heap.size ∧ X b) => ⟨Nat.lt_of_lt_of_le e.1 hbW.out.size, e.2⟩, hbW.out.trans (hb2.mono hbW.out.size)⟩
set_option maxHeartbeats 4000000 in
set_option maxRecDepth 100000 in
theorem refGet_any (h : RefV w X v s) (hg : Good s N) (hN : N ≤ 1000) (k : List UInt8) :
    Calls Tryz.prog 41 #[v, .string (txt k)] w fun e w' => e = .returned (.tuple #[.int .i64 ((getE s.now k).getD 0), .bool (hasE s.now k)]) ∧ Below w.heap.size w w' := by
  obtain ⟨A, c, A', c', rfl, h1, h2⟩ := id h.v
  have Hg := Lib.hid hg
  have HN := Lib.hid hN
  obtain ⟨bx, hbx⟩ : ∃ bx, Hid (w.heap.size = bx) := ⟨_, rfl⟩
  obtain ⟨W, hW⟩ : ∃ W, Hid (w.alloc (.cells #[.slice A s.dur.length c, .slice A' s.ops.length c'] 30) = W) := ⟨_, rfl⟩
  have hbW : Hid (Below w.heap.size w W) := by rw [← hW.out]; exact below_new _ _
  have hcx : Hid (W.heap[bx]? = some (.cells #[.slice A s.dur.length c, .slice A' s.ops.length c'] 30 (0, 0))) := by rw [← hW.out, ← hbx.out]; exact heap_alloc_new _ _
  have hcb := two_cells hcx.out
  have H := Lib.hid (h.below hbW.out)
  obtain ⟨m, hm⟩ : ∃ m, Hid (s.now = m) := ⟨_, rfl⟩
  have hsrt : Hid (Srt m) := by rw [← hm.out]; exact hg.ok.now
  have hml : Hid (m.length ≤ 1000) := by rw [← hm.out]; have := hg.now.1; show _ ≤ _; omega
  clear h h1 h2 hg hN
  rw [hm.out]
  go_enter Tryz.func41, Tryz.ntmps41
  go_upto_region 1 with fail
  rw [hbx.out, hW.out]
  go_wp2_with (go_at_call 31; refine (refList_any H.out Hg.out HN.out).mono ?_; rintro e w2 ⟨B, n, d, rfl, hn2, hE, hb2⟩; rw [hm.out] at hn2 hE; have HE := Lib.hid hE; have Hn := Lib.hid hn2; have Hb2 := Lib.hid hb2; clear hE hn2 hb2)
  have hnI : (n : Int) ≤ 1000 := by rw [Hn.out]; have := hml.out; omega
  go_loopw [7] (fun i wr => ∃ j : Nat, j ≤ n ∧ i = .int .i64 (j : Int) ∧ wr = w2 ∧ Hid (∀ e ∈ m.take j, e.1 ≠ k)) (fun i _ => n - (intOf i).toNat)
  case atStart => exact ⟨0, Nat.zero_le _, rfl, rfl, by intro e he; simp at he⟩
  case round =>
    obtain ⟨j, hj, rfl, rfl, hall⟩ := hrel
    have hBB : Hid (Below w.heap.size w wr) := hbW.out.trans (Hb2.out.mono hbW.out.size)
    by_cases hlt : j < n
    · obtain ⟨ad, y, rfl, hab, _, hc0, hc1, hy⟩ := EnXD.at_ HE.out (k := j) (by rw [← Hn.out]; exact hlt)
      have hjn : (j : Int) < (n : Int) := by omega
      by_cases hk : y.1 = k
      · have hg1 : getE m k = some y.2 := getE_of hsrt.out (by rw [← hk]; exact List.mem_of_getElem? hy.out)
        have hh1 : hasE m k = true := by rw [← getE_has, hg1]; rfl
        have hr : Hid (Ending.returned (.tuple #[.int .i64 y.2, .bool true]) = .returned (.tuple #[.int .i64 ((getE m k).getD 0), .bool (hasE m k)])) := by rw [hg1, hh1]; exact rfl
        have h1 : ((txt y.1).toList == (txt k).toList) = true := by rw [hk]; simp
        clear hg1 hh1 hk
        go_wp2
        go_ret2
        exact ⟨hr.out, hBB.out⟩
      · have h1 : ((txt y.1).toList == (txt k).toList) = false := by rw [txt_list, txt_list]; simp; exact hk
        have hall' : Hid (∀ e ∈ m.take (j + 1), e.1 ≠ k) := by
          intro e he
          rw [take_snoc hy, List.mem_append, List.mem_singleton] at he
          rcases he with he | rfl
          · exact hall.out e he
          · exact hk
        clear hk
        go_wp2
        go_roundw
        case rel => exact ⟨j + 1, by omega, by go_num, trivial, hall'⟩
        case measure => simp [intOf]; omega
    · obtain rfl : j = n := by omega
      have hd2 : decide ((j : Int) < (j : Int)) = false := by simp
      have hh1 : hasE m k = false := by
        cases hh : hasE m k
        · rfl
        · obtain ⟨z, hz⟩ := hasE_iff.1 hh
          exact absurd rfl (hall.out (k, z) (by rw [Hn.out, List.take_length]; exact hz))
      have hg1 : getE m k = none := by
        cases hg : getE m k with
        | none => rfl
        | some z => rw [← getE_has, hg] at hh1; cases hh1
      have hr : Hid (Ending.returned (.tuple #[.int .i64 0, .bool false]) = .returned (.tuple #[.int .i64 ((getE m k).getD 0), .bool (hasE m k)])) := by rw [hg1, hh1]; exact rfl
      clear hg1 hh1
      go_wp2
      go_ret2
      exact ⟨hr.out, hBB.out⟩
end
end Go.Proofs.YtbhmnmmockmibaaGreat

namespace Go.Proofs.YtbhmnmmockmibaaGreat
open Go.RowKit
theorem info_act : (Tryz.prog.info? 157).map (fun i => (i.zero, i.size, i.bytes)) = some (some (.agg #[.bool false, .string ByteArray.empty, .int .i64 0]), 3, 32) := by kernel_rfl
section
variable {ops : Array Oper} {o : Oper} {a : Act} {K : Act → World → Prop} {Q : Exit → Act → World → Prop} {w : World} {base : Nat} {v : Value} {E : Prop}
theorem step_push_pr {N n : Nat} (s x : Operand) {l : List Pr} (p : Pr) (hown : w.ownsRow base 157 3 v n (prcells l)) (hbase : base ≤ w.heap.size) (hl : n ≤ 1000)
    (hgd : o.guard = none) (ho : o.op = .call { callee := .builtin .append, args := #[s, x], argTypes := #[28, 28] })
    (hs : a.eval s = v) (hx : a.eval x = .slice (some ⟨N, 0, none⟩) 1 1) (hN : w.heap.size = N)
    (h : ∀ v' w', w'.ownsRow base 157 3 v' (n + 1) (prcells (l ++ [p])) → w.grownBy w' v.ownBlock → Below base w w' → K (a.put o.dst v') w') :
    if Region.wanted o (yielded ops a.tmps) = true then Oper.wp Tryz.prog o a (w.alloc (.cells #[.bool p.add, .string (txt p.k), .int .i64 p.v] 157)) K Q else E := by
  subst hN
  have hw : Region.wanted o (yielded ops a.tmps) = true := by simp [Region.wanted, hgd]
  rw [if_pos hw]
  obtain ⟨i0, hi0, hz0, hz1, hz2⟩ := info_parts info_act
  obtain ⟨ob, hob⟩ : ∃ ob, ob = Obj.cells #[.bool p.add, .string (txt p.k), .int .i64 p.v] 157 (0, 0) := ⟨_, rfl⟩
  rw [← hob]
  have hnew : Reads (w.alloc ob) (w.heap.size + 1) 3 (some ⟨w.heap.size, 0, none⟩) 1 (prcells [p]) := by
    refine ⟨rfl, fun _ => ⟨_, rfl, by simp, fun j u hu => ?_⟩⟩
    rw [lit_add, Nat.zero_add]
    subst hob
    rw [cell_of_row _ w.heap.size j _ _ _ (heap_alloc_new w _)]
    rw [List.getElem?_toArray]
    exact hu
  have ha : (w.alloc ob).ownsRow base 157 3 v n (prcells l) := World.ownsRow.alloc (w := w) hown ob
  refine wp_append_any (w.alloc ob) s x 28 ho base 157 i0 _ 3 32 Tryz.underlying28 hi0 hz0 hz1 hz2 rfl (by omega) v n (prcells l) hs ha (w.heap.size + 1) _ 1 1 (prcells [p]) hx hnew (prcells_one _) (by simp only [maxLen]; omega) (by omega) (by simp; omega) ?_
  intro v1 w1 h1 h2 h3
  have hb := ((Below.refl base w).alloc hbase _).trans (grown_below ha h2 (by simp; omega))
  refine h v1 w1 ?_ ⟨h2.os, h2.tape, h2.output, Nat.le_trans (by simp) h2.size, fun k hk hne => (h2.block k (by simp; omega) hne).trans (heap_alloc_old w _ hk)⟩ hb
  rw [prcells_append]
  exact h1
end
set_option maxHeartbeats 4000000 in
set_option maxRecDepth 100000 in
theorem with_any {X : Nat → Prop} {v : Value} {s : St} {w : World} (h : RefV w X v s) (hs2 : s.ops.length ≤ 1000) (o : Pr) :
    Calls Tryz.prog 86 #[v, prV o] w fun e w' => ∃ u, e = .returned u ∧ RefV w' (fun b => b < w.heap.size ∧ X b) u ⟨s.dur, s.ops ++ [o]⟩ ∧ Below w.heap.size w w' := by
  obtain ⟨A, c, A', c', rfl, h1, h2⟩ := id h.v
  have eo : prV o = .agg #[.bool o.add, .string (txt o.k), .int .i64 o.v] := rfl
  rw [eo]
  obtain ⟨nd, hnd⟩ : ∃ n, Hid (s.dur.length = n) := ⟨_, rfl⟩
  obtain ⟨no, hno⟩ : ∃ n, Hid (s.ops.length = n) := ⟨_, rfl⟩
  rw [hnd.out, hno.out]
  have hno1 : no ≤ 1000 := by rw [← hno.out]; exact hs2
  obtain ⟨i0, hi0, hz0, hz1, hz2⟩ := info_parts info_act
  obtain ⟨W1, hW1⟩ : ∃ W, Hid (w.alloc (.cells #[.slice A nd c, .slice A' no c'] 30) = W) := ⟨_, rfl⟩
  obtain ⟨W2, hW2⟩ : ∃ W, Hid (W1.alloc (.cells #[.bool o.add, .string (txt o.k), .int .i64 o.v] 157) = W) := ⟨_, rfl⟩
  obtain ⟨W, hW⟩ : ∃ W, Hid (W2.alloc (.cells #[.slice none 0 0, .slice none 0 0] 30) = W) := ⟨_, rfl⟩
  obtain ⟨bx, hbx⟩ : ∃ bx, Hid (w.heap.size = bx) := ⟨_, rfl⟩
  obtain ⟨by_, hby⟩ : ∃ b, Hid (w.heap.size + 1 = b) := ⟨_, rfl⟩
  obtain ⟨bz, hbz⟩ : ∃ b, Hid (w.heap.size + 1 + 1 = b) := ⟨_, rfl⟩
  have hs1 : W1.heap.size = w.heap.size + 1 := by rw [← hW1.out]; simp
  have hs2 : W2.heap.size = w.heap.size + 1 + 1 := by rw [← hW2.out, World.size_alloc, hs1]
  have hs3 : Hid (W.heap.size = w.heap.size + 3) := by rw [← hW.out]; show _ = _; rw [World.size_alloc, hs2]
  have hb1 : Below w.heap.size w W1 := by rw [← hW1.out]; exact below_new _ _
  have hb2 : Below w.heap.size W1 W2 := by rw [← hW2.out]; exact (below_new _ _).mono (by omega)
  have hb3 : Below w.heap.size W2 W := by rw [← hW.out]; exact (below_new _ _).mono (by omega)
  have hbW : Hid (Below w.heap.size w W) := hb1.trans (hb2.trans hb3)
  have hcx : Hid (W.heap[bx]? = some (.cells #[.slice A nd c, .slice A' no c'] 30 (0, 0))) := by
    rw [← hW.out, ← hbx.out]
    refine heap_alloc_old _ _ (by omega) |>.trans ?_
    rw [← hW2.out]
    refine heap_alloc_old _ _ (by omega) |>.trans ?_
    rw [← hW1.out]
    exact heap_alloc_new _ _
  have hcy : Hid (W.heap[by_]? = some (.cells #[.bool o.add, .string (txt o.k), .int .i64 o.v] 157 (0, 0))) := by
    rw [← hW.out, ← hby.out]
    refine heap_alloc_old _ _ (by omega) |>.trans ?_
    rw [← hW2.out, ← hs1]
    exact heap_alloc_new _ _
  have hcz : Hid (W.heap[bz]? = some (.cells #[.slice none 0 0, .slice none 0 0] 30 (0, 0))) := by
    rw [← hW.out, ← hbz.out, ← hs2]
    exact heap_alloc_new _ _
  have H1 := Lib.hid h1
  have Hnd := Lib.hid hnd
  have H2 := Lib.hid (RdX.below h2 hbW.out)
  have hcbx := two_cells hcx.out
  clear hb1 hb2 hb3 hs1 hs2 h1 h2 eo h
  go_enter Tryz.func86, Tryz.ntmps86
  go_upto_region 1 with fail
  rw [hW1.out, hW2.out, hW.out, hbz.out, hby.out, hbx.out]
  go_upto_region 3 with (at_builtin; refine wpList_append_any _ rfl (.tmp 6) (.tmp 8) 28 rfl W.heap.size 157 i0 _ 3 32 Tryz.underlying28 hi0 hz0 hz1 hz2 rfl (by omega) (.slice none 0 0) 0 [] rfl (World.ownsRow_nil _ _ _ _) W.heap.size A' no c' (prcells s.ops) rfl (by rw [← hno.out]; exact RdX.reads H2.out) (prcells_one _) (by simp only [maxLen]; omega) (by omega) (Nat.le_refl _) ?_; intro v1 w3 hown1 hg3 hblk3)
  have hb3 : Below W.heap.size W w3 := Below.grown (.refl _ _) hg3 (Nat.le_refl _) fun k e => by cases e
  rw [List.nil_append, Nat.zero_add] at hown1
  have HS : Hid (∀ wx, Below W.heap.size W wx → wx.cell? ⟨bx, 0, none⟩ = some (.slice A nd c) ∧ wx.cell? ⟨by_, 0, none⟩ = some (.bool o.add) ∧ wx.cell? ⟨by_, 1, none⟩ = some (.string (txt o.k)) ∧ wx.cell? ⟨by_, 2, none⟩ = some (.int .i64 o.v)) := by
    intro wx hb
    have hlt : ∀ g o, W.heap[g]? = some o → wx.heap[g]? = some o := fun g o hh => (hb.block g (Array.getElem?_eq_some_iff.1 hh).1).trans hh
    have dy := hlt _ _ hcy.out
    refine ⟨(two_cells (hlt _ _ hcx.out)).1, ?_, ?_, ?_⟩
    · rw [cell_of_row wx by_ 0 _ _ _ dy]; rfl
    · rw [cell_of_row wx by_ 1 _ _ _ dy]; rfl
    · rw [cell_of_row wx by_ 2 _ _ _ dy]; rfl
  have HSt : Hid (∀ wx x y, Below W.heap.size W wx → ((wx.setCell ⟨bz, 0, none⟩ x).setCell ⟨bz, 1, none⟩ y).cell? ⟨bx, 0, none⟩ = some (.slice A nd c) ∧ ((wx.setCell ⟨bz, 0, none⟩ x).setCell ⟨bz, 1, none⟩ y).cell? ⟨by_, 0, none⟩ = some (.bool o.add) ∧ ((wx.setCell ⟨bz, 0, none⟩ x).setCell ⟨bz, 1, none⟩ y).cell? ⟨by_, 1, none⟩ = some (.string (txt o.k)) ∧ ((wx.setCell ⟨bz, 0, none⟩ x).setCell ⟨bz, 1, none⟩ y).cell? ⟨by_, 2, none⟩ = some (.int .i64 o.v)) := by
    intro wx x y hb
    have hT := (Touch.cell1 wx bz 0 x).trans (Touch.cell1 _ bz 1 y)
    have h1 := (Array.getElem?_eq_some_iff.1 hcx.out).1
    have h2 := (Array.getElem?_eq_some_iff.1 hcy.out).1
    have h3 := hb.size
    have n1 : bx ≠ bz := by rw [← hbx.out, ← hbz.out]; omega
    have n2 : by_ ≠ bz := by rw [← hby.out, ← hbz.out]; omega
    obtain ⟨c0, c1, c2, c3⟩ := HS.out wx hb
    exact ⟨(hT.cell (p := ⟨bx, 0, none⟩) (by show bx < _; omega) n1).trans c0, (hT.cell (p := ⟨by_, 0, none⟩) (by show by_ < _; omega) n2).trans c1, (hT.cell (p := ⟨by_, 1, none⟩) (by show by_ < _; omega) n2).trans c2, (hT.cell (p := ⟨by_, 2, none⟩) (by show by_ < _; omega) n2).trans c3⟩
  have HB3 : Hid (Below W.heap.size W w3.drew) := hb3.drew
  have HO3 : Hid (w3.drew.ownsRow W.heap.size 157 3 v1 no (prcells s.ops)) := hown1
  obtain ⟨N3, hN3⟩ : ∃ n, Hid (w3.drew.heap.size = n) := ⟨_, rfl⟩
  obtain ⟨dx, dy0, dy1, dy2⟩ := HS.out _ HB3.out
  clear hb3 hown1 hg3 hblk3
  go_region_held3 (fun wx => wx.cell? ⟨bx, 0, none⟩ = some (.slice A nd c) ∧ wx.cell? ⟨by_, 0, none⟩ = some (.bool o.add) ∧ wx.cell? ⟨by_, 1, none⟩ = some (.string (txt o.k)) ∧ wx.cell? ⟨by_, 2, none⟩ = some (.int .i64 o.v)) (first | exact HSt.out _ _ _ Hb6.out | exact HS.out _ Hb6.out | exact HS.out _ (HB3.out.alloc HB3.out.size _) | exact HS.out _ HB3.out) (first | (refine step_push_pr (.tmp 12) (.tmp 14) o HO3.out HB3.out.size hno1 rfl rfl rfl rfl rfl ?_; intro u w6 hO6 hg6 hbl6; have Hb6 := Lib.hid (HB3.out.trans (hbl6.mono (Nat.le_refl _))); have Hown6 := Lib.hid hO6; have Hz6 := Lib.hid ((Hb6.out.block _ (Array.getElem?_eq_some_iff.1 hcz.out).1).trans hcz.out); have fz0 := two_frozen (i := 0) Hz6.out; have fz1 := two_frozen (i := 1) Hz6.out; have ez := two_cells Hz6.out; obtain ⟨B, d, rfl, _⟩ := own_form hO6; clear hO6 hg6 hbl6))
  all_goals
    (go_wp2
     have hzf := two_set1 (.slice B (no + 1) d) (two_set0 (.slice A nd c) Hz6.out)
     refine ret_two1 rfl twoDir bz _ _ _ (0, 0) rfl hzf rfl ?_
     have hT := (Touch.cell1 w6 bz 0 (.slice A nd c)).trans (Touch.cell1 _ bz 1 (.slice B (no + 1) d))
     have hbzl : bz < W.heap.size := (Array.getElem?_eq_some_iff.1 hcz.out).1
     have hbzw : w.heap.size ≤ bz := by rw [← hbz.out]; omega
     have h6w : Below w.heap.size w w6 := hbW.out.trans (Hb6.out.mono hbW.out.size)
     have hfw : Below w.heap.size w _ := h6w.trans (hT.below h6w.size fun b e => by rw [e]; exact hbzw)
     refine ⟨_, rfl, ⟨A, c, B, d, ?_, ?_, ?_⟩, hfw⟩
     · rw [← hnd.out, ← hno.out, List.length_append]; rfl
     · exact (RdX.below H1.out hfw).mono fun b _ (e : b < w.heap.size ∧ X b) => e.2
     · have ho := own_touch Hown6.out hT fun b hb e => by have := (Hown6.out.lt b hb).1; omega
       have hR := own_avoid ho fun b (e : b < w.heap.size ∧ X b) => Nat.lt_of_lt_of_le e.1 hbW.out.size
       have hl : no + 1 = (s.ops ++ [o]).length := by rw [List.length_append, hno.out]; rfl
       show RdX _ _ 3 B (s.ops ++ [o]).length (prcells (s.ops ++ [o]))
       rw [← hl]
       exact hR)
end Go.Proofs.YtbhmnmmockmibaaGreat
