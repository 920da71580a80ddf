/- The reference's After, List, Get. Conditions: at most 1000 operations. -/
import Derived.Test.YtdnbflhpgfgnnaaDrR
namespace Go.Proofs.Ytdnbflhpgfgnnaa
open Go.RowKit

theorem del_not {m : List En} {k : List UInt8} (h : hasE m k = false) : delE m k = m := by
  unfold delE
  rw [List.filter_eq_self]
  intro e he
  cases hk : e.1 == k
  · rfl
  · have : hasE m k = true := hasE_iff.2 ⟨e.2, by have : e.1 = k := by simpa using hk
                                                  rw [← this]; exact he⟩
    rw [h] at this
    cases this
theorem put_ok {o : Pr} {m : List En} (h : o.ok m) (ha : o.add = true) : insE (o.k, o.v) m = o.does m := by
  unfold Pr.ok at h
  unfold Pr.does putE
  rw [if_pos ha] at h ⊢
  show _ = insE (o.k, o.v) (delE m o.k)
  rw [del_not h]
theorem without_ok {o : Pr} {m : List En} (ha : o.add = false) : delE m o.k = o.does m := by
  unfold Pr.does
  rw [if_neg (by rw [ha]; decide)]
theorem slice_len {A B : Option Addr} {n m c d : Nat} (h : Value.slice A n c = .slice B m d) : n = m := by injection h
section
variable {X : Nat → Prop} {v : Value} {s : St} {N : Nat} {w : World}
set_option maxHeartbeats 4000000 in
set_option maxRecDepth 100000 in
theorem after_any (h : RefV w X v s) (hg : Good s N) (hN : N ≤ 1000) (t : Nat) (ht : t ≤ s.ops.length) :
    Calls Try.prog 39 #[v, .int .i64 (t : Int)] w fun e w' => ∃ A n c, e = .returned (.slice A n c) ∧ n = (runs s.dur (s.ops.take t)).length ∧ EnX w' (fun b => b < w.heap.size ∧ X b) A (runs s.dur (s.ops.take t)) ∧ Below w.heap.size w w' := by
  obtain ⟨A, c, A', c', rfl, h1, h2⟩ := h.v
  have hlen : Hid (s.ops.length ≤ 1000) := by have := hg.n; show _ ≤ _; omega
  have Hg := Lib.hid hg
  obtain ⟨nd, hnd⟩ : ∃ n, Hid (s.dur.length = n) := ⟨_, rfl⟩
  obtain ⟨no, hno⟩ : ∃ n, Hid (s.ops.length = n) := ⟨_, rfl⟩
  rw [hnd.out, hno.out]
  have ht' : t ≤ no := by rw [← hno.out]; exact ht
  have hno1 : no ≤ 1000 := by rw [← hno.out]; exact hlen.out
  have htI : (t : Int) ≤ 1000 := by omega
  have hnoI : (no : Int) ≤ 1000 := by omega
  obtain ⟨bx, hbx⟩ : ∃ bx, Hid (w.heap.size = bx) := ⟨_, rfl⟩
  obtain ⟨W, hW⟩ : ∃ W, Hid (w.alloc (.cells #[.slice A nd c, .slice A' no c'] 30) = W) := ⟨_, rfl⟩
  have hbW : Hid (Below w.heap.size w W) := by rw [← hW.out]; exact below_new _ _
  have hcx : Hid (W.heap[bx]? = some (.cells #[.slice A nd c, .slice A' no c'] 30 (0, 0))) := by rw [← hW.out, ← hbx.out]; exact heap_alloc_new _ _
  have hbl : Hid (bx < W.heap.size) := (Array.getElem?_eq_some_iff.1 hcx.out).1
  have H1 := Lib.hid h1
  have H2 := Lib.hid h2
  have hcb0 := (two_cells hcx.out).1
  clear h h1 h2 hg ht
  go_enter Try.func39, Try.ntmps39
  go_upto_region 1 with fail
  rw [hbx.out, hW.out]
  go_wp2
  clear hcb0
  go_loopw [5, 6] (fun lv i wr => ∃ (j : Nat) (B : Option Addr) (n d : Nat), j ≤ t ∧ i = .int .i64 (j : Int) ∧ lv = .slice B n d ∧ Hid (n = (runs s.dur (s.ops.take j)).length) ∧ Hid (EnX wr (fun b => b < w.heap.size ∧ X b) B (runs s.dur (s.ops.take j))) ∧ Hid (Below W.heap.size W wr)) (fun _ i _ => t - (intOf i).toNat)
  case atStart =>
    refine ⟨0, A, nd, c, Nat.zero_le _, rfl, rfl, ?_, ?_, Lib.hid (Below.refl _ _)⟩
    · rw [List.take_zero]; exact hnd.out.symm
    · rw [List.take_zero]; exact RdX.mono (RdX.below H1.out hbW.out) fun b _ (e : b < w.heap.size ∧ X b) => e.2
  case round =>
    obtain ⟨j, B, n, d, hj, rfl, rfl, hn, hB, hb⟩ := hrel
    have hcb := two_cells ((hb.out.block bx hbl.out).trans hcx.out)
    by_cases hlt : j < t
    · have hbw : Below w.heap.size w wr := hbW.out.trans (hb.out.mono hbW.out.size)
      obtain ⟨ad, o, rfl, hab, _, hc0, hc1, hc2, ho⟩ := PrX.at_ (RdX.below H2.out hbw) (k := j) (by rw [hno.out]; omega)
      have hjt : (j : Int) < (t : Int) := by omega
      have hjn : (j : Int) < (no : Int) := by omega
      have hjn' : j < no := by omega
      have hok : Hid (o.ok (runs s.dur (s.ops.take j))) := Hg.out.ok.oks j o ho.out
      have hnext : Hid (runs s.dur (s.ops.take (j + 1)) = o.does (runs s.dur (s.ops.take j))) := by
        show _ = _
        rw [take_snoc ho, runs_snoc]
      have hn1 : Hid ((runs s.dur (s.ops.take j)).length ≤ 1099511627775) := by have := (Hg.out.runs j).1; show _ ≤ _; omega
      have Hbw := Lib.hid hbw
      clear hbw
      have hfin : Hid (∀ (u : Value) (w2 : World) (m : List En), OwnEn 55 wr.heap.size w2 u m → Below wr.heap.size wr w2 → m = o.does (runs s.dur (s.ops.take j)) → ∃ B' n' d', u = .slice B' n' d' ∧ Hid (n' = (runs s.dur (s.ops.take (j + 1))).length) ∧ Hid (EnX w2 (fun b => b < w.heap.size ∧ X b) B' (runs s.dur (s.ops.take (j + 1)))) ∧ Hid (Below W.heap.size W w2)) := by
        intro u w2 m hown hb2 hm
        subst hm
        rw [hnext.out]
        obtain ⟨B', d', rfl, _⟩ := own_form hown
        exact ⟨B', _, d', rfl, Lib.hid rfl, Lib.hid (own_avoid hown fun b e => Nat.lt_of_lt_of_le e.1 Hbw.out.size), Lib.hid (hb.out.trans (hb2.mono hb.out.size))⟩
      cases hadd : o.add
      · rw [hadd] at hc0
        go_wp2_with (go_at_call 49; refine (without_any hB.out hn.out.symm (by rw [hn.out]; exact hn1.out) o.k).mono ?_; rintro e w2 ⟨u, rfl, hown, hb2⟩; obtain ⟨B', n', d', rfl, g1, g2, g3⟩ := hfin.out u w2 _ hown hb2 (without_ok hadd))
        go_roundw
        case rel => exact ⟨j + 1, B', n', d', by omega, by go_num, rfl, g1, g2, g3⟩
        case measure => simp [intOf]; omega
      · rw [hadd] at hc0
        go_wp2_with (go_at_call 48; refine (put_any hB.out hn.out.symm (by rw [hn.out]; exact hn1.out) (o.k, o.v)).mono ?_; rintro e w2 ⟨u, rfl, hown, hb2⟩; obtain ⟨B', n', d', rfl, g1, g2, g3⟩ := hfin.out u w2 _ hown hb2 (put_ok hok.out hadd))
        go_roundw
        case rel => exact ⟨j + 1, B', n', d', by omega, by go_num, rfl, g1, g2, g3⟩
        case measure => simp [intOf]; omega
    · obtain rfl : j = t := by omega
      have hd2 : decide ((j : Int) < (j : Int)) = false := by simp
      go_wp2
      go_ret
      exact ⟨_, _, _, rfl, hn.out, hB.out, hbW.out.trans (hb.out.mono hbW.out.size)⟩
set_option maxHeartbeats 4000000 in
set_option maxRecDepth 100000 in
theorem refList_any (h : RefV w X v s) (hg : Good s N) (hN : N ≤ 1000) :
    Calls Try.prog 27 #[v] w fun e w' => ∃ A n c, e = .returned (.slice A n c) ∧ n = s.now.length ∧ EnX w' (fun b => b < w.heap.size ∧ X b) A s.now ∧ Below w.heap.size w w' := by
  obtain ⟨A, c, A', c', rfl, h1, h2⟩ := id h.v
  have hlen : Hid (s.ops.length ≤ 1000) := by have := hg.n; show _ ≤ _; omega
  have Hg := Lib.hid hg
  have HN := Lib.hid hN
  have hno1 : (s.ops.length : Int) ≤ 1000 := by have := hlen.out; omega
  obtain ⟨bx, hbx⟩ : ∃ bx, Hid (w.heap.size = bx) := ⟨_, rfl⟩
  obtain ⟨W, hW⟩ : ∃ W, Hid (w.alloc (.cells #[.slice A s.dur.length c, .slice A' s.ops.length c'] 30) = W) := ⟨_, rfl⟩
  have hbW : Hid (Below w.heap.size w W) := by rw [← hW.out]; exact below_new _ _
  have hcx : Hid (W.heap[bx]? = some (.cells #[.slice A s.dur.length c, .slice A' s.ops.length c'] 30 (0, 0))) := by rw [← hW.out, ← hbx.out]; exact heap_alloc_new _ _
  have hcb := two_cells hcx.out
  have H := Lib.hid (h.below hbW.out)
  clear h h1 h2 hg hN
  go_enter Try.func27, Try.ntmps27
  go_upto_region 1 with fail
  rw [hbx.out, hW.out]
  go_wp2_with (go_at_call 39; refine (after_any H.out Hg.out HN.out s.ops.length (Nat.le_refl _)).mono ?_; rintro e w2 ⟨A2, n2, c2, rfl, hn2, hE, hb2⟩)
  go_ret
  rw [List.take_length] at hn2 hE
  exact ⟨A2, _, c2, rfl, rfl, hE.mono fun b _ (e : b < w.heap.size ∧ X b) => ⟨Nat.lt_of_lt_of_le e.1 hbW.out.size, e.2⟩, hbW.out.trans (hb2.mono hbW.out.size)⟩
set_option maxHeartbeats 4000000 in
set_option maxRecDepth 100000 in
theorem refGet_any (h : RefV w X v s) (hg : Good s N) (hN : N ≤ 1000) (k : List UInt8) :
    Calls Try.prog 26 #[v, .string (txt k)] w fun e w' => e = .returned (.tuple #[.int .i64 ((getE s.now k).getD 0), .bool (hasE s.now k)]) ∧ Below w.heap.size w w' := by
  obtain ⟨A, c, A', c', rfl, h1, h2⟩ := id h.v
  have Hg := Lib.hid hg
  have HN := Lib.hid hN
  obtain ⟨bx, hbx⟩ : ∃ bx, Hid (w.heap.size = bx) := ⟨_, rfl⟩
  obtain ⟨W, hW⟩ : ∃ W, Hid (w.alloc (.cells #[.slice A s.dur.length c, .slice A' s.ops.length c'] 30) = W) := ⟨_, rfl⟩
  have hbW : Hid (Below w.heap.size w W) := by rw [← hW.out]; exact below_new _ _
  have hcx : Hid (W.heap[bx]? = some (.cells #[.slice A s.dur.length c, .slice A' s.ops.length c'] 30 (0, 0))) := by rw [← hW.out, ← hbx.out]; exact heap_alloc_new _ _
  have hcb := two_cells hcx.out
  have H := Lib.hid (h.below hbW.out)
  obtain ⟨m, hm⟩ : ∃ m, Hid (s.now = m) := ⟨_, rfl⟩
  have hsrt : Hid (Srt m) := by rw [← hm.out]; exact hg.ok.now
  have hml : Hid (m.length ≤ 1000) := by rw [← hm.out]; have := hg.now.1; show _ ≤ _; omega
  clear h h1 h2 hg hN
  rw [hm.out]
  go_enter Try.func26, Try.ntmps26
  go_upto_region 1 with fail
  rw [hbx.out, hW.out]
  go_wp2_with (go_at_call 27; refine (refList_any H.out Hg.out HN.out).mono ?_; rintro e w2 ⟨B, n, d, rfl, hn2, hE, hb2⟩; rw [hm.out] at hn2 hE; have HE := Lib.hid hE; have Hn := Lib.hid hn2; have Hb2 := Lib.hid hb2; clear hE hn2 hb2)
  have hnI : (n : Int) ≤ 1000 := by rw [Hn.out]; have := hml.out; omega
  go_loopw [7] (fun i wr => ∃ j : Nat, j ≤ n ∧ i = .int .i64 (j : Int) ∧ wr = w2 ∧ Hid (∀ e ∈ m.take j, e.1 ≠ k)) (fun i _ => n - (intOf i).toNat)
  case atStart => exact ⟨0, Nat.zero_le _, rfl, rfl, by intro e he; simp at he⟩
  case round =>
    obtain ⟨j, hj, rfl, rfl, hall⟩ := hrel
    have hBB : Hid (Below w.heap.size w wr) := hbW.out.trans (Hb2.out.mono hbW.out.size)
    by_cases hlt : j < n
    · obtain ⟨ad, y, rfl, hab, _, hc0, hc1, hy⟩ := EnX.at_ HE.out (k := j) (by rw [← Hn.out]; exact hlt)
      have hjn : (j : Int) < (n : Int) := by omega
      by_cases hk : y.1 = k
      · have hg1 : getE m k = some y.2 := getE_of hsrt.out (by rw [← hk]; exact List.mem_of_getElem? hy.out)
        have hh1 : hasE m k = true := by rw [← getE_has, hg1]; rfl
        have hr : Hid (Ending.returned (.tuple #[.int .i64 y.2, .bool true]) = .returned (.tuple #[.int .i64 ((getE m k).getD 0), .bool (hasE m k)])) := by rw [hg1, hh1]; exact rfl
        have h1 : ((txt y.1).toList == (txt k).toList) = true := by rw [hk]; simp
        clear hg1 hh1 hk
        go_wp2
        go_ret2
        exact ⟨hr.out, hBB.out⟩
      · have h1 : ((txt y.1).toList == (txt k).toList) = false := by rw [txt_list, txt_list]; simp; exact hk
        have hall' : Hid (∀ e ∈ m.take (j + 1), e.1 ≠ k) := by
          intro e he
          rw [take_snoc hy, List.mem_append, List.mem_singleton] at he
          rcases he with he | rfl
          · exact hall.out e he
          · exact hk
        clear hk
        go_wp2
        go_roundw
        case rel => exact ⟨j + 1, by omega, by go_num, trivial, hall'⟩
        case measure => simp [intOf]; omega
    · obtain rfl : j = n := by omega
      have hd2 : decide ((j : Int) < (j : Int)) = false := by simp
      have hh1 : hasE m k = false := by
        cases hh : hasE m k
        · rfl
        · obtain ⟨z, hz⟩ := hasE_iff.1 hh
          exact absurd rfl (hall.out (k, z) (by rw [Hn.out, List.take_length]; exact hz))
      have hg1 : getE m k = none := by
        cases hg : getE m k with
        | none => rfl
        | some z => rw [← getE_has, hg] at hh1; cases hh1
      have hr : Hid (Ending.returned (.tuple #[.int .i64 0, .bool false]) = .returned (.tuple #[.int .i64 ((getE m k).getD 0), .bool (hasE m k)])) := by rw [hg1, hh1]; exact rfl
      clear hg1 hh1
      go_wp2
      go_ret2
      exact ⟨hr.out, hBB.out⟩
end
end Go.Proofs.Ytdnbflhpgfgnnaa
