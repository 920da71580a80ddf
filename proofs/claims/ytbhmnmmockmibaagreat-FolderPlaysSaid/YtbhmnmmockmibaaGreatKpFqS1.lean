/- The walk of the reference's Power. Conditions: at most 880 calls; at most 1000 told. The state of the region in which the reference's folder loses its power, and is stored. Conditions: none. A list of files that a call made, whose names and bytes may be written over. Conditions: none. -/
import Derived.Test.YtbhmnmmockmibaaGreatKpFoAl
import Derived.Test.YtbhmnmmockmibaaGreatKpFqS
namespace Go.Proofs.YtbhmnmmockmibaaGreat
open Go.RowKit Go.Maps
theorem failT_congr {n1 n2 : List En} : ∀ {fs : List Fi} {keep : List Bool}, (∀ f ∈ fs, manyF n1 f.i = manyF n2 f.i) → failT fs n1 keep = failT fs n2 keep
  | [], _, _ => rfl
  | f :: fs, keep, h => by
    unfold failT
    rw [failT_congr fun x hx => h x (List.mem_cons_of_mem _ hx)]
    unfold failF
    rw [h f (List.mem_cons_self ..)]
def namesP (l : List Int) (j : Nat) : List En := (List.range j).map fun i => ((i + 1 : Nat), (l.count ((i + 1 : Nat) : Int) : Nat))
theorem namesP_len (l : List Int) (j : Nat) : (namesP l j).length = j := by simp [namesP]
theorem namesP_snoc (l : List Int) (j : Nat) : namesP l (j + 1) = namesP l j ++ [(((j + 1 : Nat) : Int), ((l.count ((j + 1 : Nat) : Int) : Nat) : Int))] := by simp [namesP, List.range_succ]
theorem namesP_many (l : List Int) {j : Nat} {z : Int} (h1 : 1 ≤ z) (h2 : z ≤ j) : manyF (namesP l j) z = (l.count z : Nat) := by
  induction j with
  | zero => omega
  | succ j ih =>
    unfold manyF
    by_cases h : z ≤ j
    · have h3 := ih h
      unfold manyF at h3
      rw [namesP_snoc, List.find?_append]
      cases hf : (namesP l j).find? fun x => decide (x.1 = z) with
      | some x => rw [hf] at h3; rw [Option.some_or]; exact h3
      | none =>
        exfalso
        rw [List.find?_eq_none] at hf
        obtain ⟨n, rfl⟩ := Int.eq_ofNat_of_zero_le (show 0 ≤ z by omega)
        have : (((n - 1 + 1 : Nat) : Int), ((l.count ((n - 1 + 1 : Nat) : Int) : Nat) : Int)) ∈ namesP l j := List.mem_map.2 ⟨n - 1, List.mem_range.2 (by omega), rfl⟩
        have := hf _ this
        simp at this
        omega
    · have e : z = ((j + 1 : Nat) : Int) := by omega
      subst e
      rw [namesP_snoc, List.find?_append]
      have hf : (namesP l j).find? (fun x => decide (x.1 = ((j + 1 : Nat) : Int))) = none := by
        rw [List.find?_eq_none]
        intro x hx
        obtain ⟨i, hi, rfl⟩ := List.mem_map.1 hx
        rw [List.mem_range] at hi
        simp
        omega
      rw [hf]
      simp
theorem cntT_snoc {m : List EnD} {k : Nat} {e : EnD} (h : Hid (m[k]? = some e)) (z : Int) : ((m.take (k + 1)).map Prod.snd).count z = ((m.take k).map Prod.snd).count z + if e.2 = z then 1 else 0 := by
  rw [take_snoc h, List.map_append, List.count_append]
  simp [List.count_cons]
theorem rfail_eq {s : Fo} {N : Nat} (hok : s.Ok N) (l : List Int) (keep : List Bool) : failT s.fs (namesP l s.made) keep = failT s.fs ((manyC s.fs).map (updC l)) keep := by
  refine failT_congr fun f hf => ?_
  have hn := (tabOk hok).num f hf
  rw [manyF_upd l hf]
  exact namesP_many l hn.1 hn.2
theorem enSl9 : EnSl 95 98 := ⟨Tryz.underlying95, by kernel_rfl⟩
set_option maxHeartbeats 16000000 in
set_option maxRecDepth 100000 in
theorem rpower_any {w : World} {X : Nat → Prop} {v : Value} {s : Fo} {N : Nat} {ops : Int} {Ak : Option Addr} {nk ck B : Nat} {keep : List Bool} (hr : RefF w X v s) (hok : s.Ok N) (hN : N ≤ 880) (ho1 : -9223372036854775808 ≤ ops) (ho2 : ops ≤ 9223372036854775807) (hnk : keep.length = nk) (hnk2 : nk ≤ 1000) (hB : B ≤ w.heap.size) (hkr : Reads w B 1 Ak nk (kc keep)) :
    Calls Tryz.prog 11 #[v, .int .i64 ops, .slice Ak nk ck] w fun e w' => ∃ u, e = .returned u ∧ Below w.heap.size w w' ∧ RefF w' (AX w X) u (s.power ops keep) := by
  obtain ⟨B0, hB0⟩ : ∃ B, Hid (w.heap.size = B) := ⟨_, rfl⟩
  obtain ⟨B1, hB1⟩ : ∃ B, Hid (w.heap.size + 1 = B) := ⟨_, rfl⟩
  obtain ⟨p0, rfl, hp0⟩ := id hr
  obtain ⟨W, hW⟩ : ∃ W, Hid ((w.alloc (.cells (p0.cs s) 36)).alloc (.cells zrf 36) = W) := ⟨_, rfl⟩
  have hsz := Lib.hid (show W.heap.size = w.heap.size + 2 by rw [← hW.out]; simp)
  have hbW : Hid (Below w.heap.size w W) := by rw [← hW.out]; exact (below_new _ _).alloc (by simp) _
  have hg0 : Hid (W.heap[B0]? = some (.cells (p0.cs s) 36 (0, 0))) := by rw [← hW.out, ← hB0.out, heap_alloc_old _ _ (by simp)]; exact heap_alloc_new _ _
  have hg1 : Hid (W.heap[B1]? = some (.cells zrf 36 (0, 0))) := by
    rw [← hW.out, ← hB1.out]
    have := heap_alloc_new (w.alloc (.cells (p0.cs s) 36)) (.cells zrf 36)
    rwa [World.size_alloc] at this
  have hR0 : Hid (RfB w W W X B0 p0 s) := ⟨hg0.out, by
    have h1 : RfP w (fun b => X b ∨ w.heap.size ≤ b) p0 s := by
      obtain ⟨A, c, A', c', e, h1, h2⟩ := hp0.d.v
      obtain ⟨A2, c2, es, e2, h3, h4⟩ := hp0.t
      exact ⟨⟨A, c, A', c', e, h1.high', h2.high'⟩, ⟨A2, c2, es, e2, h3.high, h4⟩, hp0.g.high'⟩
    exact (h1.below hbW.out).mono fun b _ (e : AY w W X b) => e.2, hbW.out, Nat.le_refl _, by have := hB0.out; have := hsz.out; omega⟩
  have hne : Hid (B1 < W.heap.size ∧ B0 < W.heap.size ∧ B0 ≠ B1 ∧ w.heap.size ≤ B1) := by have := hB0.out; have := hB1.out; have := hsz.out; exact ⟨by omega, by omega, by omega, by omega⟩
  have Hok := Lib.hid hok
  have Hk := Lib.hid hkr
  have HBw := Lib.hid hB
  have Hnk := Lib.hid hnk
  clear hr hp0 hok hkr hB hnk
  obtain ⟨c0, c1, c2, c3, c4, c5, c6⟩ := hR0.out.cells
  have cf := fun i => d_frozen (i := i) hg0.out
  have Hf1 := Lib.hid (refFail_any hR0.out.pt.d Hok.out.d (by omega) ops ho1 ho2)
  go_enter Tryz.func11, Tryz.ntmps11
  go_upto_region 1 with fail
  rw [show w.heap.size + 1 = B1 from hB1.out, hB0.out, hW.out]
  go_upto_region 2 with (go_at_call 30; refine Hf1.out.mono ?_; rintro e w1 ⟨u, rfl, hu, hb1⟩; obtain ⟨A1, k1, O1, j1, rfl, h1, h2⟩ := hu.v; have HD1 := Lib.hid (show RefV w1 (fun b => b < W.heap.size ∧ AY w W X b) (.agg #[.slice A1 (s.d.fail ops).dur.length k1, .slice O1 (s.d.fail ops).ops.length j1]) (s.d.fail ops) from ⟨_, _, _, _, rfl, h1, h2⟩); have Hb1 := Lib.hid hb1; have HR1 := Lib.hid (hR0.out.below hb1); have E1 := Lib.hid ((hb1.block _ hne.out.1).trans hg1.out); clear hu hb1 h1 h2; clear c0 c1 c2 c3 c4 c5 c6 cf; obtain ⟨c0, c1, c2, c3, c4, c5, c6⟩ := HR1.out.cells; have cf := HR1.out.fz)
  obtain ⟨nd, hnd⟩ : ∃ x, Hid ((s.d.fail ops).dur.length = x) := ⟨_, rfl⟩
  obtain ⟨no, hno⟩ : ∃ x, Hid ((s.d.fail ops).ops.length = x) := ⟨_, rfl⟩
  rw [hnd.out, hno.out] at HD1 ⊢
  obtain ⟨W2, hW2⟩ : ∃ x, Hid ((w1.setCell ⟨B0, 0, none⟩ (.slice A1 nd k1)).setCell ⟨B0, 1, none⟩ (.slice O1 no j1) = x) := ⟨_, rfl⟩
  have h := HR1.out.setD HD1.out (Nat.le_refl _)
  have ht := (Touch.cell1 w1 B0 0 (.slice A1 nd k1)).trans (Touch.cell1 _ B0 1 (.slice O1 no j1))
  rw [hW2.out] at h ht ⊢
  have E2 := Lib.hid (ht.heap (show ¬ B1 = B0 from fun e => hne.out.2.2.1 e.symm) E1.out)
  obtain ⟨s2, hs2⟩ : ∃ x : Fo, Hid (({ s with d := s.d.fail ops } : Fo) = x) := ⟨_, rfl⟩
  obtain ⟨p2, hp2⟩ : ∃ p2 : Rp, Hid (RfB w W W2 X B0 p2 s2) := ⟨_, by rw [← hs2.out]; exact h⟩
  have hmade : Hid (s2.made = s.made) := by rw [← hs2.out]; rfl
  have hnow2 : Hid (s2.d.now = (s.d.fail ops).now) := by rw [← hs2.out]; rfl
  have hg2 : Hid (Good s2.d N) := by rw [← hs2.out]; exact Hok.out.d.fail ops
  clear h ht c0 c1 c2 c3 c4 c5 c6 cf
  obtain ⟨c0, c1, c2, c3, c4, c5, c6⟩ := hp2.out.cells
  have cf := hp2.out.fz
  have Hl := Lib.hid (refList_any hp2.out.pt.d hg2.out (by omega))
  go_upto_region 5 with (go_at_call 31; refine Hl.out.mono ?_; rintro e w3 ⟨A3, n3, k3, rfl, hn3, h3, hb3⟩; have HL3 := Lib.hid h3; have Hn3 := Lib.hid hn3; have HR3 := Lib.hid (hp2.out.below hb3); have E3 := Lib.hid ((hb3.block _ (Array.getElem?_eq_some_iff.1 E2.out).1).trans E2.out); clear h3 hn3 hb3; clear c0 c1 c2 c3 c4 c5 c6 cf)
  obtain ⟨m, hm⟩ : ∃ x, Hid (s2.d.now = x) := ⟨_, rfl⟩
  rw [hm.out] at HL3 Hn3
  have hn3I : n3 ≤ 1000 := by have := hg2.out.now.1; rw [hm.out] at this; rw [Hn3.out]; omega
  have hn3I' : (n3 : Int) ≤ 1000 := by omega
  obtain ⟨md, hmd⟩ : ∃ x, Hid (s2.made = x) := ⟨_, rfl⟩
  have hmdI : md ≤ 880 := by have h1 := Hok.out.made; rw [← hmade.out, hmd.out] at h1; omega
  have hmdI' : (md : Int) ≤ 880 := by omega
  have hbl : Hid (W.heap.size ≤ w3.heap.size) := HR3.out.ge
  obtain ⟨cl, hcl⟩ : ∃ x, Hid (m.map Prod.snd = x) := ⟨_, rfl⟩
  go_loopw [8, 9] (fun nv iv wr => ∃ (j : Nat) (z : Int) (A : Option Addr) (c : Nat), j ≤ md ∧ iv = .int .i64 z ∧ Hid (z = ((j + 1 : Nat) : Int)) ∧ nv = .slice A j c ∧ Hid (wr.ownsRow w3.heap.size 98 2 (.slice A j c) j (ecells (namesP cl j))) ∧ Hid (Below w3.heap.size w3 wr)) (fun _ i _ => md + 1 - (intOf i).toNat)
  case atStart => exact ⟨0, 1, none, 0, by omega, rfl, rfl, rfl, World.ownsRow_nil _ _ _ _, Below.refl _ _⟩
  case round =>
    obtain ⟨j, z, A, c, hj, rfl, hz, rfl, hown, hbr⟩ := hrel
    obtain ⟨c0, c1, c2, c3, c4, c5, c6⟩ := (HR3.out.below hbr.out).cells
    rw [hmd.out] at c4
    have hz0 : 1 ≤ z ∧ z ≤ 1000 := by have := hz.out; omega
    by_cases hlt : j < md
    · have hle : decide (z ≤ (md : Int)) = true := decide_eq_true (by have := hz.out; omega)
      obtain ⟨wo, rfl⟩ : ∃ wo : World, wo = wr := ⟨_, rfl⟩
      have HLo := Lib.hid (RdX.below HL3.out hbr.out)
      clear c0 c1 c2 c3 c5 c6
      go_upto_region 9 with fail
      go_loopw [10, 11] (fun nv iv wx => ∃ (i q : Nat), i ≤ n3 ∧ q ≤ i ∧ iv = .int .i64 (i : Int) ∧ nv = .int .i64 (q : Int) ∧ Hid (((m.take i).map Prod.snd).count z = q) ∧ wx = wo) (fun _ i _ => n3 - (intOf i).toNat)
      case atStart => exact ⟨0, 0, by omega, by omega, rfl, rfl, rfl, rfl⟩
      case round =>
        obtain ⟨i, q, hi, hqi, rfl, rfl, hq, rfl⟩ := hrel
        by_cases hlti : i < n3
        · obtain ⟨ad, e, rfl, _, _, _, x1, hx⟩ := EnXD.at_ HLo.out (k := i) (by rw [← Hn3.out]; exact hlti)
          by_cases he : e.2 = z
          · have hq' : Hid (((m.take (i + 1)).map Prod.snd).count z = q + 1) := by rw [cntT_snoc hx, if_pos he, hq.out]; exact rfl
            rw [he] at x1
            go_wp2
            go_roundw
            case rel => exact ⟨i + 1, q + 1, by omega, by omega, by go_num, by go_num, hq', trivial⟩
            case measure => simp [intOf]; omega
          · have hq' : Hid (((m.take (i + 1)).map Prod.snd).count z = q) := by rw [cntT_snoc hx, if_neg he, hq.out]; exact rfl
            have heb : (e.2 == z) = false := beq_eq_false_iff_ne.2 he
            go_wp2
            go_roundw
            case rel => exact ⟨i + 1, q, by omega, by omega, by go_num, rfl, hq', trivial⟩
            case measure => simp [intOf]; omega
        · obtain rfl : i = n3 := by omega
          have hqa : Hid (cl.count z = q) := by
            have h1 := hq.out
            rw [Hn3.out, List.take_length, hcl.out] at h1
            exact h1
          have hEn : Hid (OwnEn 98 w3.heap.size wr (.slice A j c) (namesP cl j)) := by
            unfold OwnEn
            rw [namesP_len]
            exact hown.out
          go_upto_region 13 with fail
          go_wp2_with (at_builtin; refine push_en enSl9 (.tmp 42) (.tmp 46) (z, (q : Int)) hEn.out hbr.out.size (by rw [namesP_len]; omega) rfl rfl rfl rfl rfl ?_; intro v9 w10 ho hg hbk hb; go_frame; obtain ⟨A9, c9, rfl, _, _, _⟩ := own_form ho; have Ho := Lib.hid ho; have Hb := Lib.hid hb; clear ho hg hbk hb; have hl9 := Lib.hid (show (namesP cl j ++ [(z, (q : Int))]).length = j + 1 by rw [List.length_append, namesP_len]; rfl); rw [hl9.out])
          have HA : Hid (w10.ownsRow w3.heap.size 98 2 (.slice A9 (j + 1) c9) (j + 1) (ecells (namesP cl (j + 1)))) := by
            have h := Ho.out
            unfold OwnEn at h
            rw [hl9.out] at h
            rw [namesP_snoc, ← hz.out, hqa.out]
            exact h
          go_roundw
          case rel => exact ⟨j + 1, z + 1, A9, c9, by omega, by go_num, by have := hz.out; show z + 1 = _; omega, rfl, HA, hbr.out.trans Hb.out⟩
          case measure => have := hz.out; simp [intOf]; omega
    · obtain rfl : j = md := by omega
      obtain ⟨w4, rfl⟩ : ∃ x, x = wr := ⟨_, rfl⟩
      have hgt : decide (z ≤ (j : Int)) = false := by rw [decide_eq_false_iff_not]; have := hz.out; omega
      have HR4 := Lib.hid (HR3.out.below hbr.out)
      have E4 := Lib.hid ((hbr.out.block _ (Array.getElem?_eq_some_iff.1 E3.out).1).trans E3.out)
      have hEn : Hid (EnX w4 (AY w W X) A (namesP cl j)) := by
        have h := own_avoid hown.out fun b (e : AY w W X b) => Nat.lt_of_lt_of_le e.1 hbl.out
        unfold EnX
        rw [namesP_len]
        exact h
      have hfs2 : Hid (s2.fs = s.fs) := by rw [← hs2.out]; rfl
      have hq2 : Hid (s2.q = s.q) := by rw [← hs2.out]; rfl
      have hBs : Hid (B ≤ w4.heap.size) := Nat.le_trans HBw.out HR4.out.bel.size
      have Hft := Lib.hid (rfailT_any (cn := c) (ck := ck) (by rw [hfs2.out]; exact Hok.out.rl (by omega)) (by rw [hfs2.out]; exact Hok.out.sm (by omega)) HR4.out.pt.t (namesP_len cl j) (by omega) hEn.out Hnk.out hnk2 hBs.out (by unfold RdK; rw [Hnk.out]; exact Reads.below Hk.out (HR4.out.bel.mono HBw.out)))
      obtain ⟨fs5, hfs5⟩ : ∃ x, Hid (failT s.fs (namesP cl j) keep = x) := ⟨_, rfl⟩
      have hof : Hid (outF (rmT s2.fs) (namesP cl j) keep (rmT s2.fs).length = rmT fs5) := by
        rw [hfs2.out, rmT_len, rmT_fail _ _ _ _ (Nat.le_refl _), List.take_length, hfs5.out]; rfl
      rw [hof.out, hmd.out] at Hft
      go_upto_region 15 with (go_at_call 32; refine Hft.out.mono ?_; rintro e w5 ⟨u, rfl, hb5, hu⟩; obtain ⟨A5, k5, es5, rfl, r1, r2⟩ := id hu; have HU5 := Lib.hid hu; have HR5 := Lib.hid (HR4.out.below hb5); have E5 := Lib.hid ((hb5.block _ (Array.getElem?_eq_some_iff.1 E4.out).1).trans E4.out); have HW4 := Lib.hid HR4.out.ge; clear hu hb5 r1 r2; clear c0 c1 c2 c3 c4 c5 c6; obtain ⟨c0, c1, c2, c3, c4, c5, c6⟩ := HR5.out.cells; rw [hmd.out] at c4; have cf := HR5.out.fz)
      obtain ⟨n5, hn5⟩ : ∃ x, Hid (es5.length = x) := ⟨_, rfl⟩
      rw [hn5.out] at HU5 ⊢
      obtain ⟨W6, hW6⟩ : ∃ x, Hid (((w5.setCell ⟨B0, 2, none⟩ (.slice A5 n5 k5)).setCell ⟨B0, 3, none⟩ (.int .i64 s2.q)).setCell ⟨B0, 4, none⟩ (.int .i64 (j : Int)) = x) := ⟨_, rfl⟩
      have h := HR5.out.setT (made := j) (fs := fs5) HU5.out HW4.out
      have ht := ((Touch.cell1 w5 B0 2 (.slice A5 n5 k5)).trans (Touch.cell1 _ B0 3 (.int .i64 s2.q))).trans (Touch.cell1 _ B0 4 (.int .i64 (j : Int)))
      rw [hW6.out] at h ht ⊢
      have E6 := Lib.hid (ht.heap (show ¬ B1 = B0 from fun e => hne.out.2.2.1 e.symm) E5.out)
      have HR6 := Lib.hid h
      clear h ht c0 c1 c2 c3 c4 c5 c6 cf
      obtain ⟨c0, c1, c2, c3, c4, c5, c6⟩ := HR6.out.cells
      have cf := HR6.out.fz
      go_upto_region 16 with fail
      obtain ⟨W7, hW7⟩ : ∃ x, Hid (W6.setCell ⟨B0, 6, none⟩ (.slice none 0 0) = x) := ⟨_, rfl⟩
      have h := HR6.out.setG (A := none) (c := 0) (l := []) RdX.none_
      have ht := Touch.cell1 W6 B0 6 (.slice none 0 0)
      rw [hW7.out] at ht ⊢
      have E7 := Lib.hid (ht.heap (show ¬ B1 = B0 from fun e => hne.out.2.2.1 e.symm) E6.out)
      obtain ⟨p7, s7, HR7, hs7⟩ : ∃ (p7 : Rp) (s7 : Fo), Hid (RfB w W W7 X B0 p7 s7) ∧ Hid (({ s7 with many := ((s.d.fail ops).now.length : Int) } : Fo) = s.power ops keep) := by
        rw [← hW7.out]
        refine ⟨_, _, h, ?_⟩
        show _ = _
        unfold Fo.power Fo.failN
        rw [← hs2.out, ← rfail_eq Hok.out, ← hfs5.out, ← hmd.out, ← hs2.out, ← hcl.out, ← hm.out, hnow2.out]
      clear h ht c0 c1 c2 c3 c4 c5 c6 cf
      go_wp2_with (first
        | (refine wpList_load_row rfl 36 (.tmp 3) rfl B0 rfl _ _ _ _ HR7.out.box Tryz.underlying36 rfl size_rf ?_)
        | (refine wpList_store_row rfl 36 (.tmp 6) (.tmp 55) rfl B1 _ rfl rfl _ _ E7.out size_rf rfl (p7.sev s7).one ?_))
      have HR8 := HR7.out.touch (w2 := W7.setRow B1 (p7.cs s7)) ((Touch.row1 W7 B1 (p7.cs s7)).mono fun b _ e => by have := hne.out; exact ⟨by omega, by omega, by omega⟩)
      refine ret_rf rfl B1 (p7.cs s7) rfl _ (0, 0) rfl (setRow_heap _ _ _ _ _ _ E7.out) rfl ⟨_, rfl, HR8.bel, ?_⟩
      rw [← hs7.out]
      exact HR8.fin.many _
end Go.Proofs.YtbhmnmmockmibaaGreat

namespace Go.Proofs.YtbhmnmmockmibaaGreat
open Go.RowKit
theorem exec_atAct {w : World} {b : Act} {o : Oper} {x y : Operand} {ad : Addr} {n c k : Nat} (ho : o.op = .indexAddr 22 x y) (h : b.eval x = .slice (some ad) n c) (h' : b.eval y = .int .i64 (k : Int)) (hk : k < n) : (execOp b.eval o).run Tryz.prog w = .ok (.value (.pointer (some (ad.add (k * 6))))) w := by
  have hk' : (k : Int) < n := by omega
  unfold execOp
  simp only [ho, h, h']
  go_simp
theorem exec_actF0 {w : World} {b : Act} {o : Oper} {x : Operand} {a : Addr} (ho : o.op = .fieldAddr 43 x 0) (h : b.eval x = .pointer (some a)) : (execOp b.eval o).run Tryz.prog w = .ok (.value (.pointer (some a))) w := by
  unfold execOp
  simp only [ho, h]
  go_simp
theorem exec_actF1 {w : World} {b : Act} {o : Oper} {x : Operand} {a : Addr} (ho : o.op = .fieldAddr 43 x 1) (h : b.eval x = .pointer (some a)) : (execOp b.eval o).run Tryz.prog w = .ok (.value (.pointer (some ⟨a.block, a.off + 4, none⟩))) w := by
  unfold execOp
  simp only [ho, h]
  go_simp
theorem exec_actF2 {w : World} {b : Act} {o : Oper} {x : Operand} {a : Addr} (ho : o.op = .fieldAddr 43 x 2) (h : b.eval x = .pointer (some a)) : (execOp b.eval o).run Tryz.prog w = .ok (.value (.pointer (some ⟨a.block, a.off + 5, none⟩))) w := by
  unfold execOp
  simp only [ho, h]
  go_simp
theorem exec_loadI10 {w : World} {b : Act} {o : Oper} {x : Operand} {a : Addr} {u : Value} (ho : o.op = .load 3 x) (h : b.eval x = .pointer (some a)) (hc : w.cell? a = some u) : (execOp b.eval o).run Tryz.prog w = .ok (.value u) w := by
  unfold execOp
  simp only [ho, h]
  go_simp
theorem exec_loadK10 {w : World} {b : Act} {o : Oper} {x : Operand} {a : Addr} {u : Value} (ho : o.op = .load 41 x) (h : b.eval x = .pointer (some a)) (hc : w.cell? a = some u) : (execOp b.eval o).run Tryz.prog w = .ok (.value u) w := by
  unfold execOp
  simp only [ho, h]
  go_simp
theorem enter_rpower (w : World) (args : Array Value) : (callFunc 11 args).run Tryz.prog w = .ok (.enter 11 args) w := by kernel_rfl
structure S10 (W : World) (X : Nat → Prop) (R0 : Nat) (sp : Fo) (i1 i2 td : Nat) (L : Array Bool) (Y : Nat → Prop) (tm : Nat → Value) (w : World) : Prop where
  a : L.getD i2 false = false → Below W.heap.size W w
  b : L.getD i1 false = true → L.getD i2 false = false → ∃ cs', tm td = .agg cs' ∧ Sev cs' ∧ RefF w X (.agg cs') sp
  c : L.getD i2 false = true → ∃ cs' w0, Below W.heap.size W w0 ∧ RefF w0 X (.agg cs') sp ∧ w = w0.setRow R0 cs' ∧ Sev cs'
section
variable {W w w' : World} {X Y : Nat → Prop} {R0 i1 i2 td : Nat} {sp s : Fo} {L L' : Array Bool} {tm tm' : Nat → Value} {cs : Array Value}
theorem S10.congr (h : S10 W X R0 sp i1 i2 td L Y tm w) (h1 : ∀ j ∈ [i1, i2], L'.getD j false = L.getD j false) (h2 : ∀ j ∈ [td], tm' j = tm j) : S10 W X R0 sp i1 i2 td L' Y tm' w := by
  have e1 := h1 i1 (by simp)
  have e2 := h1 i2 (by simp)
  have e3 := h2 td (by simp)
  exact ⟨fun h' => h.a (e2.symm.trans h'), fun h' h'' => by rw [e3]; exact h.b (e1.symm.trans h') (e2.symm.trans h''), fun h' => h.c (e2.symm.trans h')⟩
theorem S10.cell (h : S10 W X R0 sp i1 i2 td L Y tm w) {p : Addr} (hp : p.block < W.heap.size) (hne : p.block ≠ R0) : w.cell? p = W.cell? p := by
  cases hl : L.getD i2 false with
  | false => exact (h.a hl).cell hp
  | true =>
    obtain ⟨cs', w0, h1, _, rfl, _⟩ := h.c hl
    rw [(Touch.row1 w0 R0 cs').cell (Nat.lt_of_lt_of_le hp h1.size) hne]
    exact h1.cell hp
variable {Q : Exit → Act → World → Prop} {F : Nat → Value → World → Prop} {nt : Nat} {ops : List Oper} {a : Act} {i : Nat} {o : Oper} {N : Nat}
theorem S10.off {b : Act} {d : Nat} {u : Value} (h : S10 W X R0 sp i1 i2 td L Y (sl b) w) (hz : i ∉ [i1, i2]) (hsz : b.tmps.size = nt) (hdn : d < nt) (hd : d ∉ [td]) : S10 W X R0 sp i1 i2 td (L.setIfInBounds i true) Y (sl (b.put (some d) u)) w :=
  h.congr (offL hz) (offT hsz hdn hd)
theorem OpFu.pow10 {x y z : Operand} {ops' : Int} {Ak : Option Addr} {nk ck B : Nat} {keep : List Bool} (hi : i = i1) (h12 : i1 ≠ i2) (hd : o.dst = some td) (hdn : td < nt) (hil : i < ops.length) (hgd : o.guard = none)
    (ho : o.op = .call { callee := .value (.func 11), args := #[x, y, z], argTypes := #[36, 3, 41] })
    (hx : ∀ (b : Act) (w : World), (∀ e ∈ o.after.toList, Region.binds .any e = true → ∀ oj d, ops[e.on]? = some oj → oj.dst = some d → F e.on (b.tmps.getD d undef) w) → b.eval x = .agg cs ∧ b.eval y = .int .i64 ops' ∧ b.eval z = .slice Ak nk ck)
    (hlater : ∀ L : Array Bool, Closed ops L → L.getD i false = false → L.getD i2 false = false)
    (hX : ∀ b, X b → b < W.heap.size) (hr : RefF W X (.agg cs) s) (hok : s.Ok N) (hN : N ≤ 880) (ho1 : -9223372036854775808 ≤ ops') (ho2 : ops' ≤ 9223372036854775807) (hnk : keep.length = nk) (hnk2 : nk ≤ 1000) (hB : B ≤ W.heap.size) (hkr : Reads W B 1 Ak nk (kc keep))
    (hK : ∀ j u w w', Below w.heap.size w w' → F j u w → F j u w') (hF : ∀ u w, F i u w) : OpFu Tryz.prog Q F (KX (S10 W X R0 (s.power ops' keep) i1 i2 td) []) nt ops a i o := by
  subst hi
  refine OpFu.stepS hd hdn (fun e he => by simp at he) (fun e he => by simp at he) fun L b w Y hL hcl hni hdep hsm hsz hS hg => ⟨by simp [Region.wanted, hgd], ?_⟩
  have hl2 := hlater L hcl hni
  have hbW := hS.a hl2
  obtain ⟨ex, ey, ez⟩ := hx b w hg
  unfold Oper.wp
  rw [exec_call3 (enter_rpower _) ho ex ey ez, Oper.upon_enter]
  have hr' : RefF w X (.agg cs) s := (hr.high hbW).mono fun b _ e => .inl e
  refine (rpower_any hr' hok hN ho1 ho2 hnk hnk2 (Nat.le_trans hB hbW.size) (Reads.below hkr (hbW.mono hB))).mono ?_
  rintro e w' ⟨u, rfl, hb, hu⟩
  obtain ⟨cs', rfl, hsv⟩ := hu.agg
  have hoff : (L.setIfInBounds i true).getD i2 false = L.getD i2 false := by rw [getD_set (by omega), decide_eq_false h12, Bool.false_or]
  refine ⟨_, rfl, ⟨fun _ => hbW.trans (hb.mono hbW.size), fun _ _ => ⟨cs', by rw [hd]; exact sl_here (by omega), hsv, hu.mono fun b _ e => ⟨Nat.lt_of_lt_of_le (hX b e) hbW.size, e⟩⟩, fun h => ?_⟩, hF _ _, fun j u hj => hK j u _ _ hb hj, hb.size, fun k _ hk => hb.block k hk⟩
  rw [hoff, hl2] at h
  cases h
theorem OpFu.st10 {tp : Nat} (hi : i = i2) (h12 : i1 ≠ i2) (hd : o.dst = none) (hgd : o.guard = none) (hil : i < ops.length) (ho : o.op = .store 36 (.tmp tp) (.tmp td))
    (htp : ∀ b : Act, (∀ t, isDst ops t = false → b.tmps.getD t undef = a.tmps.getD t undef) → b.eval (.tmp tp) = .pointer (some ⟨R0, 0, none⟩)) (hK : ∀ j u w g xs, F j u w → F j u (w.setRow g xs))
    (hl : ∀ L : Array Bool, (∀ e ∈ o.after.toList, Region.binds .any e = true → L.getD e.on false = true) → L.getD i1 false = true)
    (hbox : W.heap[R0]? = some (.cells cs 36 (0, 0))) (hcs : Sev cs) : OpFu Tryz.prog Q F (KX (S10 W X R0 sp i1 i2 td) []) nt ops a i o := by
  subst hi
  intro L b w hL hlt _ hni hdep hsm _ ⟨Y, hC⟩ hg
  refine ⟨by simp [Region.wanted, hgd], ?_⟩
  have hbW := hC.st.a hni
  obtain ⟨cs', hv, hsv, hr⟩ := hC.st.b (hl L hdep) hni
  refine wp_store_row 36 (.tmp tp) (.tmp td) ho R0 cs' (htp b hsm) hv 36 cs ((hbW.block _ (Array.getElem?_eq_some_iff.1 hbox).1).trans hbox) (by rw [hsv.n]; exact size_rf) (by rw [hsv.n, hcs.n]) hsv.one ?_
  have eb : ∀ u, b.put o.dst u = b := by rw [hd]; intro u; rfl
  have hhere : (L.setIfInBounds i true).getD i false = true := by rw [getD_set (by omega), decide_eq_true rfl, Bool.true_or]
  refine ⟨undef, rfl, ⟨Y, ⟨fun h => ?_, fun _ h => ?_, fun _ => ⟨cs', w, hbW, hr, rfl, hsv⟩⟩, fun e he => (by simp at he), fun e he => (by simp at he)⟩, fun hsome => (by rw [hd] at hsome; cases hsome), fun j u hj => hK j u _ _ _ hj⟩
  · rw [hhere] at h; cases h
  · rw [hhere] at h; cases h
end
def F10 (cs : Array Value) (ad : Addr) (n c k : Nat) (o : Int) (Ak : Option Addr) (nk ck : Nat) : Nat → Value → World → Prop
  | 0, v, _ => v = .agg cs
  | 1, v, _ => v = .slice (some ad) n c
  | 2, v, _ => v = .int .i64 (k : Int)
  | 3, v, _ => v = .pointer (some (ad.add (k * 6)))
  | 4, v, _ => v = .pointer (some ⟨(ad.add (k * 6)).block, (ad.add (k * 6)).off + 4, none⟩)
  | 5, v, _ => v = .int .i64 o
  | 6, v, _ => v = .slice (some ad) n c
  | 7, v, _ => v = .int .i64 (k : Int)
  | 8, v, _ => v = .pointer (some (ad.add (k * 6)))
  | 9, v, _ => v = .pointer (some ⟨(ad.add (k * 6)).block, (ad.add (k * 6)).off + 5, none⟩)
  | 10, v, _ => v = .slice Ak nk ck
  | _, _, _ => True
theorem F10.keep {cs : Array Value} {ad : Addr} {n c k : Nat} {o : Int} {Ak : Option Addr} {nk ck : Nat} : ∀ i u w w', F10 cs ad n c k o Ak nk ck i u w → F10 cs ad n c k o Ak nk ck i u w'
  | 0, _, _, _, h | 1, _, _, _, h | 2, _, _, _, h | 3, _, _, _, h | 4, _, _, _, h | 5, _, _, _, h | 6, _, _, _, h | 7, _, _, _, h | 8, _, _, _, h | 9, _, _, _, h | 10, _, _, _, h => h
  | _ + 11, _, _, _, _ => trivial
end Go.Proofs.YtbhmnmmockmibaaGreat

namespace Go.Proofs.YtbhmnmmockmibaaGreat
open Go.RowKit Go.Maps
theorem own_spoil {w : World} {base n size : Nat} {e : TypeId} {v : Value} {xs : List Value} (h : w.ownsRow base e size v n xs) {i : Nat} (hi : i < xs.length) :
    ∃ g cap, v = .slice (some ⟨g, 0, none⟩) n cap ∧ base ≤ g ∧ g < w.heap.size ∧ (∀ q, w.frozen? ⟨g, q, none⟩ = false) ∧ w.cell? ⟨g, i, none⟩ = xs[i]? ∧ ∀ u, (w.setCell ⟨g, i, none⟩ u).ownsRow base e size v n (xs.set i u) := by
  have hc : ∀ g cap, v = .slice (some ⟨g, 0, none⟩) n cap → w.cell? ⟨g, i, none⟩ = xs[i]? := fun g cap hv => World.ownsRow.cellAt (by rw [hv] at h; exact h) i (by rw [← h.1]; exact hi)
  rcases h.2 with ⟨rfl, rfl⟩ | ⟨g, cap, cur, rfl, hb, hg, h1, h2, h3, h4⟩
  · have := h.1
    omega
  · refine ⟨g, cap, rfl, hb, (Array.getElem?_eq_some_iff.1 hg).1, fun q => d_frozen hg, hc g cap rfl, fun u => ?_⟩
    refine ⟨by rw [List.length_set]; exact h.1, .inr ⟨g, cap, cur.setIfInBounds i u, rfl, hb, heap_setCell_same w g i _ _ u hg, h1, h2, by rw [Array.size_setIfInBounds]; exact h3, ?_⟩⟩
    rw [Array.toList_setIfInBounds, List.take_set, h4]
structure FlS (ty : TypeId) (base : Nat) (w : World) (v : Value) (es : List Fv) : Prop where
  head : ∃ hs, w.ownsRow base ty 2 v es.length hs ∧ ∀ (i : Nat) (e : Fv), es[i]? = some e → hs[i * 2 + 1]? = some (.slice e.A e.l.length e.c)
  row : ∀ (i : Nat) (e : Fv), es[i]? = some e → ∃ rs, w.ownsRow base 5 1 e.r e.l.length rs
  apart : ∀ e ∈ es, ∀ b, e.r.ownBlock = some b → v.ownBlock ≠ some b
  dist : es.Pairwise fun a b => ∀ k, a.r.ownBlock = some k → b.r.ownBlock ≠ some k
section
variable {ty : TypeId} {base : Nat} {w w' : World} {v : Value} {es : List Fv}
theorem FlO.spoil (h : FlO ty base w v es) : FlS ty base w v es :=
  ⟨⟨_, h.head, fun _ _ he => (flcells_get he).2⟩, fun _ e he => ⟨_, h.row e (List.mem_of_getElem? he)⟩, h.apart, h.dist⟩
theorem FlS.below (h : FlS ty base w v es) (hb : Below w.heap.size w w') : FlS ty base w' v es := by
  obtain ⟨hs, h1, h2⟩ := h.head
  refine ⟨⟨hs, own_below h1 hb (Nat.le_refl _), h2⟩, fun i e he => ?_, h.apart, h.dist⟩
  obtain ⟨rs, h3⟩ := h.row i e he
  exact ⟨rs, own_below h3 hb (Nat.le_refl _)⟩
theorem FlS.name (h : FlS ty base w v es) {i : Nat} {e : Fv} (hi : es[i]? = some e) :
    ∃ g cap, v = .slice (some ⟨g, 0, none⟩) es.length cap ∧ base ≤ g ∧ (∀ q, w.frozen? ⟨g, q, none⟩ = false) ∧ (∃ u, w.cell? ⟨g, i * 2, none⟩ = some u) ∧ w.cell? ⟨g, i * 2 + 1, none⟩ = some (.slice e.A e.l.length e.c) ∧ ∀ u, FlS ty base (w.setCell ⟨g, i * 2, none⟩ u) v es := by
  have hil := (List.getElem?_eq_some_iff.1 hi).1
  obtain ⟨hs, h1, h2⟩ := h.head
  have hl : hs.length = es.length * 2 := h1.1
  obtain ⟨g, cap, rfl, hb, hlt, hf, hc, hset⟩ := own_spoil h1 (i := i * 2) (by omega)
  refine ⟨g, cap, rfl, hb, hf, ⟨hs[i * 2]'(by omega), by rw [hc, List.getElem?_eq_getElem]⟩, ?_, fun u => ?_⟩
  · rw [World.ownsRow.cellAt h1 (i * 2 + 1) (by omega)]
    exact h2 i e hi
  · refine ⟨⟨_, hset u, fun j x hx => ?_⟩, fun j x hx => ?_, h.apart, h.dist⟩
    · rw [List.getElem?_set_ne (by omega)]
      exact h2 j x hx
    · obtain ⟨rs, h3⟩ := h.row j x hx
      exact ⟨rs, own_setCell h3 (fun e1 => h.apart x (List.mem_of_getElem? hx) g e1 rfl) u⟩
theorem FlS.byte (h : FlS ty base w v es) {i k : Nat} {e : Fv} (hi : es[i]? = some e) (hk : k < e.l.length) :
    ∃ g, e.A = some ⟨g, 0, none⟩ ∧ base ≤ g ∧ (∀ q, w.frozen? ⟨g, q, none⟩ = false) ∧ (∃ u, w.cell? ⟨g, k, none⟩ = some u) ∧ ∀ u, FlS ty base (w.setCell ⟨g, k, none⟩ u) v es := by
  obtain ⟨rs, h3⟩ := h.row i e hi
  have hl : rs.length = e.l.length * 1 := h3.1
  obtain ⟨g, cap, hv, hb, hlt, hf, hc, hset⟩ := own_spoil h3 (i := k) (by omega)
  have hA : e.A = some ⟨g, 0, none⟩ := by
    unfold Fv.r at hv
    injection hv
  have hbk : e.r.ownBlock = some g := by rw [hv]; rfl
  refine ⟨g, hA, hb, hf, ⟨rs[k]'(by omega), by rw [hc, List.getElem?_eq_getElem]⟩, fun u => ?_⟩
  obtain ⟨hs, h1, h2⟩ := h.head
  refine ⟨⟨hs, own_setCell h1 (h.apart e (List.mem_of_getElem? hi) g hbk) u, h2⟩, fun j x hx => ?_, h.apart, h.dist⟩
  by_cases hj : j = i
  · subst hj
    rw [hi] at hx
    injection hx with hx
    subst hx
    exact ⟨_, hset u⟩
  · obtain ⟨rs', h4⟩ := h.row j x hx
    refine ⟨rs', own_setCell h4 (fun e1 => ?_) u⟩
    have hd := h.dist
    rw [List.pairwise_iff_getElem] at hd
    obtain ⟨l1, q1⟩ := List.getElem?_eq_some_iff.1 hi
    obtain ⟨l2, q2⟩ := List.getElem?_eq_some_iff.1 hx
    have e1 : x.r.ownBlock = some g := e1
    rcases Nat.lt_or_gt_of_ne hj with hlt' | hgt
    · have := hd j i l2 l1 hlt' g (by rw [q2]; exact e1)
      rw [q1] at this
      exact this hbk
    · have := hd i j l1 l2 hgt g (by rw [q1]; exact hbk)
      rw [q2] at this
      exact this e1
end
end Go.Proofs.YtbhmnmmockmibaaGreat
