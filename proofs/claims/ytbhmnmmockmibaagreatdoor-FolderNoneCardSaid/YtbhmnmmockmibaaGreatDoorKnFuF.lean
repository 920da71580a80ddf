/- The walks of the reference's Used, Volatile, Bytes. Conditions: at most 1000 files, parts of at most 100000 bytes. The walk of the reference's Append. Conditions: at most 1000 files, parts of at most 100000 bytes. The walk of the reference's Make. Conditions: at most 1000 files. -/
import Derived.Test.YtbhmnmmockmibaaGreatDoorKnFuC
import Derived.Deep.RegionHeld3
import Derived.BigQuiet
namespace Go.Proofs.YtbhmnmmockmibaaGreatDoor
open Go.RowKit
def sumR (μ : Rm → Nat) (M : List Rm) : Nat := (M.map μ).sum
theorem sumR_snoc {μ : Rm → Nat} {M : List Rm} {k : Nat} {x : Rm} (h : Hid (M[k]? = some x)) : sumR μ (M.take (k + 1)) = sumR μ (M.take k) + μ x := by
  unfold sumR
  rw [take_snoc h, List.map_append, List.sum_append]
  simp
theorem sumR_le {μ : Rm → Nat} {K : Nat} : ∀ {M : List Rm}, (∀ x ∈ M, μ x ≤ K) → sumR μ M ≤ M.length * K
  | [], _ => by simp [sumR]
  | x :: M, h => by
    have h1 := sumR_le (M := M) fun y hy => h y (List.mem_cons_of_mem _ hy)
    have h2 := h x (List.mem_cons_self ..)
    unfold sumR at h1 ⊢
    rw [List.map_cons, List.sum_cons, List.length_cons, Nat.succ_mul]
    omega
def usedR : List Rm → Nat := sumR fun x => (contM x.m).length
theorem sumR_take {μ : Rm → Nat} {K k : Nat} {M : List Rm} (hl : M.length ≤ 1000) (h : ∀ x ∈ M, μ x ≤ K) : sumR μ (M.take k) ≤ 1000 * K := by
  refine Nat.le_trans (sumR_le fun x hx => h x (List.mem_of_mem_take hx)) (Nat.mul_le_mul_right K ?_)
  rw [List.length_take]
  omega
theorem rbytes_n {X : Nat → Prop} {A : Option Addr} {c n : Nat} {ps : List Pa} {w : World} (hn : ps.length = n) (hs : SmM (says ps)) (hr : PsX w X A ps) :
    Calls Tryz.prog 112 #[.agg #[.slice A n c]] w fun e w' => ∃ A' c' n', e = .returned (.slice A' n' c') ∧ n' = (contM (says ps)).length ∧ w'.ownsRow w.heap.size 5 1 (.slice A' n' c') n' (bs (contM (says ps))) ∧ Below w.heap.size w w' := by
  subst hn
  refine (rbytes_any A c ps w hs hr).mono ?_
  rintro e w' ⟨v, rfl, ho, hb⟩
  obtain ⟨A', c', rfl, _⟩ := own_form ho
  exact ⟨A', c', _, rfl, rfl, ho, hb⟩
theorem one_heap (w : World) {W : World} {g0 : Nat} {a b c : Value} (hW : w.alloc (.cells #[a, b, c] 81) = W) (h0 : w.heap.size = g0) : W.heap[g0]? = some (.cells #[a, b, c] 81 (0, 0)) ∧ Below w.heap.size w W ∧ w.heap.size ≤ W.heap.size := by
  subst hW h0
  exact ⟨heap_alloc_new _ _, below_new _ _, by simp⟩
set_option maxHeartbeats 1000000 in
set_option maxRecDepth 100000 in
theorem rused_any {X : Nat → Prop} {v : Value} {M : List Rm} {q l : Int} {w : World} (hl : M.length ≤ 1000) (hs : ∀ x ∈ M, SmM x.m) (hr : RefT w X v M q l) :
    Calls Tryz.prog 83 #[v] w fun e w' => e = .returned (.int .i64 ((usedR M : Nat) : Int)) ∧ Below w.heap.size w w' := by
  obtain ⟨A, c, es, rfl, h1, rfl⟩ := hr
  have hle := Lib.hid fun k => sumR_take (μ := fun x => (contM x.m).length) (K := 100000000) (k := k) hl fun x hx => contM_le' (hs x hx)
  rw [List.length_map] at hl
  obtain ⟨nl, hnl⟩ : ∃ n, Hid (es.length = n) := ⟨_, rfl⟩
  have hl2 : (nl : Int) ≤ 1000 := by have := hnl.out; omega
  have Hs := Lib.hid hs
  rw [hnl.out]
  obtain ⟨W, hW⟩ : ∃ W, Hid (w.alloc (.cells #[.slice A nl c, .int .i64 q, .int .i64 l] 81) = W) := ⟨_, rfl⟩
  obtain ⟨g0, hg0⟩ : ∃ g, Hid (w.heap.size = g) := ⟨_, rfl⟩
  obtain ⟨hc0, hb0, hsz⟩ := one_heap w hW.out hg0.out
  have Hr := Lib.hid (h1.below hb0)
  have Hc0 := Lib.hid hc0
  have Hb0 := Lib.hid hb0
  clear h1 hl hs hc0 hb0
  go_enter Tryz.func83, Tryz.ntmps83
  go_wp2
  rw [hW.out, hg0.out]
  go_loopw [3, 4] (fun s i wr => ∃ (k T : Nat), k ≤ nl ∧ i = .int .i64 (k : Int) ∧ s = .int .i64 (T : Int) ∧ Hid (T = usedR ((es.map Rv.m).take k)) ∧ Hid (Below W.heap.size W wr)) (fun _ i _ => nl - (intOf i).toNat)
  case atStart => exact ⟨0, 0, by omega, rfl, rfl, by exact rfl, Below.refl _ _⟩
  case round =>
    obtain ⟨k, T, hk, rfl, rfl, hT, hw⟩ := hrel
    have hTI : (T : Int) ≤ 100000000000 := by have h := hle.out k; have h2 := hT.out; unfold usedR at h2; omega
    have c0 := three_cell ((hw.out.block _ (Array.getElem?_eq_some_iff.1 Hc0.out).1).trans Hc0.out)
    by_cases hlt : k < nl
    · obtain ⟨ad, x, rfl, hab, hax, d0, d1, d2, hx, hps⟩ := (Hr.out.below hw.out).at_ (k := k) (by rw [hnl.out]; exact hlt)
      obtain ⟨xi, xn, xA, xc, xps⟩ := x
      obtain ⟨np, hnp⟩ : ∃ n, Hid (xps.length = n) := ⟨_, rfl⟩
      simp only [hnp.out] at d0 d1 d2
      have Hps := Lib.hid hps
      have hsm := Lib.hid (Hs.out _ (mem_of_get (Rm_get hx.out)))
      have hcl : (contM (says xps)).length ≤ 100000000 := contM_le' hsm.out
      have hsn : Hid (usedR ((es.map Rv.m).take (k + 1)) = usedR ((es.map Rv.m).take k) + (contM (says xps)).length) := sumR_snoc (Lib.hid (Rm_get hx.out))
      clear hps
      go_wp2_with (go_at_call 112; refine (rbytes_n hnp.out hsm.out Hps.out).mono ?_; rintro e w1 ⟨A', c', n', rfl, hn', _, hb1⟩; have hn1 : (n' : Int) ≤ 100000000 := (by omega); have Hb1 := Lib.hid (hw.out.trans (hb1.mono hw.out.size)); have Hn := Lib.hid hn'; clear hb1 hn' hcl)
      go_roundw
      case rel => exact ⟨k + 1, T + n', by omega, by go_num, by go_num, by show _ = _; rw [hsn.out, ← hT.out, Hn.out], Hb1.out⟩
      case measure => simp [intOf]; omega
    · have hkk : k = nl := by omega
      go_wp2
      go_ret
      refine ⟨?_, (hW.out ▸ below_new _ _ : Below w.heap.size w W).trans (hw.out.mono hsz)⟩
      have hT2 := hT.out
      rw [hkk, ← hnl.out, ← List.length_map (f := Rv.m), List.take_length] at hT2
      show Ending.returned (.int .i64 (T : Int)) = _
      rw [hT2]
set_option maxHeartbeats 1000000 in
set_option maxRecDepth 100000 in
theorem rbytesT_any {X : Nat → Prop} {v : Value} {M : List Rm} {q l z : Int} {w : World} (hl : M.length ≤ 1000) (hs : ∀ x ∈ M, SmM x.m) (hr : RefT w X v M q l) :
    Calls Tryz.prog 76 #[v, .int .i64 z] w fun e w' => ∃ A' c' n' er, e = .returned (.tuple #[.slice A' n' c', .int .i64 er]) ∧ Below w.heap.size w w' ∧ ((er = 80 ∧ (∀ x ∈ M, x.i ≠ z) ∧ n' = 0) ∨ (er = 0 ∧ ∃ (k : Nat) (x : Rm), M[k]? = some x ∧ x.i = z ∧ n' = (contM x.m).length ∧ w'.ownsRow w.heap.size 5 1 (.slice A' n' c') n' (bs (contM x.m)))) := by
  obtain ⟨A, c, es, rfl, h1, rfl⟩ := hr
  rw [List.length_map] at hl
  obtain ⟨nl, hnl⟩ : ∃ n, Hid (es.length = n) := ⟨_, rfl⟩
  have hl2 : Hid (nl ≤ 1000) := by rw [← hnl.out]; exact hl
  have Hs := Lib.hid hs
  rw [hnl.out]
  obtain ⟨W, hW⟩ : ∃ W, Hid (w.alloc (.cells #[.slice A nl c, .int .i64 q, .int .i64 l] 81) = W) := ⟨_, rfl⟩
  obtain ⟨g0, hg0⟩ : ∃ g, Hid (w.heap.size = g) := ⟨_, rfl⟩
  obtain ⟨hc0, hb0, hsz⟩ := one_heap w hW.out hg0.out
  have Hr := Lib.hid (h1.below hb0)
  have Hb0 := Lib.hid hb0
  have c0 := three_cell hc0
  clear h1 hl hs hb0
  go_enter Tryz.func76, Tryz.ntmps76
  go_upto_region 1 with fail
  rw [hW.out, hg0.out]
  go_upto_region 2 with (go_at_call 107; refine (rfind_n hnl.out hl2.out Hr.out).mono ?_; rintro e w1 ⟨r, rfl, hb1, hcase⟩)
  have Hb1 := Lib.hid hb1
  have k0 := three_cell ((hb1.block _ (Array.getElem?_eq_some_iff.1 hc0).1).trans hc0)
  clear c0 hb1 hc0
  rcases hcase with ⟨rfl, hno⟩ | ⟨k, x, rfl, hx, hi⟩
  · go_wp2
    go_ret2
    exact ⟨_, _, _, _, rfl, Hb0.out.trans (Hb1.out.mono hsz), .inl ⟨rfl, ne_of_all hno, rfl⟩⟩
  · have hkn : k < nl := by rw [← hnl.out]; exact (List.getElem?_eq_some_iff.1 hx).1
    obtain ⟨ad, x', rfl, hab, hax, d0, d1, d2, hx', hps⟩ := (Hr.out.below Hb1.out).at_ (k := k) (by rw [hnl.out]; exact hkn)
    obtain rfl : x' = x := Option.some.inj (hx'.out.symm.trans hx)
    obtain ⟨xi, xn, xA, xc, xps⟩ := x'
    obtain ⟨np, hnp⟩ : ∃ n, Hid (xps.length = n) := ⟨_, rfl⟩
    simp only [hnp.out] at d0 d1 d2 hps hi
    have Hx := Lib.hid hx
    have Hps := Lib.hid hps
    have hsm := Lib.hid (Hs.out _ (mem_of_get (Rm_get hx)))
    clear hx' hx hps hW
    go_wp2_with (go_at_call 112; refine (rbytes_n hnp.out hsm.out Hps.out).mono ?_; rintro e w2 ⟨A', c', n', rfl, hn', ho2, hb2⟩; have Hn := Lib.hid hn'; have Ho := Lib.hid ho2; have Hb2 := Lib.hid hb2; clear hn' ho2 hb2)
    go_ret2
    exact ⟨_, _, _, _, rfl, (Hb0.out.trans (Hb1.out.mono hsz)).trans (Hb2.out.mono (Nat.le_trans hsz Hb1.out.size)), .inr ⟨rfl, k, _, Rm_get Hx.out, hi, Hn.out, own_mono Ho.out (Nat.le_trans hsz Hb1.out.size)⟩⟩
end Go.Proofs.YtbhmnmmockmibaaGreatDoor

namespace Go.Proofs.YtbhmnmmockmibaaGreatDoor
open Go.RowKit
theorem rused_n {X : Nat → Prop} {A : Option Addr} {c n T : Nat} {es : List Rv} {q l : Int} {w : World} (hn : es.length = n) (hl : n ≤ 1000) (hs : ∀ x ∈ es.map Rv.m, SmM x.m) (hr : RtX w X A es) (hT : usedR (es.map Rv.m) = T) :
    Calls Tryz.prog 83 #[.agg #[.slice A n c, .int .i64 q, .int .i64 l]] w fun e w' => e = .returned (.int .i64 (T : Int)) ∧ Below w.heap.size w w' := by
  subst hn hT
  exact rused_any (by rw [List.length_map]; exact hl) hs ⟨A, c, es, rfl, hr, rfl⟩
theorem rapp_n {X : Nat → Prop} {A Ab : Option Addr} {c cb B n m : Nat} {ps : List Pa} {bl : List UInt8} {w : World} (hn : ps.length = n) (hs : SmM (says ps)) (hr : PsX w X A ps) (hm : bl.length = m) (hl0 : m ≤ 100000) (hB : B ≤ w.heap.size) (hb : RdB w B Ab bl) :
    Calls Tryz.prog 108 #[.agg #[.slice A n c], .slice Ab m cb] w fun e w' => ∃ A' c' n' ps', e = .returned (.agg #[.slice A' n' c']) ∧ Below w.heap.size w w' ∧ List.length ps' = n' ∧ PsX w' (XW w) A' ps' ∧ says ps' = appM (says ps) bl := by
  subst hn hm
  refine (rapp_any hs hr hl0 hB hb).mono ?_
  rintro e w' ⟨v, rfl, hb, A', c', ps', rfl, _, hp, hm⟩
  exact ⟨A', c', _, ps', rfl, hb, rfl, hp, hm⟩
set_option maxHeartbeats 2000000 in
set_option maxRecDepth 100000 in
theorem rappT_any {X : Nat → Prop} {v : Value} {M : List Rm} {q l z : Int} {w : World} {Ab : Option Addr} {cb B m : Nat} {bl : List UInt8} (hl : M.length ≤ 1000) (hs : ∀ x ∈ M, SmM x.m) (hr : RefT w X v M q l) (hm : bl.length = m) (hm2 : m ≤ 100000) (hB : B ≤ w.heap.size) (hbl : RdB w B Ab bl) :
    Calls Tryz.prog 73 #[v, .int .i64 z, .slice Ab m cb] w fun e w' => ∃ u er, e = .returned (.tuple #[u, .int .i64 er]) ∧ Below w.heap.size w w' ∧ ((er = 80 ∧ (∀ x ∈ M, x.i ≠ z) ∧ RefT w' (AX w X) u M q l) ∨ (er = 90 ∧ (∃ x ∈ M, x.i = z) ∧ 0 < m ∧ q < (usedR M : Int) + m ∧ RefT w' (AX w X) u M q l) ∨ (er = 0 ∧ (m = 0 ∨ (usedR M : Int) + m ≤ q) ∧ ∃ (k : Nat) (x : Rm), M[k]? = some x ∧ x.i = z ∧ RefT w' (AX w X) u (M.set k ⟨x.i, x.n, appM x.m bl⟩) q l)) := by
  obtain ⟨A, c, es, rfl, h1, rfl⟩ := hr
  rw [List.length_map] at hl
  obtain ⟨nl, hnl⟩ : ∃ n, Hid (es.length = n) := ⟨_, rfl⟩
  have hl2 : Hid (nl ≤ 1000) := by rw [← hnl.out]; exact hl
  have Hs := Lib.hid hs
  obtain ⟨T, hT⟩ : ∃ T, Hid (usedR (es.map Rv.m) = T) := ⟨_, rfl⟩
  have hTI : (T : Int) ≤ 100000000000 := by have h := sumR_le (μ := fun x => (contM x.m).length) (K := 100000000) fun x hx => contM_le' (hs x hx); have h2 := hT.out; unfold usedR at h2; rw [List.length_map] at h; have h3 := Nat.mul_le_mul_right 100000000 hl; omega
  have hmI : (m : Int) ≤ 100000 := by omega
  rw [hT.out]
  rw [hnl.out]
  obtain ⟨W, hW⟩ : ∃ W, Hid ((w.alloc (.cells #[.slice A nl c, .int .i64 q, .int .i64 l] 81)).alloc (.cells #[.slice none 0 0, .int .i64 0, .int .i64 0] 81) = W) := ⟨_, rfl⟩
  obtain ⟨g0, hg0⟩ : ∃ g, Hid (w.heap.size = g) := ⟨_, rfl⟩
  obtain ⟨g1, hg1⟩ : ∃ g, Hid (w.heap.size + 1 = g) := ⟨_, rfl⟩
  have HB := Lib.hid (Bx.of hW.out hg0.out hg1.out)
  have Hr := Lib.hid (HB.out.start h1)
  have c0 := three_cell HB.out.c0
  have Hbl : Hid (RdB W B Ab bl) := Reads.below hbl (HB.out.below.mono hB)
  have HB2 : Hid (B ≤ w.heap.size) := hB
  have Hm := Lib.hid hm
  clear h1 hl hs hbl hB hm
  go_enter Tryz.func73, Tryz.ntmps73
  go_upto_region 1 with fail
  rw [hW.out, hg1.out, hg0.out]
  go_upto_region 2 with (go_at_call 107; refine (rfind_n hnl.out hl2.out Hr.out).mono ?_; rintro e w1 ⟨r, rfl, hb1, hcase⟩)
  have Hb1 := Lib.hid hb1
  have k0 := three_cell (HB.out.at0 Hb1.out)
  have k1 := three_cell (HB.out.at1 Hb1.out)
  have k2 := three_frozen (i := 0) (HB.out.at1 Hb1.out)
  have k3 := three_frozen (i := 1) (HB.out.at1 Hb1.out)
  have k4 := three_frozen (i := 2) (HB.out.at1 Hb1.out)
  clear hb1 c0
  rcases hcase with ⟨rfl, hno⟩ | ⟨k, x, rfl, hx, hi⟩
  · go_wp2
    have hz := three_set (.slice A nl c) (.int .i64 q) (.int .i64 l) (HB.out.at1 Hb1.out)
    refine ret_tab2 rfl g1 _ _ _ _ (0, 0) rfl hz rfl ?_
    exact ⟨_, _, rfl, HB.out.fin Hb1.out _ _ _, .inl ⟨rfl, ne_of_all hno, HB.out.ans ⟨A, c, es, by rw [hnl.out], Hr.out.below Hb1.out, rfl⟩ _ _ _⟩⟩
  · have hkn : k < nl := by rw [← hnl.out]; exact (List.getElem?_eq_some_iff.1 hx).1
    have Hx := Lib.hid hx
    have hi0 := Lib.hid hi
    have Hsx := Lib.hid Hs.out
    have HS : Hid (∀ wx, Below W.heap.size W wx → wx.cell? ⟨g0, 0, none⟩ = some (.slice A nl c) ∧ wx.cell? ⟨g0, 1, none⟩ = some (.int .i64 q) ∧ wx.cell? ⟨g0, 2, none⟩ = some (.int .i64 l)) := fun wx hb => three_cell (HB.out.at0 hb)
    have hb1d : Hid (Below W.heap.size W w1.drew) := Hb1.out.drew
    have HRd : Hid (RtX w1.drew (AY w W X) A es) := Hr.out.below hb1d.out
    clear k0 k1 k2 k3 k4 hx hi hW
    obtain ⟨e0, e1, e2⟩ := HS.out _ hb1d.out
    go_upto_region 4 with fail
    by_cases h0 : m = 0
    · subst h0
      have hd0 : decide ((0 : Int) < ((0 : Nat) : Int)) = false := by decide
      go_quiet (fail)
      obtain ⟨wz, hwz⟩ : ∃ wz, Hid (w1.drewN nq = wz) := ⟨_, rfl⟩
      have Hbz : Hid (Below W.heap.size W wz) := by rw [← hwz.out]; exact ⟨Hb1.out.os, Hb1.out.tape, Hb1.out.output, Hb1.out.size, Hb1.out.block⟩
      rw [hwz.out]
      clear hwz e0 e1 e2
      obtain ⟨e0, e1, e2⟩ := HS.out _ Hbz.out
      have HRr := Lib.hid (Hr.out.below Hbz.out)
      obtain ⟨ad, x', hA, hab, hax, d0, d1, d2, hx', hps⟩ := HRr.out.at_ (k := k) (by rw [hnl.out]; exact hkn)
      obtain rfl : x' = x := Option.some.inj (hx'.out.symm.trans Hx.out)
      obtain ⟨xi, xn, xA, xc, xps⟩ := x'
      have hi : xi = z := hi0.out
      obtain ⟨np, hnp⟩ : ∃ n, Hid (xps.length = n) := ⟨_, rfl⟩
      simp only [hnp.out] at d0 d1 d2 hps
      have Hps := Lib.hid hps
      have hsm := Lib.hid (Hs.out _ (mem_of_get (Rm_get Hx.out)))
      obtain ⟨g2, hg2⟩ : ∃ g, Hid (wz.heap.size = g) := ⟨_, rfl⟩
      clear hx' hps
      subst hA
      go_upto_region 7 with fail
      obtain ⟨W2, hW2⟩ : ∃ W', Hid (wz.alloc (.cells #[.int .i64 z, .int .i64 xn, .slice xA np xc] 182) = W') := ⟨_, rfl⟩
      have hb2 : Hid (Below wz.heap.size wz W2) := by rw [← hW2.out]; exact below_new _ _
      have hc2 : Hid (W2.heap[g2]? = some (.cells #[.int .i64 z, .int .i64 xn, .slice xA np xc] 182 (0, 0))) := by rw [← hW2.out, ← hg2.out]; exact heap_alloc_new _ _
      rw [hW2.out, hg2.out]
      have Hps2 := Lib.hid (Hps.out.below hb2.out)
      have d20 := three_cell hc2.out
      have Hbl2 : Hid (RdB W2 B Ab bl) := Reads.below Hbl.out ((Hbz.out.trans (hb2.out.mono Hbz.out.size)).mono (Nat.le_trans HB2.out HB.out.below.size))
      have HB3 : Hid (B ≤ W2.heap.size) := Nat.le_trans (Nat.le_trans (Nat.le_trans HB2.out HB.out.below.size) Hbz.out.size) hb2.out.size
      clear d0 d1 d2 hW2
      go_upto_region 8 with (go_at_call 108; refine (rapp_n hnp.out hsm.out Hps2.out Hm.out hm2 HB3.out Hbl2.out).mono ?_; rintro e w3 ⟨A', c', n', ps', rfl, hb3, hn3, hp3, hm3⟩; have e20 := three_cell ((hb3.block _ (Array.getElem?_eq_some_iff.1 hc2.out).1).trans hc2.out); have f20 := three_frozen (i := 2) ((hb3.block _ (Array.getElem?_eq_some_iff.1 hc2.out).1).trans hc2.out); have Hb3 := Lib.hid hb3; have Hn3 := Lib.hid hn3; have Hp3 := Lib.hid hp3; have Hm3 := Lib.hid hm3; clear hb3 hn3 hp3 hm3)
      obtain ⟨W4, hW4⟩ : ∃ W', Hid (w3.setCell ⟨g2, 2, none⟩ (.slice A' n' c') = W') := ⟨_, rfl⟩
      have hT4 : Hid (Touch (fun j => j = g2) w3 W4) := by rw [← hW4.out]; exact Touch.cell1 _ _ _ _
      have hc3 := (Hb3.out.block _ (Array.getElem?_eq_some_iff.1 hc2.out).1).trans hc2.out
      have hc4 : Hid (W4.heap[g2]? = some (.cells #[.int .i64 z, .int .i64 xn, .slice A' n' c'] 182 (0, 0))) := by rw [← hW4.out]; exact three_set2 _ hc3
      rw [hW4.out]
      have hg2W : g2 < W2.heap.size := (Array.getElem?_eq_some_iff.1 hc2.out).1
      have hb14 : Hid (Below wz.heap.size wz W4) := (hb2.out.trans (Hb3.out.mono hb2.out.size)).trans (hT4.out.below (Nat.le_trans hb2.out.size Hb3.out.size) fun j (e : j = g2) => by rw [e, ← hg2.out]; omega)
      have Hb4 : Hid (Below W.heap.size W W4) := Hbz.out.trans (hb14.out.mono Hbz.out.size)
      have HR4 := Lib.hid (HRr.out.below hb14.out)
      have HP4 : Hid (PsX W4 (AY w W X) A' ps') := (Hp3.out.keep (hT4.out.mono fun j _ (e : j = g2) => by show j < W2.heap.size; omega)).mono fun j _ (e : AY w W X j) => by have := e.1; have := Hbz.out.size; have := hb2.out.size; show j < W2.heap.size; omega
      have m0 := three_cell (HB.out.at0 Hb4.out)
      have m2 := three_cell hc4.out
      clear e20 f20 d20 hW4 hc3
      go_wp2_with (go_at_call 109; refine (rwith_n hnl.out hl2.out HR4.out Hn3.out HP4.out hkn).mono ?_; rintro e w5 ⟨u, rfl, hb5, A5, c5, es5, rfl, hr5, hm5⟩; have Hb5 := Lib.hid (Hb4.out.trans (hb5.mono Hb4.out.size)); have q1 := three_cell (HB.out.at1 Hb5.out); have q2 := three_frozen (i := 0) (HB.out.at1 Hb5.out); have q3 := three_frozen (i := 1) (HB.out.at1 Hb5.out); have q4 := three_frozen (i := 2) (HB.out.at1 Hb5.out); obtain ⟨n5, hn5⟩ : ∃ n, Hid (List.length es5 = n) := ⟨_, rfl⟩; rw [hn5.out]; have Hr5 := Lib.hid hr5; have Hm5 := Lib.hid hm5; clear hb5 hr5 hm5)
      have hz := three_set (.slice A5 n5 c5) (.int .i64 q) (.int .i64 l) (HB.out.at1 Hb5.out)
      refine ret_tab2 rfl g1 _ _ _ _ (0, 0) rfl hz rfl ?_
      refine ⟨_, _, rfl, HB.out.fin Hb5.out _ _ _, .inr ⟨rfl, k, _, ⟨_, Hx.out, rfl⟩, hi, HB.out.ans ⟨A5, c5, es5, by rw [hn5.out], Hr5.out.mono fun j _ (e : AY w W X j) => ⟨by have := e.1; have := Hb4.out.size; omega, e⟩, by rw [Hm5.out, Hm3.out, ← hi]; rfl⟩ _ _ _⟩⟩
    · have h0' : (0 : Int) < (m : Int) := by omega
      have h0n : 0 < m := by omega
      have hwr : IntKind.i64.wrap ((T : Int) + (m : Int)) = (T : Int) + (m : Int) := IntWalk.i64_in _ ⟨by omega, by omega⟩
      go_region_held3 (fun wx => wx.cell? ⟨g0, 0, none⟩ = some (.slice A nl c) ∧ wx.cell? ⟨g0, 1, none⟩ = some (.int .i64 q) ∧ wx.cell? ⟨g0, 2, none⟩ = some (.int .i64 l)) (first | exact HS.out _ Hb2.out | exact HS.out _ hb1d.out) (first | (go_at_call 83; refine (rused_n hnl.out hl2.out Hsx.out HRd.out hT.out).mono ?_; rintro e wz ⟨rfl, hb2⟩; have Hb2 := Lib.hid (hb1d.out.trans (hb2.mono hb1d.out.size)); clear hb2))
      all_goals
        have Hbz := Hb2
        clear e0 e1 e2
        by_cases hqq : q < (T : Int) + (m : Int)
        · have hdq : decide (q < (T : Int) + (m : Int)) = true := decide_eq_true hqq
          obtain ⟨e0, e1, e2⟩ := HS.out _ Hbz.out
          have q1 := three_cell (HB.out.at1 Hbz.out)
          have q2 := three_frozen (i := 0) (HB.out.at1 Hbz.out)
          have q3 := three_frozen (i := 1) (HB.out.at1 Hbz.out)
          have q4 := three_frozen (i := 2) (HB.out.at1 Hbz.out)
          go_wp2
          have hz := three_set (.slice A nl c) (.int .i64 q) (.int .i64 l) (HB.out.at1 Hbz.out)
          refine ret_tab2 rfl g1 _ _ _ _ (0, 0) rfl hz rfl ?_
          exact ⟨_, _, rfl, HB.out.fin Hbz.out _ _ _, .inr (.inl ⟨rfl, ⟨_, mem_of_get (Rm_get Hx.out), hi0.out⟩, h0n, hqq, HB.out.ans ⟨A, c, es, by rw [hnl.out], Hr.out.below Hbz.out, rfl⟩ _ _ _⟩)⟩
        · have hdq : decide (q < (T : Int) + (m : Int)) = false := decide_eq_false hqq
          have hfin : Hid (m = 0 ∨ (T : Int) + (m : Int) ≤ q) := .inr (by omega)
          obtain ⟨e0, e1, e2⟩ := HS.out _ Hbz.out
          have HRr := Lib.hid (Hr.out.below Hbz.out)
          obtain ⟨ad, x', hA, hab, hax, d0, d1, d2, hx', hps⟩ := HRr.out.at_ (k := k) (by rw [hnl.out]; exact hkn)
          obtain rfl : x' = x := Option.some.inj (hx'.out.symm.trans Hx.out)
          obtain ⟨xi, xn, xA, xc, xps⟩ := x'
          have hi : xi = z := hi0.out
          obtain ⟨np, hnp⟩ : ∃ n, Hid (xps.length = n) := ⟨_, rfl⟩
          simp only [hnp.out] at d0 d1 d2 hps
          have Hps := Lib.hid hps
          have hsm := Lib.hid (Hs.out _ (mem_of_get (Rm_get Hx.out)))
          obtain ⟨g2, hg2⟩ : ∃ g, Hid (wz.heap.size = g) := ⟨_, rfl⟩
          clear hx' hps
          subst hA
          go_upto_region 7 with fail
          obtain ⟨W2, hW2⟩ : ∃ W', Hid (wz.alloc (.cells #[.int .i64 z, .int .i64 xn, .slice xA np xc] 182) = W') := ⟨_, rfl⟩
          have hb2 : Hid (Below wz.heap.size wz W2) := by rw [← hW2.out]; exact below_new _ _
          have hc2 : Hid (W2.heap[g2]? = some (.cells #[.int .i64 z, .int .i64 xn, .slice xA np xc] 182 (0, 0))) := by rw [← hW2.out, ← hg2.out]; exact heap_alloc_new _ _
          rw [hW2.out, hg2.out]
          have Hps2 := Lib.hid (Hps.out.below hb2.out)
          have d20 := three_cell hc2.out
          have Hbl2 : Hid (RdB W2 B Ab bl) := Reads.below Hbl.out ((Hbz.out.trans (hb2.out.mono Hbz.out.size)).mono (Nat.le_trans HB2.out HB.out.below.size))
          have HB3 : Hid (B ≤ W2.heap.size) := Nat.le_trans (Nat.le_trans (Nat.le_trans HB2.out HB.out.below.size) Hbz.out.size) hb2.out.size
          clear d0 d1 d2 hW2
          go_upto_region 8 with (go_at_call 108; refine (rapp_n hnp.out hsm.out Hps2.out Hm.out hm2 HB3.out Hbl2.out).mono ?_; rintro e w3 ⟨A', c', n', ps', rfl, hb3, hn3, hp3, hm3⟩; have e20 := three_cell ((hb3.block _ (Array.getElem?_eq_some_iff.1 hc2.out).1).trans hc2.out); have f20 := three_frozen (i := 2) ((hb3.block _ (Array.getElem?_eq_some_iff.1 hc2.out).1).trans hc2.out); have Hb3 := Lib.hid hb3; have Hn3 := Lib.hid hn3; have Hp3 := Lib.hid hp3; have Hm3 := Lib.hid hm3; clear hb3 hn3 hp3 hm3)
          obtain ⟨W4, hW4⟩ : ∃ W', Hid (w3.setCell ⟨g2, 2, none⟩ (.slice A' n' c') = W') := ⟨_, rfl⟩
          have hT4 : Hid (Touch (fun j => j = g2) w3 W4) := by rw [← hW4.out]; exact Touch.cell1 _ _ _ _
          have hc3 := (Hb3.out.block _ (Array.getElem?_eq_some_iff.1 hc2.out).1).trans hc2.out
          have hc4 : Hid (W4.heap[g2]? = some (.cells #[.int .i64 z, .int .i64 xn, .slice A' n' c'] 182 (0, 0))) := by rw [← hW4.out]; exact three_set2 _ hc3
          rw [hW4.out]
          have hg2W : g2 < W2.heap.size := (Array.getElem?_eq_some_iff.1 hc2.out).1
          have hb14 : Hid (Below wz.heap.size wz W4) := (hb2.out.trans (Hb3.out.mono hb2.out.size)).trans (hT4.out.below (Nat.le_trans hb2.out.size Hb3.out.size) fun j (e : j = g2) => by rw [e, ← hg2.out]; omega)
          have Hb4 : Hid (Below W.heap.size W W4) := Hbz.out.trans (hb14.out.mono Hbz.out.size)
          have HR4 := Lib.hid (HRr.out.below hb14.out)
          have HP4 : Hid (PsX W4 (AY w W X) A' ps') := (Hp3.out.keep (hT4.out.mono fun j _ (e : j = g2) => by show j < W2.heap.size; omega)).mono fun j _ (e : AY w W X j) => by have := e.1; have := Hbz.out.size; have := hb2.out.size; show j < W2.heap.size; omega
          have m0 := three_cell (HB.out.at0 Hb4.out)
          have m2 := three_cell hc4.out
          clear e20 f20 d20 hW4 hc3
          go_wp2_with (go_at_call 109; refine (rwith_n hnl.out hl2.out HR4.out Hn3.out HP4.out hkn).mono ?_; rintro e w5 ⟨u, rfl, hb5, A5, c5, es5, rfl, hr5, hm5⟩; have Hb5 := Lib.hid (Hb4.out.trans (hb5.mono Hb4.out.size)); have q1 := three_cell (HB.out.at1 Hb5.out); have q2 := three_frozen (i := 0) (HB.out.at1 Hb5.out); have q3 := three_frozen (i := 1) (HB.out.at1 Hb5.out); have q4 := three_frozen (i := 2) (HB.out.at1 Hb5.out); obtain ⟨n5, hn5⟩ : ∃ n, Hid (List.length es5 = n) := ⟨_, rfl⟩; rw [hn5.out]; have Hr5 := Lib.hid hr5; have Hm5 := Lib.hid hm5; clear hb5 hr5 hm5)
          have hz := three_set (.slice A5 n5 c5) (.int .i64 q) (.int .i64 l) (HB.out.at1 Hb5.out)
          refine ret_tab2 rfl g1 _ _ _ _ (0, 0) rfl hz rfl ?_
          refine ⟨_, _, rfl, HB.out.fin Hb5.out _ _ _, .inr (.inr ⟨rfl, hfin.out, k, _, Rm_get Hx.out, hi, HB.out.ans ⟨A5, c5, es5, by rw [hn5.out], Hr5.out.mono fun j _ (e : AY w W X j) => ⟨by have := e.1; have := Hb4.out.size; omega, e⟩, by rw [Hm5.out, Hm3.out, ← hi]; rfl⟩ _ _ _⟩)⟩
end Go.Proofs.YtbhmnmmockmibaaGreatDoor

namespace Go.Proofs.YtbhmnmmockmibaaGreatDoor
open Go.RowKit
theorem three_heap (w : World) (a b c : Obj) : (((w.alloc a).alloc b).alloc c).heap.size = w.heap.size + 3 ∧ (((w.alloc a).alloc b).alloc c).heap[w.heap.size]? = some a ∧ (((w.alloc a).alloc b).alloc c).heap[w.heap.size + 1]? = some b ∧ (((w.alloc a).alloc b).alloc c).heap[w.heap.size + 1 + 1]? = some c := by
  have s1 : (w.alloc a).heap.size = w.heap.size + 1 := World.size_alloc _ _
  have s2 : ((w.alloc a).alloc b).heap.size = w.heap.size + 1 + 1 := by rw [World.size_alloc, s1]
  have s3 : (((w.alloc a).alloc b).alloc c).heap.size = w.heap.size + 1 + 1 + 1 := by rw [World.size_alloc, s2]
  have n1 := heap_alloc_new w a
  have n2 := heap_alloc_new (w.alloc a) b
  have n3 := heap_alloc_new ((w.alloc a).alloc b) c
  rw [s1] at n2
  rw [s2] at n3
  refine ⟨by omega, ?_, ?_, n3⟩
  · exact (heap_alloc_old _ _ (by omega)).trans ((heap_alloc_old _ _ (by omega)).trans n1)
  · exact (heap_alloc_old _ _ (by omega)).trans n2
theorem rv_new (w : World) (x : Rv) : Reads (w.alloc (.cells #[.int .i64 x.i, .int .i64 x.n, .slice x.A x.ps.length x.c] 182)) (w.heap.size + 1) 3 (some ⟨w.heap.size, 0, none⟩) 1 (rvcells [x]) := by
  refine ⟨rfl, fun _ => ⟨_, rfl, by simp, fun j u hu => ?_⟩⟩
  rw [lit_add, Nat.zero_add, cell_of_row _ w.heap.size j _ _ _ (heap_alloc_new w _), List.getElem?_toArray]
  exact hu
section
variable {ops : Array Oper} {rest : List Oper} {o : Oper} {a : Act} {Q : Exit → Act → World → Prop} {w : World} {base : Nat} {v : Value}
/-- append of one entry. -/
theorem push_rv {N n : Nat} (s y : Operand) {es : List Rv} (x : Rv) (hown : w.ownsRow base 182 3 v n (rvcells es)) (hbase : base ≤ w.heap.size) (hl : n ≤ 100000)
    (hgd : o.guard = none) (ho : o.op = .call { callee := .builtin .append, args := #[s, y], argTypes := #[79, 79] })
    (hs : a.eval s = v) (hy : a.eval y = .slice (some ⟨N, 0, none⟩) 1 1) (hN : w.heap.size = N)
    (h : ∀ A' c' w', w'.ownsRow base 182 3 (.slice A' (n + 1) c') (n + 1) (rvcells (es ++ [x])) → w.grownBy w' v.ownBlock → Below base w w' → wpList Tryz.prog ops Q rest (a.put o.dst (.slice A' (n + 1) c')) w') :
    wpList Tryz.prog ops Q (o :: rest) a (w.alloc (.cells #[.int .i64 x.i, .int .i64 x.n, .slice x.A x.ps.length x.c] 182)) := by
  subst hN
  obtain ⟨i0, hi0, hz0, hz1, hz2⟩ := info_parts info_entry
  have hnew := rv_new w x
  obtain ⟨ob, hob⟩ : ∃ ob, ob = Obj.cells #[.int .i64 x.i, .int .i64 x.n, .slice x.A x.ps.length x.c] 182 (0, 0) := ⟨_, rfl⟩
  rw [← hob] at hnew ⊢
  have ha : (w.alloc ob).ownsRow base 182 3 v n (rvcells es) := World.ownsRow.alloc (w := w) hown ob
  refine wpList_append_any (w.alloc ob) hgd s y 79 ho base 182 i0 _ 3 40 Tryz.underlying79 hi0 hz0 hz1 hz2 rfl (by omega) v n (rvcells es) hs ha (w.heap.size + 1) _ 1 1 (rvcells [x]) hy hnew (rvcells_one _) (by simp only [maxLen]; omega) (by omega) (by simp; omega) ?_
  intro v1 w1 h1 h2 h3
  have hb := ((Below.refl base w).alloc hbase _).trans (grown_below ha h2 (by simp; omega))
  rw [← rvcells_append] at h1
  obtain ⟨A1, c1, rfl, _⟩ := own_form h1
  exact h A1 c1 w1 h1 ⟨h2.os, h2.tape, h2.output, Nat.le_trans (by simp) h2.size, fun k hk hne => (h2.block k (by simp; omega) hne).trans (heap_alloc_old w _ hk)⟩ hb
end
set_option maxHeartbeats 1000000 in
set_option maxRecDepth 100000 in
theorem rmake_any {X : Nat → Prop} {v : Value} {M : List Rm} {q l : Int} {w : World} (hl : M.length ≤ 1000) (hl0 : 0 ≤ l) (hl1 : l ≤ 1000000) (hr : RefT w X v M q l) :
    Calls Tryz.prog 102 #[v] w fun e w' => ∃ u, e = .returned u ∧ Below w.heap.size w w' ∧ RefT w' (AX w X) u (M ++ [⟨l + 1, 0, []⟩]) q (l + 1) := by
  obtain ⟨A, c, es, rfl, hr, rfl⟩ := hr
  rw [List.length_map] at hl
  obtain ⟨nl, hnl⟩ : ∃ n, Hid (es.length = n) := ⟨_, rfl⟩
  have hnl1 : nl ≤ 1000 := by rw [← hnl.out]; exact hl
  rw [hnl.out]
  obtain ⟨i0, hi0, hz0, hz1, hz2⟩ := info_parts info_entry
  go_enter Tryz.func102, Tryz.ntmps102
  go_upto_region 2 with fail
  obtain ⟨W, hW⟩ : ∃ W, Hid (((w.alloc (.cells #[.slice A nl c, .int .i64 q, .int .i64 l] 81)).alloc (.cells #[.slice none 0 0, .int .i64 0, .int .i64 0] 81)).alloc (.cells #[.slice none 0 0, .int .i64 q, .int .i64 (l + 1)] 81) = W) := ⟨_, rfl⟩
  obtain ⟨g0, hg0⟩ : ∃ g, Hid (w.heap.size = g) := ⟨_, rfl⟩
  obtain ⟨g1, hg1⟩ : ∃ g, Hid (w.heap.size + 1 = g) := ⟨_, rfl⟩
  obtain ⟨g2, hg2⟩ : ∃ g, Hid (w.heap.size + 1 + 1 = g) := ⟨_, rfl⟩
  have hb1 : Hid (Below w.heap.size w W) := by rw [← hW.out]; exact ((below_new _ _).alloc (by simp) _).alloc (by simp; omega) _
  have h4 := three_heap w (.cells #[.slice A nl c, .int .i64 q, .int .i64 l] 81) (.cells #[.slice none 0 0, .int .i64 0, .int .i64 0] 81) (.cells #[.slice none 0 0, .int .i64 q, .int .i64 (l + 1)] 81)
  rw [hW.out, hg2.out, hg1.out, hg0.out] at h4
  obtain ⟨hsW, hc0, hc1, hc2⟩ := h4
  have hc0 := Lib.hid hc0
  have hc1 := Lib.hid hc1
  have hc2 := Lib.hid hc2
  rw [hW.out, hg2.out, hg1.out, hg0.out]
  have Hr := Lib.hid (hr.below hb1.out)
  have hr0 := Lib.hid hr
  have c0 := three_cell hc0.out
  have c3 := three_cell hc2.out
  have f3 := three_frozen (i := 0) hc2.out
  clear hr hl hW
  go_upto_region 3 with (at_builtin; refine wpList_append_any _ rfl (.tmp 11) (.tmp 13) 79 rfl W.heap.size 182 i0 _ 3 40 Tryz.underlying79 hi0 hz0 hz1 hz2 rfl (by omega) (.slice none 0 0) 0 [] rfl (World.ownsRow_nil _ _ _ _) W.heap.size A nl c (rvcells es) rfl (by rw [← hnl.out]; exact RdX.reads Hr.out.top) (rvcells_one _) (by simp only [maxLen]; omega) (by omega) (Nat.le_refl _) ?_; intro v1 w3 hown1 hgr3 hblk3; have hb3 : Below W.heap.size W w3 := Below.grown (.refl _ _) hgr3 (Nat.le_refl _) fun k e => (by cases e); clear hgr3 hblk3; rw [List.nil_append, Nat.zero_add] at hown1; have d3 := three_cell ((hb3.block _ (Array.getElem?_eq_some_iff.1 hc2.out).1).trans hc2.out); have e3 := three_frozen (i := 0) ((hb3.block _ (Array.getElem?_eq_some_iff.1 hc2.out).1).trans hc2.out); obtain ⟨A1, k1, rfl, hk1, _⟩ := own_form hown1)
  have HO := Lib.hid hown1
  have Hb3 := Lib.hid hb3
  clear d3 e3 hown1 hb3
  have b3 : Hid (w3.heap[g2]? = some (.cells #[.slice none 0 0, .int .i64 q, .int .i64 (l + 1)] 81 (0, 0))) := (Hb3.out.block _ (Array.getElem?_eq_some_iff.1 hc2.out).1).trans hc2.out
  obtain ⟨W4, hW4⟩ : ∃ W', Hid (w3.setCell ⟨g2, 0, none⟩ (.slice A1 nl k1) = W') := ⟨_, rfl⟩
  have hT4 : Hid (Touch (fun k => k = g2) w3 W4) := by rw [← hW4.out]; exact Touch.cell1 _ _ _ _
  have b4 : Hid (W4.heap[g2]? = some (.cells #[.slice A1 nl k1, .int .i64 q, .int .i64 (l + 1)] 81 (0, 0))) := by rw [← hW4.out]; exact three_set0 _ b3.out
  have hg2W : g2 < W.heap.size := (Array.getElem?_eq_some_iff.1 hc2.out).1
  have hO4 := Lib.hid (own_touch HO.out hT4.out fun b hb e => by have := (HO.out.lt b hb).1; omega)
  have n02 : g0 ≠ g2 := by rw [← hg0.out, ← hg2.out]; omega
  have n12 : g1 ≠ g2 := by rw [← hg1.out, ← hg2.out]; omega
  have b40 := Lib.hid (hT4.out.heap n02 ((Hb3.out.block _ (Array.getElem?_eq_some_iff.1 hc0.out).1).trans hc0.out))
  have b41 := Lib.hid (hT4.out.heap n12 ((Hb3.out.block _ (Array.getElem?_eq_some_iff.1 hc1.out).1).trans hc1.out))
  have hs4 : W.heap.size ≤ W4.heap.size := Nat.le_trans Hb3.out.size hT4.out.size
  rw [hW4.out]
  have m0 := three_cell b40.out
  have m2 := three_cell b4.out
  clear hW4
  go_upto_region 4 with (at_builtin; refine push_rv (.tmp 17) (.tmp 22) ⟨l + 1, 0, none, 0, []⟩ hO4.out hs4 (by omega) rfl rfl rfl rfl rfl ?_; intro A5 c5 w5 hO5 hg5 hb5; have u2 := three_cell ((hg5.block _ (by omega) (fun e => by have := hO4.out.lt _ e.symm; omega)).trans b4.out); have u3 := three_frozen (i := 0) ((hg5.block _ (by omega) (fun e => by have := hO4.out.lt _ e.symm; omega)).trans b4.out); have HO5 := Lib.hid hO5; have Hg5 := Lib.hid hg5; have Hb5 := Lib.hid hb5; clear hO5 hg5 hb5)
  have b5 := (Hg5.out.block _ (by omega) (fun e => by have := hO4.out.lt _ e.symm; omega)).trans b4.out
  have hg1W : g1 < W.heap.size := (Array.getElem?_eq_some_iff.1 hc1.out).1
  have a5 := (Hg5.out.block _ (by omega) (fun e => by have := hO4.out.lt _ e.symm; omega)).trans b41.out
  obtain ⟨W6, hW6⟩ : ∃ W', Hid (w5.setCell ⟨g2, 0, none⟩ (.slice A5 (nl + 1) c5) = W') := ⟨_, rfl⟩
  have hT6 : Hid (Touch (fun k => k = g2) w5 W6) := by rw [← hW6.out]; exact Touch.cell1 _ _ _ _
  have b6 : Hid (W6.heap[g2]? = some (.cells #[.slice A5 (nl + 1) c5, .int .i64 q, .int .i64 (l + 1)] 81 (0, 0))) := by rw [← hW6.out]; exact three_set0 _ b5
  have a6 := Lib.hid (hT6.out.heap n12 a5)
  have hO6 := Lib.hid (own_touch HO5.out hT6.out fun b hb e => by have := (HO5.out.lt b hb).1; omega)
  rw [hW6.out]
  have b6c := three_cell b6.out
  have a6c := three_cell a6.out
  have a60 := three_frozen (i := 0) a6.out
  have a61 := three_frozen (i := 1) a6.out
  have a62 := three_frozen (i := 2) a6.out
  clear u2 u3 m0 m2 hW6 b5 a5
  go_wp2
  have hz := three_set (.slice A5 (nl + 1) c5) (.int .i64 q) (.int .i64 (l + 1)) a6.out
  refine ret_tab1 rfl g1 _ _ _ _ (0, 0) rfl hz rfl ?_
  have hT7 := Touch.cells3 W6 g1 (.slice A5 (nl + 1) c5) (.int .i64 q) (.int .i64 (l + 1))
  have hbW6 : Below w.heap.size W W6 := by
    refine (Hb3.out.mono hb1.out.size).trans (Below.trans (hT4.out.below (Nat.le_trans hb1.out.size Hb3.out.size) fun j (e : j = g2) => by rw [e, ← hg2.out]; omega) (Below.trans (Hb5.out.mono hb1.out.size) (hT6.out.below (Nat.le_trans hb1.out.size (Nat.le_trans hs4 Hb5.out.size)) fun j (e : j = g2) => by rw [e, ← hg2.out]; omega)))
  have hbw : Below w.heap.size w _ := (hb1.out.trans hbW6).trans (hT7.below (Nat.le_trans hb1.out.size hbW6.size) fun j (e : j = g1) => by rw [e, ← hg1.out]; omega)
  have hlen : (es ++ [(⟨l + 1, 0, none, 0, []⟩ : Rv)]).length = nl + 1 := by rw [List.length_append, hnl.out]; rfl
  refine ⟨_, rfl, hbw, ⟨_, _, es ++ [⟨l + 1, 0, none, 0, []⟩], by rw [hlen], ⟨?_, ?_⟩, by simp [Rv.m, says]⟩⟩
  · have ho := own_touch hO6.out hT7 fun j hj (e : j = g1) => by have := (hO6.out.lt j hj).1; omega
    have hR := own_avoid (X := AX w X) ho fun j (e : j < w.heap.size ∧ X j) => Nat.lt_of_lt_of_le e.1 hb1.out.size
    rw [hlen]
    exact hR
  · intro e he
    rcases List.mem_append.1 he with h | h
    · exact ((hr0.out.file e h).below hbw).mono fun j _ (e : j < w.heap.size ∧ X j) => e.2
    · rw [List.mem_singleton.1 h]; exact PsX.nil
end Go.Proofs.YtbhmnmmockmibaaGreatDoor
