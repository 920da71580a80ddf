/- The walks of the reference's Used, Volatile, Bytes. Conditions: at most 1000 files, parts of at most 100000 bytes. The walk of the reference's Append. Conditions: at most 1000 files, parts of at most 100000 bytes. -/
import Derived.Test.YtbhmnmmockmibaaGreatKpFuC
import Derived.Deep.RegionHeld3
import Derived.BigQuiet
namespace Go.Proofs.YtbhmnmmockmibaaGreat
open Go.RowKit
def sumR (μ : Rm → Nat) (M : List Rm) : Nat := (M.map μ).sum
theorem sumR_snoc {μ : Rm → Nat} {M : List Rm} {k : Nat} {x : Rm} (h : Hid (M[k]? = some x)) : sumR μ (M.take (k + 1)) = sumR μ (M.take k) + μ x := by
  unfold sumR
  rw [take_snoc h, List.map_append, List.sum_append]
  simp
theorem sumR_le {μ : Rm → Nat} {K : Nat} : ∀ {M : List Rm}, (∀ x ∈ M, μ x ≤ K) → sumR μ M ≤ M.length * K
  | [], _ => by simp [sumR]
  | x :: M, h => by
    have h1 := sumR_le (M := M) fun y hy => h y (List.mem_cons_of_mem _ hy)
    have h2 := h x (List.mem_cons_self ..)
    unfold sumR at h1 ⊢
    rw [List.map_cons, List.sum_cons, List.length_cons, Nat.succ_mul]
    omega
def usedR : List Rm → Nat := sumR fun x => (contM x.m).length
def volR : List Rm → Nat := sumR fun x => volM x.m
theorem sumR_take {μ : Rm → Nat} {K k : Nat} {M : List Rm} (hl : M.length ≤ 1000) (h : ∀ x ∈ M, μ x ≤ K) : sumR μ (M.take k) ≤ 1000 * K := by
  refine Nat.le_trans (sumR_le fun x hx => h x (List.mem_of_mem_take hx)) (Nat.mul_le_mul_right K ?_)
  rw [List.length_take]
  omega
theorem rbytes_n {X : Nat → Prop} {A : Option Addr} {c n : Nat} {ps : List Pa} {w : World} (hn : ps.length = n) (hs : SmM (says ps)) (hr : PsX w X A ps) :
    Calls Tryz.prog 87 #[.agg #[.slice A n c]] w fun e w' => ∃ A' c' n', e = .returned (.slice A' n' c') ∧ n' = (contM (says ps)).length ∧ w'.ownsRow w.heap.size 5 1 (.slice A' n' c') n' (bs (contM (says ps))) ∧ Below w.heap.size w w' := by
  subst hn
  refine (rbytes_any A c ps w hs hr).mono ?_
  rintro e w' ⟨v, rfl, ho, hb⟩
  obtain ⟨A', c', rfl, _⟩ := own_form ho
  exact ⟨A', c', _, rfl, rfl, ho, hb⟩
theorem rvol_n {X : Nat → Prop} {A : Option Addr} {c n : Nat} {ps : List Pa} {w : World} (hn : ps.length = n) (hs : SmM (says ps)) (hr : PsX w X A ps) :
    Calls Tryz.prog 67 #[.agg #[.slice A n c]] w fun e w' => ∃ T : Nat, e = .returned (.int .i64 (T : Int)) ∧ T = volM (says ps) ∧ Below w.heap.size w w' := by
  subst hn
  refine (rvol_any A c ps w hs hr).mono ?_
  rintro e w' ⟨rfl, hb⟩
  exact ⟨_, rfl, rfl, hb⟩
theorem one_heap (w : World) {W : World} {g0 : Nat} {a b c : Value} (hW : w.alloc (.cells #[a, b, c] 33) = W) (h0 : w.heap.size = g0) : W.heap[g0]? = some (.cells #[a, b, c] 33 (0, 0)) ∧ Below w.heap.size w W ∧ w.heap.size ≤ W.heap.size := by
  subst hW h0
  exact ⟨heap_alloc_new _ _, below_new _ _, by simp⟩
set_option maxHeartbeats 1000000 in
set_option maxRecDepth 100000 in
theorem rused_any {X : Nat → Prop} {v : Value} {M : List Rm} {q l : Int} {w : World} (hl : M.length ≤ 1000) (hs : ∀ x ∈ M, SmM x.m) (hr : RefT w X v M q l) :
    Calls Tryz.prog 54 #[v] w fun e w' => e = .returned (.int .i64 ((usedR M : Nat) : Int)) ∧ Below w.heap.size w w' := by
  obtain ⟨A, c, es, rfl, h1, rfl⟩ := hr
  have hle := Lib.hid fun k => sumR_take (μ := fun x => (contM x.m).length) (K := 100000000) (k := k) hl fun x hx => contM_le' (hs x hx)
  rw [List.length_map] at hl
  obtain ⟨nl, hnl⟩ : ∃ n, Hid (es.length = n) := ⟨_, rfl⟩
  have hl2 : (nl : Int) ≤ 1000 := by have := hnl.out; omega
  have Hs := Lib.hid hs
  rw [hnl.out]
  obtain ⟨W, hW⟩ : ∃ W, Hid (w.alloc (.cells #[.slice A nl c, .int .i64 q, .int .i64 l] 33) = W) := ⟨_, rfl⟩
  obtain ⟨g0, hg0⟩ : ∃ g, Hid (w.heap.size = g) := ⟨_, rfl⟩
  obtain ⟨hc0, hb0, hsz⟩ := one_heap w hW.out hg0.out
  have Hr := Lib.hid (h1.below hb0)
  have Hc0 := Lib.hid hc0
  have Hb0 := Lib.hid hb0
  clear h1 hl hs hc0 hb0
  go_enter Tryz.func54, Tryz.ntmps54
  go_wp2
  rw [hW.out, hg0.out]
  go_loopw [3, 4] (fun s i wr => ∃ (k T : Nat), k ≤ nl ∧ i = .int .i64 (k : Int) ∧ s = .int .i64 (T : Int) ∧ Hid (T = usedR ((es.map Rv.m).take k)) ∧ Hid (Below W.heap.size W wr)) (fun _ i _ => nl - (intOf i).toNat)
  case atStart => exact ⟨0, 0, by omega, rfl, rfl, by exact rfl, Below.refl _ _⟩
  case round =>
    obtain ⟨k, T, hk, rfl, rfl, hT, hw⟩ := hrel
    have hTI : (T : Int) ≤ 100000000000 := by have h := hle.out k; have h2 := hT.out; unfold usedR at h2; omega
    have c0 := three_cell ((hw.out.block _ (Array.getElem?_eq_some_iff.1 Hc0.out).1).trans Hc0.out)
    by_cases hlt : k < nl
    · obtain ⟨ad, x, rfl, hab, hax, d0, d1, d2, hx, hps⟩ := (Hr.out.below hw.out).at_ (k := k) (by rw [hnl.out]; exact hlt)
      obtain ⟨xi, xn, xA, xc, xps⟩ := x
      obtain ⟨np, hnp⟩ : ∃ n, Hid (xps.length = n) := ⟨_, rfl⟩
      simp only [hnp.out] at d0 d1 d2
      have Hps := Lib.hid hps
      have hsm := Lib.hid (Hs.out _ (mem_of_get (Rm_get hx.out)))
      have hcl : (contM (says xps)).length ≤ 100000000 := contM_le' hsm.out
      have hsn : Hid (usedR ((es.map Rv.m).take (k + 1)) = usedR ((es.map Rv.m).take k) + (contM (says xps)).length) := sumR_snoc (Lib.hid (Rm_get hx.out))
      clear hps
      go_wp2_with (go_at_call 87; refine (rbytes_n hnp.out hsm.out Hps.out).mono ?_; rintro e w1 ⟨A', c', n', rfl, hn', _, hb1⟩; have hn1 : (n' : Int) ≤ 100000000 := (by omega); have Hb1 := Lib.hid (hw.out.trans (hb1.mono hw.out.size)); have Hn := Lib.hid hn'; clear hb1 hn' hcl)
      go_roundw
      case rel => exact ⟨k + 1, T + n', by omega, by go_num, by go_num, by show _ = _; rw [hsn.out, ← hT.out, Hn.out], Hb1.out⟩
      case measure => simp [intOf]; omega
    · have hkk : k = nl := by omega
      go_wp2
      go_ret
      refine ⟨?_, (hW.out ▸ below_new _ _ : Below w.heap.size w W).trans (hw.out.mono hsz)⟩
      have hT2 := hT.out
      rw [hkk, ← hnl.out, ← List.length_map (f := Rv.m), List.take_length] at hT2
      show Ending.returned (.int .i64 (T : Int)) = _
      rw [hT2]
set_option maxHeartbeats 1000000 in
set_option maxRecDepth 100000 in
theorem rvolT_any {X : Nat → Prop} {v : Value} {M : List Rm} {q l : Int} {w : World} (hl : M.length ≤ 1000) (hs : ∀ x ∈ M, SmM x.m) (hr : RefT w X v M q l) :
    Calls Tryz.prog 53 #[v] w fun e w' => e = .returned (.int .i64 ((volR M : Nat) : Int)) ∧ Below w.heap.size w w' := by
  obtain ⟨A, c, es, rfl, h1, rfl⟩ := hr
  have hle := Lib.hid fun k => sumR_take (μ := fun x => volM x.m) (K := 1000) (k := k) hl fun x hx => Nat.le_trans (volM_le _) (hs x hx).n
  rw [List.length_map] at hl
  obtain ⟨nl, hnl⟩ : ∃ n, Hid (es.length = n) := ⟨_, rfl⟩
  have hl2 : (nl : Int) ≤ 1000 := by have := hnl.out; omega
  have Hs := Lib.hid hs
  rw [hnl.out]
  obtain ⟨W, hW⟩ : ∃ W, Hid (w.alloc (.cells #[.slice A nl c, .int .i64 q, .int .i64 l] 33) = W) := ⟨_, rfl⟩
  obtain ⟨g0, hg0⟩ : ∃ g, Hid (w.heap.size = g) := ⟨_, rfl⟩
  obtain ⟨hc0, hb0, hsz⟩ := one_heap w hW.out hg0.out
  have Hr := Lib.hid (h1.below hb0)
  have Hc0 := Lib.hid hc0
  have Hb0 := Lib.hid hb0
  clear h1 hl hs hc0 hb0
  go_enter Tryz.func53, Tryz.ntmps53
  go_wp2
  rw [hW.out, hg0.out]
  go_loopw [3, 4] (fun s i wr => ∃ (k T : Nat), k ≤ nl ∧ i = .int .i64 (k : Int) ∧ s = .int .i64 (T : Int) ∧ Hid (T = volR ((es.map Rv.m).take k)) ∧ Hid (Below W.heap.size W wr)) (fun _ i _ => nl - (intOf i).toNat)
  case atStart => exact ⟨0, 0, by omega, rfl, rfl, by exact rfl, Below.refl _ _⟩
  case round =>
    obtain ⟨k, T, hk, rfl, rfl, hT, hw⟩ := hrel
    have hTI : (T : Int) ≤ 100000000000 := by have h := hle.out k; have h2 := hT.out; unfold volR at h2; omega
    have c0 := three_cell ((hw.out.block _ (Array.getElem?_eq_some_iff.1 Hc0.out).1).trans Hc0.out)
    by_cases hlt : k < nl
    · obtain ⟨ad, x, rfl, hab, hax, d0, d1, d2, hx, hps⟩ := (Hr.out.below hw.out).at_ (k := k) (by rw [hnl.out]; exact hlt)
      obtain ⟨xi, xn, xA, xc, xps⟩ := x
      obtain ⟨np, hnp⟩ : ∃ n, Hid (xps.length = n) := ⟨_, rfl⟩
      simp only [hnp.out] at d0 d1 d2
      have Hps := Lib.hid hps
      have hsm := Lib.hid (Hs.out _ (mem_of_get (Rm_get hx.out)))
      have hcl : volM (says xps) ≤ 1000 := Nat.le_trans (volM_le _) hsm.out.n
      have hsn : Hid (volR ((es.map Rv.m).take (k + 1)) = volR ((es.map Rv.m).take k) + volM (says xps)) := sumR_snoc (Lib.hid (Rm_get hx.out))
      clear hps
      go_wp2_with (go_at_call 67; refine (rvol_n hnp.out hsm.out Hps.out).mono ?_; rintro e w1 ⟨n', rfl, hn', hb1⟩; have hn1 : (n' : Int) ≤ 1000 := (by omega); have Hb1 := Lib.hid (hw.out.trans (hb1.mono hw.out.size)); have Hn := Lib.hid hn'; clear hb1 hn' hcl)
      go_roundw
      case rel => exact ⟨k + 1, T + n', by omega, by go_num, by go_num, by show _ = _; rw [hsn.out, ← hT.out, Hn.out], Hb1.out⟩
      case measure => simp [intOf]; omega
    · have hkk : k = nl := by omega
      go_wp2
      go_ret
      refine ⟨?_, (hW.out ▸ below_new _ _ : Below w.heap.size w W).trans (hw.out.mono hsz)⟩
      have hT2 := hT.out
      rw [hkk, ← hnl.out, ← List.length_map (f := Rv.m), List.take_length] at hT2
      show Ending.returned (.int .i64 (T : Int)) = _
      rw [hT2]
set_option maxHeartbeats 1000000 in
set_option maxRecDepth 100000 in
theorem rbytesT_any {X : Nat → Prop} {v : Value} {M : List Rm} {q l z : Int} {w : World} (hl : M.length ≤ 1000) (hs : ∀ x ∈ M, SmM x.m) (hr : RefT w X v M q l) :
    Calls Tryz.prog 49 #[v, .int .i64 z] w fun e w' => ∃ A' c' n' er, e = .returned (.tuple #[.slice A' n' c', .int .i64 er]) ∧ Below w.heap.size w w' ∧ ((er = 80 ∧ (∀ x ∈ M, x.i ≠ z) ∧ n' = 0) ∨ (er = 0 ∧ ∃ (k : Nat) (x : Rm), M[k]? = some x ∧ x.i = z ∧ n' = (contM x.m).length ∧ w'.ownsRow w.heap.size 5 1 (.slice A' n' c') n' (bs (contM x.m)))) := by
  obtain ⟨A, c, es, rfl, h1, rfl⟩ := hr
  rw [List.length_map] at hl
  obtain ⟨nl, hnl⟩ : ∃ n, Hid (es.length = n) := ⟨_, rfl⟩
  have hl2 : Hid (nl ≤ 1000) := by rw [← hnl.out]; exact hl
  have Hs := Lib.hid hs
  rw [hnl.out]
  obtain ⟨W, hW⟩ : ∃ W, Hid (w.alloc (.cells #[.slice A nl c, .int .i64 q, .int .i64 l] 33) = W) := ⟨_, rfl⟩
  obtain ⟨g0, hg0⟩ : ∃ g, Hid (w.heap.size = g) := ⟨_, rfl⟩
  obtain ⟨hc0, hb0, hsz⟩ := one_heap w hW.out hg0.out
  have Hr := Lib.hid (h1.below hb0)
  have Hb0 := Lib.hid hb0
  have c0 := three_cell hc0
  clear h1 hl hs hb0
  go_enter Tryz.func49, Tryz.ntmps49
  go_upto_region 1 with fail
  rw [hW.out, hg0.out]
  go_upto_region 2 with (go_at_call 82; refine (rfind_n hnl.out hl2.out Hr.out).mono ?_; rintro e w1 ⟨r, rfl, hb1, hcase⟩)
  have Hb1 := Lib.hid hb1
  have k0 := three_cell ((hb1.block _ (Array.getElem?_eq_some_iff.1 hc0).1).trans hc0)
  clear c0 hb1 hc0
  rcases hcase with ⟨rfl, hno⟩ | ⟨k, x, rfl, hx, hi⟩
  · go_wp2
    go_ret2
    exact ⟨_, _, _, _, rfl, Hb0.out.trans (Hb1.out.mono hsz), .inl ⟨rfl, ne_of_all hno, rfl⟩⟩
  · have hkn : k < nl := by rw [← hnl.out]; exact (List.getElem?_eq_some_iff.1 hx).1
    obtain ⟨ad, x', rfl, hab, hax, d0, d1, d2, hx', hps⟩ := (Hr.out.below Hb1.out).at_ (k := k) (by rw [hnl.out]; exact hkn)
    obtain rfl : x' = x := Option.some.inj (hx'.out.symm.trans hx)
    obtain ⟨xi, xn, xA, xc, xps⟩ := x'
    obtain ⟨np, hnp⟩ : ∃ n, Hid (xps.length = n) := ⟨_, rfl⟩
    simp only [hnp.out] at d0 d1 d2 hps hi
    have Hx := Lib.hid hx
    have Hps := Lib.hid hps
    have hsm := Lib.hid (Hs.out _ (mem_of_get (Rm_get hx)))
    clear hx' hx hps hW
    go_wp2_with (go_at_call 87; refine (rbytes_n hnp.out hsm.out Hps.out).mono ?_; rintro e w2 ⟨A', c', n', rfl, hn', ho2, hb2⟩; have Hn := Lib.hid hn'; have Ho := Lib.hid ho2; have Hb2 := Lib.hid hb2; clear hn' ho2 hb2)
    go_ret2
    exact ⟨_, _, _, _, rfl, (Hb0.out.trans (Hb1.out.mono hsz)).trans (Hb2.out.mono (Nat.le_trans hsz Hb1.out.size)), .inr ⟨rfl, k, _, Rm_get Hx.out, hi, Hn.out, own_mono Ho.out (Nat.le_trans hsz Hb1.out.size)⟩⟩
end Go.Proofs.YtbhmnmmockmibaaGreat

namespace Go.Proofs.YtbhmnmmockmibaaGreat
open Go.RowKit
theorem rused_n {X : Nat → Prop} {A : Option Addr} {c n T : Nat} {es : List Rv} {q l : Int} {w : World} (hn : es.length = n) (hl : n ≤ 1000) (hs : ∀ x ∈ es.map Rv.m, SmM x.m) (hr : RtX w X A es) (hT : usedR (es.map Rv.m) = T) :
    Calls Tryz.prog 54 #[.agg #[.slice A n c, .int .i64 q, .int .i64 l]] w fun e w' => e = .returned (.int .i64 (T : Int)) ∧ Below w.heap.size w w' := by
  subst hn hT
  exact rused_any (by rw [List.length_map]; exact hl) hs ⟨A, c, es, rfl, hr, rfl⟩
theorem rapp_n {X : Nat → Prop} {A Ab : Option Addr} {c cb B n m : Nat} {ps : List Pa} {bl : List UInt8} {w : World} (hn : ps.length = n) (hs : SmM (says ps)) (hr : PsX w X A ps) (hm : bl.length = m) (hl0 : m ≤ 100000) (hB : B ≤ w.heap.size) (hb : RdB w B Ab bl) :
    Calls Tryz.prog 83 #[.agg #[.slice A n c], .slice Ab m cb] w fun e w' => ∃ A' c' n' ps', e = .returned (.agg #[.slice A' n' c']) ∧ Below w.heap.size w w' ∧ List.length ps' = n' ∧ PsX w' (XW w) A' ps' ∧ says ps' = appM (says ps) bl := by
  subst hn hm
  refine (rapp_any hs hr hl0 hB hb).mono ?_
  rintro e w' ⟨v, rfl, hb, A', c', ps', rfl, _, hp, hm⟩
  exact ⟨A', c', _, ps', rfl, hb, rfl, hp, hm⟩
set_option maxHeartbeats 2000000 in
set_option maxRecDepth 100000 in
theorem rappT_any {X : Nat → Prop} {v : Value} {M : List Rm} {q l z : Int} {w : World} {Ab : Option Addr} {cb B m : Nat} {bl : List UInt8} (hl : M.length ≤ 1000) (hs : ∀ x ∈ M, SmM x.m) (hr : RefT w X v M q l) (hm : bl.length = m) (hm2 : m ≤ 100000) (hB : B ≤ w.heap.size) (hbl : RdB w B Ab bl) :
    Calls Tryz.prog 46 #[v, .int .i64 z, .slice Ab m cb] w fun e w' => ∃ u er, e = .returned (.tuple #[u, .int .i64 er]) ∧ Below w.heap.size w w' ∧ ((er = 80 ∧ (∀ x ∈ M, x.i ≠ z) ∧ RefT w' (AX w X) u M q l) ∨ (er = 90 ∧ (∃ x ∈ M, x.i = z) ∧ 0 < m ∧ q < (usedR M : Int) + m ∧ RefT w' (AX w X) u M q l) ∨ (er = 0 ∧ (m = 0 ∨ (usedR M : Int) + m ≤ q) ∧ ∃ (k : Nat) (x : Rm), M[k]? = some x ∧ x.i = z ∧ RefT w' (AX w X) u (M.set k ⟨x.i, x.n, appM x.m bl⟩) q l)) := by
  obtain ⟨A, c, es, rfl, h1, rfl⟩ := hr
  rw [List.length_map] at hl
  obtain ⟨nl, hnl⟩ : ∃ n, Hid (es.length = n) := ⟨_, rfl⟩
  have hl2 : Hid (nl ≤ 1000) := by rw [← hnl.out]; exact hl
  have Hs := Lib.hid hs
  obtain ⟨T, hT⟩ : ∃ T, Hid (usedR (es.map Rv.m) = T) := ⟨_, rfl⟩
  have hTI : (T : Int) ≤ 100000000000 := by have h := sumR_le (μ := fun x => (contM x.m).length) (K := 100000000) fun x hx => contM_le' (hs x hx); have h2 := hT.out; unfold usedR at h2; rw [List.length_map] at h; have h3 := Nat.mul_le_mul_right 100000000 hl; omega
  have hmI : (m : Int) ≤ 100000 := by omega
  rw [hT.out]
  rw [hnl.out]
  obtain ⟨W, hW⟩ : ∃ W, Hid ((w.alloc (.cells #[.slice A nl c, .int .i64 q, .int .i64 l] 33)).alloc (.cells #[.slice none 0 0, .int .i64 0, .int .i64 0] 33) = W) := ⟨_, rfl⟩
  obtain ⟨g0, hg0⟩ : ∃ g, Hid (w.heap.size = g) := ⟨_, rfl⟩
  obtain ⟨g1, hg1⟩ : ∃ g, Hid (w.heap.size + 1 = g) := ⟨_, rfl⟩
  have HB := Lib.hid (Bx.of hW.out hg0.out hg1.out)
  have Hr := Lib.hid (HB.out.start h1)
  have c0 := three_cell HB.out.c0
  have Hbl : Hid (RdB W B Ab bl) := Reads.below hbl (HB.out.below.mono hB)
  have HB2 : Hid (B ≤ w.heap.size) := hB
  have Hm := Lib.hid hm
  clear h1 hl hs hbl hB hm
  go_enter Tryz.func46, Tryz.ntmps46
  go_upto_region 1 with fail
  rw [hW.out, hg1.out, hg0.out]
  go_upto_region 2 with (go_at_call 82; refine (rfind_n hnl.out hl2.out Hr.out).mono ?_; rintro e w1 ⟨r, rfl, hb1, hcase⟩)
  have Hb1 := Lib.hid hb1
  have k0 := three_cell (HB.out.at0 Hb1.out)
  have k1 := three_cell (HB.out.at1 Hb1.out)
  have k2 := three_frozen (i := 0) (HB.out.at1 Hb1.out)
  have k3 := three_frozen (i := 1) (HB.out.at1 Hb1.out)
  have k4 := three_frozen (i := 2) (HB.out.at1 Hb1.out)
  clear hb1 c0
  rcases hcase with ⟨rfl, hno⟩ | ⟨k, x, rfl, hx, hi⟩
  · go_wp2
    have hz := three_set (.slice A nl c) (.int .i64 q) (.int .i64 l) (HB.out.at1 Hb1.out)
    refine ret_tab2 rfl g1 _ _ _ _ (0, 0) rfl hz rfl ?_
    exact ⟨_, _, rfl, HB.out.fin Hb1.out _ _ _, .inl ⟨rfl, ne_of_all hno, HB.out.ans ⟨A, c, es, by rw [hnl.out], Hr.out.below Hb1.out, rfl⟩ _ _ _⟩⟩
  · have hkn : k < nl := by rw [← hnl.out]; exact (List.getElem?_eq_some_iff.1 hx).1
    have Hx := Lib.hid hx
    have hi0 := Lib.hid hi
    have Hsx := Lib.hid Hs.out
    have HS : Hid (∀ wx, Below W.heap.size W wx → wx.cell? ⟨g0, 0, none⟩ = some (.slice A nl c) ∧ wx.cell? ⟨g0, 1, none⟩ = some (.int .i64 q) ∧ wx.cell? ⟨g0, 2, none⟩ = some (.int .i64 l)) := fun wx hb => three_cell (HB.out.at0 hb)
    have hb1d : Hid (Below W.heap.size W w1.drew) := Hb1.out.drew
    have HRd : Hid (RtX w1.drew (AY w W X) A es) := Hr.out.below hb1d.out
    clear k0 k1 k2 k3 k4 hx hi hW
    obtain ⟨e0, e1, e2⟩ := HS.out _ hb1d.out
    go_upto_region 4 with fail
    by_cases h0 : m = 0
    · subst h0
      have hd0 : decide ((0 : Int) < ((0 : Nat) : Int)) = false := by decide
      go_quiet (fail)
      obtain ⟨wz, hwz⟩ : ∃ wz, Hid (w1.drewN nq = wz) := ⟨_, rfl⟩
      have Hbz : Hid (Below W.heap.size W wz) := by rw [← hwz.out]; exact ⟨Hb1.out.os, Hb1.out.tape, Hb1.out.output, Hb1.out.size, Hb1.out.block⟩
      rw [hwz.out]
      clear hwz e0 e1 e2
      obtain ⟨e0, e1, e2⟩ := HS.out _ Hbz.out
      have HRr := Lib.hid (Hr.out.below Hbz.out)
      obtain ⟨ad, x', hA, hab, hax, d0, d1, d2, hx', hps⟩ := HRr.out.at_ (k := k) (by rw [hnl.out]; exact hkn)
      obtain rfl : x' = x := Option.some.inj (hx'.out.symm.trans Hx.out)
      obtain ⟨xi, xn, xA, xc, xps⟩ := x'
      have hi : xi = z := hi0.out
      obtain ⟨np, hnp⟩ : ∃ n, Hid (xps.length = n) := ⟨_, rfl⟩
      simp only [hnp.out] at d0 d1 d2 hps
      have Hps := Lib.hid hps
      have hsm := Lib.hid (Hs.out _ (mem_of_get (Rm_get Hx.out)))
      obtain ⟨g2, hg2⟩ : ∃ g, Hid (wz.heap.size = g) := ⟨_, rfl⟩
      clear hx' hps
      subst hA
      go_upto_region 7 with fail
      obtain ⟨W2, hW2⟩ : ∃ W', Hid (wz.alloc (.cells #[.int .i64 z, .int .i64 xn, .slice xA np xc] 139) = W') := ⟨_, rfl⟩
      have hb2 : Hid (Below wz.heap.size wz W2) := by rw [← hW2.out]; exact below_new _ _
      have hc2 : Hid (W2.heap[g2]? = some (.cells #[.int .i64 z, .int .i64 xn, .slice xA np xc] 139 (0, 0))) := by rw [← hW2.out, ← hg2.out]; exact heap_alloc_new _ _
      rw [hW2.out, hg2.out]
      have Hps2 := Lib.hid (Hps.out.below hb2.out)
      have d20 := three_cell hc2.out
      have Hbl2 : Hid (RdB W2 B Ab bl) := Reads.below Hbl.out ((Hbz.out.trans (hb2.out.mono Hbz.out.size)).mono (Nat.le_trans HB2.out HB.out.below.size))
      have HB3 : Hid (B ≤ W2.heap.size) := Nat.le_trans (Nat.le_trans (Nat.le_trans HB2.out HB.out.below.size) Hbz.out.size) hb2.out.size
      clear d0 d1 d2 hW2
      go_upto_region 8 with (go_at_call 83; refine (rapp_n hnp.out hsm.out Hps2.out Hm.out hm2 HB3.out Hbl2.out).mono ?_; rintro e w3 ⟨A', c', n', ps', rfl, hb3, hn3, hp3, hm3⟩; have e20 := three_cell ((hb3.block _ (Array.getElem?_eq_some_iff.1 hc2.out).1).trans hc2.out); have f20 := three_frozen (i := 2) ((hb3.block _ (Array.getElem?_eq_some_iff.1 hc2.out).1).trans hc2.out); have Hb3 := Lib.hid hb3; have Hn3 := Lib.hid hn3; have Hp3 := Lib.hid hp3; have Hm3 := Lib.hid hm3; clear hb3 hn3 hp3 hm3)
      obtain ⟨W4, hW4⟩ : ∃ W', Hid (w3.setCell ⟨g2, 2, none⟩ (.slice A' n' c') = W') := ⟨_, rfl⟩
      have hT4 : Hid (Touch (fun j => j = g2) w3 W4) := by rw [← hW4.out]; exact Touch.cell1 _ _ _ _
      have hc3 := (Hb3.out.block _ (Array.getElem?_eq_some_iff.1 hc2.out).1).trans hc2.out
      have hc4 : Hid (W4.heap[g2]? = some (.cells #[.int .i64 z, .int .i64 xn, .slice A' n' c'] 139 (0, 0))) := by rw [← hW4.out]; exact three_set2 _ hc3
      rw [hW4.out]
      have hg2W : g2 < W2.heap.size := (Array.getElem?_eq_some_iff.1 hc2.out).1
      have hb14 : Hid (Below wz.heap.size wz W4) := (hb2.out.trans (Hb3.out.mono hb2.out.size)).trans (hT4.out.below (Nat.le_trans hb2.out.size Hb3.out.size) fun j (e : j = g2) => by rw [e, ← hg2.out]; omega)
      have Hb4 : Hid (Below W.heap.size W W4) := Hbz.out.trans (hb14.out.mono Hbz.out.size)
      have HR4 := Lib.hid (HRr.out.below hb14.out)
      have HP4 : Hid (PsX W4 (AY w W X) A' ps') := (Hp3.out.keep (hT4.out.mono fun j _ (e : j = g2) => by show j < W2.heap.size; omega)).mono fun j _ (e : AY w W X j) => by have := e.1; have := Hbz.out.size; have := hb2.out.size; show j < W2.heap.size; omega
      have m0 := three_cell (HB.out.at0 Hb4.out)
      have m2 := three_cell hc4.out
      clear e20 f20 d20 hW4 hc3
      go_wp2_with (go_at_call 84; refine (rwith_n hnl.out hl2.out HR4.out Hn3.out HP4.out hkn).mono ?_; rintro e w5 ⟨u, rfl, hb5, A5, c5, es5, rfl, hr5, hm5⟩; have Hb5 := Lib.hid (Hb4.out.trans (hb5.mono Hb4.out.size)); have q1 := three_cell (HB.out.at1 Hb5.out); have q2 := three_frozen (i := 0) (HB.out.at1 Hb5.out); have q3 := three_frozen (i := 1) (HB.out.at1 Hb5.out); have q4 := three_frozen (i := 2) (HB.out.at1 Hb5.out); obtain ⟨n5, hn5⟩ : ∃ n, Hid (List.length es5 = n) := ⟨_, rfl⟩; rw [hn5.out]; have Hr5 := Lib.hid hr5; have Hm5 := Lib.hid hm5; clear hb5 hr5 hm5)
      have hz := three_set (.slice A5 n5 c5) (.int .i64 q) (.int .i64 l) (HB.out.at1 Hb5.out)
      refine ret_tab2 rfl g1 _ _ _ _ (0, 0) rfl hz rfl ?_
      refine ⟨_, _, rfl, HB.out.fin Hb5.out _ _ _, .inr ⟨rfl, k, _, ⟨_, Hx.out, rfl⟩, hi, HB.out.ans ⟨A5, c5, es5, by rw [hn5.out], Hr5.out.mono fun j _ (e : AY w W X j) => ⟨by have := e.1; have := Hb4.out.size; omega, e⟩, by rw [Hm5.out, Hm3.out, ← hi]; rfl⟩ _ _ _⟩⟩
    · have h0' : (0 : Int) < (m : Int) := by omega
      have h0n : 0 < m := by omega
      have hwr : IntKind.i64.wrap ((T : Int) + (m : Int)) = (T : Int) + (m : Int) := IntWalk.i64_in _ ⟨by omega, by omega⟩
      go_region_held3 (fun wx => wx.cell? ⟨g0, 0, none⟩ = some (.slice A nl c) ∧ wx.cell? ⟨g0, 1, none⟩ = some (.int .i64 q) ∧ wx.cell? ⟨g0, 2, none⟩ = some (.int .i64 l)) (first | exact HS.out _ Hb2.out | exact HS.out _ hb1d.out) (first | (go_at_call 54; refine (rused_n hnl.out hl2.out Hsx.out HRd.out hT.out).mono ?_; rintro e wz ⟨rfl, hb2⟩; have Hb2 := Lib.hid (hb1d.out.trans (hb2.mono hb1d.out.size)); clear hb2))
      all_goals
        have Hbz := Hb2
        clear e0 e1 e2
        by_cases hqq : q < (T : Int) + (m : Int)
        · have hdq : decide (q < (T : Int) + (m : Int)) = true := decide_eq_true hqq
          obtain ⟨e0, e1, e2⟩ := HS.out _ Hbz.out
          have q1 := three_cell (HB.out.at1 Hbz.out)
          have q2 := three_frozen (i := 0) (HB.out.at1 Hbz.out)
          have q3 := three_frozen (i := 1) (HB.out.at1 Hbz.out)
          have q4 := three_frozen (i := 2) (HB.out.at1 Hbz.out)
          go_wp2
          have hz := three_set (.slice A nl c) (.int .i64 q) (.int .i64 l) (HB.out.at1 Hbz.out)
          refine ret_tab2 rfl g1 _ _ _ _ (0, 0) rfl hz rfl ?_
          exact ⟨_, _, rfl, HB.out.fin Hbz.out _ _ _, .inr (.inl ⟨rfl, ⟨_, mem_of_get (Rm_get Hx.out), hi0.out⟩, h0n, hqq, HB.out.ans ⟨A, c, es, by rw [hnl.out], Hr.out.below Hbz.out, rfl⟩ _ _ _⟩)⟩
        · have hdq : decide (q < (T : Int) + (m : Int)) = false := decide_eq_false hqq
          have hfin : Hid (m = 0 ∨ (T : Int) + (m : Int) ≤ q) := .inr (by omega)
          obtain ⟨e0, e1, e2⟩ := HS.out _ Hbz.out
          have HRr := Lib.hid (Hr.out.below Hbz.out)
          obtain ⟨ad, x', hA, hab, hax, d0, d1, d2, hx', hps⟩ := HRr.out.at_ (k := k) (by rw [hnl.out]; exact hkn)
          obtain rfl : x' = x := Option.some.inj (hx'.out.symm.trans Hx.out)
          obtain ⟨xi, xn, xA, xc, xps⟩ := x'
          have hi : xi = z := hi0.out
          obtain ⟨np, hnp⟩ : ∃ n, Hid (xps.length = n) := ⟨_, rfl⟩
          simp only [hnp.out] at d0 d1 d2 hps
          have Hps := Lib.hid hps
          have hsm := Lib.hid (Hs.out _ (mem_of_get (Rm_get Hx.out)))
          obtain ⟨g2, hg2⟩ : ∃ g, Hid (wz.heap.size = g) := ⟨_, rfl⟩
          clear hx' hps
          subst hA
          go_upto_region 7 with fail
          obtain ⟨W2, hW2⟩ : ∃ W', Hid (wz.alloc (.cells #[.int .i64 z, .int .i64 xn, .slice xA np xc] 139) = W') := ⟨_, rfl⟩
          have hb2 : Hid (Below wz.heap.size wz W2) := by rw [← hW2.out]; exact below_new _ _
          have hc2 : Hid (W2.heap[g2]? = some (.cells #[.int .i64 z, .int .i64 xn, .slice xA np xc] 139 (0, 0))) := by rw [← hW2.out, ← hg2.out]; exact heap_alloc_new _ _
          rw [hW2.out, hg2.out]
          have Hps2 := Lib.hid (Hps.out.below hb2.out)
          have d20 := three_cell hc2.out
          have Hbl2 : Hid (RdB W2 B Ab bl) := Reads.below Hbl.out ((Hbz.out.trans (hb2.out.mono Hbz.out.size)).mono (Nat.le_trans HB2.out HB.out.below.size))
          have HB3 : Hid (B ≤ W2.heap.size) := Nat.le_trans (Nat.le_trans (Nat.le_trans HB2.out HB.out.below.size) Hbz.out.size) hb2.out.size
          clear d0 d1 d2 hW2
          go_upto_region 8 with (go_at_call 83; refine (rapp_n hnp.out hsm.out Hps2.out Hm.out hm2 HB3.out Hbl2.out).mono ?_; rintro e w3 ⟨A', c', n', ps', rfl, hb3, hn3, hp3, hm3⟩; have e20 := three_cell ((hb3.block _ (Array.getElem?_eq_some_iff.1 hc2.out).1).trans hc2.out); have f20 := three_frozen (i := 2) ((hb3.block _ (Array.getElem?_eq_some_iff.1 hc2.out).1).trans hc2.out); have Hb3 := Lib.hid hb3; have Hn3 := Lib.hid hn3; have Hp3 := Lib.hid hp3; have Hm3 := Lib.hid hm3; clear hb3 hn3 hp3 hm3)
          obtain ⟨W4, hW4⟩ : ∃ W', Hid (w3.setCell ⟨g2, 2, none⟩ (.slice A' n' c') = W') := ⟨_, rfl⟩
          have hT4 : Hid (Touch (fun j => j = g2) w3 W4) := by rw [← hW4.out]; exact Touch.cell1 _ _ _ _
          have hc3 := (Hb3.out.block _ (Array.getElem?_eq_some_iff.1 hc2.out).1).trans hc2.out
          have hc4 : Hid (W4.heap[g2]? = some (.cells #[.int .i64 z, .int .i64 xn, .slice A' n' c'] 139 (0, 0))) := by rw [← hW4.out]; exact three_set2 _ hc3
          rw [hW4.out]
          have hg2W : g2 < W2.heap.size := (Array.getElem?_eq_some_iff.1 hc2.out).1
          have hb14 : Hid (Below wz.heap.size wz W4) := (hb2.out.trans (Hb3.out.mono hb2.out.size)).trans (hT4.out.below (Nat.le_trans hb2.out.size Hb3.out.size) fun j (e : j = g2) => by rw [e, ← hg2.out]; omega)
          have Hb4 : Hid (Below W.heap.size W W4) := Hbz.out.trans (hb14.out.mono Hbz.out.size)
          have HR4 := Lib.hid (HRr.out.below hb14.out)
          have HP4 : Hid (PsX W4 (AY w W X) A' ps') := (Hp3.out.keep (hT4.out.mono fun j _ (e : j = g2) => by show j < W2.heap.size; omega)).mono fun j _ (e : AY w W X j) => by have := e.1; have := Hbz.out.size; have := hb2.out.size; show j < W2.heap.size; omega
          have m0 := three_cell (HB.out.at0 Hb4.out)
          have m2 := three_cell hc4.out
          clear e20 f20 d20 hW4 hc3
          go_wp2_with (go_at_call 84; refine (rwith_n hnl.out hl2.out HR4.out Hn3.out HP4.out hkn).mono ?_; rintro e w5 ⟨u, rfl, hb5, A5, c5, es5, rfl, hr5, hm5⟩; have Hb5 := Lib.hid (Hb4.out.trans (hb5.mono Hb4.out.size)); have q1 := three_cell (HB.out.at1 Hb5.out); have q2 := three_frozen (i := 0) (HB.out.at1 Hb5.out); have q3 := three_frozen (i := 1) (HB.out.at1 Hb5.out); have q4 := three_frozen (i := 2) (HB.out.at1 Hb5.out); obtain ⟨n5, hn5⟩ : ∃ n, Hid (List.length es5 = n) := ⟨_, rfl⟩; rw [hn5.out]; have Hr5 := Lib.hid hr5; have Hm5 := Lib.hid hm5; clear hb5 hr5 hm5)
          have hz := three_set (.slice A5 n5 c5) (.int .i64 q) (.int .i64 l) (HB.out.at1 Hb5.out)
          refine ret_tab2 rfl g1 _ _ _ _ (0, 0) rfl hz rfl ?_
          refine ⟨_, _, rfl, HB.out.fin Hb5.out _ _ _, .inr (.inr ⟨rfl, hfin.out, k, _, Rm_get Hx.out, hi, HB.out.ans ⟨A5, c5, es5, by rw [hn5.out], Hr5.out.mono fun j _ (e : AY w W X j) => ⟨by have := e.1; have := Hb4.out.size; omega, e⟩, by rw [Hm5.out, Hm3.out, ← hi]; rfl⟩ _ _ _⟩)⟩
end Go.Proofs.YtbhmnmmockmibaaGreat
