/- The walks of the reference's New and All. Conditions: at most 1000 files. The walk of the reference's Drop. Conditions: at most 1000 files, any names. What ties the project's files to the reference's list. Conditions: numbers rise. The walk of the reference's Fail. Conditions: at most 1000 files, names, told. -/
import Derived.Test.YtbhmnmmockmibaaGreatDoorKnFuF
import Derived.Deep.RegionHeld3
import Derived.BigQuiet
namespace Go.Proofs.YtbhmnmmockmibaaGreatDoor
open Go.RowKit
set_option maxRecDepth 100000 in
theorem rnew_any {X : Nat → Prop} (quota : Int) (w : World) (_h1 : -9223372036854775808 ≤ quota) (_h2 : quota ≤ 9223372036854775807) :
    Calls Tryz.prog 66 #[.int .i64 quota] w fun e w' => ∃ u, e = .returned u ∧ Below w.heap.size w w' ∧ RefT w' X u [] (max quota 0) 0 := by
  have n1 := heap_alloc_new w (.cells #[.slice none 0 0, .int .i64 (max quota 0), .int .i64 0] 81)
  go_enter Tryz.func66, Tryz.ntmps66
  go_wp2
  refine ret_tab1 rfl w.heap.size (.slice none 0 0) (.int .i64 (max quota 0)) (.int .i64 0) 81 (0, 0) rfl n1 rfl ?_
  exact ⟨_, rfl, below_new _ _, none, 0, [], rfl, RtX.nil, rfl⟩
end Go.Proofs.YtbhmnmmockmibaaGreatDoor

namespace Go.Proofs.YtbhmnmmockmibaaGreatDoor
open Go.RowKit
/-- What Drop keeps of the first j files. -/
def outR (M : List Rm) (k : Nat) : Nat → List Rm
  | 0 => []
  | j + 1 => outR M k j ++ match M[j]? with
    | none => []
    | some x => if j = k then (if 0 < wrap64 (x.n - 1) then [⟨x.i, wrap64 (x.n - 1), x.m⟩] else []) else [x]
theorem outR_keep {M : List Rm} {k j : Nat} {x : Rm} (h : M[j]? = some x) (hk : j ≠ k) : outR M k (j + 1) = outR M k j ++ [x] := by
  simp [outR, h, hk]
theorem outR_less {M : List Rm} {k : Nat} {x : Rm} (h : M[k]? = some x) (hn : 0 < wrap64 (x.n - 1)) : outR M k (k + 1) = outR M k k ++ [⟨x.i, wrap64 (x.n - 1), x.m⟩] := by
  simp only [outR, h, if_true]
  rw [if_pos hn]
theorem outR_gone {M : List Rm} {k : Nat} {x : Rm} (h : M[k]? = some x) (hn : ¬ 0 < wrap64 (x.n - 1)) : outR M k (k + 1) = outR M k k := by
  simp only [outR, h, if_true]
  rw [if_neg hn, List.append_nil]
theorem push_rvn {ops : Array Oper} {rest : List Oper} {o : Oper} {a : Act} {Q : Exit → Act → World → Prop} {w : World} {base : Nat} {v : Value} {N n np c : Nat} {i m : Int} {A : Option Addr} {ps : List Pa} (s y : Operand) {es : List Rv} (hnp : ps.length = np) (hown : w.ownsRow base 182 3 v n (rvcells es)) (hbase : base ≤ w.heap.size) (hl : n ≤ 100000)
    (hgd : o.guard = none) (ho : o.op = .call { callee := .builtin .append, args := #[s, y], argTypes := #[79, 79] })
    (hs : a.eval s = v) (hy : a.eval y = .slice (some ⟨N, 0, none⟩) 1 1) (hN : w.heap.size = N)
    (h : ∀ A' c' w', w'.ownsRow base 182 3 (.slice A' (n + 1) c') (n + 1) (rvcells (es ++ [⟨i, m, A, c, ps⟩])) → w.grownBy w' v.ownBlock → Below base w w' → wpList Tryz.prog ops Q rest (a.put o.dst (.slice A' (n + 1) c')) w') :
    wpList Tryz.prog ops Q (o :: rest) a (w.alloc (.cells #[.int .i64 i, .int .i64 m, .slice A np c] 182)) := by
  subst hnp
  exact push_rv s y ⟨i, m, A, c, ps⟩ hown hbase hl hgd ho hs hy hN h
/-- Where a table stands that is being made. -/
structure DSt (W1 wr : World) (g2 : Nat) (q l : Int) (es : List Rv) (M : List Rm) (A : Option Addr) (n c : Nat) (es' : List Rv) : Prop where
  size : g2 < W1.heap.size
  touch : Touch (fun b => b = g2) W1 wr
  box : wr.heap[g2]? = some (.cells #[.slice A n c, .int .i64 q, .int .i64 l] 81 (0, 0))
  own : wr.ownsRow W1.heap.size 182 3 (.slice A n c) n (rvcells es')
  len : es'.length = n
  vals : es'.map Rv.m = M
  src : ∀ e ∈ es', ∃ x ∈ es, e.A = x.A ∧ e.ps = x.ps
section
variable {W1 wr wa : World} {g2 n c : Nat} {q l : Int} {es es' : List Rv} {M : List Rm} {A : Option Addr}
theorem DSt.step (h : DSt W1 wr g2 q l es M A n c es') (hb : Below wr.heap.size wr wa) : DSt W1 wa g2 q l es M A n c es' :=
  ⟨h.size, h.touch.trans (Touch.of hb), (hb.block _ (Array.getElem?_eq_some_iff.1 h.box).1).trans h.box, own_below h.own hb (Nat.le_refl _), h.len, h.vals, h.src⟩
theorem DSt.size' (h : DSt W1 wr g2 q l es M A n c es') : W1.heap.size ≤ wr.heap.size := h.touch.size
theorem DSt.snoc (h : DSt W1 wa g2 q l es M A n c es') {w6 : World} {A6 : Option Addr} {c6 : Nat} {x : Rv} (hO : w6.ownsRow W1.heap.size 182 3 (.slice A6 (n + 1) c6) (n + 1) (rvcells (es' ++ [x]))) (hb : Below W1.heap.size wa w6) (hx : ∃ y ∈ es, x.A = y.A ∧ x.ps = y.ps) :
    DSt W1 (w6.setCell ⟨g2, 0, none⟩ (.slice A6 (n + 1) c6)) g2 q l es (M ++ [x.m]) A6 (n + 1) c6 (es' ++ [x]) := by
  have hT := Touch.cell1 w6 g2 0 (.slice A6 (n + 1) c6)
  have hb6 := (hb.block g2 h.size).trans h.box
  have ht6 : Touch (fun b => b = g2) W1 w6 := ⟨hb.os.trans h.touch.os, hb.tape.trans h.touch.tape, hb.output.trans h.touch.output, Nat.le_trans h.touch.size hb.size, fun k hk hn => (hb.block k hk).trans (h.touch.block k hk hn)⟩
  refine ⟨h.size, ht6.trans hT, three_set0 _ hb6, own_touch hO hT fun b hbb (e : b = g2) => ?_, by rw [List.length_append, h.len]; rfl, by rw [List.map_append, h.vals]; rfl, ?_⟩
  · have h1 := (hO.lt b hbb).1
    have h2 := h.size
    omega
  · intro e he
    rcases List.mem_append.1 he with h' | h'
    · exact h.src e h'
    · rw [List.mem_singleton.1 h']; exact hx
theorem DSt.at2 (h : DSt W1 wr g2 q l es M A n c es') : (wr.cell? ⟨g2, 0, none⟩ = some (.slice A n c) ∧ wr.cell? ⟨g2, 1, none⟩ = some (.int .i64 q) ∧ wr.cell? ⟨g2, 2, none⟩ = some (.int .i64 l)) ∧ wr.frozen? ⟨g2, 0, none⟩ = false := ⟨three_cell h.box, three_frozen h.box⟩
end
set_option maxHeartbeats 3000000 in
set_option maxRecDepth 100000 in
theorem rdropT_any {X : Nat → Prop} {v : Value} {M : List Rm} {q l z : Int} {w : World} (hl : M.length ≤ 1000) (hs : ∀ x ∈ M, -9223372036854775808 ≤ x.n ∧ x.n ≤ 9223372036854775807) (hr : RefT w X v M q l) :
    Calls Tryz.prog 105 #[v, .int .i64 z] w fun e w' => ∃ u er, e = .returned (.tuple #[u, .int .i64 er]) ∧ Below w.heap.size w w' ∧ ((er = 80 ∧ (∀ x ∈ M, x.i ≠ z) ∧ RefT w' (AX w X) u M q l) ∨ (er = 0 ∧ ∃ (k : Nat) (x : Rm), M[k]? = some x ∧ x.i = z ∧ RefT w' (AX w X) u (outR M k M.length) q l)) := by
  obtain ⟨A, c, es, rfl, h1, rfl⟩ := hr
  rw [List.length_map] at hl
  obtain ⟨nl, hnl⟩ : ∃ n, Hid (es.length = n) := ⟨_, rfl⟩
  have hl2 : Hid (nl ≤ 1000) := by rw [← hnl.out]; exact hl
  have Hs := Lib.hid hs
  rw [hnl.out]
  obtain ⟨W, hW⟩ : ∃ W, Hid ((w.alloc (.cells #[.slice A nl c, .int .i64 q, .int .i64 l] 81)).alloc (.cells #[.slice none 0 0, .int .i64 0, .int .i64 0] 81) = W) := ⟨_, rfl⟩
  obtain ⟨g0, hg0⟩ : ∃ g, Hid (w.heap.size = g) := ⟨_, rfl⟩
  obtain ⟨g1, hg1⟩ : ∃ g, Hid (w.heap.size + 1 = g) := ⟨_, rfl⟩
  have HB := Lib.hid (Bx.of hW.out hg0.out hg1.out)
  have Hr := Lib.hid (HB.out.start h1)
  have c0 := three_cell HB.out.c0
  clear h1 hl hs
  go_enter Tryz.func105, Tryz.ntmps105
  go_upto_region 1 with fail
  rw [hW.out, hg1.out, hg0.out]
  go_upto_region 2 with (go_at_call 107; refine (rfind_n hnl.out hl2.out Hr.out).mono ?_; rintro e w1 ⟨r, rfl, hb1, hcase⟩)
  have Hb1 := Lib.hid hb1
  have k0 := three_cell (HB.out.at0 Hb1.out)
  have k1 := three_cell (HB.out.at1 Hb1.out)
  have k2 := three_frozen (i := 0) (HB.out.at1 Hb1.out)
  have k3 := three_frozen (i := 1) (HB.out.at1 Hb1.out)
  have k4 := three_frozen (i := 2) (HB.out.at1 Hb1.out)
  clear hb1 c0
  rcases hcase with ⟨rfl, hno⟩ | ⟨k, x, rfl, hx, hi⟩
  · go_wp2
    have hz := three_set (.slice A nl c) (.int .i64 q) (.int .i64 l) (HB.out.at1 Hb1.out)
    refine ret_tab2 rfl g1 _ _ _ _ (0, 0) rfl hz rfl ?_
    exact ⟨_, _, rfl, HB.out.fin Hb1.out _ _ _, .inl ⟨rfl, ne_of_all hno, HB.out.ans ⟨A, c, es, by rw [hnl.out], Hr.out.below Hb1.out, rfl⟩ _ _ _⟩⟩
  · have hkn : k < nl := by rw [← hnl.out]; exact (List.getElem?_eq_some_iff.1 hx).1
    have Hx := Lib.hid hx
    have hi0 := Lib.hid hi
    clear hx hi hW k1 k2 k3 k4
    go_upto_region 5 with fail
    obtain ⟨W1, hW1⟩ : ∃ W', Hid (w1.alloc (.cells #[.slice none 0 0, .int .i64 q, .int .i64 l] 81) = W') := ⟨_, rfl⟩
    obtain ⟨g2, hg2⟩ : ∃ g, Hid (w1.heap.size = g) := ⟨_, rfl⟩
    have hbW1 : Hid (Below w1.heap.size w1 W1) := by rw [← hW1.out]; exact below_new _ _
    have hst0 : Hid (DSt W1 W1 g2 q l es [] none 0 0 []) := by
      refine ⟨?_, Touch.refl _ _, ?_, World.ownsRow_nil _ _ _ _, rfl, rfl, by simp⟩
      · rw [← hW1.out, ← hg2.out]; simp
      · rw [← hW1.out, ← hg2.out]; exact heap_alloc_new _ _
    rw [hW1.out, hg2.out]
    clear k0 hW1
    go_wp2
    go_loopw [8, 9] (fun i _ wr => ∃ (j n' c' : Nat) (A' : Option Addr) (es' : List Rv), j ≤ nl ∧ n' ≤ j ∧ i = .int .i64 (j : Int) ∧ Hid (DSt W1 wr g2 q l es (outR (es.map Rv.m) k j) A' n' c' es')) (fun i _ _ => nl - (intOf i).toNat)
    case atStart => exact ⟨0, 0, 0, none, [], by omega, by omega, rfl, hst0.out⟩
    case round =>
      obtain ⟨j, n', c', A', es', hj, hnj, rfl, hst⟩ := hrel
      have hbw1 : Hid (Below w1.heap.size W1 wr) := hst.out.touch.below hbW1.out.size fun b (e : b = g2) => by rw [e, ← hg2.out]; omega
      have Hbr : Hid (Below W.heap.size W wr) := Hb1.out.trans ((hbW1.out.trans hbw1.out).mono Hb1.out.size)
      have hjI : (j : Int) ≤ 1000 := by have := hl2.out; omega
      have k0 := three_cell (HB.out.at0 Hbr.out)
      by_cases hlt : j < nl
      · obtain ⟨ad, x', hA, hab, hax, d0, d1, d2, hx', hps⟩ := (Hr.out.below Hbr.out).at_ (k := j) (by rw [hnl.out]; exact hlt)
        obtain ⟨xi, xn, xA, xc, xps⟩ := x'
        obtain ⟨np, hnp⟩ : ∃ n, Hid (xps.length = n) := ⟨_, rfl⟩
        simp only [hnp.out] at d0 d1 d2
        have hsm : Hid (-9223372036854775808 ≤ xn ∧ xn ≤ 9223372036854775807) := Hs.out _ (mem_of_get (Rm_get hx'.out))
        have hxn1 := hsm.out.1
        have hxn2 := hsm.out.2
        have hsrc : Hid (∃ y ∈ es, xA = y.A ∧ xps = y.ps) := ⟨_, mem_of_get hx'.out, rfl, rfl⟩
        have hM : Hid ((es.map Rv.m)[j]? = some ⟨xi, xn, says xps⟩) := Rm_get hx'.out
        obtain ⟨g3, hg3⟩ : ∃ g, Hid (wr.heap.size = g) := ⟨_, rfl⟩
        clear hab hax hps
        subst hA
        go_upto_region 9 with fail
        obtain ⟨Wa, hWa⟩ : ∃ W', Hid (wr.alloc (.cells #[.int .i64 xi, .int .i64 xn, .slice xA np xc] 182) = W') := ⟨_, rfl⟩
        have hba : Hid (Below wr.heap.size wr Wa) := by rw [← hWa.out]; exact below_new _ _
        have hca : Hid (Wa.heap[g3]? = some (.cells #[.int .i64 xi, .int .i64 xn, .slice xA np xc] 182 (0, 0))) := by rw [← hWa.out, ← hg3.out]; exact heap_alloc_new _ _
        rw [hWa.out, hg3.out]
        clear d0 d1 d2 k0 hWa
        by_cases hjk : j = k
        · subst hjk
          have d3 := three_cell hca.out
          have f3 := three_frozen (i := 1) hca.out
          go_upto_region 11 with fail
          obtain ⟨x1, hx1⟩ : ∃ y, Hid (wrap64 (xn - 1) = y) := ⟨_, rfl⟩
          rw [hx1.out]
          obtain ⟨Wb, hWb⟩ : ∃ W', Hid (Wa.setCell ⟨g3, 1, none⟩ (.int .i64 x1) = W') := ⟨_, rfl⟩
          have hTb : Hid (Touch (fun b => b = g3) Wa Wb) := by rw [← hWb.out]; exact Touch.cell1 _ _ _ _
          have hcb : Hid (Wb.heap[g3]? = some (.cells #[.int .i64 xi, .int .i64 x1, .slice xA np xc] 182 (0, 0))) := by rw [← hWb.out]; exact three_set1 _ hca.out
          have hbb : Hid (Below wr.heap.size wr Wb) := hba.out.trans (hTb.out.below hba.out.size fun b (e : b = g3) => by rw [e, ← hg3.out]; omega)
          have hsb := Lib.hid (hst.out.step hbb.out)
          rw [hWb.out]
          clear d3 f3 hWb
          have d3 := three_cell hcb.out
          by_cases hpos : 0 < x1
          · have hdp : decide (0 < x1) = true := decide_eq_true hpos
            obtain ⟨m2, m3⟩ := hsb.out.at2
            go_wp2_with (at_builtin; refine push_rvn (.tmp 49) (.tmp 51) hnp.out hsb.out.own hsb.out.size' (by omega) rfl rfl rfl rfl rfl ?_; intro A6 c6 w6 hO6 hg6 hb6; have Hst6 := Lib.hid (hsb.out.snoc hO6 hb6 hsrc.out); obtain ⟨u2, u3⟩ := (⟨three_cell ((hb6.block g2 hsb.out.size).trans hsb.out.box), three_frozen (i := 0) ((hb6.block g2 hsb.out.size).trans hsb.out.box)⟩ : _ ∧ _); clear hO6 hg6 hb6)
            go_roundw
            case rel => exact ⟨j + 1, n' + 1, c6, A6, es' ++ [⟨xi, x1, xA, xc, xps⟩], by omega, by omega, by go_num, by rw [outR_less hM.out (by rw [hx1.out]; exact hpos)]; show DSt _ _ _ _ _ _ (_ ++ [⟨xi, wrap64 (xn - 1), _⟩]) _ _ _ _; rw [hx1.out]; exact Hst6.out⟩
            case measure => simp [intOf]; omega
          · have hdp : decide (0 < x1) = false := decide_eq_false hpos
            go_wp2
            go_roundw
            case rel => exact ⟨j + 1, n', c', A', es', by omega, by omega, by go_num, by rw [outR_gone hM.out (by rw [hx1.out]; exact hpos)]; exact hsb.out⟩
            case measure => simp [intOf]; omega
        · have hjki : ¬ (j : Int) = (k : Int) := by omega
          have hdk : decide ((j : Int) = (k : Int)) = false := decide_eq_false hjki
          have hsb := Lib.hid (hst.out.step hba.out)
          obtain ⟨m2, m3⟩ := hsb.out.at2
          have d3 := three_cell hca.out
          go_wp2_with (at_builtin; refine push_rvn (.tmp 49) (.tmp 51) hnp.out hsb.out.own hsb.out.size' (by omega) rfl rfl rfl rfl rfl ?_; intro A6 c6 w6 hO6 hg6 hb6; have Hst6 := Lib.hid (hsb.out.snoc hO6 hb6 hsrc.out); obtain ⟨u2, u3⟩ := (⟨three_cell ((hb6.block g2 hsb.out.size).trans hsb.out.box), three_frozen (i := 0) ((hb6.block g2 hsb.out.size).trans hsb.out.box)⟩ : _ ∧ _); clear hO6 hg6 hb6)
          go_roundw
          case rel => exact ⟨j + 1, n' + 1, c6, A6, es' ++ [⟨xi, xn, xA, xc, xps⟩], by omega, by omega, by go_num, by rw [outR_keep hM.out hjk]; exact Hst6.out⟩
          case measure => simp [intOf]; omega
      · have hjn : j = nl := by omega
        have q1 := three_cell (HB.out.at1 Hbr.out)
        have q2 := three_frozen (i := 0) (HB.out.at1 Hbr.out)
        have q3 := three_frozen (i := 1) (HB.out.at1 Hbr.out)
        have q4 := three_frozen (i := 2) (HB.out.at1 Hbr.out)
        obtain ⟨m2, m3⟩ := hst.out.at2
        go_wp2
        have hz := three_set (.slice A' n' c') (.int .i64 q) (.int .i64 l) (HB.out.at1 Hbr.out)
        refine ret_tab2 rfl g1 _ _ _ _ (0, 0) rfl hz rfl ?_
        have hW1s : W.heap.size ≤ W1.heap.size := Nat.le_trans Hb1.out.size hbW1.out.size
        have hRT : RefT wr (AY w W X) (.agg #[.slice A' n' c', .int .i64 q, .int .i64 l]) (outR (es.map Rv.m) k (es.map Rv.m).length) q l := by
          refine ⟨A', c', es', by rw [hst.out.len], ⟨?_, fun e he => ?_⟩, ?_⟩
          · rw [hst.out.len]
            exact own_avoid hst.out.own fun b (e : AY w W X b) => Nat.lt_of_lt_of_le e.1 hW1s
          · obtain ⟨y, hy, e1, e2⟩ := hst.out.src e he
            rw [e1, e2]
            exact (Hr.out.below Hbr.out).file y hy
          · rw [hst.out.vals, hjn, List.length_map, hnl.out]
        exact ⟨_, _, rfl, HB.out.fin Hbr.out _ _ _, .inr ⟨rfl, k, _, Rm_get Hx.out, hi0.out, HB.out.ans hRT _ _ _⟩⟩
end Go.Proofs.YtbhmnmmockmibaaGreatDoor

namespace Go.Proofs.YtbhmnmmockmibaaGreatDoor
open Go.RowKit
def rmF (f : Fi) : Rm := ⟨f.i, f.n, f.m⟩
def rmT (fs : List Fi) : List Rm := fs.map rmF
theorem rmT_len (fs : List Fi) : (rmT fs).length = fs.length := by simp [rmT]
theorem rmT_used (fs : List Fi) : usedR (rmT fs) = usedF fs := by simp [usedR, sumR, rmT, rmF, usedF, sumF, Function.comp_def]
theorem rmT_get {fs : List Fi} {k : Nat} {x : Rm} (h : (rmT fs)[k]? = some x) : ∃ f, fs[k]? = some f ∧ x = rmF f := by
  unfold rmT at h
  rw [List.getElem?_map] at h
  cases hf : fs[k]? with
  | none => rw [hf] at h; cases h
  | some f => rw [hf] at h; injection h with h; exact ⟨f, rfl, h.symm⟩
theorem rmT_none {fs : List Fi} {z : Int} (h : ∀ x ∈ rmT fs, x.i ≠ z) : findF fs z = none := by
  unfold findF
  rw [List.find?_eq_none]
  intro f hf e
  exact h (rmF f) (List.mem_map_of_mem hf) (show f.i = z by simpa using e)
theorem rmT_some {fs : List Fi} {z : Int} {k : Nat} {x : Rm} (hs : fs.Pairwise fun a b => a.i < b.i) (h : (rmT fs)[k]? = some x) (hz : x.i = z) : ∃ f, fs[k]? = some f ∧ findF fs z = some f ∧ x = rmF f := by
  obtain ⟨f, hf, rfl⟩ := rmT_get h
  refine ⟨f, hf, ?_, rfl⟩
  have := findF_at hs hf
  rw [show f.i = z from hz] at this
  exact this
theorem pair_other {fs : List Fi} {k j : Nat} {f y : Fi} (hs : fs.Pairwise fun a b => a.i < b.i) (hf : fs[k]? = some f) (hy : fs[j]? = some y) (hjk : j ≠ k) : y.i ≠ f.i := by
  obtain ⟨hk, e1⟩ := List.getElem?_eq_some_iff.1 hf
  obtain ⟨hj, e2⟩ := List.getElem?_eq_some_iff.1 hy
  have h := List.pairwise_iff_getElem.1 hs
  rcases Nat.lt_or_ge j k with hlt | hge
  · have := h j k hj hk hlt
    rw [e1, e2] at this
    omega
  · have := h k j hk hj (by omega)
    rw [e1, e2] at this
    omega
theorem rmT_upd {fs : List Fi} {k : Nat} {f : Fi} {n : Int} {m : List Pt} (hs : fs.Pairwise fun a b => a.i < b.i) (hf : fs[k]? = some f) : (rmT fs).set k ⟨f.i, n, m⟩ = rmT (updF fs f.i n m) := by
  apply List.ext_getElem?
  intro j
  unfold rmT updF
  rw [List.getElem?_map, List.getElem?_map]
  by_cases hj : j = k
  · subst hj
    have hl := (List.getElem?_eq_some_iff.1 hf).1
    rw [List.getElem?_set_self (by rw [List.length_map]; exact hl), hf]
    simp [rmF]
  · rw [List.getElem?_set_ne (by omega), List.getElem?_map]
    cases hy : fs[j]? with
    | none => rfl
    | some y =>
      have := pair_other hs hf hy hj
      simp [rmF, this]
theorem outR_all {M : List Rm} {k : Nat} {x : Rm} (h : M[k]? = some x) : ∀ j, j ≤ M.length → outR M k j = if j ≤ k then M.take j else if 0 < wrap64 (x.n - 1) then (M.set k ⟨x.i, wrap64 (x.n - 1), x.m⟩).take j else M.take k ++ (M.take j).drop (k + 1)
  | 0, _ => by simp [outR]
  | j + 1, hj => by
    have ih := outR_all h j (by omega)
    obtain ⟨y, hy⟩ : ∃ y, M[j]? = some y := ⟨M[j]'(by omega), List.getElem?_eq_getElem _⟩
    by_cases hjk : j = k
    · subst hjk
      obtain rfl : x = y := Option.some.inj (h.symm.trans hy)
      rw [if_pos (Nat.le_refl _)] at ih
      rw [if_neg (by omega)]
      by_cases hp : 0 < wrap64 (x.n - 1)
      · rw [outR_less h hp, if_pos hp, ih]
        rw [take_snoc (k := j) (x := (⟨x.i, wrap64 (x.n - 1), x.m⟩ : Rm)) (Lib.hid (List.getElem?_set_self (by omega)))]
        rw [List.take_set_of_le (Nat.le_refl _)]
      · rw [outR_gone h hp, if_neg hp, ih, List.drop_eq_nil_of_le (by rw [List.length_take]; omega), List.append_nil]
    · rw [outR_keep hy hjk, ih]
      by_cases hlt : j ≤ k
      · rw [if_pos hlt, if_pos (by omega)]
        exact (take_snoc (Lib.hid hy)).symm
      · rw [if_neg hlt]
        rw [if_neg (show ¬ j + 1 ≤ k by omega)]
        by_cases hp : 0 < wrap64 (x.n - 1)
        · rw [if_pos hp, if_pos hp]
          exact (take_snoc (Lib.hid ((List.getElem?_set_ne (by omega)).trans hy))).symm
        · rw [if_neg hp, if_neg hp, take_snoc (Lib.hid hy), List.drop_append_of_le_length (by rw [List.length_take]; omega), List.append_assoc]
theorem outR_end {M : List Rm} {k : Nat} {x : Rm} (h : M[k]? = some x) : outR M k M.length = if 0 < wrap64 (x.n - 1) then M.set k ⟨x.i, wrap64 (x.n - 1), x.m⟩ else M.take k ++ M.drop (k + 1) := by
  have hk := (List.getElem?_eq_some_iff.1 h).1
  rw [outR_all h _ (Nat.le_refl _), if_neg (by omega), List.take_length]
  by_cases hp : 0 < wrap64 (x.n - 1)
  · rw [if_pos hp, if_pos hp, List.take_of_length_le (by rw [List.length_set]; exact Nat.le_refl _)]
  · rw [if_neg hp, if_neg hp]
theorem upd_set {fs : List Fi} {k : Nat} {f : Fi} {n : Int} {m : List Pt} (hs : fs.Pairwise fun a b => a.i < b.i) (hf : fs[k]? = some f) : updF fs f.i n m = fs.set k ⟨f.i, f.g, n, m⟩ := by
  apply List.ext_getElem?
  intro j
  unfold updF
  rw [List.getElem?_map]
  by_cases hj : j = k
  · subst hj
    have hl := (List.getElem?_eq_some_iff.1 hf).1
    rw [List.getElem?_set_self hl, hf]
    simp
  · rw [List.getElem?_set_ne (by omega)]
    cases hy : fs[j]? with
    | none => rfl
    | some y =>
      have := pair_other hs hf hy hj
      simp [this]
theorem set_parts {α : Type} {l : List α} {k : Nat} (x : α) (hk : k < l.length) : l.set k x = l.take k ++ x :: l.drop (k + 1) := by
  rw [List.set_eq_take_append_cons_drop, if_pos hk]
theorem rmT_drop {fs : List Fi} {k : Nat} {f : Fi} (hs : fs.Pairwise fun a b => a.i < b.i) (hf : fs[k]? = some f) : outR (rmT fs) k (rmT fs).length = rmT (leaveF (updF fs f.i (wrap64 (f.n - 1)) f.m) f.i (wrap64 (f.n - 1))) := by
  have hk := (List.getElem?_eq_some_iff.1 hf).1
  have hM : (rmT fs)[k]? = some (rmF f) := by unfold rmT; rw [List.getElem?_map, hf]; rfl
  rw [outR_end hM]
  have hs2 : (updF fs f.i (wrap64 (f.n - 1)) f.m).Pairwise fun a b => a.i < b.i := by
    have h1 : ((updF fs f.i (wrap64 (f.n - 1)) f.m).map Fi.i).Pairwise (· < ·) := by rw [updF_i]; exact List.pairwise_map.2 hs
    exact List.pairwise_map.1 h1
  have hu := upd_set (n := wrap64 (f.n - 1)) (m := f.m) hs hf
  rw [hu] at hs2 ⊢
  rw [set_parts _ hk] at hs2 ⊢
  have hl := leave_mid (f := ⟨f.i, f.g, wrap64 (f.n - 1), f.m⟩) hs2
  show _ = rmT (leaveF _ f.i (wrap64 (f.n - 1)))
  rw [show leaveF (fs.take k ++ ⟨f.i, f.g, wrap64 (f.n - 1), f.m⟩ :: fs.drop (k + 1)) f.i (wrap64 (f.n - 1)) = _ from hl]
  by_cases hp : 0 < wrap64 (f.n - 1)
  · rw [if_pos (show 0 < wrap64 ((rmF f).n - 1) from hp), set_parts _ (by rw [rmT_len]; exact hk)]
    unfold stayF
    rw [if_neg (show ¬ wrap64 (f.n - 1) < 1 by omega)]
    simp [rmT, rmF]
  · rw [if_neg (show ¬ 0 < wrap64 ((rmF f).n - 1) from hp)]
    unfold stayF
    rw [if_pos (show wrap64 (f.n - 1) < 1 by omega)]
    simp [rmT]
end Go.Proofs.YtbhmnmmockmibaaGreatDoor

namespace Go.Proofs.YtbhmnmmockmibaaGreatDoor
open Go.RowKit
/-- What the kept files' parts lie apart from. -/
abbrev OX (Y : Nat → Prop) (g2 : Nat) (v : Value) : Nat → Prop := fun b => Y b ∨ v.ownBlock = some b ∨ b = g2
theorem PsX.high' {w : World} {X : Nat → Prop} {A : Option Addr} {ps : List Pa} (h : PsX w X A ps) : PsX w (fun b => X b ∨ w.heap.size ≤ b) A ps := ⟨h.top.high', fun p hp => (h.row p hp).high'⟩
theorem OX.grow {wa w6 : World} {Y : Nat → Prop} {g2 : Nat} {v v' u : Value} {A : Option Addr} {ps : List Pa} (h : PsX wa (OX Y g2 v) A ps) (hg : wa.grownBy w6 v.ownBlock) (hk : v'.ownBlock = v.ownBlock ∨ v'.ownBlock = some (wa.heap.size + 1)) : PsX (w6.setCell ⟨g2, 0, none⟩ u) (OX Y g2 v') A ps := by
  have h1 := h.high'.keep (w' := w6) ((Touch.grown (X := fun b => v.ownBlock = some b) hg fun k e => e).mono fun b _ e => .inl (.inr (.inl e)))
  have h2 := h1.keep ((Touch.cell1 w6 g2 0 u).mono fun b _ (e : b = g2) => .inl (.inr (.inr e)))
  refine h2.mono fun b _ hb => ?_
  rcases hb with hb | hb | hb
  · exact .inl (.inl hb)
  · rcases hk with hk | hk
    · exact .inl (.inr (.inl (hk ▸ hb)))
    · rw [hk] at hb
      injection hb with hb
      exact .inr (by omega)
  · exact .inl (.inr (.inr hb))
theorem DSt.any {W1 wr : World} {g2 n c : Nat} {q l : Int} {es es' es2 : List Rv} {M : List Rm} {A : Option Addr} (h : DSt W1 wr g2 q l es M A n c es') (hs : ∀ e ∈ es', e ∈ es2) : DSt W1 wr g2 q l es2 M A n c es' :=
  ⟨h.size, h.touch, h.box, h.own, h.len, h.vals, fun e he => ⟨e, hs e he, rfl, rfl⟩⟩
end Go.Proofs.YtbhmnmmockmibaaGreatDoor
