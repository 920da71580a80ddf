/- The walk of the reference's Fail. Conditions: at most 1000 files, names, told. -/
import Derived.Test.YtbhmnmmockmibaaGreatKpFuU
import Derived.BigQuiet
namespace Go.Proofs.YtbhmnmmockmibaaGreat
open Go.RowKit
theorem rfail_n {X : Nat → Prop} {A Ak : Option Addr} {c ck B n m : Nat} {ps : List Pa} {keep : List Bool} {w : World} (hn : ps.length = n) (hs : SmM (says ps)) (hr : PsX w X A ps) (hm : keep.length = m) (hkl : m ≤ 1000) (hB : B ≤ w.heap.size) (hkr : RdK w B Ak keep) :
    Calls Tryz.prog 68 #[.agg #[.slice A n c], .slice Ak m ck] w fun e w' => ∃ A' c' n' ps', e = .returned (.agg #[.slice A' n' c']) ∧ Below w.heap.size w w' ∧ List.length ps' = n' ∧ PsX w' (XW w) A' ps' ∧ says ps' = failM (says ps) keep := by
  subst hn hm
  refine (rfail_any hs hr hkl hB hkr).mono ?_
  rintro e w' ⟨v, rfl, hb, A', c', ps', rfl, _, hp, hm⟩
  exact ⟨A', c', _, ps', rfl, hb, rfl, hp, hm⟩
theorem push_rvo {ops : Array Oper} {rest : List Oper} {o : Oper} {a : Act} {Q : Exit → Act → World → Prop} {w : World} {base : Nat} {v : Value} {N n np c : Nat} {i m : Int} {A : Option Addr} {ps : List Pa} (s y : Operand) {es : List Rv} (hnp : ps.length = np) (hown : w.ownsRow base 139 3 v n (rvcells es)) (hbase : base ≤ w.heap.size) (hl : n ≤ 100000)
    (hgd : o.guard = none) (ho : o.op = .call { callee := .builtin .append, args := #[s, y], argTypes := #[31, 31] })
    (hs : a.eval s = v) (hy : a.eval y = .slice (some ⟨N, 0, none⟩) 1 1) (hN : w.heap.size = N)
    (h : ∀ A' c' w', w'.ownsRow base 139 3 (.slice A' (n + 1) c') (n + 1) (rvcells (es ++ [⟨i, m, A, c, ps⟩])) → w.grownBy w' v.ownBlock → Below base w w' → ((Value.slice A' (n + 1) c').ownBlock = v.ownBlock ∨ (Value.slice A' (n + 1) c').ownBlock = some (w.heap.size + 1)) → wpList Tryz.prog ops Q rest (a.put o.dst (.slice A' (n + 1) c')) w') :
    wpList Tryz.prog ops Q (o :: rest) a (w.alloc (.cells #[.int .i64 i, .int .i64 m, .slice A np c] 139)) := by
  subst hnp hN
  obtain ⟨i0, hi0, hz0, hz1, hz2⟩ := info_parts info_entry
  have hnew := rv_new w ⟨i, m, A, c, ps⟩
  obtain ⟨ob, hob⟩ : ∃ ob, ob = Obj.cells #[.int .i64 i, .int .i64 m, .slice A ps.length c] 139 (0, 0) := ⟨_, rfl⟩
  simp only at hnew
  rw [← hob] at hnew ⊢
  have ha : (w.alloc ob).ownsRow base 139 3 v n (rvcells es) := World.ownsRow.alloc (w := w) hown ob
  refine wpList_append_any (w.alloc ob) hgd s y 31 ho base 139 i0 _ 3 40 Tryz.underlying31 hi0 hz0 hz1 hz2 rfl (by omega) v n (rvcells es) hs ha (w.heap.size + 1) _ 1 1 (rvcells [⟨i, m, A, c, ps⟩]) hy hnew (rvcells_one _) (by simp only [maxLen]; omega) (by omega) (by simp; omega) ?_
  intro v1 w1 h1 h2 h3
  have hb := ((Below.refl base w).alloc hbase _).trans (grown_below ha h2 (by simp; omega))
  rw [← rvcells_append] at h1
  obtain ⟨A1, c1, rfl, _⟩ := own_form h1
  exact h A1 c1 w1 h1 ⟨h2.os, h2.tape, h2.output, Nat.le_trans (by simp) h2.size, fun k hk hne => (h2.block k (by simp; omega) hne).trans (heap_alloc_old w _ hk)⟩ hb (by simpa using h3)
theorem Touch.drewN' {X : Nat → Prop} {w w' : World} (h : Touch X w w') (n : Nat) : Touch X w (w'.drewN n) := ⟨h.os, h.tape, h.output, h.size, h.block⟩
abbrev OX (Y : Nat → Prop) (g2 : Nat) (v : Value) : Nat → Prop := fun b => Y b ∨ v.ownBlock = some b ∨ b = g2
theorem PsX.high' {w : World} {X : Nat → Prop} {A : Option Addr} {ps : List Pa} (h : PsX w X A ps) : PsX w (fun b => X b ∨ w.heap.size ≤ b) A ps := ⟨h.top.high', fun p hp => (h.row p hp).high'⟩
theorem OX.grow {wa w6 : World} {Y : Nat → Prop} {g2 : Nat} {v v' u : Value} {A : Option Addr} {ps : List Pa} (h : PsX wa (OX Y g2 v) A ps) (hg : wa.grownBy w6 v.ownBlock) (hk : v'.ownBlock = v.ownBlock ∨ v'.ownBlock = some (wa.heap.size + 1)) : PsX (w6.setCell ⟨g2, 0, none⟩ u) (OX Y g2 v') A ps := by
  have h1 := h.high'.keep (w' := w6) ((Touch.grown (X := fun b => v.ownBlock = some b) hg fun k e => e).mono fun b _ e => .inl (.inr (.inl e)))
  have h2 := h1.keep ((Touch.cell1 w6 g2 0 u).mono fun b _ (e : b = g2) => .inl (.inr (.inr e)))
  refine h2.mono fun b _ hb => ?_
  rcases hb with hb | hb | hb
  · exact .inl (.inl hb)
  · rcases hk with hk | hk
    · exact .inl (.inr (.inl (hk ▸ hb)))
    · rw [hk] at hb
      injection hb with hb
      exact .inr (by omega)
  · exact .inl (.inr (.inr hb))
theorem DSt.any {W1 wr : World} {g2 n c : Nat} {q l : Int} {es es' es2 : List Rv} {M : List Rm} {A : Option Addr} (h : DSt W1 wr g2 q l es M A n c es') (hs : ∀ e ∈ es', e ∈ es2) : DSt W1 wr g2 q l es2 M A n c es' :=
  ⟨h.size, h.touch, h.box, h.own, h.len, h.vals, fun e he => ⟨e, hs e he, rfl, rfl⟩⟩
set_option maxHeartbeats 4000000 in
set_option maxRecDepth 100000 in
theorem rfailT_any {X : Nat → Prop} {v : Value} {M : List Rm} {q l : Int} {w : World} {An Ak : Option Addr} {cn ck B nn nk : Nat} {names : List En} {keep : List Bool} (hl : M.length ≤ 1000) (hs : ∀ x ∈ M, SmM x.m) (hr : RefT w X v M q l) (hnn : names.length = nn) (hnn2 : nn ≤ 1000) (hnr : EnX w X An names) (hnk : keep.length = nk) (hnk2 : nk ≤ 1000) (hB : B ≤ w.heap.size) (hkr : RdK w B Ak keep) :
    Calls Tryz.prog 32 #[v, .slice An nn cn, .slice Ak nk ck] w fun e w' => ∃ u, e = .returned u ∧ Below w.heap.size w w' ∧ RefT w' (AX w X) u (outF M names keep M.length) q l := by
  obtain ⟨A, c, es, rfl, h1, rfl⟩ := hr
  rw [List.length_map] at hl
  obtain ⟨nl, hnl⟩ : ∃ n, Hid (es.length = n) := ⟨_, rfl⟩
  have hl2 : Hid (nl ≤ 1000) := by rw [← hnl.out]; exact hl
  have Hs := Lib.hid hs
  have hvl := Lib.hid fun k => sumR_take (μ := fun x => volM x.m) (K := 1000) (k := k) (M := es.map Rv.m) (by rw [List.length_map]; exact hl) fun x hx => Nat.le_trans (volM_le _) (hs x hx).n
  rw [hnl.out]
  obtain ⟨W, hW⟩ : ∃ W, Hid ((w.alloc (.cells #[.slice A nl c, .int .i64 q, .int .i64 l] 33)).alloc (.cells #[.slice none 0 0, .int .i64 0, .int .i64 0] 33) = W) := ⟨_, rfl⟩
  obtain ⟨g0, hg0⟩ : ∃ g, Hid (w.heap.size = g) := ⟨_, rfl⟩
  obtain ⟨g1, hg1⟩ : ∃ g, Hid (w.heap.size + 1 = g) := ⟨_, rfl⟩
  have HB := Lib.hid (Bx.of hW.out hg0.out hg1.out)
  have Hr := Lib.hid (HB.out.start h1)
  have Hnr : Hid (EnX W X An names) := RdX.below hnr HB.out.below
  have Hkr : Hid (RdK W B Ak keep) := Reads.below hkr (HB.out.below.mono hB)
  have HBW : Hid (B ≤ W.heap.size) := Nat.le_trans hB HB.out.below.size
  have Hnn := Lib.hid hnn
  have Hnk := Lib.hid hnk
  have hnnI : (nn : Int) ≤ 1000 := by omega
  have hnkI : (nk : Int) ≤ 1000 := by omega
  have k0 := three_cell HB.out.c0
  clear h1 hl hs hnr hkr hB hnn hnk
  go_enter Tryz.func32, Tryz.ntmps32
  go_upto_region 1 with fail
  rw [hW.out, hg1.out, hg0.out]
  go_upto_region 2 with fail
  obtain ⟨W1, hW1⟩ : ∃ W', Hid (W.alloc (.cells #[.slice none 0 0, .int .i64 q, .int .i64 l] 33) = W') := ⟨_, rfl⟩
  obtain ⟨g2, hg2⟩ : ∃ g, Hid (W.heap.size = g) := ⟨_, rfl⟩
  have hbW1 : Hid (Below W.heap.size W W1) := by rw [← hW1.out]; exact below_new _ _
  have hst0 : Hid (DSt W1 W1 g2 q l [] [] none 0 0 []) := by
    refine ⟨?_, Touch.refl _ _, ?_, World.ownsRow_nil _ _ _ _, rfl, rfl, by simp⟩
    · rw [← hW1.out, ← hg2.out]; simp
    · rw [← hW1.out, ← hg2.out]; exact heap_alloc_new _ _
  rw [hW1.out, hg2.out]
  clear k0 hW1 hW
  go_wp2
  go_loopw [8, 9, 10, 11, 12, 13, 14] (fun a i _ _ _ _ _ wr => ∃ (j n' c' : Nat) (A' : Option Addr) (es' : List Rv) (a0 : Nat), j ≤ nl ∧ n' ≤ j ∧ i = .int .i64 (j : Int) ∧ a = .int .i64 (a0 : Int) ∧ Hid (a0 = volR ((es.map Rv.m).take j)) ∧ Hid (DSt W1 wr g2 q l es' (outF (es.map Rv.m) names keep j) A' n' c' es') ∧ Hid (∀ e ∈ es', PsX wr (OX (AY w W X) g2 (.slice A' n' c')) e.A e.ps)) (fun _ i _ _ _ _ _ _ => nl - (intOf i).toNat)
  case atStart => exact ⟨0, 0, 0, none, [], 0, by omega, by omega, rfl, rfl, by exact rfl, hst0.out, by intro e he; cases he⟩
  case round =>
    obtain ⟨j, n', c', A', es', a0, hj, hnj, rfl, rfl, ha0, hst, hps'⟩ := hrel
    obtain ⟨wo, rfl⟩ : ∃ wo : World, wo = wr := ⟨_, rfl⟩
    have Hbr : Hid (Below W.heap.size W wo) := hbW1.out.trans (hst.out.touch.below hbW1.out.size fun b (e : b = g2) => by rw [e, ← hg2.out]; omega)
    have ha0I : (a0 : Int) ≤ 1000000 := by have h := hvl.out j; have h2 := ha0.out; unfold volR at h2; omega
    have hjI : (j : Int) ≤ 1000 := by have := hl2.out; omega
    have k0 := three_cell (HB.out.at0 Hbr.out)
    by_cases hlt : j < nl
    · obtain ⟨ad, x', hA, hab, hax, d0, d1, d2, hx', hps⟩ := (Hr.out.below Hbr.out).at_ (k := j) (by rw [hnl.out]; exact hlt)
      obtain ⟨xi, xn, xA, xc, xps⟩ := x'
      obtain ⟨np, hnp⟩ : ∃ n, Hid (xps.length = n) := ⟨_, rfl⟩
      simp only [hnp.out] at d0 d1 d2 hps
      have hsm : Hid (SmM (says xps)) := Hs.out _ (mem_of_get (Rm_get hx'.out))
      have hM : Hid ((es.map Rv.m)[j]? = some ⟨xi, xn, says xps⟩) := Rm_get hx'.out
      obtain ⟨g3, hg3⟩ : ∃ g, Hid (wo.heap.size = g) := ⟨_, rfl⟩
      subst hA
      go_upto_region 7 with fail
      obtain ⟨Wa, hWa⟩ : ∃ W', Hid (wo.alloc (.cells #[.int .i64 xi, .int .i64 xn, .slice xA np xc] 139) = W') := ⟨_, rfl⟩
      have hba : Hid (Below wo.heap.size wo Wa) := by rw [← hWa.out]; exact below_new _ _
      have hca : Hid (Wa.heap[g3]? = some (.cells #[.int .i64 xi, .int .i64 xn, .slice xA np xc] 139 (0, 0))) := by rw [← hWa.out, ← hg3.out]; exact heap_alloc_new _ _
      rw [hWa.out, hg3.out]
      have Hpa := Lib.hid (hps.below hba.out)
      clear hab hax hps d0 d1 d2 k0 hWa
      have d3 := three_cell hca.out
      go_upto_region 8 with (go_at_call 67; refine (rvol_n hnp.out hsm.out Hpa.out).mono ?_; rintro e wv ⟨T, rfl, hT, hbv⟩; have HT := Lib.hid hT; have Hbv := Lib.hid hbv; clear hT hbv)
      have hTn : T ≤ 1000 := by rw [HT.out]; exact Nat.le_trans (volM_le _) hsm.out.n
      have hTI : (T : Int) ≤ 1000 := by omega
      clear d3
      go_wp2
      go_loopw [8, 12, 13] (fun a o k w2 => ∃ (kk ax co : Nat) (Ao : Option Addr), kk ≤ T ∧ Hid (ax = a0 + kk) ∧ a = .int .i64 (ax : Int) ∧ k = .int .i64 (kk : Int) ∧ o = .slice Ao kk co ∧ Hid (w2.ownsRow wv.heap.size 4 1 (.slice Ao kk co) kk (kc (padK keep a0 kk))) ∧ Hid (Below wv.heap.size wv w2)) (fun _ _ k _ => T - (intOf k).toNat)
      case atStart => exact ⟨0, a0, 0, none, by omega, by exact rfl, rfl, rfl, rfl, World.ownsRow_nil _ _ _ _, Below.refl _ _⟩
      case round =>
        obtain ⟨kk, ax, co, Ao, hkk, hax, rfl, rfl, rfl, ho, hw2⟩ := hrel
        have haxI : (ax : Int) ≤ 2000000 := by have := hax.out; omega
        by_cases hlt2 : kk < T
        · have hbin : Hid (Below W.heap.size W wr) := Hbr.out.trans ((hba.out.trans ((Hbv.out.mono hba.out.size).trans (hw2.out.mono (Nat.le_trans hba.out.size Hbv.out.size)))).mono Hbr.out.size)
          have ho' : Hid (wr.ownsRow wv.heap.size 4 1 (.slice Ao kk co) (padK keep a0 kk).length (kc (padK keep a0 kk))) := by show World.ownsRow _ _ _ _ _ _ _; rw [padK_len]; exact ho.out
          by_cases hin : ax < nk
          · obtain ⟨ak, bk, hAk, _, hck, hbk⟩ := RdK.at_ (Reads.below Hkr.out (hbin.out.mono HBW.out)) (k := ax) (by rw [Hnk.out]; exact hin)
            have hd : decide ((ax : Int) < (nk : Int)) = true := decide_eq_true (by omega)
            have hbd : Hid (keep.getD (a0 + kk) false = bk) := by show _ = _; rw [← hax.out, List.getD, hbk.out]; rfl
            subst hAk
            go_wp2_with (at_builtin; refine push_bool (.tmp 40) (.tmp 51) bk ho'.out hw2.out.size (by rw [padK_len]; omega) rfl rfl rfl rfl rfl ?_; intro v3 w3 h3 hb3 _ _; rw [List.length_append, padK_len] at h3; obtain ⟨A3, c3, rfl, _⟩ := own_form h3; have HO3 := Lib.hid h3; have Hb3 := Lib.hid (hw2.out.trans hb3); clear h3 hb3)
            go_roundw
            case rel => exact ⟨kk + 1, ax + 1, c3, A3, by omega, by show _ = _; rw [hax.out]; omega, by go_num, by go_num, rfl, by rw [padK_snoc, hbd.out]; exact HO3.out, Hb3.out⟩
            case measure => simp [intOf]; omega
          · have hd : decide ((ax : Int) < (nk : Int)) = false := decide_eq_false (by omega)
            have hbd : Hid (keep.getD (a0 + kk) false = false) := by show _ = _; rw [List.getD, List.getElem?_eq_none (by rw [Hnk.out, ← hax.out]; omega)]; rfl
            go_wp2_with (at_builtin; refine push_bool (.tmp 40) (.tmp 51) false ho'.out hw2.out.size (by rw [padK_len]; omega) rfl rfl rfl rfl rfl ?_; intro v3 w3 h3 hb3 _ _; rw [List.length_append, padK_len] at h3; obtain ⟨A3, c3, rfl, _⟩ := own_form h3; have HO3 := Lib.hid h3; have Hb3 := Lib.hid (hw2.out.trans hb3); clear h3 hb3)
            go_roundw
            case rel => exact ⟨kk + 1, ax + 1, c3, A3, by omega, by show _ = _; rw [hax.out]; omega, by go_num, by go_num, rfl, by rw [padK_snoc, hbd.out]; exact HO3.out, Hb3.out⟩
            case measure => simp [intOf]; omega
        · have hkT : kk = T := by omega
          have hbin : Hid (Below Wa.heap.size Wa wr) := Hbv.out.trans (hw2.out.mono Hbv.out.size)
          have hck0 := (hbin.out.block _ (Array.getElem?_eq_some_iff.1 hca.out).1).trans hca.out
          have d3 := three_cell hck0
          have Hp2 := Lib.hid (Hpa.out.below hbin.out)
          have hkr2 : Hid (RdK wr wr.heap.size Ao (padK keep a0 T)) := by
            have h := Reads.of_own ho.out
            rw [hkT] at h
            show Reads _ _ _ _ _ _
            rw [padK_len]
            exact h
          subst hkT
          obtain ⟨wq, rfl⟩ : ∃ wq : World, wq = wr := ⟨_, rfl⟩
          go_upto_region 15 with (go_at_call 68; refine (rfail_n hnp.out hsm.out Hp2.out (padK_len keep a0 kk) hTn (Nat.le_refl _) hkr2.out).mono ?_; rintro e w3 ⟨A3, c3, n3, ps3, rfl, hb3, hn3, hp3, hm3⟩; have e3 := three_cell ((hb3.block _ (Array.getElem?_eq_some_iff.1 hck0).1).trans hck0); have f3 := three_frozen (i := 2) ((hb3.block _ (Array.getElem?_eq_some_iff.1 hck0).1).trans hck0); have Hb3 := Lib.hid hb3; have Hn3 := Lib.hid hn3; have Hp3 := Lib.hid hp3; have Hm3 := Lib.hid hm3; clear hb3 hn3 hp3 hm3)
          have hc3 := three_set2 (.slice A3 n3 c3) ((Hb3.out.block _ (Array.getElem?_eq_some_iff.1 hck0).1).trans hck0)
          clear e3 f3 d3
          have e3 := three_cell hc3
          have f3 := three_frozen (i := 1) hc3
          go_upto_region 16 with fail
          have hc4 := three_set1 (.int .i64 0) hc3
          obtain ⟨W5, hW5⟩ : ∃ W', Hid ((w3.setCell ⟨g3, 2, none⟩ (.slice A3 n3 c3)).setCell ⟨g3, 1, none⟩ (.int .i64 0) = W') := ⟨_, rfl⟩
          have hT5 : Hid (Touch (fun b => b = g3) w3 W5) := by rw [← hW5.out]; exact (Touch.cell1 _ _ _ _).trans (Touch.cell1 _ _ _ _)
          rw [hW5.out] at hc4 ⊢
          have Hc5 := Lib.hid hc4
          have hg3q : Hid (g3 < wq.heap.size) := (Array.getElem?_eq_some_iff.1 hck0).1
          have hob : Hid (Below wo.heap.size wo wq) := hba.out.trans (hbin.out.mono hba.out.size)
          have ho5 : Hid (Below wo.heap.size wo W5) := (hob.out.trans (Hb3.out.mono hob.out.size)).trans (hT5.out.below (Nat.le_trans hob.out.size Hb3.out.size) fun b (e : b = g3) => by rw [e, ← hg3.out]; omega)
          have HP5 : Hid (PsX W5 (XW wq) A3 ps3) := Hp3.out.keep (hT5.out.mono fun b _ (e : b = g3) => by rw [e]; exact hg3q.out)
          clear e3 f3 hc3 hc4 hW5 hck0
          go_wp2
          go_loopw [14] (fun k wx => ∃ (r : Nat) (kr cur : Int), r ≤ nn ∧ Hid (kr = (r : Int) - 1) ∧ k = .int .i64 kr ∧ Hid (cur = manyF (names.drop r) xi) ∧ Hid (Touch (fun b => b = g3) W5 wx) ∧ Hid (wx.heap[g3]? = some (.cells #[.int .i64 xi, .int .i64 cur, .slice A3 n3 c3] 139 (0, 0)))) (fun k _ => (intOf k + 1).toNat)
          case atStart => exact ⟨nn, (nn : Int) - 1, 0, Nat.le_refl _, by exact rfl, by go_num, by show _ = _; rw [List.drop_eq_nil_of_le (by rw [Hnn.out]; exact Nat.le_refl _)]; rfl, Touch.refl _ _, Hc5.out⟩
          case round =>
            obtain ⟨r, kr, cur, hr, hkr3, rfl, hcur, hTx, hcx⟩ := hrel
            have hkrI : kr ≤ 1000 := by have := hkr3.out; omega
            have hkrJ : -1 ≤ kr := by have := hkr3.out; omega
            have HoX : Hid (Below wo.heap.size wo wr) := ho5.out.trans (hTx.out.below ho5.out.size fun b (e : b = g3) => by rw [e, ← hg3.out]; omega)
            have HWX : Hid (Below W.heap.size W wr) := Hbr.out.trans (HoX.out.mono Hbr.out.size)
            have x3 := three_cell hcx.out
            have y3 := three_frozen (i := 1) hcx.out
            by_cases hr0 : r = 0
            · subst hr0
              obtain rfl : kr = -1 := by have := hkr3.out; omega
              have hcf : Hid (cur = manyF names xi) := hcur.out
              have hvn : Hid (volR ((es.map Rv.m).take (j + 1)) = volR ((es.map Rv.m).take j) + volM (says xps)) := sumR_snoc hM
              have hsx := Lib.hid (hst.out.step HoX.out)
              obtain ⟨m2, m3⟩ := hsx.out.at2
              have hown : ∀ b, (Value.slice A' n' c').ownBlock = some b → b < wo.heap.size := fun b hb => (hst.out.own.lt b hb).2
              have hqo : wo.heap.size ≤ wq.heap.size := hob.out.size
              have HPx : Hid (PsX wr (OX (AY w W X) g2 (.slice A' n' c')) A3 ps3) := (HP5.out.keep (hTx.out.mono fun b _ (e : b = g3) => by rw [e]; exact hg3q.out)).mono fun b _ hb => by
                show b < wq.heap.size
                rcases hb with hb | hb | hb
                · have h1 := hb.1; have h2 := Hbr.out.size; omega
                · have := hown b hb; omega
                · have h1 := (Array.getElem?_eq_some_iff.1 hst.out.box).1; omega
              have Hold : Hid (∀ e ∈ es', PsX wr (OX (AY w W X) g2 (.slice A' n' c')) e.A e.ps) := fun e he => (hps'.out e he).below HoX.out
              have hv0 : a0 = volR ((es.map Rv.m).take j) := ha0.out
              have hkv : kk = volM (says xps) := HT.out
              have hmm : Hid (failM (says xps) (padK keep (volR ((es.map Rv.m).take j)) (volM (says xps))) = says ps3) := by show _ = _; rw [Hm3.out, ← hv0, ← hkv]
              have hax2 : Hid (ax = volR ((es.map Rv.m).take (j + 1))) := by show _ = _; rw [hvn.out, hax.out, ← hv0, ← hkv]
              clear hv0
              by_cases hc1 : cur < 1
              · have hdc : decide (1 ≤ cur) = false := decide_eq_false (by omega)
                go_wp2
                go_roundw
                case rel => exact ⟨j + 1, n', c', A', es', ax, by omega, by omega, by go_num, rfl, hax2.out, by rw [outF_gone hM.out (by rw [← hcf.out]; exact hc1)]; exact hsx.out, Hold.out⟩
                case measure => first | (simp [intOf]; done) | (simp [intOf]; omega)
              · have hdc : decide (1 ≤ cur) = true := decide_eq_true (by omega)
                go_wp2_with (at_builtin; refine push_rvo (.tmp 86) (.tmp 88) Hn3.out hsx.out.own hsx.out.size' (by omega) rfl rfl rfl rfl rfl ?_; intro A6 c6 w6 hO6 hg6 hb6 hk6; have hst7 := (hsx.out.any (es2 := es' ++ [⟨xi, cur, A3, c3, ps3⟩]) fun e he => List.mem_append_left _ he).snoc hO6 hb6 ⟨_, List.mem_append_right _ (List.mem_singleton.2 rfl), rfl, rfl⟩; have Hst7 := Lib.hid hst7; have Hgr := Lib.hid hg6; have Hk6 := Lib.hid hk6; obtain ⟨u2, u3⟩ := (⟨three_cell ((hb6.block g2 hsx.out.size).trans hsx.out.box), three_frozen (i := 0) ((hb6.block g2 hsx.out.size).trans hsx.out.box)⟩ : _ ∧ _); clear hO6 hg6 hb6 hst7 hk6)
                go_roundw
                case rel =>
                  refine ⟨j + 1, n' + 1, c6, A6, es' ++ [⟨xi, cur, A3, c3, ps3⟩], ax, by omega, by omega, by go_num, rfl, hax2.out, ?_, ?_⟩
                  · rw [outF_stay hM.out (by rw [← hcf.out]; exact hc1)]
                    show DSt _ _ _ _ _ _ (_ ++ [⟨xi, manyF names xi, failM (says xps) (padK keep (volR ((es.map Rv.m).take j)) (volM (says xps)))⟩]) _ _ _ _
                    rw [hmm.out, ← hcf.out]
                    exact Hst7.out
                  · intro e he
                    rcases List.mem_append.1 he with h | h
                    · exact OX.grow (Hold.out e h) Hgr.out Hk6.out
                    · rw [List.mem_singleton.1 h]; exact OX.grow HPx.out Hgr.out Hk6.out
                case measure => first | (simp [intOf]; done) | (simp [intOf]; omega)
            · obtain ⟨s, rfl⟩ : ∃ s, r = s + 1 := ⟨r - 1, by omega⟩
              obtain rfl : kr = (s : Int) := by have := hkr3.out; omega
              have hsn : (s : Int) < (nn : Int) := by omega
              have hs0 : (0 : Int) ≤ (s : Int) := by omega
              obtain ⟨an, e, hAn, _, _, n1, n2, hen⟩ := EnX.at_ (RdX.below Hnr.out HWX.out) (k := s) (by rw [Hnn.out]; omega)
              subst hAn
              by_cases hei : e.1 = xi
              · have hdi : decide (e.1 = xi) = true := decide_eq_true hei
                go_upto_region 19 with fail
                go_quiet (fail)
                go_wp2
                go_roundw
                case rel => exact ⟨s, (s : Int) - 1, e.2, by omega, by exact rfl, by go_num, by show _ = _; rw [manyF_drop hen.out, if_pos hei], (hTx.out.drewN' _).trans (Touch.cell1 _ _ _ _), three_set1 _ (show (wr.drewN _).heap[g3]? = _ from hcx.out)⟩
                case measure => first | (simp [intOf]; done) | (simp [intOf]; omega)
              · have hdi : decide (e.1 = xi) = false := decide_eq_false hei
                go_upto_region 19 with fail
                go_quiet (fail)
                go_wp2
                go_roundw
                case rel => exact ⟨s, (s : Int) - 1, cur, by omega, by exact rfl, by go_num, by show _ = _; rw [manyF_drop hen.out, if_neg hei]; exact hcur.out, hTx.out.drewN' _, (show (wr.drewN _).heap[g3]? = _ from hcx.out)⟩
                case measure => first | (simp [intOf]; done) | (simp [intOf]; omega)
    · have hjn : j = nl := by omega
      have q1 := three_cell (HB.out.at1 Hbr.out)
      have q2 := three_frozen (i := 0) (HB.out.at1 Hbr.out)
      have q3 := three_frozen (i := 1) (HB.out.at1 Hbr.out)
      have q4 := three_frozen (i := 2) (HB.out.at1 Hbr.out)
      obtain ⟨m2, m3⟩ := hst.out.at2
      go_wp2
      have hz := three_set (.slice A' n' c') (.int .i64 q) (.int .i64 l) (HB.out.at1 Hbr.out)
      refine ret_tab1 rfl g1 _ _ _ _ (0, 0) rfl hz rfl ?_
      have hRT : RefT wo (AY w W X) (.agg #[.slice A' n' c', .int .i64 q, .int .i64 l]) (outF (es.map Rv.m) names keep (es.map Rv.m).length) q l := by
        refine ⟨A', c', es', by rw [hst.out.len], ⟨?_, fun e he => ?_⟩, ?_⟩
        · rw [hst.out.len]
          exact own_avoid hst.out.own fun b (e : AY w W X b) => Nat.lt_of_lt_of_le e.1 hbW1.out.size
        · exact (hps'.out e he).mono fun b _ hb => .inl hb
        · rw [hst.out.vals, hjn, List.length_map, hnl.out]
      exact ⟨_, rfl, HB.out.fin Hbr.out _ _ _, HB.out.ans hRT _ _ _⟩
end Go.Proofs.YtbhmnmmockmibaaGreat
