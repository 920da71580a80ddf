/- The walk of Fail. Conditions: at most 1000 operations. -/
import Derived.Test.YtbhmnmmockmibaaGreatKpFdI
import Derived.Shelf.RegionOpen
import Derived.Shelf.AbstractIn
namespace Go.Proofs.YtbhmnmmockmibaaGreat
open Go.RowKit Go.Maps
attribute [local go_sem] Oper.semAt_some
set_option maxHeartbeats 1000000 in
theorem back_anyD (A : Option Addr) (n c : Nat) (w : World) : Calls Tryz.prog 94 #[.slice A n c] w fun e w' => e = .returned (.func (.func 115) #[] #[.pointer (some ⟨w.heap.size, 0, none⟩)]) ∧ w' = w.alloc (.cells #[.slice A n c] 73) := by
  have hmf := hmakeFuncD
  go_enter Tryz.func94, Tryz.ntmps94
  go_wp2
  go_ret
  exact ⟨rfl, rfl⟩
theorem run_backP (w : World) (A : Option Addr) {n m c : Nat} (hm : m ≤ n) (hc : n ≤ c) :
    (Instr.slice 73 (.slice A n c) (some (.int .i64 (m : Int))) none none).run Tryz.prog w = .ok (.slice (if c = m then A else A.map (·.add (m * 2))) (n - m) (c - m)) w := by
  have hm' : (m : Int) ≤ n := by omega
  have hc' : (n : Int) ≤ c := by omega
  go_simp
theorem pncells_drop (l : List Pn) (k : Nat) (hk : k ≤ l.length) : pncells (l.drop k) = (pncells l).drop (k * 2) := by
  have e : pncells l = pncells (l.take k) ++ pncells (l.drop k) := by rw [← pncells_append, List.take_append_drop]
  have hl : (pncells (l.take k)).length = k * 2 := by rw [pncells_len, List.length_take]; omega
  rw [e, ← hl]
  exact List.drop_left.symm
def FlID (WL : World) (mv : Value) (bq : Nat) (m : List EnD) {qs : List Pn} (pre : List (BkD qs)) (W : World) : Prop :=
  Touch (ButD bq WL.heap.size) WL W ∧ ∀ b, mv = .map (some b) → W.ownsMap (H := Unit) Tryz.prog 9 (plainElem Tryz.prog 3) b (und m (pre.map fun x => x.2.1.o)).length (mapD (und m (pre.map fun x => x.2.1.o)))
def FlAD (WL : World) (tm : Int → Value → Nat → Array Value) {qs : List Pn} (x : BkD qs) (a : Act) (W : World) : Prop :=
  ∃ bx, WL.heap.size ≤ bx ∧ W.heap[bx]? = some (.cells #[x.2.1.f x.2.1.o.add, x.2.1.f (!x.2.1.o.add)] 171 (0, 0)) ∧ a = { tmps := tm x.1 x.2.1.v bx, defers := [] }
section
variable {w : World} {c : Nat → Nat} {i g N : Nat} {zz : Rs} {s : St}
set_option maxHeartbeats 4000000 in
set_option maxRecDepth 100000 in
theorem fail_anyD (h : DirAt w c i g zz s) (hi : i ≠ 0) (hg : Good s N) (hN : N ≤ 1000) (keep : Int) (hk1 : -9223372036854775808 ≤ keep) (hk2 : keep ≤ 9223372036854775807) :
    Calls Tryz.prog 60 #[.pointer (some ⟨g, 0, none⟩), .int .i64 keep] w fun e w' => e = .returned (.tuple #[]) ∧ Did w c i g zz (s.fail keep) w' := by
  have hgl := Lib.hid h.lt
  have H := Lib.hid h
  obtain ⟨hcol, hne, mv, pv, hd, hm, ps, hps, ho, hr, hp⟩ := h
  have hpl : Hid (ps.length ≤ 1000) := by
    have h1 := hg.n
    rw [← hps, List.length_map] at h1
    show _ ≤ _
    omega
  have hplI : (ps.length : Int) ≤ 1000 := by have := hpl.out; omega
  obtain ⟨A, cap, rfl, hcap, _, hrd⟩ := own_form ho
  obtain ⟨bd, hbd⟩ : ∃ bd, Hid (w.heap.size = bd) := ⟨_, rfl⟩
  obtain ⟨W, hW⟩ : ∃ W, Hid (w.alloc (.cells #[.pointer (some ⟨g, 0, none⟩)] 159) = W) := ⟨_, rfl⟩
  have hbW : Hid (Below w.heap.size w W) := by rw [← hW.out]; exact below_new _ _
  have hbdW : Hid (W.heap[bd]? = some (.cells #[.pointer (some ⟨g, 0, none⟩)] 159 (0, 0))) := by rw [← hW.out, ← hbd.out]; exact heap_alloc_new w _
  have hcb := box_cell hbdW.out
  have hdW : Hid (W.heap[g]? = some (.cells #[mv, .slice A ps.length cap, zz.m, zz.n, zz.tk, zz.q, zz.k, zz.mp] 84 (0, 0))) := (hbW.out.block g hgl.out).trans hd
  have hcd := (d_cells hdW.out).2
  obtain ⟨T, hT⟩ : ∃ T, Hid (stay ps.length keep = T) := ⟨_, rfl⟩
  have hTle : T ≤ ps.length := by rw [← hT.out]; exact stay_le _ _
  have hst : min (max keep 0) (ps.length : Int) = (T : Int) := by rw [← hT.out]; unfold stay; omega
  obtain ⟨A', hA'⟩ : ∃ A', Hid ((if cap = T then A else A.map (·.add (T * 2))) = A') := ⟨_, rfl⟩
  obtain ⟨n', hn'⟩ : ∃ n', Hid (ps.length - T = n') := ⟨_, rfl⟩
  obtain ⟨c', hc'⟩ : ∃ c', Hid (cap - T = c') := ⟨_, rfl⟩
  have hsl := fun W => run_backP W A hTle hcap
  rw [hA'.out, hn'.out, hc'.out] at hsl
  have Hps := Lib.hid hps
  have Ho := Lib.hid ho
  have Hr := Lib.hid hr
  have Hp := Lib.hid hp
  have Hm := Lib.hid hm
  have Hne := Lib.hid (fun e : mv = .map none => hne _ (by rw [← e]; exact hd))
  have Hg := Lib.hid hg
  have HN := Lib.hid hN
  have Hcol := Lib.hid hcol
  have Hi := Lib.hid hi
  have Hd := Lib.hid hd
  have HTle := Lib.hid hTle
  have Hcap := Lib.hid hcap
  have Hrd := Lib.hid hrd
  clear hd hm hps ho hr hp hg hN hcol hne hi hTle hcap hrd
  refine (callsIn_wide (n := 5)).1 ?_
  refine callsIn_of_wp_marks Tryz.func60 rfl trivial (wpIn_wide.2 ?_) rfl
  simp only [Tryz.ntmps60, List.size_toArray, List.length_cons, List.length_nil, Nat.reduceAdd, Nat.reduceSub, Array.replicate_succ, Array.replicate_zero, List.push_toArray, List.append_toArray, List.nil_append, List.cons_append]
  go_upto_region 1 with fail
  rw [hbd.out, hW.out]
  go_upto_region 3 with fail
  clear hst
  go_wp2_with (go_at_call 94; refine (back_anyD _ _ _ _).mono ?_; rintro e w1 ⟨rfl, rfl⟩)
  clear hsl hcb hcd hk1 hk2
  obtain ⟨Bs, hBs⟩ : ∃ Bs, Hid (W.heap.size = Bs) := ⟨_, rfl⟩
  obtain ⟨WL, hWL⟩ : ∃ WL, Hid (W.alloc (.cells #[.slice A' n' c'] 73) = WL) := ⟨_, rfl⟩
  rw [hBs.out, hWL.out]
  have hbWL : Hid (Below W.heap.size W WL) := by rw [← hWL.out]; exact below_new _ _
  have hsWL : Hid (WL.heap.size = Bs + 1) := by rw [← hWL.out, ← hBs.out]; show _ = _; simp
  have hBsL : Hid (WL.heap[Bs]? = some (.cells #[.slice A' n' c'] 73 (0, 0))) := by rw [← hWL.out, ← hBs.out]; exact heap_alloc_new _ _
  obtain ⟨qs, hqs⟩ : ∃ qs, Hid (ps.drop T = qs) := ⟨_, rfl⟩
  have hql : Hid (qs.length = n') := by rw [← hqs.out, ← hn'.out]; show _ = _; simp
  obtain ⟨bq, hbq⟩ : ∃ bq, Hid ((mv = .map none ∧ bq = WL.heap.size) ∨ (mv = .map (some bq) ∧ c bq = i ∧ w.ownsMap (H := Unit) Tryz.prog 9 (plainElem Tryz.prog 3) bq s.now.length (mapD s.now))) := by
    rcases Hm.out with ⟨e, _⟩ | ⟨b, e1, e2, e3⟩
    · exact ⟨_, .inl ⟨e, rfl⟩⟩
    · exact ⟨b, .inr ⟨e1, e2, e3⟩⟩
  have hcells : Hid (∀ r cs t fr, w.heap[r]? = some (.cells cs t fr) → ¬ r = bq) := by
    intro r cs t fr hh e
    rcases hbq.out with ⟨_, e2⟩ | ⟨_, _, ho⟩
    · have h1 := (Array.getElem?_eq_some_iff.1 hh).1
      have h2 := hbW.out.size
      have h3 := hbWL.out.size
      omega
    · obtain ⟨es, clock, hb, _⟩ := ho
      rw [e, hb] at hh
      cases hh
  have hbqn : Hid (¬ ButD bq WL.heap.size Bs ∧ ¬ ButD bq WL.heap.size bd) := by
    have h1 := hbW.out.size
    have h2 := hsWL.out
    have h4 : bd < W.heap.size := (Array.getElem?_eq_some_iff.1 hbdW.out).1
    have h5 : bq = WL.heap.size ∨ bq < w.heap.size := by
      rcases hbq.out with ⟨_, e2⟩ | ⟨_, _, ho⟩
      · exact .inl e2
      · exact .inr ho.lt
    have h6 := hBs.out
    have h7 := hbd.out
    refine ⟨fun e => ?_, fun e => ?_⟩
    · rcases e with e | e <;> omega
    · rcases e with e | e <;> omega
  have hread : Hid (PnX WL (ButD bq WL.heap.size) A' qs) := by
    have h1 := Reads.cut Hrd.out HTle.out Hcap.out
    rw [← pncells_drop ps T HTle.out, hqs.out, hA'.out, hn'.out, ← hql.out] at h1
    refine ⟨h1.1, fun hn => ?_⟩
    obtain ⟨ad, e, hb, hcc⟩ := h1.2 hn
    have hsz := Nat.le_trans hbW.out.size hbWL.out.size
    refine ⟨ad, e, by omega, ?_, fun j u hu => ?_⟩
    · have hr2 : ∃ r, (Value.slice A ps.length cap).ownBlock = some r ∧ ad.block = r := by
        have := hA'.out
        rw [e] at this
        cases A with
        | none => split at this <;> cases this
        | some a =>
          refine ⟨a.block, rfl, ?_⟩
          split at this
          · injection this with this; rw [this]
          · simp only [Option.map_some, Option.some.injEq] at this; rw [← this, block_of_add]
      obtain ⟨r, hr1, hr2⟩ := hr2
      obtain ⟨cs, t, fr, hh⟩ := own_cells Ho.out hr1
      rintro (e1 | e1)
      · rw [hr2] at e1; exact hcells.out r cs t fr hh e1
      · omega
    · have h3 := hcc j u hu
      have h4 : (ad.add j).block < w.heap.size := by rw [block_of_add]; exact hb
      rw [hbWL.out.cell (Nat.lt_of_lt_of_le h4 hbW.out.size), hbW.out.cell h4]
      exact h3
  have hbox : Hid (WL.cell? ⟨Bs, 0, none⟩ = some (.slice A' qs.length c')) := by rw [hql.out]; exact box_cell hBsL.out
  have hqle : Hid (qs.length ≤ 1000) := by rw [hql.out, ← hn'.out]; have := hpl.out; show _ ≤ _; omega
  have hdL : Hid (WL.heap[g]? = some (.cells #[mv, .slice A ps.length cap, zz.m, zz.n, zz.tk, zz.q, zz.k, zz.mp] 84 (0, 0))) := (hbWL.out.block g (Nat.lt_of_lt_of_le hgl.out hbW.out.size)).trans hdW.out
  have hbdL : Hid (WL.heap[bd]? = some (.cells #[.pointer (some ⟨g, 0, none⟩)] 159 (0, 0))) := (hbWL.out.block bd (Array.getElem?_eq_some_iff.1 hbdW.out).1).trans hbdW.out
  have hgn : Hid (¬ ButD bq WL.heap.size g) := by
    rintro (e | e)
    · exact hcells.out _ _ _ _ Hd.out e
    · have h1 := hgl.out
      have h2 := hbW.out.size
      have h3 := hbWL.out.size
      omega
  refine (wpIn_wide (n := 5)).1 ?_
  refine wpIn_rangeFunc_ownH (n := 5) rfl (by omega) (gf := 115) (lb := #[.pointer (some ⟨Bs, 0, none⟩)]) rfl trivial (enters_of Tryz.func115 (by kernel_rfl) rfl)
    (back_stopsD Fence.wide 4 trivial rfl (by omega) Bs bq WL.heap.size A' c' qs hqle.out WL hbqn.out.1 hbox.out (by rw [hsWL.out]; omega) hread.out) (fun h k => h.trans k)
    (fun W' l o o' hl _ _ _ => Touch.grown (grownBy_putObj' W' l o') fun k e => by injection e with e; exact .inr (by omega)) (Below.refl _ _) (fun _ => rfl)
    (FlID WL mv bq s.now) (fun _ _ _ => False) ?hI (fun _ _ _ _ _ hs _ _ => hs) ?h0
    (FlAD WL (fun idx v bx => #[.pointer (some ⟨g, 0, none⟩), .int .i64 keep, .pointer (some ⟨bd, 0, none⟩), undef, .int .i64 (T : Int), undef, .pointer (some ⟨bx, 0, none⟩), .pointer (some ⟨g, 0, none⟩), .bool false, .int .i64 keep, .int .i64 (max keep 0), .pointer (some ⟨g, 0, none⟩), .pointer (some ⟨g, 0, none⟩), .pointer (some ⟨g, 1, none⟩), .slice A ps.length cap, .int .i64 (ps.length : Int), .int .i64 (T : Int), .pointer (some ⟨g, 0, none⟩), .pointer (some ⟨g, 0, none⟩), .pointer (some ⟨g, 1, none⟩), .slice A ps.length cap, .int .i64 (T : Int), .slice A' n' c', .func (.func 115) #[] #[.pointer (some ⟨Bs, 0, none⟩)], .int .i64 idx, v, undef, undef, undef, undef, undef, undef, undef, undef, undef, undef]))
    ?hAx ?assign ?body ?done ?stop
  case hI =>
    intro pre X Y row hs hgr hr
    refine ⟨hs.1.trans (Touch.grown hgr fun k e => .inr (hr k e).1), fun b hb => ?_⟩
    have ho := hs.2 b hb
    refine owns_touchD ho (Touch.grown (X := fun x => row = some x) hgr fun k e => e) fun e => ?_
    obtain ⟨h1, h2⟩ := hr b e
    rcases hbq.out with ⟨e1, _⟩ | ⟨e1, _, ho2⟩
    · rw [e1] at hb; cases hb
    · rw [e1] at hb
      injection hb with hb
      injection hb with hb
      have := ho2.lt
      have h3 := hbW.out.size
      have h4 := hbWL.out.size
      omega
  case h0 =>
    refine ⟨Touch.refl _ _, fun b hb => ?_⟩
    rcases hbq.out with ⟨e1, _⟩ | ⟨e1, _, ho2⟩
    · rw [e1] at hb; cases hb
    · rw [e1] at hb
      injection hb with hb
      injection hb with hb
      subst hb
      exact owns_touchD ho2 (Touch.of (X := fun _ => False) (hbW.out.trans (hbWL.out.mono hbW.out.size))) fun e => e
  case hAx =>
    rintro x a' _ X Y row ⟨bx, h1, h2, h3⟩ hgr hr
    refine ⟨bx, h1, (hgr.block bx (Array.getElem?_eq_some_iff.1 h2).1 fun e => ?_).trans h2, h3⟩
    obtain ⟨_, o, ho, hcs⟩ := hr bx e.symm
    rw [h2] at ho
    injection ho with ho
    rw [← ho] at hcs
    cases hcs
  case assign =>
    intro l pre x W' K hi hK
    obtain ⟨f1, h1⟩ : ∃ u, Hid (x.2.1.fn x.2.1.o.add = u) := ⟨_, rfl⟩
    obtain ⟨f2, h2⟩ : ∃ u, Hid (x.2.1.fn (!x.2.1.o.add) = u) := ⟨_, rfl⟩
    obtain ⟨k1, h3⟩ : ∃ u, Hid (x.2.1.cap x.2.1.o.add = u) := ⟨_, rfl⟩
    obtain ⟨k2, h4⟩ : ∃ u, Hid (x.2.1.cap (!x.2.1.o.add) = u) := ⟨_, rfl⟩
    have hv : x.2.1.v = .agg #[.func (.func f1) #[] k1, .func (.func f2) #[] k2] := by rw [← h1.out, ← h2.out, ← h3.out, ← h4.out, ← Pn.f_eq, ← Pn.f_eq]; rfl
    have HK := Lib.hid hK
    clear hK
    rw [hv]
    have hst := fun (a : Addr) (f : Fn) (c d : Array Value) (w : World) => run_store Tryz.prog w a (.func f c d) .plain rfl
    gi_wp2
    have ha := below_new W' (.cells #[.func (.func f1) #[] k1, .func (.func f2) #[] k2] 171)
    have hg2 := World.grownBy_alloc W' (.cells #[.func (.func f1) #[] k1, .func (.func f2) #[] k2] 171) none
    refine HK.out _ _ (.of_grownBy hg2 fun j e => by cases e) (.of ha) ⟨hi.1.trans (.of ha), fun b hb => owns_touchD (hi.2 b hb) (Touch.of (X := fun _ => False) ha) fun e => e⟩ ⟨W'.heap.size, hi.1.size, ?_, by rw [hv]⟩
    rw [Pn.f_eq, Pn.f_eq, h1.out, h2.out, h3.out, h4.out]
    exact heap_alloc_new _ _
  case body =>
    rintro l pre x a' W' hl hrec hfl ⟨bx, hbx, hbxc, rfl⟩ hlt
    have hmem := x.2.2
    obtain ⟨b1, b2, b3⟩ : mv = .map (some bq) ∧ c bq = i ∧ w.ownsMap (H := Unit) Tryz.prog 9 (plainElem Tryz.prog 3) bq s.now.length (mapD s.now) := by
      rcases hbq.out with ⟨e, _⟩ | h
      · have h1 := Hne.out e
        rw [← Hps.out] at h1
        have h2 : ps = [] := by simpa using h1
        have h3 := hqs.out
        rw [h2, List.drop_nil] at h3
        have h4 := List.length_pos_of_mem hmem
        have h5 := congrArg List.length h3
        simp only [List.length_nil] at h5
        omega
      · exact h
    subst b1
    have hcx := two_cells hbxc
    have hcg := (d_cells (hfl.1.heap hgn.out hdL.out)).1
    have hcd := box_cell (hfl.1.heap hbqn.out.2 hbdL.out)
    obtain ⟨fb, hfb⟩ : ∃ u, Hid (x.2.1.fn (!x.2.1.o.add) = u) := ⟨_, rfl⟩
    obtain ⟨kb, hkb⟩ : ∃ u, Hid (x.2.1.cap (!x.2.1.o.add) = u) := ⟨_, rfl⟩
    have hc1 := hcx.2
    rw [Pn.f_eq, hfb.out, hkb.out] at hc1
    have hen := fun args w => enter_pn x.2.1 (!x.2.1.o.add) w args
    rw [hfb.out] at hen
    have Hfl := Lib.hid hfl
    have Hbxc := Lib.hid hbxc
    have Hbx := Lib.hid hbx
    have B2 := Lib.hid b2
    clear hcx hfl hbxc hbx b2
    have B3 := Lib.hid b3
    clear b3
    have Hmem := Lib.hid hmem
    clear hmem
    have Hlt := Lib.hid hlt
    clear hlt
    have Hl := Lib.hid hl
    clear hl hrec
    have hmix : Tryz.prog.follows .mixedOrders = true := by kernel_rfl
    have hcall : Hid (CallsIn (Fence.wide.inRound l) 2 Tryz.prog fb (#[.map (some bq)] ++ kb) W'.drew fun e w2 => e = .returned (.tuple #[]) ∧ w2.ownsMap (H := Unit) Tryz.prog 9 (plainElem Tryz.prog 3) bq (x.2.1.o.undoes (und s.now (pre.map fun x => x.2.1.o))).length (mapD (x.2.1.o.undoes (und s.now (pre.map fun x => x.2.1.o)))) ∧ Touch (fun x => x = bq) W'.drew w2) := by
      have hm2 : x.2.1 ∈ ps := by
        have h1 := Hmem.out
        have h2 : ∀ q, q ∈ qs → q ∈ ps := fun q hq => List.mem_of_mem_drop (hqs.out ▸ hq)
        exact h2 _ h1
      have hw : Touch (fun b => b = bq) w W'.drew := by
        have h1 : Below w.heap.size w WL := below_then hbW.out hbWL.out (Nat.le_refl _)
        refine (Touch.trans (.of h1) (Hfl.out.1.drew.mono fun b hb e => ?_))
        rcases e with e | e
        · exact e
        · omega
      have hp := ((Hp.out _ hm2).mono (Y := fun b => b = bq) fun b _ e => by rw [e]; show c bq ≠ 0; rw [B2.out]; exact Hi.out).keep hw
      rw [← hfb.out, ← hkb.out, ← doB_undoes]
      refine CallsIn.inRound l (callsIn_wide.2 (pn_any ((Hfl.out.2 bq rfl).drew) ?_ ?_ hp))
      · have h1 := und_len (pre.map fun x => x.2.1.o) s.now
        have h2 := Hg.out.now.1
        have h3 := HN.out
        have h4 := hqle.out
        have h5 := Hlt.out
        rw [List.length_map] at h1
        omega
      · exact Hg.out.o _ (by rw [← Hps.out]; exact List.mem_map_of_mem hm2)
    gi_wp2
    gi_region_with_o (refine ⟨trivial, ?_⟩; gi_at_fn fb; refine hcall.out.mono ?_; rintro e w2 ⟨rfl, ho2, ht2⟩)
    all_goals
      (have hT2 : Touch (fun x => x = bq) W' w2 := (Touch.refl _ W').drew.trans ht2
       have hT3 : Touch (ButD bq WL.heap.size) W' w2 := hT2.mono fun _ _ e => Or.inl e
       refine ⟨⟨hT2.size, fun k o hk ho _ => hT2.heap (fun e => ?_) ho⟩, hT3, Hfl.out.1.trans hT3, fun b hb => ?_⟩
       · have h1 := B3.out.lt
         have h2 := hbW.out.size
         have h3 := hbWL.out.size
         omega
       · injection hb with hb
         injection hb with hb
         subst hb
         rw [List.map_append, List.map_cons, List.map_nil, und_snoc]
         exact ho2)
  case done =>
    rintro D xs W' hD hS hI hK
    obtain ⟨m, hm⟩ : ∃ m, Hid (und s.now (xs.map fun x => x.2.1.o) = m) := ⟨_, rfl⟩
    have hmT : Hid (m = runs s.dur (s.ops.take T)) := by
      rw [← hm.out]
      have h1 : (xs.map fun x => x.2.1.o) = (s.ops.drop T).reverse := by
        have h2 : (xs.map fun x => x.2.1.o) = (xs.map fun x => x.2.1).map Pn.o := by rw [List.map_map]; rfl
        rw [h2, hS, ← hqs.out, ← Hps.out, List.map_reverse, List.map_drop]
      rw [h1]
      have h3 : T ≤ s.ops.length := by rw [← Hps.out, List.length_map]; exact HTle.out
      exact und_back Hg.out.ok.1 Hg.out.ok.2 (s.ops.length - T) T (by omega)
    have hmap := hI.2
    rw [hm.out] at hmap
    have htW := hI.1
    have hgc : W'.heap[g]? = some (.cells #[mv, .slice A ps.length cap, zz.m, zz.n, zz.tk, zz.q, zz.k, zz.mp] 84 (0, 0)) := htW.heap hgn.out hdL.out
    have hbc := box_cell (htW.heap hbqn.out.2 hbdL.out)
    have hf := d_frozen (i := 1) hgc
    have hcg := (d_cells hgc).2
    have Hmap := Lib.hid hmap
    have HtW := Lib.hid htW
    have HgC := Lib.hid hgc
    have HK := Lib.hid hK
    have HD := Lib.hid hD
    clear hmap htW hgc hK hD hI hS
    gi_wp2
    go_wp2
    have hbqg : ¬ bq = g := fun e => hgn.out (.inl e.symm)
    have hDg : ¬ D = g := by
      have h1 := HD.out
      have h2 := hbW.out.size
      have h3 := hbWL.out.size
      have h4 := hgl.out
      omega
    have hbqw : Hid (bq < w.heap.size → mv = .map (some bq) ∧ c bq = i) := by
      intro hlt
      rcases hbq.out with ⟨_, e⟩ | ⟨h1, h2, _⟩
      · have h2 := hbW.out.size
        have h3 := hbWL.out.size
        omega
      · exact ⟨h1, h2⟩
    have hDl : Hid (w.heap.size ≤ D) := by
      have h1 := HD.out
      have h2 := hbW.out.size
      have h3 := hbWL.out.size
      show _ ≤ _
      omega
    have hK' : (W'.setCell ⟨g, 1, none⟩ (.slice none 0 0)).heap[D]? = some (.deferred (some [])) := by
      rw [heap_setCell_other _ _ _ _ hDg]
      exact HK.out
    obtain ⟨Wf, hWf⟩ : ∃ Wf, Hid ((W'.setCell ⟨g, 1, none⟩ (.slice none 0 0)).putObj D (.deferred none) = Wf) := ⟨_, rfl⟩
    have htg : Hid (Touch (fun b => b = g ∨ b = D) W' Wf) := by
      rw [← hWf.out]
      exact ((Touch.cell1 W' g 1 _).mono fun _ _ e => Or.inl e).trans (Touch.grown (grownBy_putObj' _ D _) fun k e => by injection e with e; exact .inr e.symm)
    have hgf : Wf.heap[g]? = some (.cells #[mv, .slice none 0 0, zz.m, zz.n, zz.tk, zz.q, zz.k, zz.mp] 84 (0, 0)) := by
      rw [← hWf.out]
      exact (World.putObj_heap_other (k := g) (fun e => hDg e.symm)).trans (d_set1 _ HgC.out)
    have htw : Hid (Touch (fun b => b = bq ∨ b = g ∨ w.heap.size ≤ b) w Wf) := by
      have h1 : Below w.heap.size w WL := below_then hbW.out hbWL.out (Nat.le_refl _)
      refine (Touch.trans (.of h1) (HtW.out.mono fun b hb e => ?_)).trans (htg.out.mono fun b _ e => ?_)
      · rcases e with e | e
        · exact .inl e
        · omega
      · rcases e with e | e
        · exact .inr (.inl e)
        · rw [e]; exact .inr (.inr hDl.out)
    have hnow : (s.fail keep).now = m := by
      have h1 : s.ops.length = ps.length := by rw [← Hps.out, List.length_map]
      show runs (runs s.dur (s.ops.take (stay s.ops.length keep))) [] = m
      rw [h1, hT.out, hmT.out]
      rfl
    refine ⟨by simp, .inl ⟨_, _, rfl, run_takeDeferred hK', ?_⟩⟩
    rw [hWf.out]
    refine ⟨_, results_none rfl _ _ _, rfl, ext w c i, ext_same w c i, htw.out.mono fun b hb e => ?_, ?_, ?_, mv, .slice none 0 0, hgf, ?_, ?_⟩
    · show c b = i
      rcases e with e | e | e
      · rw [e]; exact (hbqw.out (e ▸ hb)).2
      · rw [e]; exact Hcol.out
      · omega
    · rw [ext_same w c i g hgl.out]; exact Hcol.out
    · intro _ _; rfl
    · rw [hnow]
      rcases hbq.out with ⟨e, _⟩ | ⟨e1, e2, e3⟩
      · refine .inl ⟨e, ?_⟩
        rcases Hm.out with ⟨_, h2⟩ | ⟨b, h1, _⟩
        · have h3 := Hne.out e
          rw [hmT.out, h3, List.take_nil]
          have h4 : s.now = s.dur := by show runs s.dur s.ops = s.dur; rw [h3]; rfl
          exact h4.symm.trans h2
        · rw [h1] at e; cases e
      · refine .inr ⟨bq, e1, (ext_same w c i bq e3.lt).trans e2, owns_touchD (Hmap.out bq e1) htg.out ?_⟩
        rintro (e | e)
        · exact hbqg e
        · have := e3.lt
          have := hDl.out
          omega
    · exact ⟨[], rfl, World.ownsRow_nil _ _ _ _, fun r hr => by simp [Value.ownBlock] at hr, fun p hp => by simp at hp⟩
  case stop =>
    rintro D cc pre W' _ _ h _
    exact h.elim
end
end Go.Proofs.YtbhmnmmockmibaaGreat
