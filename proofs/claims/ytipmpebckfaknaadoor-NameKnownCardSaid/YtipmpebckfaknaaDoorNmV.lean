/- A text's Name, as the reference reads it. Conditions: texts below 2^20. -/
import Derived.Test.YtipmpebckfaknaaDoorNmS
import Derived.Test.YtipmpebckfaknaaDoorNmT
import Derived.Test.YtipmpebckfaknaaDoorNmU
import Derived.Deep.CutRange
import Derived.StillTailTactics
namespace Go.Proofs.YtipmpebckfaknaaDoor
open Go.RowKit Go.Lib

theorem info_word : (Tryd.prog.info? 22).map (fun i => (i.zero, i.size, i.bytes)) = some (some (.int .u64 0), 1, 8) := by kernel_rfl
section
variable {ops : Array Oper} {rest : List Oper} {o : Oper} {a : Act} {Q : Exit → Act → World → Prop} {w : World} {base : Nat} {v : Value}
theorem push_nums (s x : Operand) {l m : List Nat} {n : Nat} (hm : m.length = n) (hown : w.ownsRow base 22 1 v l.length (us l)) (hbase : base ≤ w.heap.size) (hl : l.length + n ≤ 1048580)
    (hgd : o.guard = none) (ho : o.op = .call { callee := .builtin .append, args := #[s, x], argTypes := #[51, 51] })
    (hs : a.eval s = v) (hx : a.eval x = .slice (some ⟨w.heap.size, 0, none⟩) n n)
    (h : ∀ v' w', w'.ownsRow base 22 1 v' (l ++ m).length (us (l ++ m)) → Below base w w' → base ≤ w'.heap.size → wpList Tryd.prog ops Q rest (a.put o.dst v') w') :
    wpList Tryd.prog ops Q (o :: rest) a (w.alloc (.cells (us m).toArray 22)) := by
  subst hm
  obtain ⟨i0, hi0, hz0, hz1, hz2⟩ := info_parts info_word
  have hr : Reads (w.alloc (.cells (us m).toArray 22)) (w.heap.size + 1) 1 (some ⟨w.heap.size, 0, none⟩) m.length (us m) := by
    have := reads_new w 22 (us m)
    rwa [us_len] at this
  refine wpList_append_any _ hgd s x _ ho base 22 i0 _ 1 8 Tryd.underlying51 hi0 hz0 hz1 hz2 rfl (by omega) v _ _ hs (hown.alloc _) (w.heap.size + 1) _ m.length m.length (us m) hx hr (us_one _) (by simp only [maxLen]; omega) (by omega) (by simp; omega) ?_
  intro v1 w1 h1 h2 _
  have hb := ((Below.refl base w).alloc hbase _).trans (grown_below (hown.alloc (.cells (us m).toArray 22)) h2 (by simp; omega))
  refine h v1 w1 ?_ hb (Nat.le_trans hbase hb.size)
  rw [us_append, List.length_append]
  exact h1
end
theorem rnumber_ok (l : List UInt8) (u : Nat) (w : World) (hl : l.length < 4294967281) (h : numOf l = some u) :
    Calls Tryd.prog 37 #[.string (txt l)] w fun e w' => e = .returned (.tuple #[.int .u64 (u : Int), .bool true]) ∧ Below w.heap.size w w' := by
  refine (rnumber_any l w hl).mono ?_
  rintro e w' ⟨hn, hb⟩
  unfold NumAns at hn
  rw [h] at hn
  exact ⟨hn, hb⟩
theorem rnumber_bad (l : List UInt8) (w : World) (hl : l.length < 4294967281) (h : numOf l = none) :
    Calls Tryd.prog 37 #[.string (txt l)] w fun e w' => (∃ x : Int, e = .returned (.tuple #[.int .u64 x, .bool false])) ∧ Below w.heap.size w w' := by
  refine (rnumber_any l w hl).mono ?_
  rintro e w' ⟨hn, hb⟩
  unfold NumAns at hn
  rw [h] at hn
  exact ⟨hn, hb⟩
theorem find_at {α : Type} {p : α → Bool} : ∀ {l : List α} {k : Nat} {c : α}, (∀ (j : Nat) (x : α), j < k → l[j]? = some x → p x = false) → l[k]? = some c → p c = true → l.find? p = some c
  | [], _, _, _, hk, _ => by simp at hk
  | x :: r, 0, c, _, hk, hp => by
    simp only [List.getElem?_cons_zero, Option.some.injEq] at hk
    subst hk
    simp [hp]
  | x :: r, k + 1, c, hm, hk, hp => by
    have hx := hm 0 x (by omega) rfl
    rw [List.find?_cons, hx]
    exact find_at (k := k) (fun j y hj hy => hm (j + 1) y (by omega) (by simpa using hy)) (by simpa using hk) hp
theorem find_no {α : Type} {p : α → Bool} {l : List α} (h : ∀ (j : Nat) (x : α), j < l.length → l[j]? = some x → p x = false) : l.find? p = none := by
  rw [List.find?_eq_none]
  intro x hx
  obtain ⟨j, hj, e⟩ := List.getElem_of_mem hx
  rw [h j x hj (by rw [List.getElem?_eq_getElem hj, e])]
  decide

theorem pad_get {ns : List Nat} (h2 : 2 ≤ ns.length) (h4 : ns.length ≤ 4) : ∀ j, j < 4 → (ns ++ [0, 0])[j]? = some (ns.getD j 0) := by
  intro j hj
  rw [List.getD_eq_getElem?_getD]
  by_cases h : j < ns.length
  · rw [List.getElem?_append_left h, List.getElem?_eq_getElem h]
    rfl
  · rw [List.getElem?_append_right (by omega), List.getElem?_eq_none (l := ns) (by omega)]
    obtain h0 | h1 : j - ns.length = 0 ∨ j - ns.length = 1 := by omega
    · rw [h0]; rfl
    · rw [h1]; rfl
theorem box_part {x : Nm} {w : World} {g o : Nat} {cs : Array Value} {t : TypeId} {fr : Nat × Nat} (h : w.heap[g]? = some (.cells cs t fr)) (h0 : cs[o]? = some (.int .u8 (x.k : Int))) (h1 : cs[o + 1]? = some (.int .u64 (x.d : Int))) (h2 : cs[o + 2]? = some (.int .u64 (x.n : Int)))
    (h3 : cs[o + 3]? = some (.int .u64 (x.p : Int))) (h4 : cs[o + 4]? = some (.int .u64 (x.i : Int))) (h5 : cs[o + 5]? = some (.int .u64 (x.c : Int))) : BoxNm x w ⟨g, o, none⟩ :=
  ⟨(cell_of_row w g o cs t fr h).trans h0, (cell_of_row w g (o + 1) cs t fr h).trans h1, (cell_of_row w g (o + 2) cs t fr h).trans h2, (cell_of_row w g (o + 3) cs t fr h).trans h3, (cell_of_row w g (o + 4) cs t fr h).trans h4, (cell_of_row w g (o + 5) cs t fr h).trans h5, (Array.getElem?_eq_some_iff.1 h).1⟩
set_option maxHeartbeats 8000000 in
set_option maxRecDepth 100000 in
theorem rparse_any (s : List UInt8) (w : World) (hl : s.length ≤ 1048000) :
    Calls Tryd.prog 18 #[.string (txt s)] w fun e w' => ParseAns s e ∧ Below w.heap.size w w' := by
  have hsp := rsplit_any s (w.alloc (.cells zeros6 25)) hl
  have Hsp := Lib.hid hsp
  have Hl := Lib.hid hl
  clear hsp hl
  obtain ⟨letter, ds, hsd⟩ : ∃ letter ds, splitD s = letter :: ds := by
    cases h : splitD s with
    | nil => exact absurd h (splitD_ne s)
    | cons a b => exact ⟨a, b, rfl⟩
  have Hsd := Lib.hid hsd
  clear hsd
  go_enter Tryd.func18, Tryd.ntmps18
  go_upto_region 2 with (go_at_call 36; refine Hsp.out.mono ?_; rintro e W ⟨⟨v, rfl, hown⟩, hb⟩)
  obtain ⟨A, c, e, hnc, hcm, hR⟩ := own_form hown
  subst e
  obtain ⟨n, hn⟩ : ∃ n, Hid ((splitD s).length = n) := ⟨_, rfl⟩
  have Hn1 : Hid (n = ds.length + 1) := by rw [← hn.out, Hsd.out]; exact rfl
  have hR' : Reads W W.heap.size 1 A n (ts (splitD s)) := by rw [← hn.out]; exact hR
  rw [hn.out]
  have HR := Lib.hid hR'
  have Hres : Hid (W.heap[w.heap.size]? = some (.cells zeros6 25 (0, 0))) := (hb.block _ (by simp)).trans (heap_alloc_new w _)
  have HW : Hid (Below w.heap.size w W) := (below_new w _).trans (hb.mono (by simp))
  have HWlt : Hid (w.heap.size < W.heap.size) := (Array.getElem?_eq_some_iff.1 Hres.out).1
  have hn63 : n ≤ 1048001 := by rw [← hn.out]; have := splitD_len s; have := Hl.out; omega
  clear hown hb hnc hcm hR hR'
  go_wp2
  go_loopw [5, 6] (fun v i wr => ∃ (q : Nat) (ns : List Nat), 1 ≤ q ∧ q ≤ n ∧ i = .int .i64 (q : Int) ∧ Hid ((ds.take (q - 1)).mapM numOf = some ns) ∧ wr.ownsRow W.heap.size 22 1 v ns.length (us ns) ∧ Below W.heap.size W wr) (fun _ i _ => n - (Lib.intOf i).toNat)
  case atStart => exact ⟨1, [], by omega, by have := Hn1.out; omega, rfl, rfl, World.ownsRow_nil _ _ _ _, .refl _ _⟩
  case round =>
    obtain ⟨q, ns, hq1, hq, rfl, Hns, hown, hb⟩ := hrel
    have Hb := Lib.hid hb
    have Hown := Lib.hid hown
    have hnsl : Hid (ns.length = q - 1) := by
      have h1 := (mapM_inv Hns.out).1
      have h2 := congrArg List.length h1
      rw [List.length_map, List.length_take] at h2
      have := Hn1.out
      exact (by omega : ns.length = q - 1)
    have Hresr : Hid (wr.heap[w.heap.size]? = some (.cells zeros6 25 (0, 0))) := (Hb.out.block _ HWlt.out).trans Hres.out
    have Hwr : Hid (Below w.heap.size w wr) := HW.out.trans (Hb.out.mono HW.out.size)
    clear hb hown
    by_cases hlt : q < n
    · obtain ⟨ad, u0, rfl, hab, hu0, hcell⟩ := Reads.at_ (Reads.below HR.out Hb.out) hlt
      obtain ⟨d, hd⟩ : ∃ d, (splitD s)[q]? = some d := ⟨_, List.getElem?_eq_getElem (by rw [hn.out]; exact hlt)⟩
      rw [ts_get hd] at hu0
      obtain rfl : Value.string (txt d) = u0 := by injection hu0
      have hdl : d.length < 4294967281 := by
        have := splitD_part (List.mem_of_getElem? hd)
        have := Hl.out
        omega
      have hdd : ds[q - 1]? = some d := by
        rw [Hsd.out] at hd
        rw [show q = (q - 1) + 1 by omega, List.getElem?_cons_succ] at hd
        exact hd
      have Hdl := Lib.hid hdl
      have Hdd := Lib.hid hdd
      have Hta : Hid (ds.take q = ds.take (q - 1) ++ [d]) := by
        have := take_snoc Hdd
        rw [show q - 1 + 1 = q by omega] at this
        exact this
      clear hd hdl hdd hu0 hab
      cases hnu : numOf d with
      | none =>
        have Hnu := Lib.hid hnu
        have Hno : Hid (parseOf s = none) := by
          refine parse_not Hsd.out ?_
          have e : ds = ds.take (q - 1) ++ d :: ds.drop q := by
            have h1 : ds.take q ++ ds.drop q = ds := List.take_append_drop q ds
            rw [Hta.out, List.append_assoc] at h1
            exact h1.symm
          rw [e]
          exact mapM_bad Hnu.out
        clear hnu
        go_upto_region 8 with (go_at_call 37; refine (rnumber_bad d _ Hdl.out Hnu.out).mono ?_; rintro e w2 ⟨⟨x, rfl⟩, hb2⟩)
        have hres2 := (hb2.block _ (Array.getElem?_eq_some_iff.1 Hresr.out).1).trans Hresr.out
        go_wp2_with (refine wpList_store_row rfl 25 (.tmp 2) (.tmp 29) rfl w.heap.size _ rfl rfl _ _ hres2 size_rnm rfl (six_one _ _ _ _ _ _) ?_)
        exact ret_agg2 (u := 3) rfl rnmTy w.heap.size _ _ (0, 0) rfl rfl (setRow_heap _ _ _ _ _ _ hres2) rfl ⟨.none Hno.out, below_setRow' (Hwr.out.trans (hb2.mono Hwr.out.size)) (Nat.le_refl _) _⟩
      | some u =>
        have Hnu := Lib.hid hnu
        clear hnu
        have Hnext : Hid ((ds.take (q + 1 - 1)).mapM numOf = some (ns ++ [u])) := by
          rw [Nat.add_sub_cancel, Hta.out]
          exact mapM_snoc Hns.out Hnu.out
        have hq63 : (q : Int) + 1 ≤ 1048002 := by omega
        go_upto_region 9 with (go_at_call 37; refine (rnumber_ok d u _ Hdl.out Hnu.out).mono ?_; rintro e w2 ⟨rfl, hb2⟩)
        have Hown2 := Lib.hid (own_below Hown.out hb2 (Nat.le_refl _))
        have hws : W.heap.size ≤ w2.heap.size := Nat.le_trans Hb.out.size hb2.size
        have hnl : ns.length + 1 ≤ 1048580 := by have := hnsl.out; omega
        have Hb2 := Lib.hid hb2
        have Hws := Lib.hid hws
        have Hnl := Lib.hid hnl
        clear hb2 hws hnl
        go_wp2_with (at_builtin; refine push_nums (m := [u]) (.tmp 30) (.tmp 32) rfl Hown2.out Hws.out Hnl.out rfl rfl rfl rfl ?_; intro v1 w3 hown1 hb3 hbs3)
        go_roundw
        case rel => exact ⟨q + 1, ns ++ [u], by omega, by omega, by go_num, Hnext, hown1, (Hb.out.trans (Hb2.out.mono Hb.out.size)).trans hb3⟩
        case measure => simp [Lib.intOf]; omega
    · obtain rfl : q = n := by omega
      have Hall : Hid (ds.mapM numOf = some ns) := by
        have := Hns.out
        rw [List.take_of_length_le (by have := Hn1.out; omega)] at this
        exact this
      obtain ⟨N, hN⟩ : ∃ N, Hid (ns.length = N) := ⟨_, rfl⟩
      have Hown1 := Hown.out
      rw [hN.out] at Hown1
      obtain ⟨A1, c1, e1, _, _, hR1⟩ := own_form Hown1
      have HownN := Lib.hid Hown1
      clear Hown1 Hown Hns hnsl hlt hq1 hq
      by_cases hfew : N < 2 ∨ 4 < N
      · have Hno : Hid (parseOf s = none) := parse_few Hsd.out Hall.out (by rw [hN.out]; exact hfew)
        subst e1
        by_cases h2 : N < 2
        · clear hfew
          go_upto_region 11 with fail
          go_wp2_with (refine wpList_store_row rfl 25 (.tmp 2) (.tmp 42) rfl w.heap.size _ rfl rfl _ _ Hresr.out size_rnm rfl (six_one _ _ _ _ _ _) ?_)
          exact ret_agg2 (u := 3) rfl rnmTy w.heap.size _ _ (0, 0) rfl rfl (setRow_heap _ _ _ _ _ _ Hresr.out) rfl ⟨.none Hno.out, below_setRow' Hwr.out (Nat.le_refl _) _⟩
        · have h4 : 4 < N := by omega
          clear hfew
          go_upto_region 11 with fail
          go_wp2_with (refine wpList_store_row rfl 25 (.tmp 2) (.tmp 42) rfl w.heap.size _ rfl rfl _ _ Hresr.out size_rnm rfl (six_one _ _ _ _ _ _) ?_)
          exact ret_agg2 (u := 3) rfl rnmTy w.heap.size _ _ (0, 0) rfl rfl (setRow_heap _ _ _ _ _ _ Hresr.out) rfl ⟨.none Hno.out, below_setRow' Hwr.out (Nat.le_refl _) _⟩
      · have h2 : ¬ N < 2 := fun h => hfew (.inl h)
        have h4 : ¬ 4 < N := fun h => hfew (.inr h)
        have hNs : N ≤ 4 := by omega
        clear hfew
        subst e1
        have Hown3 : Hid (wr.ownsRow W.heap.size 22 1 (.slice A1 N c1) ns.length (us ns)) := by rw [hN.out]; exact HownN.out
        have HWr : Hid (W.heap.size ≤ wr.heap.size) := Hb.out.size
        have HnsN : Hid (ns.length + 2 ≤ 1048580) := by have := hN.out; exact (by omega : ns.length + 2 ≤ 1048580)
        go_upto_region 13 with (at_builtin; refine push_nums (m := [0, 0]) (.tmp 43) (.tmp 44) rfl Hown3.out HWr.out HnsN.out rfl rfl rfl rfl ?_; intro v1 w3 hown1 hb3 hbs3)
        have Hpad : Hid (∀ j, j < 4 → (ns ++ [0, 0])[j]? = some (ns.getD j 0)) := pad_get (by have := hN.out; omega) (by have := hN.out; omega)
        obtain ⟨n2, hn2⟩ : ∃ n2 : Nat, Hid ((ns ++ ([0, 0] : List Nat)).length = n2) := ⟨(ns ++ ([0, 0] : List Nat)).length, rfl⟩
        rw [hn2.out] at hown1
        have hn24 : 4 ≤ n2 := by rw [← hn2.out, List.length_append]; have := hN.out; simp; omega
        obtain ⟨g, cap, e2, hge, hgl⟩ := hown1.form (by omega)
        subst e2
        have hc : ∀ j, j < 4 → w3.cell? ⟨g, j, none⟩ = some (.int .u64 ((ns.getD j 0 : Nat) : Int)) := fun j hj => by
          rw [hown1.cellAt j (by omega)]
          show (us (ns ++ [0, 0]))[j]? = _
          unfold us
          rw [List.getElem?_map, Hpad.out j hj]
          rfl
        obtain ⟨b0, hb0⟩ : ∃ b, Hid (ns.getD 0 0 = b) := ⟨_, rfl⟩
        obtain ⟨b1, hb1⟩ : ∃ b, Hid (ns.getD 1 0 = b) := ⟨_, rfl⟩
        obtain ⟨b2, hb2⟩ : ∃ b, Hid (ns.getD 2 0 = b) := ⟨_, rfl⟩
        obtain ⟨b3, hb3'⟩ : ∃ b, Hid (ns.getD 3 0 = b) := ⟨_, rfl⟩
        have q0 := hc 0 (by decide)
        have q1 := hc 1 (by decide)
        have q2 := hc 2 (by decide)
        have q3 := hc 3 (by decide)
        rw [hb0.out] at q0
        rw [hb1.out] at q1
        rw [hb2.out] at q2
        rw [hb3'.out] at q3
        have hk0 : 0 < n2 := by omega
        have hk1 : (1 : Int) < (n2 : Int) := by omega
        have hk2 : (2 : Int) < (n2 : Int) := by omega
        have hk3 : (3 : Int) < (n2 : Int) := by omega
        have Hcands : Hid (parseOf s = (cands ns).find? fun c => decide (putOf c = s)) := parse_find Hsd.out Hall.out
        have Hok : Hid (∀ u ∈ ns, u < 18446744073709551616) := (mapM_inv Hall.out).2
        have Hw3 : Hid (Below w.heap.size w w3) := Hwr.out.trans (hb3.mono (Nat.le_of_lt HWlt.out))
        have Hb3 := Lib.hid hb3
        clear hc hown1 hb3 hbs3 h2 h4
        go_still_tail 37, (by kernel_rfl)
        change wpList _ _ _ _ _ (w3.drewN 1)
        go_upto_region 14 with fail
        obtain ⟨W4, hW4⟩ : ∃ W, Hid (W = (w3.drewN 1).alloc (.cells #[.int .u8 1, .int .u64 (b0 : Int), .int .u64 (b1 : Int), .int .u64 0, .int .u64 0, .int .u64 0, .int .u8 2, .int .u64 (b0 : Int), .int .u64 (b1 : Int), .int .u64 0, .int .u64 0, .int .u64 0, .int .u8 3, .int .u64 0, .int .u64 0, .int .u64 (b0 : Int), .int .u64 (b1 : Int), .int .u64 (b2 : Int), .int .u8 4, .int .u64 (b0 : Int), .int .u64 0, .int .u64 (b1 : Int), .int .u64 (b2 : Int), .int .u64 (b3 : Int)] 25)) := ⟨_, rfl⟩
        rw [← hW4.out]
        have hz3 : (w3.drewN 1).heap.size = w3.heap.size := rfl
        have hblk : W4.heap[w3.heap.size]? = some (.cells #[.int .u8 1, .int .u64 (b0 : Int), .int .u64 (b1 : Int), .int .u64 0, .int .u64 0, .int .u64 0, .int .u8 2, .int .u64 (b0 : Int), .int .u64 (b1 : Int), .int .u64 0, .int .u64 0, .int .u64 0, .int .u8 3, .int .u64 0, .int .u64 0, .int .u64 (b0 : Int), .int .u64 (b1 : Int), .int .u64 (b2 : Int), .int .u8 4, .int .u64 (b0 : Int), .int .u64 0, .int .u64 (b1 : Int), .int .u64 (b2 : Int), .int .u64 (b3 : Int)] 25 (0, 0)) := by rw [hW4.out, ← hz3]; exact heap_alloc_new _ _
        have HX0 : Hid (BoxNm ⟨1, b0, b1, 0, 0, 0⟩ W4 ⟨w3.heap.size, 0, none⟩) := box_part hblk rfl rfl rfl rfl rfl rfl
        have HX1 : Hid (BoxNm ⟨2, b0, b1, 0, 0, 0⟩ W4 ⟨w3.heap.size, 6, none⟩) := box_part hblk rfl rfl rfl rfl rfl rfl
        have HX2 : Hid (BoxNm ⟨3, 0, 0, b0, b1, b2⟩ W4 ⟨w3.heap.size, 12, none⟩) := box_part hblk rfl rfl rfl rfl rfl rfl
        have HX3 : Hid (BoxNm ⟨4, b0, 0, b1, b2, b3⟩ W4 ⟨w3.heap.size, 18, none⟩) := box_part hblk rfl rfl rfl rfl rfl rfl
        have HW4 : Hid (Below w.heap.size w W4) := by rw [hW4.out]; exact (below_drewN Hw3.out 1).alloc (below_drewN Hw3.out 1).size _
        have Hres4 : Hid (W4.heap[w.heap.size]? = some (.cells zeros6 25 (0, 0))) := by
          rw [hW4.out]
          have h1 : w3.heap[w.heap.size]? = some (.cells zeros6 25 (0, 0)) := (Hb3.out.block _ HWlt.out).trans Hresr.out
          exact (heap_alloc_old (w3.drewN 1) _ (Array.getElem?_eq_some_iff.1 h1).1).trans h1
        have Hc : Hid (cands ns = [⟨1, b0, b1, 0, 0, 0⟩, ⟨2, b0, b1, 0, 0, 0⟩, ⟨3, 0, 0, b0, b1, b2⟩, ⟨4, b0, 0, b1, b2, b3⟩]) := by
          unfold cands
          rw [hb0.out, hb1.out, hb2.out, hb3'.out]
          exact rfl
        have Hoks : Hid (∀ c ∈ cands ns, mayOf c = true ∧ c.Ok) := cands_ok Hok.out
        clear hblk hz3 q0 q1 q2 q3 hk0 hk1 hk2 hk3 hn24 hge hgl
        go_wp2
        go_loopw [10] (fun i wr => ∃ k : Nat, k ≤ 4 ∧ i = .int .i64 (k : Int) ∧ Hid (∀ (j : Nat) (x : Nm), j < k → (cands ns)[j]? = some x → decide (putOf x = s) = false) ∧ Below W4.heap.size W4 wr) (fun i _ => 4 - (Lib.intOf i).toNat)
        case atStart => exact ⟨0, Nat.zero_le _, rfl, fun j x hj => absurd hj (Nat.not_lt_zero _), .refl _ _⟩
        case round =>
          obtain ⟨k, hk, rfl, Hmiss, hb⟩ := hrel
          have Hb4 := Lib.hid hb
          clear hb
          match k, hk, Hmiss with
          | 0, hk, Hmiss =>
            obtain ⟨x, hx⟩ : ∃ x : Nm, x = ⟨1, b0, b1, 0, 0, 0⟩ := ⟨_, rfl⟩
            have hin : (cands ns)[0]? = some x := by rw [Hc.out, hx]; rfl
            have Hin := Lib.hid hin
            have Hokx : Hid x.Ok := (Hoks.out x (List.mem_of_getElem? hin)).2
            have hbx : BoxNm x wr ⟨w3.heap.size, 0, none⟩ := by rw [hx]; exact HX0.out.below Hb4.out HX0.out.lt
            have Hbx := Lib.hid hbx
            clear hx hin
            have y0 : wr.cell? ⟨w3.heap.size, 0, none⟩ = some (.int .u8 (x.k : Int)) := hbx.c0
            have y1 : wr.cell? ⟨w3.heap.size, 1, none⟩ = some (.int .u64 (x.d : Int)) := hbx.c1
            have y2 : wr.cell? ⟨w3.heap.size, 2, none⟩ = some (.int .u64 (x.n : Int)) := hbx.c2
            have y3 : wr.cell? ⟨w3.heap.size, 3, none⟩ = some (.int .u64 (x.p : Int)) := hbx.c3
            have y4 : wr.cell? ⟨w3.heap.size, 4, none⟩ = some (.int .u64 (x.i : Int)) := hbx.c4
            have y5 : wr.cell? ⟨w3.heap.size, 5, none⟩ = some (.int .u64 (x.c : Int)) := hbx.c5
            clear hbx
            have HP := Lib.hid (rput_any x Hokx.out wr)
            by_cases hp : putOf x = s
            · have Hp := Lib.hid hp
              have Hyes : Hid (parseOf s = some x) := by rw [Hcands.out]; exact find_at Hmiss.out Hin.out (by simp [hp])
              have hbe : ((txt (putOf x)).toList == (txt s).toList) = true := by rw [txt_beq, decide_eq_true hp]
              clear hp
              go_upto_region 18 with (go_at_call 13; refine HP.out.mono ?_; rintro e w5 ⟨rfl, hb5⟩)
              have hbx5 := Hbx.out.keep hb5
              have z0 : w5.cell? ⟨w3.heap.size, 0, none⟩ = some (.int .u8 (x.k : Int)) := hbx5.c0
              have z1 : w5.cell? ⟨w3.heap.size, 1, none⟩ = some (.int .u64 (x.d : Int)) := hbx5.c1
              have z2 : w5.cell? ⟨w3.heap.size, 2, none⟩ = some (.int .u64 (x.n : Int)) := hbx5.c2
              have z3 : w5.cell? ⟨w3.heap.size, 3, none⟩ = some (.int .u64 (x.p : Int)) := hbx5.c3
              have z4 : w5.cell? ⟨w3.heap.size, 4, none⟩ = some (.int .u64 (x.i : Int)) := hbx5.c4
              have z5 : w5.cell? ⟨w3.heap.size, 5, none⟩ = some (.int .u64 (x.c : Int)) := hbx5.c5
              have hb45 := Hb4.out.trans (hb5.mono Hb4.out.size)
              have hres5 := (hb45.block _ (Array.getElem?_eq_some_iff.1 Hres4.out).1).trans Hres4.out
              have Hold := Lib.hid (HW4.out.trans (hb45.mono HW4.out.size))
              clear hbe y0 y1 y2 y3 y4 y5 hbx5 hb5 hb45
              go_wp2_with (refine wpList_store_row rfl 25 (.tmp 2) (.tmp 98) rfl w.heap.size _ rfl rfl _ _ hres5 size_rnm rfl (six_one _ _ _ _ _ _) ?_)
              exact ret_agg2 (u := 3) rfl rnmTy w.heap.size _ _ (0, 0) rfl rfl (setRow_heap _ _ _ _ _ _ hres5) rfl ⟨.some Hyes.out, below_setRow' Hold.out (Nat.le_refl _) _⟩
            · have hbe : ((txt (putOf x)).toList == (txt s).toList) = false := by rw [txt_beq, decide_eq_false hp]
              have Hmiss2 : Hid (∀ (j : Nat) (y : Nm), j < 1 → (cands ns)[j]? = some y → decide (putOf y = s) = false) := by
                intro j y hj hy
                by_cases hjk : j = 0
                · subst hjk
                  rw [Hin.out] at hy
                  obtain rfl : x = y := by injection hy
                  exact decide_eq_false hp
                · exact Hmiss.out j y (by omega) hy
              clear hp
              go_wp2_with (go_at_call 13; refine HP.out.mono ?_; rintro e w5 ⟨rfl, hb5⟩)
              go_roundw
              case rel => exact ⟨1, by omega, by go_num, Hmiss2, Hb4.out.trans (hb5.mono Hb4.out.size)⟩
              case measure => simp [Lib.intOf]
          | 1, hk, Hmiss =>
            obtain ⟨x, hx⟩ : ∃ x : Nm, x = ⟨2, b0, b1, 0, 0, 0⟩ := ⟨_, rfl⟩
            have hin : (cands ns)[1]? = some x := by rw [Hc.out, hx]; rfl
            have Hin := Lib.hid hin
            have Hokx : Hid x.Ok := (Hoks.out x (List.mem_of_getElem? hin)).2
            have hbx : BoxNm x wr ⟨w3.heap.size, 6, none⟩ := by rw [hx]; exact HX1.out.below Hb4.out HX1.out.lt
            have Hbx := Lib.hid hbx
            clear hx hin
            have y0 : wr.cell? ⟨w3.heap.size, 6, none⟩ = some (.int .u8 (x.k : Int)) := hbx.c0
            have y1 : wr.cell? ⟨w3.heap.size, 7, none⟩ = some (.int .u64 (x.d : Int)) := hbx.c1
            have y2 : wr.cell? ⟨w3.heap.size, 8, none⟩ = some (.int .u64 (x.n : Int)) := hbx.c2
            have y3 : wr.cell? ⟨w3.heap.size, 9, none⟩ = some (.int .u64 (x.p : Int)) := hbx.c3
            have y4 : wr.cell? ⟨w3.heap.size, 10, none⟩ = some (.int .u64 (x.i : Int)) := hbx.c4
            have y5 : wr.cell? ⟨w3.heap.size, 11, none⟩ = some (.int .u64 (x.c : Int)) := hbx.c5
            clear hbx
            have HP := Lib.hid (rput_any x Hokx.out wr)
            by_cases hp : putOf x = s
            · have Hp := Lib.hid hp
              have Hyes : Hid (parseOf s = some x) := by rw [Hcands.out]; exact find_at Hmiss.out Hin.out (by simp [hp])
              have hbe : ((txt (putOf x)).toList == (txt s).toList) = true := by rw [txt_beq, decide_eq_true hp]
              clear hp
              go_upto_region 18 with (go_at_call 13; refine HP.out.mono ?_; rintro e w5 ⟨rfl, hb5⟩)
              have hbx5 := Hbx.out.keep hb5
              have z0 : w5.cell? ⟨w3.heap.size, 6, none⟩ = some (.int .u8 (x.k : Int)) := hbx5.c0
              have z1 : w5.cell? ⟨w3.heap.size, 7, none⟩ = some (.int .u64 (x.d : Int)) := hbx5.c1
              have z2 : w5.cell? ⟨w3.heap.size, 8, none⟩ = some (.int .u64 (x.n : Int)) := hbx5.c2
              have z3 : w5.cell? ⟨w3.heap.size, 9, none⟩ = some (.int .u64 (x.p : Int)) := hbx5.c3
              have z4 : w5.cell? ⟨w3.heap.size, 10, none⟩ = some (.int .u64 (x.i : Int)) := hbx5.c4
              have z5 : w5.cell? ⟨w3.heap.size, 11, none⟩ = some (.int .u64 (x.c : Int)) := hbx5.c5
              have hb45 := Hb4.out.trans (hb5.mono Hb4.out.size)
              have hres5 := (hb45.block _ (Array.getElem?_eq_some_iff.1 Hres4.out).1).trans Hres4.out
              have Hold := Lib.hid (HW4.out.trans (hb45.mono HW4.out.size))
              clear hbe y0 y1 y2 y3 y4 y5 hbx5 hb5 hb45
              go_wp2_with (refine wpList_store_row rfl 25 (.tmp 2) (.tmp 98) rfl w.heap.size _ rfl rfl _ _ hres5 size_rnm rfl (six_one _ _ _ _ _ _) ?_)
              exact ret_agg2 (u := 3) rfl rnmTy w.heap.size _ _ (0, 0) rfl rfl (setRow_heap _ _ _ _ _ _ hres5) rfl ⟨.some Hyes.out, below_setRow' Hold.out (Nat.le_refl _) _⟩
            · have hbe : ((txt (putOf x)).toList == (txt s).toList) = false := by rw [txt_beq, decide_eq_false hp]
              have Hmiss2 : Hid (∀ (j : Nat) (y : Nm), j < 2 → (cands ns)[j]? = some y → decide (putOf y = s) = false) := by
                intro j y hj hy
                by_cases hjk : j = 1
                · subst hjk
                  rw [Hin.out] at hy
                  obtain rfl : x = y := by injection hy
                  exact decide_eq_false hp
                · exact Hmiss.out j y (by omega) hy
              clear hp
              go_wp2_with (go_at_call 13; refine HP.out.mono ?_; rintro e w5 ⟨rfl, hb5⟩)
              go_roundw
              case rel => exact ⟨2, by omega, by go_num, Hmiss2, Hb4.out.trans (hb5.mono Hb4.out.size)⟩
              case measure => simp [Lib.intOf]
          | 2, hk, Hmiss =>
            obtain ⟨x, hx⟩ : ∃ x : Nm, x = ⟨3, 0, 0, b0, b1, b2⟩ := ⟨_, rfl⟩
            have hin : (cands ns)[2]? = some x := by rw [Hc.out, hx]; rfl
            have Hin := Lib.hid hin
            have Hokx : Hid x.Ok := (Hoks.out x (List.mem_of_getElem? hin)).2
            have hbx : BoxNm x wr ⟨w3.heap.size, 12, none⟩ := by rw [hx]; exact HX2.out.below Hb4.out HX2.out.lt
            have Hbx := Lib.hid hbx
            clear hx hin
            have y0 : wr.cell? ⟨w3.heap.size, 12, none⟩ = some (.int .u8 (x.k : Int)) := hbx.c0
            have y1 : wr.cell? ⟨w3.heap.size, 13, none⟩ = some (.int .u64 (x.d : Int)) := hbx.c1
            have y2 : wr.cell? ⟨w3.heap.size, 14, none⟩ = some (.int .u64 (x.n : Int)) := hbx.c2
            have y3 : wr.cell? ⟨w3.heap.size, 15, none⟩ = some (.int .u64 (x.p : Int)) := hbx.c3
            have y4 : wr.cell? ⟨w3.heap.size, 16, none⟩ = some (.int .u64 (x.i : Int)) := hbx.c4
            have y5 : wr.cell? ⟨w3.heap.size, 17, none⟩ = some (.int .u64 (x.c : Int)) := hbx.c5
            clear hbx
            have HP := Lib.hid (rput_any x Hokx.out wr)
            by_cases hp : putOf x = s
            · have Hp := Lib.hid hp
              have Hyes : Hid (parseOf s = some x) := by rw [Hcands.out]; exact find_at Hmiss.out Hin.out (by simp [hp])
              have hbe : ((txt (putOf x)).toList == (txt s).toList) = true := by rw [txt_beq, decide_eq_true hp]
              clear hp
              go_upto_region 18 with (go_at_call 13; refine HP.out.mono ?_; rintro e w5 ⟨rfl, hb5⟩)
              have hbx5 := Hbx.out.keep hb5
              have z0 : w5.cell? ⟨w3.heap.size, 12, none⟩ = some (.int .u8 (x.k : Int)) := hbx5.c0
              have z1 : w5.cell? ⟨w3.heap.size, 13, none⟩ = some (.int .u64 (x.d : Int)) := hbx5.c1
              have z2 : w5.cell? ⟨w3.heap.size, 14, none⟩ = some (.int .u64 (x.n : Int)) := hbx5.c2
              have z3 : w5.cell? ⟨w3.heap.size, 15, none⟩ = some (.int .u64 (x.p : Int)) := hbx5.c3
              have z4 : w5.cell? ⟨w3.heap.size, 16, none⟩ = some (.int .u64 (x.i : Int)) := hbx5.c4
              have z5 : w5.cell? ⟨w3.heap.size, 17, none⟩ = some (.int .u64 (x.c : Int)) := hbx5.c5
              have hb45 := Hb4.out.trans (hb5.mono Hb4.out.size)
              have hres5 := (hb45.block _ (Array.getElem?_eq_some_iff.1 Hres4.out).1).trans Hres4.out
              have Hold := Lib.hid (HW4.out.trans (hb45.mono HW4.out.size))
              clear hbe y0 y1 y2 y3 y4 y5 hbx5 hb5 hb45
              go_wp2_with (refine wpList_store_row rfl 25 (.tmp 2) (.tmp 98) rfl w.heap.size _ rfl rfl _ _ hres5 size_rnm rfl (six_one _ _ _ _ _ _) ?_)
              exact ret_agg2 (u := 3) rfl rnmTy w.heap.size _ _ (0, 0) rfl rfl (setRow_heap _ _ _ _ _ _ hres5) rfl ⟨.some Hyes.out, below_setRow' Hold.out (Nat.le_refl _) _⟩
            · have hbe : ((txt (putOf x)).toList == (txt s).toList) = false := by rw [txt_beq, decide_eq_false hp]
              have Hmiss2 : Hid (∀ (j : Nat) (y : Nm), j < 3 → (cands ns)[j]? = some y → decide (putOf y = s) = false) := by
                intro j y hj hy
                by_cases hjk : j = 2
                · subst hjk
                  rw [Hin.out] at hy
                  obtain rfl : x = y := by injection hy
                  exact decide_eq_false hp
                · exact Hmiss.out j y (by omega) hy
              clear hp
              go_wp2_with (go_at_call 13; refine HP.out.mono ?_; rintro e w5 ⟨rfl, hb5⟩)
              go_roundw
              case rel => exact ⟨3, by omega, by go_num, Hmiss2, Hb4.out.trans (hb5.mono Hb4.out.size)⟩
              case measure => simp [Lib.intOf]
          | 3, hk, Hmiss =>
            obtain ⟨x, hx⟩ : ∃ x : Nm, x = ⟨4, b0, 0, b1, b2, b3⟩ := ⟨_, rfl⟩
            have hin : (cands ns)[3]? = some x := by rw [Hc.out, hx]; rfl
            have Hin := Lib.hid hin
            have Hokx : Hid x.Ok := (Hoks.out x (List.mem_of_getElem? hin)).2
            have hbx : BoxNm x wr ⟨w3.heap.size, 18, none⟩ := by rw [hx]; exact HX3.out.below Hb4.out HX3.out.lt
            have Hbx := Lib.hid hbx
            clear hx hin
            have y0 : wr.cell? ⟨w3.heap.size, 18, none⟩ = some (.int .u8 (x.k : Int)) := hbx.c0
            have y1 : wr.cell? ⟨w3.heap.size, 19, none⟩ = some (.int .u64 (x.d : Int)) := hbx.c1
            have y2 : wr.cell? ⟨w3.heap.size, 20, none⟩ = some (.int .u64 (x.n : Int)) := hbx.c2
            have y3 : wr.cell? ⟨w3.heap.size, 21, none⟩ = some (.int .u64 (x.p : Int)) := hbx.c3
            have y4 : wr.cell? ⟨w3.heap.size, 22, none⟩ = some (.int .u64 (x.i : Int)) := hbx.c4
            have y5 : wr.cell? ⟨w3.heap.size, 23, none⟩ = some (.int .u64 (x.c : Int)) := hbx.c5
            clear hbx
            have HP := Lib.hid (rput_any x Hokx.out wr)
            by_cases hp : putOf x = s
            · have Hp := Lib.hid hp
              have Hyes : Hid (parseOf s = some x) := by rw [Hcands.out]; exact find_at Hmiss.out Hin.out (by simp [hp])
              have hbe : ((txt (putOf x)).toList == (txt s).toList) = true := by rw [txt_beq, decide_eq_true hp]
              clear hp
              go_upto_region 18 with (go_at_call 13; refine HP.out.mono ?_; rintro e w5 ⟨rfl, hb5⟩)
              have hbx5 := Hbx.out.keep hb5
              have z0 : w5.cell? ⟨w3.heap.size, 18, none⟩ = some (.int .u8 (x.k : Int)) := hbx5.c0
              have z1 : w5.cell? ⟨w3.heap.size, 19, none⟩ = some (.int .u64 (x.d : Int)) := hbx5.c1
              have z2 : w5.cell? ⟨w3.heap.size, 20, none⟩ = some (.int .u64 (x.n : Int)) := hbx5.c2
              have z3 : w5.cell? ⟨w3.heap.size, 21, none⟩ = some (.int .u64 (x.p : Int)) := hbx5.c3
              have z4 : w5.cell? ⟨w3.heap.size, 22, none⟩ = some (.int .u64 (x.i : Int)) := hbx5.c4
              have z5 : w5.cell? ⟨w3.heap.size, 23, none⟩ = some (.int .u64 (x.c : Int)) := hbx5.c5
              have hb45 := Hb4.out.trans (hb5.mono Hb4.out.size)
              have hres5 := (hb45.block _ (Array.getElem?_eq_some_iff.1 Hres4.out).1).trans Hres4.out
              have Hold := Lib.hid (HW4.out.trans (hb45.mono HW4.out.size))
              clear hbe y0 y1 y2 y3 y4 y5 hbx5 hb5 hb45
              go_wp2_with (refine wpList_store_row rfl 25 (.tmp 2) (.tmp 98) rfl w.heap.size _ rfl rfl _ _ hres5 size_rnm rfl (six_one _ _ _ _ _ _) ?_)
              exact ret_agg2 (u := 3) rfl rnmTy w.heap.size _ _ (0, 0) rfl rfl (setRow_heap _ _ _ _ _ _ hres5) rfl ⟨.some Hyes.out, below_setRow' Hold.out (Nat.le_refl _) _⟩
            · have hbe : ((txt (putOf x)).toList == (txt s).toList) = false := by rw [txt_beq, decide_eq_false hp]
              have Hmiss2 : Hid (∀ (j : Nat) (y : Nm), j < 4 → (cands ns)[j]? = some y → decide (putOf y = s) = false) := by
                intro j y hj hy
                by_cases hjk : j = 3
                · subst hjk
                  rw [Hin.out] at hy
                  obtain rfl : x = y := by injection hy
                  exact decide_eq_false hp
                · exact Hmiss.out j y (by omega) hy
              clear hp
              go_wp2_with (go_at_call 13; refine HP.out.mono ?_; rintro e w5 ⟨rfl, hb5⟩)
              go_roundw
              case rel => exact ⟨4, by omega, by go_num, Hmiss2, Hb4.out.trans (hb5.mono Hb4.out.size)⟩
              case measure => simp [Lib.intOf]
          | 4, hk, Hmiss =>
            have Hno : Hid (parseOf s = none) := by rw [Hcands.out]; exact find_no (fun j x hj hx => Hmiss.out j x (by rw [Hc.out] at hj; exact hj) hx)
            have hres5 := (Hb4.out.block _ (Array.getElem?_eq_some_iff.1 Hres4.out).1).trans Hres4.out
            go_wp2_with (refine wpList_store_row rfl 25 (.tmp 2) (.tmp 99) rfl w.heap.size _ rfl rfl _ _ hres5 size_rnm rfl (six_one _ _ _ _ _ _) ?_)
            exact ret_agg2 (u := 3) rfl rnmTy w.heap.size _ _ (0, 0) rfl rfl (setRow_heap _ _ _ _ _ _ hres5) rfl ⟨.none Hno.out, below_setRow' (HW4.out.trans (Hb4.out.mono HW4.out.size)) (Nat.le_refl _) _⟩
end Go.Proofs.YtipmpebckfaknaaDoor
