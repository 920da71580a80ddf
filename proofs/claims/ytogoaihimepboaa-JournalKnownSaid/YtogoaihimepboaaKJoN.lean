/- The walks of the document's Whole and Append. Conditions: a segment of at most 2^20 bytes; a payload of at most 2^47 - 4096 bytes. -/
import Derived.Test.YtogoaihimepboaaKJoM
namespace Go.Proofs.Ytogoaihimepboaa
open Go.RowKit

theorem Owns.reads {base : Nat} {w : World} {v : Value} {own : List Row} (h : Owns base w v own) : ∃ A c, v = .slice A own.length c ∧ RdR w w.heap.size A own := by
  obtain ⟨A, c, e, _, _, hr⟩ := own_form h.head
  exact ⟨A, c, e, hr, h.row⟩
section
variable {ops : Array Oper} {rest : List Oper} {o : Oper} {a : Act} {Q : Exit → Act → World → Prop} {w : World} {base : Nat} {v : Value}
/-- A caller's row behind a list of the call's own: how the list reads then. -/
theorem push_sliceR (s x : Operand) {own : List Row} {A : Option Addr} {n c B : Nat} (r : Row) (hr : Value.slice A n c = r.v) (hown : Owns base w v own) (hbase : base ≤ w.heap.size) (hl : own.length ≤ 1099511627776)
    (hB : B ≤ base) (hrow : RdB w B r.A r.l)
    (hgd : o.guard = none) (ho : o.op = .call { callee := .builtin .append, args := #[s, x], argTypes := #[35, 35] })
    (hs : a.eval s = v) (hx : a.eval x = .slice (some ⟨w.heap.size, 0, none⟩) 1 1)
    (h : ∀ A' c' w', RdR w' w'.heap.size A' (own ++ [r]) → Below base w w' → wpList Try.prog ops Q rest (a.put o.dst (.slice A' (own ++ [r]).length c')) w') :
    wpList Try.prog ops Q (o :: rest) a (w.alloc (.cells #[.slice A n c] 22)) := by
  rw [hr]
  obtain ⟨i0, hi0, hz0, hz1, hz2⟩ := info_parts info_row
  have hnew := reads_new w 22 [r.v]
  refine wpList_append_any _ hgd s x _ ho base 22 i0 _ 1 24 Try.underlying35 hi0 hz0 hz1 hz2 rfl (by omega) v _ _ hs (hown.head.alloc _) (w.heap.size + 1) _ 1 1 [r.v] hx hnew (by intro u hu; simp only [List.mem_singleton] at hu; subst hu; rfl) (by simp only [maxLen]; omega) (by omega) (by simp; omega) ?_
  intro v1 w1 h1 h2 _
  have hb := ((Below.refl base w).alloc hbase _).trans (grown_below (hown.head.alloc (.cells #[r.v] 22)) h2 (by simp; omega))
  have hsz : w.heap.size + 1 ≤ w1.heap.size := by have := h2.size; simpa using this
  rw [show own.map Row.v ++ [r.v] = (own ++ [r]).map Row.v by rw [List.map_append]; rfl, show own.length + 1 = (own ++ [r]).length by rw [List.length_append]; rfl] at h1
  obtain ⟨A1, c1, rfl, _, _, hR⟩ := own_form h1
  refine h A1 c1 w1 ⟨hR, fun q hq => ?_⟩ hb
  rw [List.mem_append, List.mem_singleton] at hq
  rcases hq with hq | rfl
  · have := (Reads.alloc (hown.row q hq) (Nat.le_refl _) (.cells #[r.v] 22)).grown_apart h2 (by simp) (fun ad e => (hown.apart q hq ad e).2)
    exact this.more (by omega)
  · exact Reads.more (Reads.below hrow (hb.mono hB)) (Nat.le_trans hB (Nat.le_trans hbase hb.size))
end
theorem allJ_rows {l : List UInt8} {own : List Row} {p : Nat} (h : AllJ l (own.map (·.l)) p) : ∀ r ∈ own, r.l.length ≤ 65535 := fun r hr => (allJ_stand h).2.2 r.l (List.mem_map_of_mem hr)
theorem allJ_put {l : List UInt8} {own : List Row} {p : Nat} (h : AllJ l (own.map (·.l)) p) : putJ (own.map (·.l)) = (l.take p, 0) := by
  rw [putJ_ok (allJ_stand h).2.2, (allJ_stand h).2.1]
theorem allJ_fewR {l : List UInt8} {own : List Row} {p n : Nat} (h : AllJ l (own.map (·.l)) p) (hn : l.length = n) (hl : n ≤ 1048576) : own.length + 1 ≤ 1048576 := by
  have := allJ_few h
  rw [List.length_map] at this
  omega

set_option maxHeartbeats 1000000 in
set_option maxRecDepth 100000 in
theorem refWholeJ_any (A : Option Addr) (c B n : Nat) (l : List UInt8) (w : World) (hn : l.length = n) (hl : n ≤ 1048576) (hcap : n ≤ c) (hB : B ≤ w.heap.size) (hr : RdB w B A l) :
    Calls Try.prog 15 #[.slice A n c] w fun e w' => (∃ own p, AllJ l own p ∧ e = .returned (.int .i64 (p : Int))) ∧ Below w.heap.size w w' := by
  have HA := Lib.hid (refAllJ_any A c B n l w hn (by omega) hcap hB hr)
  have Hn := Lib.hid hn
  have Hl := Lib.hid hl
  clear hn hl hcap hB hr
  go_enter Try.func15, Try.ntmps15
  go_wp2_with (first
    | (go_at_call 18; refine HA.out.mono ?_; rintro e w1 ⟨⟨v1, own, p, rfl, hO, hall⟩, hb1⟩; obtain ⟨A1, c1, rfl, hR⟩ := hO.reads; have HP := Lib.hid (refPutJ_any A1 c1 own.length w1.heap.size own w1 rfl (by have := allJ_fewR hall Hn.out Hl.out; omega) (fun r hr => Nat.le_trans (allJ_rows hall r hr) (by decide)) (Nat.le_refl _) hR); have Hall := Lib.hid hall; have Hb1 := Lib.hid hb1; obtain ⟨k1, hk1⟩ : ∃ k, Hid (own.length = k) := ⟨_, rfl⟩; rw [hk1.out] at HP ⊢; clear hO hall hb1 hR)
    | (go_at_call 25; refine HP.out.mono ?_; rintro e w2 ⟨⟨v2, rfl, hown2⟩, hb2⟩; rw [allJ_put Hall.out] at hown2 ⊢; simp only at hown2 ⊢; rw [show (l.take p).length = p by rw [List.length_take]; have := (allJ_stand Hall.out).1; omega] at hown2; obtain ⟨A2, c2, rfl, _, _, _⟩ := own_form hown2; have Hb2 := Lib.hid hb2; clear hown2 hb2))
  go_ret
  exact ⟨⟨_, p, Hall.out, rfl⟩, Hb1.out.trans (Hb2.out.mono Hb1.out.size)⟩

set_option maxHeartbeats 2000000 in
set_option maxRecDepth 100000 in
theorem refAppend_any (A A' : Option Addr) (c B n c' B' n' : Nat) (l p : List UInt8) (w : World) (hn : l.length = n) (hl : n ≤ 1048576) (hcap : n ≤ c) (hB : B ≤ w.heap.size) (hr : RdB w B A l) (hn' : p.length = n') (hl' : n' ≤ 140737488351232) (hB' : B' ≤ w.heap.size) (hr' : RdB w B' A' p) :
    Calls Try.prog 23 #[.slice A n c, .slice A' n' c'] w fun e w' => (∃ own P, AllJ l own P ∧ AppV w.heap.size (appJ l P p) e w') ∧ Below w.heap.size w w' := by
  have hnI : (n : Int) ≤ 1048576 := by omega
  have hnI' : (n' : Int) ≤ 140737488351232 := by omega
  obtain ⟨g, hg⟩ : ∃ g, Hid (w.heap.size = g) := ⟨_, rfl⟩
  obtain ⟨W, hW⟩ : ∃ W, Hid (w.alloc (.cells #[.int .u64 0, .int .u64 0] 34) = W) := ⟨_, rfl⟩
  have hbW : Hid (Below w.heap.size w W) := by rw [← hW.out]; exact below_new _ _
  have hzW : Hid (W.heap.size = g + 1) := by rw [← hW.out, ← hg.out]; show _ = _; simp
  have hbx : Hid (W.heap[g]? = some (.cells #[.int .u64 0, .int .u64 0] 34 (0, 0))) := by rw [← hW.out, ← hg.out]; exact heap_alloc_new w _
  have Hn := Lib.hid hn
  have Hl := Lib.hid hl
  have HrW : Hid (RdB W B A l) := Reads.below hr (hbW.out.mono hB)
  have Hn' := Lib.hid hn'
  have Hl' := Lib.hid hl'
  have HrW' : Hid (RdB W B' A' p) := Reads.below hr' (hbW.out.mono hB')
  have HB' : Hid (B' ≤ g) := by rw [← hg.out]; exact hB'
  have HA := Lib.hid (refAllJ_any A c B n l W hn (by omega) hcap (Nat.le_trans hB hbW.out.size) HrW.out)
  clear hn hl hcap hB hr hn' hl' hB' hr'
  go_enter Try.func23, Try.ntmps23
  go_upto_region 1 with fail
  rw [hg.out, hW.out]
  go_upto_region 2 with (go_at_call 18; refine HA.out.mono ?_; rintro e w1 ⟨⟨v1, own, P, rfl, hO, hall⟩, hb1⟩; obtain ⟨A1, c1, rfl, hR⟩ := hO.reads; have HP := Lib.hid (refPutJ_any A1 c1 own.length w1.heap.size own w1 rfl (by have := allJ_fewR hall Hn.out Hl.out; omega) (fun r hr => Nat.le_trans (allJ_rows hall r hr) (by decide)) (Nat.le_refl _) hR); have Hall := Lib.hid hall; have Hb1 := Lib.hid hb1; have HO := Lib.hid hO; obtain ⟨k1, hk1⟩ : ∃ k, Hid (own.length = k) := ⟨_, rfl⟩; rw [hk1.out] at HP HO ⊢; clear hO hall hb1 hR)
  have hPn : Hid (P ≤ n) := by have := (allJ_stand Hall.out).1; rw [Hn.out] at this; exact this
  have hPI : (P : Int) ≤ 1048576 := by have := hPn.out; omega
  go_upto_region 3 with (go_at_call 25; refine HP.out.mono ?_; rintro e w2 ⟨⟨v2, rfl, hown2⟩, hb2⟩; rw [allJ_put Hall.out] at hown2 ⊢; simp only at hown2 ⊢; rw [show (l.take P).length = P by rw [List.length_take]; have := (allJ_stand Hall.out).1; omega] at hown2; obtain ⟨A2, c2, rfl, _, _, _⟩ := own_form hown2; have Hb2 := Lib.hid hb2; clear hown2 hb2)
  have HO2 := Lib.hid (HO.out.below Hb2.out)
  have hbw2 : Hid (Below w.heap.size w w2) := hbW.out.trans ((Hb1.out.trans (Hb2.out.mono Hb1.out.size)).mono hbW.out.size)
  have hbW2 : Hid (Below W.heap.size W w2) := Hb1.out.trans (Hb2.out.mono Hb1.out.size)
  have hrp : Hid (RdB w2 B' A' p) := Reads.below HrW'.out (hbW2.out.mono (by rw [hzW.out]; have := HB'.out; omega))
  have hk1l : Hid (own.length ≤ 1048575) := by have := allJ_fewR Hall.out Hn.out Hl.out; show _ ≤ _; omega
  have hz2 : Hid (g + 1 ≤ w2.heap.size) := by have := hbW2.out.size; rw [hzW.out] at this; exact this
  have hrowv : Hid (Value.slice A' n' c' = Row.v ⟨A', c', p⟩) := by rw [← Hn'.out]; exact rfl
  obtain ⟨k3, hk3⟩ : ∃ k, Hid ((own ++ [(⟨A', c', p⟩ : Row)]).length = k) := ⟨_, rfl⟩
  have hk3l : Hid (k3 ≤ 1048576) := by rw [← hk3.out, List.length_append, List.length_singleton]; have := hk1l.out; show _ ≤ _; omega
  have hls3 : Hid (∀ r ∈ own ++ [(⟨A', c', p⟩ : Row)], r.l.length ≤ 140737488351232) := by
    intro r hr
    rw [List.mem_append, List.mem_singleton] at hr
    rcases hr with hr | rfl
    · exact Nat.le_trans (allJ_rows Hall.out r hr) (by decide)
    · rw [Hn'.out]; exact Hl'.out
  have hput3 : Hid (putJ ((own ++ [(⟨A', c', p⟩ : Row)]).map (·.l)) = if p.length ≤ 65535 then (l.take P ++ encFr 9 p, 0) else ([], 3)) := by
    show _ = _
    rw [List.map_append, List.map_cons, List.map_nil]
    split
    · rename_i h
      rw [putJ_ok, encJ_snoc, (allJ_stand Hall.out).2.1]
      intro m hm
      rw [List.mem_append, List.mem_singleton] at hm
      rcases hm with hm | rfl
      · exact (allJ_stand Hall.out).2.2 m hm
      · exact h
    · rename_i h
      exact putJ_no (m := p) (by simp) (by omega)
  obtain ⟨pb, pe, hput4⟩ : ∃ pb pe, Hid (putJ ((own ++ [(⟨A', c', p⟩ : Row)]).map (·.l)) = (pb, pe)) := ⟨_, _, rfl⟩
  go_upto_region 4 with (first
    | (at_builtin; refine push_sliceR (.tmp 21) (.tmp 23) (B := B') ⟨A', c', p⟩ hrowv.out HO2.out hbW2.out.size (by have := hk1l.out; omega) (by rw [hzW.out]; have := HB'.out; omega) hrp.out rfl rfl rfl (by rfl) ?_; intro A3 c3 w3 hR3 hb3; have HP3 := refPutJ_any A3 c3 k3 w3.heap.size (own ++ [⟨A', c', p⟩]) w3 hk3.out hk3l.out hls3.out (Nat.le_refl _) hR3; rw [hk3.out]; have HP3 := Lib.hid HP3; have Hb3 := Lib.hid hb3; clear hb3 hR3)
    | (go_at_call 25; refine HP3.out.mono ?_; rintro e w4 ⟨⟨v4, rfl, hown4⟩, hb4⟩; rw [hput4.out] at hown4 ⊢; simp only at hown4; have Hown4 := Lib.hid hown4; have Hb4 := Lib.hid hb4; clear hown4 hb4))
  have hbw4 : Hid (Below w.heap.size w w4) := (hbw2.out.trans (Hb3.out.mono hbW.out.size)).trans (Hb4.out.mono (Nat.le_trans hbw2.out.size Hb3.out.size))
  have hcx4 : Hid (w4.heap[g]? = some (.cells #[.int .u64 0, .int .u64 0] 34 (0, 0))) := (Hb4.out.block g (by have := hz2.out; have := Hb3.out.size; omega)).trans ((Hb3.out.block g (by rw [hzW.out]; omega)).trans ((hbW2.out.block g (by rw [hzW.out]; omega)).trans hbx.out))
  by_cases hsm : p.length ≤ 65535
  · have h1 := hput3.out.symm.trans hput4.out
    rw [if_pos hsm] at h1
    injection h1 with h1 h2
    subst h2
    obtain ⟨S, hS⟩ : ∃ S, Hid ((sum p).toNat = S) := ⟨_, rfl⟩
    have ha : Hid (appJ l P p = (pb, P, n', S, 0)) := by
      show _ = _
      unfold appJ
      rw [if_pos hsm, Hn'.out, hS.out, h1]
    have hofn : ofV p = .agg #[.int .u64 (n' : Int), .int .u64 (S : Int)] := by rw [← hS.out, ← Hn'.out]; rfl
    have Hofn := Lib.hid hofn
    have hof := Lib.hid (refOf_any A' c' B' n' p w4 Hn'.out Hl'.out (by have := HB'.out; have := hz2.out; have := Hb3.out.size; have := Hb4.out.size; omega) (Reads.below HrW'.out ((hbW2.out.mono (by rw [hzW.out]; have := HB'.out; omega)).trans ((Hb3.out.mono (by rw [hzW.out]; have := HB'.out; omega)).trans (Hb4.out.mono (by have := HB'.out; have := hz2.out; have := Hb3.out.size; omega))))))
    clear hsm h1 hofn
    go_wp2_with (go_at_call 28; refine hof.out.mono ?_; rintro e w6 ⟨rfl, hb6⟩; rw [Hofn.out]; have hcx6 := (hb6.block g (Array.getElem?_eq_some_iff.1 hcx4.out).1).trans hcx4.out; have hc6 := two_cells hcx6; obtain ⟨hc60, hc61⟩ := hc6; have hf60 := two_frozen (i := 0) hcx6; have hf61 := two_frozen (i := 1) hcx6; have Hb6 := Lib.hid hb6; have Hcx6 := Lib.hid hcx6; clear hb6 hcx6)
    have hbb6 := hbw4.out.trans (Hb6.out.mono hbw4.out.size)
    obtain ⟨h1, h2⟩ := two_new (.int .u64 (n' : Int)) (.int .u64 (S : Int)) Hcx6.out hbb6 (by rw [hg.out]; exact Nat.le_refl _)
    refine ret_app rfl rfTy2 g _ _ 34 (0, 0) rfl h1 rfl ⟨⟨_, P, Hall.out, ?_⟩, h2⟩
    rw [ha.out]
    refine ⟨_, rfl, ?_⟩
    have h3 := own_below Hown4.out Hb6.out (Nat.le_refl _)
    have hne : ∀ (x : Value) (i : Nat) (W' : World), W'.ownsRow w3.heap.size 5 1 v4 pb.length (bs pb) → (W'.setCell ⟨g, i, none⟩ x).ownsRow w3.heap.size 5 1 v4 pb.length (bs pb) := fun x i W' h => own_touch h (Touch.cell1 W' g i x) fun b hb e => by
      have h4 := (h.lt b hb).1
      have h5 := hz2.out
      have h6 := Hb3.out.size
      omega
    exact own_mono (hne _ _ _ (hne _ _ _ h3)) (Nat.le_trans hbw2.out.size Hb3.out.size)
  · have h1 := hput3.out.symm.trans hput4.out
    rw [if_neg hsm] at h1
    injection h1 with h1 h2
    subst h2
    have ha : Hid (appJ l P p = ([], 0, 0, 0, 3)) := if_neg hsm
    have hc4 := two_cells hcx4.out
    obtain ⟨hc40, hc41⟩ := hc4
    have hf40 := two_frozen (i := 0) hcx4.out
    have hf41 := two_frozen (i := 1) hcx4.out
    clear hsm h1
    go_wp2
    obtain ⟨h1, h2⟩ := two_new (.int .u64 0) (.int .u64 0) hcx4.out hbw4.out (by rw [hg.out]; exact Nat.le_refl _)
    refine ret_app rfl rfTy2 g _ _ 34 (0, 0) rfl h1 rfl ⟨⟨_, P, Hall.out, ?_⟩, h2⟩
    rw [ha.out]
    exact ⟨_, rfl, World.ownsRow_nil _ _ _ _⟩
end Go.Proofs.Ytogoaihimepboaa
