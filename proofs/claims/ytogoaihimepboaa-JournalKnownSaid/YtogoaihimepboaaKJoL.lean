/- The walk of Append, the project's. Conditions: a segment of at most 2^40 bytes, a payload of at most 2^47 - 4096. -/
import Derived.Test.YtogoaihimepboaaKJoK
namespace Go.Proofs.Ytogoaihimepboaa
open Go.RowKit

theorem catTwo (W : World) (N : Nat) (hN : W.heap.size = N) (A A' : Option Addr) (c n B c' n' B' : Nat) (l l' : List UInt8) (hn : l.length = n) (hn' : l'.length = n') (hl : n + n' ≤ 140737488351232) (hB : B ≤ N) (hB' : B' ≤ N) (hr : RdB W B A l) (hr' : RdB W B' A' l') :
    Calls Try.prog 34 #[.slice (some ⟨N, 0, none⟩) 2 2] (W.alloc (.cells #[.slice A n c, .slice A' n' c'] 22)) fun e w' => ∃ v, e = .returned v ∧ w'.ownsRow N 5 1 v (l ++ l').length (bs (l ++ l')) ∧ Below N W w' := by
  subst hn hn' hN
  have hb : bytes [⟨A, c, l⟩, ⟨A', c', l'⟩] = l ++ l' := by simp [bytes]
  have h := concat_any (some ⟨W.heap.size, 0, none⟩) 2 2 (W.heap.size + 1) [⟨A, c, l⟩, ⟨A', c', l'⟩] (W.alloc (.cells #[.slice A l.length c, .slice A' l'.length c'] 22)) rfl (by omega) (by rw [hb, List.length_append]; exact hl) (by simp) (RdR.new W W.heap.size [⟨A, c, l⟩, ⟨A', c', l'⟩] 22 (Nat.le_refl _) (by
    intro r hr2
    simp only [List.mem_cons, List.not_mem_nil, or_false] at hr2
    rcases hr2 with rfl | rfl
    · exact Reads.more hr hB
    · exact Reads.more hr' hB'))
  rw [hb] at h
  refine h.mono ?_
  rintro e w' ⟨v, rfl, ho, hbw⟩
  exact ⟨v, rfl, own_mono ho (by simp), (below_new W _).trans (hbw.mono (by simp))⟩
theorem putOne (W : World) (N : Nat) (hN : W.heap.size = N) (A : Option Addr) (c n B : Nat) (l : List UInt8) (hn : l.length = n) (hl : n ≤ 140737488351232) (hB : B ≤ N) (hr : RdB W B A l) :
    Calls Try.prog 24 #[.slice (some ⟨N, 0, none⟩) 1 1] (W.alloc (.cells #[.slice A n c] 22)) fun e w' => BytesErr N (putJ [l]) e w' ∧ Below N W w' := by
  subst hn hN
  have h := putJ_any (some ⟨W.heap.size, 0, none⟩) 1 1 (W.heap.size + 1) [⟨A, c, l⟩] (W.alloc (.cells #[.slice A l.length c] 22)) rfl (by omega) (by intro r hr2; simp only [List.mem_singleton] at hr2; subst hr2; exact hl) (by simp) (RdR.new W W.heap.size [⟨A, c, l⟩] 22 (Nat.le_refl _) (by
    intro r hr2
    simp only [List.mem_singleton] at hr2
    subst hr2
    exact Reads.more hr hB))
  refine h.mono ?_
  rintro e w' ⟨⟨v, rfl, ho⟩, hbw⟩
  exact ⟨⟨v, rfl, own_mono ho (by simp)⟩, (below_new W _).trans (hbw.mono (by simp))⟩
/-- A journal.Append's answer. -/
def appJ (l : List UInt8) (P : Nat) (p : List UInt8) : List UInt8 × Nat × Nat × Nat × Nat := if p.length ≤ 65535 then (l.take P ++ encFr 9 p, P, p.length, (sum p).toNat, 0) else ([], 0, 0, 0, 3)
def AppV (base : Nat) (r : List UInt8 × Nat × Nat × Nat × Nat) (e : Ending) (w' : World) : Prop :=
  ∃ v, e = .returned (.tuple #[v, .int .i64 (r.2.1 : Nat), rfV r.2.2.1 r.2.2.2.1, .int .i64 (r.2.2.2.2 : Nat)]) ∧ w'.ownsRow base 5 1 v r.1.length (bs r.1)
theorem ret_app {fn : Func} {R : Ending → World → Prop} {p u v z : Tmp} {ty : TypeId} (h : fn.results = #[.tmp u, .tmp v, .cell p ty, .tmp z]) (hty : FrTy ty) {a : Act} {w : World} (g : Nat) (x y : Value) (t : TypeId) (fr : Nat × Nat)
    (hp : a.tmps.getD p undef = .pointer (some ⟨g, 0, none⟩)) (hg : w.heap[g]? = some (.cells #[x, y] t fr)) (hd : a.defers = []) (hR : R (.returned (.tuple #[a.tmps.getD u undef, a.tmps.getD v undef, .agg #[x, y], a.tmps.getD z undef])) w) : bodyPost Try.prog fn R .ret a w := by
  refine bodyPost_ret (v := .tuple #[a.tmps.getD u undef, a.tmps.getD v undef, .agg #[x, y], a.tmps.getD z undef]) ?_ hd hR
  have hp' : a.tmps[p]?.getD undef = .pointer (some ⟨g, 0, none⟩) := by simpa using hp
  simp [results, h, hp', asAddr, hty w g t x y fr hg]

set_option maxHeartbeats 2000000 in
set_option maxRecDepth 100000 in
theorem append_any (A A' : Option Addr) (c B n c' B' n' : Nat) (l p : List UInt8) (w : World) (hn : l.length = n) (hl : n ≤ 1099511627776) (hcap : n ≤ c) (hB : B ≤ w.heap.size) (hr : RdB w B A l) (hn' : p.length = n') (hl' : n' ≤ 140737488351232) (hB' : B' ≤ w.heap.size) (hr' : RdB w B' A' p) :
    Calls Try.prog 22 #[.slice A n c, .slice A' n' c'] w fun e w' => (∃ own P, AllJ l own P ∧ AppV w.heap.size (appJ l P p) e w') ∧ Below w.heap.size w w' := by
  obtain ⟨own, P, hall⟩ := allJ_ex l
  obtain ⟨hP, _, _⟩ := allJ_stand hall
  rw [hn] at hP
  have hnI : (n : Int) ≤ 1099511627776 := by omega
  have hnI' : (n' : Int) ≤ 140737488351232 := by omega
  have hPI : (P : Int) ≤ (c : Int) := by omega
  obtain ⟨g, hg⟩ : ∃ g, Hid (w.heap.size = g) := ⟨_, rfl⟩
  obtain ⟨W, hW⟩ : ∃ W, Hid (w.alloc (.cells #[.int .u64 0, .int .u64 0] 25) = W) := ⟨_, rfl⟩
  have hbW : Hid (Below w.heap.size w W) := by rw [← hW.out]; exact below_new _ _
  have hzW : Hid (W.heap.size = g + 1) := by rw [← hW.out, ← hg.out]; show _ = _; simp
  have hbx : Hid (W.heap[g]? = some (.cells #[.int .u64 0, .int .u64 0] 25 (0, 0))) := by rw [← hW.out, ← hg.out]; exact heap_alloc_new w _
  have Hn := Lib.hid hn
  have Hl := Lib.hid hl
  have Hcap := Lib.hid hcap
  have HrW : Hid (RdB W B A l) := Reads.below hr (hbW.out.mono hB)
  have HB : Hid (B ≤ g) := by rw [← hg.out]; exact hB
  have Hn' := Lib.hid hn'
  have Hl' := Lib.hid hl'
  have HrW' : Hid (RdB W B' A' p) := Reads.below hr' (hbW.out.mono hB')
  have HB' : Hid (B' ≤ g) := by rw [← hg.out]; exact hB'
  have hput := Lib.hid (putOne W (g + 1) hzW.out A' c' n' B' p hn' hl' (by have := HB'.out; omega) HrW'.out)
  have Hall := Lib.hid hall
  have HP := Lib.hid hP
  clear hn hl hcap hB hr hn' hl' hB' hr' hall hP
  by_cases hbig : 65535 < n'
  · have hv := Lib.hid (putJ_no (l := [p]) (m := p) (by simp) (by rw [Hn'.out]; exact hbig))
    have ha : Hid (appJ l P p = ([], 0, 0, 0, 3)) := if_neg (by rw [Hn'.out]; omega)
    clear hbig
    go_enter Try.func22, Try.ntmps22
    go_upto_region 1 with fail
    rw [hg.out, hW.out]
    go_wp2_with (go_at_call 24; rw [hzW.out]; refine hput.out.mono ?_; rintro e w3 ⟨⟨v3, rfl, hown3⟩, hb3⟩; rw [hv.out] at hown3 ⊢; have hcx3 := (hb3.block g (by omega)).trans hbx.out; have hc3 := two_cells hcx3; obtain ⟨hc30, hc31⟩ := hc3; have hf30 := two_frozen (i := 0) hcx3; have hf31 := two_frozen (i := 1) hcx3; have Hb3 := Lib.hid hb3; have Hcx3 := Lib.hid hcx3; clear hown3 hb3 hcx3)
    have hbb := (hbW.out.trans (Hb3.out.mono (by rw [hg.out]; omega)))
    obtain ⟨h1, h2⟩ := two_new (.int .u64 0) (.int .u64 0) Hcx3.out hbb (by rw [hg.out]; exact Nat.le_refl _)
    refine ret_app rfl rfTy1 g _ _ 25 (0, 0) rfl h1 rfl ⟨⟨own, P, Hall.out, ?_⟩, h2⟩
    rw [ha.out]
    exact ⟨_, rfl, World.ownsRow_nil _ _ _ _⟩
  · have hsm : n' ≤ 65535 := by omega
    have hv := putJ_ok (l := [p]) (by intro m hm; simp only [List.mem_singleton] at hm; subst hm; rw [Hn'.out]; exact hsm)
    rw [encJ_one] at hv
    have Hv := Lib.hid hv
    obtain ⟨S, hS⟩ : ∃ S, Hid ((sum p).toNat = S) := ⟨_, rfl⟩
    have ha : Hid (appJ l P p = (l.take P ++ encFr 9 p, P, n', S, 0)) := by
      show _ = _
      unfold appJ
      rw [if_pos (by rw [Hn'.out]; exact hsm), Hn'.out, hS.out]
    obtain ⟨E, hE⟩ : ∃ E, Hid (encFr 9 p = E) := ⟨_, rfl⟩
    rw [hE.out] at Hv ha
    have hElen : Hid (E.length ≤ 65550) := by
      rw [← hE.out, encFr_len]
      have := sz_10 (n := p.length) (by rw [Hn'.out]; omega)
      unfold fsz
      have := Hn'.out
      show _ ≤ _
      omega
    have hofn : ofV p = .agg #[.int .u64 (n' : Int), .int .u64 (S : Int)] := by rw [← hS.out, ← Hn'.out]; rfl
    have Hofn := Lib.hid hofn
    clear hbig hsm hv hofn
    go_enter Try.func22, Try.ntmps22
    go_upto_region 1 with fail
    rw [hg.out, hW.out]
    go_upto_region 4 with (go_at_call 24; rw [hzW.out]; refine hput.out.mono ?_; rintro e w3 ⟨⟨v3, rfl, hown3⟩, hb3⟩; rw [Hv.out] at hown3 ⊢; simp only at hown3; obtain ⟨A3, c3, rfl, _, _, hr3⟩ := own_form hown3; obtain ⟨n3, hn3⟩ : ∃ n3, Hid (E.length = n3) := ⟨_, rfl⟩; rw [hn3.out]; have Hr3 := Lib.hid hr3; have Hb3 := Lib.hid hb3; clear hown3 hb3 hr3)
    have hbw3 : Hid (Below w.heap.size w w3) := hbW.out.trans (Hb3.out.mono (by rw [hg.out]; omega))
    have hz3 : Hid (g + 1 ≤ w3.heap.size) := by have := Hb3.out.size; rw [hzW.out] at this; exact this
    have hBl : Hid (B ≤ W.heap.size ∧ B' ≤ W.heap.size) := ⟨by rw [hzW.out]; have := HB.out; omega, by rw [hzW.out]; have := HB'.out; omega⟩
    have hrd3 : Hid (RdB w3 B A l) := Reads.below HrW.out (Hb3.out.mono (by have := HB.out; omega))
    have hrd3' : Hid (RdB w3 B' A' p) := Reads.below HrW'.out (Hb3.out.mono (by have := HB'.out; omega))
    have hcx3 : Hid (w3.heap[g]? = some (.cells #[.int .u64 0, .int .u64 0] 25 (0, 0))) := (Hb3.out.block g (by omega)).trans hbx.out
    have hB3 : Hid (B ≤ w3.heap.size ∧ B' ≤ w3.heap.size) := ⟨by have := HB.out; have := hz3.out; omega, by have := HB'.out; have := hz3.out; omega⟩
    have hwh := Lib.hid (wholeJ_any A c B n l w3 Hn.out Hl.out Hcap.out hB3.out.1 hrd3.out)
    go_upto_region 5 with (go_at_call 19; refine hwh.out.mono ?_; rintro e w4 ⟨⟨own2, p2, hall2, rfl⟩, hb4⟩; obtain ⟨_, rfl⟩ := allJ_one Hall.out hall2; have Hb4 := Lib.hid hb4; clear hb4 hall2)
    have hcat := Lib.hid (catTwo w4 w4.heap.size rfl A A3 c P B c3 n3 w3.heap.size (l.take P) E (by rw [List.length_take]; have := HP.out; have := Hn.out; omega) hn3.out (by have := hElen.out; have := hn3.out; have := HP.out; have := Hl.out; omega) (Nat.le_trans hB3.out.1 Hb4.out.size) Hb4.out.size (RdB.first (Reads.below hrd3.out (Hb4.out.mono hB3.out.1)) (by have := HP.out; have := Hn.out; omega)) (Reads.below Hr3.out Hb4.out))
    go_wp2_with (first
      | (go_at_call 34; refine hcat.out.mono ?_; rintro e w5 ⟨v5, rfl, hown5, hb5⟩; have hof := of_any A' c' B' n' p w5 Hn'.out Hl'.out (Nat.le_trans (Nat.le_trans hB3.out.2 Hb4.out.size) hb5.size) (Reads.below hrd3'.out ((Hb4.out.mono hB3.out.2).trans (hb5.mono (Nat.le_trans hB3.out.2 Hb4.out.size)))); have Hof := Lib.hid hof; have Hown5 := Lib.hid hown5; have Hb5 := Lib.hid hb5; clear hown5 hb5 hof)
      | (go_at_call 27; refine Hof.out.mono ?_; rintro e w6 ⟨rfl, hb6⟩; rw [Hofn.out]; have hcx6 := (hb6.block g (by have := hz3.out; have := Hb4.out.size; have := Hb5.out.size; omega)).trans ((Hb5.out.block g (by have := hz3.out; have := Hb4.out.size; omega)).trans ((Hb4.out.block g (by have := hz3.out; omega)).trans hcx3.out)); have hc6 := two_cells hcx6; obtain ⟨hc60, hc61⟩ := hc6; have hf60 := two_frozen (i := 0) hcx6; have hf61 := two_frozen (i := 1) hcx6; have Hb6 := Lib.hid hb6; have Hcx6 := Lib.hid hcx6; clear hb6 hcx6))
    have hbb4 := hbw3.out.trans (Hb4.out.mono hbw3.out.size)
    have hbb5 := hbb4.trans (Hb5.out.mono hbb4.size)
    have hbb6 := hbb5.trans (Hb6.out.mono hbb5.size)
    obtain ⟨h1, h2⟩ := two_new (.int .u64 (n' : Int)) (.int .u64 (S : Int)) Hcx6.out hbb6 (by rw [hg.out]; exact Nat.le_refl _)
    refine ret_app rfl rfTy1 g _ _ 25 (0, 0) rfl h1 rfl ⟨⟨own, P, Hall.out, ?_⟩, h2⟩
    rw [ha.out]
    refine ⟨_, rfl, ?_⟩
    have h3 := own_below Hown5.out Hb6.out (Nat.le_refl _)
    have hne : ∀ (x : Value) (i : Nat) (W' : World), W'.ownsRow w4.heap.size 5 1 v5 (l.take P ++ E).length (bs (l.take P ++ E)) → (W'.setCell ⟨g, i, none⟩ x).ownsRow w4.heap.size 5 1 v5 (l.take P ++ E).length (bs (l.take P ++ E)) := fun x i W' h => own_touch h (Touch.cell1 W' g i x) fun b hb e => by
      have h4 := (h.lt b hb).1
      have h5 := hz3.out
      have h6 := Hb4.out.size
      omega
    exact own_mono (hne _ _ _ (hne _ _ _ h3)) hbb4.size
end Go.Proofs.Ytogoaihimepboaa
