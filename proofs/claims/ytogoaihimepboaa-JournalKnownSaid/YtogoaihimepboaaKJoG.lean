/- The walks of All and Whole, the project's: a range over the payloads. Conditions: bytes of at most 2^40. -/
import Derived.Test.YtogoaihimepboaaKJoF
namespace Go.Proofs.Ytogoaihimepboaa
open Go.RowKit

attribute [local go_sem] Oper.semAt_some

/-- What the loop keeps: the list in its box. -/
def AlI (WL : World) (bl : Nat) (pre : List Px) (W : World) : Prop :=
  Touch (But bl WL.heap.size) WL W ∧ ∃ v, W.heap[bl]? = some (.cells #[v] 35 (0, 0)) ∧ OX WL.heap.size W v (pre.map Px.row)
def AlA (WL : World) (tm : Px → Array Value) (pre : List Px) (x : Px) (a : Act) (W : World) : Prop := a = { tmps := tm x, defers := [] } ∧ Px.Lies WL.heap.size pre x W
/-- All's answer. -/
def AllJV (base : Nat) (b : List UInt8) (e : Ending) (w' : World) : Prop :=
  ∃ (v : Value) (own : List Row) (p : Nat), e = .returned v ∧ OX base w' v own ∧ AllJ b (own.map (·.l)) p
theorem Px.lies_kept {x : Px} {pre : List Px} {w w' : World} {n₀ : Nat} {row : Option Nat} (h : x.Lies n₀ pre w) (hg : w.grownBy w' row) (hr : ∀ r, row = some r → ∃ o : Obj, w.heap[r]? = some o ∧ o.isCells = false) : x.Lies n₀ pre w' :=
  ⟨own_kept h.1 hg hr, h.2⟩
theorem box_pushed {base bl : Nat} {w w1 : World} {u v : Value} {t : TypeId} {own : List Row} {o : Obj} (hv : w.heap[bl]? = some (.cells #[u] t (0, 0))) (hO : Owns base w v own) (hbl : bl < base) (hg : (w.alloc o).grownBy w1 v.ownBlock) : w1.heap[bl]? = some (.cells #[u] t (0, 0)) := by
  have hlt := (Array.getElem?_eq_some_iff.1 hv).1
  refine (hg.block bl (by simp; omega) fun e => ?_).trans ((below_new w o).block bl hlt |>.trans hv)
  have := hO.head.lt bl e.symm
  omega
/-- What is no cells is as it was behind a push, and a store into the box. -/
theorem keeps_pushed {base bl : Nat} {w w1 : World} {v v' : Value} {own : List Row} {o : Obj} (hO : Owns base w v own) (hg : (w.alloc o).grownBy w1 v.ownBlock) (B : Nat) : KeepsFrom B w (w1.setCell ⟨bl, 0, none⟩ v') := by
  have h1 : KeepsOthers w w1 := (KeepsOthers.alloc w o).trans (KeepsOthers.of_grownBy hg fun j o' ej hj => by
    rcases (hO.head.alloc o).2 with ⟨rfl, _⟩ | ⟨g, cap, cur, rfl, _, hgb, _⟩
    · simp [Value.ownBlock] at ej
    · obtain rfl : g = j := by simpa [Value.ownBlock] using ej
      rw [hgb] at hj
      cases hj
      rfl)
  have h2 := h1.trans (KeepsOthers.setCell w1 ⟨bl, 0, none⟩ v')
  exact ⟨h2.size, fun k o' hB hk hc => h2.same k o' hk hc⟩

set_option maxHeartbeats 4000000 in
set_option maxRecDepth 100000 in
theorem allJ_any (A : Option Addr) (c B n : Nat) (l : List UInt8) (w : World) (hn : l.length = n) (hl : n ≤ 1099511627776) (hcap : n ≤ c) (hB : B ≤ w.heap.size) (hr : RdB w B A l) :
    Calls Try.prog 13 #[.slice A n c] w fun e w' => AllJV w.heap.size l e w' ∧ Below w.heap.size w w' := by
  obtain ⟨bl, hbl⟩ : ∃ bl, Hid (w.heap.size = bl) := ⟨_, rfl⟩
  have Hr := Lib.hid hr
  have Hn := Lib.hid hn
  have Hl := Lib.hid hl
  have Hcap := Lib.hid hcap
  have HB := Lib.hid hB
  clear hr hl hn hcap hB
  refine (callsIn_wide (n := 5)).1 ?_
  refine callsIn_of_wp_marks Try.func13 rfl trivial (wpIn_wide.2 ?_) rfl
  simp only [Try.ntmps13, List.size_toArray, List.length_cons, List.length_nil, Nat.reduceAdd, Nat.reduceSub, Array.replicate_succ, Array.replicate_zero, List.push_toArray, List.append_toArray, List.nil_append, List.cons_append]
  go_upto_region 2 with fail
  rw [hbl.out]
  obtain ⟨W1, hW1⟩ : ∃ W1, Hid (w.alloc (.cells #[.slice none 0 0] 35) = W1) := ⟨_, rfl⟩
  rw [hW1.out]
  have hs1 : Hid (W1.heap.size = bl + 1) := by rw [← hW1.out, ← hbl.out]; show _ = _; simp
  have hb1 : Hid (Below w.heap.size w W1) := by rw [← hW1.out]; exact below_new _ _
  have hbv1 : Hid (W1.heap[bl]? = some (.cells #[.slice none 0 0] 35 (0, 0))) := by rw [← hW1.out, ← hbl.out]; exact heap_alloc_new w _
  go_wp2_with (go_at_call 32; refine (payloads_any _ _ _ _).mono ?_; rintro e w1 ⟨rfl, rfl⟩)
  obtain ⟨WL, hWL⟩ : ∃ WL, Hid (W1.alloc (.cells #[.slice A n c] 22) = WL) := ⟨_, rfl⟩
  rw [hWL.out, hs1.out]
  have hbWL : Hid (Below W1.heap.size W1 WL) := by rw [← hWL.out]; exact below_new _ _
  have hsWL : Hid (WL.heap.size = bl + 2) := by rw [← hWL.out]; show _ = _; simp [hs1.out]
  have hBsL : Hid (WL.heap[bl + 1]? = some (.cells #[.slice A n c] 22 (0, 0))) := by rw [← hWL.out, ← hs1.out]; exact heap_alloc_new _ _
  have hbvL : Hid (WL.heap[bl]? = some (.cells #[.slice none 0 0] 35 (0, 0))) := (hbWL.out.block bl (by rw [hs1.out]; omega)).trans hbv1.out
  have hbwL : Hid (Below w.heap.size w WL) := below_then hb1.out hbWL.out (Nat.le_refl _)
  have hread : Hid (BsX WL (But bl WL.heap.size) A l) := by
    have h1 := Reads.below Hr.out (hbwL.out.mono HB.out)
    refine RdX.of h1 (Nat.le_trans HB.out hbwL.out.size) fun b hb e => ?_
    have h2 := hbl.out
    have h3 := HB.out
    have h4 := hsWL.out
    rcases e with e | e <;> omega
  have hbox : Hid (WL.cell? ⟨bl + 1, 0, none⟩ = some (.slice A n c)) := box_cell hBsL.out
  have hN1 : Hid (¬ But bl WL.heap.size (bl + 1)) := by
    rw [hsWL.out]
    rintro (e | e) <;> omega
  refine (wpIn_wide (n := 5)).1 ?_
  refine wpIn_rangeFresh (n := 5) rfl (by omega) (gf := 44) (lb := #[.pointer (some ⟨bl + 1, 0, none⟩)]) rfl trivial (enters_of Try.func44 (by kernel_rfl) rfl)
    (payloads_stops 4 (by omega) (bl + 1) bl WL.heap.size A c n l Hn.out Hl.out Hcap.out WL hN1.out hbox.out (by rw [hsWL.out]; omega) (Nat.le_refl _) hread.out) (fun h k => h.trans k)
    (fun W' l o o' hl _ _ _ => Touch.grown (grownBy_putObj' W' l o') fun k e => by injection e with e; exact .inr (by omega)) (Below.refl _ _) (fun _ => rfl)
    (AlI WL bl) ?hI ?h0
    (AlA WL (fun x => #[.slice A n c, undef, .slice none 0 0, .pointer (some ⟨bl, 0, none⟩), x.v, .slice A n c, .func (.func 44) #[] #[.pointer (some ⟨bl + 1, 0, none⟩)], x.v, .int .i64 (x.nx : Int), undef, undef, undef, undef, undef]))
    ?hAx ?assign ?body ?done
  case hI =>
    rintro pre X Y row ⟨h1, v, h3, h4⟩ hgr hr
    have hnc : ∀ r, row = some r → ∃ o : Obj, X.heap[r]? = some o ∧ o.isCells = false := fun r e => (hr r e).2
    refine ⟨h1.trans (Touch.grown hgr fun k e => .inr (hr k e).1), v, (hgr.block bl (Array.getElem?_eq_some_iff.1 h3).1 fun e => ?_).trans h3, h4.kept hgr hnc⟩
    have := (hr bl e.symm).1
    have h5 := hsWL.out
    omega
  case h0 => exact ⟨Touch.refl _ _, _, hbvL.out, OX.nil _ _⟩
  case hAx =>
    rintro pre x a' _ X Y row ⟨h1, h2⟩ hgr hr
    exact ⟨h1, Px.lies_kept h2 hgr fun r e => (hr r e).2⟩
  case assign =>
    intro l' pre x W' K hi hrx hK
    obtain ⟨A2, c2, M, nx⟩ := x
    have HK := Lib.hid hK
    clear hK
    simp only [Px.v]
    gi_wp2
    exact HK.out _ _ (.of_grownBy (World.grownBy.refl W' none) fun j e => by cases e) (Touch.refl _ _) hi ⟨rfl, hrx⟩
  case body =>
    rintro l' pre x a' W' hl hrec ⟨ht, v, hv, hO⟩ ⟨rfl, hL1, hL2, hL3⟩ hlt
    obtain ⟨A2, c2, M, nx⟩ := x
    simp only [Px.v] at hL1 hL2 hL3
    obtain ⟨Av, cv, rfl, _, _, _⟩ := own_form hO.o.head
    rw [List.length_map] at hO hv
    have hcb := box_cell hv
    have hpl : Hid (pre.length ≤ 1099511627776) := by have := Hl.out; show _ ≤ _; omega
    have hdis : Hid (∀ q ∈ pre.map Px.row, ∀ a b : Addr, q.A = some a → A2 = some b → a.block ≠ b.block) := by
      intro q hq a b ea eb
      rw [List.mem_map] at hq
      obtain ⟨y, hy, rfl⟩ := hq
      exact hL3 y hy a b ea eb
    have HL1 := Lib.hid hL1
    have HO := Lib.hid hO
    have Hv := Lib.hid hv
    have Ht := Lib.hid ht
    have hsz := Lib.hid ht.size
    have hblW := Lib.hid (show bl < WL.heap.size by have := hsWL.out; omega)
    simp only [Px.v]
    clear hL1 hL2 hL3 hO hv ht hl hrec hlt
    gi_wp2_with (gi_at_builtin; refine push_sliceIn (.tmp 9) (.tmp 11) ⟨A2, c2, M⟩ rfl HO.out hsz.out (by rw [List.length_map]; exact hpl.out) HL1.out hdis.out rfl rfl rfl rfl ?_; intro v2 w2 hO2 hb2 hg2; obtain ⟨A3, c3, rfl, _, _, _⟩ := own_form hO2.o.head; have hv2 := box_pushed Hv.out HO.out.o hblW.out hg2; obtain ⟨k1, hk1⟩ : ∃ k, Hid ((List.map Px.row pre ++ [(⟨A2, c2, M⟩ : Row)]).length = k) := ⟨_, rfl⟩; rw [hk1.out] at hO2 ⊢; have hcb2 := box_cell hv2; have hfb2 := box_frozen hv2; have HO2 := Lib.hid hO2; have Hb2 := Lib.hid hb2; have Hg2 := Lib.hid hg2; have Hv2 := Lib.hid hv2; clear hO2 hb2 hg2 hv2)
    have htb : Touch (But bl WL.heap.size) W' (w2.setCell ⟨bl, 0, none⟩ (.slice A3 k1 c3)) := by
      refine Touch.trans (b := w2) ⟨Hb2.out.os, Hb2.out.tape, Hb2.out.output, Hb2.out.size, fun k hk hn => Hb2.out.block k ?_⟩ ((Touch.cell1 w2 bl 0 _).mono fun b _ e => .inl e)
      rcases Nat.lt_or_ge k WL.heap.size with h | h
      · exact h
      · exact absurd (Or.inr h) hn
    refine ⟨rfl, keeps_pushed HO.out.o Hg2.out _, htb, Ht.out.trans htb, _, box_set _ Hv2.out, ?_⟩
    rw [List.map_append]
    exact HO2.out.box hblW.out _
  case done =>
    rintro D xs W' hD hS ⟨ht, v, hv, hO⟩ hK
    obtain ⟨Av, cv, rfl, _, _, _⟩ := own_form hO.o.head
    obtain ⟨k1, hk1⟩ : ∃ k, Hid ((xs.map Px.row).length = k) := ⟨_, rfl⟩
    rw [hk1.out] at hO hv
    have hcb := box_cell hv
    have HO := Lib.hid hO
    have Ht := Lib.hid ht
    have HK := Lib.hid hK
    have HD := Lib.hid hD
    have HS := Lib.hid hS
    clear hO hv ht hK hD hS
    gi_wp2
    go_wp2
    have htD : Touch (fun b => b = D) W' (W'.putObj D (.deferred none)) := Touch.grown (grownBy_putObj' W' D _) fun k e => by injection e with e; exact e.symm
    refine ⟨by simp, .inl ⟨_, _, rfl, run_takeDeferred HK.out, ?_⟩⟩
    refine ⟨_, results_tmp rfl _ _ _, ⟨_, xs.map Px.row, (xs.getLast?.map Px.nx).getD 0, rfl, ?_, ?_⟩, ?_⟩
    · have h1 := HO.out.kept (grownBy_putObj' W' D (.deferred none)) (fun r e => by injection e with e; subst e; exact ⟨_, HK.out, rfl⟩)
      have hle : w.heap.size ≤ WL.heap.size := by have := hsWL.out; have := hbl.out; omega
      exact ⟨⟨own_mono h1.o.head hle, h1.o.row, h1.o.apart⟩, fun r hr => own_mono (h1.r r hr) hle, h1.p⟩
    · have h2 := HS.out
      unfold PxAll at h2
      rw [List.map_map]
      exact h2
    · refine hbwL.out.trans (Touch.below (X := fun b => w.heap.size ≤ b) ((Ht.out.mono fun b hb e => ?_).trans (htD.mono fun b _ e => ?_)) hbwL.out.size fun b hb => hb)
      · have h3 := hbl.out
        have h4 := hsWL.out
        rcases e with e | e <;> omega
      · have h3 := hbl.out
        have h4 := hsWL.out
        have h5 := HD.out
        omega
end Go.Proofs.Ytogoaihimepboaa
