/- The walk of Whole, the project's: a range over the payloads. Conditions: bytes of at most 2^40. -/
import Derived.Test.YtogoaihimepboaaKJoG
namespace Go.Proofs.Ytogoaihimepboaa
open Go.RowKit

attribute [local go_sem] Oper.semAt_some

/-- What the loop keeps: the place in its box. -/
def WhI (WL : World) (bl : Nat) (pre : List Px) (W : World) : Prop :=
  Touch (But bl WL.heap.size) WL W ∧ W.heap[bl]? = some (.cells #[.int .i64 (((pre.getLast?.map Px.nx).getD 0 : Nat) : Int)] 3 (0, 0))

set_option maxHeartbeats 4000000 in
set_option maxRecDepth 100000 in
theorem wholeJ_any (A : Option Addr) (c B n : Nat) (l : List UInt8) (w : World) (hn : l.length = n) (hl : n ≤ 1099511627776) (hcap : n ≤ c) (hB : B ≤ w.heap.size) (hr : RdB w B A l) :
    Calls Try.prog 19 #[.slice A n c] w fun e w' => (∃ own p, AllJ l own p ∧ e = .returned (.int .i64 (p : Int))) ∧ Below w.heap.size w w' := by
  obtain ⟨bl, hbl⟩ : ∃ bl, Hid (w.heap.size = bl) := ⟨_, rfl⟩
  have Hr := Lib.hid hr
  have Hn := Lib.hid hn
  have Hl := Lib.hid hl
  have Hcap := Lib.hid hcap
  have HB := Lib.hid hB
  clear hr hl hn hcap hB
  refine (callsIn_wide (n := 5)).1 ?_
  refine callsIn_of_wp_marks Try.func19 rfl trivial (wpIn_wide.2 ?_) rfl
  simp only [Try.ntmps19, List.size_toArray, List.length_cons, List.length_nil, Nat.reduceAdd, Nat.reduceSub, Array.replicate_succ, Array.replicate_zero, List.push_toArray, List.append_toArray, List.nil_append, List.cons_append]
  go_upto_region 2 with fail
  rw [hbl.out]
  obtain ⟨W1, hW1⟩ : ∃ W1, Hid (w.alloc (.cells #[.int .i64 0] 3) = W1) := ⟨_, rfl⟩
  rw [hW1.out]
  have hs1 : Hid (W1.heap.size = bl + 1) := by rw [← hW1.out, ← hbl.out]; show _ = _; simp
  have hb1 : Hid (Below w.heap.size w W1) := by rw [← hW1.out]; exact below_new _ _
  have hbv1 : Hid (W1.heap[bl]? = some (.cells #[.int .i64 0] 3 (0, 0))) := by rw [← hW1.out, ← hbl.out]; exact heap_alloc_new w _
  go_wp2_with (go_at_call 32; refine (payloads_any _ _ _ _).mono ?_; rintro e w1 ⟨rfl, rfl⟩)
  obtain ⟨WL, hWL⟩ : ∃ WL, Hid (W1.alloc (.cells #[.slice A n c] 22) = WL) := ⟨_, rfl⟩
  rw [hWL.out, hs1.out]
  have hbWL : Hid (Below W1.heap.size W1 WL) := by rw [← hWL.out]; exact below_new _ _
  have hsWL : Hid (WL.heap.size = bl + 2) := by rw [← hWL.out]; show _ = _; simp [hs1.out]
  have hBsL : Hid (WL.heap[bl + 1]? = some (.cells #[.slice A n c] 22 (0, 0))) := by rw [← hWL.out, ← hs1.out]; exact heap_alloc_new _ _
  have hbvL : Hid (WL.heap[bl]? = some (.cells #[.int .i64 0] 3 (0, 0))) := (hbWL.out.block bl (by rw [hs1.out]; omega)).trans hbv1.out
  have hbwL : Hid (Below w.heap.size w WL) := below_then hb1.out hbWL.out (Nat.le_refl _)
  have hread : Hid (BsX WL (But bl WL.heap.size) A l) := by
    have h1 := Reads.below Hr.out (hbwL.out.mono HB.out)
    refine RdX.of h1 (Nat.le_trans HB.out hbwL.out.size) fun b hb e => ?_
    have h2 := hbl.out
    have h3 := HB.out
    have h4 := hsWL.out
    rcases e with e | e <;> omega
  have hbox : Hid (WL.cell? ⟨bl + 1, 0, none⟩ = some (.slice A n c)) := box_cell hBsL.out
  have hN1 : Hid (¬ But bl WL.heap.size (bl + 1)) := by
    rw [hsWL.out]
    rintro (e | e) <;> omega
  refine (wpIn_wide (n := 5)).1 ?_
  refine wpIn_rangeFresh (n := 5) rfl (by omega) (gf := 44) (lb := #[.pointer (some ⟨bl + 1, 0, none⟩)]) rfl trivial (enters_of Try.func44 (by kernel_rfl) rfl)
    (payloads_stops 4 (by omega) (bl + 1) bl WL.heap.size A c n l Hn.out Hl.out Hcap.out WL hN1.out hbox.out (by rw [hsWL.out]; omega) (Nat.le_refl _) hread.out) (fun h k => h.trans k)
    (fun W' l o o' hl _ _ _ => Touch.grown (grownBy_putObj' W' l o') fun k e => by injection e with e; exact .inr (by omega)) (Below.refl _ _) (fun _ => rfl)
    (WhI WL bl) ?hI ?h0
    (AlA WL (fun x => #[.slice A n c, undef, .int .i64 0, .pointer (some ⟨bl, 0, none⟩), undef, .int .i64 (x.nx : Int), .slice A n c, .func (.func 44) #[] #[.pointer (some ⟨bl + 1, 0, none⟩)], x.v, .int .i64 (x.nx : Int), undef, undef]))
    ?hAx ?assign ?body ?done
  case hI =>
    rintro pre X Y row ⟨h1, h3⟩ hgr hr
    refine ⟨h1.trans (Touch.grown hgr fun k e => .inr (hr k e).1), (hgr.block bl (Array.getElem?_eq_some_iff.1 h3).1 fun e => ?_).trans h3⟩
    have := (hr bl e.symm).1
    have h5 := hsWL.out
    omega
  case h0 => exact ⟨Touch.refl _ _, hbvL.out⟩
  case hAx =>
    rintro pre x a' _ X Y row ⟨h1, h2⟩ hgr hr
    exact ⟨h1, Px.lies_kept h2 hgr fun r e => (hr r e).2⟩
  case assign =>
    intro l' pre x W' K hi hrx hK
    obtain ⟨A2, c2, M, nx⟩ := x
    have HK := Lib.hid hK
    clear hK
    simp only [Px.v]
    gi_wp2
    exact HK.out _ _ (.of_grownBy (World.grownBy.refl W' none) fun j e => by cases e) (Touch.refl _ _) hi ⟨rfl, hrx⟩
  case body =>
    rintro l' pre x a' W' hl hrec ⟨ht, hv⟩ ⟨rfl, _⟩ hlt
    obtain ⟨A2, c2, M, nx⟩ := x
    have hcb := box_cell hv
    have hfb := box_frozen hv
    have Hv := Lib.hid hv
    have Ht := Lib.hid ht
    simp only [Px.v]
    clear hv ht hl hrec hlt
    gi_wp2
    have htb : Touch (But bl WL.heap.size) W' (W'.setCell ⟨bl, 0, none⟩ (.int .i64 (nx : Int))) := (Touch.cell1 W' bl 0 _).mono fun b _ e => .inl e
    refine ⟨rfl, ?_, htb, Ht.out.trans htb, ?_⟩
    · have h2 := KeepsOthers.setCell W' ⟨bl, 0, none⟩ (.int .i64 (nx : Int))
      exact ⟨h2.size, fun k o' hB hk hc => h2.same k o' hk hc⟩
    · rw [List.getLast?_concat]
      exact box_set _ Hv.out
  case done =>
    rintro D xs W' hD hS ⟨ht, hv⟩ hK
    obtain ⟨p, hp⟩ : ∃ p, Hid ((xs.getLast?.map Px.nx).getD 0 = p) := ⟨_, rfl⟩
    unfold PxAll at hS
    rw [hp.out] at hv hS
    have hcb := box_cell hv
    have Ht := Lib.hid ht
    have HK := Lib.hid hK
    have HD := Lib.hid hD
    have HS := Lib.hid hS
    clear hv ht hK hD hS
    gi_wp2
    go_wp2
    have htD : Touch (fun b => b = D) W' (W'.putObj D (.deferred none)) := Touch.grown (grownBy_putObj' W' D _) fun k e => by injection e with e; exact e.symm
    refine ⟨by simp, .inl ⟨_, _, rfl, run_takeDeferred HK.out, ?_⟩⟩
    refine ⟨_, results_tmp rfl _ _ _, ⟨_, p, HS.out, rfl⟩, ?_⟩
    refine hbwL.out.trans (Touch.below (X := fun b => w.heap.size ≤ b) ((Ht.out.mono fun b hb e => ?_).trans (htD.mono fun b _ e => ?_)) hbwL.out.size fun b hb => hb)
    · have h3 := hbl.out
      have h4 := hsWL.out
      rcases e with e | e <;> omega
    · have h3 := hbl.out
      have h4 := hsWL.out
      have h5 := HD.out
      omega
end Go.Proofs.Ytogoaihimepboaa
