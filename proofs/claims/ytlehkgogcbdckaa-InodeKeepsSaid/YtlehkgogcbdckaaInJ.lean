/- The walk of Append, of a file that lies ahead of a number in one block. Conditions: files of at most 1000 parts of 100000 bytes. -/
import Derived.Test.YtlehkgogcbdckaaExI
namespace Go.Proofs.Ytlehkgogcbdckaa
open Go.RowKit

section
variable {ops : Array Oper} {rest : List Oper} {o : Oper} {a : Act} {Q : Exit → Act → World → Prop} {w : World}
set_option maxRecDepth 100000 in
/-- A part behind a slice that has no room. -/
theorem push_full {t e : TypeId} (ht : PtSl t e) (s x : Operand) {ps : List Pa} {p : Pa} {B B' n c : Nat} {A A' : Option Addr} (hn : ps.length = n) (hr : Reads w B 2 A n (pcells ps)) (hp : Reads w B' 2 A' 1 (pcells [p])) (hl : n ≤ 1099511627) (hA : A = none → n = 0)
    (hgd : o.guard = none) (ho : o.op = .call { callee := .builtin .append, args := #[s, x], argTypes := #[t, t] })
    (hs : a.eval s = .slice A n n) (hx : a.eval x = .slice A' 1 c)
    (h : ∀ v' w', w'.ownsRow w.heap.size e 2 v' (ps ++ [p]).length (pcells (ps ++ [p])) → Below w.heap.size w w' → wpList Try.prog ops Q rest (a.put o.dst v') w') :
    wpList Try.prog ops Q (o :: rest) a w := by
  subst hn
  obtain ⟨hu, hi⟩ := ht
  obtain ⟨i0, hi0, hz0, hz1, hz2⟩ := info_parts hi
  obtain ⟨ad', rfl, _, hc'⟩ := hp.2 (by omega)
  have hlp : (pcells [p]).length = 1 * i0.size := by rw [hz1]; rfl
  have key : ∃ cap, ps.length + 1 ≤ cap ∧ cap ≤ maxLen ∧ (Builtin.append_ #[t, t] o.type #[.slice A ps.length ps.length, .slice (some ad') 1 c]).run Try.prog w = .ok (.slice (some ⟨w.heap.size, 0, none⟩) (ps.length + 1) cap) (w.drew.alloc (.cells ((pcells ps).toArray ++ (pcells [p]).toArray ++ Builtin.zeroCells (Value.agg #[.slice none 0 0, .bool false]).cells (cap - (ps.length + 1))) e)) := by
    cases A with
    | none =>
      have h0 := hA rfl
      have hnil : ps = [] := List.eq_nil_of_length_eq_zero h0
      subst hnil
      have := run_append_nil (P := Try.prog) w t o.type e i0 _ hu hi0 hz0 ad' 1 c (pcells [p]) hlp hc' (by omega) (by omega) (by rw [hz2]; omega)
      refine ⟨grownCap w 1 0 e, grownCap_ge _ _ _ _, grownCap_le_maxLen _ _ _ _ (by simp only [maxLen]; omega), ?_⟩
      simpa [pcells] using this
    | some ad =>
      have hold : ∀ j v, (pcells ps)[j]? = some v → w.cell? (ad.add j) = some v := by
        intro j v hj
        have hj' := (List.getElem?_eq_some_iff.1 hj).1
        rw [pcells_len] at hj'
        obtain ⟨ad2, e2, _, hc2⟩ := hr.2 (by omega)
        injection e2 with e2
        subst e2
        exact hc2 j v hj
      refine ⟨grownCap w (ps.length + 1) ps.length e, grownCap_ge _ _ _ _, grownCap_le_maxLen _ _ _ _ (by simp only [maxLen]; omega), ?_⟩
      exact run_append_grow (P := Try.prog) w t o.type e i0 _ hu hi0 hz0 ad ps.length ps.length (pcells ps) (by rw [hz1, pcells_len]) hold ad' 1 c (pcells [p]) hlp hc' (by omega) (by omega) (growslice_fits (by omega) (by rw [hz2]; omega))
  obtain ⟨cap, hc1, hc2, hrun⟩ := key
  refine wpList_plain hgd fun K hK => ?_
  unfold Oper.wp execOp
  simp only [ho, resolve, invoke, builtin, Sem.run_bind, Sem.run_pure, Result.andThen_ok, List.map_toArray, List.map_cons, List.map_nil, hs, hx, hrun]
  refine hK _ _ (h _ _ ⟨pcells_len _, .inr ⟨w.heap.size, cap, _, ?_, Nat.le_refl _, heap_alloc_new w.drew _, ?_, hc2, ?_, ?_⟩⟩ ⟨rfl, rfl, rfl, by simp, fun k hk => heap_alloc_old w.drew _ hk⟩)
  · rw [List.length_append]; rfl
  · rw [List.length_append]; exact hc1
  · simp only [Array.size_append, List.size_toArray, size_zeroCells, pcells_len, Value.cells]
    simp
    omega
  · simp only [Array.toList_append]
    rw [pcells_append, List.take_append_of_le_length (by simp [pcells_len]; omega)]
    rw [List.take_of_length_le (by simp [pcells_len]; omega)]
end
theorem reads_pa (w : World) (t : TypeId) (p : Pa) {A : Option Addr} {n c : Nat} {d : Bool} (hp : p.cs = [.slice A n c, .bool d]) : Reads (w.alloc (.cells #[.slice A n c, .bool d] t)) (w.heap.size + 1) 2 (some ⟨w.heap.size, 0, none⟩) 1 (pcells [p]) := by
  have e0 : w.alloc (.cells #[.slice A n c, .bool d] t) = w.alloc (.cells (pcells [p]).toArray t) := by
    unfold pcells
    rw [List.flatMap_cons, List.flatMap_nil, List.append_nil, hp]
  rw [e0]
  exact ps_new w t [p]

theorem OwnR.file {base : Nat} {w : World} {v : Value} {g : Nat} {ps : List Pa} {X : Nat → Prop} {m : List Pt} (h : OwnR base w v g ps) (hX : ∀ b, X b → b < base) (hm : says ps = m) : FileV w X v m := by
  obtain ⟨A, c, e, hc, hp⟩ := h.reads hX
  exact ⟨A, c, ps, e, hc, hp, hm⟩

/-! ### a block of two cells -/
theorem bx_set {w : World} {g : Nat} {v nm : Value} {t : TypeId} (u : Value) (h : w.heap[g]? = some (.cells #[v, nm] t (0, 0))) : (w.setCell ⟨g, 0, none⟩ u).heap[g]? = some (.cells #[u, nm] t (0, 0)) := heap_setCell_same w g 0 _ t u h
theorem bx_set1 {w : World} {g : Nat} {v nm : Value} {t : TypeId} (u : Value) (h : w.heap[g]? = some (.cells #[v, nm] t (0, 0))) : (w.setCell ⟨g, 1, none⟩ u).heap[g]? = some (.cells #[v, u] t (0, 0)) := heap_setCell_same w g 1 _ t u h
theorem bx_cell {w : World} {g : Nat} {v nm : Value} {t : TypeId} (h : w.heap[g]? = some (.cells #[v, nm] t (0, 0))) : w.cell? ⟨g, 0, none⟩ = some v := by rw [cell_of_row w g 0 _ _ _ h]; rfl
theorem bx_cell1 {w : World} {g : Nat} {v nm : Value} {t : TypeId} (h : w.heap[g]? = some (.cells #[v, nm] t (0, 0))) : w.cell? ⟨g, 1, none⟩ = some nm := by rw [cell_of_row w g 1 _ _ _ h]; rfl
theorem bx_frozen {w : World} {g : Nat} {v nm : Value} {t : TypeId} (h : w.heap[g]? = some (.cells #[v, nm] t (0, 0))) : w.frozen? ⟨g, 0, none⟩ = false := by
  unfold World.frozen?
  rw [h]
  simp
theorem bx_frozen1 {w : World} {g : Nat} {v nm : Value} {t : TypeId} (h : w.heap[g]? = some (.cells #[v, nm] t (0, 0))) : w.frozen? ⟨g, 1, none⟩ = false := by
  unfold World.frozen?
  rw [h]
  simp
variable {nm : Value}
set_option maxHeartbeats 2000000 in
set_option maxRecDepth 100000 in
theorem app_any {X : Nat → Prop} {A Ab : Option Addr} {c cb B F : Nat} {ps : List Pa} {l : List UInt8} {w : World} (hF : w.heap[F]? = some (.cells #[.slice A ps.length c, nm] 59 (0, 0))) (hc : ps.length ≤ c) (hs : SmM (says ps ++ [(l, false)])) (hr : PsX w X A ps) (hB : B ≤ w.heap.size) (hb : RdB w B Ab l) :
    Calls Try.prog 30 #[.pointer (some ⟨F, 0, none⟩), .slice Ab l.length cb] w fun e w' => e = .returned (.tuple #[]) ∧ Touch (fun k => k = F) w w' ∧ ∃ v, w'.heap[F]? = some (.cells #[v, nm] 59 (0, 0)) ∧ FileV w' (XW w) v (appM (says ps) l) := by
  have hlen : (ps.length : Int) ≤ 1000 := by have := hs.n; rw [List.length_append, says_len] at this; omega
  have hcF := bx_cell hF
  obtain ⟨n, hn⟩ : ∃ n, Hid (ps.length = n) := ⟨_, rfl⟩
  have hFl : Hid (F < w.heap.size) := (Array.getElem?_eq_some_iff.1 hF).1
  have HF := Lib.hid hF
  have Hs := Lib.hid hs
  have Hr := Lib.hid hr
  have HB := Lib.hid hB
  have Hb := Lib.hid hb
  have Hcc := Lib.hid (show n ≤ c by rw [← hn.out]; exact hc)
  obtain ⟨nl, hnl⟩ : ∃ nl, Hid (l.length = nl) := ⟨_, rfl⟩
  have HA : Hid (A = none → n = 0) := by
    intro hA
    rcases Nat.eq_zero_or_pos ps.length with h0 | h0
    · rw [← hn.out]; exact h0
    · obtain ⟨ad, e, _⟩ := hr.top.2 h0
      rw [hA] at e
      cases e
  rw [hn.out] at hcF hlen
  rw [hnl.out]
  have hbl : Hid (n ≤ 9223372036854775807) := by show _ ≤ _; omega
  clear hF hs hr hB hb hc
  go_enter Try.func30, Try.ntmps30
  go_wp2_with (first
    | (go_at_call 42
       refine (clipP_any A n c w Hcc.out hbl.out).mono ?_
       rintro e w0 ⟨rfl, hw0⟩
       subst hw0)
    | (at_builtin
       refine push_full ptSl1 (.tmp 11) (.tmp 14) (p := ⟨⟨Ab, cb, l⟩, false⟩) hn.out (Reads.below Hr.out.top.reads (below_new _ _) |> fun h => by rw [hn.out] at h; exact h) (reads_pa w0 _ ⟨⟨Ab, cb, l⟩, false⟩ (by unfold Pa.cs; rw [hnl.out])) (by omega) HA.out rfl rfl rfl rfl ?_
       intro v1 w1 hown1 hb1
       have hbb1 := (below_new w0 (.cells #[.slice Ab nl cb, .bool false] 80)).trans (hb1.mono (below_new w0 _).size)
       obtain ⟨A1, c1, rfl, hc1, _, hr1⟩ := own_form hown1
       have hP1 : PsX w1 (fun _ => False) A1 (ps ++ [⟨⟨Ab, cb, l⟩, false⟩]) := ⟨RdX.of hr1 (Nat.le_refl _) (fun _ _ h => h), fun q hq => by
         rw [List.mem_append, List.mem_singleton] at hq
         rcases hq with hq | rfl
         · exact ((Hr.out.row q hq).below hbb1).mono fun _ _ h => h.elim
         · exact RdX.of (Reads.below Hb.out (hbb1.mono HB.out)) (Nat.le_trans HB.out hbb1.size) (fun _ _ h => h)⟩
       have Hcall := Lib.hid (anew_any A1 c1 _ w1 (by rw [says_append]; exact Hs.out) hP1)
       obtain ⟨n1, hn1⟩ : ∃ n1, Hid ((ps ++ [Pa.mk ⟨Ab, cb, l⟩ false]).length = n1) := ⟨_, rfl⟩
       rw [hn1.out] at Hcall ⊢
       have Hb1 := Lib.hid hbb1
       have hF1 := Lib.hid ((hbb1.block F hFl.out).trans HF.out)
       clear hown1 hb1 hr1 hP1 hc1 hbb1)
    | (go_at_call 35
       refine Hcall.out.mono ?_
       rintro e w2 ⟨v2, g2, qs, rfl, hO, hsay, hb2⟩
       have hF2 := Lib.hid ((hb2.block F (Nat.lt_of_lt_of_le hFl.out Hb1.out.size)).trans hF1.out)
       have cF2 := bx_cell hF2.out
       have zF2 := bx_frozen hF2.out
       obtain ⟨A2, c2, rfl, hc2, _, _⟩ := own_form hO.head
       have HO := Lib.hid hO
       have Hsay := Lib.hid hsay
       have Hb2 := Lib.hid hb2
       clear hO hsay hb2 hc2))
  go_end0
  refine ⟨rfl, ((Touch.of Hb1.out).trans ((Touch.of Hb2.out).trans (Touch.cell1 _ _ _ _))), _, bx_set _ hF2.out, ?_⟩
  have hx : ∀ b, XW w0 b → b < w1.heap.size := fun b hb => Nat.lt_of_lt_of_le hb Hb1.out.size
  refine ((HO.out.file hx (m := appM (says ps) l) ?_).keep ((Touch.cell1 _ _ _ _).mono fun b _ e => ?_))
  · rw [Hsay.out, says_append]; rfl
  · rw [e]; exact hFl.out
end Go.Proofs.Ytlehkgogcbdckaa
