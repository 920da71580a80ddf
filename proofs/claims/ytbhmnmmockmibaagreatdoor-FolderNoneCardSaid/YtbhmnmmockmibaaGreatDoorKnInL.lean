/- The walk of Append, of a file that lies ahead of a number in one block. Conditions: files of at most 1000 parts of 100000 bytes. The walks of Sync and hold. Conditions: files of at most 1000 parts of 100000 bytes. The walk of hold. Conditions: at most 1000 parts, and 1000 told. -/
import Derived.Test.YtbhmnmmockmibaaGreatDoorKnExI
import Derived.RegionTactic
import Derived.BigRegion
namespace Go.Proofs.YtbhmnmmockmibaaGreatDoor
open Go.RowKit
section
variable {ops : Array Oper} {rest : List Oper} {o : Oper} {a : Act} {Q : Exit → Act → World → Prop} {w : World}
set_option maxRecDepth 100000 in
/-- A part behind a slice that has no room. -/
theorem push_full {t e : TypeId} (ht : PtSl t e) (s x : Operand) {ps : List Pa} {p : Pa} {B B' n c : Nat} {A A' : Option Addr} (hn : ps.length = n) (hr : Reads w B 2 A n (pcells ps)) (hp : Reads w B' 2 A' 1 (pcells [p])) (hl : n ≤ 1099511627) (hA : A = none → n = 0)
    (hgd : o.guard = none) (ho : o.op = .call { callee := .builtin .append, args := #[s, x], argTypes := #[t, t] })
    (hs : a.eval s = .slice A n n) (hx : a.eval x = .slice A' 1 c)
    (h : ∀ v' w', w'.ownsRow w.heap.size e 2 v' (ps ++ [p]).length (pcells (ps ++ [p])) → Below w.heap.size w w' → wpList Tryz.prog ops Q rest (a.put o.dst v') w') :
    wpList Tryz.prog ops Q (o :: rest) a w := by
  subst hn
  obtain ⟨hu, hi⟩ := ht
  obtain ⟨i0, hi0, hz0, hz1, hz2⟩ := info_parts hi
  obtain ⟨ad', rfl, _, hc'⟩ := hp.2 (by omega)
  have hlp : (pcells [p]).length = 1 * i0.size := by rw [hz1]; rfl
  have key : ∃ cap, ps.length + 1 ≤ cap ∧ cap ≤ maxLen ∧ (Builtin.append_ #[t, t] o.type #[.slice A ps.length ps.length, .slice (some ad') 1 c]).run Tryz.prog w = .ok (.slice (some ⟨w.heap.size, 0, none⟩) (ps.length + 1) cap) (w.drew.alloc (.cells ((pcells ps).toArray ++ (pcells [p]).toArray ++ Builtin.zeroCells (Value.agg #[.slice none 0 0, .bool false]).cells (cap - (ps.length + 1))) e)) := by
    cases A with
    | none =>
      have h0 := hA rfl
      have hnil : ps = [] := List.eq_nil_of_length_eq_zero h0
      subst hnil
      have := run_append_nil (P := Tryz.prog) w t o.type e i0 _ hu hi0 hz0 ad' 1 c (pcells [p]) hlp hc' (by omega) (by omega) (by rw [hz2]; omega)
      refine ⟨grownCap w 1 0 e, grownCap_ge _ _ _ _, grownCap_le_maxLen _ _ _ _ (by simp only [maxLen]; omega), ?_⟩
      simpa [pcells] using this
    | some ad =>
      have hold : ∀ j v, (pcells ps)[j]? = some v → w.cell? (ad.add j) = some v := by
        intro j v hj
        have hj' := (List.getElem?_eq_some_iff.1 hj).1
        rw [pcells_len] at hj'
        obtain ⟨ad2, e2, _, hc2⟩ := hr.2 (by omega)
        injection e2 with e2
        subst e2
        exact hc2 j v hj
      refine ⟨grownCap w (ps.length + 1) ps.length e, grownCap_ge _ _ _ _, grownCap_le_maxLen _ _ _ _ (by simp only [maxLen]; omega), ?_⟩
      exact run_append_grow (P := Tryz.prog) w t o.type e i0 _ hu hi0 hz0 ad ps.length ps.length (pcells ps) (by rw [hz1, pcells_len]) hold ad' 1 c (pcells [p]) hlp hc' (by omega) (by omega) (growslice_fits (by omega) (by rw [hz2]; omega))
  obtain ⟨cap, hc1, hc2, hrun⟩ := key
  refine wpList_plain hgd fun K hK => ?_
  unfold Oper.wp execOp
  simp only [ho, resolve, invoke, builtin, Sem.run_bind, Sem.run_pure, Result.andThen_ok, List.map_toArray, List.map_cons, List.map_nil, hs, hx, hrun]
  refine hK _ _ (h _ _ ⟨pcells_len _, .inr ⟨w.heap.size, cap, _, ?_, Nat.le_refl _, heap_alloc_new w.drew _, ?_, hc2, ?_, ?_⟩⟩ ⟨rfl, rfl, rfl, by simp, fun k hk => heap_alloc_old w.drew _ hk⟩)
  · rw [List.length_append]; rfl
  · rw [List.length_append]; exact hc1
  · simp only [Array.size_append, List.size_toArray, size_zeroCells, pcells_len, Value.cells]
    simp
    omega
  · simp only [Array.toList_append]
    rw [pcells_append, List.take_append_of_le_length (by simp [pcells_len]; omega)]
    rw [List.take_of_length_le (by simp [pcells_len]; omega)]
end
theorem reads_pa (w : World) (t : TypeId) (p : Pa) {A : Option Addr} {n c : Nat} {d : Bool} (hp : p.cs = [.slice A n c, .bool d]) : Reads (w.alloc (.cells #[.slice A n c, .bool d] t)) (w.heap.size + 1) 2 (some ⟨w.heap.size, 0, none⟩) 1 (pcells [p]) := by
  have e0 : w.alloc (.cells #[.slice A n c, .bool d] t) = w.alloc (.cells (pcells [p]).toArray t) := by
    unfold pcells
    rw [List.flatMap_cons, List.flatMap_nil, List.append_nil, hp]
  rw [e0]
  exact ps_new w t [p]
theorem OwnR.file {base : Nat} {w : World} {v : Value} {g : Nat} {ps : List Pa} {X : Nat → Prop} {m : List Pt} (h : OwnR base w v g ps) (hX : ∀ b, X b → b < base) (hm : says ps = m) : FileV w X v m := by
  obtain ⟨A, c, e, hc, hp⟩ := h.reads hX
  exact ⟨A, c, ps, e, hc, hp, hm⟩
theorem bx_set {w : World} {g : Nat} {v nm : Value} {t : TypeId} (u : Value) (h : w.heap[g]? = some (.cells #[v, nm] t (0, 0))) : (w.setCell ⟨g, 0, none⟩ u).heap[g]? = some (.cells #[u, nm] t (0, 0)) := heap_setCell_same w g 0 _ t u h
theorem bx_set1 {w : World} {g : Nat} {v nm : Value} {t : TypeId} (u : Value) (h : w.heap[g]? = some (.cells #[v, nm] t (0, 0))) : (w.setCell ⟨g, 1, none⟩ u).heap[g]? = some (.cells #[v, u] t (0, 0)) := heap_setCell_same w g 1 _ t u h
theorem bx_cell {w : World} {g : Nat} {v nm : Value} {t : TypeId} (h : w.heap[g]? = some (.cells #[v, nm] t (0, 0))) : w.cell? ⟨g, 0, none⟩ = some v := by rw [cell_of_row w g 0 _ _ _ h]; rfl
theorem bx_cell1 {w : World} {g : Nat} {v nm : Value} {t : TypeId} (h : w.heap[g]? = some (.cells #[v, nm] t (0, 0))) : w.cell? ⟨g, 1, none⟩ = some nm := by rw [cell_of_row w g 1 _ _ _ h]; rfl
theorem bx_frozen {w : World} {g : Nat} {v nm : Value} {t : TypeId} (h : w.heap[g]? = some (.cells #[v, nm] t (0, 0))) : w.frozen? ⟨g, 0, none⟩ = false := by
  unfold World.frozen?
  rw [h]
  simp
theorem bx_frozen1 {w : World} {g : Nat} {v nm : Value} {t : TypeId} (h : w.heap[g]? = some (.cells #[v, nm] t (0, 0))) : w.frozen? ⟨g, 1, none⟩ = false := by
  unfold World.frozen?
  rw [h]
  simp
variable {nm : Value}
set_option maxHeartbeats 2000000 in
set_option maxRecDepth 100000 in
theorem app_any {X : Nat → Prop} {A Ab : Option Addr} {c cb B F : Nat} {ps : List Pa} {l : List UInt8} {w : World} (hF : w.heap[F]? = some (.cells #[.slice A ps.length c, nm] 115 (0, 0))) (hc : ps.length ≤ c) (hs : SmM (says ps ++ [(l, false)])) (hr : PsX w X A ps) (hB : B ≤ w.heap.size) (hb : RdB w B Ab l) :
    Calls Tryz.prog 87 #[.pointer (some ⟨F, 0, none⟩), .slice Ab l.length cb] w fun e w' => e = .returned (.tuple #[]) ∧ Touch (fun k => k = F) w w' ∧ ∃ v, w'.heap[F]? = some (.cells #[v, nm] 115 (0, 0)) ∧ FileV w' (XW w) v (appM (says ps) l) := by
  have hlen : (ps.length : Int) ≤ 1000 := by have := hs.n; rw [List.length_append, says_len] at this; omega
  have hcF := bx_cell hF
  obtain ⟨n, hn⟩ : ∃ n, Hid (ps.length = n) := ⟨_, rfl⟩
  have hFl : Hid (F < w.heap.size) := (Array.getElem?_eq_some_iff.1 hF).1
  have HF := Lib.hid hF
  have Hs := Lib.hid hs
  have Hr := Lib.hid hr
  have HB := Lib.hid hB
  have Hb := Lib.hid hb
  have Hcc := Lib.hid (show n ≤ c by rw [← hn.out]; exact hc)
  obtain ⟨nl, hnl⟩ : ∃ nl, Hid (l.length = nl) := ⟨_, rfl⟩
  have HA : Hid (A = none → n = 0) := by
    intro hA
    rcases Nat.eq_zero_or_pos ps.length with h0 | h0
    · rw [← hn.out]; exact h0
    · obtain ⟨ad, e, _⟩ := hr.top.2 h0
      rw [hA] at e
      cases e
  rw [hn.out] at hcF hlen
  rw [hnl.out]
  have hbl : Hid (n ≤ 9223372036854775807) := by show _ ≤ _; omega
  clear hF hs hr hB hb hc
  go_enter Tryz.func87, Tryz.ntmps87
  go_wp2_with (first
    | (go_at_call 116
       refine (clipP_any A n c w Hcc.out hbl.out).mono ?_
       rintro e w0 ⟨rfl, hw0⟩
       subst hw0)
    | (at_builtin
       refine push_full ptSl1 (.tmp 11) (.tmp 14) (p := ⟨⟨Ab, cb, l⟩, false⟩) hn.out (Reads.below Hr.out.top.reads (below_new _ _) |> fun h => by rw [hn.out] at h; exact h) (reads_pa w0 _ ⟨⟨Ab, cb, l⟩, false⟩ (by unfold Pa.cs; rw [hnl.out])) (by omega) HA.out rfl rfl rfl rfl ?_
       intro v1 w1 hown1 hb1
       have hbb1 := (below_new w0 (.cells #[.slice Ab nl cb, .bool false] 165)).trans (hb1.mono (below_new w0 _).size)
       obtain ⟨A1, c1, rfl, hc1, _, hr1⟩ := own_form hown1
       have hP1 : PsX w1 (fun _ => False) A1 (ps ++ [⟨⟨Ab, cb, l⟩, false⟩]) := ⟨RdX.of hr1 (Nat.le_refl _) (fun _ _ h => h), fun q hq => by
         rw [List.mem_append, List.mem_singleton] at hq
         rcases hq with hq | rfl
         · exact ((Hr.out.row q hq).below hbb1).mono fun _ _ h => h.elim
         · exact RdX.of (Reads.below Hb.out (hbb1.mono HB.out)) (Nat.le_trans HB.out hbb1.size) (fun _ _ h => h)⟩
       have Hcall := Lib.hid (anew_any A1 c1 _ w1 (by rw [says_append]; exact Hs.out) hP1)
       obtain ⟨n1, hn1⟩ : ∃ n1, Hid ((ps ++ [Pa.mk ⟨Ab, cb, l⟩ false]).length = n1) := ⟨_, rfl⟩
       rw [hn1.out] at Hcall ⊢
       have Hb1 := Lib.hid hbb1
       have hF1 := Lib.hid ((hbb1.block F hFl.out).trans HF.out)
       clear hown1 hb1 hr1 hP1 hc1 hbb1)
    | (go_at_call 95
       refine Hcall.out.mono ?_
       rintro e w2 ⟨v2, g2, qs, rfl, hO, hsay, hb2⟩
       have hF2 := Lib.hid ((hb2.block F (Nat.lt_of_lt_of_le hFl.out Hb1.out.size)).trans hF1.out)
       have cF2 := bx_cell hF2.out
       have zF2 := bx_frozen hF2.out
       obtain ⟨A2, c2, rfl, hc2, _, _⟩ := own_form hO.head
       have HO := Lib.hid hO
       have Hsay := Lib.hid hsay
       have Hb2 := Lib.hid hb2
       clear hO hsay hb2 hc2))
  go_end0
  refine ⟨rfl, ((Touch.of Hb1.out).trans ((Touch.of Hb2.out).trans (Touch.cell1 _ _ _ _))), _, bx_set _ hF2.out, ?_⟩
  have hx : ∀ b, XW w0 b → b < w1.heap.size := fun b hb => Nat.lt_of_lt_of_le hb Hb1.out.size
  refine ((HO.out.file hx (m := appM (says ps) l) ?_).keep ((Touch.cell1 _ _ _ _).mono fun b _ e => ?_))
  · rw [Hsay.out, says_append]; rfl
  · rw [e]; exact hFl.out
end Go.Proofs.YtbhmnmmockmibaaGreatDoor

namespace Go.Proofs.YtbhmnmmockmibaaGreatDoor
open Go.RowKit
theorem set_take {α : Type} {m : List α} {k : Nat} {x : α} (h : k < m.length) : (m.set k x).take (k + 1) = m.take k ++ [x] := by
  rw [List.set_eq_take_append_cons_drop, if_pos h, List.take_append, List.length_take, Nat.min_eq_left (Nat.le_of_lt h), List.take_of_length_le (by rw [List.length_take]; omega), show k + 1 - k = 1 by omega]
  rfl
theorem set_drop {α : Type} {m : List α} {k : Nat} {x : α} : (m.set k x).drop (k + 1) = m.drop (k + 1) := by
  rw [List.drop_set_of_lt (by omega)]
theorem says_set (ps : List Pa) (k : Nat) (p : Pa) : says (ps.set k p) = (says ps).set k (p.r.l, p.d) := by
  unfold says
  rw [List.map_set]
def rws (ps : List Pa) : List Row := ps.map fun p => p.r
theorem contM_rws (ps : List Pa) : contM (says ps) = (rws ps).flatMap fun r => r.l := by
  unfold contM says rws
  rw [List.flatMap_map, List.flatMap_map]
theorem rws_set {ps : List Pa} {k : Nat} {p : Pa} (b : Bool) (h : ps[k]? = some p) : rws (ps.set k ⟨p.r, b⟩) = rws ps := by
  unfold rws
  rw [List.map_set]
  obtain ⟨hk, e⟩ := List.getElem?_eq_some_iff.1 h
  apply List.ext_getElem?
  intro i
  rw [List.getElem?_set]
  split
  · rename_i hi
    subst hi
    rw [if_pos (by simpa using hk), List.getElem?_map, h]
    rfl
  · rfl
theorem Room.flag {w : World} {g k : Nat} {ps : List Pa} {p : Pa} {spare : List UInt8} (b : Bool) (h : Room w g ps spare) (hx : ps[k]? = some p) : Room w g (ps.set k ⟨p.r, b⟩) spare := by
  have hr := rws_set b hx
  refine ⟨by rw [contM_rws, hr, ← contM_rws]; exact h.heap, fun j q hj => ?_⟩
  have ht : ∀ n, contM (says ((ps.set k ⟨p.r, b⟩).take n)) = contM (says (ps.take n)) := by
    intro n
    rw [contM_rws, contM_rws]
    unfold rws at hr ⊢
    rw [List.map_take, hr, List.map_take]
  have hq : ∃ q', ps[j]? = some q' ∧ q'.r = q.r := by
    have h1 := congrArg (fun l => l[j]?) hr
    unfold rws at h1
    simp only [List.getElem?_map, hj, Option.map_some] at h1
    cases h2 : ps[j]? with
    | none => rw [h2] at h1; cases h1
    | some q' =>
      rw [h2] at h1
      injection h1 with h1
      exact ⟨q', rfl, h1.symm⟩
  obtain ⟨q', h1, h2⟩ := hq
  rw [ht, ← h2]
  exact h.lies j q' h1
theorem OwnR.flag {base : Nat} {w : World} {g gl k n c : Nat} {ps : List Pa} {p : Pa} (b : Bool) (h : OwnR base w (.slice (some ⟨gl, 0, none⟩) n c) g ps) (hx : ps[k]? = some p) : OwnR base (w.setCell ⟨gl, k * 2 + 1, none⟩ (.bool b)) (.slice (some ⟨gl, 0, none⟩) n c) g (ps.set k ⟨p.r, b⟩) := by
  obtain ⟨A, c', e, _, _, _⟩ := own_form h.head
  injection e with e1 e2 e3
  subst e2
  obtain ⟨h1, h2⟩ := h.head.stored (k * 2 + 1) (.bool b)
  rw [pcells_set b hx] at h1
  refine ⟨by rw [List.length_set]; exact h1, ?_, h.ne, h.le⟩
  exact (h.room.flag b hx).touch (Touch.cell1 _ _ _ _) (fun e => h.ne (by rw [← e]; rfl))
variable {nm : Value}
structure SySt (nm : Value) (w wr : World) (F g n c k : Nat) (A : Option Addr) (M : List Pt) (qs : List Pa) : Prop where
  own : OwnR w.heap.size wr (.slice A n c) g qs
  f : wr.heap[F]? = some (.cells #[.slice A n c, nm] 115 (0, 0))
  say : (says qs).take k ++ ((says qs).drop k).map (fun p => (p.1, true)) = M.map fun p => (p.1, true)
  touch : Touch (fun k => k = F) w wr
theorem SySt.step {w wr : World} {F g gl n c k : Nat} {M : List Pt} {qs : List Pa} {p : Pa} (h : SySt nm w wr F g n c k (some ⟨gl, 0, none⟩) M qs) (hx : qs[k]? = some p) (hF : F < w.heap.size) (hl : w.heap.size ≤ gl) : SySt nm w (wr.setCell ⟨gl, k * 2 + 1, none⟩ (.bool true)) F g n c (k + 1) (some ⟨gl, 0, none⟩) M (qs.set k ⟨p.r, true⟩) := by
  have hk := (List.getElem?_eq_some_iff.1 hx).1
  refine ⟨h.own.flag true hx, ?_, ?_, h.touch.setCell (p := ⟨gl, k * 2 + 1, none⟩) (Or.inl hl) _⟩
  · rw [heap_setCell_other _ _ _ _ (by show F ≠ gl; omega)]
    exact h.f
  · rw [says_set, set_take (by rw [says_len]; exact hk), set_drop, ← h.say, List.append_assoc]
    congr 1
    have hd := drop_cons (says_get (show Hid (qs[k]? = some p) from hx))
    rw [hd, List.map_cons]
    rfl
set_option maxHeartbeats 2000000 in
set_option maxRecDepth 100000 in
theorem sync_any {X : Nat → Prop} {A : Option Addr} {c F : Nat} {ps : List Pa} {w : World} (hF : w.heap[F]? = some (.cells #[.slice A ps.length c, nm] 115 (0, 0))) (hs : SmM (says ps)) (hr : PsX w X A ps) :
    Calls Tryz.prog 88 #[.pointer (some ⟨F, 0, none⟩)] w fun e w' => e = .returned (.tuple #[]) ∧ Touch (fun k => k = F) w w' ∧ ∃ v, w'.heap[F]? = some (.cells #[v, nm] 115 (0, 0)) ∧ FileV w' (XW w) v (syncM (says ps)) := by
  have hcF := bx_cell hF
  have hFl : Hid (F < w.heap.size) := (Array.getElem?_eq_some_iff.1 hF).1
  have HF := Lib.hid hF
  have Hs := Lib.hid hs
  have Hcall := Lib.hid (anew_any A c ps w hs hr)
  clear hF hs hr
  go_enter Tryz.func88, Tryz.ntmps88
  go_upto_region 2 with
    (go_at_call 95
     refine Hcall.out.mono ?_
     rintro e w2 ⟨v2, g2, qs, rfl, hO, hsay, hb2⟩
     have hF2 := Lib.hid ((hb2.block F hFl.out).trans HF.out)
     have cF2 := bx_cell hF2.out
     have zF2 := bx_frozen hF2.out
     obtain ⟨A2, c2, rfl, hc2, _, _⟩ := own_form hO.head
     have HO := Lib.hid hO
     have Hsay := Lib.hid hsay
     have Hb2 := Lib.hid hb2
     clear hO hsay hb2 hc2)
  obtain ⟨n, hn⟩ : ∃ n, Hid (qs.length = n) := ⟨_, rfl⟩
  have hnI : (n : Int) ≤ 1000 := by have := Hs.out.full.n; rw [← Hsay.out, says_len, hn.out] at this; omega
  obtain ⟨W, hW⟩ : ∃ W, Hid (w2.setCell ⟨F, 0, none⟩ (.slice A2 n c2) = W) := ⟨_, rfl⟩
  rw [hn.out, hW.out]
  have hstart : Hid (SySt nm w W F g2 n c2 0 A2 (says qs) qs) := by
    refine ⟨?_, ?_, ?_, ?_⟩
    · rw [← hW.out, ← hn.out]; exact HO.out.touch (Touch.cell1 _ _ _ _) (fun b hb => by rw [hb]; exact hFl.out)
    · rw [← hW.out]; exact bx_set _ hF2.out
    · rfl
    · rw [← hW.out]; exact (Touch.of Hb2.out).trans (Touch.cell1 _ _ _ _)
  have hcW := bx_cell hstart.out.f
  clear cF2 zF2
  go_wp2
  clear hcW
  go_loopw [18] (fun i wr => ∃ (k : Nat) (qs' : List Pa), k ≤ n ∧ i = .int .i64 (k : Int) ∧ qs'.length = n ∧ Hid (SySt nm w wr F g2 n c2 k A2 (says qs) qs')) (fun i _ => n - (intOf i).toNat)
  case atStart => exact ⟨0, qs, by omega, rfl, hn.out, hstart⟩
  case round =>
    clear hstart
    obtain ⟨k, qs', hk, rfl, hnq, hst⟩ := hrel
    have hcF := bx_cell hst.out.f
    by_cases hlt : k < n
    · have hkl : k < qs'.length := by omega
      have hx := List.getElem?_eq_getElem hkl
      obtain ⟨p, hp⟩ : ∃ p, p = qs'[k] := ⟨_, rfl⟩
      rw [← hp] at hx
      have Hx := Lib.hid hx
      have Hnq := Lib.hid hnq
      obtain ⟨gl, cap, hv, _, _⟩ := hst.out.own.head.form (by omega)
      injection hv with hv1 hv2 hv3
      subst hv1
      have hcell : wr.cell? ⟨gl, k * 2 + 1, none⟩ = some (.bool p.d) := by
        have := hst.out.own.head.cells (g := gl) rfl (k * 2 + 1) _ (pcells_get hx).2
        rwa [lit_add, Nat.zero_add] at this
      have hh := hst.out.own.head
      rw [hnq] at hh
      have hfz := hh.frozenAt (k * 2 + 1)
      clear hx hp hkl hnq hv2 hv3 hh
      go_wp2
      go_roundw
      case rel => exact ⟨k + 1, qs'.set k ⟨p.r, true⟩, by omega, by go_num, by rw [List.length_set]; exact Hnq.out, hst.out.step Hx.out hFl.out (by assumption)⟩
      case measure => simp [intOf]; omega
    · obtain rfl : k = n := by omega
      go_wp2
      go_end0
      refine ⟨rfl, hst.out.touch, _, hst.out.f, hst.out.own.file (fun b hb => hb) ?_⟩
      have h1 := hst.out.say
      rw [List.take_of_length_le (by rw [says_len]; omega), List.drop_eq_nil_of_le (by rw [says_len]; omega), List.map_nil, List.append_nil] at h1
      rw [h1, Hsay.out]
      rfl
end Go.Proofs.YtbhmnmmockmibaaGreatDoor

namespace Go.Proofs.YtbhmnmmockmibaaGreatDoor
open Go.RowKit
theorem add_zero' (a : Addr) : a.add 0 = a := by unfold Addr.add; simp
structure HoSt (base : Nat) (w wr : World) (v1 : Value) (A : Option Addr) (g n c k B : Nat) (M : List Pt) (keep : List Bool) (qs : List Pa) (Ak : Option Addr) (ck : Nat) (kk : List Bool) : Prop where
  own : OwnR base wr (.slice A n c) g qs
  v1 : v1 = .slice Ak kk.length ck
  kc : kk.length ≤ ck
  kl : kk.length ≤ 1000
  kr : RdK wr B Ak kk
  say : (says qs).take k ++ holdM ((says qs).drop k) kk = holdM M keep
  below : Below base w wr
theorem HoSt.told {base : Nat} {w wr : World} {v1 : Value} {g gl n c k B : Nat} {M : List Pt} {keep kk : List Bool} {qs : List Pa} {p : Pa} {Ak : Option Addr} {ck : Nat} {b : Bool} (h : HoSt base w wr v1 (some ⟨gl, 0, none⟩) g n c k B M keep qs Ak ck (b :: kk)) (hx : qs[k]? = some p) (hd : p.d = false) (hl : base ≤ gl) (hB : B ≤ base) (hb : base ≤ w.heap.size) :
    HoSt base w (wr.setCell ⟨gl, k * 2 + 1, none⟩ (.bool b)) (.slice (if ck = 1 then Ak else Ak.map (·.add 1)) kk.length (ck - 1)) (some ⟨gl, 0, none⟩) g n c (k + 1) B M keep (qs.set k ⟨p.r, b⟩) (if ck = 1 then Ak else Ak.map (·.add 1)) (ck - 1) kk := by
  have hk := (List.getElem?_eq_some_iff.1 hx).1
  have h1 := h.kc
  have h2 := h.kl
  simp only [List.length_cons] at h1 h2
  have hbs : Below base wr (wr.setCell ⟨gl, k * 2 + 1, none⟩ (.bool b)) := (Touch.cell1 wr gl (k * 2 + 1) _).below (Nat.le_trans hb h.below.size) (fun x hx => by rw [hx]; exact hl)
  refine ⟨h.own.flag b hx, rfl, by omega, by omega, ?_, ?_, h.below.trans hbs⟩
  · have := Reads.cut h.kr (k := 1) (cap := ck) (by simp) h.kc
    rw [Nat.mul_one] at this
    exact Reads.below this (hbs.mono hB)
  · rw [says_set, set_take (by rw [says_len]; exact hk), set_drop, ← h.say, List.append_assoc]
    congr 1
    have hdr := drop_cons (says_get (show Hid (qs[k]? = some p) from hx))
    rw [hdr, holdM_told (by rw [hd]; simp)]
    rfl
theorem HoSt.stays {base : Nat} {w wr : World} {v1 : Value} {A : Option Addr} {g n c k B : Nat} {M : List Pt} {keep kk : List Bool} {qs : List Pa} {p : Pa} {Ak : Option Addr} {ck : Nat} (h : HoSt base w wr v1 A g n c k B M keep qs Ak ck kk) (hx : qs[k]? = some p) (hd : p.d = true ∨ kk = []) : HoSt base w wr v1 A g n c (k + 1) B M keep qs Ak ck kk := by
  refine ⟨h.own, h.v1, h.kc, h.kl, h.kr, ?_, h.below⟩
  rw [take_snoc (says_get (show Hid (qs[k]? = some p) from hx)), ← h.say, List.append_assoc]
  congr 1
  have hdr := drop_cons (says_get (show Hid (qs[k]? = some p) from hx))
  rw [hdr]
  rcases hd with hd | hd
  · rw [holdM_d hd]; rfl
  · subst hd
    by_cases hp : p.d = true
    · rw [holdM_d hp]; rfl
    · rw [holdM_none hp]; rfl
theorem HoSt.drew {base : Nat} {w wr : World} {v1 : Value} {A : Option Addr} {g n c k B : Nat} {M : List Pt} {keep kk : List Bool} {qs : List Pa} {Ak : Option Addr} {ck : Nat} (h : HoSt base w wr v1 A g n c k B M keep qs Ak ck kk) : HoSt base w wr.drew v1 A g n c k B M keep qs Ak ck kk :=
  ⟨⟨h.own.head, ⟨h.own.room.heap, h.own.room.lies⟩, h.own.ne, h.own.le⟩, h.v1, h.kc, h.kl, h.kr, h.say, h.below.drew⟩
set_option maxHeartbeats 2000000 in
set_option maxRecDepth 100000 in
theorem hold_any {base B g n c ck : Nat} {A Ak : Option Addr} {qs : List Pa} {keep : List Bool} {w : World} (hown : OwnR base w (.slice A n c) g qs) (hn : qs.length = n) (hn1 : n ≤ 1000) (hB : B ≤ base) (hbase : base ≤ w.heap.size) (hkr : RdK w B Ak keep) (hkc : keep.length ≤ ck) (hkl : keep.length ≤ 1000) :
    Calls Tryz.prog 96 #[.slice A n c, .slice Ak keep.length ck] w fun e w' => e = .returned (.tuple #[]) ∧ Below base w w' ∧ ∃ qs', OwnR base w' (.slice A n c) g qs' ∧ qs'.length = n ∧ says qs' = holdM (says qs) keep := by
  have hnI : (n : Int) ≤ 1000 := by omega
  have hstart : Hid (HoSt base w w (.slice Ak keep.length ck) A g n c 0 B (says qs) keep qs Ak ck keep) := ⟨hown, rfl, hkc, hkl, hkr, rfl, .refl _ _⟩
  have HB := Lib.hid hB
  have Hbase := Lib.hid hbase
  clear hown hkr hkc hkl hB hbase hn1
  go_enter Tryz.func96, Tryz.ntmps96
  go_wp2
  go_loopw [1, 7] (fun v1 i wr => ∃ (k : Nat) (qs' : List Pa) (Ak' : Option Addr) (ck' : Nat) (kk : List Bool), k ≤ n ∧ i = .int .i64 (k : Int) ∧ qs'.length = n ∧ Hid (HoSt base w wr v1 A g n c k B (says qs) keep qs' Ak' ck' kk)) (fun _ i _ => n - (intOf i).toNat)
  case atStart => exact ⟨0, qs, Ak, ck, keep, by omega, rfl, hn, hstart⟩
  case round =>
    clear hstart
    obtain ⟨k, qs', Ak', ck', kk, hk, rfl, hnq, hst⟩ := hrel
    have hv1 := hst.out.v1
    subst hv1
    have hkcI : (kk.length : Int) ≤ (ck' : Int) := by have := hst.out.kc; omega
    have hklI : (kk.length : Int) ≤ 1000 := by have := hst.out.kl; omega
    by_cases hlt : k < n
    · have hkl : k < qs'.length := by omega
      have hx := List.getElem?_eq_getElem hkl
      obtain ⟨p, hp⟩ : ∃ p, p = qs'[k] := ⟨_, rfl⟩
      rw [← hp] at hx
      have Hx := Lib.hid hx
      have Hnq := Lib.hid hnq
      obtain ⟨gl, cap, hv, hgl, _⟩ := hst.out.own.head.form (by omega)
      injection hv with hv1 hv2 hv3
      subst hv1
      have Hgl := Lib.hid hgl
      have hcell : wr.cell? ⟨gl, k * 2 + 1, none⟩ = some (.bool p.d) := by
        have := hst.out.own.head.cells (g := gl) rfl (k * 2 + 1) _ (pcells_get hx).2
        rwa [lit_add, Nat.zero_add] at this
      have hh := hst.out.own.head
      rw [hnq] at hh
      have hfz := hh.frozenAt (k * 2 + 1)
      clear hx hp hkl hnq hv2 hv3 hh
      obtain ⟨pr, pd⟩ := p
      simp only at hcell
      cases pd with
      | true =>
        have Hst' := Lib.hid (hst.out.stays Hx.out (.inl rfl))
        go_wp2
        go_roundw
        case rel => exact ⟨k + 1, qs', Ak', ck', kk, by omega, by go_num, Hnq.out, Hst'.out⟩
        case measure => simp [intOf]; omega
      | false =>
        cases kk with
        | nil =>
          have Hst' := Lib.hid (hst.out.stays Hx.out (.inr rfl))
          go_wp2
          go_roundw
          case rel => exact ⟨k + 1, qs', Ak', ck', [], by omega, by go_num, Hnq.out, Hst'.out⟩
          case measure => simp [intOf]; omega
        | cons b kk =>
          obtain ⟨adk, b', rfl, habk, hck, hkx⟩ := RdK.at_ hst.out.kr (k := 0) (by simp)
          have hb' : b' = b := by have := hkx.out; simp at this; exact this.symm
          subst hb'
          rw [add_zero'] at hck
          obtain ⟨kn, hkn⟩ : ∃ kn, Hid (kk.length = kn) := ⟨_, rfl⟩
          obtain ⟨K, hK⟩ : ∃ K, Hid ((b' :: kk).length = K) := ⟨_, rfl⟩
          have hKn : Hid (K - 1 = kn) := by rw [← hK.out, ← hkn.out]; show _ = _; simp
          have Hst' := Lib.hid (hst.out.told Hx.out rfl Hgl.out HB.out Hbase.out)
          rw [hkn.out, ← hKn.out] at Hst'
          rw [hK.out] at hkcI hklI ⊢
          have hK1 : (1 : Int) ≤ (K : Int) := by rw [← hK.out, List.length_cons]; omega
          have hK0 : (0 : Int) < (K : Int) := by omega
          clear hst hkn hKn
          go_wp2
          have hK1n : 1 ≤ K := by omega
          have hc1 : (1 : Int) ≤ (ck' : Int) := by omega
          go_region
          have e1 : (if ck' = 1 then some adk else some ⟨adk.block, adk.off + 1, none⟩ : Option Addr) = (if ck' = 1 then some adk else Option.map (fun x => x.add 1) (some adk)) := by rfl
          rw [e1]
          go_wp2
          go_roundw
          case rel => exact ⟨k + 1, qs'.set k ⟨pr, b'⟩, _, _, kk, by omega, by go_num, by rw [List.length_set]; exact Hnq.out, Hst'.out.drew⟩
          case measure => simp [intOf]; omega
    · obtain rfl : k = n := by omega
      go_wp2
      go_end0
      refine ⟨rfl, hst.out.below, qs', hst.out.own, hnq, ?_⟩
      have h1 := hst.out.say
      rw [List.take_of_length_le (by rw [says_len]; omega), List.drop_eq_nil_of_le (by rw [says_len]; omega)] at h1
      rw [← h1, holdM, List.append_nil]
end Go.Proofs.YtbhmnmmockmibaaGreatDoor
