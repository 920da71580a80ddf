/- The walks of end, and of the reference's Bytes and Volatile. Conditions: files of at most 1000 parts of 100000 bytes. The walks of the reference's Bytes and put. Conditions: files of at most 1000 parts of 100000 bytes. Lists of parts of the call's own; single operations over files. -/
import Derived.Test.YtbhmnmmockmibaaGreatKpExB
import Derived.Test.YtbhmnmmockmibaaGreatKpFull
import Derived.Deep.CutRange
namespace Go.Proofs.YtbhmnmmockmibaaGreat
open Go.RowKit
set_option maxHeartbeats 1000000 in
set_option maxRecDepth 100000 in
theorem end_any {X : Nat → Prop} (A : Option Addr) (c : Nat) (ps : List Pa) (w : World) (hs : SmM (says ps)) (hr : PsX w X A ps) :
    Calls Tryz.prog 100 #[.slice A ps.length c] w fun e w' => e = .returned (.int .i64 ((endM (says ps) : Nat) : Int)) ∧ w' = w := by
  have hlen : (ps.length : Int) ≤ 1000 := by have := hs.n; rw [says_len] at this; omega
  have Hs := Lib.hid hs
  clear hs
  go_enter Tryz.func100, Tryz.ntmps100
  go_wp2
  go_step3
  go_wp2
  go_step3
  go_wp2
  go_loopw [3] (fun i wr => ∃ k : Nat, k ≤ ps.length ∧ i = .int .i64 (k : Int) ∧ wr = w ∧ Hid (endM ((says ps).take k) = endM (says ps))) (fun i _ => (intOf i).toNat)
  case atStart => exact ⟨ps.length, by omega, rfl, rfl, by show _ = _; rw [← says_len, List.take_length]⟩
  case round =>
    obtain ⟨k, hk, rfl, rfl, hT⟩ := hrel
    cases k with
    | zero =>
      go_wp2
      rw [Exit.noGoto_ret]
      go_ret
      exact ⟨ret_nat (endM_zero hT.out).symm, rfl⟩
    | succ j =>
      obtain ⟨ad, p, rfl, _, _, hc1, hc2, hx, hrow⟩ := hr.at_ (k := j) (by omega)
      obtain ⟨pr, pd⟩ := p
      have hsg := Lib.hid (says_get hx)
      simp only at hc1 hc2
      have e1 : ((j + 1 : Nat) : Int) - 1 = (j : Int) := by omega
      have e2 : (((j + 1 : Nat) : Int) == 0) = false := by rw [beq_eq_false_iff_ne]; omega
      have hjI : (j : Int) < (ps.length : Int) := by omega
      have hjn : j < ps.length := by omega
      cases pd with
      | true =>
        have hv := Lib.hid (endM_here hT.out hsg.out rfl)
        go_wp2
        go_ret
        exact ⟨ret_nat hv.out.symm, rfl⟩
      | false =>
        have hv := Lib.hid (endM_back hT.out hsg.out rfl)
        go_wp2
        go_roundw
        case rel => exact ⟨j, by omega, by first | rfl | trivial, by first | rfl | trivial, hv⟩
        case measure => simp [intOf]
set_option maxHeartbeats 1000000 in
set_option maxRecDepth 100000 in
theorem rown_any (A : Option Addr) (c B : Nat) (l : List UInt8) (w : World) (hl : l.length ≤ 140737488351232) (hr : RdB w B A l) :
    Calls Tryz.prog 121 #[.slice A l.length c] w fun e w' => ∃ v, e = .returned v ∧ w'.ownsRow w.heap.size 5 1 v l.length (bs l) ∧ Below w.heap.size w w' := by
  have Hl := Lib.hid hl
  clear hl
  go_enter Tryz.func121, Tryz.ntmps121
  go_wp2_with (at_builtin; refine push_row (.tmp 4) (.tmp 5) (l := []) (World.ownsRow_nil w w.heap.size 5 1) (Nat.le_refl _) hr (by have := Hl.out; simp; omega) rfl rfl rfl rfl ?_; intro v1 w1 hown1 hb1 hbs1 hg1)
  go_ret
  exact ⟨_, rfl, hown1, hb1⟩
set_option maxHeartbeats 1000000 in
set_option maxRecDepth 100000 in
theorem rvol_any {X : Nat → Prop} (A : Option Addr) (c : Nat) (ps : List Pa) (w : World) (hs : SmM (says ps)) (hr : PsX w X A ps) :
    Calls Tryz.prog 67 #[.agg #[.slice A ps.length c]] w fun e w' => e = .returned (.int .i64 ((volM (says ps) : Nat) : Int)) ∧ Below w.heap.size w w' := by
  have hlen : (ps.length : Int) ≤ 1000 := by have := hs.n; rw [says_len] at this; omega
  have Hs := Lib.hid hs
  have hb0 := below_new w (.cells #[.slice A ps.length c] 137)
  have hrI := Lib.hid (hr.below hb0)
  have hcell : (w.alloc (.cells #[.slice A ps.length c] 137)).cell? ⟨w.heap.size, 0, none⟩ = some (.slice A ps.length c) := by
    rw [cell_of_row _ _ 0 _ _ _ (heap_alloc_new w _)]; rfl
  have Hb0 := Lib.hid hb0
  have Hcell := Lib.hid hcell
  clear hs hr hcell hb0
  go_enter Tryz.func67, Tryz.ntmps67
  go_wp2
  go_loopw [3, 4] (fun s i wr => ∃ (k T : Nat), k ≤ ps.length ∧ i = .int .i64 (k : Int) ∧ s = .int .i64 (T : Int) ∧ Hid (T = volM (says (ps.take k))) ∧ wr = w.alloc (.cells #[.slice A ps.length c] 137)) (fun _ i _ => ps.length - (intOf i).toNat)
  case atStart => exact ⟨0, 0, by omega, rfl, rfl, by exact rfl, rfl⟩
  case round =>
    obtain ⟨k, T, hk, rfl, rfl, hT, hw⟩ := hrel
    have hTI : (T : Int) ≤ 1000 := by
      have h1 := volM_le (says (ps.take k))
      rw [← hT.out, says_len, List.length_take] at h1
      omega
    have hcl := Hcell.out
    rw [← hw] at hcl
    by_cases hlt : k < ps.length
    · have hrr := hrI.out
      rw [← hw] at hrr
      obtain ⟨ad, p, rfl, _, _, hc1, hc2, hx, hrow⟩ := hrr.at_ hlt
      have hll : (p.r.l.length : Int) ≤ 100000 := by have := Hs.out.at_ hx; omega
      have hv := Lib.hid (volM_snoc hx)
      obtain ⟨⟨pA, pc, pl⟩, pd⟩ := p
      simp only at hc1 hc2 hll
      have Hw := Lib.hid hw
      clear hw hrr hrow
      by_cases hp : pl.length = 0
      · have hpe : pl = [] := List.eq_nil_of_length_eq_zero hp
        subst hpe
        go_wp2
        go_roundw
        case rel => exact ⟨k + 1, T, by omega, by go_num, rfl, by show _ = _; rw [hv.out, ← hT.out]; simp, Hw.out⟩
        case measure => simp [intOf]; omega
      · have hp' : (0 : Int) < (pl.length : Int) := by omega
        have hp2 : 0 < pl.length := by omega
        have Hp := Lib.hid hp
        clear hp
        cases pd with
        | true =>
          go_wp2
          go_roundw
          case rel => exact ⟨k + 1, T, by omega, by go_num, rfl, by show _ = _; rw [hv.out, ← hT.out]; simp, Hw.out⟩
          case measure => simp [intOf]; omega
        | false =>
          go_wp2
          go_roundw
          case rel => exact ⟨k + 1, T + 1, by omega, by go_num, by go_num, by show _ = _; rw [hv.out, ← hT.out]; have := Hp.out; cases pl <;> simp_all, Hw.out⟩
          case measure => simp [intOf]; omega
    · obtain rfl : k = ps.length := by omega
      have Hw := Lib.hid hw
      clear hw
      go_wp2
      go_ret
      exact ⟨ret_nat (by rw [hT.out, List.take_length]), by rw [Hw.out]; exact Hb0.out⟩
end Go.Proofs.YtbhmnmmockmibaaGreat

namespace Go.Proofs.YtbhmnmmockmibaaGreat
open Go.RowKit
set_option maxHeartbeats 1000000 in
set_option maxRecDepth 100000 in
theorem rbytes_any {X : Nat → Prop} (A : Option Addr) (c : Nat) (ps : List Pa) (w : World) (hs : SmM (says ps)) (hr : PsX w X A ps) :
    Calls Tryz.prog 87 #[.agg #[.slice A ps.length c]] w fun e w' => ∃ v, e = .returned v ∧ w'.ownsRow w.heap.size 5 1 v (contM (says ps)).length (bs (contM (says ps))) ∧ Below w.heap.size w w' := by
  have hlen : (ps.length : Int) ≤ 1000 := by have := hs.n; rw [says_len] at this; omega
  have Hs := Lib.hid hs
  obtain ⟨W, hW⟩ : ∃ W, Hid (w.alloc (.cells #[.slice A ps.length c] 137) = W) := ⟨_, rfl⟩
  have hbW : Hid (Below w.heap.size w W) := by rw [← hW.out]; exact below_new _ _
  have hcW : Hid (W.cell? ⟨w.heap.size, 0, none⟩ = some (.slice A ps.length c)) := by
    rw [← hW.out]
    show _ = _
    rw [cell_of_row _ _ 0 _ _ _ (heap_alloc_new w _)]; rfl
  have hsW : Hid (W.heap.size = w.heap.size + 1) := by rw [← hW.out]; show _ = _; simp
  have hrW : Hid (PsX W X A ps) := hr.below hbW.out
  clear hs hr
  go_enter Tryz.func87, Tryz.ntmps87
  go_upto_region 1 with fail
  rw [hW.out]
  go_wp2
  go_loopw [3, 4] (fun v i wr => ∃ k : Nat, k ≤ ps.length ∧ i = .int .i64 (k : Int) ∧ wr.ownsRow W.heap.size 5 1 v (contM (says (ps.take k))).length (bs (contM (says (ps.take k)))) ∧ Below W.heap.size W wr) (fun _ i _ => ps.length - (intOf i).toNat)
  case atStart => exact ⟨0, by omega, rfl, World.ownsRow_nil _ _ _ _, .refl _ _⟩
  case round =>
    obtain ⟨k, hk, rfl, hown, hb⟩ := hrel
    obtain ⟨wo, hwo⟩ : ∃ wo : World, wo = wr := ⟨_, rfl⟩
    subst hwo
    have hcl := (hb.cell (p := ⟨w.heap.size, 0, none⟩) (by rw [hsW.out]; show w.heap.size < _; omega)).trans hcW.out
    by_cases hlt : k < ps.length
    · obtain ⟨ad, p, rfl, _, _, hc1, hc2, hx, hrow⟩ := (hrW.out.below hb).at_ hlt
      have Hll := Lib.hid (Hs.out.at_ hx)
      have hll : (p.r.l.length : Int) ≤ 100000 := by have := Hll.out; omega
      have Hle := Lib.hid (contM_le Hs.out k)
      rw [← says_take] at Hle
      have hlt2 := Lib.hid hown.lt
      obtain ⟨D, hD⟩ : ∃ D, Hid (contM (says (ps.take k)) = D) := ⟨_, rfl⟩
      rw [hD.out] at hown Hle
      have Hrow := Lib.hid hrow
      have Hb := Lib.hid hb
      have Hx := Lib.hid hx
      have hcA := hc1
      have HcA := Lib.hid hcA
      have Hcl := Lib.hid hcl
      clear hrow hcA hx hc1 hc2 hb hcl
      have hat0 : ∃ j n : Nat, j ≤ p.r.l.length ∧ Value.int .i64 0 = .int .i64 (j : Int) ∧ wo.ownsRow W.heap.size 5 1 (.slice none 0 0) 0 [] := ⟨0, 0, by omega, rfl, World.ownsRow_nil _ _ _ _⟩
      clear hat0
      have hcl := Hcl.out
      go_upto_region 6 with fail
      go_loopw [3, 5] (fun v i wr => ∃ j : Nat, j ≤ p.r.l.length ∧ i = .int .i64 (j : Int) ∧ wr.ownsRow W.heap.size 5 1 v (D ++ p.r.l.take j).length (bs (D ++ p.r.l.take j)) ∧ Below W.heap.size W wr) (fun _ i _ => p.r.l.length - (intOf i).toNat)
      case atStart => exact ⟨0, by omega, rfl, by simpa using hown, Hb.out⟩
      case round =>
        clear hown hcl
        obtain ⟨j, hj, rfl, hown, hb⟩ := hrel
        have hcl := (hb.cell (p := ⟨w.heap.size, 0, none⟩) (by rw [hsW.out]; show w.heap.size < _; omega)).trans hcW.out
        obtain ⟨ad2, p2, he, _, _, hc1, hc2, hx, hrow⟩ := (hrW.out.below hb).at_ hlt
        injection he with he
        subst he
        have hpp : p2 = p := by
          have h1 := hx.out
          rw [Hx.out.out] at h1
          injection h1 with h1
          exact h1.symm
        subst hpp
        by_cases hltj : j < p2.r.l.length
        · obtain ⟨ad3, x, hA3, _, hcx, hxx⟩ := RdB.at_ hrow.reads hltj
          rw [hA3] at hc1
          have Hpl := Lib.hid (show (D ++ p2.r.l.take j).length ≤ 140737488355327 by rw [List.length_append, List.length_take]; have := Hle.out; have := Hll.out; omega)
          have hjI : (j : Int) < (p2.r.l.length : Int) := by omega
          have Hown := Lib.hid hown
          have hbz := hb.size
          clear hown hrow
          go_wp2_with
            (at_builtin
             refine push_byteK (.tmp 24) (.tmp 34) _ x Hown.out hbz Hpl.out rfl rfl rfl rfl rfl rfl ?_
             intro v1 w1 hown1 hb1 hbs1 _ _)
          go_roundw
          case rel => exact ⟨j + 1, by omega, by go_num, by rw [take_snoc hxx, ← List.append_assoc]; exact hown1, hb.trans hb1⟩
          case measure => simp [intOf]; omega
        · obtain rfl : j = p2.r.l.length := by omega
          rw [List.take_length] at hown
          have hown' := Lib.hid hown
          clear hown
          go_wp2
          go_roundw
          case rel => exact ⟨k + 1, by omega, by go_num, by rw [contM_snoc hx, hD.out]; exact hown'.out, hb⟩
          case measure => simp [intOf]; omega
    · obtain rfl : k = ps.length := by omega
      rw [List.take_length] at hown
      go_wp2
      go_ret
      exact ⟨_, rfl, own_mono hown (by rw [hsW.out]; omega), hbW.out.trans (hb.mono hbW.out.size)⟩
end Go.Proofs.YtbhmnmmockmibaaGreat

namespace Go.Proofs.YtbhmnmmockmibaaGreat
open Go.RowKit
def PtSl (t e : TypeId) : Prop := Tryz.prog.underlying t = some (.slice e) ∧ (Tryz.prog.info? e).map (fun i => (i.zero, i.size, i.bytes)) = some (some (.agg #[.slice none 0 0, .bool false]), 2, 32)
theorem ptSl1 : PtSl 125 180 := ⟨Tryz.underlying125, by kernel_rfl⟩
theorem ptSl2 : PtSl 135 187 := ⟨Tryz.underlying135, by kernel_rfl⟩
def XB (X : Nat → Prop) (v : Value) : Nat → Prop := fun b => X b ∨ v.ownBlock = some b
structure OwnP (e : TypeId) (base : Nat) (X : Nat → Prop) (w : World) (v : Value) (ps : List Pa) : Prop where
  head : w.ownsRow base e 2 v ps.length (pcells ps)
  row : ∀ p ∈ ps, BsX w (XB X v) p.r.A p.r.l
theorem OwnP.nil (e : TypeId) (base : Nat) (X : Nat → Prop) (w : World) : OwnP e base X w (.slice none 0 0) [] := ⟨World.ownsRow_nil _ _ _ _, by simp⟩
theorem OwnP.keep {e : TypeId} {base : Nat} {X : Nat → Prop} {w w' : World} {v : Value} {ps : List Pa} (h : OwnP e base X w v ps) (ht : Below w.heap.size w w') : OwnP e base X w' v ps :=
  ⟨own_below h.head ht (Nat.le_refl _), fun p hp => (h.row p hp).below ht⟩
theorem own_touch {X : Nat → Prop} {base : Nat} {w w' : World} {e : TypeId} {size n : Nat} {v : Value} {xs : List Value} (h : w.ownsRow base e size v n xs) (ht : Touch X w w') (hx : ∀ b, v.ownBlock = some b → ¬ X b) : w'.ownsRow base e size v n xs := by
  refine ⟨h.1, ?_⟩
  rcases h.2 with hn | ⟨g, cap, cur, rfl, hb, hgg, rest⟩
  · exact .inl hn
  · refine .inr ⟨g, cap, cur, rfl, hb, ?_, rest⟩
    exact ht.heap (hx g rfl) hgg
theorem OwnP.reads {e : TypeId} {base : Nat} {X : Nat → Prop} {w : World} {v : Value} {ps : List Pa} (h : OwnP e base X w v ps) (hX : ∀ b, X b → b < base) : ∃ A c, v = .slice A ps.length c ∧ ps.length ≤ c ∧ PsX w X A ps := by
  obtain ⟨A, c, rfl, hc, _, hr⟩ := own_form h.head
  refine ⟨A, c, rfl, hc, ⟨hr.1, fun hn => ?_⟩, fun p hp => (h.row p hp).mono (fun b _ hb => Or.inl hb)⟩
  obtain ⟨ad, e', hb, hcell⟩ := hr.2 hn
  refine ⟨ad, e', hb, fun hx => ?_, hcell⟩
  have h1 := (h.head.lt ad.block (by rw [e']; rfl)).1
  have := hX _ hx
  omega
section
variable {ops : Array Oper} {rest : List Oper} {o : Oper} {a : Act} {Q : Exit → Act → World → Prop} {w : World} {base : Nat} {v : Value} {X : Nat → Prop}
theorem push_ps {t e : TypeId} (ht : PtSl t e) (s x : Operand) {own new : List Pa} {B n c : Nat} {A : Option Addr} (hn : new.length = n) (hown : OwnP e base X w v own) (hbase : base ≤ w.heap.size)
    (hr : Reads w B 2 A n (pcells new)) (hrow : ∀ p ∈ new, BsX w (XB X v) p.r.A p.r.l) (hl : own.length + n ≤ 1099511627776)
    (hgd : o.guard = none) (ho : o.op = .call { callee := .builtin .append, args := #[s, x], argTypes := #[t, t] })
    (hs : a.eval s = v) (hx : a.eval x = .slice A n c)
    (h : ∀ v' w', OwnP e base X w' v' (own ++ new) → Below base w w' → w.heap.size ≤ w'.heap.size → w.grownBy w' v.ownBlock → (v'.ownBlock = v.ownBlock ∨ v'.ownBlock = some w.heap.size) → wpList Tryz.prog ops Q rest (a.put o.dst v') w') :
    wpList Tryz.prog ops Q (o :: rest) a w := by
  subst hn
  obtain ⟨hu, hi⟩ := ht
  obtain ⟨i0, hi0, hz0, hz1, hz2⟩ := info_parts hi
  refine wpList_append_any _ hgd s x t ho base e i0 _ 2 32 hu hi0 hz0 hz1 hz2 rfl (by omega) v _ _ hs hown.head B A new.length c (pcells new) hx hr (pcells_one _) (by simp only [maxLen]; omega) (by omega) hbase ?_
  intro v1 w1 h1 h2 h3
  have hb := grown_below hown.head h2 hbase
  refine h v1 w1 ⟨?_, ?_⟩ hb h2.size h2 h3
  · rw [pcells_append, List.length_append]
    exact h1
  · intro p hp
    have h0 : BsX w (XB X v) p.r.A p.r.l := by
      rw [List.mem_append] at hp
      exact hp.elim (hown.row p) (hrow p)
    have ht : Touch (XB X v) w w1 := Touch.grown h2 fun k hk => Or.inr hk
    have h4 := h0.keep ht
    refine ⟨h4.1, fun hn => ?_⟩
    obtain ⟨ad, e, hlt, hx0, hc⟩ := h0.2 hn
    obtain ⟨ad', e', hlt', hx', hc'⟩ := h4.2 hn
    refine ⟨ad', e', hlt', ?_, hc'⟩
    rw [e] at e'
    injection e' with e'
    subst e'
    rintro (hx1 | hx1)
    · exact hx0 (Or.inl hx1)
    · rcases h3 with h3 | h3
      · rw [h3] at hx1; exact hx0 (Or.inr hx1)
      · rw [h3] at hx1
        injection hx1 with hx1
        omega
end
theorem OwnP.touch {e : TypeId} {base : Nat} {X : Nat → Prop} {w w' : World} {v : Value} {ps : List Pa} (h : OwnP e base X w v ps) (hX : ∀ b, X b → b < base) (ht : Touch X w w') : OwnP e base X w' v ps :=
  ⟨own_touch h.head ht fun b hb hx => by have := (h.head.lt b hb).1; have := hX b hx; omega, fun p hp => (h.row p hp).keep (ht.mono fun _ _ hb => Or.inl hb)⟩
theorem OwnP.mono {e : TypeId} {base base' : Nat} {X Y : Nat → Prop} {w : World} {v : Value} {ps : List Pa} (h : OwnP e base X w v ps) (hb : base' ≤ base) (hx : ∀ b, b < w.heap.size → Y b → X b) : OwnP e base' Y w v ps :=
  ⟨own_mono h.head hb, fun p hp => (h.row p hp).mono fun b hb hy => hy.elim (fun hy => Or.inl (hx b hb hy)) Or.inr⟩
def FileV (w : World) (X : Nat → Prop) (v : Value) (m : List Pt) : Prop := ∃ A c ps, v = .slice A (List.length ps) c ∧ ps.length ≤ c ∧ PsX w X A ps ∧ says ps = m
theorem FileV.keep {w w' : World} {X : Nat → Prop} {v : Value} {m : List Pt} (h : FileV w X v m) (ht : Touch X w w') : FileV w' X v m := by
  obtain ⟨A, c, ps, e, hc, hp, hs⟩ := h
  exact ⟨A, c, ps, e, hc, hp.keep ht, hs⟩
theorem FileV.below {w w' : World} {X : Nat → Prop} {v : Value} {m : List Pt} (h : FileV w X v m) (ht : Below w.heap.size w w') : FileV w' X v m := h.keep (.of ht)
theorem FileV.mono {w : World} {X Y : Nat → Prop} {v : Value} {m : List Pt} (h : FileV w X v m) (hx : ∀ b, b < w.heap.size → Y b → X b) : FileV w Y v m := by
  obtain ⟨A, c, ps, e, hc, hp, hs⟩ := h
  exact ⟨A, c, ps, e, hc, hp.mono hx, hs⟩
theorem FileV.nil (w : World) (X : Nat → Prop) : FileV w X (.slice none 0 0) [] := ⟨none, 0, [], rfl, Nat.le_refl _, PsX.nil, rfl⟩
theorem OwnP.file {e : TypeId} {base : Nat} {X : Nat → Prop} {w : World} {v : Value} {ps : List Pa} {m : List Pt} (h : OwnP e base X w v ps) (hX : ∀ b, X b → b < base) (hm : says ps = m) : FileV w X v m := by
  obtain ⟨A, c, e, hc, hp⟩ := h.reads hX
  exact ⟨A, c, ps, e, hc, hp, hm⟩
section
variable {ops : Array Oper} {rest : List Oper} {o : Oper} {a : Act} {Q : Exit → Act → World → Prop} {w : World} {base : Nat} {v : Value} {X : Nat → Prop}
theorem ps_new (w : World) (t : TypeId) (ps : List Pa) : Reads (w.alloc (.cells (pcells ps).toArray t)) (w.heap.size + 1) 2 (some ⟨w.heap.size, 0, none⟩) ps.length (pcells ps) := by
  refine ⟨pcells_len ps, fun _ => ⟨_, rfl, by simp, fun j u hu => ?_⟩⟩
  have hadd : (⟨w.heap.size, 0, none⟩ : Addr).add j = ⟨w.heap.size, j, none⟩ := by unfold Addr.add; split <;> simp_all
  rw [hadd, cell_of_row (w.alloc (.cells (pcells ps).toArray t)) w.heap.size j (pcells ps).toArray t (0, 0) (heap_alloc_new w _)]
  simpa using hu
theorem push_pa {t e : TypeId} (ht : PtSl t e) {N : Nat} (s x : Operand) {own : List Pa} (p : Pa) {A : Option Addr} {n c : Nat} {d : Bool} (hp : p.cs = [.slice A n c, .bool d]) (hown : OwnP e base X w v own) (hbase : base ≤ w.heap.size)
    (hrow : BsX w (XB X v) p.r.A p.r.l) (hl : own.length ≤ 1099511627)
    (hgd : o.guard = none) (ho : o.op = .call { callee := .builtin .append, args := #[s, x], argTypes := #[t, t] })
    (hs : a.eval s = v) (hx : a.eval x = .slice (some ⟨N, 0, none⟩) 1 1) (hN : w.heap.size = N)
    (h : ∀ v' w', OwnP e base X w' v' (own ++ [p]) → Below base w w' → w.heap.size ≤ w'.heap.size → Kept v v' w w' → wpList Tryz.prog ops Q rest (a.put o.dst v') w') :
    wpList Tryz.prog ops Q (o :: rest) a (w.alloc (.cells #[.slice A n c, .bool d] e)) := by
  subst hN
  have hb0 := below_new w (.cells (pcells [p]).toArray e)
  have e0 : w.alloc (.cells #[.slice A n c, .bool d] e) = w.alloc (.cells (pcells [p]).toArray e) := by
    unfold pcells
    rw [List.flatMap_cons, List.flatMap_nil, List.append_nil, hp]
  rw [e0]
  refine push_ps ht s x (own := own) (new := [p]) (B := w.heap.size + 1) (c := 1) (n := 1) rfl (hown.keep hb0) (Nat.le_trans hbase hb0.size) (ps_new w e [p]) (fun q hq => by rw [List.mem_singleton] at hq; rw [hq]; exact hrow.below hb0) (by omega) hgd ho hs hx ?_
  intro v1 w1 h1 h2 h3 h4 h5
  exact h v1 w1 h1 ((hb0.mono hbase).trans h2) (Nat.le_trans hb0.size h3) (Kept.alloc (Kept.of h4 h5))
def kc (l : List Bool) : List Value := l.map Value.bool
theorem kc_len (l : List Bool) : (kc l).length = l.length := by simp [kc]
theorem kc_one (l : List Bool) : ∀ u ∈ kc l, u.oneCell' = true := by
  intro u hu
  unfold kc at hu
  rw [List.mem_map] at hu
  obtain ⟨b, _, rfl⟩ := hu
  rfl
abbrev RdK (w : World) (B : Nat) (A : Option Addr) (l : List Bool) : Prop := Reads w B 1 A l.length (kc l)
theorem RdK.at_ {w : World} {B : Nat} {A : Option Addr} {l : List Bool} {k : Nat} (h : RdK w B A l) (hk : k < l.length) :
    ∃ (ad : Addr) (x : Bool), A = some ad ∧ ad.block < B ∧ w.cell? (ad.add k) = some (.bool x) ∧ Hid (l[k]? = some x) := by
  obtain ⟨ad, u, e, hb, hx, hc⟩ := Reads.at_ h hk
  have hr : l[k]? = some l[k] := List.getElem?_eq_getElem hk
  unfold kc at hx
  rw [List.getElem?_map, hr] at hx
  injection hx with hx
  subst hx
  exact ⟨ad, _, e, hb, hc, hr⟩
theorem info_bool : (Tryz.prog.info? 4).map (fun i => (i.zero, i.size, i.bytes)) = some (some (.bool false), 1, 1) := by kernel_rfl
theorem push_bool {N : Nat} (s x : Operand) {l : List Bool} (b : Bool) (hown : w.ownsRow base 4 1 v l.length (kc l)) (hbase : base ≤ w.heap.size) (hl : l.length ≤ 1099511627)
    (hgd : o.guard = none) (ho : o.op = .call { callee := .builtin .append, args := #[s, x], argTypes := #[41, 41] })
    (hs : a.eval s = v) (hx : a.eval x = .slice (some ⟨N, 0, none⟩) 1 1) (hN : w.heap.size = N)
    (h : ∀ v' w', w'.ownsRow base 4 1 v' (l ++ [b]).length (kc (l ++ [b])) → Below base w w' → w.heap.size ≤ w'.heap.size → Kept v v' w w' → wpList Tryz.prog ops Q rest (a.put o.dst v') w') :
    wpList Tryz.prog ops Q (o :: rest) a (w.alloc (.cells #[.bool b] 4)) := by
  subst hN
  obtain ⟨i0, hi0, hz0, hz1, hz2⟩ := info_parts info_bool
  have hb0 := below_new w (.cells #[.bool b] 4)
  have hnew := reads_new w 4 (kc [b])
  refine wpList_append_any _ hgd s x _ ho base 4 i0 _ 1 1 Tryz.underlying41 hi0 hz0 hz1 hz2 rfl (by omega) v _ _ hs (hown.alloc _) (w.heap.size + 1) _ 1 1 (kc [b]) hx hnew (kc_one _) (by simp only [maxLen]; omega) (by omega) (Nat.le_trans hbase hb0.size) ?_
  intro v1 w1 h1 h2 h3
  have hb := grown_below (hown.alloc (.cells #[.bool b] 4)) h2 (Nat.le_trans hbase hb0.size)
  refine h v1 w1 ?_ ((hb0.mono hbase).trans hb) (Nat.le_trans hb0.size h2.size) (Kept.alloc (Kept.of h2 h3))
  rw [List.length_append, show kc (l ++ [b]) = kc l ++ kc [b] by simp [kc]]
  exact h1
end
theorem box_set {w : World} {g : Nat} {v : Value} {t : TypeId} (u : Value) (h : w.heap[g]? = some (.cells #[v] t (0, 0))) : (w.setCell ⟨g, 0, none⟩ u).heap[g]? = some (.cells #[u] t (0, 0)) := by
  rw [heap_setCell_same w g 0 #[v] t u h]
  rfl
theorem box_cell {w : World} {g : Nat} {v : Value} {t : TypeId} (h : w.heap[g]? = some (.cells #[v] t (0, 0))) : w.cell? ⟨g, 0, none⟩ = some v := by
  rw [cell_of_row w g 0 _ _ _ h]
  rfl
theorem box_frozen {w : World} {g : Nat} {v : Value} {t : TypeId} (h : w.heap[g]? = some (.cells #[v] t (0, 0))) : w.frozen? ⟨g, 0, none⟩ = false := by
  simp [World.frozen?, h]
theorem Touch.cell1 (w : World) (g i : Nat) (u : Value) : Touch (fun k => k = g) w (w.setCell ⟨g, i, none⟩ u) := Touch.setCell (X := fun k => k = g) (Touch.refl _ _) (p := ⟨g, i, none⟩) (Or.inr rfl) u
theorem Touch.row1 (w : World) (g : Nat) (cs : Array Value) : Touch (fun k => k = g) w (w.setRow g cs) := Touch.setRow (X := fun k => k = g) (Touch.refl _ _) (Or.inr rfl) cs
theorem size_file2 : (Tryz.prog.info? 137).map (·.size) = some 1 := by kernel_rfl
theorem ret_file2 {fn : Func} {R : Ending → World → Prop} {p : Tmp} (h : fn.results = #[.cell p 137]) {a : Act} {w : World} {g : Nat} {v : Value} {t : TypeId}
    (hp : a.tmps.getD p undef = .pointer (some ⟨g, 0, none⟩)) (hg : w.heap[g]? = some (.cells #[v] t (0, 0))) (hd : a.defers = []) (hR : R (.returned (.agg #[v])) w) : bodyPost Tryz.prog fn R .ret a w := by
  refine bodyPost_ret (v := .agg #[v]) ?_ hd hR
  have hp' : a.tmps[p]?.getD undef = .pointer (some ⟨g, 0, none⟩) := by simpa using hp
  have hl := run_loadVar_row w g t _ _ (0, 0) _ hg Tryz.underlying137 rfl size_file2
  simp [results, h, hp', asAddr, hl]
section
variable {b : Act} {w : World} {o : Oper}
theorem exec_call3 {P : Program} {f : FuncId} {x y z : Operand} {t u s : TypeId} {v v' v'' : Value} (hf : ∀ args, (callFunc f args).run P w = .ok (.enter f args) w) (ho : o.op = .call { callee := .value (.func f), args := #[x, y, z], argTypes := #[t, u, s] }) (h : b.eval x = v) (h' : b.eval y = v') (h'' : b.eval z = v'') : (execOp b.eval o).run P w = .ok (.enter f #[v, v', v'']) w := by
  subst h h' h''
  unfold execOp
  simp only [ho]
  go_simp
theorem exec_fieldF {x : Operand} {a : Addr} (ho : o.op = .fieldAddr 137 x 0) (h : b.eval x = .pointer (some a)) : (execOp b.eval o).run Tryz.prog w = .ok (.value (.pointer (some a))) w := by
  unfold execOp
  simp only [ho, h]
  go_simp
theorem exec_fieldE {x : Operand} {a : Addr} (ho : o.op = .fieldAddr 127 x 0) (h : b.eval x = .pointer (some a)) : (execOp b.eval o).run Tryz.prog w = .ok (.value (.pointer (some a))) w := by
  unfold execOp
  simp only [ho, h]
  go_simp
theorem exec_fieldR0 {x : Operand} {a : Addr} (ho : o.op = .fieldAddr 187 x 0) (h : b.eval x = .pointer (some a)) : (execOp b.eval o).run Tryz.prog w = .ok (.value (.pointer (some a))) w := by
  unfold execOp
  simp only [ho, h]
  go_simp
theorem exec_fieldR1 {x : Operand} {a : Addr} (ho : o.op = .fieldAddr 187 x 1) (h : b.eval x = .pointer (some a)) : (execOp b.eval o).run Tryz.prog w = .ok (.value (.pointer (some ⟨a.block, a.off + 1, none⟩))) w := by
  unfold execOp
  simp only [ho, h]
  go_simp
theorem exec_fieldP0 {x : Operand} {a : Addr} (ho : o.op = .fieldAddr 180 x 0) (h : b.eval x = .pointer (some a)) : (execOp b.eval o).run Tryz.prog w = .ok (.value (.pointer (some a))) w := by
  unfold execOp
  simp only [ho, h]
  go_simp
theorem exec_fieldP1 {x : Operand} {a : Addr} (ho : o.op = .fieldAddr 180 x 1) (h : b.eval x = .pointer (some a)) : (execOp b.eval o).run Tryz.prog w = .ok (.value (.pointer (some ⟨a.block, a.off + 1, none⟩))) w := by
  unfold execOp
  simp only [ho, h]
  go_simp
theorem exec_nil {P : Program} {x : Operand} {a : Addr} (ho : o.op = .nilCheck x) (h : b.eval x = .pointer (some a)) : (execOp b.eval o).run P w = .ok (.value (.pointer (some a))) w := by
  unfold execOp
  simp only [ho, h]
  go_simp
theorem exec_loadFile {x : Operand} {a : Addr} {u : Value} (ho : o.op = .load 137 x) (h : b.eval x = .pointer (some a)) (hc : w.cell? a = some u) : (execOp b.eval o).run Tryz.prog w = .ok (.value (.agg #[u])) w := by
  unfold execOp
  simp only [ho, h]
  go_simp
theorem exec_loadRs {x : Operand} {a : Addr} {u : Value} (ho : o.op = .load 135 x) (h : b.eval x = .pointer (some a)) (hc : w.cell? a = some u) : (execOp b.eval o).run Tryz.prog w = .ok (.value u) w := by
  unfold execOp
  simp only [ho, h]
  go_simp
theorem exec_loadPs {x : Operand} {a : Addr} {u : Value} (ho : o.op = .load 125 x) (h : b.eval x = .pointer (some a)) (hc : w.cell? a = some u) : (execOp b.eval o).run Tryz.prog w = .ok (.value u) w := by
  unfold execOp
  simp only [ho, h]
  go_simp
theorem exec_loadB {x : Operand} {a : Addr} {u : Value} (ho : o.op = .load 38 x) (h : b.eval x = .pointer (some a)) (hc : w.cell? a = some u) : (execOp b.eval o).run Tryz.prog w = .ok (.value u) w := by
  unfold execOp
  simp only [ho, h]
  go_simp
theorem exec_loadT {x : Operand} {a : Addr} {u : Value} (ho : o.op = .load 4 x) (h : b.eval x = .pointer (some a)) (hc : w.cell? a = some u) : (execOp b.eval o).run Tryz.prog w = .ok (.value u) w := by
  unfold execOp
  simp only [ho, h]
  go_simp
theorem exec_atR {x y : Operand} {ad : Addr} {n c k : Nat} (ho : o.op = .indexAddr 135 x y) (h : b.eval x = .slice (some ad) n c) (h' : b.eval y = .int .i64 (k : Int)) (hk : k < n) : (execOp b.eval o).run Tryz.prog w = .ok (.value (.pointer (some (ad.add (k * 2))))) w := by
  have hk' : (k : Int) < n := by omega
  unfold execOp
  simp only [ho, h, h']
  go_simp
theorem exec_buildR {x y : Operand} {A : Option Addr} {n c : Nat} {d : Bool} (ho : o.op = .build 187 #[(0, x), (1, y)]) (h : b.eval x = .slice A n c) (h' : b.eval y = .bool d) : (execOp b.eval o).run Tryz.prog w = .ok (.value (.agg #[.slice A n c, .bool d])) w := by
  unfold execOp
  simp only [ho, List.map_toArray, List.map_cons, List.map_nil, h, h']
  go_simp
theorem exec_buildP {x y : Operand} {A : Option Addr} {n c : Nat} {d : Bool} (ho : o.op = .build 180 #[(0, x), (1, y)]) (h : b.eval x = .slice A n c) (h' : b.eval y = .bool d) : (execOp b.eval o).run Tryz.prog w = .ok (.value (.agg #[.slice A n c, .bool d])) w := by
  unfold execOp
  simp only [ho, List.map_toArray, List.map_cons, List.map_nil, h, h']
  go_simp
theorem exec_listR {x : Operand} {p : Pa} (ho : o.op = .buildSlice 135 1 #[(0, x)]) (h : b.eval x = p.v) : (execOp b.eval o).run Tryz.prog w = .ok (.value (.slice (some ⟨w.heap.size, 0, none⟩) 1 1)) (w.alloc (.cells (pcells [p]).toArray 187)) := by
  unfold Pa.v at h
  unfold execOp
  simp only [ho, List.map_toArray, List.map_cons, List.map_nil, h]
  go_simp
  rfl
theorem exec_listP {x : Operand} {p : Pa} (ho : o.op = .buildSlice 125 1 #[(0, x)]) (h : b.eval x = p.v) : (execOp b.eval o).run Tryz.prog w = .ok (.value (.slice (some ⟨w.heap.size, 0, none⟩) 1 1)) (w.alloc (.cells (pcells [p]).toArray 180)) := by
  unfold Pa.v at h
  unfold execOp
  simp only [ho, List.map_toArray, List.map_cons, List.map_nil, h]
  go_simp
  rfl
end
theorem eval_put_ne {b : Act} {d t : Nat} {v : Value} (h : d ≠ t) : (b.put (some d) v).eval (.tmp t) = b.tmps.getD t undef := by
  show (b.tmps.setIfInBounds d v).getD t undef = _
  rw [Array.getD_eq_getD_getElem?, Array.getD_eq_getD_getElem?, Array.getElem?_setIfInBounds, if_neg h]
theorem eval_put_eq {b : Act} {d n : Nat} {v : Value} (hn : b.tmps.size = n) (h : d < n) : (b.put (some d) v).eval (.tmp d) = v := by
  show (b.tmps.setIfInBounds d v).getD d undef = _
  rw [Array.getD_eq_getD_getElem?, Array.getElem?_setIfInBounds, if_pos rfl, if_pos (by omega)]
  rfl
theorem size_put {b : Act} {d n : Nat} {v : Value} (hn : b.tmps.size = n) : (b.put (some d) v).tmps.size = n := by
  show (b.tmps.setIfInBounds d v).size = n
  rw [Array.size_setIfInBounds]
  exact hn
theorem own_avoid {N n c : Nat} {t : TypeId} {A : Option Addr} {xs : List Value} {w : World} {X : Nat → Prop} {size : Nat} (h : w.ownsRow N t size (.slice A n c) n xs) (hX : ∀ b, X b → b < N) : RdX w X size A n xs := by
  obtain ⟨A', c', e, _, _, hr⟩ := own_form h
  injection e with e1 _ _
  subst e1
  refine ⟨hr.1, fun hn => ?_⟩
  obtain ⟨ad, e', hb, hc⟩ := hr.2 hn
  refine ⟨ad, e', hb, fun hx => ?_, hc⟩
  have := (h.lt ad.block (by rw [e']; rfl)).1
  have := hX _ hx
  omega
section
variable {ops : Array Oper} {Q : Exit → Act → World → Prop} {o : Oper} {rest : List Oper} {a : Act} {w : World}
theorem wpList_storeR {t : TypeId} (s y : Operand) {g n c : Nat} {A : Option Addr} {v : Value} (hgd : o.guard = none) (ho : o.op = .store 135 s y) (hs : a.eval s = .pointer (some ⟨g, 0, none⟩)) (hy : a.eval y = .slice A n c) (hg : w.heap[g]? = some (.cells #[v] t (0, 0)))
    (hk : wpList Tryz.prog ops Q rest (a.put o.dst undef) (w.setCell ⟨g, 0, none⟩ (.slice A n c))) : wpList Tryz.prog ops Q (o :: rest) a w := by
  have hc := box_cell hg
  have hf := box_frozen hg
  refine wpList_plain hgd fun K hK => ?_
  unfold Oper.wp execOp
  simp only [ho, hs, hy]
  go_simp
  exact hK _ _ hk
theorem wpList_storeF {t : TypeId} (s y : Operand) {g n c : Nat} {A : Option Addr} {v : Value} (hgd : o.guard = none) (ho : o.op = .store 137 s y) (hs : a.eval s = .pointer (some ⟨g, 0, none⟩)) (hy : a.eval y = .agg #[.slice A n c]) (hg : w.heap[g]? = some (.cells #[v] t (0, 0)))
    (hk : wpList Tryz.prog ops Q rest (a.put o.dst undef) (w.setCell ⟨g, 0, none⟩ (.slice A n c))) : wpList Tryz.prog ops Q (o :: rest) a w := by
  have hc := box_cell hg
  have hf := box_frozen hg
  refine wpList_plain hgd fun K hK => ?_
  unfold Oper.wp execOp
  simp only [ho, hs, hy]
  go_simp
  exact hK _ _ hk
theorem wpList_op {v : Value} {w' : World} (hgd : o.guard = none) (hr : (execOp a.eval o).run Tryz.prog w = .ok (.value v) w') (hk : wpList Tryz.prog ops Q rest (a.put o.dst v) w') : wpList Tryz.prog ops Q (o :: rest) a w := by
  refine wpList_plain hgd fun K hK => ?_
  unfold Oper.wp
  rw [hr, Oper.upon_value]
  exact hK _ _ hk
end
theorem enter_rown (w : World) (args : Array Value) : (callFunc 121 args).run Tryz.prog w = .ok (.enter 121 args) w := by kernel_rfl
theorem enter_put (w : World) (args : Array Value) : (callFunc 103 args).run Tryz.prog w = .ok (.enter 103 args) w := by kernel_rfl
end Go.Proofs.YtbhmnmmockmibaaGreat
