/- The walk of the reference's Fail. Conditions: files of at most 1000 parts of 100000 bytes; at most 1000 told. -/
import Derived.Test.YtbhmnmmockmibaaGreatKpExG
namespace Go.Proofs.YtbhmnmmockmibaaGreat
open Go.RowKit
def XH (w : World) : Nat → Prop := fun b => w.heap.size ≤ b
theorem RdX.low {w w1 w2 : World} {size n B : Nat} {A : Option Addr} {xs : List Value} {X : Nat → Prop} (h : RdX w1 X size A n xs) (hX : ∀ b, w.heap.size ≤ b → X b) (hb : Below B w1 w2) (hB : w.heap.size ≤ B) : RdX w2 X size A n xs := by
  refine ⟨h.1, fun hn => ?_⟩
  obtain ⟨ad, e, hlt, hx, hc⟩ := h.2 hn
  have hw : ad.block < w.heap.size := by
    rcases Nat.lt_or_ge ad.block w.heap.size with h1 | h1
    · exact h1
    · exact absurd (hX _ h1) hx
  exact ⟨ad, e, Nat.lt_of_lt_of_le hlt hb.size, hx, fun j u hu => (hb.cell (by rw [block_of_add]; omega)).trans (hc j u hu)⟩
theorem PsX.low {w w1 w2 : World} {B : Nat} {A : Option Addr} {ps : List Pa} (h : PsX w1 (XH w) A ps) (hb : Below B w1 w2) (hB : w.heap.size ≤ B) : PsX w2 (XH w) A ps :=
  ⟨h.top.low (fun _ h => h) hb hB, fun p hp => (h.row p hp).low (fun _ h => h) hb hB⟩
theorem PsX.high {X : Nat → Prop} {w : World} {A : Option Addr} {ps : List Pa} (h : PsX w X A ps) : PsX w (XH w) A ps :=
  ⟨⟨h.top.1, fun hn => by
    obtain ⟨ad, e, hlt, _, hc⟩ := h.top.2 hn
    exact ⟨ad, e, hlt, fun hx => by unfold XH at hx; omega, hc⟩⟩, fun p hp => ⟨(h.row p hp).1, fun hn => by
    obtain ⟨ad, e, hlt, _, hc⟩ := (h.row p hp).2 hn
    exact ⟨ad, e, hlt, fun hx => by unfold XH at hx; omega, hc⟩⟩⟩
theorem own_kept {w w' : World} {v v' u : Value} {base size n : Nat} {e : TypeId} {xs : List Value} (h : w.ownsRow base e size u n xs) (hk : Kept v v' w w') (hap : ∀ g, u.ownBlock = some g → v.ownBlock ≠ some g) : w'.ownsRow base e size u n xs ∧ ∀ g, u.ownBlock = some g → v'.ownBlock ≠ some g := by
  refine ⟨⟨h.1, ?_⟩, fun g hg => (hk g (h.lt g hg).2 (hap g hg)).1⟩
  rcases h.2 with hn | ⟨g, cap, cur, rfl, hb, hgg, rest⟩
  · exact .inl hn
  · refine .inr ⟨g, cap, cur, rfl, hb, ?_, rest⟩
    rw [(hk g (Array.getElem?_eq_some_iff.1 hgg).1 (hap g rfl)).2]
    exact hgg
structure FlM (ps : List Pa) (keep : List Bool) (k q e : Nat) (qs : List Pa) (S : List Bool) : Prop where
  say : says qs = fullM (says (ps.take k))
  vol : q = volM (says (ps.take k))
  last : e = endM (holdM (says qs) keep)
  st : S = (holdM (says qs) keep).map fun p => p.2
theorem FlM.start (ps : List Pa) (keep : List Bool) : FlM ps keep 0 0 0 [] [] := ⟨rfl, rfl, rfl, rfl⟩
theorem FlM.skip {ps : List Pa} {keep : List Bool} {k q e : Nat} {qs : List Pa} {S : List Bool} {p : Pa} (h : FlM ps keep k q e qs S) (hx : Hid (ps[k]? = some p)) (hl : p.r.l = []) : FlM ps keep (k + 1) q e qs S :=
  ⟨by rw [says_snoc hx, fullM_append, fullM_none hl, List.append_nil]; exact h.say, by rw [volM_snoc hx, ← h.vol, hl]; simp, h.last, h.st⟩
theorem FlM.step {ps : List Pa} {keep : List Bool} {k q e : Nat} {qs : List Pa} {S : List Bool} {p : Pa} {b : Bool} (h : FlM ps keep k q e qs S) (hx : Hid (ps[k]? = some p)) (hl : p.r.l ≠ []) (hb : b = if p.d = true then true else (keep[q]?).getD false) :
    FlM ps keep (k + 1) (if p.d = true then q else q + 1) (if b = true then qs.length + 1 else e) (qs ++ [p]) (S ++ [b]) := by
  have hne : ∀ x ∈ says qs, x.1 ≠ [] := by rw [h.say]; exact fun x hx => fullM_mem hx
  have hv : volM (says qs) = q := by rw [h.say, volM_full, h.vol]
  have hsn : holdM (says (qs ++ [p])) keep = holdM (says qs) keep ++ [(p.r.l, b)] := by
    rw [says_append, show says [p] = [(p.r.l, p.d)] from rfl, holdM_snoc _ _ _ hne, hv, hb]
    cases hd : p.d <;> simp
  refine ⟨?_, ?_, ?_, ?_⟩
  · rw [says_append, h.say, says_snoc hx, fullM_append, fullM_one hl]; rfl
  · rw [volM_snoc hx, ← h.vol]
    have : p.r.l.isEmpty = false := by cases hq : p.r.l <;> simp_all
    rw [this]
    cases p.d <;> simp
  · rw [hsn, endM_snoc, h.last, holdM_len, says_len]
  · rw [hsn, List.map_append, h.st]; rfl
theorem FlM.len {ps : List Pa} {keep : List Bool} {k q e : Nat} {qs : List Pa} {S : List Bool} (h : FlM ps keep k q e qs S) (hk : k ≤ ps.length) : qs.length ≤ k ∧ S.length = qs.length ∧ e ≤ qs.length ∧ q ≤ k := by
  have h1 : qs.length ≤ k := by
    rw [← says_len, h.say]
    refine Nat.le_trans (List.length_filter_le _ _) ?_
    rw [says_len, List.length_take]
    omega
  refine ⟨h1, by rw [h.st, List.length_map, holdM_len, says_len], by have := endM_le (holdM (says qs) keep); rw [← h.last, holdM_len, says_len] at this; exact this, ?_⟩
  have := volM_le (says (ps.take k))
  rw [← h.vol, says_len, List.length_take] at this
  omega
structure FlSt (w W wr : World) (v5 v6 : Value) (ps : List Pa) (keep : List Bool) (k q e : Nat) (qs : List Pa) (S : List Bool) : Prop where
  m : FlM ps keep k q e qs S
  own : OwnP 187 W.heap.size (XH w) wr v5 qs
  stays : wr.ownsRow W.heap.size 4 1 v6 S.length (kc S)
  apart : ∀ g, v6.ownBlock = some g → v5.ownBlock ≠ some g
  below : Below W.heap.size W wr
set_option maxHeartbeats 4000000 in
set_option maxRecDepth 100000 in
theorem rfail_any {X : Nat → Prop} {A Ak : Option Addr} {c ck B : Nat} {ps : List Pa} {keep : List Bool} {w : World} (hs : SmM (says ps)) (hr : PsX w X A ps) (hkl : keep.length ≤ 1000) (hB : B ≤ w.heap.size) (hkr : RdK w B Ak keep) :
    Calls Tryz.prog 68 #[.agg #[.slice A ps.length c], .slice Ak keep.length ck] w fun e w' => ∃ v, e = .returned (.agg #[v]) ∧ Below w.heap.size w w' ∧ FileV w' (XW w) v (failM (says ps) keep) := by
  have hlen : (ps.length : Int) ≤ 1000 := by have := hs.n; rw [says_len] at this; omega
  have hkI : (keep.length : Int) ≤ 1000 := by omega
  obtain ⟨gb, hb0⟩ : ∃ g, Hid (w.heap.size = g) := ⟨_, rfl⟩
  obtain ⟨g1, h1⟩ : ∃ g, Hid (w.heap.size + 1 = g) := ⟨_, rfl⟩
  obtain ⟨W, hW⟩ : ∃ W, Hid ((w.alloc (.cells #[.slice A ps.length c] 137)).alloc (.cells #[.slice none 0 0] 137) = W) := ⟨_, rfl⟩
  have hbW : Hid (Below w.heap.size w W) := by rw [← hW.out]; exact (below_new _ _).alloc (by simp) _
  have hsW : Hid (W.heap.size = w.heap.size + 2) := by rw [← hW.out]; show _ = _; simp
  have fb : Hid (W.heap[gb]? = some (.cells #[.slice A ps.length c] 137 (0, 0))) := by
    rw [← hW.out, ← hb0.out]; show _ = _
    rw [heap_alloc_old _ _ (by simp)]
    exact heap_alloc_new _ _
  have f1 : Hid (W.heap[g1]? = some (.cells #[.slice none 0 0] 137 (0, 0))) := by
    rw [← hW.out, ← h1.out]; show _ = _
    have := heap_alloc_new (w.alloc (.cells #[.slice A ps.length c] 137)) (.cells #[.slice none 0 0] 137)
    simpa using this
  have gbl : Hid (gb < W.heap.size) := by rw [hsW.out, ← hb0.out]; show _ < _; omega
  have g1l : Hid (g1 < W.heap.size) := by rw [hsW.out, ← h1.out]; show _ < _; omega
  have g1w : Hid (w.heap.size ≤ g1) := by rw [← h1.out]; show _ ≤ _; omega
  have hrW : Hid (PsX W (XH w) A ps) := hr.high.below hbW.out
  have HkW : Hid (RdK W w.heap.size Ak keep) := Reads.more (Reads.below hkr (hbW.out.mono hB)) hB
  have Hs := Lib.hid hs
  have Hkl := Lib.hid hkl
  have hstart : FlSt w W W (.slice none 0 0) (.slice none 0 0) ps keep 0 0 0 [] [] := ⟨.start _ _, OwnP.nil _ _ _ _, World.ownsRow_nil _ _ _ _, fun g h => (by cases h), .refl _ _⟩
  have Hstart := Lib.hid hstart
  clear hs hr hkl hB hkr hstart
  go_enter Tryz.func68, Tryz.ntmps68
  go_upto_region 1 with fail
  rw [hW.out, h1.out, hb0.out]
  go_wp2
  go_loopw [5, 6, 7, 8, 9] (fun v5 v6 kk la i wr => ∃ (k q e : Nat) (qs : List Pa) (S : List Bool), k ≤ ps.length ∧ i = .int .i64 (k : Int) ∧ kk = .int .i64 (q : Int) ∧ la = .int .i64 (e : Int) ∧ Hid (FlSt w W wr v5 v6 ps keep k q e qs S)) (fun _ _ _ _ i _ => ps.length - (intOf i).toNat)
  case atStart => exact ⟨0, 0, 0, [], [], by omega, rfl, rfl, rfl, Hstart⟩
  case round =>
    clear Hstart
    obtain ⟨k, q, e, qs, S, hk, rfl, rfl, rfl, hst⟩ := hrel
    have hbr := hst.out.below
    have cb := Lib.hid (box_cell ((hbr.block gb gbl.out).trans fb.out))
    have hcb := cb.out
    obtain ⟨hl1, hl2, hl3, hl4⟩ := hst.out.m.len hk
    have hqI : (q : Int) ≤ 1000 := by omega
    have heI : (e : Int) ≤ 1000 := by omega
    have hnI : (qs.length : Int) ≤ 999 ∨ k = ps.length := by omega
    by_cases hlt : k < ps.length
    · have hnI : (qs.length : Int) ≤ 999 := by omega
      obtain ⟨ad, p, rfl, hab, _, hca, hcd, hx, hrow⟩ := (hrW.out.low hbr (by rw [hsW.out]; omega)).at_ hlt
      have hll : (p.r.l.length : Int) ≤ 100000 := by have := Hs.out.at_ hx; omega
      have Hrow := Lib.hid hrow
      have Hqs := Lib.hid hl1
      have HS := Lib.hid hl2
      have Hbr := Lib.hid hbr
      clear hrow hl1 hl2 hl3 hl4 hbr
      by_cases hp0 : p.r.l = []
      · have hp0' : p.r.l.length = 0 := by rw [hp0]; rfl
        have hp0I : ((p.r.l.length : Nat) : Int) = 0 := by omega
        have Hst' := Lib.hid (hst.out.m.skip hx hp0)
        clear hp0
        go_wp2
        go_roundw
        case rel => exact ⟨k + 1, q, e, qs, S, by omega, by go_num, rfl, rfl, ⟨Hst'.out, hst.out.own.keep (below_new _ _), hst.out.stays.alloc _, hst.out.apart, Hbr.out.alloc Hbr.out.size _⟩⟩
        case measure => simp [intOf]; omega
-- ARMS
      · obtain ⟨pr, pd⟩ := p
        simp only at hp0 hca hcd hll Hrow
        have hbz : W.heap.size ≤ (wr.alloc (.cells #[.slice pr.A pr.l.length pr.c, .bool pd] 187)).heap.size := by have := Hbr.out.size; simp; omega
        have hrw : BsX (wr.alloc (.cells #[.slice pr.A pr.l.length pr.c, .bool pd] 187)) (XB (XH w) u5) pr.A pr.l := by
          refine RdX.mono (X := XH w) (Hrow.out.below (below_new _ _)) fun b _ hb => ?_
          rcases hb with hb | hb
          · exact hb
          · have := (hst.out.own.head.lt b hb).1
            show w.heap.size ≤ b
            have := hbW.out.size
            omega
        have Hp0 := Lib.hid hp0
        have hpl : 0 < pr.l.length := List.length_pos_iff.2 hp0
        have hplI : (0 : Int) < (pr.l.length : Int) := by omega
        have hpne : ((pr.l.length : Int) == 0) = false := by rw [beq_eq_false_iff_ne]; omega
        have hpne' : (pr.l.length == 0) = false := by rw [beq_eq_false_iff_ne]; omega
        clear hp0
        cases pd with
        | true =>
          have Hst' : Hid (FlM ps keep (k + 1) q (qs.length + 1) (qs ++ [⟨pr, true⟩]) (S ++ [true])) := hst.out.m.step hx Hp0.out (b := true) rfl
          go_wp2_with (first
            | (at_builtin
               refine push_pa ptSl2 (.tmp 48) (.tmp 50) (own := qs) ⟨pr, true⟩ rfl (hst.out.own.keep (below_new _ _)) hbz hrw (by have := Hqs.out; have := Hs.out.n; rw [says_len] at this; omega) rfl rfl rfl rfl (by simp) ?_
               intro v5 w5 hown5 hb5 hz5 hk5
               obtain ⟨hst5, hap5⟩ := own_kept (hst.out.stays.alloc _) hk5 hst.out.apart
               obtain ⟨A5, c5, rfl, hc5, _, _⟩ := own_form hown5.head
               obtain ⟨n5, hn5⟩ : ∃ n, Hid ((qs ++ [Pa.mk pr true]).length = n) := ⟨_, rfl⟩
               have hn5I := Lib.hid (show (n5 : Int) = ((qs.length + 1 : Nat) : Int) by rw [← hn5.out, List.length_append]; rfl)
               have hn5J : (n5 : Int) ≤ 1000 := by have := hn5I.out; omega
               rw [hn5.out] at hown5 hap5 hc5 ⊢
               have Hown5 := Lib.hid hown5
               have Hst5 := Lib.hid hst5
               have Hap5 := Lib.hid hap5
               have Hb5 := Lib.hid hb5
               have Hz5 := Lib.hid (Nat.le_trans hbz hz5)
               clear hown5 hst5 hap5 hb5 hz5 hk5)
            | (at_builtin
               refine push_bool (.tmp 52) (.tmp 54) (l := S) true Hst5.out Hz5.out (by have := Hqs.out; have := HS.out; have := Hs.out.n; rw [says_len] at this; omega) rfl rfl rfl rfl rfl ?_
               intro v6 w6 hown6 hb6 hz6 hk6
               obtain ⟨hO, hap6⟩ := own_kept Hown5.out.head hk6 (fun g hg hg' => Hap5.out g hg' hg)
               have hO' : OwnP 187 W.heap.size (XH w) w6 (.slice A5 n5 c5) (qs ++ [Pa.mk pr true]) := ⟨hO, fun x hx => (Hown5.out.row x hx).low (fun _ h => Or.inl h) hb6 (by rw [hsW.out]; omega)⟩
               have HO := Lib.hid hO'
               have Hown6 := Lib.hid hown6
               have Hap6 := Lib.hid (show ∀ g, v6.ownBlock = some g → (Value.slice A5 n5 c5).ownBlock ≠ some g from fun g hg hg' => hap6 g hg' hg)
               have Hb6 := Lib.hid (((Hbr.out.alloc Hbr.out.size _).trans Hb5.out).trans hb6)
               clear hO hO' hown6 hap6 hb6 hz6 hk6))
          go_roundw
          case rel => exact ⟨k + 1, q, qs.length + 1, qs ++ [Pa.mk pr true], S ++ [true], by omega, by go_num, rfl, congrArg (Value.int .i64) hn5I.out, ⟨Hst'.out, HO.out, Hown6.out, Hap6.out, Hb6.out⟩⟩
          case measure => simp [intOf]; omega
        | false =>
          by_cases hqk : q < keep.length
          · obtain ⟨adk, b, rfl, habk, hck, hkx⟩ := RdK.at_ (Reads.below HkW.out (Hbr.out.mono hbW.out.size)) hqk
            have hqkI : (q : Int) < (keep.length : Int) := by omega
            have Hst' : Hid (FlM ps keep (k + 1) (q + 1) (if b = true then qs.length + 1 else e) (qs ++ [⟨pr, false⟩]) (S ++ [b])) := hst.out.m.step hx Hp0.out (b := b) (by simp [hkx.out])
            have hck' : (wr.alloc (.cells #[.slice pr.A pr.l.length pr.c, .bool false] 187)).cell? (adk.add q) = some (.bool b) := (World.cell?_alloc_lt wr _ _ (by rw [block_of_add]; have := Hbr.out.size; have := hbW.out.size; omega)).trans hck
            clear hck
            cases b with
            | true =>
              rw [if_pos rfl] at Hst'
              go_wp2_with (first
                | (at_builtin
                   refine push_pa ptSl2 (.tmp 48) (.tmp 50) (own := qs) ⟨pr, false⟩ rfl (hst.out.own.keep (below_new _ _)) hbz hrw (by have := Hqs.out; have := Hs.out.n; rw [says_len] at this; omega) rfl rfl rfl rfl (by simp) ?_
                   intro v5 w5 hown5 hb5 hz5 hk5
                   obtain ⟨hst5, hap5⟩ := own_kept (hst.out.stays.alloc _) hk5 hst.out.apart
                   obtain ⟨A5, c5, rfl, hc5, _, _⟩ := own_form hown5.head
                   obtain ⟨n5, hn5⟩ : ∃ n, Hid ((qs ++ [Pa.mk pr false]).length = n) := ⟨_, rfl⟩
                   have hn5I := Lib.hid (show (n5 : Int) = ((qs.length + 1 : Nat) : Int) by rw [← hn5.out, List.length_append]; rfl)
                   have hn5J : (n5 : Int) ≤ 1000 := by have := hn5I.out; omega
                   rw [hn5.out] at hown5 hap5 hc5 ⊢
                   have Hown5 := Lib.hid hown5
                   have Hst5 := Lib.hid hst5
                   have Hap5 := Lib.hid hap5
                   have Hb5 := Lib.hid hb5
                   have Hz5 := Lib.hid (Nat.le_trans hbz hz5)
                   clear hown5 hst5 hap5 hb5 hz5 hk5)
                | (at_builtin
                   refine push_bool (.tmp 52) (.tmp 54) (l := S) true Hst5.out Hz5.out (by have := Hqs.out; have := HS.out; have := Hs.out.n; rw [says_len] at this; omega) rfl rfl rfl rfl rfl ?_
                   intro v6 w6 hown6 hb6 hz6 hk6
                   obtain ⟨hO, hap6⟩ := own_kept Hown5.out.head hk6 (fun g hg hg' => Hap5.out g hg' hg)
                   have hO' : OwnP 187 W.heap.size (XH w) w6 (.slice A5 n5 c5) (qs ++ [Pa.mk pr false]) := ⟨hO, fun x hx => (Hown5.out.row x hx).low (fun _ h => Or.inl h) hb6 (by rw [hsW.out]; omega)⟩
                   have HO := Lib.hid hO'
                   have Hown6 := Lib.hid hown6
                   have Hap6 := Lib.hid (show ∀ g, v6.ownBlock = some g → (Value.slice A5 n5 c5).ownBlock ≠ some g from fun g hg hg' => hap6 g hg' hg)
                   have Hb6 := Lib.hid (((Hbr.out.alloc Hbr.out.size _).trans Hb5.out).trans hb6)
                   clear hO hO' hown6 hap6 hb6 hz6 hk6))
              go_roundw
              case rel => exact ⟨k + 1, q + 1, qs.length + 1, qs ++ [Pa.mk pr false], S ++ [true], by omega, by go_num, by go_num, congrArg (Value.int .i64) hn5I.out, ⟨Hst'.out, HO.out, Hown6.out, Hap6.out, Hb6.out⟩⟩
              case measure => simp [intOf]; omega
            | false =>
              rw [if_neg (by simp)] at Hst'
              go_wp2_with (first
                | (at_builtin
                   refine push_pa ptSl2 (.tmp 48) (.tmp 50) (own := qs) ⟨pr, false⟩ rfl (hst.out.own.keep (below_new _ _)) hbz hrw (by have := Hqs.out; have := Hs.out.n; rw [says_len] at this; omega) rfl rfl rfl rfl (by simp) ?_
                   intro v5 w5 hown5 hb5 hz5 hk5
                   obtain ⟨hst5, hap5⟩ := own_kept (hst.out.stays.alloc _) hk5 hst.out.apart
                   obtain ⟨A5, c5, rfl, hc5, _, _⟩ := own_form hown5.head
                   obtain ⟨n5, hn5⟩ : ∃ n, Hid ((qs ++ [Pa.mk pr false]).length = n) := ⟨_, rfl⟩
                   have hn5I := Lib.hid (show (n5 : Int) = ((qs.length + 1 : Nat) : Int) by rw [← hn5.out, List.length_append]; rfl)
                   have hn5J : (n5 : Int) ≤ 1000 := by have := hn5I.out; omega
                   rw [hn5.out] at hown5 hap5 hc5 ⊢
                   have Hown5 := Lib.hid hown5
                   have Hst5 := Lib.hid hst5
                   have Hap5 := Lib.hid hap5
                   have Hb5 := Lib.hid hb5
                   have Hz5 := Lib.hid (Nat.le_trans hbz hz5)
                   clear hown5 hst5 hap5 hb5 hz5 hk5)
                | (at_builtin
                   refine push_bool (.tmp 52) (.tmp 54) (l := S) false Hst5.out Hz5.out (by have := Hqs.out; have := HS.out; have := Hs.out.n; rw [says_len] at this; omega) rfl rfl rfl rfl rfl ?_
                   intro v6 w6 hown6 hb6 hz6 hk6
                   obtain ⟨hO, hap6⟩ := own_kept Hown5.out.head hk6 (fun g hg hg' => Hap5.out g hg' hg)
                   have hO' : OwnP 187 W.heap.size (XH w) w6 (.slice A5 n5 c5) (qs ++ [Pa.mk pr false]) := ⟨hO, fun x hx => (Hown5.out.row x hx).low (fun _ h => Or.inl h) hb6 (by rw [hsW.out]; omega)⟩
                   have HO := Lib.hid hO'
                   have Hown6 := Lib.hid hown6
                   have Hap6 := Lib.hid (show ∀ g, v6.ownBlock = some g → (Value.slice A5 n5 c5).ownBlock ≠ some g from fun g hg hg' => hap6 g hg' hg)
                   have Hb6 := Lib.hid (((Hbr.out.alloc Hbr.out.size _).trans Hb5.out).trans hb6)
                   clear hO hO' hown6 hap6 hb6 hz6 hk6))
              go_roundw
              case rel => exact ⟨k + 1, q + 1, e, qs ++ [Pa.mk pr false], S ++ [false], by omega, by go_num, by go_num, rfl, ⟨Hst'.out, HO.out, Hown6.out, Hap6.out, Hb6.out⟩⟩
              case measure => simp [intOf]; omega
          · have hqkI : (keep.length : Int) ≤ (q : Int) := by omega
            have hqd : decide ((q : Int) < (keep.length : Int)) = false := by rw [decide_eq_false_iff_not]; omega
            have Hst' : Hid (FlM ps keep (k + 1) (q + 1) e (qs ++ [⟨pr, false⟩]) (S ++ [false])) := hst.out.m.step hx Hp0.out (b := false) (by rw [if_neg (by simp), List.getElem?_eq_none (by omega)]; rfl)
            clear hqk
            go_wp2_with (first
              | (at_builtin
                 refine push_pa ptSl2 (.tmp 48) (.tmp 50) (own := qs) ⟨pr, false⟩ rfl (hst.out.own.keep (below_new _ _)) hbz hrw (by have := Hqs.out; have := Hs.out.n; rw [says_len] at this; omega) rfl rfl rfl rfl (by simp) ?_
                 intro v5 w5 hown5 hb5 hz5 hk5
                 obtain ⟨hst5, hap5⟩ := own_kept (hst.out.stays.alloc _) hk5 hst.out.apart
                 obtain ⟨A5, c5, rfl, hc5, _, _⟩ := own_form hown5.head
                 obtain ⟨n5, hn5⟩ : ∃ n, Hid ((qs ++ [Pa.mk pr false]).length = n) := ⟨_, rfl⟩
                 have hn5I := Lib.hid (show (n5 : Int) = ((qs.length + 1 : Nat) : Int) by rw [← hn5.out, List.length_append]; rfl)
                 have hn5J : (n5 : Int) ≤ 1000 := by have := hn5I.out; omega
                 rw [hn5.out] at hown5 hap5 hc5 ⊢
                 have Hown5 := Lib.hid hown5
                 have Hst5 := Lib.hid hst5
                 have Hap5 := Lib.hid hap5
                 have Hb5 := Lib.hid hb5
                 have Hz5 := Lib.hid (Nat.le_trans hbz hz5)
                 clear hown5 hst5 hap5 hb5 hz5 hk5)
              | (at_builtin
                 refine push_bool (.tmp 52) (.tmp 54) (l := S) false Hst5.out Hz5.out (by have := Hqs.out; have := HS.out; have := Hs.out.n; rw [says_len] at this; omega) rfl rfl rfl rfl rfl ?_
                 intro v6 w6 hown6 hb6 hz6 hk6
                 obtain ⟨hO, hap6⟩ := own_kept Hown5.out.head hk6 (fun g hg hg' => Hap5.out g hg' hg)
                 have hO' : OwnP 187 W.heap.size (XH w) w6 (.slice A5 n5 c5) (qs ++ [Pa.mk pr false]) := ⟨hO, fun x hx => (Hown5.out.row x hx).low (fun _ h => Or.inl h) hb6 (by rw [hsW.out]; omega)⟩
                 have HO := Lib.hid hO'
                 have Hown6 := Lib.hid hown6
                 have Hap6 := Lib.hid (show ∀ g, v6.ownBlock = some g → (Value.slice A5 n5 c5).ownBlock ≠ some g from fun g hg hg' => hap6 g hg' hg)
                 have Hb6 := Lib.hid (((Hbr.out.alloc Hbr.out.size _).trans Hb5.out).trans hb6)
                 clear hO hO' hown6 hap6 hb6 hz6 hk6))
            go_roundw
            case rel => exact ⟨k + 1, q + 1, e, qs ++ [Pa.mk pr false], S ++ [false], by omega, by go_num, by go_num, rfl, ⟨Hst'.out, HO.out, Hown6.out, Hap6.out, Hb6.out⟩⟩
            case measure => simp [intOf]; omega
-- END ARMS
    · obtain rfl : k = ps.length := by omega
      obtain ⟨wo, hwo⟩ : ∃ wo : World, wo = wr := ⟨_, rfl⟩
      subst hwo
      obtain ⟨hm, hown, hstays, -, -⟩ := hst.out
      obtain ⟨A5, c5, rfl, hc5, _, hr5⟩ := own_form hown.head
      obtain ⟨A6, c6, rfl, hc6, _, hr6⟩ := own_form hstays
      have HP : Hid (PsX wo (fun _ => False) A5 qs) := ⟨RdX.of hr5 (Nat.le_refl _) (fun _ _ h => h), fun x hx => (hown.row x hx).mono fun _ _ h => h.elim⟩
      have HK : Hid (RdK wo wo.heap.size A6 S) := hr6
      have hH : Hid (holdM (fullM (says ps)) keep = holdM (says qs) keep) := by
        have := hm.say
        rw [List.take_length] at this
        rw [this]
        exact rfl
      obtain ⟨H, hHe⟩ : ∃ H, Hid (holdM (says qs) keep = H) := ⟨_, rfl⟩
      have hS : Hid (S = H.map fun p => p.2) := by rw [← hHe.out]; exact hm.st
      have he : Hid (e = endM H) := by rw [← hHe.out]; exact hm.last
      have hHl : Hid (H.length = qs.length) := by rw [← hHe.out, ← says_len]; exact holdM_len _ _
      have hqsm : Hid (SmM (says qs)) := by
        have := hm.say
        rw [List.take_length] at this
        rw [this]
        exact Hs.out.full
      have hHsm : Hid (∀ j, SmM ((H.take j).map fillP)) := by
        intro j
        refine ⟨?_, fun x hx => ?_⟩
        · rw [List.length_map, List.length_take, hHl.out]; have := hqsm.out.n; rw [says_len] at this; omega
        · rw [List.mem_map] at hx
          obtain ⟨y, hy, rfl⟩ := hx
          rw [fillP_len]
          obtain ⟨i, hi⟩ := List.getElem?_of_mem (List.mem_of_mem_take hy)
          have hil := (List.getElem?_eq_some_iff.1 hi).1
          rw [hHl.out, ← says_len] at hil
          obtain ⟨d, hd, _⟩ := holdM_get (k := keep) (List.getElem?_eq_getElem hil)
          rw [hHe.out, hi] at hd
          injection hd with hd
          rw [hd]
          exact hqsm.out.l ((says qs)[i]) (List.getElem_mem hil)
      have hqne : Hid (∀ x ∈ says qs, x.1 ≠ []) := by
        have := hm.say
        show ∀ x ∈ says qs, x.1 ≠ []
        rw [this]
        exact fun x hx => fullM_mem hx
      obtain ⟨W3, hW3⟩ : ∃ W3, Hid (wo.alloc (.cells #[.slice none 0 0] 137) = W3) := ⟨_, rfl⟩
      obtain ⟨g3, hg3⟩ : ∃ g, Hid (wo.heap.size = g) := ⟨_, rfl⟩
      have hb3 : Hid (Below wo.heap.size wo W3) := by rw [← hW3.out]; exact below_new _ _
      have f3 : Hid (W3.heap[g3]? = some (.cells #[.slice none 0 0] 137 (0, 0))) := by
        rw [← hW3.out, ← hg3.out]; exact heap_alloc_new _ _
      have g3l : Hid (g3 < W3.heap.size) := (Array.getElem?_eq_some_iff.1 f3.out).1
      have j1 : Hid (W3.heap[g1]? = some (.cells #[.slice none 0 0] 137 (0, 0))) := by
        rw [hb3.out.block g1 (Nat.lt_of_lt_of_le g1l.out hbr.size), hbr.block g1 g1l.out]; exact f1.out
      have g13 : Hid (g1 < g3) := by rw [← hg3.out]; exact Nat.lt_of_lt_of_le g1l.out hbr.size
      have hbw3 : Hid (Below w.heap.size w W3) := hbW.out.trans ((hbr.mono hbW.out.size).trans (hb3.out.mono (Nat.le_trans hbW.out.size hbr.size)))
      have hstart : Out g3 (XW W3) W3 W3 ((H.take 0).map fillP) := ⟨⟨_, f3.out, FileV.nil _ _⟩, .refl _ _⟩
      have Hl3 := Lib.hid hl3
      have hc6' := Lib.hid hc6
      clear hm hown hstays hr5 hr6 hbr hst hl1 hl2 hl3 hl4 hc5 hc6
      go_upto_region 18 with fail
      rw [hW3.out, hg3.out]
      go_wp2
      go_loopw [13] (fun i wx => ∃ j : Nat, j ≤ e ∧ i = .int .i64 (j : Int) ∧ Out g3 (XW W3) W3 wx ((H.take j).map fillP)) (fun i _ => e - (intOf i).toNat)
      case atStart => exact ⟨0, by omega, rfl, hstart⟩
      case round =>
        have hstart' := hstart
        clear hstart
        obtain ⟨j, hj, rfl, ⟨⟨v, hv, hf⟩, ht⟩⟩ := hrel
        have hbx : Below wo.heap.size wo wr := hb3.out.trans (ht.below hb3.out.size (fun b hb => by rw [hb, ← hg3.out]; exact Nat.le_refl _))
        have hjI : (e : Int) ≤ 1000 := heI
        obtain ⟨Av, cv, pv, rfl, hcv, _, _⟩ := id hf
        obtain ⟨nv, hnv⟩ : ∃ nv, Hid (pv.length = nv) := ⟨_, rfl⟩
        rw [hnv.out] at hv hf
        have hgl : Hid (g3 < wr.heap.size) := Nat.lt_of_lt_of_le g3l.out ht.size
        have cg := box_cell hv
        have cz := box_frozen hv
        have Hv := Lib.hid hv
        have Ht := Lib.hid ht
        have Hbx := Lib.hid hbx
        by_cases hlt : j < e
        · have hjq : j < qs.length := by have := Hl3.out; omega
          obtain ⟨ad, p, rfl, hab, _, hca, hcd, hx, hrow⟩ := (HP.out.below hbx).at_ hjq
          obtain ⟨adk, b, rfl, habk, hck, hkx⟩ := RdK.at_ (Reads.below HK.out hbx) (k := j) (by rw [hS.out, List.length_map, hHl.out]; exact hjq)
          have hHj : Hid (H[j]? = some (p.r.l, b)) := by
            obtain ⟨d, hd, _⟩ := holdM_get (k := keep) (says_get hx).out
            rw [hHe.out] at hd
            have h2 := hkx.out
            rw [hS.out, List.getElem?_map, hd] at h2
            injection h2 with h2
            show _ = _
            rw [hd, ← h2]
          have hpne : p.r.l ≠ [] := hqne.out _ (mem_of_get (says_get hx))
          have hm' : Hid ((H.take (j + 1)).map fillP = (H.take j).map fillP ++ fullM [fillP (p.r.l, b)]) := by
            show _ = _
            rw [map_snoc_take _ hHj, fullM_one]
            intro h0
            have := fillP_len (p.r.l, b)
            rw [h0] at this
            exact hpne (List.eq_nil_of_length_eq_zero this.symm)
          have hjqI : (j : Int) < (qs.length : Int) := by omega
          have hjSI : (j : Int) < (S.length : Int) := by rw [hS.out, List.length_map, hHl.out]; exact hjqI
          have hl5 := hqsm.out.at_ hx
          have hll : (p.r.l.length : Int) ≤ 100000 := by omega
          have Hx := Lib.hid hx
          cases b with
          | true =>
            have hput := putX (cb := p.r.c) (d := true) (w := wr) (fun b hb => Nat.lt_of_lt_of_le (show b < W3.heap.size from hb) ht.size) (hHsm.out j) hl5 hf (Nat.le_refl _) hrow.reads (Below.refl _ _)
            have Hput := Lib.hid hput
            clear hput hv hf hrow ht hbx hpne hl5 hstart'
            go_wp2_with fail
            refine Hput.out.mono ?_
            rintro e2 w2 ⟨u, rfl, hb2, v2, rfl, hf2⟩
            obtain ⟨A2, c2, p2, rfl, _, _, _⟩ := id hf2
            have hv2 := (hb2.block g3 hgl.out).trans Hv.out
            have c2' := box_cell hv2
            have z2' := box_frozen hv2
            have Hf2 := Lib.hid hf2
            have Hb2 := Lib.hid hb2
            clear hv2 hf2 hb2 cg cz
            go_wp2
            go_roundw
            case rel => exact ⟨j + 1, by omega, by go_num, by rw [hm'.out]; exact Out.set g3l.out Ht.out hgl.out Hb2.out Hv.out Hf2.out⟩
            case measure => simp [intOf]; omega
          | false =>
            obtain ⟨nn, hnn⟩ : ∃ nn, Hid (p.r.l.length = nn) := ⟨_, rfl⟩
            have hnn5 : nn ≤ 100000 := by rw [← hnn.out]; exact hl5
            have hmk := fun w => run_make_bytes w nn (nn : Int) rfl (by omega)
            have hbn := below_new wr (.cells (bs (noughts nn)).toArray 5)
            have hput := putX (cb := nn) (d := true) (w := wr.alloc (.cells (bs (noughts nn)).toArray 5)) (B := wr.heap.size + 1) (Ab := some ⟨wr.heap.size, 0, none⟩) (l := noughts nn) (fun b hb => Nat.lt_of_lt_of_le (show b < W3.heap.size from hb) (Nat.le_trans ht.size hbn.size)) (hHsm.out j) (by rw [noughts_len]; exact hnn5) (hf.below hbn) (by simp) (reads_lit wr rfl) (Below.refl _ _)
            rw [noughts_len] at hput
            have Hput := Lib.hid hput
            have Hbn := Lib.hid hbn
            have hcd' := hcd
            rw [hnn.out] at hca hll
            have cg' := (World.cell?_alloc_lt wr (.cells (bs (noughts nn)).toArray 5) ⟨g3, 0, none⟩ hgl.out).trans cg
            clear hput hv hf hrow ht hbx hpne hl5 hstart' hnn5 hbn
            go_wp2_with fail
            refine Hput.out.mono ?_
            rintro e2 w2 ⟨u, rfl, hb2, v2, rfl, hf2⟩
            obtain ⟨A2, c2, p2, rfl, _, _, _⟩ := id hf2
            have hbb2 := Hbn.out.trans (hb2.mono Hbn.out.size)
            have hv2 := (hbb2.block g3 hgl.out).trans Hv.out
            have c2' := box_cell hv2
            have z2' := box_frozen hv2
            have Hf2 := Lib.hid hf2
            have Hb2 := Lib.hid hbb2
            clear hv2 hf2 hb2 hbb2 cg cg' cz hmk
            go_wp2
            go_roundw
            case rel => exact ⟨j + 1, by omega, by go_num, by rw [hm'.out, show fillP (p.r.l, false) = (noughts nn, true) by rw [← hnn.out]; rfl]; exact Out.set g3l.out Ht.out hgl.out Hb2.out Hv.out Hf2.out⟩
            case measure => simp [intOf]; omega
        · obtain rfl : j = e := by omega
          have hj1 := (ht.block g1 (Nat.lt_trans g13.out g3l.out) (Nat.ne_of_lt g13.out)).trans j1.out
          have c1' := box_cell hj1
          have z1' := box_frozen hj1
          have J1 := Lib.hid hj1
          have Hf := Lib.hid hf
          clear hv hf ht hbx hj1 hstart'
          go_wp2
          refine ret_file2 rfl rfl (box_set _ J1.out) rfl ?_
          have ht3 : Touch (fun k => k = g1) wr (wr.setCell ⟨g1, 0, none⟩ (.slice Av nv cv)) := Touch.cell1 _ _ _ _
          refine ⟨_, rfl, hbw3.out.trans ((Ht.out.below hbw3.out.size (fun b hb => by rw [hb]; exact Nat.le_trans g1w.out (Nat.le_of_lt g13.out))).trans (ht3.below (Nat.le_trans hbw3.out.size Ht.out.size) fun b hb => by rw [hb]; exact g1w.out)), ?_⟩
          have hfin := (Hf.out.keep (ht3.mono fun b _ e => by rw [e]; exact Nat.lt_trans g13.out g3l.out)).mono (Y := XW w) fun b _ hb => Nat.lt_of_lt_of_le hb hbw3.out.size
          unfold failM failH
          rw [hH.out, hHe.out, ← he.out]
          exact hfin
end Go.Proofs.YtbhmnmmockmibaaGreat
