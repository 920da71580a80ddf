/- The walk of JournalKeeps: whatever the payloads, the cut and the torn tail, it returns true. Conditions: none. -/
import Derived.Test.YtogoaihimepboaaKJoS
namespace Go.Proofs.Ytogoaihimepboaa
open Go.RowKit

theorem encJ_few {rows : List Row} (h : FewJ rows) (j : Nat) : (encJ ((rows.map (·.l)).take j)).length ≤ 655500 := by
  have h2 := encJ_le (l := (rows.map (·.l)).take j) (by intro m hm; have := List.mem_of_mem_take hm; rw [List.mem_map] at this; obtain ⟨r, hr, rfl⟩ := this; have := h.2 r hr; omega)
  rw [List.length_take, List.length_map] at h2
  have h1 := h.1
  omega

theorem RdR.first {w : World} {B : Nat} {A : Option Addr} {rows : List Row} (h : RdR w B A rows) {T : Nat} (hT : T ≤ rows.length) : RdR w B A (rows.take T) := by
  refine ⟨⟨by simp, fun hn => ?_⟩, fun r hr => h.row r (List.mem_of_mem_take hr)⟩
  rw [List.length_take] at hn
  obtain ⟨ad, e, hb, hc⟩ := h.top.2 (by omega)
  refine ⟨ad, e, hb, fun j u hj => hc j u ?_⟩
  rw [List.getElem?_map] at hj ⊢
  cases hx : (rows.take T)[j]? with
  | none => rw [hx] at hj; cases hj
  | some r =>
    rw [hx] at hj
    have hjT : j < T := by
      have := (List.getElem?_eq_some_iff.1 hx).1
      rw [List.length_take] at this
      omega
    rw [List.getElem?_take_of_lt hjT] at hx
    rw [hx]
    exact hj

set_option maxHeartbeats 4000000 in
set_option maxRecDepth 100000 in
theorem keepsLaw_any (A'' A' : Option Addr) (c'' c' : Nat) (rows : List Row) (z : Int) (tl : List UInt8) (w : World) (hk : rows.length ≤ 9223372036854775807) (hkc : rows.length ≤ c'') (hrl : ∀ r ∈ rows, r.l.length ≤ 9223372036854775807) (hrr : RdR w w.heap.size A'' rows)
    (hz : -9223372036854775808 ≤ z ∧ z ≤ 9223372036854775807) (hl' : tl.length ≤ 9223372036854775807) (hr' : RdB w w.heap.size A' tl) :
    Calls Try.prog 5 #[.slice A'' rows.length c'', .int .i64 z, .slice A' tl.length c'] w fun e w' => e = .returned (.bool true) ∧ Below w.heap.size w w' := by
  obtain ⟨n', hn'⟩ : ∃ n', tl.length = n' := ⟨_, rfl⟩
  obtain ⟨k, hkn⟩ : ∃ k, rows.length = k := ⟨_, rfl⟩
  rw [hn'] at hl' ⊢
  rw [hkn] at hk hkc ⊢
  have hlI' : (n' : Int) ≤ 9223372036854775807 := by omega
  have hkI : (k : Int) ≤ 9223372036854775807 := by omega
  have Hn' := Lib.hid hn'
  have Hk := Lib.hid hkn
  have Hkc := Lib.hid hkc
  have Hz := Lib.hid hz
  have Hfw := Lib.hid (fewJ_any A'' c'' w.heap.size k rows w hkn hk hrl hrr)
  have Hr' := Lib.hid hr'
  have Hrr := Lib.hid hrr
  clear hl' hr' hn' hk hrl hrr hkn hkc hz
  by_cases hf : FewJ rows
  · have hd := Lib.hid (show decide (FewJ rows) = true from decide_eq_true hf)
    have Hf := Lib.hid hf
    have hk10 : Hid (k ≤ 10) := by have := hf.1; rw [Hk.out] at this; exact this
    clear hf
    by_cases hbig : 100 < n'
    · have hbI : (100 : Int) < (n' : Int) := by omega
      clear hbig
      go_enter Try.func5, Try.ntmps5
      go_wp2_with (first
        | (go_at_call 21; refine Hfw.out.mono ?_; rintro e w0 ⟨rfl, rfl⟩; rw [hd.out])
        | (go_at_call 7; refine (worksJ_any _).mono ?_; rintro e w1 ⟨rfl, hb1⟩; have Hb1 := Lib.hid hb1; clear hb1))
      go_ret
      exact ⟨rfl, Hb1.out⟩
    have hbI : (n' : Int) ≤ 100 := by omega
    have Hl' := Lib.hid (show n' ≤ 100 by omega)
    obtain ⟨ms, hms⟩ : ∃ ms, Hid (rows.map (·.l) = ms) := ⟨_, rfl⟩
    have hmk : Hid (ms.length = k) := by rw [← hms.out, List.length_map]; exact Hk.out
    have hml : Hid (∀ m ∈ ms, m.length ≤ 200) := by
      intro m hm
      rw [← hms.out, List.mem_map] at hm
      obtain ⟨r, hr, rfl⟩ := hm
      exact Hf.out.2 r hr
    have hml' : Hid (∀ m ∈ ms, m.length ≤ 65535) := fun m hm => Nat.le_trans (hml.out m hm) (by decide)
    have hEl : Hid (∀ j, (encJ (ms.take j)).length ≤ 655500) := by rw [← hms.out]; exact encJ_few Hf.out
    have hrl : Hid (∀ r ∈ rows, r.l.length ≤ 140737488351232) := fun r hr => by have := Hf.out.2 r hr; omega
    clear hbig
    go_enter Try.func5, Try.ntmps5
    go_upto_region 3 with (go_at_call 21; refine Hfw.out.mono ?_; rintro e w0 ⟨rfl, rfl⟩; rw [hd.out])
    go_wp2
    go_loopw [7, 8, 9, 10] (fun sv pv rv iv wr => ∃ j : Nat, j ≤ k ∧ iv = .int .i64 (j : Int) ∧ wr.ownsRow w.heap.size 5 1 sv (atJ ms j) (bs (encJ (ms.take j))) ∧ wr.ownsRow w.heap.size 3 1 pv j (plc ms j) ∧ wr.ownsRow w.heap.size 25 2 rv j (rfc ms j) ∧ Below w.heap.size w wr) (fun _ _ _ iv _ => k - (intOf iv).toNat)
    case atStart => exact ⟨0, by omega, rfl, World.ownsRow_nil _ _ _ _, World.ownsRow_nil _ _ _ _, World.ownsRow_nil _ _ _ _, .refl _ _⟩
    case round =>
      obtain ⟨j, hj, rfl, hs, hp, hrf, hb⟩ := hrel
      have Hp := Lib.hid hp
      have Hrf := Lib.hid hrf
      have Hb := Lib.hid hb
      have Hs := Lib.hid hs
      obtain ⟨A7, c7, rfl, hc7, _, hR7⟩ := own_form hs
      obtain ⟨A8, c8, rfl, _, _, hR8⟩ := own_form hp
      obtain ⟨A9, c9, rfl, _, _, hR9⟩ := own_form hrf
      have HR8 := Lib.hid hR8
      have HR9 := Lib.hid hR9
      clear hp hrf hb hs hR8 hR9
      by_cases hlt : j < k
      · obtain ⟨ad, r, rfl, _, hc1, hx, hrow⟩ := (Hrr.out.below Hb.out).at_ (k := j) (by rw [Hk.out]; exact hlt)
        have hjI : (j : Int) < (k : Int) := by omega
        have hmj : Hid (ms[j]? = some r.l) := by rw [← hms.out, List.getElem?_map, hx.out]; exact rfl
        obtain ⟨E, hE⟩ : ∃ E, Hid (encJ (ms.take j) = E) := ⟨_, rfl⟩
        obtain ⟨e7, he7⟩ : ∃ e7, Hid (atJ ms j = e7) := ⟨_, rfl⟩
        have hElen : Hid (E.length = e7) := by rw [← hE.out, ← he7.out]; exact rfl
        rw [hE.out, he7.out] at Hs hR7
        rw [he7.out] at hc7 ⊢
        have he7l : Hid (e7 ≤ 655500) := by rw [← he7.out]; exact hEl.out j
        have he7I : (e7 : Int) ≤ 655500 := by have := he7l.out; omega
        have HE7 : Hid (RdB wr wr.heap.size A7 E) := by show Reads wr wr.heap.size 1 A7 E.length (bs E); rw [hElen.out]; exact hR7
        have Hall : Hid (AllJ E (ms.take j) e7) := by rw [← hE.out, ← he7.out]; exact allJ_encs (fun m hm => hml'.out m (List.mem_of_mem_take hm))
        have hrj := hrl.out r (mem_of_get hx)
        have happ := append_any A7 r.A c7 wr.heap.size e7 r.c w.heap.size r.l.length E r.l wr hElen.out (by have := he7l.out; omega) hc7 (Nat.le_refl _) HE7.out rfl hrj Hb.out.size hrow
        have hsm : r.l.length ≤ 65535 := hml'.out r.l (by rw [← hms.out]; exact List.mem_map_of_mem (mem_of_get hx))
        have haJ : Hid (appJ E e7 r.l = (encJ (ms.take (j + 1)), e7, r.l.length, (sum r.l).toNat, 0)) := by
          show _ = _
          unfold appJ
          rw [if_pos hsm, List.take_of_length_le (by rw [hElen.out]; exact Nat.le_refl _), encJ_take hmj.out, hE.out]
        have Happ := Lib.hid happ
        obtain ⟨n2, hn2⟩ : ∃ n2, Hid (atJ ms (j + 1) = n2) := ⟨_, rfl⟩
        obtain ⟨rl, hrl2⟩ : ∃ q, Hid (r.l.length = q) := ⟨_, rfl⟩
        obtain ⟨rs, hrs⟩ : ∃ q, Hid ((sum r.l).toNat = q) := ⟨_, rfl⟩
        rw [hrl2.out, hrs.out] at haJ
        rw [hrl2.out] at Happ
        clear happ hrow hrj hsm hR7
        go_upto_region 10 with (go_at_call 22; rw [hrl2.out]; refine Happ.out.mono ?_; rintro e w2 ⟨⟨ow2, P2, ha, v2, rfl, ho⟩, hb2⟩; obtain ⟨_, rfl⟩ := allJ_one Hall.out ha; rw [haJ.out] at ho ⊢; simp only [rfV] at ho ⊢; rw [show (encJ (ms.take (j + 1))).length = n2 from hn2.out] at ho; obtain ⟨A2, c2, rfl, _, _, _⟩ := own_form ho; have Ho := Lib.hid ho; have Hb2 := Lib.hid hb2; clear ho hb2 ha)
        obtain ⟨W2, hW2⟩ : ∃ W2, Hid (w2.alloc (.cells #[.int .u64 (rl : Int), .int .u64 (rs : Int)] 25) = W2) := ⟨_, rfl⟩
        obtain ⟨g2, hg2⟩ : ∃ g2, Hid (w2.heap.size = g2) := ⟨_, rfl⟩
        have hcx2 : Hid (W2.heap[g2]? = some (.cells #[.int .u64 (rl : Int), .int .u64 (rs : Int)] 25 (0, 0))) := by rw [← hW2.out, ← hg2.out]; exact heap_alloc_new w2 _
        have EW2 : Hid (Below w2.heap.size w2 W2) := by rw [← hW2.out]; exact below_new _ _
        have D2 := Lib.hid (below_then Hb2.out EW2.out (Nat.le_refl _))
        have Bw2 := Lib.hid (below_then Hb.out D2.out (Nat.le_refl _))
        have os2 := Lib.hid (own_mono (own_below Ho.out EW2.out (Nat.le_refl _)) Hb.out.size)
        have op2 := Lib.hid (own_below Hp.out D2.out (Nat.le_refl _))
        have of2 := Lib.hid (own_below Hrf.out D2.out (Nat.le_refl _))
        have hgb : Hid (∀ b, (Value.slice A8 j c8).ownBlock = some b → b < g2) := fun b hb => by
          have h1 := (Hp.out.lt b hb).2
          have h2 := Hb2.out.size
          have h3 := hg2.out
          omega
        have hg2W : Hid (g2 < W2.heap.size) := (Array.getElem?_eq_some_iff.1 hcx2.out).1
        have hjl : Hid (j ≤ 1099511627776) := by have := hk10.out; show _ ≤ _; omega
        rw [hW2.out, hg2.out]
        go_upto_region 13 with fail
        go_upto_region 14 with (at_builtin; refine push_int (.tmp 58) (.tmp 60) (e7 : Int) op2.out Bw2.out.size hjl.out rfl rfl rfl rfl rfl ?_; intro v3 w3 ho3 hb3 hg3; obtain ⟨A3, c3, rfl, _, _, _⟩ := own_form ho3; have os3 := Lib.hid (own_beside os2.out op2.out (by decide) hg3); have of3 := Lib.hid (own_beside of2.out op2.out (by decide) hg3); have hcx3 := (hg3.block g2 (by have := hg2W.out; simp; omega) fun e => by have := hgb.out g2 e.symm; omega).trans ((heap_alloc_old W2 _ hg2W.out).trans hcx2.out); have Ho3 := Lib.hid ho3; have Hb3 := Lib.hid hb3; have Hcx3 := Lib.hid hcx3; have hc3 := two_cells hcx3; obtain ⟨k0, k1⟩ := hc3; clear ho3 hb3 hg3 hcx3)
        have Bw3 := Lib.hid (Bw2.out.trans Hb3.out)
        go_wp2_with (at_builtin; refine push_rf (.tmp 62) (.tmp 64) (rl : Int) (rs : Int) of3.out Bw3.out.size hjl.out rfl rfl rfl rfl rfl ?_; intro v4 w4 ho4 hb4 hg4; obtain ⟨A4, c4, rfl, _, _, _⟩ := own_form ho4; have os4 := Lib.hid (own_beside os3.out of3.out (by decide) hg4); have op4 := Lib.hid (own_beside Ho3.out of3.out (by decide) hg4); have Ho4 := Lib.hid ho4; have Hb4 := Lib.hid hb4; clear ho4 hb4 hg4)
        go_roundw
        case rel => exact ⟨j + 1, by omega, by go_num, by rw [hn2.out]; exact os4.out, by rw [plc_snoc, he7.out]; exact op4.out, by rw [rfc_snoc hmj.out, hrl2.out, hrs.out]; exact Ho4.out, Bw3.out.trans Hb4.out⟩
        case measure => simp [intOf]; omega
      · obtain rfl : j = k := by omega
        obtain ⟨wo, rfl⟩ : ∃ wo : World, wo = wr := ⟨_, rfl⟩
        obtain ⟨S, hS⟩ : ∃ S, Hid (encJ ms = S) := ⟨_, rfl⟩
        obtain ⟨nS, hnS⟩ : ∃ n, Hid (S.length = n) := ⟨_, rfl⟩
        have hj1 : Hid (encJ (ms.take j) = S) := by rw [← hS.out, List.take_of_length_le (by rw [hmk.out]; exact Nat.le_refl _)]; exact rfl
        have hj2 : Hid (atJ ms j = nS) := by show (encJ (ms.take j)).length = nS; rw [hj1.out]; exact hnS.out
        rw [hj1.out, hj2.out] at Hs hR7
        rw [hj2.out] at hc7 ⊢
        have hnl : Hid (nS ≤ 655500) := by rw [← hj2.out]; exact hEl.out j
        have hnI : (nS : Int) ≤ 655500 := by have := hnl.out; omega
        have HRs : Hid (RdB wo wo.heap.size A7 S) := by show Reads wo wo.heap.size 1 A7 S.length (bs S); rw [hnS.out]; exact hR7
        have Hc7 := Lib.hid hc7
        have HallS : Hid (AllJ S ms nS) := by rw [← hS.out, ← hnS.out, ← hS.out]; exact allJ_encs hml'.out
        clear hR7 hc7 hlt hj
        have hrdS : Hid (∀ wx, Below wo.heap.size wo wx → RdB wx wo.heap.size A7 S) := fun wx hx => Reads.below HRs.out hx
        have hrdR : Hid (∀ wx, Below wo.heap.size wo wx → RdR wx w.heap.size A'' rows) := fun wx hx => RdR.below (RdR.below Hrr.out Hb.out) (hx.mono Hb.out.size)
        have hszw : Hid (∀ wx, Below wo.heap.size wo wx → w.heap.size ≤ wx.heap.size) := fun wx hx => Nat.le_trans Hb.out.size hx.size
        go_upto_region 17 with (first
          | (go_at_call 19; refine (wholeJ_any A7 c7 wo.heap.size nS S wo hnS.out (by have := hnl.out; omega) Hc7.out (Nat.le_refl _) HRs.out).mono ?_; rintro e w2 ⟨⟨ow2, P2, ha, rfl⟩, hb2⟩; obtain ⟨_, rfl⟩ := allJ_one HallS.out ha; have D2 := Lib.hid hb2; clear hb2 ha)
          | (go_at_call 13; refine (allJ_any A7 c7 wo.heap.size nS S w2 hnS.out (by have := hnl.out; omega) Hc7.out D2.out.size (hrdS.out _ D2.out)).mono ?_; rintro e w3 ⟨⟨v3, lw, P3, rfl, ho, ha⟩, hb3⟩; obtain ⟨A3, c3, rfl, hR3⟩ := ho.o.reads; obtain ⟨k3, hk3⟩ : ∃ k, Hid (lw.length = k) := ⟨_, rfl⟩; rw [hk3.out]; have Rl3 := Lib.hid hR3; have hlw := Lib.hid (allJ_one ha HallS.out).1; have D3 := Lib.hid (below_then D2.out hb3 (Nat.le_refl _)); clear ho ha hR3 hb3)
          | (go_at_call 17; refine (rowsJ_any A3 A'' c3 c'' w3.heap.size w.heap.size k3 j lw rows w3 hk3.out Hk.out (by have h1 := congrArg List.length hlw.out; rw [List.length_map, hmk.out, hk3.out] at h1; have := hk10.out; omega) (by have := hk10.out; omega) (fun r hr => by have h1 := hml.out r.l (by rw [← hlw.out]; exact List.mem_map_of_mem hr); omega) (Nat.le_refl _) (hszw.out _ D3.out) Rl3.out (hrdR.out _ D3.out)).mono ?_; rintro e w4 ⟨rfl, hb4⟩; rw [show decide (lw.map (·.l) = rows.map (·.l)) = true from decide_eq_true (hlw.out.trans hms.out.symm)]; have D4 := Lib.hid (below_then D3.out hb4 (Nat.le_refl _)); clear hb4))
        have hpk := pick_any z (nS + 1) w4 (by omega) (by have := hnl.out; omega) Hz.out
        obtain ⟨N, hN⟩ : ∃ N : Nat, z % ((nS + 1 : Nat) : Int) = (N : Int) := Int.eq_ofNat_of_zero_le (Int.emod_nonneg _ (by omega))
        have hNle : Hid (N ≤ nS) := by
          have h1 := Int.emod_lt_of_pos z (show (0 : Int) < ((nS + 1 : Nat) : Int) by omega)
          show _ ≤ _
          omega
        rw [hN, show ((nS + 1 : Nat) : Int) = (nS : Int) + 1 from by omega] at hpk
        have Hpk := Lib.hid hpk
        clear hpk hN
        have hNI : (N : Int) ≤ 655500 := by have := hNle.out; omega
        have hNc : (N : Int) ≤ (c7 : Int) := by have h1 := hNle.out; have h2 := Hc7.out; omega
        obtain ⟨T, hT, hcut⟩ := cutJ ms N j
        have HT := Lib.hid hT
        have Hcut := Lib.hid hcut
        clear hT hcut
        go_upto_region 20 with (go_at_call 29; refine Hpk.out.mono ?_; rintro e w5 ⟨rfl, rfl⟩)
        -- where the cells of the lists are read
        have hc8 : Hid (∀ i, i < j → ∃ ad, A8 = some ad ∧ ∀ wx, Below wo.heap.size wo wx → wx.cell? (ad.add i) = some (.int .i64 (atJ ms i : Int))) := fun i hi => by
          obtain ⟨ad, e, hb, hcc⟩ := HR8.out.2 (by omega)
          exact ⟨ad, e, fun wx hx => (hx.cell (by rw [block_of_add]; exact hb)).trans (hcc i _ (plc_get ms hi))⟩
        have hc9 : Hid (∀ i m, ms[i]? = some m → i < j → ∃ ad, A9 = some ad ∧ ∀ wx, Below wo.heap.size wo wx → wx.cell? (ad.add (i * 2)) = some (.int .u64 (m.length : Int)) ∧ wx.cell? ⟨(ad.add (i * 2)).block, (ad.add (i * 2)).off + 1, none⟩ = some (.int .u64 ((sum m).toNat : Int))) := fun i m hm hi => by
          obtain ⟨ad, e, hb, hcc⟩ := HR9.out.2 (by omega)
          obtain ⟨h1, h2⟩ := rfc_get hm hi (by rw [hmk.out]; exact Nat.le_refl _)
          have h3 := hcc _ _ h2
          rw [add_next] at h3
          exact ⟨ad, e, fun wx hx => ⟨(hx.cell (by rw [block_of_add]; exact hb)).trans (hcc _ _ h1), (hx.cell (p := ⟨(ad.add (i * 2)).block, (ad.add (i * 2)).off + 1, none⟩) (by show (ad.add (i * 2)).block < _; rw [block_of_add]; exact hb)).trans h3⟩⟩
        go_loopw [16, 17] (fun wv iv wx => ∃ i : Nat, i ≤ j ∧ iv = .int .i64 (i : Int) ∧ wv = .int .i64 ((min i T : Nat) : Int) ∧ Below wo.heap.size wo wx) (fun _ iv _ => j - (intOf iv).toNat)
        case atStart => exact ⟨0, by omega, rfl, by rw [Nat.zero_min]; rfl, D4.out⟩
        case round =>
          obtain ⟨i, hi, rfl, rfl, hbx⟩ := hrel
          have Bx := Lib.hid hbx
          clear hbx
          obtain ⟨mn, hmn⟩ : ∃ mn, Hid (min i T = mn) := ⟨_, rfl⟩
          rw [hmn.out]
          have hmnl : mn ≤ j := by have h1 := hmn.out; omega
          have hmnI : (mn : Int) ≤ 10 := by have := hk10.out; omega
          by_cases hlt : i < j
          · obtain ⟨ad, r, rfl, hab, hcr, hx, hrow⟩ := (hrdR.out _ Bx.out).at_ (k := i) (by rw [Hk.out]; exact hlt)
            have hjI : (i : Int) < (j : Int) := by omega
            have hmi : Hid (ms[i]? = some r.l) := by rw [← hms.out, List.getElem?_map, hx.out]; exact rfl
            obtain ⟨en, hen⟩ : ∃ en, Hid (atJ ms (i + 1) = en) := ⟨_, rfl⟩
            obtain ⟨st, hst⟩ : ∃ st, Hid (atJ ms i = st) := ⟨_, rfl⟩
            have henl : Hid (en ≤ 655500) := by rw [← hen.out]; exact hEl.out (i + 1)
            have henI : (en : Int) ≤ 655500 := by have := henl.out; omega
            have hcx8 : Hid (i + 1 < j → ∃ ad, A8 = some ad ∧ wr.cell? (ad.add (i + 1)) = some (.int .i64 (en : Int))) := fun hl => by
              obtain ⟨ad, e, h⟩ := hc8.out (i + 1) hl
              have k8 := h _ Bx.out
              rw [hen.out] at k8
              exact ⟨ad, e, k8⟩
            obtain ⟨ad8, rfl, h8⟩ := hc8.out i hlt
            obtain ⟨ad9, rfl, h9⟩ := hc9.out i r.l hmi.out hlt
            obtain ⟨rl, hrl2⟩ : ∃ q, Hid (r.l.length = q) := ⟨_, rfl⟩
            obtain ⟨rs, hrs⟩ : ∃ q, Hid ((sum r.l).toNat = q) := ⟨_, rfl⟩
            rw [hst.out] at h8
            rw [hrl2.out, hrs.out] at h9
            rw [hrl2.out] at hcr
            have HSb : Hid (∀ wx, Below wr.heap.size wr wx → wx.cell? (ad8.add i) = some (.int .i64 (st : Int)) ∧ (wx.cell? (ad9.add (i * 2)) = some (.int .u64 (rl : Int)) ∧ wx.cell? ⟨(ad9.add (i * 2)).block, (ad9.add (i * 2)).off + 1, none⟩ = some (.int .u64 (rs : Int)))) := fun wx hx => by
              have hb := below_then Bx.out hx (Nat.le_refl _)
              exact ⟨h8 _ hb, h9 _ hb⟩
            have hwh : wo.heap.size ≤ wr.heap.size := Bx.out.size
            have Hwh := Lib.hid hwh
            have Hcr : Hid (∀ wx, Below wr.heap.size wr wx → wx.cell? (ad.add i) = some (.slice r.A rl r.c)) := fun wx hx => (hx.cell (by rw [block_of_add]; have := hszw.out _ Bx.out; omega)).trans hcr
            have Hrow : Hid (∀ wx, Below wr.heap.size wr wx → RdB wx w.heap.size r.A r.l) := fun wx hx => Reads.below hrow (hx.mono (hszw.out _ Bx.out))
            clear h8 h9 hcr hrow hwh
            rcases Nat.lt_or_ge (i + 1) j with hl | hl
            case' inl =>
              have hlI : (i : Int) + 1 < (j : Int) := by omega
              have hw1 : IntKind.i64.wrap ((i : Int) + 1) = (i : Int) + 1 := IntWalk.i64_in _ (by omega)
              obtain ⟨ad0, e0, k8⟩ := hcx8.out hl
              injection e0 with e0
              subst e0
              have k9 : wr.cell? ⟨ad8.block, ad8.off + (i + 1), none⟩ = some (.int .i64 (en : Int)) := by
                rw [← k8]
                rfl
              go_upto_region 25 with fail
              clear k8 k9
              clear hw1 hlI hl
            case' inr =>
              have hlI : ¬ (i : Int) + 1 < (j : Int) := by omega
              have hq : en = nS := by rw [← hen.out, ← hj2.out, show i + 1 = j by omega]
              subst hq
              go_upto_region 25 with fail
              clear hlI hl
            all_goals
              have hbd : Hid (Below wr.heap.size wr wr.drew) := (Below.refl _ _).drew
              have hgc : Hid (∀ wx, Below wr.heap.size wr wx → Calls Try.prog 11 #[.slice A7 N c7, .int .i64 (st : Int), .agg #[.int .u64 (rl : Int), .int .u64 (rs : Int)]] wx fun e w' => BytesErr wx.heap.size (getJ (S.take N) st rl rs) e w' ∧ Below wx.heap.size wx w') := fun wx hx => get_any A7 c7 wo.heap.size N (S.take N) st rl rs wx (takeN hnS.out hNle.out) (by have h1 := hNle.out; have h2 := hnl.out; omega) (by omega) (Nat.le_trans Hwh.out hx.size) (RdB.first (hrdS.out _ (below_then Bx.out hx (Nat.le_refl _))) (by rw [hnS.out]; exact hNle.out))
              by_cases hin : en ≤ N
              · have hinI : (en : Int) ≤ (N : Int) := by omega
                have hg0 : Hid (getJ (S.take N) st rl rs = (r.l, 0)) := by
                  show _ = _
                  rw [← hS.out, ← hst.out, ← hrl2.out, ← hrs.out]
                  exact getJ_in (hml'.out _ (List.mem_of_getElem? hmi.out)) hmi.out (by rw [hen.out]; exact hin)
                go_region_held3 (fun wx => wx.cell? (ad8.add i) = some (.int .i64 (st : Int)) ∧ (wx.cell? (ad9.add (i * 2)) = some (.int .u64 (rl : Int)) ∧ wx.cell? ⟨(ad9.add (i * 2)).block, (ad9.add (i * 2)).off + 1, none⟩ = some (.int .u64 (rs : Int)))) (first | exact HSb.out _ D5.out | exact HSb.out _ hbd.out) (first | (go_at_call 11; refine (hgc.out _ hbd.out).mono ?_; rintro e w5 ⟨⟨v5, rfl, ho⟩, hb5⟩; rw [hg0.out] at ho ⊢; simp only at ho ⊢; obtain ⟨A5, c5, rfl, _, _, hr⟩ := own_form ho; have R5 := Lib.hid hr; have D5 := Lib.hid (below_then hbd.out hb5 (Nat.le_refl _)); clear ho hr hb5))
                have k10 := Hcr.out _ D5.out
                have hsb := Lib.hid (sameN A5 r.A c5 r.c w5.heap.size w.heap.size r.l.length rl r.l r.l w5 rfl hrl2.out (by have := hrl.out r (mem_of_get hx); exact this) R5.out (Hrow.out _ D5.out) rfl)
                have hT1 : i + 1 ≤ T := (Hcut.out (i + 1) (by omega)).1 (by rw [hen.out]; exact hin)
                have hmin : min (i + 1) T = mn + 1 := by have := hmn.out; omega
                clear hin hT1
                go_wp2_with (go_at_call 16; refine hsb.out.mono ?_; rintro e w6 ⟨rfl, hb6⟩; have D6 := Lib.hid (below_then D5.out hb6 (Nat.le_refl _)); clear hb6)
                go_roundw
                case rel => exact ⟨i + 1, by omega, by go_num, by rw [hmin]; go_num, below_then Bx.out D6.out (Nat.le_refl _)⟩
                case measure => simp [intOf]; omega
              · have hinI : ¬ (en : Int) ≤ (N : Int) := by omega
                obtain ⟨ge, hge, hg1⟩ := getJ_out (N := N) (hml'.out _ (List.mem_of_getElem? hmi.out)) hmi.out (by rw [hen.out]; omega)
                have hg0 : Hid (getJ (S.take N) st rl rs = ([], ge)) := by
                  show _ = _
                  rw [← hS.out, ← hst.out, ← hrl2.out, ← hrs.out]
                  exact hg1
                have heI : ((ge : Int) == 0) = false := by rw [beq_eq_false_iff_ne]; omega
                have heN : (ge == 0) = false := by rw [beq_eq_false_iff_ne]; exact hge
                have hT1 : ¬ i + 1 ≤ T := fun h => hin (by have := (Hcut.out (i + 1) (by omega)).2 h; rw [hen.out] at this; exact this)
                have hmin : min (i + 1) T = mn := by have := hmn.out; omega
                clear hin hT1 hg1 hge
                go_region_held3 (fun wx => wx.cell? (ad8.add i) = some (.int .i64 (st : Int)) ∧ (wx.cell? (ad9.add (i * 2)) = some (.int .u64 (rl : Int)) ∧ wx.cell? ⟨(ad9.add (i * 2)).block, (ad9.add (i * 2)).off + 1, none⟩ = some (.int .u64 (rs : Int)))) (first | exact HSb.out _ D5.out | exact HSb.out _ hbd.out) (first | (go_at_call 11; refine (hgc.out _ hbd.out).mono ?_; rintro e w5 ⟨⟨v5, rfl, ho⟩, hb5⟩; rw [hg0.out] at ho ⊢; simp only at ho ⊢; obtain ⟨A5, c5, rfl, _, _, hr⟩ := own_form ho; have D5 := Lib.hid (below_then hbd.out hb5 (Nat.le_refl _)); clear ho hr hb5))
                go_wp2
                go_roundw
                case rel => exact ⟨i + 1, by omega, by go_num, by rw [hmin], below_then Bx.out D5.out (Nat.le_refl _)⟩
                case measure => simp [intOf]; omega
          · obtain rfl : i = j := by omega
            obtain rfl : mn = T := by have h1 := hmn.out; have h2 := HT.out; omega
            obtain ⟨eT, heT⟩ : ∃ e, Hid (atJ ms mn = e) := ⟨_, rfl⟩
            have hTk : Hid (mn ≤ ms.length) := by rw [hmk.out]; exact HT.out
            have hall2 : Hid (AllJ (S.take N) (ms.take mn) eT) := by
              rw [← hS.out, ← heT.out]
              exact allJ_at hml'.out (by rw [hS.out, hnS.out]; exact hNle.out) hTk.out (fun q hq => Hcut.out q (by rw [hmk.out] at hq; exact hq))
            have hC : Hid ((S.take N).take eT = encJ (ms.take mn)) := by
              rw [← hS.out, ← heT.out]
              exact cut_take ((Hcut.out mn HT.out).2 (Nat.le_refl _))
            have hallC : Hid (AllJ (encJ (ms.take mn)) (ms.take mn) eT) := by
              have := allJ_whole hall2.out
              rw [hC.out] at this
              exact this
            obtain ⟨C, hCC⟩ : ∃ C, Hid (encJ (ms.take mn) = C) := ⟨_, rfl⟩
            have hCl : Hid (C.length = eT) := by rw [← hCC.out, ← heT.out]; exact rfl
            have heTl : Hid (eT ≤ 655500) := by rw [← heT.out]; exact hEl.out mn
            have heTI : (eT : Int) ≤ 655500 := by have := heTl.out; omega
            rw [hCC.out] at hC hallC
            have hNl : Hid (N ≤ 655500) := by have h1 := hNle.out; have h2 := hnl.out; show _ ≤ _; omega
            have hNc7 : Hid (N ≤ c7) := by show _ ≤ _; omega
            have hTc : (mn : Int) ≤ (c'' : Int) := by have h1 := HT.out; have h2 := Hkc.out; omega
            have hct := cut_any A7 c7 wo.heap.size N (S.take N) wr (takeN hnS.out hNle.out) (by have := hNl.out; omega) hNc7.out Bx.out.size (RdB.first (hrdS.out _ Bx.out) (by rw [hnS.out]; exact hNle.out))
            have Hct := Lib.hid hct
            clear hct
            go_upto_region 31 with (go_at_call 14; refine Hct.out.mono ?_; rintro e w2 ⟨⟨ow2, P2, ha, v2, rfl, ho⟩, hb2⟩; obtain ⟨_, rfl⟩ := allJ_one hall2.out ha; rw [hC.out] at ho; obtain ⟨A2, c2, rfl, hc2, _, hr⟩ := own_form ho; have Hc2 := Lib.hid hc2; have RC : Hid (RdB w2 w2.heap.size A2 C) := (by show Reads w2 w2.heap.size 1 A2 C.length (bs C); rw [hCl.out]; exact hr); have D2 := Lib.hid hb2; clear ho hr ha hb2 hc2)
            have B2 := Lib.hid (below_then Bx.out D2.out (Nat.le_refl _))
            have how := own_any A7 c7 wo.heap.size S w2 (by rw [hnS.out]; have := hnl.out; omega) (hrdS.out _ B2.out)
            rw [hnS.out] at how
            have How := Lib.hid how
            clear how
            go_upto_region 32 with (go_at_call 8; refine How.out.mono ?_; rintro e w3 ⟨v3, rfl, ho, hb3⟩; obtain ⟨A3, c3, rfl, _, _, _⟩ := own_form ho; have O3 : Hid (w3.ownsRow w2.heap.size 5 1 (.slice A3 nS c3) S.length (bs S)) := (by rw [hnS.out]; exact ho); have D3 := Lib.hid (below_then D2.out hb3 (Nat.le_refl _)); have D23 := Lib.hid hb3; clear ho hb3)
            have hrt : Hid (RdB w3 w.heap.size A' tl) := Reads.below Hr'.out (below_then Hb.out (below_then Bx.out D3.out (Nat.le_refl _)) (Nat.le_refl _))
            go_upto_region 33 with (at_builtin; refine push_rowN (.tmp 146) (.tmp 147) Hn'.out O3.out D23.out.size hrt.out (by have h1 := hnl.out; have h2 := hnS.out; have h3 := Hl'.out; have h4 := Hn'.out; omega) rfl rfl rfl rfl ?_; intro v4 w4 ho hb4 hz4 hz5 hk4; obtain ⟨A4, c4, rfl, hc4, _, hr⟩ := own_form ho; obtain ⟨n4, hn4⟩ : ∃ n, Hid ((S ++ tl).length = n) := ⟨_, rfl⟩; rw [hn4.out] at hc4 ⊢; have Hc4 := Lib.hid hc4; have R4 := Lib.hid hr; have D4' := Lib.hid hb4; have hz34 := Lib.hid hz5; clear ho hr hb4 hc4 hk4)
            have hn4l : Hid (n4 ≤ 700000) := by have h1 := hn4.out; rw [List.length_append] at h1; have h2 := hnl.out; have h3 := hnS.out; have h4 := Hl'.out; have h5 := Hn'.out; show _ ≤ _; omega
            have D24 : Hid (Below w2.heap.size w2 w4) := D23.out.trans D4'.out
            have Dr4 := Lib.hid (below_then D2.out D24.out (Nat.le_refl _))
            have B4 : Hid (∀ wx, Below w4.heap.size w4 wx → Below wo.heap.size wo wx) := fun wx hx => below_then (below_then Bx.out Dr4.out (Nat.le_refl _)) hx (Nat.le_refl _)
            have RC4 : Hid (∀ wx, Below w4.heap.size w4 wx → RdB wx w4.heap.size A2 C) := fun wx hx => Reads.below (Reads.more (Reads.below RC.out D24.out) D24.out.size) hx
            have hbd : Hid (Below w4.heap.size w4 w4.drew) := (Below.refl _ _).drew
            have hal := Lib.hid (allJ_any A7 c7 wo.heap.size N (S.take N) w4.drew (takeN hnS.out hNle.out) (by have := hNl.out; omega) hNc7.out (B4.out _ hbd.out).size (RdB.first (hrdS.out _ (B4.out _ hbd.out)) (by rw [hnS.out]; exact hNle.out)))
            have tk1 := Lib.hid True.intro
            go_region_held3 (fun _ => True) (first | exact trivial) (first
              | (go_at_call 13; refine hal.out.mono ?_; rintro e w5 ⟨⟨v5, lw, P5, rfl, ho, ha⟩, hb5⟩; obtain ⟨A5, c5, rfl, hR5⟩ := ho.o.reads; obtain ⟨k5, hk5⟩ : ∃ k, Hid (lw.length = k) := ⟨_, rfl⟩; rw [hk5.out]; have Rl5 := Lib.hid hR5; have hlw := Lib.hid (allJ_one ha hall2.out).1; have D5 := Lib.hid (below_then hbd.out hb5 (Nat.le_refl _)); clear ho ha hR5 hb5)
              | (go_at_call 17; refine (rowsJ_any A5 A'' c5 c'' w5.heap.size w.heap.size k5 mn lw (rows.take mn) w5 hk5.out (by rw [List.length_take, Hk.out]; have := HT.out; omega) (by have h1 := congrArg List.length hlw.out; rw [List.length_map, List.length_take, hk5.out] at h1; have h2 := hk10.out; have h3 := HT.out; omega) (by have h2 := hk10.out; have h3 := HT.out; omega) (fun r hr => by have h1 := hml.out r.l (List.mem_of_mem_take (by rw [← hlw.out]; exact List.mem_map_of_mem hr)); omega) (Nat.le_refl _) (hszw.out _ (B4.out _ D5.out)) Rl5.out (RdR.first (hrdR.out _ (B4.out _ D5.out)) (by rw [Hk.out]; exact HT.out))).mono ?_; rintro e w6 ⟨rfl, hb6⟩; rw [show decide (lw.map (·.l) = (rows.take mn).map (·.l)) = true from decide_eq_true (hlw.out.trans (by rw [← hms.out, List.map_take]))]; have D6 := Lib.hid (below_then D5.out hb6 (Nat.le_refl _)); clear hb6)
              | (go_at_call 19; clear tk1; refine (wholeJ_any A2 c2 w4.heap.size eT C w6 hCl.out (by have := heTl.out; omega) Hc2.out D6.out.size (RC4.out _ D6.out)).mono ?_; rintro e w7 ⟨⟨ow7, P7, ha, rfl⟩, hb7⟩; obtain ⟨_, rfl⟩ := allJ_one hallC.out ha; have D7 := Lib.hid (below_then D6.out hb7 (Nat.le_refl _)); clear ha hb7)
              | (go_at_call 19; refine (wholeJ_any A4 c4 w4.heap.size n4 (S ++ tl) w7 hn4.out (by have := hn4l.out; omega) Hc4.out D7.out.size (Reads.below R4.out D7.out)).mono ?_; rintro e w8 ⟨⟨ow8, P8, ha, rfl⟩, hb8⟩; have hP8 : (nS : Int) ≤ (P8 : Int) := (by have h1 := allJ_more hml'.out (by rw [hS.out]; exact ha); rw [hS.out, hnS.out] at h1; omega); have D8 := Lib.hid (below_then D7.out hb8 (Nat.le_refl _)); clear ha hb8)
              | (go_at_call 7; refine (worksJ_any w8).mono ?_; rintro e w9 ⟨rfl, hb9⟩; have D9 := Lib.hid (below_then D8.out hb9 (Nat.le_refl _)); clear hb9))
            go_wp2
            go_ret
            exact ⟨rfl, below_then Hb.out (B4.out _ D9.out) (Nat.le_refl _)⟩
  · have hd := Lib.hid (show decide (FewJ rows) = false from decide_eq_false hf)
    clear hf
    go_enter Try.func5, Try.ntmps5
    go_wp2_with (first
      | (go_at_call 21; refine Hfw.out.mono ?_; rintro e w0 ⟨rfl, rfl⟩; rw [hd.out])
      | (go_at_call 7; refine (worksJ_any _).mono ?_; rintro e w1 ⟨rfl, hb1⟩; have Hb1 := Lib.hid hb1; clear hb1))
    go_ret
    exact ⟨rfl, Hb1.out⟩
end Go.Proofs.Ytogoaihimepboaa
