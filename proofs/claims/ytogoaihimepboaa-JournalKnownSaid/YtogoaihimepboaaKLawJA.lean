/- The walk of JournalAppends: whatever the segment, the payload and the payloads, it returns true. Conditions: a payload of at most 2^47 - 4096 bytes. -/
import Derived.Test.YtogoaihimepboaaKLawJR
namespace Go.Proofs.Ytogoaihimepboaa
open Go.RowKit

theorem appJ_len {l : List UInt8} {P n : Nat} {p : List UInt8} (hn : l.length = n) (hl : n ≤ 1500) : (appJ l P p).1.length ≤ 140000 := by
  unfold appJ
  split
  · rename_i h
    have h1 := sz_10 (n := p.length) (by omega)
    simp only [List.length_append, encFr_len, List.length_take]
    unfold fsz
    omega
  · simp
theorem putJ_len {rows : List Row} (h : FewJ rows) : (putJ (rows.map (·.l))).1.length ≤ 700000 := by
  rw [putJ_ok (by intro m hm; rw [List.mem_map] at hm; obtain ⟨r, hr, rfl⟩ := hm; have := h.2 r hr; omega)]
  have := encJ_le (l := rows.map (·.l)) (by intro m hm; rw [List.mem_map] at hm; obtain ⟨r, hr, rfl⟩ := hm; have := h.2 r hr; omega)
  rw [List.length_map] at this
  have h1 := h.1
  show (encJ _).length ≤ _
  omega

set_option maxHeartbeats 4000000 in
set_option maxRecDepth 100000 in
theorem appendsLaw_any (A A' A'' : Option Addr) (c c' c'' : Nat) (l p : List UInt8) (rows : List Row) (w : World) (hl : l.length ≤ 9223372036854775807) (hcap : l.length ≤ c) (hr : RdB w w.heap.size A l) (hl' : p.length ≤ 140737488351232) (hr' : RdB w w.heap.size A' p)
    (hk : rows.length ≤ 9223372036854775807) (hrl : ∀ r ∈ rows, r.l.length ≤ 9223372036854775807) (hrr : RdR w w.heap.size A'' rows) :
    Calls Try.prog 4 #[.slice A l.length c, .slice A' p.length c', .slice A'' rows.length c''] w fun e w' => e = .returned (.bool true) ∧ Below w.heap.size w w' := by
  obtain ⟨n, hn⟩ : ∃ n, l.length = n := ⟨_, rfl⟩
  obtain ⟨n', hn'⟩ : ∃ n', p.length = n' := ⟨_, rfl⟩
  obtain ⟨k, hkn⟩ : ∃ k, rows.length = k := ⟨_, rfl⟩
  rw [hn] at hl hcap ⊢
  rw [hn'] at hl' ⊢
  rw [hkn] at hk ⊢
  have hlI : (n : Int) ≤ 9223372036854775807 := by omega
  have hlI' : (n' : Int) ≤ 140737488351232 := by omega
  have hkI : (k : Int) ≤ 9223372036854775807 := by omega
  have Hn := Lib.hid hn
  have Hn' := Lib.hid hn'
  have Hk := Lib.hid hkn
  by_cases hbig : 1500 < n
  · have hbI : (1500 : Int) < (n : Int) := by omega
    clear hbig hl hr hn hl' hr' hn' hk hrl hrr hkn hcap
    go_enter Try.func4, Try.ntmps4
    go_wp2_with (go_at_call 7; refine (worksJ_any _).mono ?_; rintro e w1 ⟨rfl, hb1⟩; have Hb1 := Lib.hid hb1; clear hb1)
    go_ret
    exact ⟨rfl, Hb1.out⟩
  have hbI : (n : Int) ≤ 1500 := by omega
  have Hl := Lib.hid (show n ≤ 1500 by omega)
  by_cases hmid : 200 < n' ∧ n' ≤ 65535
  · have hm1 : (200 : Int) < (n' : Int) := by omega
    have hm2 : (n' : Int) ≤ 65535 := by omega
    clear hbig hl hr hn hl' hr' hn' hk hrl hrr hkn hcap hmid
    go_enter Try.func4, Try.ntmps4
    go_wp2_with (go_at_call 7; refine (worksJ_any _).mono ?_; rintro e w1 ⟨rfl, hb1⟩; have Hb1 := Lib.hid hb1; clear hb1)
    go_ret
    exact ⟨rfl, Hb1.out⟩
  have hfw := fewJ_any A'' c'' w.heap.size k rows w hkn hk hrl hrr
  have Hfw := Lib.hid hfw
  have Hcap := Lib.hid hcap
  have Hr := Lib.hid hr
  have Hr' := Lib.hid hr'
  have Hrr := Lib.hid hrr
  have Hl' := Lib.hid hl'
  have hown := own_any A c w.heap.size l w (by rw [hn]; omega) hr
  rw [hn] at hown
  have Hown := Lib.hid hown
  have hgd : Hid ((n' : Int) ≤ 200 ∨ (65535 : Int) < (n' : Int)) := by
    rcases Nat.lt_or_ge 200 n' with h | h
    · right
      have : ¬ n' ≤ 65535 := fun e => hmid ⟨h, e⟩
      omega
    · left
      omega
  clear hbig hl hr hn hl' hr' hn' hk hrl hrr hkn hcap hmid hown hfw hlI
  by_cases hf : FewJ rows
  · have hd := Lib.hid (show decide (FewJ rows) = true from decide_eq_true hf)
    have Hf := Lib.hid hf
    have hk10 : Hid (k ≤ 10) := by have := hf.1; rw [Hk.out] at this; exact this
    clear hf
    -- what is answered, by letters
    obtain ⟨al, P, hall⟩ := allJ_ex l
    have Hall := Lib.hid hall
    have HP : Hid (P ≤ n) := by have := (allJ_stand hall).1; rw [Hn.out] at this; exact this
    obtain ⟨U, at_, rs, rm, ae, hU⟩ : ∃ U a s m e, Hid (appJ l P p = (U, a, s, m, e)) := ⟨_, _, _, _, _, rfl⟩
    have hUL : Hid (U.length ≤ 140000) := by have := appJ_len (P := P) (p := p) Hn.out Hl.out; rw [hU.out] at this; exact this
    obtain ⟨X, xe, hX⟩ : ∃ X e, Hid (putJ (rows.map (·.l)) = (X, e)) := ⟨_, _, rfl⟩
    have hXL : Hid (X.length ≤ 700000) := by have := putJ_len Hf.out; rw [hX.out] at this; exact this
    obtain ⟨S, hS⟩ : ∃ S, Hid (ofV p = S) := ⟨_, rfl⟩
    have hSv : Hid (∃ s m, S = rfV s m) := ⟨_, _, hS.out.symm⟩
    have hrls : Hid (∀ r ∈ rows, r.l.length ≤ 140737488351232) := fun r hr => by have := Hf.out.2 r hr; omega
    clear hall
    go_enter Try.func4, Try.ntmps4
    go_upto_region 1 with fail
    go_cut [38] from 21 to 38 (fun s wx => s = .bool false ∧ wx = w)
    case first =>
      rename_i J K1 hJ hK
      have hdec : decide ((1500 : Int) < (n : Int)) = false := decide_eq_false (by omega)
      rcases hgd.out with h2 | h2
      · go_wp2_with (go_at_call 21; refine Hfw.out.mono ?_; rintro e w0 ⟨rfl, rfl⟩; rw [hd.out])
        refine Met.intro (hJ _ _ ?_)
        exact ⟨_, _, _, _, _, _, _, _, _, _, _, _, _, _, _, _, _, _, ⟨rfl, rfl⟩, rfl⟩
      · have h3 : (200 : Int) < (n' : Int) := by omega
        have h4 : decide ((n' : Int) ≤ 65535) = false := decide_eq_false (by omega)
        go_wp2_with (go_at_call 21; refine Hfw.out.mono ?_; rintro e w0 ⟨rfl, rfl⟩; rw [hd.out])
        refine Met.intro (hJ _ _ ?_)
        exact ⟨_, _, _, _, _, _, _, _, _, _, _, _, _, _, _, _, _, _, ⟨rfl, rfl⟩, rfl⟩
    case rest =>
      obtain ⟨rfl, hww⟩ := hcut
      rw [hww]
      clear hww
      go_upto_region 4 with (go_at_call 8; refine Hown.out.mono ?_; rintro e w1 ⟨v1, rfl, hown1, hb1⟩; obtain ⟨A1, c1, rfl, hcc1, _, hr1⟩ := own_form hown1; have Hcc1 := Lib.hid hcc1; have Hr1 : Hid (RdB w1 w1.heap.size A1 l) := (by rw [← Hn.out] at hr1; exact hr1); have Hb1 := Lib.hid hb1; clear hown1 hcc1 hr1 hb1)
      go_wp2
      go_loopw [8] (fun i wr => ∃ t : Nat, t ≤ 2 ∧ i = .int .i64 (t : Int) ∧ Below w1.heap.size w1 wr) (fun i _ => 2 - (intOf i).toNat)
      case atStart => exact ⟨0, by omega, rfl, .refl _ _⟩
      case round =>
        obtain ⟨t, ht, rfl, hb⟩ := hrel
        have Bwr := Lib.hid hb
        clear hb
        have hB0 : Hid (w.heap.size ≤ w1.heap.size) := Hb1.out.size
        have hrb : Hid (∀ wx, Below w1.heap.size w1 wx → RdB wx w.heap.size A l) := fun wx hx => Reads.below (Reads.below Hr.out Hb1.out) (hx.mono hB0.out)
        have hrp : Hid (∀ wx, Below w1.heap.size w1 wx → RdB wx w.heap.size A' p) := fun wx hx => Reads.below (Reads.below Hr'.out Hb1.out) (hx.mono hB0.out)
        have hrr : Hid (∀ wx, Below w1.heap.size w1 wx → RdR wx w.heap.size A'' rows) := fun wx hx => RdR.below (RdR.below Hrr.out Hb1.out) (hx.mono hB0.out)
        have hro : Hid (∀ wx, Below w1.heap.size w1 wx → RdB wx w1.heap.size A1 l) := fun wx hx => Reads.below Hr1.out hx
        have hsz1 : Hid (∀ wx, Below w1.heap.size w1 wx → w.heap.size ≤ wx.heap.size) := fun wx hx => Nat.le_trans hB0.out hx.size
        by_cases ht2 : t < 2
        · have htI : (t : Int) < 2 := by omega
          go_upto_region 8 with (go_at_call 22; refine (append_any A A' c w.heap.size n c' w.heap.size n' l p wr Hn.out (by have := Hl.out; omega) Hcap.out (hsz1.out _ Bwr.out) (hrb.out _ Bwr.out) Hn'.out Hl'.out (hsz1.out _ Bwr.out) (hrp.out _ Bwr.out)).mono ?_; rintro e w2 ⟨⟨ow2, P2, ha, v2, rfl, ho⟩, hbw2⟩; obtain ⟨_, rfl⟩ := allJ_one Hall.out ha; rw [hU.out] at ho ⊢; simp only [rfV] at ho ⊢; obtain ⟨A2, c2, rfl, _, _, hr⟩ := own_form ho; have Os := Lib.hid ho; have Rs := Lib.hid hr; have Dw2 := Lib.hid hbw2; clear ho hr ha hbw2)
          obtain ⟨W2, hW2⟩ : ∃ W2, Hid (w2.alloc (.cells #[.int .u64 (rs : Int), .int .u64 (rm : Int)] 25) = W2) := ⟨_, rfl⟩
          obtain ⟨g2, hg2⟩ : ∃ g2, Hid (w2.heap.size = g2) := ⟨_, rfl⟩
          have hcx2 : Hid (W2.heap[g2]? = some (.cells #[.int .u64 (rs : Int), .int .u64 (rm : Int)] 25 (0, 0))) := by rw [← hW2.out, ← hg2.out]; exact heap_alloc_new w2 _
          have EW2 : Hid (Below w2.heap.size w2 W2) := by rw [← hW2.out]; exact below_new _ _
          have hzW2 : Hid (W2.heap.size = g2 + 1) := by rw [← hW2.out, ← hg2.out]; show _ = _; simp
          have BW2 := Lib.hid (below_then (below_then Bwr.out Dw2.out (Nat.le_refl _)) EW2.out (Nat.le_refl _))
          rw [hW2.out, hg2.out]
          go_upto_region 9 with (go_at_call 23; refine (refAppend_any A1 A' c1 w1.heap.size n c' w.heap.size n' l p W2 Hn.out (by have := Hl.out; omega) Hcc1.out BW2.out.size (hro.out _ BW2.out) Hn'.out Hl'.out (hsz1.out _ BW2.out) (hrp.out _ BW2.out)).mono ?_; rintro e w3 ⟨⟨ow3, P3, ha, v3, rfl, ho⟩, hbw3⟩; obtain ⟨_, rfl⟩ := allJ_one Hall.out ha; rw [hU.out] at ho ⊢; simp only [rfV] at ho ⊢; obtain ⟨A3, c3, rfl, _, _, hr⟩ := own_form ho; have Ru := Lib.hid hr; have Dw3 := Lib.hid hbw3; clear ho hr ha hbw3)
          obtain ⟨W3, hW3⟩ : ∃ W3, Hid (w3.alloc (.cells #[.int .u64 (rs : Int), .int .u64 (rm : Int)] 34) = W3) := ⟨_, rfl⟩
          obtain ⟨g3, hg3⟩ : ∃ g3, Hid (w3.heap.size = g3) := ⟨_, rfl⟩
          have hcx3 : Hid (W3.heap[g3]? = some (.cells #[.int .u64 (rs : Int), .int .u64 (rm : Int)] 34 (0, 0))) := by rw [← hW3.out, ← hg3.out]; exact heap_alloc_new w3 _
          have EW3 : Hid (Below w3.heap.size w3 W3) := by rw [← hW3.out]; exact below_new _ _
          have hzW3 : Hid (W3.heap.size = g3 + 1) := by rw [← hW3.out, ← hg3.out]; show _ = _; simp
          have E23 := Lib.hid (below_then Dw3.out EW3.out (Nat.le_refl _))
          have BW3 := Lib.hid (below_then BW2.out E23.out (Nat.le_refl _))
          have HSb : Hid (∀ wx, Below W3.heap.size W3 wx → (wx.cell? ⟨g2, 0, none⟩ = some (.int .u64 (rs : Int)) ∧ wx.cell? ⟨g2, 1, none⟩ = some (.int .u64 (rm : Int))) ∧ (wx.cell? ⟨g3, 0, none⟩ = some (.int .u64 (rs : Int)) ∧ wx.cell? ⟨g3, 1, none⟩ = some (.int .u64 (rm : Int)))) := fun wx hx => by
            have h1 := E23.out.size
            have h2 := hzW2.out
            have h3 := hzW3.out
            exact ⟨two_cells ((hx.block g2 (by omega)).trans ((E23.out.block g2 (by omega)).trans hcx2.out)), two_cells ((hx.block g3 (by omega)).trans hcx3.out)⟩
          rw [hW3.out, hg3.out]
          go_upto_region 10 with (go_at_call 24; refine (putJ_any A'' c'' k w.heap.size rows W3 Hk.out (by have := hk10.out; omega) hrls.out (hsz1.out _ BW3.out) (hrr.out _ BW3.out)).mono ?_; rintro e w4 ⟨⟨v4, rfl, ho⟩, hbw4⟩; rw [hX.out] at ho ⊢; simp only at ho ⊢; obtain ⟨A4, c4, rfl, _, _, hr⟩ := own_form ho; have Ox := Lib.hid ho; have Rx := Lib.hid hr; have Dw4 := Lib.hid hbw4; clear ho hr hbw4)
          have Bw4 := Lib.hid (below_then BW3.out Dw4.out (Nat.le_refl _))
          go_upto_region 11 with (go_at_call 25; refine (refPutJ_any A'' c'' k w.heap.size rows w4 Hk.out (by have := hk10.out; omega) hrls.out (hsz1.out _ Bw4.out) (hrr.out _ Bw4.out)).mono ?_; rintro e w5 ⟨⟨v5, rfl, ho⟩, hbw5⟩; rw [hX.out] at ho ⊢; simp only at ho ⊢; obtain ⟨A5, c5, rfl, _, _, hr⟩ := own_form ho; have Ry := Lib.hid hr; have Dw5 := Lib.hid hbw5; clear ho hr hbw5)
          -- all that is answered, as it lies now
          have E45 := Lib.hid (below_then Dw4.out Dw5.out (Nat.le_refl _))
          have E25 := Lib.hid (below_then E23.out E45.out (Nat.le_refl _))
          have Es5 := Lib.hid (below_then EW2.out E25.out (Nat.le_refl _))
          have Eu5 := Lib.hid (below_then EW3.out E45.out (Nat.le_refl _))
          have Rs5 : Hid (∀ wx, Below w5.heap.size w5 wx → RdB wx w5.heap.size A2 U) := fun wx hx => Reads.below (Reads.more (Reads.below Rs.out Es5.out) Es5.out.size) hx
          have Ru5 : Hid (∀ wx, Below w5.heap.size w5 wx → RdB wx w5.heap.size A3 U) := fun wx hx => Reads.below (Reads.more (Reads.below Ru.out Eu5.out) Eu5.out.size) hx
          have Rx5 : Hid (∀ wx, Below w5.heap.size w5 wx → RdB wx w5.heap.size A4 X) := fun wx hx => Reads.below (Reads.more (Reads.below Rx.out Dw5.out) Dw5.out.size) hx
          have Ry5 : Hid (∀ wx, Below w5.heap.size w5 wx → RdB wx w5.heap.size A5 X) := fun wx hx => Reads.below Ry.out hx
          have B5 : Hid (∀ wx, Below w5.heap.size w5 wx → Below w1.heap.size w1 wx) := fun wx hx => below_then (below_then Bw4.out Dw5.out (Nat.le_refl _)) hx (Nat.le_refl _)
          have hE45 : Hid (∀ wx, Below w5.heap.size w5 wx → Below W3.heap.size W3 wx) := fun wx hx => below_then E45.out hx (Nat.le_refl _)
          have tk1 := Lib.hid True.intro
          have tk2 := Lib.hid True.intro
          have tk3 := Lib.hid True.intro
          go_upto_region 13 with (first
            | (go_at_call 16; clear tk1; refine (sameN A2 A3 c2 c3 w5.heap.size w5.heap.size U.length U.length U U w5 rfl rfl (by have := hUL.out; omega) (Rs5.out _ (Below.refl _ _)) (Ru5.out _ (Below.refl _ _)) rfl).mono ?_; rintro e w6 ⟨rfl, hb6⟩; have D6 := Lib.hid hb6; obtain ⟨⟨k0, k1⟩, k2, k3⟩ := HSb.out _ (hE45.out _ hb6); clear hb6)
            | (go_at_call 26; clear tk2; refine (sameR_any rs rm w6).mono ?_; rintro e w7 ⟨rfl, hb7⟩; have D7 := Lib.hid (below_then D6.out hb7 (Nat.le_refl _)); clear hb7)
            | (go_at_call 16; refine (sameN A4 A5 c4 c5 w5.heap.size w5.heap.size X.length X.length X X w7 rfl rfl (by have := hXL.out; omega) (Rx5.out _ D7.out) (Ry5.out _ D7.out) rfl).mono ?_; rintro e w8 ⟨rfl, hb8⟩; have D8 := Lib.hid (below_then D7.out hb8 (Nat.le_refl _)); clear hb8)
            | (go_at_call 27; refine (of_any A' c' w.heap.size n' p w8 Hn'.out Hl'.out (hsz1.out _ (B5.out _ D8.out)) (hrp.out _ (B5.out _ D8.out))).mono ?_; rintro e w9 ⟨rfl, hb9⟩; have D9 := Lib.hid (below_then D8.out hb9 (Nat.le_refl _)); clear hb9)
            | (go_at_call 28; refine (refOf_any A' c' w.heap.size n' p w9 Hn'.out Hl'.out (hsz1.out _ (B5.out _ D9.out)) (hrp.out _ (B5.out _ D9.out))).mono ?_; rintro e wa ⟨rfl, hba⟩; have Da := Lib.hid (below_then D9.out hba (Nat.le_refl _)); clear hba)
            | (go_at_call 26; refine (sameR_any p.length (sum p).toNat wa).mono ?_; rintro e wb ⟨rfl, hbb⟩; have Db := Lib.hid (below_then Da.out hbb (Nat.le_refl _)); clear hbb))
          -- both answers are written over
          have Bb := Lib.hid (B5.out _ Db.out)
          have Osb := Lib.hid (own_below Os.out (below_then Es5.out Db.out (Nat.le_refl _)) (Nat.le_refl _))
          have Oxb := Lib.hid (own_below Ox.out (below_then Dw5.out Db.out (Nat.le_refl _)) (Nat.le_refl _))
          have hz : Hid (wr.heap.size ≤ w2.heap.size ∧ w2.heap.size ≤ W3.heap.size) := ⟨Dw2.out.size, Nat.le_trans EW2.out.size E23.out.size⟩
          have hsp1 := Lib.hid (spoil_any wr.heap.size U.length (.slice A2 U.length c2) (bs U) wb (by have := hUL.out; omega) Osb.out)
          have tk4 := Lib.hid True.intro
          go_wp2_with (first
            | (go_at_call 20; clear tk4; refine hsp1.out.mono ?_; rintro e s1 ⟨rfl, _, hg1⟩; have T1 : Hid (Touch (fun k => wr.heap.size ≤ k ∧ k < w2.heap.size) wb s1) := (Touch.grown hg1 fun k e => Os.out.lt k e); have hsp2 := Lib.hid (spoil_any W3.heap.size X.length (.slice A4 X.length c4) (bs X) s1 (by have := hXL.out; omega) (own_touch Oxb.out T1.out fun b hb e => by have h1 := Ox.out.lt b hb; have h2 := hz.out; omega)); clear hg1)
            | (go_at_call 20; refine hsp2.out.mono ?_; rintro e s2 ⟨rfl, _, hg2⟩; have T2 : Hid (Touch (fun k => W3.heap.size ≤ k) s1 s2) := (Touch.grown hg2 fun k e => (Ox.out.lt k e).1); clear hg2))
          have Bs2 : Below w1.heap.size w1 s2 := by
            have h2 := hz.out
            have h3 := Bwr.out.size
            have h4 := Bb.out.size
            exact (Bb.out.trans (T1.out.below (by omega) fun b hb => by omega)).trans (T2.out.below (by have := T1.out.size; omega) fun b hb => by omega)
          go_roundw
          case rel => exact ⟨t + 1, by omega, by go_num, Bs2⟩
          case measure => simp [intOf]; omega
        · obtain rfl : t = 2 := by omega
          have hsb := Lib.hid (sameN A A1 c c1 w.heap.size w1.heap.size n n l l wr Hn.out Hn.out (by have := Hl.out; omega) (hrb.out _ Bwr.out) (hro.out _ Bwr.out) rfl)
          go_wp2_with (first
            | (go_at_call 16; refine hsb.out.mono ?_; rintro e w5 ⟨rfl, hb5⟩; have Hb5 := Lib.hid hb5; clear hb5)
            | (go_at_call 7; refine (worksJ_any _).mono ?_; rintro e w6 ⟨rfl, hb6⟩; have Hb6 := Lib.hid hb6; clear hb6))
          go_ret
          have h1 := Hb1.out.trans (Bwr.out.mono Hb1.out.size)
          have h2 := h1.trans (Hb5.out.mono h1.size)
          exact ⟨rfl, h2.trans (Hb6.out.mono h2.size)⟩
  · have hd := Lib.hid (show decide (FewJ rows) = false from decide_eq_false hf)
    clear hf
    go_enter Try.func4, Try.ntmps4
    rcases hgd.out with h2 | h2
    · go_wp2_with (first
        | (go_at_call 21; refine Hfw.out.mono ?_; rintro e w0 ⟨rfl, rfl⟩; rw [hd.out])
        | (go_at_call 7; refine (worksJ_any _).mono ?_; rintro e w1 ⟨rfl, hb1⟩; have Hb1 := Lib.hid hb1; clear hb1))
      go_ret
      exact ⟨rfl, Hb1.out⟩
    · have h3 : (200 : Int) < (n' : Int) := by omega
      go_wp2_with (first
        | (go_at_call 21; refine Hfw.out.mono ?_; rintro e w0 ⟨rfl, rfl⟩; rw [hd.out])
        | (go_at_call 7; refine (worksJ_any _).mono ?_; rintro e w1 ⟨rfl, hb1⟩; have Hb1 := Lib.hid hb1; clear hb1))
      go_ret
      exact ⟨rfl, Hb1.out⟩
end Go.Proofs.Ytogoaihimepboaa
