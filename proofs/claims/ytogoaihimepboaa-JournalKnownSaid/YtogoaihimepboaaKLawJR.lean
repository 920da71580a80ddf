/- The walk of JournalReads: whatever the bytes, the place and the reference, it returns true. Conditions: none. -/
import Derived.Test.YtogoaihimepboaaKJoQ
namespace Go.Proofs.Ytogoaihimepboaa
open Go.RowKit

theorem getJ_len (l : List UInt8) (p : Int) (s m : Nat) : (getJ l p s m).1.length ≤ 65535 := by
  unfold getJ
  split
  · simp
  · split
    · exact nxJ_len l p
    · simp
theorem takeN {l : List UInt8} {n p : Nat} (hn : l.length = n) (hp : p ≤ n) : (l.take p).length = p := by rw [List.length_take]; omega
theorem sameN (A A' : Option Addr) (c c' B B' n n' : Nat) (l m : List UInt8) (w : World) (hn : l.length = n) (hn' : m.length = n') (hl : n ≤ 140737488351232) (hr : RdB w B A l) (hm : RdB w B' A' m) (he : l = m) :
    Calls Try.prog 16 #[.slice A n c, .slice A' n' c'] w fun e w' => e = .returned (.bool true) ∧ Below w.heap.size w w' := by
  subst hn hn' he
  refine (sameBytes_any A A' c c' B B' l l w hl hr hm).mono ?_
  rintro e w' ⟨rfl, k, rfl⟩
  exact ⟨by rw [decide_eq_true rfl], below_drewN (Below.refl _ _) k⟩

set_option maxHeartbeats 4000000 in
set_option maxRecDepth 100000 in
theorem readsLaw_any (A : Option Addr) (c : Nat) (l : List UInt8) (p : Int) (s m : Nat) (w : World) (hl : l.length ≤ 9223372036854775807) (hcap : l.length ≤ c) (hr : RdB w w.heap.size A l) :
    Calls Try.prog 3 #[.slice A l.length c, .int .i64 p, rfV s m] w fun e w' => e = .returned (.bool true) ∧ Below w.heap.size w w' := by
  obtain ⟨n, hn⟩ : ∃ n, l.length = n := ⟨_, rfl⟩
  rw [hn] at hl hcap ⊢
  have hlI : (n : Int) ≤ 9223372036854775807 := by omega
  obtain ⟨W, hW⟩ : ∃ W, Hid (w.alloc (.cells #[.int .u64 (s : Int), .int .u64 (m : Int)] 25) = W) := ⟨_, rfl⟩
  obtain ⟨g, hg⟩ : ∃ g, Hid (w.heap.size = g) := ⟨_, rfl⟩
  have hbW : Hid (Below w.heap.size w W) := by rw [← hW.out]; exact below_new _ _
  have hbx : Hid (W.heap[g]? = some (.cells #[.int .u64 (s : Int), .int .u64 (m : Int)] 25 (0, 0))) := by rw [← hW.out, ← hg.out]; exact heap_alloc_new w _
  have hgW : Hid (g < W.heap.size) := by rw [← hW.out, ← hg.out]; show _ < _; simp
  have hrW : Hid (RdB W w.heap.size A l) := Reads.below hr hbW.out
  have Hn := Lib.hid hn
  unfold rfV
  by_cases hbig : 1500 < n
  · have hbI : (1500 : Int) < (n : Int) := by omega
    clear hbig hl hr hn
    go_enter Try.func3, Try.ntmps3
    go_upto_region 1 with fail
    rw [hg.out, hW.out]
    go_wp2_with (go_at_call 7; refine (worksJ_any _).mono ?_; rintro e w1 ⟨rfl, hb1⟩; have Hb1 := Lib.hid hb1; clear hb1)
    go_ret
    exact ⟨rfl, hbW.out.trans (Hb1.out.mono hbW.out.size)⟩
  have hbI : (n : Int) ≤ 1500 := by omega
  have Hl := Lib.hid (show n ≤ 1500 by omega)
  have Hcap := Lib.hid hcap
  have hown := own_any A c w.heap.size l W (by rw [hn]; omega) hrW.out
  rw [hn] at hown
  have Hown := Lib.hid hown
  clear hbig hl hr hn hcap hown hlI
  go_enter Try.func3, Try.ntmps3
  go_upto_region 1 with fail
  rw [hg.out, hW.out]
  go_upto_region 4 with (go_at_call 8; refine Hown.out.mono ?_; rintro e w1 ⟨v1, rfl, hown1, hb1⟩; obtain ⟨A1, c1, rfl, hcc1, _, hr1⟩ := own_form hown1; have Hcc1 := Lib.hid hcc1; have Hr1 : Hid (RdB w1 w1.heap.size A1 l) := (by rw [← Hn.out] at hr1; exact hr1); have Hb1 := Lib.hid hb1; clear hown1 hcc1 hr1 hb1)
  have hbw1 : Hid (Below w.heap.size w w1) := hbW.out.trans (Hb1.out.mono hbW.out.size)
  -- what is answered, by letters
  obtain ⟨M, nx, er, hM⟩ : ∃ M nx e, Hid (nxJ l p = (M, nx, e)) := ⟨_, _, _, rfl⟩
  obtain ⟨G, ge, hG⟩ : ∃ G e, Hid (getJ l p s m = (G, e)) := ⟨_, _, rfl⟩
  obtain ⟨al, P, hall⟩ := allJ_ex l
  have Hall := Lib.hid hall
  have HP : Hid (P ≤ n) := by have := (allJ_stand hall).1; rw [Hn.out] at this; exact this
  have hPI : (P : Int) ≤ 1500 := by have := HP.out; have := Hl.out; omega
  have hML : Hid (M.length ≤ 65535) := by have := nxJ_len l p; rw [hM.out] at this; exact this
  have hGL : Hid (G.length ≤ 65535) := by have := getJ_len l p s m; rw [hG.out] at this; exact this
  clear hall
  go_wp2
  go_loopw [8] (fun i wr => ∃ t : Nat, t ≤ 2 ∧ i = .int .i64 (t : Int) ∧ Below w1.heap.size w1 wr) (fun i _ => 2 - (intOf i).toNat)
  case atStart => exact ⟨0, by omega, rfl, .refl _ _⟩
  case round =>
    obtain ⟨t, ht, rfl, hb⟩ := hrel
    have Hb := Lib.hid hb
    clear hb
    have hB0 : Hid (w.heap.size ≤ w1.heap.size) := hbw1.out.size
    have hrb : Hid (∀ wx, Below w1.heap.size w1 wx → RdB wx w.heap.size A l) := fun wx hx => Reads.below (Reads.below hrW.out (Hb1.out.mono hbW.out.size)) (hx.mono hB0.out)
    have hro : Hid (∀ wx, Below w1.heap.size w1 wx → RdB wx w1.heap.size A1 l) := fun wx hx => Reads.below Hr1.out hx
    by_cases ht2 : t < 2
    · have htI : (t : Int) < 2 := by omega
      have Bwr := Hb
      have HSb : Hid (∀ wx, Below w1.heap.size w1 wx → wx.cell? ⟨g, 0, none⟩ = some (.int .u64 (s : Int)) ∧ wx.cell? ⟨g, 1, none⟩ = some (.int .u64 (m : Int))) := fun wx hx => by
        have h1 := Hb1.out.size
        have h2 := hgW.out
        exact two_cells ((hx.block g (by omega)).trans ((Hb1.out.block g h2).trans hbx.out))
      have hsz1 : Hid (∀ wx, Below w1.heap.size w1 wx → w.heap.size ≤ wx.heap.size) := fun wx hx => Nat.le_trans hB0.out hx.size
      go_upto_region 8 with (go_at_call 9; refine (next_any A c w.heap.size n l p wr Hn.out (by have := Hl.out; omega) Hcap.out (hsz1.out _ Bwr.out) (hrb.out _ Bwr.out)).mono ?_; rintro e w2 ⟨⟨v2, rfl, ho⟩, hbw2⟩; rw [hM.out] at ho ⊢; simp only at ho ⊢; obtain ⟨A2, c2, rfl, _, _, hr⟩ := own_form ho; have Op := Lib.hid ho; have Rp := Lib.hid hr; clear ho hr; have Dw2 := Lib.hid hbw2; have Bw2 := Lib.hid (below_then Bwr.out hbw2 (Nat.le_refl _)); clear hbw2)
      go_upto_region 9 with (go_at_call 10; refine (refNext_any A1 c1 w1.heap.size n l p w2 Hn.out (by have := Hl.out; omega) Hcc1.out Bw2.out.size (hro.out _ Bw2.out)).mono ?_; rintro e w3 ⟨⟨v3, rfl, ho⟩, hbw3⟩; rw [hM.out] at ho ⊢; simp only at ho ⊢; obtain ⟨A3, c3, rfl, _, _, hr⟩ := own_form ho; have Oq := Lib.hid ho; have Rq := Lib.hid hr; clear ho hr; have Dw3 := Lib.hid hbw3; have Bw3 := Lib.hid (below_then Bw2.out hbw3 (Nat.le_refl _)); clear hbw3)
      obtain ⟨k0, k1⟩ := HSb.out _ Bw3.out
      go_upto_region 10 with (go_at_call 11; refine (get_any A c w.heap.size n l p s m w3 Hn.out (by have := Hl.out; omega) Hcap.out (hsz1.out _ Bw3.out) (hrb.out _ Bw3.out)).mono ?_; rintro e w4 ⟨⟨v4, rfl, ho⟩, hbw4⟩; rw [hG.out] at ho ⊢; simp only at ho ⊢; obtain ⟨A4, c4, rfl, _, _, hr⟩ := own_form ho; have Ox := Lib.hid ho; have Rx := Lib.hid hr; clear ho hr; have Dw4 := Lib.hid hbw4; have Bw4 := Lib.hid (below_then Bw3.out hbw4 (Nat.le_refl _)); clear hbw4)
      clear k0 k1
      obtain ⟨k0, k1⟩ := HSb.out _ Bw4.out
      go_upto_region 11 with (go_at_call 12; refine (refGet_any A1 c1 w1.heap.size n l p s m w4 Hn.out (by have := Hl.out; omega) Hcc1.out Bw4.out.size (hro.out _ Bw4.out)).mono ?_; rintro e w5 ⟨⟨v5, rfl, ho⟩, hbw5⟩; rw [hG.out] at ho ⊢; simp only at ho ⊢; obtain ⟨A5, c5, rfl, _, _, hr⟩ := own_form ho; have Oy := Lib.hid ho; have Ry := Lib.hid hr; clear ho hr; have Dw5 := Lib.hid hbw5; have Bw5 := Lib.hid (below_then Bw4.out hbw5 (Nat.le_refl _)); clear hbw5)
      clear k0 k1
      go_upto_region 12 with (first
        | (go_at_call 13; refine (allJ_any A c w.heap.size n l w5 Hn.out (by have := Hl.out; omega) Hcap.out (hsz1.out _ Bw5.out) (hrb.out _ Bw5.out)).mono ?_; rintro e w6 ⟨⟨v6, lw, P6, rfl, ho, ha⟩, hbw6⟩; obtain ⟨A6, c6, rfl, hR6⟩ := ho.o.reads; obtain ⟨k6, hk6⟩ : ∃ k, Hid (lw.length = k) := ⟨_, rfl⟩; rw [hk6.out] at ho ⊢; have Ol := Lib.hid ho; have Rl := Lib.hid hR6; have hlw := Lib.hid (allJ_one ha Hall.out).1; clear ho ha hR6; have Dw6 := Lib.hid hbw6; have Bw6 := Lib.hid (below_then Bw5.out hbw6 (Nat.le_refl _)); clear hbw6)
        | (go_at_call 14; refine (cut_any A c w.heap.size n l w6 Hn.out (by have := Hl.out; omega) Hcap.out (hsz1.out _ Bw6.out) (hrb.out _ Bw6.out)).mono ?_; rintro e w7 ⟨⟨ow7, P7, ha, v7, rfl, ho⟩, hbw7⟩; obtain ⟨_, rfl⟩ := allJ_one Hall.out ha; obtain ⟨A7, c7, rfl, _, _, hr⟩ := own_form ho; have Oc := Lib.hid ho; have Rc : Hid (RdB w7 w7.heap.size A7 (l.take P)) := (by show Reads w7 w7.heap.size 1 A7 (l.take P).length (bs (l.take P)); rw [takeN Hn.out HP.out]; exact hr); clear ho hr ha; have Dw7 := Lib.hid hbw7; have Bw7 := Lib.hid (below_then Bw6.out hbw7 (Nat.le_refl _)); clear hbw7))
      go_upto_region 13 with (go_at_call 15; refine (refWholeJ_any A1 c1 w1.heap.size n l w7 Hn.out (by have := Hl.out; omega) Hcc1.out Bw7.out.size (hro.out _ Bw7.out)).mono ?_; rintro e w8 ⟨⟨ow8, P8, ha, rfl⟩, hbw8⟩; obtain ⟨_, rfl⟩ := allJ_one Hall.out ha; clear ha; have Dw8 := Lib.hid hbw8; have Bw8 := Lib.hid (below_then Bw7.out hbw8 (Nat.le_refl _)); clear hbw8)
      -- all that is answered, as it lies now
      have E7 := Lib.hid Dw8.out
      have E6 := Lib.hid (below_then Dw7.out E7.out (Nat.le_refl _))
      have E5 := Lib.hid (below_then Dw6.out E6.out (Nat.le_refl _))
      have E4 := Lib.hid (below_then Dw5.out E5.out (Nat.le_refl _))
      have E3 := Lib.hid (below_then Dw4.out E4.out (Nat.le_refl _))
      have E2 := Lib.hid (below_then Dw3.out E3.out (Nat.le_refl _))
      have Rp8 : Hid (∀ wx, Below w8.heap.size w8 wx → RdB wx w8.heap.size A2 M) := fun wx hx => Reads.below (Reads.more (Reads.below Rp.out E2.out) E2.out.size) hx
      have Rq8 : Hid (∀ wx, Below w8.heap.size w8 wx → RdB wx w8.heap.size A3 M) := fun wx hx => Reads.below (Reads.more (Reads.below Rq.out E3.out) E3.out.size) hx
      have Rx8 : Hid (∀ wx, Below w8.heap.size w8 wx → RdB wx w8.heap.size A4 G) := fun wx hx => Reads.below (Reads.more (Reads.below Rx.out E4.out) E4.out.size) hx
      have Ry8 : Hid (∀ wx, Below w8.heap.size w8 wx → RdB wx w8.heap.size A5 G) := fun wx hx => Reads.below (Reads.more (Reads.below Ry.out E5.out) E5.out.size) hx
      have Rl8 : Hid (∀ wx, Below w8.heap.size w8 wx → RdR wx w8.heap.size A6 lw) := fun wx hx => RdR.below (RdR.more (RdR.below Rl.out E6.out) E6.out.size) hx
      have Rc8 : Hid (∀ wx, Below w8.heap.size w8 wx → RdB wx w8.heap.size A7 (l.take P)) := fun wx hx => Reads.below (Reads.more (Reads.below Rc.out E7.out) E7.out.size) hx
      have B8 : Hid (∀ wx, Below w8.heap.size w8 wx → Below w1.heap.size w1 wx) := fun wx hx => below_then Bw8.out hx (Nat.le_refl _)
      have B88 := Lib.hid (Below.refl w8.heap.size w8)
      have hlwl : Hid (∀ r ∈ lw, r.l.length ≤ 65535) := fun r hr => (allJ_stand Hall.out).2.2 r.l (by rw [← hlw.out]; exact List.mem_map_of_mem hr)
      have hk6l : Hid (k6 ≤ 1500) := by
        have h1 := allJ_few Hall.out
        rw [← hlw.out, List.length_map, hk6.out, Hn.out] at h1
        have h2 := Hl.out
        show _ ≤ _
        omega
      have tk1 := Lib.hid True.intro
      have tk2 := Lib.hid True.intro
      have tk3 := Lib.hid True.intro
      have hPc : (P : Int) ≤ (c1 : Int) := by have h1 := HP.out; have h2 := Hcc1.out; omega
      go_upto_region 15 with (first
        | (go_at_call 16; clear tk1; refine (sameN A2 A3 c2 c3 w8.heap.size w8.heap.size M.length M.length M M w8 rfl rfl (by have := hML.out; omega) (Rp8.out _ B88.out) (Rq8.out _ B88.out) rfl).mono ?_; rintro e w9 ⟨rfl, hb9⟩; have Dw9 := Lib.hid hb9; clear hb9)
        | (go_at_call 16; clear tk2; refine (sameN A4 A5 c4 c5 w8.heap.size w8.heap.size G.length G.length G G w9 rfl rfl (by have := hGL.out; omega) (Rx8.out _ Dw9.out) (Ry8.out _ Dw9.out) rfl).mono ?_; rintro e wa ⟨rfl, hba⟩; have Dwa := Lib.hid (below_then Dw9.out hba (Nat.le_refl _)); clear hba)
        | (go_at_call 18; refine (refAllJ_any A1 c1 w1.heap.size n l wa Hn.out (by have := Hl.out; omega) Hcc1.out (B8.out _ Dwa.out).size (hro.out _ (B8.out _ Dwa.out))).mono ?_; rintro e wb ⟨⟨vb, lb, Pb, rfl, ho, ha⟩, hbb⟩; obtain ⟨Ab, cb, rfl, hRb⟩ := ho.reads; obtain ⟨kb, hkb⟩ : ∃ k, Hid (lb.length = k) := ⟨_, rfl⟩; rw [hkb.out]; have Rlb := Lib.hid hRb; have hlb := Lib.hid (allJ_one ha Hall.out).1; have Dwb := Lib.hid (below_then Dwa.out hbb (Nat.le_refl _)); clear ho ha hRb hbb)
        | (go_at_call 17; refine (rowsJ_any A6 Ab c6 cb w8.heap.size wb.heap.size k6 kb lw lb wb hk6.out hkb.out (by have := hk6l.out; omega) (by have h1 := congrArg List.length (hlb.out.trans hlw.out.symm); rw [List.length_map, List.length_map, hkb.out, hk6.out] at h1; have := hk6l.out; omega) (fun r hr => Nat.le_trans (hlwl.out r hr) (by decide)) Dwb.out.size (Nat.le_refl _) (Rl8.out _ Dwb.out) Rlb.out).mono ?_; rintro e wc ⟨rfl, hbc⟩; rw [show decide (lw.map (·.l) = lb.map (·.l)) = true from decide_eq_true (hlw.out.trans hlb.out.symm)]; have Dwc := Lib.hid (below_then Dwb.out hbc (Nat.le_refl _)); clear hbc)
        | (go_at_call 19; refine (wholeJ_any A c w.heap.size n l wc Hn.out (by have := Hl.out; omega) Hcap.out (hsz1.out _ (B8.out _ Dwc.out)) (hrb.out _ (B8.out _ Dwc.out))).mono ?_; rintro e wd ⟨⟨owd, Pd, ha, rfl⟩, hbd⟩; obtain ⟨_, rfl⟩ := allJ_one Hall.out ha; have Dwd := Lib.hid (below_then Dwc.out hbd (Nat.le_refl _)); clear ha hbd)
        | (go_at_call 16; clear tk3; refine (sameN A7 A1 c7 c1 w8.heap.size w1.heap.size P P (l.take P) (l.take P) wd (takeN Hn.out HP.out) (takeN Hn.out HP.out) (by have h1 := HP.out; have h2 := Hl.out; omega) (Rc8.out _ Dwd.out) (RdB.first (hro.out _ (B8.out _ Dwd.out)) (by rw [Hn.out]; exact HP.out)) rfl).mono ?_; rintro e we ⟨rfl, hbe⟩; have Dwe := Lib.hid (below_then Dwd.out hbe (Nat.le_refl _)); clear hbe)
        | (go_at_call 16; refine (sameN A A1 c c1 w.heap.size w1.heap.size n n l l we Hn.out Hn.out (by have := Hl.out; omega) (hrb.out _ (B8.out _ Dwe.out)) (hro.out _ (B8.out _ Dwe.out)) rfl).mono ?_; rintro e wf ⟨rfl, hbf⟩; have Dwf := Lib.hid (below_then Dwe.out hbf (Nat.le_refl _)); clear hbf))
      -- all of it is written over
      have Ef := Lib.hid Dwf.out
      have Sp : Hid (∀ n' A' c' xs' base wx, n' ≤ 65535 → wx.ownsRow base 5 1 (.slice A' n' c') n' xs' → Calls Try.prog 20 #[.slice A' n' c'] wx fun e w' => e = .returned (.tuple #[]) ∧ wx.grownBy w' (Value.slice A' n' c').ownBlock) := fun n' A' c' xs' base wx h1 h2 => (spoil_any base n' _ xs' wx (by omega) h2).mono fun e w' h => ⟨h.1, h.2.2⟩
      have Opf := Lib.hid (own_below Op.out (below_then E2.out Ef.out (Nat.le_refl _)) (Nat.le_refl _))
      have Oxf := Lib.hid (own_below Ox.out (below_then E4.out Ef.out (Nat.le_refl _)) (Nat.le_refl _))
      have Olf := Lib.hid (Ol.out.below (below_then E6.out Ef.out (Nat.le_refl _)))
      have Ocf := Lib.hid (own_below Oc.out (below_then E7.out Ef.out (Nat.le_refl _)) (Nat.le_refl _))
      have hz : Hid (wr.heap.size ≤ w2.heap.size ∧ w2.heap.size ≤ w3.heap.size ∧ w3.heap.size ≤ w4.heap.size ∧ w4.heap.size ≤ w5.heap.size ∧ w5.heap.size ≤ w6.heap.size ∧ w6.heap.size ≤ w7.heap.size) := ⟨Dw2.out.size, Dw3.out.size, Dw4.out.size, Dw5.out.size, Dw6.out.size, Dw7.out.size⟩
      have Bf := Lib.hid (B8.out _ Ef.out)
      have tk4 := Lib.hid True.intro
      have tk5 := Lib.hid True.intro
      go_upto_region 18 with (first
        | (go_at_call 20; clear tk4; refine (Sp.out M.length A2 c2 _ _ wf hML.out Opf.out).mono ?_; rintro e s1 ⟨rfl, hg1⟩; have T1 : Hid (Touch (fun k => wr.heap.size ≤ k ∧ k < w2.heap.size) wf s1) := (Touch.grown hg1 fun k e => Op.out.lt k e); have Oxs := Lib.hid (own_touch Oxf.out T1.out fun b hb e => by have h1 := Ox.out.lt b hb; have h2 := hz.out; omega); clear hg1)
        | (go_at_call 20; clear tk5; refine (Sp.out G.length A4 c4 _ _ s1 hGL.out Oxs.out).mono ?_; rintro e s2 ⟨rfl, hg2⟩; have T2 : Hid (Touch (fun k => w3.heap.size ≤ k ∧ k < w4.heap.size) s1 s2) := (Touch.grown hg2 fun k e => Ox.out.lt k e); have Ocs := Lib.hid (own_touch (own_touch Ocf.out T1.out fun b hb e => by have h1 := Oc.out.lt b hb; have h2 := hz.out; omega) T2.out fun b hb e => by have h1 := Oc.out.lt b hb; have h2 := hz.out; omega); clear hg2)
        | (go_at_call 20; refine (Sp.out P A7 c7 _ _ s2 (by have h1 := HP.out; have h2 := Hl.out; omega) Ocs.out).mono ?_; rintro e s3 ⟨rfl, hg3⟩; have T3 : Hid (Touch (fun k => w6.heap.size ≤ k ∧ k < w7.heap.size) s2 s3) := (Touch.grown hg3 fun k e => Oc.out.lt k e); clear hg3))
      have Ol3 := Lib.hid (((Olf.out.touch T1.out fun b hb e => by rcases hb with hb | hb; have h1 := Ol.out.low.1 b hb; have h2 := hz.out; omega; have h1 := Ol.out.low.2 b hb; have h2 := hz.out; omega).touch T2.out fun b hb e => by rcases hb with hb | hb; have h1 := Ol.out.low.1 b hb; have h2 := hz.out; omega; have h1 := Ol.out.low.2 b hb; have h2 := hz.out; omega).touch T3.out fun b hb e => by rcases hb with hb | hb; have h1 := Ol.out.low.1 b hb; have h2 := hz.out; omega; have h1 := Ol.out.low.2 b hb; have h2 := hz.out; omega)
      have B3 : Hid (Below w1.heap.size w1 s3) := by
        have h2 := hz.out
        have h3 := Bwr.out.size
        have h4 := Bf.out.size
        exact ((Bf.out.trans (T1.out.below (by omega) fun b hb => by omega)).trans (T2.out.below (by have := T1.out.size; omega) fun b hb => by omega)).trans (T3.out.below (by have := T1.out.size; have := T2.out.size; omega) fun b hb => by omega)
      have Hsp0 : Hid (SpI w5.heap.size s3 lw 0 s3) := ⟨Touch.refl _ _, fun j r _ hj => ⟨_, Ol3.out.r r (List.mem_of_getElem? hj)⟩⟩
      go_wp2
      go_loopw [22] (fun i wx => ∃ j : Nat, j ≤ k6 ∧ i = .int .i64 (j : Int) ∧ Hid (SpI w5.heap.size s3 lw j wx)) (fun i _ => k6 - (intOf i).toNat)
      case atStart => exact ⟨0, by omega, rfl, Hsp0⟩
      case round =>
        clear Hsp0
        obtain ⟨j, hj, rfl, hst⟩ := hrel
        have hk6I : (k6 : Int) ≤ 1500 := by have := hk6l.out; omega
        by_cases hlt : j < k6
        · obtain ⟨r, hrj⟩ : ∃ r, Hid (lw[j]? = some r) := ⟨lw[j]'(by rw [hk6.out]; exact hlt), List.getElem?_eq_getElem _⟩
          obtain ⟨ad, rfl, hcj⟩ := Ol3.out.cell hst.out.t hrj.out hk6.out
          obtain ⟨ys, hys⟩ := hst.out.r j r (Nat.le_refl _) hrj.out
          have hltI : (j : Int) < (k6 : Int) := by omega
          have hspo := Lib.hid (spoil_any w5.heap.size r.l.length r.v ys _ (by have := hlwl.out r (List.mem_of_getElem? hrj.out); omega) hys)
          clear hys
          go_wp2_with (go_at_call 20; refine hspo.out.mono ?_; rintro e s4 ⟨rfl, ⟨zs, hz4⟩, hg4⟩; have Hst4 := Lib.hid (hst.out.step Ol3.out.p hrj.out hz4 hg4); clear hz4 hg4)
          go_roundw
          case rel => exact ⟨j + 1, by omega, by go_num, Hst4⟩
          case measure => simp [intOf]; omega
        · obtain rfl : j = k6 := by omega
          have hfin : Hid (Below w1.heap.size w1 _) := B3.out.trans (hst.out.t.below B3.out.size fun b hb => by have h1 := (Ol3.out.low.2 b hb).1; have h2 := hz.out; have h3 := Bwr.out.size; omega)
          go_wp2
          go_roundw
          case rel => exact ⟨t + 1, by omega, by go_num, hfin.out⟩
          case measure => simp [intOf]; omega
    · obtain rfl : t = 2 := by omega
      have hsb := Lib.hid (sameN A A1 c c1 w.heap.size w1.heap.size n n l l wr Hn.out Hn.out (by have := Hl.out; omega) (hrb.out _ Hb.out) (hro.out _ Hb.out) rfl)
      go_wp2_with (first
        | (go_at_call 16; refine hsb.out.mono ?_; rintro e w5 ⟨rfl, hb5⟩; have Hb5 := Lib.hid hb5; clear hb5)
        | (go_at_call 7; refine (worksJ_any _).mono ?_; rintro e w6 ⟨rfl, hb6⟩; have Hb6 := Lib.hid hb6; clear hb6))
      go_ret
      have h1 := hbw1.out.trans (Hb.out.mono hbw1.out.size)
      have h2 := h1.trans (Hb5.out.mono h1.size)
      exact ⟨rfl, h2.trans (Hb6.out.mono h2.size)⟩
end Go.Proofs.Ytogoaihimepboaa
