/- FolderBounds's walk. Conditions: none. A slice of calls and failures, and a slice of bools, that came in, opened. Conditions: none. -/
import Derived.Test.YtbhmnmmockmibaaGreatKbFqX
import Derived.Test.YtbhmnmmockmibaaGreatKbFoFw
import Derived.Test.YtbhmnmmockmibaaGreatKbTail
import Derived.Deep.Slices
import Derived.Deep.Grids
import Derived.ChangeMaps
namespace Go.Proofs.YtbhmnmmockmibaaGreat
open Go.RowKit Go.Maps
section
variable {w wr w' : World} {X Y : Nat → Prop} {A : Option Addr} {l : List Af}
/-- Calls that came in avoid what the call makes. -/
theorem AfX.low (h : AfX w (fun _ => False) A l) : AfX w (fun b => w.heap.size ≤ b) A l := h.mono fun b hb e => by omega
theorem FlO.made {ty : TypeId} {base n c : Nat} {es : List Fv} (h : FlO ty base w (.slice A n c) es) (hX : ∀ b, b < w.heap.size → X b → b < base) : n = es.length ∧ FlX w X A es := by
  obtain ⟨h1, h2⟩ := h.reads (X := fun b => b < base) fun _ e => e
  exact ⟨h1, h2.mono hX⟩
end
theorem max0 (z q : Int) (h : max z 0 = q) : ∀ (ts : Array TypeId) (ty : TypeId) (w : World), (Builtin.max_ ts ty #[.int .i64 0, .int .i64 z]).run Tryz.prog w = .ok (.int .i64 q) w := by
  intro ts ty w
  rw [run_max_int2]
  have : (if (0 : Int) < z then z else 0) = q := by rw [← h]; split <;> omega
  rw [this]
theorem files_cont {s : Fo} {N : Nat} (hok : s.Ok N) (hN : N ≤ 900) : ∀ y ∈ s.files, y.2.length ≤ 60000 := by
  intro y hy
  unfold Fo.files at hy
  obtain ⟨e, _, rfl⟩ := List.mem_map.1 hy
  show (bytesF s.fs e.2).1.length ≤ 60000
  unfold bytesF
  split
  · simp
  · rename_i f hf
    have := ((tabOk hok).size f (findF_mem hf).1).cont
    simp only
    omega
/-- Behind k calls. -/
structure LB (w : World) (F : Nat) (q m : Int) (k : Nat) (s : Fo) (wr : World) : Prop where
  fs : FS w (fun _ => False) F s (2 * k) wr
  inv : s.Inv
  q : s.q = q
  most : s.most = m
set_option maxHeartbeats 16000000 in
set_option maxRecDepth 100000 in
theorem bounds_any {A : Option Addr} {c n : Nat} {l : List Af} {bytes entries : Int} {w : World} (hb1 : -9223372036854775808 ≤ bytes) (hb2 : bytes ≤ 9223372036854775807) (he1 : -9223372036854775808 ≤ entries) (he2 : entries ≤ 9223372036854775807) (hn : l.length = n) (hl : n ≤ 9223372036854775807) (hr : AfX w (fun _ => False) A l) :
    Calls Tryz.prog 5 #[.int .i64 bytes, .int .i64 entries, .slice A n c] w fun e w' => e = .returned (.bool true) ∧ Below w.heap.size w w' := by
  have Hfew := Lib.hid (few_any (c := c) (t := 40) hn (by omega) hl hr)
  have Hworks := Lib.hid works_any
  have Hnew := Lib.hid (fnew_any (w := w) bytes entries hb1 hb2 he1 he2)
  obtain ⟨q, hq⟩ : ∃ q, Hid (max bytes 0 = q) := ⟨_, rfl⟩
  obtain ⟨m, hm⟩ : ∃ q, Hid (max entries 0 = q) := ⟨_, rfl⟩
  have hq0 : 0 ≤ q ∧ q ≤ 9223372036854775807 := by rw [← hq.out]; omega
  have hm0 : 0 ≤ m ∧ m ≤ 9223372036854775807 := by rw [← hm.out]; omega
  have hmxq := max0 bytes q hq.out
  have hmxm := max0 entries m hm.out
  have Hn := Lib.hid hn
  have Hr := Lib.hid hr.low
  clear hn hl hr
  go_enter Tryz.func5, Tryz.ntmps5
  go_wp2_with (first
    | (go_at_call 6; refine Hfew.out.mono ?_; rintro e w1 ⟨b, rfl, hbt, rfl⟩; cases b)
    | (go_at_call 7; refine (Hworks.out _).mono ?_; rintro e w1 ⟨rfl, hb⟩)
    | (go_at_call 8; refine Hnew.out.mono ?_; rintro e w2 ⟨F, rfl, h1⟩; have H1 := Lib.hid h1; clear h1))
  · go_ret
    exact ⟨rfl, hb⟩
  have hsm := Lib.hid (show SmF l 40 by simpa using hbt)
  have hnI : (n : Int) ≤ 40 := by have := hsm.out.1; rw [Hn.out] at this; omega
  have hst0 : Hid (LB w1 F q m 0 (Fo.new bytes entries) w2) := ⟨H1.out, Fo.Inv.new _ _, hq.out, hm.out⟩
  clear hbt H1 Hnew Hfew
  go_loopw [8] (fun iv wr => ∃ (k : Nat) (s : Fo), k ≤ n ∧ iv = .int .i64 (k : Int) ∧ Hid (LB w1 F q m k s wr)) (fun i _ => n - (Go.Lib.intOf i).toNat)
  case atStart => exact ⟨0, _, by omega, rfl, hst0⟩
  case round =>
    clear hst0
    obtain ⟨k, s, hk, rfl, hst⟩ := hrel
    by_cases hlt : k < n
    · have hw := Lib.hid hst.out.fs.below
      have hwl := Lib.hid (hst.out.inv.well hst.out.fs.ok)
      obtain ⟨ad, a, rfl, hab, _, hcs, hx, hrow, htold, hok⟩ := Hr.out.at_ (k := k) (by rw [Hn.out]; exact hlt)
      have ha := Lib.hid (hsm.out.2 a (List.mem_of_getElem? hx.out))
      have HD := Lib.hid (fun wx (hb : Below w1.heap.size w1 wx) => hcs.keep (X := fun _ => False) (by rw [block_of_add]; exact hab) (fun e => e) (Touch.of hb))
      have Hrow := Lib.hid hrow
      have Htold := Lib.hid htold
      have Hok := Lib.hid hok
      clear hab hcs hrow htold hok
      have hkI : (k : Int) < (n : Int) := by omega
      have hkN : k ≤ 40 := by omega
      have Hf7 := Lib.hid (ffiles_any hst.out.fs (by omega))
      obtain ⟨P, hP⟩ : ∃ P, Hid (s.d.ops.length = P) := ⟨_, rfl⟩
      obtain ⟨V, hV⟩ : ∃ P, Hid (volF s.fs = P) := ⟨_, rfl⟩
      have tk7 := Lib.hid True.intro
      go_upto_region 8 with (first
        | (go_at_call 18; clear tk7; refine Hf7.out.mono ?_; rintro e w3 ⟨v, es, rfl, hfl, hes, hb3⟩; obtain ⟨A3, c3, rfl, _, _, _⟩ := own_form hfl.head; have Hfl := Lib.hid hfl; have Hes := Lib.hid hes; have Hb3 := Lib.hid hb3; have Hp4 := Lib.hid (fpend_any (hst.out.fs.quiet Hb3.out).1); rw [hP.out] at Hp4; clear hfl hes hb3)
        | (go_at_call 19; refine Hp4.out.mono ?_; rintro e w4 ⟨rfl, hb4⟩; have Hb34 := Lib.hid hb4; have Hb4 := Lib.hid (Hb3.out.trans (hb4.mono Hb3.out.size)); have Hv5 := Lib.hid (fvol_any (hst.out.fs.quiet Hb4.out).1 (by omega)); rw [hV.out] at Hv5; clear hb4)
        | (go_at_call 20; refine Hv5.out.mono ?_; rintro e w5 ⟨rfl, hb5⟩; have Hb35 := Lib.hid (Hb34.out.trans (hb5.mono Hb34.out.size)); have Hb5 := Lib.hid (Hb4.out.trans (hb5.mono Hb4.out.size)); clear hb5))
      obtain ⟨Y5, hY5⟩ : ∃ Y : Nat → Prop, Hid ((fun b => wr.heap.size ≤ b ∧ b < w5.heap.size) = Y) := ⟨_, rfl⟩
      have HF5 : Hid (FS w1 Y5 F s (2 * k) w5) := hst.out.fs.more Hb5.out fun b hb => by rw [← hY5.out] at hb; exact .inr hb
      have HL5 : Hid (FlX w5 (Fr w1 Y5) A3 es) := ((Hfl.out.below Hb35.out).made fun b hb e => by
        rw [← hY5.out] at e
        rcases Nat.lt_or_ge b wr.heap.size with h | h
        · exact h
        · exact absurd ⟨h, hb⟩ e.2).2
      obtain ⟨ne, hne⟩ : ∃ x, Hid (es.length = x) := ⟨_, rfl⟩
      rw [hne.out]
      have Hw5 := Lib.hid HF5.out.below
      obtain ⟨d0, d1, d2, d3, d4, d5⟩ := HD.out w5 Hw5.out
      by_cases h9 : a.k = 9
      · rw [h9] at d0
        obtain ⟨kn, hkn⟩ : ∃ x, Hid (a.q.l.length = x) := ⟨_, rfl⟩
        rw [hkn.out] at d5
        have HF5d := Lib.hid (HF5.out.quiet (Below.refl _ _).drew).1
        have Hpw := Lib.hid (fpower_any (nk := kn) HF5d.out (by omega) a.o Hok.out.o.1 Hok.out.o.2 (keep := a.q.l) ((Htold.out.below Hw5.out.drew).mono fun _ _ e => e.1) hkn.out (by rw [← hkn.out]; exact Hok.out.qc) (by have := ha.out.2.2.2; rw [hkn.out] at this; omega))
        have hS : Hid (∀ wx, Below w1.heap.size w1 wx → wx.cell? ⟨(ad.add (k * 6)).block, (ad.add (k * 6)).off + 4, none⟩ = some (.int .i64 a.o) ∧ wx.cell? ⟨(ad.add (k * 6)).block, (ad.add (k * 6)).off + 5, none⟩ = some (.slice a.q.A kn a.q.c)) := fun wx hb => by
          have h1 := (HD.out wx hb).c4
          have h2 := (HD.out wx hb).c5
          rw [hkn.out] at h2
          exact ⟨h1, h2⟩
        go_upto_region 9 with fail
        have hcc := (show w5.drew.cell? ⟨(ad.add (k * 6)).block, (ad.add (k * 6)).off + 4, none⟩ = some (.int .i64 a.o) ∧ w5.drew.cell? ⟨(ad.add (k * 6)).block, (ad.add (k * 6)).off + 5, none⟩ = some (.slice a.q.A kn a.q.c) from ⟨d4, d5⟩)
        go_region_held3 (fun wx => wx.cell? ⟨(ad.add (k * 6)).block, (ad.add (k * 6)).off + 4, none⟩ = some (.int .i64 a.o) ∧ wx.cell? ⟨(ad.add (k * 6)).block, (ad.add (k * 6)).off + 5, none⟩ = some (.slice a.q.A kn a.q.c)) (first | exact hce | exact hcc) (first | (go_at_call 10; refine Hpw.out.mono ?_; rintro e w6 ⟨rfl, hf6, _⟩; have hce := hS.out w6 hf6.below; have HF6 := Lib.hid hf6; clear hf6))
        all_goals (
          have HI' := Lib.hid (hst.out.inv.power hst.out.fs.ok a.o a.q.l)
          have HQ' := Lib.hid (show (s.power a.o a.q.l).q = q ∧ (s.power a.o a.q.l).most = m from ⟨hst.out.q, hst.out.most⟩)
          have Hf13 := Lib.hid (ffiles_any HF6.out (by omega))
          obtain ⟨U, hU⟩ : ∃ U, Hid (usedF (s.power a.o a.q.l).fs = U) := ⟨_, rfl⟩
          have hUq : (U : Int) ≤ q := by rw [← hU.out, ← HQ'.out.1]; exact HI'.out.used
          have hUd : decide (q < (U : Int)) = false := by rw [decide_eq_false_iff_not]; omega
          obtain ⟨Fl, hFl⟩ : ∃ U, Hid ((s.power a.o a.q.l).files.length = U) := ⟨_, rfl⟩
          have hFq : (Fl : Int) ≤ m := by rw [← hFl.out, ← HQ'.out.2]; exact HI'.out.names
          have hFd : decide (m < (Fl : Int)) = false := by rw [decide_eq_false_iff_not]; omega
          have hF4 : (Fl : Int) ≤ 1000 := by have := files_short HF6.out.ok; rw [hFl.out] at this; omega
          have tkF := Lib.hid True.intro
          go_wp2_with (first
            | (go_at_call 18; clear tkF; refine Hf13.out.mono ?_; rintro e wy ⟨v, es', rfl, hfl', hes', hby⟩; obtain ⟨A', c', rfl, _, _, _⟩ := own_form hfl'.head; have Hlen := Lib.hid (show es'.length = Fl by rw [← hFl.out, ← hes', List.length_map]); rw [Hlen.out]; have Hby := Lib.hid hby; have Hu := Lib.hid (fused_any (HF6.out.quiet Hby.out).1 (by omega)); rw [hU.out] at Hu; clear hfl' hes' hby)
            | (go_at_call 23; refine Hu.out.mono ?_; rintro e wz ⟨rfl, hbz⟩; have Hbz := Lib.hid (Hby.out.trans (hbz.mono Hby.out.size)); clear hbz))
          go_roundw
          case rel => exact ⟨k + 1, _, by omega, by go_num, ⟨(((HF6.out.quiet Hbz.out).1.weak (Y := fun _ => False) (fun _ h => h.elim)).mono (by omega)), HI'.out, HQ'.out.1, HQ'.out.2⟩⟩
          case measure => simp [Go.Lib.intOf]; omega)
      · have h9b : ((a.k : Int) == 9) = false := beq_eq_false_iff_ne.2 (by omega)
        obtain ⟨nb, hnb⟩ : ∃ x, Hid (a.r.l.length = x) := ⟨_, rfl⟩
        rw [hnb.out] at d3
        have Hdo := Lib.hid (fdo_any HF5.out (by omega) Hok.out.k (n := a.n) (t := a.t) (by have := ha.out.1; omega) (by have := ha.out.2.1; omega) (Ab := a.r.A) (cb := a.r.c) (l := a.r.l) hnb.out (by have := ha.out.2.2.1; rw [hnb.out] at this; omega) (Bb := w1.heap.size) Hw5.out.size (Reads.below Hrow.out.reads Hw5.out) hwl.out.pos)
        go_upto_region 11 with (first
          | (go_at_call 13; refine Hdo.out.mono ?_; rintro e w6 ⟨g, v, rfl, ⟨A6, n6, c6, B6, m6, k6, rfl, _, hn6, _, hm6⟩, hf6, ht6⟩; have HF6 := Lib.hid hf6; have HT6 := Lib.hid ht6; have Hn6 := Lib.hid hn6; have Hm6 := Lib.hid hm6; clear hf6 ht6 hn6 hm6)
          | (refine wpList_store_row rfl 51 (.tmp 12) (.tmp 57) rfl w6.heap.size _ rfl rfl _ _ (heap_alloc_new w6 _) size_fr10 rfl (by simp [Value.oneCell']) ?_))
        go_frame
        obtain ⟨er, her⟩ : ∃ er, Hid ((s.doC g a.k a.n a.t a.r.l).2.1 = er) := ⟨_, rfl⟩
        rw [her.out]
        obtain ⟨R, hR⟩ : ∃ R, Hid (w6.heap.size = R) := ⟨_, rfl⟩
        obtain ⟨W7, hW7⟩ : ∃ W, Hid ((w6.alloc (.cells #[.int .i64 0, .slice none 0 0, .slice none 0 0] 51)).setRow w6.heap.size #[.int .i64 er, .slice A6 n6 c6, .slice B6 m6 k6] = W) := ⟨_, rfl⟩
        have hbox : Hid (W7.heap[R]? = some (.cells #[.int .i64 er, .slice A6 n6 c6, .slice B6 m6 k6] 51 (0, 0))) := by rw [← hW7.out, ← hR.out]; exact setRow_heap _ _ _ _ _ _ (heap_alloc_new w6 _)
        have hb67 : Hid (Below w6.heap.size w6 W7) := by rw [← hW7.out]; exact below_setRow (below_new _ _) (Nat.le_refl _) _
        rw [hW7.out, hR.out]
        have HF7 := Lib.hid (HF6.out.quiet hb67.out).1
        have hinv := Lib.hid (hst.out.inv.doC hst.out.fs.ok (by omega) g a.k a.n a.t a.r.l)
        have hqm := Lib.hid (Fo.doC_q (s := s) (g := g) (k := a.k) (n := a.n) (t := a.t) (l := a.r.l))
        obtain ⟨c0, c1, c2⟩ := tri_cell hbox.out
        by_cases h0 : er = 0
        · subst h0
          have HI' := Lib.hid (hinv.out)
          have HQ' := Lib.hid (show ((s.doC g a.k a.n a.t a.r.l).1).q = q ∧ ((s.doC g a.k a.n a.t a.r.l).1).most = m from ⟨hqm.out.1.trans hst.out.q, hqm.out.2.trans hst.out.most⟩)
          have Hf13 := Lib.hid (ffiles_any HF7.out (by omega))
          obtain ⟨U, hU⟩ : ∃ U, Hid (usedF ((s.doC g a.k a.n a.t a.r.l).1).fs = U) := ⟨_, rfl⟩
          have hUq : (U : Int) ≤ q := by rw [← hU.out, ← HQ'.out.1]; exact HI'.out.used
          have hUd : decide (q < (U : Int)) = false := by rw [decide_eq_false_iff_not]; omega
          obtain ⟨Fl, hFl⟩ : ∃ U, Hid (((s.doC g a.k a.n a.t a.r.l).1).files.length = U) := ⟨_, rfl⟩
          have hFq : (Fl : Int) ≤ m := by rw [← hFl.out, ← HQ'.out.2]; exact HI'.out.names
          have hFd : decide (m < (Fl : Int)) = false := by rw [decide_eq_false_iff_not]; omega
          have hF4 : (Fl : Int) ≤ 1000 := by have := files_short HF7.out.ok; rw [hFl.out] at this; omega
          have tkF := Lib.hid True.intro
          go_wp2_with (first
            | (go_at_call 18; clear tkF; refine Hf13.out.mono ?_; rintro e wy ⟨v, es', rfl, hfl', hes', hby⟩; obtain ⟨A', c', rfl, _, _, _⟩ := own_form hfl'.head; have Hlen := Lib.hid (show es'.length = Fl by rw [← hFl.out, ← hes', List.length_map]); rw [Hlen.out]; have Hby := Lib.hid hby; have Hu := Lib.hid (fused_any (HF7.out.quiet Hby.out).1 (by omega)); rw [hU.out] at Hu; clear hfl' hes' hby)
            | (go_at_call 23; refine Hu.out.mono ?_; rintro e wz ⟨rfl, hbz⟩; have Hbz := Lib.hid (Hby.out.trans (hbz.mono Hby.out.size)); clear hbz))
          go_roundw
          case rel => exact ⟨k + 1, _, by omega, by go_num, ⟨(((HF7.out.quiet Hbz.out).1.weak (Y := fun _ => False) (fun _ h => h.elim)).mono (by omega)), HI'.out, HQ'.out.1, HQ'.out.2⟩⟩
          case measure => simp [Go.Lib.intOf]; omega
        · have hne0 : (er != 0) = true := bne_iff_ne.2 h0
          have herr := Lib.hid (Fo.doC_err (s := s) (g := g) (k := a.k) (n := a.n) (t := a.t) (l := a.r.l) (by rw [her.out]; exact h0))
          have hn60 : n6 = 0 := by rw [Hn6.out, herr.out.2.1]; rfl
          have hm60 : m6 = 0 := by rw [Hm6.out, herr.out.2.2]; rfl
          subst hn60
          subst hm60
          have hcb : Hid (∀ wx, Below W7.heap.size W7 wx → wx.cell? ⟨R, 1, none⟩ = some (.slice A6 0 c6) ∧ wx.cell? ⟨R, 2, none⟩ = some (.slice B6 0 k6)) := fun wx hb => by
            have := tri_cell ((hb.block _ (Array.getElem?_eq_some_iff.1 hbox.out).1).trans hbox.out)
            exact ⟨this.2.1, this.2.2⟩
          have HFs : Hid (FS w1 Y5 F s (2 * k + 2) W7) := by
            have h := HF7.out
            rw [herr.out.1] at h
            exact h
          have HL7 := Lib.hid ((HL5.out.keep HT6.out).below hb67.out)
          have Hf8 := Lib.hid (ffiles_any HFs.out (by omega))
          have hPP : ((P : Int) != (P : Int)) = false := by simp
          have hVV : ((V : Int) != (V : Int)) = false := by simp
          go_upto_region 13 with (first
            | (go_at_call 18; refine Hf8.out.mono ?_; rintro e w8 ⟨v, es2, rfl, hfl, hes, hb8⟩; obtain ⟨A8, c8, rfl, _, _, _⟩ := own_form hfl.head; have Hb8 := Lib.hid hb8; have HL8 := Lib.hid (HL7.out.below hb8); have Hal := Lib.hid (alike_true (c1 := c3) (c2 := c8) HL8.out (hfl.reads (X := fun _ => False) fun _ h => h.elim).2 hne.out rfl (Hes.out.trans hes.symm) (by have := files_short hst.out.fs.ok; rw [← Hes.out, List.length_map, hne.out] at this; omega) (fun e he => by have := files_cont hst.out.fs.ok (by omega) (e.n, e.l) (by rw [← Hes.out]; exact List.mem_map.2 ⟨e, he, rfl⟩); have h2 : e.l.length ≤ 60000 := this; omega)); clear hfl hes hb8)
            | (go_at_call 22; refine Hal.out.mono ?_; rintro e w9 ⟨rfl, hb9⟩; have Hb9 := Lib.hid (Hb8.out.trans (hb9.mono Hb8.out.size)); have Hp10 := Lib.hid (fpend_any (HFs.out.quiet Hb9.out).1); rw [hP.out] at Hp10; clear hb9)
            | (go_at_call 19; refine Hp10.out.mono ?_; rintro e w10 ⟨rfl, hb10⟩; have Hb10 := Lib.hid (Hb9.out.trans (hb10.mono Hb9.out.size)); have Hv11 := Lib.hid (fvol_any (HFs.out.quiet Hb10.out).1 (by omega)); rw [hV.out] at Hv11; clear hb10)
            | (go_at_call 20; refine Hv11.out.mono ?_; rintro e w11 ⟨rfl, hb11⟩; have Hb11 := Lib.hid (Hb10.out.trans (hb11.mono Hb10.out.size)); clear hb11; obtain ⟨z1, z2⟩ := hcb.out _ Hb11.out))
          have HF11 := Lib.hid (HFs.out.quiet Hb11.out).1
          have HI' := Lib.hid (hst.out.inv)
          have HQ' := Lib.hid (show (s).q = q ∧ (s).most = m from ⟨hst.out.q, hst.out.most⟩)
          have Hf13 := Lib.hid (ffiles_any HF11.out (by omega))
          obtain ⟨U, hU⟩ : ∃ U, Hid (usedF (s).fs = U) := ⟨_, rfl⟩
          have hUq : (U : Int) ≤ q := by rw [← hU.out, ← HQ'.out.1]; exact HI'.out.used
          have hUd : decide (q < (U : Int)) = false := by rw [decide_eq_false_iff_not]; omega
          obtain ⟨Fl, hFl⟩ : ∃ U, Hid ((s).files.length = U) := ⟨_, rfl⟩
          have hFq : (Fl : Int) ≤ m := by rw [← hFl.out, ← HQ'.out.2]; exact HI'.out.names
          have hFd : decide (m < (Fl : Int)) = false := by rw [decide_eq_false_iff_not]; omega
          have hF4 : (Fl : Int) ≤ 1000 := by have := files_short HF11.out.ok; rw [hFl.out] at this; omega
          have tkF := Lib.hid True.intro
          go_wp2_with (first
            | (go_at_call 18; clear tkF; refine Hf13.out.mono ?_; rintro e wy ⟨v, es', rfl, hfl', hes', hby⟩; obtain ⟨A', c', rfl, _, _, _⟩ := own_form hfl'.head; have Hlen := Lib.hid (show es'.length = Fl by rw [← hFl.out, ← hes', List.length_map]); rw [Hlen.out]; have Hby := Lib.hid hby; have Hu := Lib.hid (fused_any (HF11.out.quiet Hby.out).1 (by omega)); rw [hU.out] at Hu; clear hfl' hes' hby)
            | (go_at_call 23; refine Hu.out.mono ?_; rintro e wz ⟨rfl, hbz⟩; have Hbz := Lib.hid (Hby.out.trans (hbz.mono Hby.out.size)); clear hbz))
          go_roundw
          case rel => exact ⟨k + 1, _, by omega, by go_num, ⟨(((HF11.out.quiet Hbz.out).1.weak (Y := fun _ => False) (fun _ h => h.elim)).mono (by omega)), HI'.out, HQ'.out.1, HQ'.out.2⟩⟩
          case measure => simp [Go.Lib.intOf]; omega
    · obtain rfl : k = n := by omega
      go_wp2_with (go_at_call 7; refine (Hworks.out _).mono ?_; rintro e w9 ⟨rfl, hb9⟩)
      go_ret
      exact ⟨rfl, hst.out.fs.below.trans (hb9.mono hst.out.fs.below.size)⟩
end Go.Proofs.YtbhmnmmockmibaaGreat

namespace Go.Proofs.YtbhmnmmockmibaaGreat
open Go.ChangeShapes Go.WideShapes Go.ChangeAt Go.RowKit
section
variable {H : Type} {enc : TypeId × Value → H}
theorem cells_actf : Tryz.prog.cellsOf 43 = 6 := by kernel_rfl
theorem cells_callf : Tryz.prog.cellsOf 40 = 4 := by kernel_rfl
theorem cells_intf : Tryz.prog.cellsOf 3 = 1 := by kernel_rfl
theorem cells_u8f : Tryz.prog.cellsOf 5 = 1 := by kernel_rfl
theorem cells_strf : Tryz.prog.cellsOf 9 = 1 := by kernel_rfl
theorem cells_bytesf : Tryz.prog.cellsOf 38 = 1 := by kernel_rfl
theorem cells_boolsf : Tryz.prog.cellsOf 41 = 1 := by kernel_rfl
theorem rdx_of {W : World} {size n : Nat} {A : Option Addr} {xs : List Value} (h : Reads W W.heap.size size A n xs) : RdX W (fun _ => False) size A n xs := RdX.of h (Nat.le_refl _) fun _ _ e => e
/-- A slice of bytes in a field. -/
theorem open_bodyf {W : World} {fuel : Nat} {v : Value} {x : Option (DataW H × List MemPlace)} (hx : x.isSome = true) (h : DataW.trod enc Tryz.prog W 0 (fun _ => true) true fuel 38 [v] = x) :
    ∃ r : Row, v = .slice r.A r.l.length r.c ∧ r.l.length ≤ r.c ∧ r.c ≤ maxLen ∧ RdB W W.heap.size r.A r.l := by
  obtain ⟨y, rfl⟩ := Option.isSome_iff_exists.1 hx
  rcases open_ints Tryz.underlying38 Tryz.underlying5 (by kernel_rfl) h with ⟨hcs, rfl⟩ | ⟨a, n0, c0, zs, hcs, _, hle, hmax, hall, rfl, hcell, hwf⟩
  · simp only [List.cons.injEq, and_true] at hcs
    subst hcs
    exact ⟨⟨none, 0, []⟩, rfl, Nat.le_refl _, by simp [maxLen], Reads.none_⟩
  · simp only [List.cons.injEq, and_true] at hcs
    subst hcs
    simp only [if_true] at hall
    have hlen : ((zs.take n0).map fun n => UInt8.ofNat n.toNat).length = n0 := by simp; omega
    refine ⟨⟨some a, c0, (zs.take n0).map fun n => UInt8.ofNat n.toNat⟩, by simp only; rw [hlen], by simp only; rw [hlen]; exact hle, hmax, by rw [bs_len, hlen]; omega, fun hn => ?_⟩
    rw [hlen] at hn
    have h0 := hcell 0 (by omega)
    refine ⟨a, rfl, by have := World.block_lt_of_cell? W _ h0; rwa [block_of_add] at this, fun j u hu => ?_⟩
    have hj : j < n0 := by
      have := (List.getElem?_eq_some_iff.1 hu).1
      rw [bs_len, hlen] at this
      exact this
    have hjz : j < zs.length := by omega
    have hb := lit_u8 (hwf (zs[j]) (List.getElem_mem hjz))
    rw [hcell j hjz, ← hu]
    have e : (UInt8.ofNat (zs[j]).toNat).toNat = (zs[j]).toNat := by simp [UInt8.toNat_ofNat']; omega
    simp only [bs, List.map_map, List.getElem?_map, List.getElem?_take, if_pos hj, List.getElem?_eq_getElem hjz, Option.map_some, Function.comp_apply, e, List.getD_eq_getElem?_getD, Option.getD_some]
    rw [Int.toNat_of_nonneg hb.1]
/-- A slice of bools in a field. -/
theorem open_toldf {W : World} {fuel : Nat} {v : Value} {x : Option (DataW H × List MemPlace)} (hx : x.isSome = true) (h : DataW.trod enc Tryz.prog W 0 (fun _ => true) true fuel 41 [v] = x) :
    ∃ q : KRow, v = .slice q.A q.l.length q.c ∧ q.l.length ≤ q.c ∧ q.c ≤ maxLen ∧ Reads W W.heap.size 1 q.A q.l.length (kc q.l) := by
  obtain ⟨y, rfl⟩ := Option.isSome_iff_exists.1 hx
  rcases Go.Deep.open_bools Tryz.underlying41 Tryz.underlying4 (by kernel_rfl) h with ⟨hcs, _⟩ | ⟨a, n0, c0, f, hcs, _, hle, hmax, _, hcell⟩
  · simp only [List.cons.injEq, and_true] at hcs
    subst hcs
    exact ⟨⟨none, 0, []⟩, rfl, Nat.le_refl _, by simp [maxLen], Reads.none_⟩
  · simp only [List.cons.injEq, and_true] at hcs
    subst hcs
    have hlen : ((List.range n0).map f).length = n0 := by simp
    refine ⟨⟨some a, c0, (List.range n0).map f⟩, by simp only; rw [hlen], by simp only; rw [hlen]; exact hle, hmax, by rw [kc_len, hlen]; omega, fun hn => ?_⟩
    rw [hlen] at hn
    have h0 := hcell 0 (by omega)
    refine ⟨a, rfl, by have := World.block_lt_of_cell? W _ h0; rwa [block_of_add] at this, fun j u hu => ?_⟩
    have hj : j < n0 := by
      have := (List.getElem?_eq_some_iff.1 hu).1
      rw [kc_len, hlen] at this
      exact this
    unfold kc at hu
    rw [List.getElem?_map, List.getElem?_map, List.getElem?_range hj] at hu
    simp only [Option.map_some, Option.some.injEq] at hu
    rw [hcell j (by omega), ← hu]
theorem open_nf {W : World} {fuel : Nat} {v : Value} {x : Option (DataW H × List MemPlace)} (hx : x.isSome = true) (h : DataW.trod enc Tryz.prog W 0 (fun _ => true) true fuel 3 [v] = x) : ∃ n : Int, v = .int .i64 n ∧ -9223372036854775808 ≤ n ∧ n ≤ 9223372036854775807 := by
  obtain ⟨y, rfl⟩ := Option.isSome_iff_exists.1 hx
  obtain ⟨a, e, _, wf⟩ := DataW.trod_int Tryz.underlying3 h
  simp only [List.cons.injEq, and_true] at e
  subst e
  have hb := lit_i64 wf
  exact ⟨a, rfl, by omega, by omega⟩
theorem open_u8f {W : World} {fuel : Nat} {v : Value} {x : Option (DataW H × List MemPlace)} (hx : x.isSome = true) (h : DataW.trod enc Tryz.prog W 0 (fun _ => true) true fuel 5 [v] = x) : ∃ k : Nat, v = .int .u8 (k : Int) ∧ k ≤ 255 := by
  obtain ⟨y, rfl⟩ := Option.isSome_iff_exists.1 hx
  obtain ⟨a, e, _, wf⟩ := DataW.trod_int Tryz.underlying5 h
  simp only [List.cons.injEq, and_true] at e
  subst e
  have hb := lit_u8 wf
  obtain ⟨n, rfl⟩ := Int.eq_ofNat_of_zero_le hb.1
  exact ⟨n, rfl, by omega⟩
/-- A text in a field. -/
theorem open_sf {W : World} {fuel : Nat} {v : Value} {x : Option (DataW H × List MemPlace)} (hx : x.isSome = true) (h : DataW.trod enc Tryz.prog W 0 (fun _ => true) true fuel 9 [v] = x) : ∃ l : List UInt8, v = .string (txt l) ∧ l.length ≤ 9223372036854775807 := by
  obtain ⟨y, rfl⟩ := Option.isSome_iff_exists.1 hx
  obtain ⟨s, e, _, wf⟩ := DataW.trod_string Tryz.underlying9 h
  simp only [List.cons.injEq, and_true] at e
  subst e
  refine ⟨s.data.toList, by rw [txt_toList], ?_⟩
  have h1 : s.data.toList.length = s.size := Array.length_toList
  unfold maxLen at wf
  omega
theorem four_cells {cs : List Value} (h : cs.length = 4) : ∃ a b c d, cs = [a, b, c, d] := by
  match cs, h with
  | [a, b, c, d], _ => exact ⟨a, b, c, d, rfl⟩
theorem six_cells {cs : List Value} (h : cs.length = 6) : ∃ a b c d e f, cs = [a, b, c, d, e, f] := by
  match cs, h with
  | [a, b, c, d, e, f], _ => exact ⟨a, b, c, d, e, f, rfl⟩
set_option maxRecDepth 100000 in
/-- A call's cells. -/
theorem open_callf {W : World} {fuel : Nat} {cs : List Value} {x : Option (DataW H × List MemPlace)} (hx : x.isSome = true) (hl : cs.length = 4) (h : DataW.trod enc Tryz.prog W 0 (fun _ => true) true fuel 40 cs = x) :
    ∃ (k : Nat) (n t : List UInt8) (r : Row), cs = [.int .u8 (k : Int), .string (txt n), .string (txt t), .slice r.A r.l.length r.c] ∧ k ≤ 255 ∧ n.length ≤ 9223372036854775807 ∧ t.length ≤ 9223372036854775807 ∧ r.l.length ≤ 9223372036854775807 ∧ RdB W W.heap.size r.A r.l := by
  obtain ⟨y, rfl⟩ := Option.isSome_iff_exists.1 hx
  obtain ⟨v0, v1, v2, v3, rfl⟩ := four_cells hl
  obtain ⟨xs, m, _, _, _, hxl, hall⟩ := DataW.trod_struct Tryz.underlying40 h
  replace hxl : xs.length = 4 := hxl
  have h0 : DataW.trod enc Tryz.prog W 0 (fun _ => true) true m 5 (([v0, v1, v2, v3].drop 0).take (Tryz.prog.cellsOf 5)) = xs[0]? := hall 0 _ rfl
  have h1 : DataW.trod enc Tryz.prog W 0 (fun _ => true) true m 9 (([v0, v1, v2, v3].drop 1).take (Tryz.prog.cellsOf 9)) = xs[1]? := hall 1 _ rfl
  have h2 : DataW.trod enc Tryz.prog W 0 (fun _ => true) true m 9 (([v0, v1, v2, v3].drop 2).take (Tryz.prog.cellsOf 9)) = xs[2]? := hall 2 _ rfl
  have h3 : DataW.trod enc Tryz.prog W 0 (fun _ => true) true m 38 (([v0, v1, v2, v3].drop 3).take (Tryz.prog.cellsOf 38)) = xs[3]? := hall 3 _ rfl
  clear hall
  rw [cells_u8f] at h0
  rw [cells_strf] at h1 h2
  rw [cells_bytesf] at h3
  have hs : ∀ i, i < 4 → (xs[i]?).isSome = true := fun i hi => by rw [List.getElem?_eq_getElem (by omega)]; rfl
  obtain ⟨k, rfl, b0⟩ := open_u8f (hs 0 (by decide)) h0
  obtain ⟨n, rfl, b1⟩ := open_sf (hs 1 (by decide)) h1
  obtain ⟨t, rfl, b2⟩ := open_sf (hs 2 (by decide)) h2
  obtain ⟨r, rfl, r1, r2, r3⟩ := open_bodyf (hs 3 (by decide)) h3
  unfold maxLen at r2
  exact ⟨k, n, t, r, rfl, b0, b1, b2, by omega, r3⟩
set_option maxRecDepth 100000 in
/-- A call's, or a failure's, cells. -/
theorem open_act {W : World} {fuel : Nat} {cs : List Value} {x : DataW H × List MemPlace} (hl : cs.length = 6) (h : DataW.trod enc Tryz.prog W 0 (fun _ => true) true fuel 43 cs = some x) :
    ∃ a : Af, cs = a.cs ∧ RdB W W.heap.size a.r.A a.r.l ∧ Reads W W.heap.size 1 a.q.A a.q.l.length (kc a.q.l) ∧ a.Ok := by
  obtain ⟨v0, v1, v2, v3, v4, v5, rfl⟩ := six_cells hl
  obtain ⟨xs, m, _, _, _, hxl, hall⟩ := DataW.trod_struct Tryz.underlying43 h
  replace hxl : xs.length = 3 := hxl
  have h0 : DataW.trod enc Tryz.prog W 0 (fun _ => true) true m 40 (([v0, v1, v2, v3, v4, v5].drop 0).take (Tryz.prog.cellsOf 40)) = xs[0]? := hall 0 _ rfl
  have h1 : DataW.trod enc Tryz.prog W 0 (fun _ => true) true m 3 (([v0, v1, v2, v3, v4, v5].drop (0 + Tryz.prog.cellsOf 40)).take (Tryz.prog.cellsOf 3)) = xs[1]? := hall 1 _ rfl
  have h2 : DataW.trod enc Tryz.prog W 0 (fun _ => true) true m 41 (([v0, v1, v2, v3, v4, v5].drop (0 + Tryz.prog.cellsOf 40 + Tryz.prog.cellsOf 3)).take (Tryz.prog.cellsOf 41)) = xs[2]? := hall 2 _ rfl
  clear hall
  rw [cells_callf] at h0 h1 h2
  rw [cells_intf] at h1 h2
  rw [cells_boolsf] at h2
  have hs : ∀ i, i < 3 → (xs[i]?).isSome = true := fun i hi => by rw [List.getElem?_eq_getElem (by omega)]; rfl
  obtain ⟨k, n, t, r, e, b0, b1, b2, b3, b4⟩ := open_callf (hs 0 (by decide)) rfl h0
  simp only [List.drop_zero, List.take_succ_cons, List.take_zero, List.cons.injEq, and_true] at e
  obtain ⟨rfl, rfl, rfl, rfl⟩ := e
  obtain ⟨o, rfl, o1, o2⟩ := open_nf (hs 1 (by decide)) h1
  obtain ⟨q, rfl, q1, q2, q3⟩ := open_toldf (hs 2 (by decide)) h2
  unfold maxLen at q2
  exact ⟨⟨k, n, t, r, o, q⟩, rfl, b4, q3, ⟨b0, b1, b2, b3, by simp only; omega, q1, ⟨o1, o2⟩⟩⟩
set_option maxRecDepth 100000 in
/-- A slice of calls that came in. -/
theorem open_acts {W : World} {v : Value} {d : DataW H} {ps : List MemPlace} {r : Reach} {b : Nat} (hval : Value.okWide Tryz.prog W r b 22 v) (h : DataW.Trod enc Tryz.prog W 0 (fun _ => true) true 22 v d ps) :
    ∃ A c, ∃ l : List Af, v = .slice A l.length c ∧ l.length ≤ c ∧ c ≤ maxLen ∧ AfX W (fun _ => False) A l := by
  obtain ⟨a0, n0, c0, rfl⟩ := okWide_slice Tryz.underlying22 hval
  obtain ⟨fuel, hf⟩ := h
  rcases Go.Deep.open_slice Tryz.underlying22 hf with ⟨hcs, _⟩ | ⟨a, len, cap, m, n, D, Pl, hcs, _, hle, hmax, hm, _, hall⟩
  · simp [Value.cells] at hcs
    obtain ⟨rfl, rfl, rfl⟩ := hcs
    exact ⟨none, 0, [], rfl, Nat.le_refl _, by simp [maxLen], AfX.nil⟩
  · simp [Value.cells] at hcs
    obtain ⟨rfl, rfl, rfl⟩ := hcs
    simp only [if_true] at hm
    subst hm
    rw [cells_actf] at hall
    have hex : ∀ i, ∃ x : Af, i < n0 → (∀ j, j < 6 → W.cell? (a.add (i * 6 + j)) = x.cs[j]?) ∧ RdB W W.heap.size x.r.A x.r.l ∧ Reads W W.heap.size 1 x.q.A x.q.l.length (kc x.q.l) ∧ x.Ok := by
      intro i
      by_cases hi : i < n0
      · obtain ⟨cs', h1, h2⟩ := hall i (by omega)
        obtain ⟨_, hlen, hcell⟩ := World.cells?_some h1
        obtain ⟨x, rfl, hx⟩ := open_act hlen h2
        refine ⟨x, fun _ => ⟨fun j hj => ?_, hx⟩⟩
        rw [← add_of_add]
        exact hcell j hj
      · exact ⟨⟨0, [], [], ⟨none, 0, []⟩, 0, ⟨none, 0, []⟩⟩, fun h => absurd h hi⟩
    obtain ⟨g, hg⟩ := Classical.axiomOfChoice hex
    have hlen : ((List.range n0).map g).length = n0 := by simp
    have hat : ∀ {j : Nat}, j < n0 → ((List.range n0).map g)[j]? = some (g j) := by
      intro j hj
      rw [List.getElem?_map, List.getElem?_range hj]
      rfl
    have hmem : ∀ f ∈ (List.range n0).map g, ∃ i, i < n0 ∧ f = g i := by
      intro f hf
      rw [List.mem_map] at hf
      obtain ⟨i, hi, rfl⟩ := hf
      exact ⟨i, List.mem_range.1 hi, rfl⟩
    refine ⟨some a, m, (List.range n0).map g, by rw [hlen], by rw [hlen]; exact hle, hmax, ⟨⟨by rw [afcells_len], fun hn => ?_⟩, fun x hx => ?_, fun x hx => ?_, fun x hx => ?_⟩⟩
    · rw [hlen] at hn
      have h0 := (hg 0 hn).1 0 (by decide)
      refine ⟨a, rfl, by have := World.block_lt_of_cell? W _ h0; rwa [block_of_add] at this, fun e => e, fun j u hu => ?_⟩
      have hj : j < n0 * 6 := by
        have := (List.getElem?_eq_some_iff.1 hu).1
        rw [afcells_len, hlen] at this
        exact this
      have hj3 : j / 6 < n0 := by omega
      have e := afcells_get (hat hj3) (j := j % 6) (by omega)
      rw [show j / 6 * 6 + j % 6 = j by omega] at e
      have e2 := (hg (j / 6) hj3).1 (j % 6) (by omega)
      rw [show j / 6 * 6 + j % 6 = j by omega] at e2
      rw [e2, ← e, hu]
    · obtain ⟨i, hi, rfl⟩ := hmem x hx
      exact rdx_of (hg i hi).2.1
    · obtain ⟨i, hi, rfl⟩ := hmem x hx
      exact rdx_of (hg i hi).2.2.1
    · obtain ⟨i, hi, rfl⟩ := hmem x hx
      exact (hg i hi).2.2.2
end
end Go.Proofs.YtbhmnmmockmibaaGreat
