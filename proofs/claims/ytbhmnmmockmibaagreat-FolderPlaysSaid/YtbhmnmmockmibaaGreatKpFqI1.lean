/- The walk of the reference's Files. Conditions: at most 880 calls. The walk of is: a folder is the reference's. Conditions: at most 880 calls. -/
import Derived.Test.YtbhmnmmockmibaaGreatKpFoAl
import Derived.Test.YtbhmnmmockmibaaGreatKpFqS1
import Derived.Test.YtbhmnmmockmibaaGreatKpFoLB
namespace Go.Proofs.YtbhmnmmockmibaaGreat
open Go.RowKit Go.Maps
theorem rbytesB {w W w1 : World} {X : Nat → Prop} {g N : Nat} {p : Rp} {s : Fo} (h : RfB w W w1 X g p s) (hok : s.Ok N) (hN : N ≤ 890) {z : Int} {f : Fi} (hf : findF s.fs z = some f) :
    Calls Tryz.prog 49 #[.agg #[.slice p.T p.nT p.cT, .int .i64 s.q, .int .i64 (s.made : Int)], .int .i64 z] w1 fun e w2 => ∃ A c, e = .returned (.tuple #[.slice A (contM f.m).length c, .int .i64 0]) ∧ w2.ownsRow w1.heap.size 5 1 (.slice A (contM f.m).length c) (contM f.m).length (bs (contM f.m)) ∧ Below w1.heap.size w1 w2 := by
  refine (rbytesT_any (z := z) (hok.rl (by omega)) (hok.sm (by omega)) h.pt.t).mono ?_
  rintro e w2 ⟨A, c, n, er, rfl, hb, hT⟩
  rcases hT with ⟨rfl, hn, rfl⟩ | ⟨rfl, k, x, hx, hz, rfl, ho⟩
  · rw [rmT_none hn] at hf
    cases hf
  · obtain ⟨f', hf', hff, rfl⟩ := rmT_some hok.srt hx hz
    rw [hf] at hff
    injection hff with hff
    subst hff
    exact ⟨A, c, rfl, ho, hb⟩
set_option maxHeartbeats 8000000 in
set_option maxRecDepth 100000 in
theorem rfiles_any {w : World} {X : Nat → Prop} {v : Value} {s : Fo} {N : Nat} (hr : RefF w X v s) (hok : s.Ok N) (hN : N ≤ 880) (hw : s.Well) :
    Calls Tryz.prog 52 #[v] w fun e w' => ∃ v es, e = .returned v ∧ FlO 70 w.heap.size w' v es ∧ es.map Fv.say = s.files ∧ Below w.heap.size w w' := by
  obtain ⟨B0, hB0⟩ : ∃ B, Hid (w.heap.size = B) := ⟨_, rfl⟩
  obtain ⟨p, rfl, hp0⟩ := id hr
  obtain ⟨W, hW⟩ : ∃ W, Hid (w.alloc (.cells (p.cs s) 36) = W) := ⟨_, rfl⟩
  have hsz := Lib.hid (show W.heap.size = w.heap.size + 1 by rw [← hW.out]; simp)
  have hbW : Hid (Below w.heap.size w W) := by rw [← hW.out]; exact below_new _ _
  have hg0 : Hid (W.heap[B0]? = some (.cells (p.cs s) 36 (0, 0))) := by rw [← hW.out, ← hB0.out]; exact heap_alloc_new _ _
  have hR0 : Hid (RfB w W W X B0 p s) := ⟨hg0.out, by
    have h1 : RfP w (fun b => X b ∨ w.heap.size ≤ b) p s := by
      obtain ⟨A, c, A', c', e, h1, h2⟩ := hp0.d.v
      obtain ⟨A2, c2, es, e2, h3, h4⟩ := hp0.t
      exact ⟨⟨A, c, A', c', e, h1.high', h2.high'⟩, ⟨A2, c2, es, e2, h3.high, h4⟩, hp0.g.high'⟩
    exact (h1.below hbW.out).mono fun b _ (e : AY w W X b) => e.2, hbW.out, Nat.le_refl _, by have := hB0.out; have := hsz.out; omega⟩
  have Hok := Lib.hid hok
  have Hw := Lib.hid hw
  clear hr hp0 hok hw
  obtain ⟨c0, c1, c2, c3, c4, c5, c6⟩ := hR0.out.cells
  have Hl := Lib.hid (refList_any hR0.out.pt.d Hok.out.d (by omega))
  obtain ⟨m, hm⟩ : ∃ x, Hid (s.d.now = x) := ⟨_, rfl⟩
  have hlen := Lib.hid Hok.out.d.now.1
  have hfile := Lib.hid Hw.out.file
  rw [hm.out] at Hl hlen hfile
  go_enter Tryz.func52, Tryz.ntmps52
  go_upto_region 1 with fail
  rw [hB0.out, hW.out]
  go_upto_region 4 with (go_at_call 31; refine Hl.out.mono ?_; rintro e w3 ⟨A3, n3, k3, rfl, hn3, h3, hb3⟩; have HL3 := Lib.hid h3; have Hn3 := Lib.hid hn3; have HR3 := Lib.hid (hR0.out.below hb3); clear h3 hn3 hb3; clear c0 c1 c2 c3 c4 c5 c6)
  have hn3I : n3 ≤ 880 := by rw [Hn3.out]; have := hlen.out; omega
  have hn3I' : (n3 : Int) ≤ 880 := by omega
  go_loopw [3, 5] (fun r i wr => ∃ (j : Nat) (es : List Fv), j ≤ n3 ∧ i = .int .i64 (j : Int) ∧ FlO 70 w3.heap.size wr r es ∧ Hid (es.map Fv.say = (m.take j).map fun e => (e.1, (bytesF s.fs e.2).1)) ∧ Hid (Below w3.heap.size w3 wr)) (fun _ i _ => n3 - (intOf i).toNat)
  case atStart => exact ⟨0, [], by omega, rfl, FlO.nil _ _ _, Lib.hid rfl, .refl _ _⟩
  case round =>
    obtain ⟨j, es, hj, rfl, hrow, hsay, hbr⟩ := hrel
    have Hrow := Lib.hid hrow
    clear hrow
    by_cases hlt : j < n3
    · have HRr := Lib.hid (HR3.out.below hbr.out)
      have HLr := Lib.hid (RdX.below HL3.out hbr.out)
      obtain ⟨ad, e, rfl, hab, hax, d0, d1, hx⟩ := EnXD.at_ HLr.out (k := j) (by rw [← Hn3.out]; exact hlt)
      obtain ⟨ek, ez⟩ := e
      obtain ⟨f, hf⟩ := hfile.out _ (List.mem_of_getElem? hx.out)
      have hby := Lib.hid (rbytesB (HRr.out.below (Below.refl _ _).drew) Hok.out (by omega) hf)
      have hbf : Hid ((bytesF s.fs ez).1 = contM f.m) := by
        have e : findF s.fs ez = some f := hf
        show (bytesF s.fs ez).1 = contM f.m
        unfold bytesF
        rw [e]
      obtain ⟨bl, hbl⟩ : ∃ bl, Hid (contM f.m = bl) := ⟨_, rfl⟩
      obtain ⟨nb, hnb⟩ : ∃ nb, Hid (bl.length = nb) := ⟨_, rfl⟩
      rw [hbl.out, hnb.out] at hby
      rw [hbl.out] at hbf
      clear hf
      have Hab := Lib.hid hab
      have hcs : Hid (∀ wx, Below wr.heap.size wr wx → (wx.cell? ⟨B0, 2, none⟩ = some (.slice p.T p.nT p.cT) ∧ wx.cell? ⟨B0, 3, none⟩ = some (.int .i64 s.q) ∧ wx.cell? ⟨B0, 4, none⟩ = some (.int .i64 (s.made : Int))) ∧ wx.cell? ⟨(ad.add (j * 2)).block, (ad.add (j * 2)).off + 1, none⟩ = some (.int .i64 ez) ∧ wx.cell? (ad.add (j * 2)) = some (.string (txt ek))) := fun wx hb => by
        obtain ⟨_, _, q2, q3, q4, _, _⟩ := (HRr.out.below hb).cells
        exact ⟨⟨q2, q3, q4⟩, (hb.cell (p := ⟨(ad.add (j * 2)).block, (ad.add (j * 2)).off + 1, none⟩) (by rw [block_of_add]; exact Hab.out)).trans d1, (hb.cell (p := ad.add (j * 2)) (by rw [block_of_add]; exact Hab.out)).trans d0⟩
      clear hab hax d0 d1
      go_upto_region 6 with fail
      have s0 := hcs.out wr.drew (Below.refl _ _).drew
      go_region_held3 (fun wx => (wx.cell? ⟨B0, 2, none⟩ = some (.slice p.T p.nT p.cT) ∧ wx.cell? ⟨B0, 3, none⟩ = some (.int .i64 s.q) ∧ wx.cell? ⟨B0, 4, none⟩ = some (.int .i64 (s.made : Int))) ∧ wx.cell? ⟨(ad.add (j * 2)).block, (ad.add (j * 2)).off + 1, none⟩ = some (.int .i64 ez) ∧ wx.cell? (ad.add (j * 2)) = some (.string (txt ek))) (first | exact s1 | exact s0) (first | (go_at_call 49; refine hby.out.mono ?_; rintro e w5 ⟨A5, c5, rfl, ho5, hb5⟩; have Ho5 := Lib.hid ho5; have Hb5 := Lib.hid (((Below.refl wr.heap.size wr).drew).trans hb5); have s1 := hcs.out w5 Hb5.out; clear ho5 hb5))
      obtain ⟨_, _, s2⟩ := s1
      have hb15 : Hid (Below w3.heap.size w3 w5) := hbr.out.trans (Hb5.out.mono hbr.out.size)
      have hrow5 := Lib.hid (Hrow.out.below Hb5.out)
      have hel : es.length ≤ 900 := by
        have := congrArg List.length hsay.out
        rw [List.length_map, List.length_map, List.length_take] at this
        omega
      have hap : Hid (∀ b, (⟨ek, A5, c5, bl⟩ : Fv).r.ownBlock = some b → wr.heap.size ≤ b) := fun b hb => by
        have h := Ho5.out
        rw [← hnb.out] at h
        exact (h.lt b hb).1
      have hap2 : Hid (∀ (v : Value), FlO 70 w3.heap.size wr v es → ∀ b, (⟨ek, A5, c5, bl⟩ : Fv).r.ownBlock = some b → v.ownBlock ≠ some b ∧ ∀ q ∈ es, q.r.ownBlock ≠ some b) := by
        intro v hv b hb
        have h1 := hap.out b hb
        refine ⟨fun e => ?_, fun q hq e => ?_⟩
        · have := (hv.head.lt b e).2
          omega
        · have := ((hv.row q hq).lt b e).2
          omega
      have hro : Hid (w5.ownsRow w3.heap.size 5 1 (⟨ek, A5, c5, bl⟩ : Fv).r bl.length (bs bl)) := by
        have h := Ho5.out
        rw [← hnb.out] at h
        exact own_base h hbr.out.size
      go_wp2_with (at_builtin; refine push_fl flSl2 (.tmp 28) (.tmp 36) ⟨ek, A5, c5, bl⟩ rfl hnb.out rfl rfl hrow5.out hro.out (hap2.out _ Hrow.out) hb15.out.size (by omega) rfl rfl rfl rfl rfl ?_; intro v' w6 hown' hb6; go_frame)
      go_roundw
      case rel => exact ⟨j + 1, es ++ [⟨ek, A5, c5, bl⟩], by omega, by go_num, hown', by show _ = _; rw [List.map_append, hsay.out, files_snoc hx.out]; simp [Fv.say, hbf.out], hb15.out.trans hb6⟩
      case measure => simp [intOf]; omega
    · obtain rfl : j = n3 := by omega
      have hfull : m.take j = m := by rw [Hn3.out, List.take_length]
      rw [hfull] at hsay
      have Hfin := Lib.hid (Hrow.out.base_ HR3.out.bel.size)
      go_wp2
      go_ret
      refine ⟨_, es, rfl, Hfin.out, ?_, HR3.out.bel.trans (hbr.out.mono HR3.out.bel.size)⟩
      rw [hsay.out]
      unfold Fo.files
      rw [hm.out]
end Go.Proofs.YtbhmnmmockmibaaGreat

namespace Go.Proofs.YtbhmnmmockmibaaGreat
open Go.RowKit Go.Maps
theorem RfP.acts {w : World} {X : Nat → Prop} {p : Rp} {s : Fo} (h : RfP w X p s) : p.nO = s.d.ops.length := by
  obtain ⟨A, c, A', c', e, _, _⟩ := h.d.v
  simp only [Value.agg.injEq, Array.mk.injEq, List.cons.injEq, Value.slice.injEq] at e
  exact e.2.1.2.1
set_option maxHeartbeats 16000000 in
set_option maxRecDepth 100000 in
theorem is_any {w0 w : World} {X Y : Nat → Prop} {F N : Nat} {s : Fo} {v : Value} (hf : FS w0 Y F s N w) (hN : N ≤ 880) (hr : RefF w X v s) (hw : s.Well) :
    Calls Tryz.prog 16 #[.pointer (some ⟨F, 0, none⟩), v] w fun e w' => e = .returned (.bool true) ∧ Below w.heap.size w w' := by
  obtain ⟨B0, hB0⟩ : ∃ B, Hid (w.heap.size = B) := ⟨_, rfl⟩
  obtain ⟨p, rfl, hp0⟩ := id hr
  obtain ⟨W, hW⟩ : ∃ W, Hid (w.alloc (.cells (p.cs s) 36) = W) := ⟨_, rfl⟩
  have hbW : Hid (Below w.heap.size w W) := by rw [← hW.out]; exact below_new _ _
  have hg0 : Hid (W.heap[B0]? = some (.cells (p.cs s) 36 (0, 0))) := by rw [← hW.out, ← hB0.out]; exact heap_alloc_new _ _
  have HP := Lib.hid (hp0.below hbW.out)
  have HF := Lib.hid (hf.quiet hbW.out).1
  have Hok := Lib.hid hf.ok
  have Hw := Lib.hid hw
  have hnO := hp0.acts
  clear hr hp0 hf hw
  obtain ⟨P, hP⟩ : ∃ x, Hid (s.d.ops.length = x) := ⟨_, rfl⟩
  obtain ⟨V, hV⟩ : ∃ x, Hid (volF s.fs = x) := ⟨_, rfl⟩
  obtain ⟨U, hU⟩ : ∃ x, Hid (usedF s.fs = x) := ⟨_, rfl⟩
  rw [hP.out] at hnO
  have hcs : Hid (∀ wx, Below W.heap.size W wx → wx.cell? ⟨B0, 0, none⟩ = some (.slice p.D p.nD p.cD) ∧ wx.cell? ⟨B0, 1, none⟩ = some (.slice p.O P p.cO) ∧ wx.cell? ⟨B0, 2, none⟩ = some (.slice p.T p.nT p.cT) ∧ wx.cell? ⟨B0, 3, none⟩ = some (.int .i64 s.q) ∧ wx.cell? ⟨B0, 4, none⟩ = some (.int .i64 (s.made : Int)) ∧ wx.cell? ⟨B0, 5, none⟩ = some (.int .i64 s.most) ∧ wx.cell? ⟨B0, 6, none⟩ = some (.slice p.G s.tk.length p.cG)) := fun wx hb => by
    have h := sept_cell ((hb.block _ (Array.getElem?_eq_some_iff.1 hg0.out).1).trans hg0.out)
    rw [hnO] at h
    exact h
  have Hf1 := Lib.hid (ffiles_any HF.out (by omega))
  go_enter Tryz.func16, Tryz.ntmps16
  go_upto_region 1 with fail
  rw [hB0.out, hW.out]
  go_upto_region 2 with (go_at_call 18; refine Hf1.out.mono ?_; rintro e w1 ⟨v, es, rfl, hfl, hes, hb1⟩; obtain ⟨A1, c1, rfl, _, _, _⟩ := own_form hfl.head; have Hfl := Lib.hid hfl; have Hes := Lib.hid hes; have Hb1 := Lib.hid hb1; clear hfl hes hb1)
  obtain ⟨ne, hne⟩ : ∃ x, Hid (es.length = x) := ⟨_, rfl⟩
  rw [hne.out]
  have hneI : ne ≤ 880 := by have := files_short Hok.out; rw [← Hes.out, List.length_map, hne.out] at this; omega
  have hneI' : (ne : Int) ≤ 880 := by omega
  have hsm : Hid (∀ e ∈ es, e.l.length ≤ 60000) := fun e he => files_cont Hok.out (by omega) (e.n, e.l) (by rw [← Hes.out]; exact List.mem_map.2 ⟨e, he, rfl⟩)
  have hb1d : Hid (Below W.heap.size W w1.drew) := Hb1.out.drew
  have hcv : Value.agg (p.cs s) = .agg #[.slice p.D p.nD p.cD, .slice p.O P p.cO, .slice p.T p.nT p.cT, .int .i64 s.q, .int .i64 (s.made : Int), .int .i64 s.most, .slice p.G s.tk.length p.cG] := by unfold Rp.cs; rw [hnO]
  have Hrf := Lib.hid (rfiles_any (v := .agg (p.cs s)) ⟨p, rfl, HP.out.below hb1d.out⟩ Hok.out hN Hw.out)
  rw [hcv] at Hrf
  clear hcv hnO
  have s0 := hcs.out _ hb1d.out
  have HR := Lib.hid (fun wx (hb : Below W.heap.size W wx) => (HP.out.t.below hb))
  have HFq := Lib.hid (fun wx (hb : Below W.heap.size W wx) => (HF.out.quiet hb).1)
  obtain ⟨nt, hnt⟩ : ∃ x, Hid (s.tk.length = x) := ⟨_, rfl⟩
  rw [hnt.out] at Hrf hcs s0
  go_region_held3 (fun wx => wx.cell? ⟨B0, 0, none⟩ = some (.slice p.D p.nD p.cD) ∧ wx.cell? ⟨B0, 1, none⟩ = some (.slice p.O P p.cO) ∧ wx.cell? ⟨B0, 2, none⟩ = some (.slice p.T p.nT p.cT) ∧ wx.cell? ⟨B0, 3, none⟩ = some (.int .i64 s.q) ∧ wx.cell? ⟨B0, 4, none⟩ = some (.int .i64 (s.made : Int)) ∧ wx.cell? ⟨B0, 5, none⟩ = some (.int .i64 s.most) ∧ wx.cell? ⟨B0, 6, none⟩ = some (.slice p.G nt p.cG)) (first | exact s8 | exact s7 | exact s6 | exact s5 | exact s4 | exact s3 | exact s2 | exact s0) (first
    | (go_at_call 52; refine Hrf.out.mono ?_; rintro e w2 ⟨v, es2, rfl, hfl2, hes2, hb2⟩; obtain ⟨A2, c2, rfl, _, _, _⟩ := own_form hfl2.head; have Hb12 := Lib.hid (((Below.refl w1.heap.size w1).drew).trans hb2); have hl2 := Lib.hid (show es2.length = ne by rw [← hne.out, ← List.length_map (f := Fv.say), hes2, ← Hes.out, List.length_map]); rw [hl2.out]; have Hb2 := Lib.hid (Hb1.out.trans (Hb12.out.mono Hb1.out.size)); have s2 := hcs.out _ Hb2.out; have Hft := Lib.hid (files_true (c1 := c1) (c2 := c2) ((Hfl.out.reads (X := fun _ => False) fun _ h => h.elim).2.below Hb12.out) (hfl2.reads (X := fun _ => False) fun _ h => h.elim).2 hne.out hl2.out (Hes.out.trans hes2.symm) (by omega) (fun e he => by have := hsm.out e he; omega)); clear hfl2 hes2 hb2)
    | (go_at_call 24; refine Hft.out.mono ?_; rintro e w3 ⟨rfl, hb3⟩; have Hb3 := Lib.hid (Hb2.out.trans (hb3.mono Hb2.out.size)); have Hb13 := Lib.hid (Hb12.out.trans (hb3.mono Hb12.out.size)); have s3 := hcs.out _ Hb3.out; have Hp4 := Lib.hid (fpend_any (HFq.out _ Hb3.out)); rw [hP.out] at Hp4; clear hb3)
    | (go_at_call 19; refine Hp4.out.mono ?_; rintro e w4 ⟨rfl, hb4⟩; have Hb4 := Lib.hid (Hb3.out.trans (hb4.mono Hb3.out.size)); have Hb14 := Lib.hid (Hb13.out.trans (hb4.mono Hb13.out.size)); have s4 := hcs.out _ Hb4.out; have Hv5 := Lib.hid (fvol_any (HFq.out _ Hb4.out) (by omega)); rw [hV.out] at Hv5; clear hb4)
    | (go_at_call 20; refine Hv5.out.mono ?_; rintro e w5 ⟨rfl, hb5⟩; have Hb5 := Lib.hid (Hb4.out.trans (hb5.mono Hb4.out.size)); have Hb15 := Lib.hid (Hb14.out.trans (hb5.mono Hb14.out.size)); have s5 := hcs.out _ Hb5.out; have Hv6 := Lib.hid (rvolT_any (Hok.out.rl (by omega)) (Hok.out.sm (by omega)) (HR.out _ Hb5.out)); rw [rmT_vol, hV.out] at Hv6; clear hb5)
    | (go_at_call 53; refine Hv6.out.mono ?_; rintro e w6 ⟨rfl, hb6⟩; have Hb6 := Lib.hid (Hb5.out.trans (hb6.mono Hb5.out.size)); have Hb16 := Lib.hid (Hb15.out.trans (hb6.mono Hb15.out.size)); have s6 := hcs.out _ Hb6.out; have Hu7 := Lib.hid (fused_any (HFq.out _ Hb6.out) (by omega)); rw [hU.out] at Hu7; clear hb6)
    | (go_at_call 23; refine Hu7.out.mono ?_; rintro e w7 ⟨rfl, hb7⟩; have Hb7 := Lib.hid (Hb6.out.trans (hb7.mono Hb6.out.size)); have Hb17 := Lib.hid (Hb16.out.trans (hb7.mono Hb16.out.size)); have s7 := hcs.out _ Hb7.out; have Hu8 := Lib.hid (rused_any (Hok.out.rl (by omega)) (Hok.out.sm (by omega)) (HR.out _ Hb7.out)); rw [rmT_used, hU.out] at Hu8; clear hb7)
    | (go_at_call 54; refine Hu8.out.mono ?_; rintro e w8 ⟨rfl, hb8⟩; have Hb8 := Lib.hid (Hb7.out.trans (hb8.mono Hb7.out.size)); have Hb18 := Lib.hid (Hb17.out.trans (hb8.mono Hb17.out.size)); have s8 := hcs.out _ Hb8.out; clear hb8))
  have hS8 := Lib.hid (Hfl.out.spoil.below Hb18.out)
  have hB8 := Lib.hid (hbW.out.trans (Hb8.out.mono hbW.out.size))
  have hWs := Lib.hid hbW.out.size
  obtain ⟨BW, hBW⟩ : ∃ x, Hid (W.heap.size = x) := ⟨_, rfl⟩
  rw [hBW.out] at hS8 hWs
  have hset : ∀ (wx : World) (g i : Nat) (u : Value), BW ≤ g → Below w.heap.size w wx → Below w.heap.size w (wx.setCell ⟨g, i, none⟩ u) := fun _ _ _ _ hg hb =>
    hb.trans ((Touch.cell1 _ _ _ _).below hb.size fun b e => by rw [e]; exact Nat.le_trans hWs.out hg)
  have Hset := Lib.hid hset
  clear hset s0 s2 s3 s4 s5 s6 s7 s8 Hf1 Hrf Hft Hp4 Hv5 Hv6 Hu7 Hu8
  go_wp2
  go_loopw [7] (fun iv wr => ∃ i : Nat, i ≤ ne ∧ iv = .int .i64 (i : Int) ∧ Hid (FlS 63 BW wr (.slice A1 ne c1) es) ∧ Hid (Below w.heap.size w wr)) (fun i _ => ne - (intOf i).toNat)
  case atStart => exact ⟨0, by omega, rfl, by have := hS8.out; rw [hne.out] at this; exact this, hB8⟩
  case round =>
    clear hS8 hB8
    obtain ⟨i, hi, rfl, hS, hB⟩ := hrel
    by_cases hlt : i < ne
    · have hx : es[i]? = some (es[i]'(by rw [hne.out]; exact hlt)) := List.getElem?_eq_getElem _
      obtain ⟨e, he⟩ : ∃ e, es[i]'(by rw [hne.out]; exact hlt) = e := ⟨_, rfl⟩
      rw [he] at hx
      have Hx := Lib.hid hx
      clear hx he
      have hme := Lib.hid (hsm.out e (List.mem_of_getElem? Hx.out))
      obtain ⟨m, hm⟩ : ∃ x, Hid (e.l.length = x) := ⟨_, rfl⟩
      have hmI : (m : Int) ≤ 60000 := by have := hme.out; rw [hm.out] at this; omega
      go_upto_region 7 with fail
      go_loopw [8] (fun kv wx => ∃ k : Nat, k ≤ m ∧ kv = .int .i64 (k : Int) ∧ Hid (FlS 63 BW wx (.slice A1 ne c1) es) ∧ Hid (Below w.heap.size w wx)) (fun i _ => m - (intOf i).toNat)
      case atStart => exact ⟨0, by omega, rfl, hS, hB⟩
      case round =>
        clear hS hB
        obtain ⟨k, hk, rfl, hS, hB⟩ := hrel
        obtain ⟨gH, cap, hv, hgH, hfz, ⟨u0, hu0⟩, hc1, hsetN⟩ := hS.out.name Hx.out
        injection hv with hv1 hv2 hv3
        subst hv1
        subst hv3
        rw [hm.out] at hc1
        by_cases hltk : k < m
        · obtain ⟨g, hA, hg, hfz2, ⟨u1, hu1⟩, hsetB⟩ := hS.out.byte (k := k) Hx.out (by rw [hm.out]; exact hltk)
          rw [hA] at hc1
          have HsB := Lib.hid hsetB
          have HBB := Lib.hid (Hset.out _ g k (.int .u8 7) hg hB.out)
          clear hsetB hsetN hu0 hA
          go_wp2
          go_roundw
          case rel => exact ⟨k + 1, by omega, by go_num, HsB.out _, HBB.out⟩
          case measure => simp [intOf]; omega
        · obtain rfl : k = m := by omega
          have HsN := Lib.hid hsetN
          have HBN := Lib.hid (Hset.out _ gH (i * 2) (.string ⟨#[63]⟩) hgH hB.out)
          clear hsetN
          go_wp2
          go_roundw
          case rel => exact ⟨i + 1, by omega, by go_num, HsN.out _, HBN.out⟩
          case measure => simp [intOf]; omega
    · obtain rfl : i = ne := by omega
      go_wp2
      go_ret
      exact ⟨rfl, hB.out⟩
end Go.Proofs.YtbhmnmmockmibaaGreat
