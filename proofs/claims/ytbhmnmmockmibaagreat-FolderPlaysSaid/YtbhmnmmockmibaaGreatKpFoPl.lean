/- FolderPlays's walk. Conditions: none. -/
import Derived.Test.YtbhmnmmockmibaaGreatKpFqX
import Derived.Test.YtbhmnmmockmibaaGreatKpFoLB
import Derived.Test.YtbhmnmmockmibaaGreatKpFqS1
import Derived.Test.YtbhmnmmockmibaaGreatKpFqI1
import Derived.Test.YtbhmnmmockmibaaGreatKpFoL8
namespace Go.Proofs.YtbhmnmmockmibaaGreat
open Go.RowKit Go.Maps
structure PlSt (w : World) (F R0 k : Nat) (s : Fo) (Y : Nat → Prop) (cs : Array Value) (wr : World) : Prop where
  fs : FS w Y F s (2 * k) wr
  box : wr.heap[R0]? = some (.cells cs 36 (0, 0))
  ref : RefF wr (fun b => Fr w Y b ∨ b = R0) (.agg cs) s
  inv : s.Inv
  y : Y R0
theorem Fo.doC_one {s : Fo} {g kk : Nat} {n t l : List UInt8} : (s.doC g kk n t l).2.2.1 = [] ∨ (s.doC g kk n t l).2.2.2 = [] := by
  by_cases h7 : kk = 7
  · subst h7
    exact .inr rfl
  · by_cases h8 : kk = 8
    · subst h8
      left
      show (s.doRead n).2.2.1 = []
      unfold Fo.doRead
      split <;> rfl
    · exact .inl (Fo.doC_none h7 h8).1
def F18 (cs : Array Value) (ad : Addr) (n c k : Nat) (cv : Value) : Nat → Value → World → Prop
  | 0, v, _ => v = .agg cs
  | 1, v, _ => v = .slice (some ad) n c
  | 2, v, _ => v = .int .i64 (k : Int)
  | 3, v, _ => v = .pointer (some (ad.add (k * 6)))
  | 4, v, _ => v = .pointer (some (ad.add (k * 6)))
  | 5, v, _ => v = cv
  | _, _, _ => True
theorem F18.keep {cs : Array Value} {ad : Addr} {n c k : Nat} {cv : Value} : ∀ i u w w', F18 cs ad n c k cv i u w → F18 cs ad n c k cv i u w'
  | 0, _, _, _, h | 1, _, _, _, h | 2, _, _, _, h | 3, _, _, _, h | 4, _, _, _, h | 5, _, _, _, h => h
  | _ + 6, _, _, _, _ => trivial
def zP : Sl := ⟨6, 7, 8, 9, 10, 94, 95, 87, 96, 97⟩
def dP : List Nv := [⟨11, 13, 13, 96, 36, zrf⟩, ⟨12, 14, 14, 97, 53, zres⟩]
theorem keyP : KeyS dP := by
  refine ⟨?_, ?_⟩
  · intro e he e' he' h
    simp only [dP, List.mem_cons, List.not_mem_nil, or_false] at he he'
    rcases he with rfl | rfl <;> rcases he' with rfl | rfl <;> first | rfl | (simp at h)
  · intro e he e' he'
    simp only [dP, List.mem_cons, List.not_mem_nil, or_false] at he he'
    rcases he with rfl | rfl <;> rcases he' with rfl | rfl <;> decide
theorem offP {i d : Nat} (hi : i < 11) (hd : 14 < d) : ∀ e ∈ dP, i ≠ e.i ∧ i ≠ e.s ∧ d ≠ e.d := by
  intro e he
  simp only [dP, List.mem_cons, List.not_mem_nil, or_false] at he
  rcases he with rfl | rfl <;> (refine ⟨?_, ?_, ?_⟩ <;> simp only <;> omega)
theorem srcP {i d : Nat} {ops : List Oper} (hd : d ≠ 96 ∧ d ≠ 97) : ∀ e ∈ dP, d = e.src → ∀ L : Array Bool, Closed ops L → L.getD i false = false → L.getD e.s false = false := by
  intro e he h
  simp only [dP, List.mem_cons, List.not_mem_nil, or_false] at he
  rcases he with rfl | rfl
  · exact absurd h hd.1
  · exact absurd h hd.2
theorem run_call3 (w : World) (x y z u : Value) : (Instr.field 46 (.agg #[x, y, z, u]) 3).run Tryz.prog w = .ok u w := by kernel_rfl
theorem PlSt.next {w : World} {F R0 k : Nat} {s' : Fo} {Y' : Nat → Prop} {cs' : Array Value} {wc wx : World} {m : Nat} (hf : FS w Y' F s' m wc) (hm : m ≤ 2 * (k + 1)) (hb : wc.heap[R0]? = some (.cells cs' 36 (0, 0))) (hr : RefF wc (fun b => Fr w Y' b ∨ b = R0) (.agg cs') s') (hi : s'.Inv) (hy : Y' R0) (hq : Below wc.heap.size wc wx) : PlSt w F R0 (k + 1) s' Y' cs' wx :=
  ⟨((hf.quiet hq).1.mono hm), (hq.block _ (Array.getElem?_eq_some_iff.1 hb).1).trans hb, hr.below hq, hi, hy⟩
set_option maxHeartbeats 16000000 in
set_option maxRecDepth 100000 in
theorem plays_any {A : Option Addr} {c n : Nat} {l : List Af} {bytes entries : Int} {w : World} (hb1 : -9223372036854775808 ≤ bytes) (hb2 : bytes ≤ 9223372036854775807) (he1 : -9223372036854775808 ≤ entries) (he2 : entries ≤ 9223372036854775807) (hn : l.length = n) (hl : n ≤ 9223372036854775807) (hr : AfX w (fun _ => False) A l) :
    Calls Tryz.prog 3 #[.int .i64 bytes, .int .i64 entries, .slice A n c] w fun e w' => e = .returned (.bool true) ∧ Below w.heap.size w w' := by
  have Hfew := Lib.hid (few_any (c := c) (t := 40) hn (by omega) hl hr)
  have Hworks := Lib.hid works_any
  have Hnew := Lib.hid (fnew_any (w := w) bytes entries hb1 hb2 he1 he2)
  have Hrn := Lib.hid (fun wx : World => rnewF_any (X := fun b => b < wx.heap.size) bytes entries wx hb1 hb2 he1 he2 fun _ e => e)
  have Hn := Lib.hid hn
  have Hr := Lib.hid hr.low
  clear hn hl hr
  go_enter Tryz.func3, Tryz.ntmps3
  go_wp2_with (first
    | (go_at_call 6; refine Hfew.out.mono ?_; rintro e w1 ⟨b, rfl, hbt, rfl⟩; cases b)
    | (go_at_call 7; refine (Hworks.out _).mono ?_; rintro e w1 ⟨rfl, hb⟩)
    | (go_at_call 8; refine Hnew.out.mono ?_; rintro e w2 ⟨F, rfl, h1⟩; have H1 := Lib.hid h1; clear h1; have Hrn2 := Lib.hid (Hrn.out w2))
    | (go_at_call 9; refine Hrn2.out.mono ?_; rintro e w3 ⟨u, rfl, hb2, hu2⟩; obtain ⟨cs, rfl, hsv⟩ := hu2.agg; have Hb2 := Lib.hid hb2; have Hu2 := Lib.hid hu2; have Hsv := Lib.hid hsv; clear hb2 hu2 hsv)
    | (refine wpList_store_row rfl 36 (.tmp 8) (.tmp 26) rfl w3.heap.size _ rfl rfl _ _ (heap_alloc_new w3 _) (by rw [Hsv.out.n]; exact size_rf) (by rw [Hsv.out.n]; rfl) Hsv.out.one ?_))
  · go_ret
    exact ⟨rfl, hb⟩
  have hsm := Lib.hid (show SmF l 40 by simpa using hbt)
  have hnI : (n : Int) ≤ 40 := by have := hsm.out.1; rw [Hn.out] at this; omega
  obtain ⟨R0, hR0⟩ : ∃ g, Hid (w3.heap.size = g) := ⟨_, rfl⟩
  obtain ⟨W3, hW3⟩ : ∃ W3, Hid ((w3.alloc (.cells #[.slice none 0 0, .slice none 0 0, .slice none 0 0, .int .i64 0, .int .i64 0, .int .i64 0, .slice none 0 0] 36)).setRow w3.heap.size cs = W3) := ⟨_, rfl⟩
  have hbox3 : Hid (W3.heap[R0]? = some (.cells cs 36 (0, 0))) := by rw [← hW3.out, ← hR0.out]; exact setRow_heap _ _ _ _ _ _ (heap_alloc_new w3 _)
  have hb3 : Hid (Below w3.heap.size w3 W3) := by rw [← hW3.out]; exact below_setRow (below_new _ _) (Nat.le_refl _) _
  have hs3 := Lib.hid (show W3.heap.size = w3.heap.size + 1 by rw [← hW3.out, size_setRow]; simp)
  rw [hW3.out, hR0.out]
  have hst0 : Hid (PlSt w1 F R0 0 (Fo.new bytes entries) (fun b => w2.heap.size ≤ b ∧ b < W3.heap.size) cs W3) := by
    refine ⟨H1.out.more (Hb2.out.trans (hb3.out.mono Hb2.out.size)) fun k hk => .inr hk, hbox3.out, (Hu2.out.high hb3.out).mono fun b hb e => ?_, Fo.Inv.new _ _, ?_⟩
    · rcases e with e | e
      · rcases Nat.lt_or_ge b w2.heap.size with h | h
        · exact .inl h
        · exact absurd ⟨h, hb⟩ e.2
      · right; rw [e, ← hR0.out]; exact Nat.le_refl _
    · have := hR0.out
      have := hs3.out
      have := Hb2.out.size
      exact ⟨by omega, by omega⟩
  clear hbt H1 Hnew Hfew Hrn Hrn2 Hb2 Hu2 Hsv hbox3 hb3 hs3 hW3 hR0
  go_loopw [9] (fun iv wr => ∃ (k : Nat) (s : Fo) (Y : Nat → Prop) (cs : Array Value), k ≤ n ∧ iv = .int .i64 (k : Int) ∧ Hid (PlSt w1 F R0 k s Y cs wr)) (fun i _ => n - (Go.Lib.intOf i).toNat)
  case atStart => exact ⟨0, _, _, _, by omega, rfl, hst0⟩
  case round =>
    clear hst0
    obtain ⟨k, s, Y, cs, hk, rfl, hst⟩ := hrel
    by_cases hlt : k < n
    · have hw := Lib.hid hst.out.fs.below
      have hwl := Lib.hid (hst.out.inv.well hst.out.fs.ok)
      obtain ⟨ad, a, rfl, hab, _, hcs, hx, hrow, htold, hok⟩ := Hr.out.at_ (k := k) (by rw [Hn.out]; exact hlt)
      have ha := Lib.hid (hsm.out.2 a (List.mem_of_getElem? hx.out))
      have HD := Lib.hid (fun wx (hb : Below w1.heap.size w1 wx) => hcs.keep (X := fun _ => False) (by rw [block_of_add]; exact hab) (fun e => e) (Touch.of hb))
      have Hrow := Lib.hid hrow
      have Htold := Lib.hid htold
      have Hok := Lib.hid hok
      have Hab := Lib.hid (show (ad.add (k * 6)).block < w1.heap.size by rw [block_of_add]; exact hab)
      clear hab hcs hrow htold hok
      have hkI : (k : Int) < (n : Int) := by omega
      have hkN : k ≤ 40 := by omega
      have hRlt := Lib.hid (Array.getElem?_eq_some_iff.1 hst.out.box).1
      have hRge := Lib.hid (show w1.heap.size ≤ R0 from (hst.out.fs.ylow hst.out.y).2)
      obtain ⟨d0, d1, d2, d3, d4, d5⟩ := HD.out wr hw.out
      go_upto_region 8 with fail
      by_cases h9 : a.k = 9
      · rw [h9] at d0
        obtain ⟨kn, hkn⟩ : ∃ x, Hid (a.q.l.length = x) := ⟨_, rfl⟩
        rw [hkn.out] at d5
        have HF5d := Lib.hid (hst.out.fs.quiet (Below.refl _ _).drew).1
        have Hpw := Lib.hid (fpower_any (nk := kn) HF5d.out (by omega) a.o Hok.out.o.1 Hok.out.o.2 (keep := a.q.l) ((Htold.out.below hw.out.drew).mono fun _ _ e => e.1) hkn.out (by rw [← hkn.out]; exact Hok.out.qc) (by have := ha.out.2.2.2; rw [hkn.out] at this; omega))
        have hS : Hid (∀ wx, Below w1.heap.size w1 wx → wx.cell? ⟨(ad.add (k * 6)).block, (ad.add (k * 6)).off + 4, none⟩ = some (.int .i64 a.o) ∧ wx.cell? ⟨(ad.add (k * 6)).block, (ad.add (k * 6)).off + 5, none⟩ = some (.slice a.q.A kn a.q.c)) := fun wx hb => by
          have h1 := (HD.out wx hb).c4
          have h2 := (HD.out wx hb).c5
          rw [hkn.out] at h2
          exact ⟨h1, h2⟩
        go_upto_region 9 with fail
        have hcc := (show wr.drew.cell? ⟨(ad.add (k * 6)).block, (ad.add (k * 6)).off + 4, none⟩ = some (.int .i64 a.o) ∧ wr.drew.cell? ⟨(ad.add (k * 6)).block, (ad.add (k * 6)).off + 5, none⟩ = some (.slice a.q.A kn a.q.c) from ⟨d4, d5⟩)
        go_region_held3 (fun wx => wx.cell? ⟨(ad.add (k * 6)).block, (ad.add (k * 6)).off + 4, none⟩ = some (.int .i64 a.o) ∧ wx.cell? ⟨(ad.add (k * 6)).block, (ad.add (k * 6)).off + 5, none⟩ = some (.slice a.q.A kn a.q.c)) (first | exact hce | exact hcc) (first | (go_at_call 10; refine Hpw.out.mono ?_; rintro e w6 ⟨rfl, hf6, ht6⟩; have hce := hS.out w6 hf6.below; have HF6 := Lib.hid hf6; have HT6 := Lib.hid ht6; clear hf6 ht6))
        have HI' := Lib.hid (hst.out.inv.power hst.out.fs.ok a.o a.q.l)
        have hb6 := Lib.hid HF6.out.below
        have hbx6 := Lib.hid (HT6.out.heap (g := R0) (fun e => e.2 hst.out.y) (show wr.drew.heap[R0]? = some (.cells cs 36 (0, 0)) from hst.out.box))
        have hrf6 := Lib.hid (((hst.out.ref.below (Below.refl _ _).drew).keep (HT6.out.mono fun _ _ e => .inl e)))
        clear hce hcc d0 d1 d2 d3 d4 d5 Hpw HF5d
        go_upto_region 10 with fail
        have hltk : k < n := hlt
        have hsv := Lib.hid (hst.out.ref.sev rfl)
        have hRlt6 := Lib.hid (Array.getElem?_eq_some_iff.1 hbx6.out).1
        have hbk6 := Lib.hid (Nat.lt_of_lt_of_le Hab.out hb6.out.size)
        have hbne := Lib.hid (show (ad.add (k * 6)).block ≠ R0 from fun e => by have h1 := Hab.out; have h2 := hRge.out; rw [e] at h1; omega)
        have hrd6 := Lib.hid (show Reads w1 w1.heap.size 1 a.q.A kn (kc a.q.l) by have h := Htold.out.reads; rw [hkn.out] at h; exact h)
        go_cut [9] from 52 to 63 (fun s9 wx => ∃ (cs' : Array Value) (w0 : World), s9 = .int .i64 (k : Int) ∧ Hid (Below w6.heap.size w6 w0) ∧ Hid (RefF w0 (fun b => b < w6.heap.size ∧ (Fr w1 Y b ∨ b = R0)) (.agg cs') (s.power a.o a.q.l)) ∧ Hid (wx = w0.setRow R0 cs') ∧ Hid (Sev cs'))
        case first =>
          rename_i J K1 hJ hK
          obtain ⟨hc4, hc5⟩ := hS.out w6 hb6.out
          have offE : ∀ {i d : Nat}, ∀ e ∈ ([] : List Nv), i ≠ e.i ∧ i ≠ e.s ∧ d ≠ e.d := fun e he => by simp at he
          have srcE : ∀ {i d : Nat} {ops : List Oper}, ∀ e ∈ ([] : List Nv), d = e.src → ∀ L : Array Bool, Closed ops L → L.getD i false = false → L.getD e.s false = false := fun e he => by simp at he
          refine wp_region_full (n := 135) (F10 cs ad n c k a.o a.q.A kn a.q.c) (KX (S10 w6 (fun b => b < w6.heap.size ∧ (Fr w1 Y b ∨ b = R0)) R0 (s.power a.o a.q.l) 11 12 63) []) (by kernel_rfl) (by kernel_rfl) rfl ?_ ?_ ?_
          · intro L hL
            exact KX.start hL ⟨fun _ => (Below.refl _ _).drew, fun h => (by rw [hL] at h; cases h), fun h => (by rw [hL] at h; cases h)⟩
          rotate_left
          · intro L b' w' hall hsz hd hs hc hf
            obtain ⟨Yb, hc⟩ := hc
            obtain ⟨cs', w0, h1, h2, rfl, h3⟩ := hc.st.c (hall 12 (by decide))
            refine hK _ _ (Met.intro (hJ _ _ ?_))
            exact ⟨.int .i64 (k : Int), b'.tmps.getD 52 undef, b'.tmps.getD 53 undef, b'.tmps.getD 54 undef, b'.tmps.getD 55 undef, b'.tmps.getD 56 undef, b'.tmps.getD 57 undef, b'.tmps.getD 58 undef, b'.tmps.getD 59 undef, b'.tmps.getD 60 undef, b'.tmps.getD 61 undef, b'.tmps.getD 62 undef, b'.tmps.getD 63 undef, ⟨cs', w0, rfl, h1, h2, rfl, h3⟩, (act_known hsz hd hs).trans (by kernel_rfl)⟩
          refine OpsFu.cons _ _ (OpFu.readS (d := 52) rfl (by decide) offE srcE fun L b w' Y' hcl hni hlt hsz hdep hs hS' hg => ⟨rfl, _, exec_loadRow rfl (hs 8 (by kernel_rfl)) (((hS'.a (notyet hcl (ho := (rfl : _[12]? = _)) (he := (rfl : _[2]? = _)) rfl hni)).block _ hRlt6.out).trans hbx6.out) Tryz.underlying36 rfl (by rw [hsv.out.n]; exact size_rf), rfl, hS'.off (by decide) hsz (by decide) (by decide)⟩) ?_
          refine OpsFu.cons _ _ (OpFu.readS (d := 53) rfl (by decide) offE srcE fun L b w' Y' hcl hni hlt hsz hdep hs hS' hg => ⟨rfl, _, exec_move rfl (hs 2 (by kernel_rfl)), rfl, hS'.off (by decide) hsz (by decide) (by decide)⟩) ?_
          refine OpsFu.cons _ _ (OpFu.readS (d := 54) rfl (by decide) offE srcE fun L b w' Y' hcl hni hlt hsz hdep hs hS' hg => ⟨rfl, _, exec_move rfl (hs 9 (by kernel_rfl)), rfl, hS'.off (by decide) hsz (by decide) (by decide)⟩) ?_
          refine OpsFu.cons _ _ (OpFu.readS (d := 55) rfl (by decide) offE srcE fun L b w' Y' hcl hni hlt hsz hdep hs hS' hg => ⟨rfl, _, exec_atAct (k := k) rfl (dep hg 0 rfl rfl rfl rfl) (dep hg 1 rfl rfl rfl rfl) hltk, rfl, hS'.off (by decide) hsz (by decide) (by decide)⟩) ?_
          refine OpsFu.cons _ _ (OpFu.readS (d := 56) rfl (by decide) offE srcE fun L b w' Y' hcl hni hlt hsz hdep hs hS' hg => ⟨rfl, _, exec_actF1 rfl (dep hg 0 rfl rfl rfl rfl), rfl, hS'.off (by decide) hsz (by decide) (by decide)⟩) ?_
          refine OpsFu.cons _ _ (OpFu.readS (d := 57) rfl (by decide) offE srcE fun L b w' Y' hcl hni hlt hsz hdep hs hS' hg => ⟨rfl, _, exec_loadI10 rfl (dep hg 0 rfl rfl rfl rfl) ((hS'.cell (p := ⟨(ad.add (k * 6)).block, (ad.add (k * 6)).off + 4, none⟩) hbk6.out hbne.out).trans hc4), rfl, hS'.off (by decide) hsz (by decide) (by decide)⟩) ?_
          refine OpsFu.cons _ _ (OpFu.readS (d := 58) rfl (by decide) offE srcE fun L b w' Y' hcl hni hlt hsz hdep hs hS' hg => ⟨rfl, _, exec_move rfl (hs 2 (by kernel_rfl)), rfl, hS'.off (by decide) hsz (by decide) (by decide)⟩) ?_
          refine OpsFu.cons _ _ (OpFu.readS (d := 59) rfl (by decide) offE srcE fun L b w' Y' hcl hni hlt hsz hdep hs hS' hg => ⟨rfl, _, exec_move rfl (hs 9 (by kernel_rfl)), rfl, hS'.off (by decide) hsz (by decide) (by decide)⟩) ?_
          refine OpsFu.cons _ _ (OpFu.readS (d := 60) rfl (by decide) offE srcE fun L b w' Y' hcl hni hlt hsz hdep hs hS' hg => ⟨rfl, _, exec_atAct (k := k) rfl (dep hg 0 rfl rfl rfl rfl) (dep hg 1 rfl rfl rfl rfl) hltk, rfl, hS'.off (by decide) hsz (by decide) (by decide)⟩) ?_
          refine OpsFu.cons _ _ (OpFu.readS (d := 61) rfl (by decide) offE srcE fun L b w' Y' hcl hni hlt hsz hdep hs hS' hg => ⟨rfl, _, exec_actF2 rfl (dep hg 0 rfl rfl rfl rfl), rfl, hS'.off (by decide) hsz (by decide) (by decide)⟩) ?_
          refine OpsFu.cons _ _ (OpFu.readS (d := 62) rfl (by decide) offE srcE fun L b w' Y' hcl hni hlt hsz hdep hs hS' hg => ⟨rfl, _, exec_loadK10 rfl (dep hg 0 rfl rfl rfl rfl) ((hS'.cell (p := ⟨(ad.add (k * 6)).block, (ad.add (k * 6)).off + 5, none⟩) hbk6.out hbne.out).trans hc5), rfl, hS'.off (by decide) hsz (by decide) (by decide)⟩) ?_
          refine OpsFu.cons _ _ (OpFu.pow10 rfl (by decide) rfl (by decide) (by decide) rfl rfl (fun b w hg => ⟨dep hg 0 rfl rfl rfl rfl, dep hg 1 rfl rfl rfl rfl, dep hg 2 rfl rfl rfl rfl⟩) (fun L hcl hn => notyet hcl (ho := (rfl : _[12]? = _)) (he := (rfl : _[0]? = _)) rfl hn) (fun _ h => h.1) (hrf6.out.mono fun _ _ e => e.2) hst.out.fs.ok (by omega) Hok.out.o.1 Hok.out.o.2 hkn.out (by have := ha.out.2.2.2; rw [hkn.out] at this; omega) hb6.out.size (Reads.below hrd6.out hb6.out) (fun i u w w' _ h => F10.keep i u w w' h) (fun _ _ => trivial)) ?_
          exact OpsFu.cons _ _ (OpFu.st10 (cs := cs) rfl (by decide) rfl rfl (by decide) rfl (fun b hs => hs 8 (by kernel_rfl)) (fun i u w g xs h => F10.keep i u w _ h) (fun L hd => hd _ (List.mem_of_getElem? (i := 0) rfl) rfl) hbx6.out hsv.out) (OpsFu.nil _ _)
        obtain ⟨cs', w0, rfl, hB0, hRf0, hw0, hsv'⟩ := hcut
        obtain ⟨Y', hY'⟩ : ∃ Y' : Nat → Prop, Hid ((fun b => Y b ∨ (w6.heap.size ≤ b ∧ b < w0.heap.size)) = Y') := ⟨_, rfl⟩
        have hYR : Hid (Y' R0) := by rw [← hY'.out]; exact .inl hst.out.y
        have hTc := Lib.hid (Touch.row1 w0 R0 cs')
        have hbc := Lib.hid (setRow_heap w0 R0 _ cs' _ _ ((hB0.out.block _ hRlt6.out).trans hbx6.out))
        rw [← hw0.out] at hTc hbc
        have HFc : Hid (FS w1 Y' F (s.power a.o a.q.l) (2 * k) wc) := by
          refine FS.write ?_ (hTc.out.mono fun b _ e => by rw [e]; exact hYR.out)
          rw [← hY'.out]
          exact HF6.out.more hB0.out fun k hk => hk
        have HRc : Hid (RefF wc (fun b => Fr w1 Y' b ∨ b = R0) (.agg cs') (s.power a.o a.q.l)) := by
          refine (hRf0.out.mono fun b hb e => ?_).keep (hTc.out.mono fun b _ e => .inr e)
          rw [← hY'.out] at e
          rcases e with e | e
          · have h1 : b < w6.heap.size := by
              rcases Nat.lt_or_ge b w6.heap.size with h | h
              · exact h
              · exact absurd (.inr ⟨h, hb⟩) e.2
            exact ⟨h1, .inl ⟨e.1, fun h => e.2 (.inl h)⟩⟩
          · exact ⟨by rw [e]; exact hRlt6.out, .inr e⟩
        have Hiz := Lib.hid (is_any HFc.out (by omega) HRc.out (HI'.out.well HFc.out.ok))
        go_wp2_with (first
          | (refine wpList_load_row rfl 36 (.tmp 8) rfl R0 rfl _ _ _ _ hbc.out Tryz.underlying36 rfl (by rw [hsv'.out.n]; exact size_rf) ?_)
          | (go_at_call 16; refine Hiz.out.mono ?_; rintro e w31 ⟨rfl, hb31⟩; have Hb31 := Lib.hid hb31; clear hb31))
        go_roundw
        case rel => exact ⟨k + 1, _, Y', cs', by omega, by go_num, PlSt.next HFc.out (by omega) hbc.out HRc.out HI'.out hYR.out Hb31.out⟩
        case measure => simp [Go.Lib.intOf]; omega
      · have h9b : ((a.k : Int) == 9) = false := beq_eq_false_iff_ne.2 (by omega)
        obtain ⟨nb, hnb⟩ : ∃ x, Hid (a.r.l.length = x) := ⟨_, rfl⟩
        rw [hnb.out] at d3
        have hnb60 := Lib.hid (show nb ≤ 60 by have := ha.out.2.2.1; rw [hnb.out] at this; omega)
        obtain ⟨v9, rfl⟩ : ∃ w', w' = wr := ⟨_, rfl⟩
        go_upto_region 12 with fail
        obtain ⟨B, hB⟩ : ∃ B, Hid (v9.heap.size = B) := ⟨_, rfl⟩
        obtain ⟨W11, hW11⟩ : ∃ W, Hid (v9.alloc (.cells #[.int .u8 (a.k : Int), .string (txt a.n), .string (txt a.t), .slice a.r.A nb a.r.c] 40) = W) := ⟨_, rfl⟩
        have hg11 : Hid (W11.heap[B]? = some (.cells #[.int .u8 (a.k : Int), .string (txt a.n), .string (txt a.t), .slice a.r.A nb a.r.c] 40 (0, 0))) := by rw [← hW11.out, ← hB.out]; exact heap_alloc_new _ _
        have hb11 : Hid (Below v9.heap.size v9 W11) := by rw [← hW11.out]; exact below_new _ _
        have hs11 := Lib.hid (show W11.heap.size = B + 1 by rw [← hW11.out, ← hB.out]; simp)
        rw [hW11.out, hB.out]
        clear d0 d1 d2 d3 d4 d5
        have hw11 := Lib.hid (hw.out.trans (hb11.out.mono hw.out.size))
        have Hcall := Lib.hid (call_any (w := W11) (k := (a.k : Int)) (n := a.n) (t := a.t) (Ab := a.r.A) (cb := a.r.c) (nl := nb) (l := a.r.l) hnb.out (by have := hnb60.out; omega) (Bb := w1.heap.size) hw11.out.size (Reads.below Hrow.out.reads hw11.out))
        obtain ⟨c0, c1, c2, c3⟩ := quad_cell hg11.out
        have hrc := fun (w : World) (x y z u : Value) => run_call3 w x y z u
        go_upto_region 13 with (go_at_call 12; refine Hcall.out.mono ?_; rintro e w12 ⟨A2, cc, rfl, ho2, hb12⟩; have Ho2 := Lib.hid ho2; have Hb12 := Lib.hid hb12; clear ho2 hb12; have hg12 := Lib.hid ((Hb12.out.block _ (Array.getElem?_eq_some_iff.1 hg11.out).1).trans hg11.out); obtain ⟨e0, e1, e2, e3⟩ := quad_cell hg12.out; have ef := fun i => d_frozen (i := i) hg12.out; unfold fcv)
        obtain ⟨W13, hW13⟩ : ∃ W, Hid (w12.setCell ⟨B, 3, none⟩ (.slice A2 nb cc) = W) := ⟨_, rfl⟩
        have hT13 : Hid (Touch (fun b => b = B) w12 W13) := by rw [← hW13.out]; exact Touch.cell1 _ _ _ _
        have hg13 : Hid (W13.heap[B]? = some (.cells #[.int .u8 (a.k : Int), .string (txt a.n), .string (txt a.t), .slice A2 nb cc] 40 (0, 0))) := by rw [← hW13.out]; exact heap_setCell_same w12 B 3 _ _ _ hg12.out
        have hs13 := Lib.hid (show W13.heap.size = w12.heap.size by rw [← hW13.out]; simp)
        have hb1112 := Lib.hid (hb11.out.trans (Hb12.out.mono hb11.out.size))
        have hb13 : Hid (Below v9.heap.size v9 W13) := by rw [← hW13.out]; exact hb1112.out.setCell (by rw [hB.out]; exact Nat.le_refl _) _
        rw [hW13.out]
        clear c0 c1 c2 c3 e0 e1 e2 e3 ef
        have Ho13 := Lib.hid (own_touch Ho2.out hT13.out fun b hb e => by have h1 := (Ho2.out.lt b hb).1; have h2 := hs11.out; rw [e] at h1; omega)
        have hrd13 : Hid (RdB W13 W13.heap.size A2 a.r.l) := by
          obtain ⟨A', cap', hv, _, _, h3⟩ := own_form Ho13.out
          injection hv with q1 q2 q3
          subst q1
          unfold RdB
          rw [hnb.out]
          exact h3
        obtain ⟨Y13, hY13⟩ : ∃ Y' : Nat → Prop, Hid ((fun b => Y b ∨ (v9.heap.size ≤ b ∧ b < W13.heap.size)) = Y') := ⟨_, rfl⟩
        have HF13 : Hid (FS w1 Y13 F s (2 * k) W13) := by rw [← hY13.out]; exact hst.out.fs.more hb13.out fun b hb => hb
        have Hdo := Lib.hid (fdoP_any HF13.out (by omega) Hok.out.k (n := a.n) (t := a.t) (by have := ha.out.1; omega) (by have := ha.out.2.1; omega) (Ab := A2) (cb := cc) (l := a.r.l) hnb.out hnb60.out (Nat.le_refl _) hrd13.out hwl.out.pos)
        obtain ⟨c0, c1, c2, c3⟩ := quad_cell hg13.out
        go_upto_region 14 with (first
          | (go_at_call 13; refine Hdo.out.mono ?_; rintro e w14 ⟨g, v, Y14, rfl, ⟨A6, n6, c6, B6, m6, k6, rfl, ho6, hn6, hp6, hm6⟩, hf14, ht14, hy1, hy2, hy3⟩; have HF14 := Lib.hid hf14; have HT14 := Lib.hid ht14; have Ho6 := Lib.hid ho6; have Hn6 := Lib.hid hn6; have Hp6 := Lib.hid hp6; have Hm6 := Lib.hid hm6; have HY1 := Lib.hid hy1; have HY2 := Lib.hid hy2; have HY3 := Lib.hid hy3; clear hf14 ht14 ho6 hn6 hp6 hm6 hy1 hy2 hy3)
          | (refine wpList_store_row rfl 51 (.tmp 11) (.tmp 75) rfl w14.heap.size _ rfl rfl _ _ (heap_alloc_new w14 _) size_fr10 rfl (by simp [Value.oneCell']) ?_))
        go_frame
        clear c0 c1 c2 c3
        obtain ⟨er, her⟩ : ∃ er, Hid ((s.doC g a.k a.n a.t a.r.l).2.1 = er) := ⟨_, rfl⟩
        rw [her.out]
        obtain ⟨H, hH⟩ : ∃ R, Hid (w14.heap.size = R) := ⟨_, rfl⟩
        obtain ⟨W15, hW15⟩ : ∃ W, Hid ((w14.alloc (.cells #[.int .i64 0, .slice none 0 0, .slice none 0 0] 51)).setRow w14.heap.size #[.int .i64 er, .slice A6 n6 c6, .slice B6 m6 k6] = W) := ⟨_, rfl⟩
        have hg15 : Hid (W15.heap[H]? = some (.cells #[.int .i64 er, .slice A6 n6 c6, .slice B6 m6 k6] 51 (0, 0))) := by rw [← hW15.out, ← hH.out]; exact setRow_heap _ _ _ _ _ _ (heap_alloc_new w14 _)
        have hb15 : Hid (Below w14.heap.size w14 W15) := by rw [← hW15.out]; exact below_setRow (below_new _ _) (Nat.le_refl _) _
        rw [hW15.out, hH.out]
        have hsz := Lib.hid (show v9.heap.size = B ∧ W11.heap.size = B + 1 ∧ W11.heap.size ≤ W13.heap.size ∧ W13.heap.size ≤ w14.heap.size ∧ w14.heap.size = H ∧ w14.heap.size ≤ W15.heap.size from ⟨hB.out, hs11.out, by rw [hs13.out]; exact Hb12.out.size, HT14.out.size, hH.out, hb15.out.size⟩)
        have hYn := Lib.hid (show ∀ b, v9.heap.size ≤ b → b < W13.heap.size → Y13 b from fun b h1 h2 => by rw [← hY13.out]; exact .inr ⟨h1, h2⟩)
        have hYo := Lib.hid (show ∀ b, Y b → Y13 b from fun b h => by rw [← hY13.out]; exact .inl h)
        have hgB15 := Lib.hid (((hb15.out.block _ (Array.getElem?_eq_some_iff.1 (HT14.out.heap (g := B) (fun e => e.2 (hYn.out B (by have := hsz.out; omega) (by have := hsz.out; omega))) hg13.out)).1).trans (HT14.out.heap (g := B) (fun e => e.2 (hYn.out B (by have := hsz.out; omega) (by have := hsz.out; omega))) hg13.out)))
        have Ho15 := Lib.hid (own_below (own_touch Ho13.out HT14.out fun b hb e => e.2 (hYn.out b (by have := (Ho13.out.lt b hb).1; have := hsz.out; omega) (Ho13.out.lt b hb).2)) hb15.out (Nat.le_refl _))
        have hAlt := Lib.hid (show ∀ gb, A2 = some ⟨gb, 0, none⟩ → gb < W13.heap.size from fun gb h => (Ho13.out.lt gb (by rw [h]; rfl)).2)
        have hAlt6 := Lib.hid (show ∀ gb, A6 = some ⟨gb, 0, none⟩ → gb < w14.heap.size from fun gb h => (Ho6.out.lt gb (by rw [h]; rfl)).2)
        have hBlt6 := Lib.hid (show ∀ gb, B6 = some ⟨gb, 0, none⟩ → gb < w14.heap.size from fun gb h => (Hp6.out.lt gb (by rw [h]; rfl)).2)
        have hnbI : (nb : Int) ≤ 60 := by have := hnb60.out; omega
        clear hg12 hg13 Ho13 Ho2 hT13 hW13 hW15 hW11 hg11 Hcall Hdo
        go_upto_region 15 with fail
        go_loopw [12] (fun iv wr => ∃ j : Nat, j ≤ nb ∧ iv = .int .i64 (j : Int) ∧ Hid (Touch (fun b => W11.heap.size ≤ b ∧ b < W13.heap.size) W15 wr) ∧ Hid (∃ xs, wr.ownsRow W11.heap.size 5 1 (.slice A2 nb cc) nb xs)) (fun i _ => nb - (Go.Lib.intOf i).toNat)
        case atStart => exact ⟨0, by omega, rfl, Touch.refl _ _, ⟨_, Ho15.out⟩⟩
        case round =>
          obtain ⟨j, hj, rfl, hT, hO⟩ := hrel
          have hgBx := Lib.hid (hT.out.heap (g := B) (by have := hsz.out; omega) hgB15.out)
          obtain ⟨c0, c1, c2, c3⟩ := quad_cell hgBx.out
          by_cases hltj : j < nb
          · obtain ⟨xs, hO⟩ := hO.out
            have hxl : xs.length = nb * 1 := hO.1
            obtain ⟨gB, cap, hv, hgb, _, hfz, hcell, hset⟩ := own_spoil hO (i := j) (by omega)
            injection hv with q1 q2 q3
            subst q1
            subst q3
            obtain ⟨u1, hu1⟩ : ∃ u, wr.cell? ⟨gB, j, none⟩ = some u := ⟨xs[j], by rw [hcell, List.getElem?_eq_getElem]⟩
            have hT' := Lib.hid (hT.out.setCell (p := ⟨gB, j, none⟩) (.inr ⟨hgb, hAlt.out gB rfl⟩) (.int .u8 99))
            have hO' := Lib.hid (show ∃ xs, (wr.setCell ⟨gB, j, none⟩ (.int .u8 99)).ownsRow W11.heap.size 5 1 (.slice (some ⟨gB, 0, none⟩) nb cc) nb xs from ⟨_, hset (.int .u8 99)⟩)
            clear hset hcell hO hT
            go_wp2
            go_roundw
            case rel => exact ⟨j + 1, by omega, by go_num, hT'.out, hO'.out⟩
            case measure => simp [Go.Lib.intOf]; omega
          · obtain rfl : j = nb := by omega
            clear hO
            go_upto_region 18 with fail
            clear c0 c1 c2 c3
            obtain ⟨w17, rfl⟩ : ∃ w', w' = wr := ⟨_, rfl⟩
            have hok := Lib.hid hst.out.fs.ok
            have hT1 := Lib.hid (show Touch (fun b => (Fr w1 Y b ∨ b = R0) ∨ v9.heap.size ≤ b) v9 w17 from
              (((Touch.of hb13.out).trans (HT14.out.mono fun b _ e => .inl (.inl (Fr.weak hYo.out e)))).trans (Touch.of hb15.out)).trans (hT.out.mono fun b _ e => .inr (by have := hsz.out; omega)))
            have hrf17 := Lib.hid ((((((hst.out.ref.high hb13.out).keep (HT14.out.mono fun b _ e => .inl (.inl (Fr.weak hYo.out e)))).below hb15.out).keep (hT.out.mono fun b _ e => .inr (by have := hsz.out; omega))) : RefF w17 (fun b => (Fr w1 Y b ∨ b = R0) ∨ v9.heap.size ≤ b) (.agg cs) s))
            have hRn := Lib.hid (show ¬ Fr w1 Y13 R0 from fun e => e.2 (hYo.out _ hst.out.y))
            have hbx17 := Lib.hid (hT.out.heap (g := R0) (by have := hsz.out; have := hRlt.out; omega) (((Touch.of (X := fun _ => False) hb15.out).heap (fun e => e) (HT14.out.heap hRn.out ((Touch.of (X := fun _ => False) hb13.out).heap (fun e => e) hst.out.box)))))
            have hRl17 := Lib.hid (Array.getElem?_eq_some_iff.1 hbx17.out).1
            have hsv := Lib.hid (hst.out.ref.sev rfl)
            obtain ⟨Y15, hY15⟩ : ∃ Y' : Nat → Prop, Hid ((fun b => Y14 b ∨ (w14.heap.size ≤ b ∧ b < W15.heap.size)) = Y') := ⟨_, rfl⟩
            have HF17 : Hid (FS w1 Y15 F (s.doC g a.k a.n a.t a.r.l).1 (2 * k + 2) w17) := by
              refine FS.write ?_ (hT.out.mono (Y := Y15) fun b _ e => ?_)
              · rw [← hY15.out]
                exact HF14.out.more hb15.out fun b hb => hb
              · rw [← hY15.out]
                exact .inl (HY1.out b (hYn.out b (by have := hsz.out; omega) e.2))
            have hw17 := Lib.hid HF17.out.below
            have hltk : k < n := hlt
            obtain ⟨o, ho⟩ : ∃ o, Hid (s.doC 0 a.k a.n a.t a.r.l = o) := ⟨_, rfl⟩
            go_cut [13, 14] from 87 to 97 (fun s13 s14 wx => ∃ (g5 g6 : Nat) (cs' ds : Array Value), s13 = .pointer (some ⟨g5, 0, none⟩) ∧ s14 = .pointer (some ⟨g6, 0, none⟩) ∧ Hid (wx.heap[g5]? = some (.cells cs' 36 (0, 0))) ∧ Hid (wx.heap[g6]? = some (.cells ds 53 (0, 0))) ∧ Hid (Below w17.heap.size w17 wx) ∧ Hid (RefF wx (fun b => (b < w17.heap.size ∧ ((Fr w1 Y b ∨ b = R0) ∨ v9.heap.size ≤ b)) ∨ b = g5 ∨ b = g6) (.agg cs') o.1) ∧ Hid (ReR wx (fun b => (b < w17.heap.size ∧ ((Fr w1 Y b ∨ b = R0) ∨ v9.heap.size ≤ b)) ∨ b = g5 ∨ b = g6) (.agg ds) o.2.1 o.2.2.1 o.2.2.2) ∧ Hid ((w17.heap.size ≤ g5 ∧ g5 < wx.heap.size) ∧ (w17.heap.size ≤ g6 ∧ g6 < wx.heap.size) ∧ g5 ≠ g6))
            case first =>
              rename_i J K1 hJ hK
              have ho' := ho.out
              subst ho'
              refine wp_region_full (n := 135) (F18 cs ad n c k (fcv (a.k : Int) a.n a.t a.r.A a.r.l.length a.r.c)) (KX (S7 zP w17 (fun b => b < w17.heap.size ∧ ((Fr w1 Y b ∨ b = R0) ∨ v9.heap.size ≤ b)) (a.k : Int) a.n a.t a.r.l (s.doC 0 a.k a.n a.t a.r.l)) dP) (by kernel_rfl) (by kernel_rfl) rfl ?_ ?_ ?_
              · intro L hL
                exact KX.start hL ⟨(Below.refl _ _).drew, fun _ h => h.elim, fun h => (by rw [hL] at h; cases h), fun h => (by rw [hL] at h; cases h)⟩
              rotate_left
              · intro L b' w' hall hsz hd hs hc hf
                obtain ⟨Yb, hc⟩ := hc
                obtain ⟨g5, y5, l5, e5, h5, _⟩ := hc.has ⟨11, 13, 13, 96, 36, zrf⟩ (by simp [dP]) (hall 11 (by decide))
                obtain ⟨g6, y6, l6, e6, h6, _⟩ := hc.has ⟨12, 14, 14, 97, 53, zres⟩ (by simp [dP]) (hall 12 (by decide))
                obtain ⟨cs', e39, h5⟩ := h5 (hall 13 (by decide))
                obtain ⟨ds, e40, h6⟩ := h6 (hall 14 (by decide))
                obtain ⟨u, r, _, hu, hr, _, e8, e9⟩ := hc.st.done (hall 7 (by decide))
                have eu : u = .agg cs' := (e8 (hall 9 (by decide))).symm.trans e39
                have er : r = .agg ds := (e9 (hall 10 (by decide))).symm.trans e40
                subst eu
                subst er
                have hne : g5 ≠ g6 := fun e => hc.ne ⟨11, 13, 13, 96, 36, zrf⟩ (by simp [dP]) ⟨12, 14, 14, 97, 53, zres⟩ (by simp [dP]) (by decide) (hall 11 (by decide)) (hall 12 (by decide)) (by rw [e5, e6, e])
                have hmx : ∀ b, b < w'.heap.size → ((b < w17.heap.size ∧ ((Fr w1 Y b ∨ b = R0) ∨ v9.heap.size ≤ b)) ∨ b = g5 ∨ b = g6) → ((b < w17.heap.size ∧ ((Fr w1 Y b ∨ b = R0) ∨ v9.heap.size ≤ b)) ∨ Yb b) := fun b _ e => e.imp id fun e => by
                  rcases e with e | e
                  · rw [e]; exact y5
                  · rw [e]; exact y6
                refine hK _ _ (Met.intro (hJ _ _ ?_))
                exact ⟨b'.tmps.getD 13 undef, b'.tmps.getD 14 undef, b'.tmps.getD 87 undef, b'.tmps.getD 88 undef, b'.tmps.getD 89 undef, b'.tmps.getD 90 undef, b'.tmps.getD 91 undef, b'.tmps.getD 92 undef, b'.tmps.getD 93 undef, b'.tmps.getD 94 undef, b'.tmps.getD 95 undef, b'.tmps.getD 96 undef, b'.tmps.getD 97 undef, ⟨g5, g6, cs', ds, e5, e6, h5, h6, hc.st.below, hu.mono hmx, hr.mono hmx, ⟨⟨(hc.st.box g5 y5).1, l5⟩, ⟨(hc.st.box g6 y6).1, l6⟩, hne⟩⟩, (act_known hsz hd hs).trans (by kernel_rfl)⟩
              have hF : ∀ i u w w', Below w.heap.size w w' → F18 cs ad n c k (fcv (a.k : Int) a.n a.t a.r.A a.r.l.length a.r.c) i u w → F18 cs ad n c k (fcv (a.k : Int) a.n a.t a.r.A a.r.l.length a.r.c) i u w' := fun i u w w' _ h => F18.keep i u w w' h
              refine OpsFu.cons _ _ (OpFu.readS (d := 88) rfl (by decide) (offP (by decide) (by decide)) (srcP (by decide)) fun L b w' Y' hcl hni hlt hsz hdep hs hS' hg => ⟨rfl, _, exec_loadRow rfl (hs 8 (by kernel_rfl)) ((hS'.below.block _ hRl17.out).trans hbx17.out) Tryz.underlying36 rfl (by rw [hsv.out.n]; exact size_rf), rfl, hS'.off (by decide) hsz (by decide) (by decide)⟩) ?_
              refine OpsFu.cons _ _ (OpFu.readS (d := 89) rfl (by decide) (offP (by decide) (by decide)) (srcP (by decide)) fun L b w' Y' hcl hni hlt hsz hdep hs hS' hg => ⟨rfl, _, exec_move rfl (hs 2 (by kernel_rfl)), rfl, hS'.off (by decide) hsz (by decide) (by decide)⟩) ?_
              refine OpsFu.cons _ _ (OpFu.readS (d := 90) rfl (by decide) (offP (by decide) (by decide)) (srcP (by decide)) fun L b w' Y' hcl hni hlt hsz hdep hs hS' hg => ⟨rfl, _, exec_move rfl (hs 9 (by kernel_rfl)), rfl, hS'.off (by decide) hsz (by decide) (by decide)⟩) ?_
              refine OpsFu.cons _ _ (OpFu.readS (d := 91) rfl (by decide) (offP (by decide) (by decide)) (srcP (by decide)) fun L b w' Y' hcl hni hlt hsz hdep hs hS' hg => ⟨rfl, _, exec_atAct (k := k) rfl (dep hg 0 rfl rfl rfl rfl) (dep hg 1 rfl rfl rfl rfl) hltk, rfl, hS'.off (by decide) hsz (by decide) (by decide)⟩) ?_
              refine OpsFu.cons _ _ (OpFu.readS (d := 92) rfl (by decide) (offP (by decide) (by decide)) (srcP (by decide)) fun L b w' Y' hcl hni hlt hsz hdep hs hS' hg => ⟨rfl, _, exec_actF0 rfl (dep hg 0 rfl rfl rfl rfl), rfl, hS'.off (by decide) hsz (by decide) (by decide)⟩) ?_
              refine OpsFu.cons _ _ (OpFu.readS (d := 93) rfl (by decide) (offP (by decide) (by decide)) (srcP (by decide)) fun L b w' Y' hcl hni hlt hsz hdep hs hS' hg => ⟨rfl, _, exec_loadCall rfl (dep hg 0 rfl rfl rfl rfl) (HD.out w' (hw17.out.trans (hS'.below.mono hw17.out.size))).c0 (HD.out w' (hw17.out.trans (hS'.below.mono hw17.out.size))).c1 (HD.out w' (hw17.out.trans (hS'.below.mono hw17.out.size))).c2 (HD.out w' (hw17.out.trans (hS'.below.mono hw17.out.size))).c3, rfl, hS'.off (by decide) hsz (by decide) (by decide)⟩) ?_
              refine OpsFu.cons _ _ (OpFu.copy7 (x := .tmp 93) (Ab := a.r.A) (cb := a.r.c) (Bb := w1.heap.size) rfl rfl (by decide) (offP (by decide) (by decide)) (srcP (by decide)) (by decide) (by decide) rfl rfl (fun b w hg => dep hg 0 rfl rfl rfl rfl) (by have := hnb60.out; rw [hnb.out]; omega) hw17.out.size (Reads.below Hrow.out.reads hw17.out) hF (fun _ _ => trivial)) ?_
              refine OpsFu.cons _ _ (OpFu.done7 (x := .tmp 88) (v0 := .agg cs) rfl rfl (by decide) (by decide) (offP (by decide) (by decide)) (srcP (by decide)) (by decide) (by decide) rfl rfl (fun b w hg => dep hg 0 rfl rfl rfl rfl) (fun L hd => hd _ (List.mem_of_getElem? (i := 1) rfl) rfl) (fun L hcl hn => (have h7 := notyet hcl (ho := (rfl : _[8]? = _)) (he := (rfl : _[0]? = _)) rfl hn; ⟨h7, notyet hcl (ho := (rfl : _[9]? = _)) (he := (rfl : _[0]? = _)) rfl h7, notyet hcl (ho := (rfl : _[10]? = _)) (he := (rfl : _[0]? = _)) rfl h7⟩)) (fun _ h => h.1) (hrf17.out.mono fun _ _ e => e.2) hok.out (by omega) hwl.out Hok.out.k (by have := ha.out.1; omega) (by have := ha.out.2.1; omega) (by have := hnb60.out; rw [hnb.out]; omega) hF (fun _ _ => trivial)) ?_
              refine OpsFu.cons _ _ (OpFu.move7 rfl rfl (by decide) (offP (by decide) (by decide)) (srcP (by decide)) (by decide) (by decide) rfl rfl (fun L hcl hd => hd _ (List.mem_of_getElem? (i := 0) rfl) rfl) (fun _ _ => trivial)) ?_
              refine OpsFu.cons _ _ (OpFu.fst7 rfl rfl (by decide) (offP (by decide) (by decide)) (fun e he h L hcl hn => (by simp only [dP, List.mem_cons, List.not_mem_nil, or_false] at he; rcases he with rfl | rfl; exact notyet hcl (ho := (rfl : _[13]? = _)) (he := (rfl : _[1]? = _)) rfl hn; exact absurd h (by decide))) (by decide) (by decide) rfl rfl (fun L hcl hd => (have h7 := hd _ (List.mem_of_getElem? (i := 0) rfl) rfl; ⟨hcl 8 _ h7 rfl _ (List.mem_of_getElem? (i := 0) rfl) rfl, h7⟩)) (fun _ _ => trivial)) ?_
              refine OpsFu.cons _ _ (OpFu.snd7 rfl rfl (by decide) (offP (by decide) (by decide)) (fun e he h L hcl hn => (by simp only [dP, List.mem_cons, List.not_mem_nil, or_false] at he; rcases he with rfl | rfl; exact absurd h (by decide); exact notyet hcl (ho := (rfl : _[14]? = _)) (he := (rfl : _[1]? = _)) rfl hn)) (by decide) (by decide) rfl rfl (fun L hcl hd => (have h7 := hd _ (List.mem_of_getElem? (i := 0) rfl) rfl; ⟨hcl 8 _ h7 rfl _ (List.mem_of_getElem? (i := 0) rfl) rfl, h7⟩)) (fun _ _ => trivial)) ?_
              refine OpsFu.cons _ _ (OpFu.makeS keyP (v := ⟨11, 13, 13, 96, 36, zrf⟩) (by simp [dP]) rfl rfl (by decide) rfl (fun L hcl hn => notyet hcl (ho := (rfl : _[13]? = _)) (he := (rfl : _[0]? = _)) rfl hn) (fun _ _ => trivial) hF (fun L Y b w hsz h => (h.new _).off (by decide) hsz (by decide) (by decide)) fun b w => exec_allocRf rfl) ?_
              refine OpsFu.cons _ _ (OpFu.makeS keyP (v := ⟨12, 14, 14, 97, 53, zres⟩) (by simp [dP]) rfl rfl (by decide) rfl (fun L hcl hn => notyet hcl (ho := (rfl : _[14]? = _)) (he := (rfl : _[0]? = _)) rfl hn) (fun _ _ => trivial) hF (fun L Y b w hsz h => (h.new _).off (by decide) hsz (by decide) (by decide)) fun b w => exec_allocRr rfl) ?_
              refine OpsFu.cons _ _ (OpFu.fillS keyP (v := ⟨11, 13, 13, 96, 36, zrf⟩) (by simp [dP]) rfl rfl rfl rfl size_rf (fun i u w g xs h => F18.keep i u w _ h) (fun L hd => hd _ (List.mem_of_getElem? (i := 0) rfl) rfl) (fun L Y tm w g xs hg h => (h.fill hg xs).congr (offL (by decide)) fun _ _ => rfl) (fun L b w Y hd h _ => ?v12)) ?_
              case v12 =>
                obtain ⟨u, r, _, hu, _, _, e8, _⟩ := h.done (hd _ (List.mem_of_getElem? (i := 2) rfl) rfl)
                obtain ⟨cs', rfl, hsv'⟩ := hu.agg
                exact ⟨cs', e8 (hd _ (List.mem_of_getElem? (i := 1) rfl) rfl), hsv'.n, hsv'.one⟩
              refine OpsFu.cons _ _ (OpFu.fillS keyP (v := ⟨12, 14, 14, 97, 53, zres⟩) (by simp [dP]) rfl rfl rfl rfl size_rr (fun i u w g xs h => F18.keep i u w _ h) (fun L hd => hd _ (List.mem_of_getElem? (i := 0) rfl) rfl) (fun L Y tm w g xs hg h => (h.fill hg xs).congr (offL (by decide)) fun _ _ => rfl) (fun L b w Y hd h _ => ?v13)) (OpsFu.nil _ _)
              case v13 =>
                obtain ⟨u, r, _, _, hr, _, _, e9⟩ := h.done (hd _ (List.mem_of_getElem? (i := 10) rfl) rfl)
                obtain ⟨ds, rfl, h3, h4⟩ := hr.agg
                exact ⟨ds, e9 (hd _ (List.mem_of_getElem? (i := 1) rfl) rfl), h3, h4⟩
            obtain ⟨g5, g6, cs', ds, rfl, rfl, hg5, hg6, hbx, hux, hrx, hne⟩ := hcut
            obtain ⟨A7, n7, c7, B7, m7, k7, eds, hn7, hrd7, hm7, hbd7⟩ := hrx.out
            injection eds with eds
            subst eds
            have hrx := Lib.hid (show ReR wc _ (.agg #[.int .i64 o.2.1, .slice A7 n7 c7, .slice B7 m7 k7]) o.2.1 o.2.2.1 o.2.2.2 from ⟨A7, n7, c7, B7, m7, k7, rfl, hn7, hrd7, hm7, hbd7⟩)
            clear hn7 hrd7 hm7 hbd7
            have hsv' := Lib.hid (hux.out.sev rfl)
            obtain ⟨Y18, hY18⟩ : ∃ Y' : Nat → Prop, Hid ((fun b => Y15 b ∨ (w17.heap.size ≤ b ∧ b < wc.heap.size)) = Y') := ⟨_, rfl⟩
            have hY58 := Lib.hid (show ∀ b, Y14 b → Y18 b from fun b h => by rw [← hY18.out, ← hY15.out]; exact .inl (.inl h))
            have hYR := Lib.hid (hY58.out _ (HY1.out _ (hYo.out _ hst.out.y)))
            have hlt17 := Lib.hid (show R0 < v9.heap.size ∧ v9.heap.size ≤ w17.heap.size ∧ w14.heap.size ≤ w17.heap.size ∧ w17.heap.size ≤ wc.heap.size from ⟨hRlt.out, hT1.out.size, Nat.le_trans hb15.out.size hT.out.size, hbx.out.size⟩)
            have hmono := Lib.hid (show ∀ b, b < wc.heap.size → ((Fr w1 Y18 b ∨ b = R0) ∨ (v9.heap.size ≤ b ∧ b < w17.heap.size)) → (b < w17.heap.size ∧ ((Fr w1 Y b ∨ b = R0) ∨ v9.heap.size ≤ b)) ∨ b = g5 ∨ b = g6 from fun b hb e => by
              left
              rcases e with (e | e) | e
              · have h1 : b < w17.heap.size := by
                  rcases Nat.lt_or_ge b w17.heap.size with h | h
                  · exact h
                  · exact absurd (show Y18 b by rw [← hY18.out]; exact .inr ⟨h, hb⟩) e.2
                exact ⟨h1, .inl (.inl ⟨e.1, fun h => e.2 (hY58.out _ (HY1.out _ (hYo.out _ h)))⟩)⟩
              · exact ⟨by have := hlt17.out; omega, .inl (.inr e)⟩
              · exact ⟨e.2, .inr e.1⟩)
            have hbc := Lib.hid ((hbx.out.block _ hRl17.out).trans hbx17.out)
            obtain ⟨W19, hW19⟩ : ∃ W', Hid (wc.setRow R0 cs' = W') := ⟨_, rfl⟩
            have hT19 := Lib.hid (Touch.row1 wc R0 cs')
            have hbox19 := Lib.hid (setRow_heap wc R0 _ cs' _ _ hbc.out)
            have hg619 := Lib.hid ((setRow_other wc R0 g6 cs' (by have := hne.out; have := hlt17.out; omega)).trans hg6.out)
            rw [hW19.out] at hT19 hbox19 hg619
            have hH19 := Lib.hid (hT19.out.heap (g := H) (by have := hsz.out; have := hlt17.out; omega) ((Touch.of (X := fun _ => False) hbx.out).heap (fun e => e) (hT.out.heap (g := H) (by have := hsz.out; omega) hg15.out)))
            have HF19 : Hid (FS w1 Y18 F (s.doC g a.k a.n a.t a.r.l).1 (2 * k + 2) W19) := by
              refine FS.write ?_ (hT19.out.mono (Y := Y18) fun b _ e => by rw [e]; exact hYR.out)
              rw [← hY18.out]
              exact HF17.out.more hbx.out fun b hb => hb
            have HR19 := Lib.hid ((hux.out.mono hmono.out).keep (hT19.out.mono fun b _ e => .inl (.inr e)))
            have HE19 := Lib.hid ((hrx.out.mono hmono.out).keep (hT19.out.mono fun b _ e => .inl (.inr e)))
            have hT1419 := Lib.hid (show Touch (fun b => b < W13.heap.size) w14 W19 from (((Touch.of hb15.out).trans (hT.out.mono fun b _ e => e.2)).trans (Touch.of hbx.out)).trans (hT19.out.mono fun b _ e => by have := hsz.out; have := hlt17.out; omega))
            have ho0 := Lib.hid ((Fo.doC_g hok.out 0 g a.k a.n a.t a.r.l))
            have e2 := Lib.hid (show (s.doC g a.k a.n a.t a.r.l).2 = o.2 by rw [← ho.out]; exact ho0.out.1)
            have her2 := Lib.hid (show o.2.1 = er by rw [← e2.out]; exact her.out)
            have hsml := Lib.hid (show o.2.2.1.length ≤ 1000 ∧ o.2.2.2.length ≤ 60000 by rw [← ho.out]; exact doC_small hok.out (by omega) 0 a.k a.n a.t a.r.l)
            have hone := Lib.hid (show o.2.2.1 = [] ∨ o.2.2.2 = [] by rw [← ho.out]; exact Fo.doC_one)
            have Ho6 := Lib.hid (own_touch Ho6.out hT1419.out fun b hb e => by have := (Ho6.out.lt b hb).1; omega)
            have Hp6 := Lib.hid (own_touch Hp6.out hT1419.out fun b hb e => by have := (Hp6.out.lt b hb).1; omega)
            rw [e2.out] at Ho6 Hp6 Hn6 Hm6 HY3
            have HP19 : Hid (ReR W19 (fun b => b < W13.heap.size) (.agg #[.int .i64 er, .slice A6 n6 c6, .slice B6 m6 k6]) er o.2.2.1 o.2.2.2) := ReV.rd ⟨A6, n6, c6, B6, m6, k6, rfl, Ho6.out, Hn6.out, Hp6.out, Hm6.out⟩
            rw [her2.out] at HE19 hg619
            have Hsame := Lib.hid (same_eq HP19.out HE19.out hsml.out.1 hsml.out.2)
            obtain ⟨r0, r1, r2⟩ := tri_cell hg619.out
            obtain ⟨p0, p1, p2⟩ := tri_cell hH19.out
            go_upto_region 20 with (first
              | (refine wpList_load_row rfl 36 (.tmp 13) rfl g5 rfl _ _ _ _ hg5.out Tryz.underlying36 rfl (by rw [hsv'.out.n]; exact size_rf) ?_)
              | (refine wpList_store_row rfl 36 (.tmp 8) (.tmp 98) rfl R0 _ rfl rfl _ _ hbc.out (by rw [hsv'.out.n]; exact size_rf) (by rw [hsv'.out.n]; exact hsv.out.n) hsv'.out.one ?_; rw [hW19.out]))
            go_frame
            go_upto_region 22 with (go_at_call 15; refine Hsame.out.mono ?_; rintro e w20 ⟨rfl, hb20⟩; have Hb20 := Lib.hid hb20; clear hb20)
            have HF20 := Lib.hid (HF19.out.quiet Hb20.out).1
            have HR20 := Lib.hid (HR19.out.below Hb20.out)
            have hbox20 := Lib.hid ((Hb20.out.block _ (Array.getElem?_eq_some_iff.1 hbox19.out).1).trans hbox19.out)
            have hH20 := Lib.hid ((Hb20.out.block _ (Array.getElem?_eq_some_iff.1 hH19.out).1).trans hH19.out)
            have Ho20 := Lib.hid (own_below Ho6.out Hb20.out (Nat.le_refl _))
            have Hp20 := Lib.hid (own_below Hp6.out Hb20.out (Nat.le_refl _))
            rw [← Hn6.out] at Ho20
            rw [← Hm6.out] at Hp20
            have hm6I : (m6 : Int) ≤ 60000 := by have := hsml.out.2; have := Hm6.out; omega
            have hn6I : (n6 : Int) ≤ 1000 := by have := hsml.out.1; have := Hn6.out; omega
            have hgo := Lib.hid (show ∀ gb, (n6 ≠ 0 ∨ m6 ≠ 0) → W13.heap.size ≤ gb → gb < w14.heap.size → Y14 gb from fun gb h => by
              rcases HY3.out with ⟨h1, h2⟩ | h1
              · exfalso
                rw [Hn6.out, Hm6.out, h1, h2] at h
                simp at h
              · exact h1 gb)
            have hno := Lib.hid (show m6 ≠ 0 → n6 = 0 from fun h => by
              rcases hone.out with h1 | h1
              · rw [Hn6.out, h1]; rfl
              · exact absurd (by rw [Hm6.out, h1]; rfl) h)
            clear r0 r1 r2 p0 p1 p2
            go_upto_region 23 with fail
            go_loopw [15] (fun iv wr => ∃ j : Nat, j ≤ m6 ∧ iv = .int .i64 (j : Int) ∧ Hid (Touch (fun b => Y14 b ∧ W13.heap.size ≤ b ∧ b < w14.heap.size) w20 wr) ∧ Hid (m6 ≠ 0 → ∃ xs, wr.ownsRow W13.heap.size 5 1 (.slice B6 m6 k6) m6 xs) ∧ Hid (n6 ≠ 0 → ∃ xs, wr.ownsRow W13.heap.size 9 1 (.slice A6 n6 c6) n6 xs)) (fun i _ => m6 - (Go.Lib.intOf i).toNat)
            case atStart => exact ⟨0, by omega, rfl, Touch.refl _ _, fun _ => ⟨_, Hp20.out⟩, fun _ => ⟨_, Ho20.out⟩⟩
            case round =>
              obtain ⟨j, hj, rfl, hT2, hO, hN⟩ := hrel
              have hHx := Lib.hid (hT2.out.heap (g := H) (fun e => by have := hsz.out; have := e.2.2; omega) hH20.out)
              obtain ⟨p0, p1, p2⟩ := tri_cell hHx.out
              by_cases hltj : j < m6
              · have hm0 : m6 ≠ 0 := by omega
                obtain ⟨xs, hO⟩ := hO.out hm0
                have hxl : xs.length = m6 * 1 := hO.1
                obtain ⟨gB, cap, hv, hgb, _, hfz, hcell, hset⟩ := own_spoil hO (i := j) (by omega)
                injection hv with q1 q2 q3
                subst q1
                subst q3
                obtain ⟨u1, hu1⟩ : ∃ u, wr.cell? ⟨gB, j, none⟩ = some u := ⟨xs[j], by rw [hcell, List.getElem?_eq_getElem]⟩
                have hT' := Lib.hid (hT2.out.setCell (p := ⟨gB, j, none⟩) (.inr ⟨hgo.out gB (.inr hm0) hgb (hBlt6.out gB rfl), hgb, hBlt6.out gB rfl⟩) (.int .u8 98))
                have hO' := Lib.hid (show ∃ xs, (wr.setCell ⟨gB, j, none⟩ (.int .u8 98)).ownsRow W13.heap.size 5 1 (.slice (some ⟨gB, 0, none⟩) m6 k6) m6 xs from ⟨_, hset (.int .u8 98)⟩)
                clear hset hcell hO hT2
                go_wp2
                go_roundw
                case rel => exact ⟨j + 1, by omega, by go_num, hT'.out, fun _ => hO'.out, fun h => absurd (hno.out hm0) h⟩
                case measure => simp [Go.Lib.intOf]; omega
              · obtain rfl : j = m6 := by omega
                clear hO
                go_upto_region 27 with fail
                clear p0 p1 p2
                obtain ⟨w26, rfl⟩ : ∃ w', w' = wr := ⟨_, rfl⟩
                go_loopw [16] (fun iv wr => ∃ j : Nat, j ≤ n6 ∧ iv = .int .i64 (j : Int) ∧ Hid (Touch (fun b => Y14 b ∧ W13.heap.size ≤ b ∧ b < w14.heap.size) w20 wr) ∧ Hid (n6 ≠ 0 → ∃ xs, wr.ownsRow W13.heap.size 9 1 (.slice A6 n6 c6) n6 xs)) (fun i _ => n6 - (Go.Lib.intOf i).toNat)
                case atStart => exact ⟨0, by omega, rfl, hT2.out, hN.out⟩
                case round =>
                  clear hT2 hN hHx
                  obtain ⟨i, hi, rfl, hT2, hN⟩ := hrel
                  have hHx := Lib.hid (hT2.out.heap (g := H) (fun e => by have := hsz.out; have := e.2.2; omega) hH20.out)
                  obtain ⟨p0, p1, p2⟩ := tri_cell hHx.out
                  by_cases hlti : i < n6
                  · have hm0 : n6 ≠ 0 := by omega
                    obtain ⟨xs, hO⟩ := hN.out hm0
                    have hxl : xs.length = n6 * 1 := hO.1
                    obtain ⟨gB, cap, hv, hgb, _, hfz, hcell, hset⟩ := own_spoil hO (i := i) (by omega)
                    injection hv with q1 q2 q3
                    subst q1
                    subst q3
                    obtain ⟨u1, hu1⟩ : ∃ u, wr.cell? ⟨gB, i, none⟩ = some u := ⟨xs[i], by rw [hcell, List.getElem?_eq_getElem]⟩
                    have hT' := Lib.hid (hT2.out.setCell (p := ⟨gB, i, none⟩) (.inr ⟨hgo.out gB (.inl hm0) hgb (hAlt6.out gB rfl), hgb, hAlt6.out gB rfl⟩) (.string ⟨#[63]⟩))
                    have hO' := Lib.hid (show ∃ xs, (wr.setCell ⟨gB, i, none⟩ (.string ⟨#[63]⟩)).ownsRow W13.heap.size 9 1 (.slice (some ⟨gB, 0, none⟩) n6 c6) n6 xs from ⟨_, hset (.string ⟨#[63]⟩)⟩)
                    clear hset hcell hO hT2 hN
                    go_wp2
                    go_roundw
                    case rel => exact ⟨i + 1, by omega, by go_num, hT'.out, fun _ => hO'.out⟩
                    case measure => simp [Go.Lib.intOf]; omega
                  · obtain rfl : i = n6 := by omega
                    have HI' := Lib.hid (hst.out.inv.doC hok.out (by omega) g a.k a.n a.t a.r.l)
                    have HFz := Lib.hid (HF20.out.write (hT2.out.mono fun b _ e => hY58.out b e.1))
                    have HRz := Lib.hid (HR20.out.keep (hT2.out.mono fun b _ e => .inr ⟨by have := hsz.out; have := e.2.1; omega, by have := hlt17.out; have := e.2.2; omega⟩))
                    have hbz := Lib.hid (hT2.out.heap (g := R0) (fun e => by have := hlt17.out; have := hsz.out; have := e.2.1; omega) hbox20.out)
                    have HRy : Hid (RefF wr (fun b => Fr w1 Y18 b ∨ b = R0) (.agg cs') (s.doC g a.k a.n a.t a.r.l).1) := by
                      have h := HRz.out
                      rw [← ho.out] at h
                      obtain ⟨_, q1, q2, q3, q4, q5, q6⟩ := ho0.out
                      exact (h.mono fun b _ e => .inl e).swap q1 q2 q3 q4 q5 q6
                    have Hiz := Lib.hid (is_any HFz.out (by omega) HRy.out (HI'.out.well HFz.out.ok))
                    go_wp2_with (first
                      | (refine wpList_load_row rfl 36 (.tmp 8) rfl R0 rfl _ _ _ _ hbz.out Tryz.underlying36 rfl (by rw [hsv'.out.n]; exact size_rf) ?_)
                      | (go_at_call 16; refine Hiz.out.mono ?_; rintro e w31 ⟨rfl, hb31⟩; have Hb31 := Lib.hid hb31; clear hb31))
                    go_roundw
                    case rel => exact ⟨k + 1, _, Y18, cs', by omega, by go_num, PlSt.next HFz.out (by omega) hbz.out HRy.out HI'.out hYR.out Hb31.out⟩
                    case measure => simp [Go.Lib.intOf]; omega
    · obtain rfl : k = n := by omega
      have hsv := Lib.hid (hst.out.ref.sev rfl)
      have Hiz := Lib.hid (is_any hst.out.fs (by omega) hst.out.ref (hst.out.inv.well hst.out.fs.ok))
      go_wp2_with (first
        | (refine wpList_load_row rfl 36 (.tmp 8) rfl R0 rfl _ _ _ _ hst.out.box Tryz.underlying36 rfl (by rw [hsv.out.n]; exact size_rf) ?_)
        | (go_at_call 16; refine Hiz.out.mono ?_; rintro e w31 ⟨rfl, hb31⟩; have Hb31 := Lib.hid hb31; clear hb31)
        | (go_at_call 7; refine (Hworks.out _).mono ?_; rintro e w32 ⟨rfl, hb32⟩; have Hb32 := Lib.hid hb32; clear hb32))
      go_ret
      exact ⟨rfl, hst.out.fs.below.trans ((Hb31.out.trans (Hb32.out.mono Hb31.out.size)).mono hst.out.fs.below.size)⟩
end Go.Proofs.YtbhmnmmockmibaaGreat
