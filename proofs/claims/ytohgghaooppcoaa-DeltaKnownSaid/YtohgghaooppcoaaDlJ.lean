/- Edits, written: the program's Put and the document's. Conditions: at most 1000 edits. -/
import Derived.Test.YtohgghaooppcoaaDlI
import Derived.Test.YtohgghaooppcoaaVar3
import Derived.Test.YtohgghaooppcoaaRefB
namespace Go.Proofs.Ytohgghaooppcoaa
open Go.RowKit Go.Lib

/-- A maker's answer of bytes and an error. -/
def PutVal (base : Nat) (l : List Ed) (e : Ending) (w' : World) : Prop := ∃ v, e = .returned (.tuple #[v, .int .i64 ((putE l : Nat) : Int)]) ∧ w'.ownsRow base 5 1 v (putB l).length (bs (putB l))
theorem put_bad {l : List Ed} (h : allRt l = false) : putE l = 2 ∧ putB l = [] := by
  unfold putE putB
  rw [if_neg (by simp [h]), if_neg (by simp [h])]
  exact ⟨rfl, rfl⟩
theorem put_fine {l : List Ed} (h : allRt l = true) : putE l = 0 ∧ putB l = encEs l := by
  unfold putE putB
  rw [if_pos h, if_pos h]
  exact ⟨rfl, rfl⟩
theorem encE_two {x : Ed} (h : x.k = 2) : encE x = [x.k] ++ encText x.s := by unfold encE encText; rw [if_pos h]; rfl
theorem encE_not {x : Ed} {m : Nat} (h : x.k ≠ 2) (hn : x.n = (m : Int)) : encE x = [x.k] ++ enc m := by
  have e : x.n.toNat = m := by omega
  unfold encE; rw [if_neg h, e]; rfl
theorem text_is (s : List UInt8) (w : World) (hs : s.length ≤ 1099511627) : Calls Try.prog 38 #[.string (txt s)] w fun e w' => ∃ v, e = .returned v ∧ w'.ownsRow w.heap.size 5 1 v (encText s).length (bs (encText s)) ∧ Below w.heap.size w w' :=
  text_any (txt s) w (by rw [txt_size]; omega)
theorem refText_is (s : List UInt8) (w : World) (hs : s.length ≤ 1099511627) : Calls Try.prog 40 #[.string (txt s)] w fun e w' => ∃ v, e = .returned v ∧ w'.ownsRow w.heap.size 5 1 v (encText s).length (bs (encText s)) ∧ Below w.heap.size w w' :=
  refText_any (txt s) w (by rw [txt_size]; omega)
theorem encText_len {s : List UInt8} (hs : s.length ≤ 1099511627) : (encText s).length ≤ 1099511637 := by
  have := sz_10 (n := s.length) (by omega)
  unfold sz at this
  unfold encText
  rw [List.length_append]
  omega
set_option maxHeartbeats 2000000 in
set_option maxRecDepth 100000 in
theorem dput_any (A : Option Addr) (c B : Nat) (l : List Ed) (w : World) (hl : l.length ≤ 1000) (hok : Oks l) (hB : B ≤ w.heap.size) (hr : RdE w B A l) :
    Calls Try.prog 17 #[.slice A l.length c] w fun e w' => PutVal w.heap.size l e w' ∧ Below w.heap.size w w' := by
  have hlen : (l.length : Int) ≤ 1000 := by omega
  have HB := Lib.hid hB
  have Hok : Hid (Oks l) := hok
  have Hl := Lib.hid hl
  have Hr : Hid (RdE w B A l) := hr
  clear hl hB hok hr
  rcases hid_bool (allRt l) with hall | hall
  · obtain ⟨h1, h2⟩ := put_fine hall.out
    have H1 := Lib.hid h1
    have H2 := Lib.hid h2
    clear h1 h2
    go_enter Try.func17, Try.ntmps17
    go_wp2
    go_step3
    go_wp2_with (go_at_call 21; refine (allRight_is A c B _ l true rfl hall _ (by have := Hl.out; omega) HB.out Hr.out).mono ?_; rintro e w1 ⟨rfl, hb1⟩)
    go_step3
    go_wp2
    go_loopw [4, 12] (fun v i wr => ∃ (k : Nat), k ≤ l.length ∧ i = .int .i64 (k : Int) ∧ wr.ownsRow w.heap.size 5 1 v (encEs (l.take k)).length (bs (encEs (l.take k))) ∧ Below w.heap.size w wr) (fun _ i _ => l.length - (Lib.intOf i).toNat)
    case atStart => exact ⟨0, by omega, rfl, World.ownsRow_nil _ _ _ _, hb1⟩
    case round =>
      clear hb1
      obtain ⟨k, hk, rfl, hown, hb⟩ := hrel
      by_cases hlt : k < l.length
      · obtain ⟨ad, x, rfl, had, hc0, hc1, hc2, hx⟩ := RdE.at_ (Reads.below Hr.out (hb.mono HB.out)) hlt
        have hrt := Lib.hid (allRt_get hall.out hx)
        obtain ⟨m, hn, hm, hf⟩ := rt_bounds hrt.out
        have Hn := Lib.hid hn
        have Hm := Lib.hid hm
        have hm0 : (0 : Int) ≤ (m : Int) := by omega
        rw [hn] at hc1
        have Hle := Lib.hid (show (encEs (l.take k)).length ≤ 1099511638000 by
          have := encEs_take_le hall.out (fun y hy => (Hok.out y hy).s) k
          have := Hl.out
          omega)
        have Hxs := Lib.hid (Hok.out.get hx).s
        have Hown1 := Lib.hid (hown.alloc (.cells #[.int .u8 (x.k.toNat : Int), .int .i64 (m : Int), .string (txt x.s)] 47))
        have hb1 := hb.alloc hb.size (.cells #[.int .u8 (x.k.toNat : Int), .int .i64 (m : Int), .string (txt x.s)] 47)
        have hcell := Lib.hid (heap_alloc_new wr (.cells #[.int .u8 (x.k.toNat : Int), .int .i64 (m : Int), .string (txt x.s)] 47))
        have hMz := Lib.hid (show wr.heap.size < (wr.alloc (.cells #[.int .u8 (x.k.toNat : Int), .int .i64 (m : Int), .string (txt x.s)] 47)).heap.size by simp)
        have hMne := Lib.hid (own_ne hown (M := wr.heap.size) (Nat.le_refl _))
        have hbz := Lib.hid hb1.size
        have Hsn := Lib.hid (encEs_snoc hx)
        obtain ⟨E, hE⟩ : ∃ E, Hid (E = encEs (l.take k)) := ⟨_, rfl⟩
        rw [← hE.out] at Hown1 Hle Hsn
        clear hn hf hown
        by_cases h2 : x.k = 2
        · obtain ⟨g1, g2, g3⟩ := is2 h2
          have Henc := Lib.hid (encE_two h2)
          clear h2
          go_wp2_with (first
            | (at_builtin; refine push_byteK (.tmp 16) (.tmp 19) _ x.k Hown1.out hbz.out (by have := Hle.out; omega) rfl rfl rfl rfl rfl (by simp) ?_; intro v1 w1 own1 hbx hbs1 hz1 hk1; have hh1 := (hk1 _ hMz.out hMne.out).2.trans hcell.out; obtain ⟨d0, d1, d2, _, _, _, hMz1⟩ := box_cells hh1; have hbb1 := hb1.trans hbx; have HMz1 := Lib.hid hMz1; clear hk1 hbx hh1)
            | (go_at_call 38; refine (text_is x.s _ Hxs.out).mono ?_; rintro e w2 ⟨v2, rfl, own2, hb2⟩; obtain ⟨A2, c2, rfl, _, _, hr2⟩ := own_form own2; have own1' := own_below own1 hb2 (Nat.le_refl _); have hbb2 := hbb1.trans (hb2.mono hbs1); clear own2 hb2 own1)
            | (at_builtin; refine push_row (.tmp 24) (.tmp 27) own1' hbb2.size hr2 (by have := Hle.out; have := encText_len Hxs.out; simp; omega) rfl rfl rfl rfl ?_; intro v3 w3 own3 hb3 hbs3 _; have hbb3 := hbb2.trans hb3; clear hb3 hr2 own1'))
          go_roundw
          case rel => exact ⟨k + 1, by omega, by go_num, by rw [Hsn.out, Henc.out, ← List.append_assoc]; exact own3, hbb3⟩
          case measure => simp [Lib.intOf]; omega
        · obtain ⟨g1, g2, g3⟩ := not2 h2
          have Henc := Lib.hid (encE_not h2 Hn.out)
          clear h2
          go_wp2_with (first
            | (at_builtin; refine push_byteK (.tmp 16) (.tmp 19) _ x.k Hown1.out hbz.out (by have := Hle.out; omega) rfl rfl rfl rfl rfl (by simp) ?_; intro v1 w1 own1 hbx hbs1 hz1 hk1; have hh1 := (hk1 _ hMz.out hMne.out).2.trans hcell.out; obtain ⟨d0, d1, d2, _, _, _, hMz1⟩ := box_cells hh1; have hbb1 := hb1.trans hbx; have HMz1 := Lib.hid hMz1; clear hk1 hbx hh1)
            | (go_at_call 39; refine (put_any m _ (by have := Hm.out; omega)).mono ?_; rintro e w2 ⟨v2, rfl, own2, hb2⟩; obtain ⟨A2, c2, rfl, _, _, hr2⟩ := own_form own2; have own1' := own_below own1 hb2 (Nat.le_refl _); have hbb2 := hbb1.trans (hb2.mono hbs1); clear own2 hb2 own1)
            | (at_builtin; refine push_row (.tmp 29) (.tmp 33) own1' hbb2.size hr2 (by have := Hle.out; have := sz_10 (n := m) (by have := Hm.out; omega); unfold sz at this; simp; omega) rfl rfl rfl rfl ?_; intro v3 w3 own3 hb3 hbs3 _; have hbb3 := hbb2.trans hb3; clear hb3 hr2 own1'))
          go_roundw
          case rel => exact ⟨k + 1, by omega, by go_num, by rw [Hsn.out, Henc.out, ← List.append_assoc]; exact own3, hbb3⟩
          case measure => simp [Lib.intOf]; omega
      · obtain rfl : k = l.length := by omega
        rw [List.take_length] at hown
        go_wp2
        rw [Exit.noGoto_ret]
        go_ret2
        exact ⟨⟨_, by rw [H1.out]; rfl, by rw [H2.out]; exact hown⟩, hb⟩
  · obtain ⟨h1, h2⟩ := put_bad hall.out
    have H1 := Lib.hid h1
    have H2 := Lib.hid h2
    clear h1 h2
    go_enter Try.func17, Try.ntmps17
    go_wp2
    go_step3
    go_wp2_with (go_at_call 21; refine (allRight_is A c B _ l false rfl hall _ (by have := Hl.out; omega) HB.out Hr.out).mono ?_; rintro e w1 ⟨rfl, hb1⟩)
    rw [Exit.noGoto_ret]
    go_ret2
    exact ⟨⟨.slice none 0 0, by rw [H1.out]; rfl, by rw [H2.out]; exact World.ownsRow_nil _ _ _ _⟩, hb1⟩
set_option maxHeartbeats 2000000 in
set_option maxRecDepth 100000 in
theorem refDput_any (A : Option Addr) (c B : Nat) (l : List Ed) (w : World) (hl : l.length ≤ 1000) (hok : Oks l) (hB : B ≤ w.heap.size) (hr : RdE w B A l) :
    Calls Try.prog 18 #[.slice A l.length c] w fun e w' => PutVal w.heap.size l e w' ∧ Below w.heap.size w w' := by
  have hlen : (l.length : Int) ≤ 1000 := by omega
  have HB := Lib.hid hB
  have Hok : Hid (Oks l) := hok
  have Hl := Lib.hid hl
  have Hr : Hid (RdE w B A l) := hr
  clear hl hB hok hr
  rcases hid_bool (allRt l) with hall | hall
  · obtain ⟨h1, h2⟩ := put_fine hall.out
    have H1 := Lib.hid h1
    have H2 := Lib.hid h2
    clear h1 h2
    go_enter Try.func18, Try.ntmps18
    go_wp2_with (go_at_call 22; refine (refAllRight_is A c B _ l true rfl hall _ (by have := Hl.out; omega) Hok.out HB.out Hr.out).mono ?_; rintro e w1 ⟨rfl, hb1⟩)
    go_loopw [4, 5] (fun v i wr => ∃ (k : Nat), k ≤ l.length ∧ i = .int .i64 (k : Int) ∧ wr.ownsRow w.heap.size 5 1 v (encEs (l.take k)).length (bs (encEs (l.take k))) ∧ Below w.heap.size w wr) (fun _ i _ => l.length - (Lib.intOf i).toNat)
    case atStart => exact ⟨0, by omega, rfl, World.ownsRow_nil _ _ _ _, hb1⟩
    case round =>
      clear hb1
      obtain ⟨k, hk, rfl, hown, hb⟩ := hrel
      by_cases hlt : k < l.length
      · obtain ⟨ad, x, rfl, had, hc0, hc1, hc2, hx⟩ := RdE.at_ (Reads.below Hr.out (hb.mono HB.out)) hlt
        have hrt := Lib.hid (allRt_get hall.out hx)
        obtain ⟨m, hn, hm, hf⟩ := rt_bounds hrt.out
        have Hn := Lib.hid hn
        have Hm := Lib.hid hm
        have hm0 : (0 : Int) ≤ (m : Int) := by omega
        rw [hn] at hc1
        have Hle := Lib.hid (show (encEs (l.take k)).length ≤ 1099511638000 by
          have := encEs_take_le hall.out (fun y hy => (Hok.out y hy).s) k
          have := Hl.out
          omega)
        have Hxs := Lib.hid (Hok.out.get hx).s
        have hbz := Lib.hid hb.size
        have Hsn := Lib.hid (encEs_snoc hx)
        obtain ⟨E, hE⟩ : ∃ E, Hid (E = encEs (l.take k)) := ⟨_, rfl⟩
        rw [← hE.out] at hown Hle Hsn
        have Hown1 := Lib.hid hown
        have Hcells := Lib.hid (fun (w1 : World) (h1 : Below w.heap.size w w1) => RdE.atE (Reads.below Hr.out (h1.mono HB.out)) hx)
        clear hf hown
        by_cases h2 : x.k = 2
        · obtain ⟨g1, g2, g3⟩ := is2 h2
          have Henc := Lib.hid (encE_two h2)
          clear h2 hn
          go_wp2_with (first
            | (at_builtin; refine push_byte (.tmp 15) (.tmp 21) _ x.k Hown1.out hbz.out (by have := Hle.out; omega) rfl rfl rfl rfl rfl ?_; intro v1 w1 own1 hbx hbs1; have hbb1 := hb.trans hbx; obtain ⟨d0, d1, d2⟩ := Hcells.out w1 hbb1; clear hbx hc0 hc1 hc2)
            | (go_at_call 40; refine (refText_is x.s _ Hxs.out).mono ?_; rintro e w2 ⟨v2, rfl, own2, hb2⟩; obtain ⟨A2, c2, rfl, _, _, hr2⟩ := own_form own2; have own1' := own_below own1 hb2 (Nat.le_refl _); have hbb2 := hbb1.trans (hb2.mono hbs1); clear own2 hb2 own1)
            | (at_builtin; refine push_row (.tmp 29) (.tmp 35) own1' hbb2.size hr2 (by have := Hle.out; have := encText_len Hxs.out; simp; omega) rfl rfl rfl rfl ?_; intro v3 w3 own3 hb3 hbs3 _; have hbb3 := hbb2.trans hb3; clear hb3 hr2 own1'))
          go_roundw
          case rel => exact ⟨k + 1, by omega, by go_num, by rw [Hsn.out, Henc.out, ← List.append_assoc]; exact own3, hbb3⟩
          case measure => simp [Lib.intOf]; omega
        · obtain ⟨g1, g2, g3⟩ := not2 h2
          have Henc := Lib.hid (encE_not h2 Hn.out)
          clear h2 hn
          go_wp2_with (first
            | (at_builtin; refine push_byte (.tmp 15) (.tmp 21) _ x.k Hown1.out hbz.out (by have := Hle.out; omega) rfl rfl rfl rfl rfl ?_; intro v1 w1 own1 hbx hbs1; have hbb1 := hb.trans hbx; obtain ⟨d0, d1, d2⟩ := Hcells.out w1 hbb1; rw [Hn.out] at d1; clear hbx hc0 hc1 hc2)
            | (go_at_call 41; refine (refPut_any m _ (by have := Hm.out; omega)).mono ?_; rintro e w2 ⟨v2, rfl, own2, hb2⟩; obtain ⟨A2, c2, rfl, _, _, hr2⟩ := own_form own2; have own1' := own_below own1 hb2 (Nat.le_refl _); have hbb2 := hbb1.trans (hb2.mono hbs1); clear own2 hb2 own1)
            | (at_builtin; refine push_row (.tmp 37) (.tmp 44) own1' hbb2.size hr2 (by have := Hle.out; have := sz_10 (n := m) (by have := Hm.out; omega); unfold sz at this; simp; omega) rfl rfl rfl rfl ?_; intro v3 w3 own3 hb3 hbs3 _; have hbb3 := hbb2.trans hb3; clear hb3 hr2 own1'))
          go_roundw
          case rel => exact ⟨k + 1, by omega, by go_num, by rw [Hsn.out, Henc.out, ← List.append_assoc]; exact own3, hbb3⟩
          case measure => simp [Lib.intOf]; omega
      · obtain rfl : k = l.length := by omega
        rw [List.take_length] at hown
        go_wp2
        go_ret2
        exact ⟨⟨_, by rw [H1.out]; rfl, by rw [H2.out]; exact hown⟩, hb⟩
  · obtain ⟨h1, h2⟩ := put_bad hall.out
    have H1 := Lib.hid h1
    have H2 := Lib.hid h2
    clear h1 h2
    go_enter Try.func18, Try.ntmps18
    go_wp2_with (go_at_call 22; refine (refAllRight_is A c B _ l false rfl hall _ (by have := Hl.out; omega) Hok.out HB.out Hr.out).mono ?_; rintro e w1 ⟨rfl, hb1⟩)
    go_ret2
    exact ⟨⟨.slice none 0 0, by rw [H1.out]; rfl, by rw [H2.out]; exact World.ownsRow_nil _ _ _ _⟩, hb1⟩
end Go.Proofs.Ytohgghaooppcoaa
