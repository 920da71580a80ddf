/- What edits make of a text: the program's Apply, over a strings.Builder. Conditions: at most 16384 edits; a text of at most 2^46 bytes. -/
import Derived.Test.YtohgghaooppcoaaDlC
import Derived.Test.YtohgghaooppcoaaDlShelf
namespace Go.Proofs.Ytohgghaooppcoaa
open Go.RowKit Go.Lib

theorem txt_extract (l : List UInt8) (a b : Nat) : (txt l).extract a b = txt ((l.drop a).take (b - a)) := by
  apply ByteArray.ext
  simp only [ByteArray.data_extract, txt]
  apply Array.toList_inj.1
  rw [Array.toList_extract]
theorem txt_to (l : List UInt8) (m : Nat) : (txt l).extract 0 m = txt (l.take m) := by rw [txt_extract]; simp
theorem txt_from (l : List UInt8) (m n : Nat) (h : l.length ≤ n) : (txt l).extract m n = txt (l.drop m) := by
  rw [txt_extract, List.take_of_length_le (by rw [List.length_drop]; omega)]
/-- The answer of a text and an error. -/
def appVal (b : List UInt8) (l : List Ed) : Value := .tuple #[.string (txt (appB b l)), .int .i64 ((appE b l : Nat) : Int)]
theorem app_no {b : List UInt8} {l : List Ed} (h : szF l ≠ b.length ∨ allRt l = false) : appVal b l = .tuple #[.string (txt []), .int .i64 50] := by
  unfold appVal appB appE
  rw [if_neg (by rw [isOf_no h]; decide), if_neg (by rw [isOf_no h]; decide)]
  rfl
theorem app_yes {b : List UInt8} {l : List Ed} (h : szF l = b.length) (h' : allRt l = true) : appVal b l = .tuple #[.string (txt (app b l)), .int .i64 0] := by
  unfold appVal appB appE
  rw [if_pos (isOf_iff.2 ⟨h, h'⟩), if_pos (isOf_iff.2 ⟨h, h'⟩)]
  rfl
theorem sizes_is (A : Option Addr) (c B n F T : Nat) (l : List Ed) (hn : l.length = n) (hF : Hid (szF l = F)) (hT : Hid (szT l = T)) (w : World) (hl : n ≤ 65536) (hok : Oks l) (hB : B ≤ w.heap.size) (hr : RdE w B A l) :
    Calls Try.prog 13 #[.slice A n c] w fun e w' => e = .returned (.tuple #[.int .i64 (F : Int), .int .i64 (T : Int)]) ∧ Below w.heap.size w w' := by
  subst hn
  rw [← hF.out, ← hT.out]
  exact sizes_any A c B l w hl hok hB hr
theorem allRight_is (A : Option Addr) (c B n : Nat) (l : List Ed) (b : Bool) (hn : l.length = n) (hb : Hid (allRt l = b)) (w : World) (hl : n ≤ 1099511627776) (hB : B ≤ w.heap.size) (hr : RdE w B A l) :
    Calls Try.prog 21 #[.slice A n c] w fun e w' => e = .returned (.bool b) ∧ Below w.heap.size w w' := by
  subst hn
  rw [← hb.out]
  exact allRight_any A c B l w hl hB hr
theorem szT_lim {l : List Ed} (hok : Oks l) (hl : l.length ≤ 16384) : szT l ≤ 54224123314176 := by
  have h2 := szT_le l 1099511627 (fun x hx => (hok x hx).s)
  have h5 : (2147483647 + 1099511627) * l.length ≤ (2147483647 + 1099511627) * 16384 := Nat.mul_le_mul_left _ hl
  omega
theorem szF_cons {l : List Ed} {k : Nat} {x : Ed} (hx : Hid (l[k]? = some x)) : szF (l.drop k) = frN x + szF (l.drop (k + 1)) := by rw [drop_cons hx]; rfl
theorem bs_cells (l : List UInt8) : bs l = byteCells l := rfl
theorem bs_str (l m : List UInt8) : bs l ++ strCells (txt m) = bs (l ++ m) := by rw [bs_append]; rfl
/-- The loop's state: what is made already, what is left of the text, the edits to come. -/
def ApSt (b : List UInt8) (l : List Ed) (k : Nat) (acc lf : List UInt8) : Prop := acc ++ app lf (l.drop k) = app b l ∧ szF (l.drop k) = lf.length ∧ acc.length ≤ (app b l).length
theorem ApSt.two {b : List UInt8} {l : List Ed} {k : Nat} {acc lf : List UInt8} {x : Ed} (h : ApSt b l k acc lf) (hx : Hid (l[k]? = some x)) (h2 : x.k = 2) (hr : rt x = true) : ApSt b l (k + 1) (acc ++ x.s) lf := by
  obtain ⟨h1, hs, _⟩ := h
  rw [drop_cons hx, app_two h2, ← List.append_assoc] at h1
  refine ⟨h1, ?_, ?_⟩
  · have := szF_cons hx
    have hf := frN_of hr
    rcases rt_cases hr with ⟨_, hn, _⟩ | ⟨_, hn, _⟩
    · omega
    · exact absurd h2 hn
  · rw [← h1]; simp only [List.length_append]; omega
theorem ApSt.one {b : List UInt8} {l : List Ed} {k m : Nat} {acc lf : List UInt8} {x : Ed} (h : ApSt b l k acc lf) (hx : Hid (l[k]? = some x)) (h1 : x.k = 1) (hm : x.n = (m : Int)) (hf : frN x = m) : ApSt b l (k + 1) (acc ++ lf.take m) (lf.drop m) := by
  obtain ⟨h0, hs, _⟩ := h
  have e : x.n.toNat = m := by omega
  rw [drop_cons hx, app_one h1, ← List.append_assoc, e] at h0
  have := szF_cons hx
  exact ⟨h0, by rw [List.length_drop]; omega, by rw [← h0]; simp only [List.length_append]; omega⟩
theorem ApSt.del {b : List UInt8} {l : List Ed} {k m : Nat} {acc lf : List UInt8} {x : Ed} (h : ApSt b l k acc lf) (hx : Hid (l[k]? = some x)) (h2 : x.k ≠ 2) (h1 : x.k ≠ 1) (hm : x.n = (m : Int)) (hf : frN x = m) : ApSt b l (k + 1) acc (lf.drop m) := by
  obtain ⟨h0, hs, hl⟩ := h
  have e : x.n.toNat = m := by omega
  rw [drop_cons hx, app_del h2 h1, e] at h0
  have := szF_cons hx
  exact ⟨h0, by rw [List.length_drop]; omega, hl⟩
theorem ApSt.fits {b : List UInt8} {l : List Ed} {k m : Nat} {acc lf : List UInt8} {x : Ed} (h : ApSt b l k acc lf) (hx : Hid (l[k]? = some x)) (hf : frN x = m) : m ≤ lf.length := by
  have := szF_cons hx
  have := h.2.1
  omega
theorem ApSt.end_ {b : List UInt8} {l : List Ed} {acc lf : List UInt8} (h : ApSt b l l.length acc lf) : acc = app b l := by
  have := h.1
  rw [List.drop_length] at this
  simpa [app] using this
theorem ret_val {a b : Value} (h : a = b) : Ending.returned a = .returned b := by rw [h]
set_option maxHeartbeats 2000000 in
set_option maxRecDepth 100000 in
theorem apply_any (base : List UInt8) (A : Option Addr) (c B : Nat) (l : List Ed) (w : World) (hb : base.length ≤ 70368744177664) (hl : l.length ≤ 16384) (hok : Oks l) (hB : B ≤ w.heap.size) (hr : RdE w B A l) :
    Calls Try.prog 11 #[.string (txt base), .slice A l.length c] w fun e w' => e = .returned (appVal base l) ∧ Below w.heap.size w w' := by
  have hlen : (l.length : Int) ≤ 16384 := by omega
  have HB := Lib.hid hB
  have Hok : Hid (Oks l) := hok
  have Hl := Lib.hid hl
  have Hb := Lib.hid hb
  obtain ⟨F, hF⟩ : ∃ F, Hid (szF l = F) := ⟨_, rfl⟩
  obtain ⟨T, hT⟩ : ∃ T, Hid (szT l = T) := ⟨_, rfl⟩
  have hTm := szT_lim hok hl
  have HTm := Lib.hid (show T ≤ 54224123314176 by rw [← hT.out]; exact hTm)
  have hszb := Lib.hid (txt_size base)
  clear hl hB hok hb hTm
  by_cases hFb : F = (txt base).size
  · subst hFb
    rcases hid_bool (allRt l) with hall | hall
    · have Hv := Lib.hid (app_yes (b := base) (l := l) (by rw [hF.out, hszb.out]) hall.out)
      have Hlen := Lib.hid (app_len l base hall.out (by rw [hF.out, hszb.out]))
      go_enter Try.func11, Try.ntmps11
      go_wp2
      go_step3
      go_wp2_with (first
        | (go_at_call 13; refine (sizes_is A c B _ _ T l rfl hF hT _ (by have := Hl.out; omega) Hok.out HB.out hr).mono ?_; rintro e w1 ⟨rfl, hb1⟩)
        | (go_at_call 21; refine (allRight_is A c B _ l true rfl hall _ (by have := Hl.out; omega) (Nat.le_trans HB.out hb1.size) (Reads.below hr (hb1.mono HB.out))).mono ?_; rintro e w2 ⟨rfl, hb2⟩))
      have hb12 := hb1.trans (hb2.mono hb1.size)
      obtain ⟨N, hN⟩ : ∃ N, N = w2.heap.size := ⟨_, rfl⟩
      refine (Try.Builder_Grow_fresh w2.heap.size w2.heap.size T _ (Nat.le_refl _) (heap_alloc_new w2 _) (by simp) (by have := HTm.out; omega)).mono ?_
      rintro e w3 ⟨rfl, hB3, hb3⟩
      have hIs := IsBuilderF.of (.inr hB3)
      rw [← hN] at hIs hb3 ⊢
      have hNw : w.heap.size ≤ N := by rw [hN]; exact hb12.size
      have hbW : Below w.heap.size w w3 := (hb12.alloc hb12.size _).trans (hb3.mono hNw)
      have hNz : N < w3.heap.size := by have := hb3.size; simp at this; omega
      have Hr3 : Hid (RdE w3 B A l) := Reads.below hr (hbW.mono HB.out)
      have HNB := Lib.hid (show B ≤ N from Nat.le_trans HB.out hNw)
      have HN := Lib.hid hN
      clear hb1 hb2 hb12 hb3 hB3 hN hr
      go_wp2
      go_step3
      go_wp2
      go_loopw [9, 31] (fun lv i wr => ∃ (k : Nat) (acc lf : List UInt8), k ≤ l.length ∧ i = .int .i64 (k : Int) ∧ lv = .string (txt lf) ∧ Hid (ApSt base l k acc lf) ∧ Hid (lf.length ≤ base.length) ∧ Hid (IsBuilderF 64 5 N N (bs acc) wr) ∧ Below N w3 wr ∧ N < wr.heap.size) (fun _ i _ => l.length - (Lib.intOf i).toNat)
      case atStart => exact ⟨0, [], base, by omega, rfl, rfl, ⟨rfl, by rw [List.drop_zero, hF.out, hszb.out], by simp⟩, Nat.le_refl _, hIs, .refl _ _, hNz⟩
      case round =>
        clear hIs hNz
        obtain ⟨k, acc, lf, hk, rfl, rfl, hst, hlf, hIs, hb, hNr⟩ := hrel
        by_cases hlt : k < l.length
        · obtain ⟨ad, x, rfl, had, hc0, hc1, hc2, hx⟩ := RdE.at_ (Reads.below Hr3.out (hb.mono HNB.out)) hlt
          have hrt := Lib.hid (allRt_get hall.out hx)
          obtain ⟨m, hn, hm, hf⟩ := rt_bounds hrt.out
          have Hf := Lib.hid hf
          have Hn := Lib.hid hn
          rw [hn] at hc1
          obtain ⟨M, hM⟩ : ∃ M, M = wr.heap.size := ⟨_, rfl⟩
          have hIs1 := hIs.out.alloc (.cells #[.int .u8 (x.k.toNat : Int), .int .i64 (m : Int), .string (txt x.s)] 47)
          have hb1 := hb.alloc (Nat.le_of_lt hNr) (.cells #[.int .u8 (x.k.toNat : Int), .int .i64 (m : Int), .string (txt x.s)] 47)
          have hcell := heap_alloc_new wr (.cells #[.int .u8 (x.k.toNat : Int), .int .i64 (m : Int), .string (txt x.s)] 47)
          have Hacc := Lib.hid (show (bs acc).length + x.s.length ≤ 140737488355328 by
            have h1 := hst.out.2.2
            have h2 := Hlen.out
            have h3 := HTm.out
            have h4 := hT.out
            have h5 := (Hok.out.get hx).s
            rw [bs_len]; omega)
          have Hfits := Lib.hid (hst.out.fits hx hf)
          have Hacc2 := Lib.hid (show (bs acc).length + (lf.take m).length ≤ 140737488355328 by
            have h1 := hst.out.2.2
            have h2 := Hlen.out
            have h3 := HTm.out
            have h4 := hT.out
            have h5 := Hb.out
            have h6 := hlf.out
            rw [bs_len, List.length_take]; omega)
          have HIs1 : Hid (IsBuilderF _ _ _ _ _ _) := hIs1
          have Hcell : Hid (_ = _) := hcell
          clear hn hf hIs1 hcell hIs
          by_cases h2 : x.k = 2
          · obtain ⟨g1, g2⟩ := eq_lit (m := 2) (by omega) h2
            have Hst := Lib.hid (hst.out.two hx h2 hrt.out)
            clear h2
            go_wp2_with (go_at_call 32; refine (Try.Builder_WriteString_k N N (bs acc) (txt x.s) _ HIs1.out (by rw [txt_size]; exact Hacc.out) (by simp; omega)).mono ?_; rintro e w4 ⟨rfl, h4, hb4, _⟩)
            rw [bs_str] at h4
            have hbb := hb1.trans hb4
            go_roundw
            case rel => exact ⟨k + 1, acc ++ x.s, lf, by omega, by go_num, rfl, Hst.out, hlf, .inr h4, hbb, by have := hb4.size; simp at this; omega⟩
            case measure => simp [Lib.intOf]; omega
          · obtain ⟨g1, g2⟩ := ne_lit (k := x.k) (m := 2) (by omega) h2
            have hfz := Hfits.out
            have hfzI : (m : Int) ≤ ((txt lf).size : Int) := by rw [txt_size]; omega
            have hlfI : ((txt lf).size : Int) ≤ 70368744177664 := by rw [txt_size]; have := hlf.out; have := Hb.out; omega
            have Hlf' : Hid ((lf.drop m).length ≤ base.length) := by
              show _ ≤ _
              rw [List.length_drop]; have := hlf.out; omega
            clear hfz
            by_cases h1 : x.k = 1
            · obtain ⟨g3, g4⟩ := eq_lit (m := 1) (by omega) h1
              have Hst := Lib.hid (hst.out.one hx h1 Hn.out Hf.out)
              clear h1 h2
              go_wp2_with (go_at_call 32; refine (Try.Builder_WriteString_k N N (bs acc) _ _ HIs1.out (by rw [txt_to, txt_size]; exact Hacc2.out) (by simp; omega)).mono ?_; rintro e w4 ⟨rfl, h4, hb4, hk4⟩; have hcl := hk4 wr.heap.size _ Hcell.out (by intro e; injection e with e; omega) (by intro c fz e; injection e with e1 e2; exact absurd e2 (by decide)); have d1 := cell_of_row w4 wr.heap.size 1 _ _ _ hcl; clear hcl hk4)
              rw [txt_to, bs_str] at h4
              have hbb := hb1.trans hb4
              go_roundw
              case rel => exact ⟨k + 1, acc ++ lf.take m, lf.drop m, by omega, by go_num, by rw [txt_from _ _ _ (by rw [txt_size]; omega)], Hst.out, Hlf'.out, .inr h4, hbb, by have := hb4.size; simp at this; omega⟩
              case measure => simp [Lib.intOf]; omega
            · obtain ⟨g3, g4⟩ := ne_lit (k := x.k) (m := 1) (by omega) h1
              have Hst := Lib.hid (hst.out.del hx h2 h1 Hn.out Hf.out)
              clear h1 h2
              go_wp2
              go_roundw
              case rel => exact ⟨k + 1, acc, lf.drop m, by omega, by go_num, by rw [txt_from _ _ _ (by rw [txt_size]; omega)], Hst.out, Hlf'.out, HIs1.out, hb1, by simp; omega⟩
              case measure => simp [Lib.intOf]; omega
        · obtain rfl : k = l.length := by omega
          have Hacc := Lib.hid hst.out.end_
          go_wp2_with (go_at_call 33; refine (Try.Builder_String_any_k N N acc _ hIs.out (Nat.le_of_lt hNr)).mono ?_; rintro e w4 ⟨rfl, h4, hb4, _⟩)
          rw [Exit.noGoto_ret]
          go_ret2
          refine ⟨ret_val (by rw [Hv.out, ← Hacc.out]; rfl), hbW.trans ((hb.trans hb4).mono hNw)⟩
    · have Hv := Lib.hid (app_no (b := base) (l := l) (.inr hall.out))
      go_enter Try.func11, Try.ntmps11
      go_wp2
      go_step3
      go_wp2_with (first
        | (go_at_call 13; refine (sizes_is A c B _ _ T l rfl hF hT _ (by have := Hl.out; omega) Hok.out HB.out hr).mono ?_; rintro e w1 ⟨rfl, hb1⟩)
        | (go_at_call 21; refine (allRight_is A c B _ l false rfl hall _ (by have := Hl.out; omega) (Nat.le_trans HB.out hb1.size) (Reads.below hr (hb1.mono HB.out))).mono ?_; rintro e w2 ⟨rfl, hb2⟩))
      rw [Exit.noGoto_ret]
      go_ret2
      exact ⟨ret_val Hv.out.symm, hb1.trans (hb2.mono hb1.size)⟩
  · have Hv := Lib.hid (app_no (b := base) (l := l) (.inl (by rw [hF.out, ← hszb.out]; exact hFb)))
    have g1 : ((F : Int) == ((txt base).size : Int)) = false := by simpa using fun e => hFb (by omega)
    have g2 : ((F : Int) != ((txt base).size : Int)) = true := by simpa using fun e => hFb (by omega)
    clear hFb
    go_enter Try.func11, Try.ntmps11
    go_wp2
    go_step3
    go_wp2_with (go_at_call 13; refine (sizes_is A c B _ _ T l rfl hF hT _ (by have := Hl.out; omega) Hok.out HB.out hr).mono ?_; rintro e w1 ⟨rfl, hb1⟩)
    rw [Exit.noGoto_ret]
    go_ret2
    exact ⟨ret_val Hv.out.symm, hb1⟩
end Go.Proofs.Ytohgghaooppcoaa
