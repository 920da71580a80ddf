/- What edits make of a text: the document's Apply, byte by byte. Conditions: at most 16384 edits; a text of at most 2^46 bytes. -/
import Derived.Test.YtohgghaooppcoaaDlD
namespace Go.Proofs.Ytohgghaooppcoaa
open Go.RowKit Go.Lib

theorem txt_get {l : List UInt8} {k : Nat} (h : k < (txt l).size) : Hid (l[k]? = some ((txt l)[k]'h)) := by
  show l[k]? = _
  have h' : k < l.length := by rwa [txt_size] at h
  rw [List.getElem?_eq_getElem h']
  rfl
def tk1 (x : Ed) (lf : List UInt8) (q : Nat) : List UInt8 := if x.k = 1 then lf.take q else []
theorem tk1_on {x : Ed} {b : List UInt8} {p q u : Nat} {c : UInt8} (h : x.k = 1) (hu : Hid (u = p + q)) (hc : Hid (b[u]? = some c)) : tk1 x (b.drop p) (q + 1) = tk1 x (b.drop p) q ++ [c] := by
  unfold tk1
  rw [if_pos h, if_pos h]
  refine take_snoc ?_
  have := hc.out
  rw [hu.out] at this
  exact drop_get this
theorem tk1_no {x : Ed} {lf : List UInt8} {q : Nat} (h : x.k ≠ 1) : tk1 x lf q = [] := by unfold tk1; rw [if_neg h]
theorem tk1_zero (x : Ed) (lf : List UInt8) : tk1 x lf 0 = [] := by unfold tk1; split <;> simp
theorem tk1_le (x : Ed) (lf : List UInt8) (q : Nat) : (tk1 x lf q).length ≤ lf.length := by
  unfold tk1
  split
  · rw [List.length_take]; omega
  · simp
theorem ApSt.all {b : List UInt8} {l : List Ed} {k p u m : Nat} {acc : List UInt8} {x : Ed} (h : ApSt b l k acc (b.drop p)) (hx : Hid (l[k]? = some x)) (hr : rt x = true) (hm : x.n = (m : Int)) (hf : frN x = m) (hu : u = p + m) : ApSt b l (k + 1) (acc ++ tk1 x (b.drop p) m ++ x.s) (b.drop u) := by
  subst hu
  rcases rt_cases hr with ⟨h2, hn, _⟩ | ⟨h13, h2, _, _, hs⟩
  · have hm0 : m = 0 := by omega
    subst hm0
    rw [tk1_zero, List.append_nil, Nat.add_zero]
    exact h.two hx h2 hr
  · rw [hs, List.append_nil, ← List.drop_drop]
    by_cases h1 : x.k = 1
    · have e : tk1 x (b.drop p) m = (b.drop p).take m := if_pos h1
      rw [e]
      exact h.one hx h1 hm hf
    · rw [tk1_no h1, List.append_nil]
      exact h.del hx h2 h1 hm hf
theorem refSizes_is (A : Option Addr) (c B n F T : Nat) (l : List Ed) (hn : l.length = n) (hF : Hid (szF l = F)) (hT : Hid (szT l = T)) (w : World) (hl : n ≤ 65536) (hok : Oks l) (hB : B ≤ w.heap.size) (hr : RdE w B A l) :
    Calls Try.prog 14 #[.slice A n c] w fun e w' => e = .returned (.tuple #[.int .i64 (F : Int), .int .i64 (T : Int)]) ∧ Below w.heap.size w w' := by
  subst hn
  rw [← hF.out, ← hT.out]
  exact refSizes_any A c B l w hl hok hB hr
theorem refAllRight_is (A : Option Addr) (c B n : Nat) (l : List Ed) (b : Bool) (hn : l.length = n) (hb : Hid (allRt l = b)) (w : World) (hl : n ≤ 1099511627776) (hok : Oks l) (hB : B ≤ w.heap.size) (hr : RdE w B A l) :
    Calls Try.prog 22 #[.slice A n c] w fun e w' => e = .returned (.bool b) ∧ Below w.heap.size w w' := by
  subst hn
  rw [← hb.out]
  exact refAllRight_any A c B l w hl hok hB hr
set_option maxHeartbeats 2000000 in
set_option maxRecDepth 100000 in
theorem refApply_any (base : List UInt8) (A : Option Addr) (c B : Nat) (l : List Ed) (w : World) (hb : base.length ≤ 70368744177664) (hl : l.length ≤ 16384) (hok : Oks l) (hB : B ≤ w.heap.size) (hr : RdE w B A l) :
    Calls Try.prog 12 #[.string (txt base), .slice A l.length c] w fun e w' => e = .returned (appVal base l) ∧ Below w.heap.size w w' := by
  have hlen : (l.length : Int) ≤ 16384 := by omega
  have HB := Lib.hid hB
  have Hok : Hid (Oks l) := hok
  have Hl := Lib.hid hl
  have Hb := Lib.hid hb
  obtain ⟨F, hF⟩ : ∃ F, Hid (szF l = F) := ⟨_, rfl⟩
  obtain ⟨T, hT⟩ : ∃ T, Hid (szT l = T) := ⟨_, rfl⟩
  have hTm := szT_lim hok hl
  have HTm := Lib.hid (show T ≤ 54224123314176 by rw [← hT.out]; exact hTm)
  have hszb := Lib.hid (txt_size base)
  clear hl hB hok hb hTm
  rcases hid_bool (allRt l) with hall | hall
  · by_cases hFb : F = (txt base).size
    · subst hFb
      have Hv := Lib.hid (app_yes (b := base) (l := l) (by rw [hF.out, hszb.out]) hall.out)
      have Hlen := Lib.hid (app_len l base hall.out (by rw [hF.out, hszb.out]))
      have hszI : ((txt base).size : Int) ≤ 70368744177664 := by rw [txt_size]; have := Hb.out; omega
      go_enter Try.func12, Try.ntmps12
      go_wp2_with (first
        | (go_at_call 14; refine (refSizes_is A c B _ _ T l rfl hF hT _ (by have := Hl.out; omega) Hok.out HB.out hr).mono ?_; rintro e w1 ⟨rfl, hb1⟩)
        | (go_at_call 22; refine (refAllRight_is A c B _ l true rfl hall _ (by have := Hl.out; omega) Hok.out (Nat.le_trans HB.out hb1.size) (Reads.below hr (hb1.mono HB.out))).mono ?_; rintro e w2 ⟨rfl, hb2⟩))
      have hb12 := hb1.trans (hb2.mono hb1.size)
      have Hr : Hid (RdE w B A l) := hr
      clear hb1 hb2 hr
      go_loopw [8, 9, 10] (fun v a i wr => ∃ (k p : Nat) (acc : List UInt8), k ≤ l.length ∧ i = .int .i64 (k : Int) ∧ a = .int .i64 (p : Int) ∧ Hid (ApSt base l k acc (base.drop p)) ∧ Hid (p ≤ base.length) ∧ wr.ownsRow w.heap.size 5 1 v acc.length (bs acc) ∧ Below w.heap.size w wr) (fun _ _ i _ => l.length - (Lib.intOf i).toNat)
      case atStart => exact ⟨0, 0, [], by omega, rfl, rfl, ⟨rfl, by rw [List.drop_zero, hF.out, hszb.out]; rfl, by simp⟩, Nat.zero_le _, World.ownsRow_nil _ _ _ _, hb12⟩
      case round =>
        clear hb12
        obtain ⟨k, p, acc, hk, rfl, rfl, hst, hp, hown, hb⟩ := hrel
        by_cases hlt : k < l.length
        · obtain ⟨wo, rfl⟩ : ∃ wo : World, wo = wr := ⟨_, rfl⟩
          obtain ⟨ad0, x, hA, _, _, _, _, hx⟩ := RdE.at_ Hr.out hlt
          have hrt := Lib.hid (allRt_get hall.out hx)
          obtain ⟨m, hn, hm, hf⟩ := rt_bounds hrt.out
          have Hf := Lib.hid hf
          have Hn := Lib.hid hn
          have Hfit := Lib.hid (hst.out.fits hx hf)
          have Hacc := Lib.hid (show acc.length ≤ 54224123314176 by
            have h1 := hst.out.2.2
            have h2 := Hlen.out
            have h3 := HTm.out
            have h4 := hT.out
            omega)
          have hpI : (p : Int) ≤ 70368744177664 := by have := hp.out; have := Hb.out; omega
          have hcells : ∀ wi, Below w.heap.size w wi → ∃ ad, A = some ad ∧ wi.cell? (ad.add (k * 3)) = some (.int .u8 (x.k.toNat : Int)) ∧ wi.cell? ⟨(ad.add (k * 3)).block, (ad.add (k * 3)).off + 1, none⟩ = some (.int .i64 (m : Int)) ∧ wi.cell? ⟨(ad.add (k * 3)).block, (ad.add (k * 3)).off + 2, none⟩ = some (.string (txt x.s)) := by
            intro wi hbi
            obtain ⟨ad, y, e, _, h0, h1, h2, hy⟩ := RdE.at_ (Reads.below Hr.out (hbi.mono HB.out)) hlt
            have exy : y = x := by have := hy.out; rw [hx.out] at this; injection this with this; exact this.symm
            subst exy
            exact ⟨ad, e, h0, by rw [← hn]; exact h1, h2⟩
          have Hcells := Lib.hid hcells
          have hlfl := Lib.hid (show (base.drop p).length ≤ 70368744177664 by rw [List.length_drop]; have := Hb.out; omega)
          clear hcells hn hf hA
          go_wp2
          go_loopw [8, 9, 11] (fun v a j wi => ∃ (q u : Nat), q ≤ m ∧ j = .int .i64 (q : Int) ∧ a = .int .i64 (u : Int) ∧ Hid (u = p + q) ∧ wi.ownsRow w.heap.size 5 1 v (acc ++ tk1 x (base.drop p) q).length (bs (acc ++ tk1 x (base.drop p) q)) ∧ Below w.heap.size w wi) (fun _ _ j _ => m - (Lib.intOf j).toNat)
          case atStart => exact ⟨0, p, by omega, rfl, rfl, rfl, by rw [tk1_zero, List.append_nil]; exact hown, hb⟩
          case round =>
            clear hown hb
            obtain ⟨q, u, hq, rfl, rfl, hu, hown, hb⟩ := hrel
            obtain ⟨ad, rfl, hc0, hc1, hc2⟩ := Hcells.out wr hb
            have huI : (u : Int) ≤ 140737488355328 := by have := hu.out; omega
            by_cases hqm : q < m
            · have hus : u < (txt base).size := by
                have h1 := hu.out
                have h2 := Hfit.out
                rw [List.length_drop] at h2
                rw [txt_size]
                omega
              have husI : (u : Int) < ((txt base).size : Int) := by omega
              have hcc := txt_get hus
              have hul : Hid (acc.length + (tk1 x (base.drop p) q).length ≤ 140737488355327) := by
                have h1 := Hacc.out
                have h2 := tk1_le x (base.drop p) q
                have h3 := hlfl.out
                show _ ≤ _
                omega
              by_cases h1 : x.k = 1
              · obtain ⟨g1, g2⟩ := eq_lit (m := 1) (by omega) h1
                have Ht := Lib.hid (tk1_on h1 hu hcc)
                clear h1
                go_wp2_with (at_builtin; refine push_byte (.tmp 48) (.tmp 52) _ (txt base)[u] hown hb.size (by rw [List.length_append]; exact hul.out) rfl rfl rfl rfl rfl ?_; intro v2 w2 hown2 hb2 hbs2; clear hown)
                go_roundw
                case rel => exact ⟨q + 1, u + 1, by omega, by go_num, by go_num, by have := hu.out; show u + 1 = _; omega, by rw [Ht.out, ← List.append_assoc]; exact hown2, hb.trans hb2⟩
                case measure => simp [Lib.intOf]; omega
              · obtain ⟨g1, g2⟩ := ne_lit (k := x.k) (m := 1) (by omega) h1
                have Ht := Lib.hid (show tk1 x (base.drop p) (q + 1) = tk1 x (base.drop p) q by rw [tk1_no h1, tk1_no h1])
                clear h1 hcc
                go_wp2
                go_roundw
                case rel => exact ⟨q + 1, u + 1, by omega, by go_num, by go_num, by have := hu.out; show u + 1 = _; omega, by rw [Ht.out]; exact hown, hb⟩
                case measure => simp [Lib.intOf]; omega
            · obtain rfl : q = m := by omega
              obtain ⟨wo2, rfl⟩ : ∃ wo2 : World, wo2 = wr := ⟨_, rfl⟩
              obtain ⟨acc1, hacc1⟩ : ∃ acc1, Hid (acc1 = acc ++ tk1 x (base.drop p) q) := ⟨_, rfl⟩
              have hacc1l : Hid (acc1.length ≤ 124592867491840) := by
                have h1 := Hacc.out
                have h2 := tk1_le x (base.drop p) q
                have h3 := hlfl.out
                show _ ≤ _
                rw [hacc1.out, List.length_append]
                omega
              rw [← hacc1.out] at hown
              have Hok1 := Lib.hid (Hok.out.get hx)
              have hxsI : ((txt x.s).size : Int) ≤ 1099511627 := by rw [txt_size]; have := Hok1.out.s; omega
              go_wp2
              clear hc0 hc1 hc2
              go_loopw [8, 12] (fun v j wi => ∃ (r : Nat), r ≤ (txt x.s).size ∧ j = .int .i64 (r : Int) ∧ wi.ownsRow w.heap.size 5 1 v (acc1 ++ x.s.take r).length (bs (acc1 ++ x.s.take r)) ∧ Below w.heap.size w wi) (fun _ j _ => (txt x.s).size - (Lib.intOf j).toNat)
              case atStart => exact ⟨0, by omega, rfl, by rw [List.take_zero, List.append_nil]; exact hown, hb⟩
              case round =>
                clear hown hb
                obtain ⟨r, hr, rfl, hown, hb⟩ := hrel
                obtain ⟨ad', e, hc0, hc1, hc2⟩ := Hcells.out wr hb
                injection e with e
                subst e
                by_cases hrm : r < (txt x.s).size
                · have hcc := txt_get hrm
                  have hrI : (r : Int) < ((txt x.s).size : Int) := by omega
                  have hpl : Hid ((acc1 ++ x.s.take r).length ≤ 140737488355327) := by
                    have h1 := hacc1l.out
                    have h2 := Hok1.out.s
                    have h3 := List.length_take_le r x.s
                    show _ ≤ _
                    rw [List.length_append]
                    rw [txt_size] at hrm
                    omega
                  go_wp2_with (at_builtin; refine push_byte (.tmp 66) (.tmp 74) _ (txt x.s)[r] hown hb.size hpl.out rfl rfl rfl rfl rfl ?_; intro v2 w2 hown2 hb2 hbs2; clear hown)
                  go_roundw
                  case rel => exact ⟨r + 1, by omega, by go_num, by rw [take_snoc hcc, ← List.append_assoc]; exact hown2, hb.trans hb2⟩
                  case measure => simp [Lib.intOf]; omega
                · have hr' : r = (txt x.s).size := by omega
                  subst hr'
                  have hfin : Hid (x.s.take (txt x.s).size = x.s) := by
                    show _ = _
                    rw [txt_size, List.take_length]
                  rw [hfin.out] at hown
                  have Hst := Lib.hid (hst.out.all hx hrt.out Hn.out Hf.out hu.out)
                  rw [← hacc1.out] at Hst
                  have Hul := Lib.hid (show u ≤ base.length by
                    have h1 := hu.out
                    have h2 := Hfit.out
                    rw [List.length_drop] at h2
                    have := hp.out
                    omega)
                  go_wp2
                  go_roundw
                  case rel => exact ⟨k + 1, u, acc1 ++ x.s, by omega, by go_num, rfl, Hst.out, Hul.out, hown, hb⟩
                  case measure => simp [Lib.intOf]; omega
        · obtain rfl : k = l.length := by omega
          have Hacc := Lib.hid hst.out.end_
          obtain ⟨A0, c0, rfl, _, _, hr0⟩ := own_form hown
          have htx := run_text_any hr0 c0
          go_wp2
          go_ret2
          exact ⟨ret_val (by rw [Hv.out, ← Hacc.out]; rfl), hb⟩
    · have Hv := Lib.hid (app_no (b := base) (l := l) (.inl (by rw [hF.out, ← hszb.out]; exact hFb)))
      have g1 : ((F : Int) == ((txt base).size : Int)) = false := by simpa using fun e => hFb (by omega)
      have g2 : ((F : Int) != ((txt base).size : Int)) = true := by simpa using fun e => hFb (by omega)
      clear hFb
      go_enter Try.func12, Try.ntmps12
      go_wp2_with (first
        | (go_at_call 14; refine (refSizes_is A c B _ _ T l rfl hF hT _ (by have := Hl.out; omega) Hok.out HB.out hr).mono ?_; rintro e w1 ⟨rfl, hb1⟩)
        | (go_at_call 22; refine (refAllRight_is A c B _ l true rfl hall _ (by have := Hl.out; omega) Hok.out (Nat.le_trans HB.out hb1.size) (Reads.below hr (hb1.mono HB.out))).mono ?_; rintro e w2 ⟨rfl, hb2⟩))
      go_ret2
      exact ⟨ret_val Hv.out.symm, hb1.trans (hb2.mono hb1.size)⟩
  · have Hv := Lib.hid (app_no (b := base) (l := l) (.inr hall.out))
    go_enter Try.func12, Try.ntmps12
    go_wp2_with (first
      | (go_at_call 14; refine (refSizes_is A c B _ _ T l rfl hF hT _ (by have := Hl.out; omega) Hok.out HB.out hr).mono ?_; rintro e w1 ⟨rfl, hb1⟩)
      | (go_at_call 22; refine (refAllRight_is A c B _ l false rfl hall _ (by have := Hl.out; omega) Hok.out (Nat.le_trans HB.out hb1.size) (Reads.below hr (hb1.mono HB.out))).mono ?_; rintro e w2 ⟨rfl, hb2⟩))
    go_ret2
    exact ⟨ret_val Hv.out.symm, hb1.trans (hb2.mono hb1.size)⟩
end Go.Proofs.Ytohgghaooppcoaa
