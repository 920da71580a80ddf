/- The program's Diff. Conditions: texts of at most 2^40 bytes. -/
import Derived.Test.YtohgghaooppcoaaDlO
import Derived.Test.YtohgghaooppcoaaDlG
import Derived.Lib.ConvBytes
import Derived.Lib.AtoiErrMem
namespace Go.Proofs.Ytohgghaooppcoaa
open Go.RowKit Go.Lib

/-- A text turned into bytes: one block more, which reads so. -/
theorem conv_bytes (cm : List UInt8) (_ : cm.length ≤ 1099511627776) : ∃ (bw : World → World) (cp : World → Nat), ∀ w,
    (convert 9 38 (.string (txt cm))).run Try.prog w = .ok (.slice (some ⟨w.heap.size, 0, none⟩) cm.length (cp w)) (bw w) ∧ Below w.heap.size w (bw w) ∧ (bw w).heap.size = w.heap.size + 1 ∧ RdB (bw w) (w.heap.size + 1) (some ⟨w.heap.size, 0, none⟩) cm := by
  refine ⟨fun w => Lib.bytesWorld w 5 (txt cm), fun w => grownCap w (txt cm).size 0 5, fun w => ⟨?_, Lib.bytesWorld_below _ _ _, Lib.bytesWorld_size _ _ _, ?_⟩⟩
  · rw [Lib.run_convert_string_bytes w 9 38 5 (txt cm) Try.underlying9 Try.underlying38 Try.underlying5, txt_size]
  · refine ⟨by rw [bs_len]; omega, fun _ => ⟨_, rfl, by simp, fun j u hu => ?_⟩⟩
    have hadd : (⟨w.heap.size, 0, none⟩ : Addr).add j = ⟨w.heap.size, j, none⟩ := by unfold Addr.add; split <;> simp_all
    rw [hadd, cell_of_row _ _ j _ _ _ (Lib.bytesWorld_at_new w 5 (txt cm))]
    have hj := (List.getElem?_eq_some_iff.1 hu).1
    unfold Lib.bytesCells
    rw [← Array.getElem?_toList, Array.toList_append, Array.toList_map]
    have e : List.map (fun b => Value.int IntKind.u8 (b.toNat : Int)) (txt cm).data.toList = bs cm := rfl
    rw [e, List.getElem?_append_left hj]
    exact hu
theorem dif_first {w w2 : World} {bw : World → World} {cp : World → Nat} {cm : List UInt8} (h na : Nat) (Hbw : Hid (∀ w, (convert 9 38 (.string (txt cm))).run Try.prog w = .ok (.slice (some ⟨w.heap.size, 0, none⟩) cm.length (cp w)) (bw w) ∧ Below w.heap.size w (bw w) ∧ (bw w).heap.size = w.heap.size + 1 ∧ RdB (bw w) (w.heap.size + 1) (some ⟨w.heap.size, 0, none⟩) cm))
    (hb : Below w.heap.size w w2) (hl : cm.length ≤ 1099511627776) :
    Calls Try.prog 36 #[.agg #[.int .i64 (h : Int), .slice (some ⟨w2.heap.size, 0, none⟩) cm.length (cp w2), .int .i64 (na : Int)], .slice none 0 0] ((bw w2).alloc (.cells #[.int .i64 (h : Int), .slice (some ⟨w2.heap.size, 0, none⟩) cm.length (cp w2), .int .i64 (na : Int)] 74)) fun e w' => ∃ v', e = .returned v' ∧ OwnE 47 w.heap.size w' v' (flush h cm na) ∧ Below w.heap.size w w' := by
  obtain ⟨_, hb2, hz, hr⟩ := Hbw.out w2
  have hbb3 := hb.trans (hb2.mono hb.size)
  have hbb4 := hbb3.alloc hbb3.size (.cells #[.int .i64 (h : Int), .slice (some ⟨w2.heap.size, 0, none⟩) cm.length (cp w2), .int .i64 (na : Int)] 74)
  have hr4 := hr.alloc (by omega) (.cells #[.int .i64 (h : Int), .slice (some ⟨w2.heap.size, 0, none⟩) cm.length (cp w2), .int .i64 (na : Int)] 74)
  have hs : ((bw w2).alloc (.cells #[.int .i64 (h : Int), .slice (some ⟨w2.heap.size, 0, none⟩) cm.length (cp w2), .int .i64 (na : Int)] 74)).heap.size = (bw w2).heap.size + 1 := by simp
  refine (appendTo_any w.heap.size _ [] h na (some ⟨w2.heap.size, 0, none⟩) _ cm _ (by simp) hl hbb4.size (OwnE.nil _ _ _) (hr4.more (by omega)) (Aside.nil fun ad e => by
    injection e with e
    subst e
    show w2.heap.size < _
    omega)).mono ?_
  rintro e w5 ⟨v5, rfl, hown5, hb5, _, _⟩
  exact ⟨v5, rfl, hown5, hbb4.trans hb5⟩
set_option maxHeartbeats 2000000 in
set_option maxRecDepth 100000 in
theorem diff_any (a b : List UInt8) (w : World) (ha : a.length ≤ 1099511627776) (hb : b.length ≤ 1099511627776) :
    Calls Try.prog 26 #[.string (txt a), .string (txt b)] w fun e w' => ∃ v, e = .returned v ∧ OwnE 47 w.heap.size w' v (dif a b) ∧ Below w.heap.size w w' := by
  have h1 := dh_le a b
  have h2 := de_le a b
  obtain ⟨h, Hh⟩ : ∃ h, Hid (dh a b = h) := ⟨_, rfl⟩
  obtain ⟨e, He⟩ : ∃ e, Hid (de a b = e) := ⟨_, rfl⟩
  have Hd : Hid (dif a b = dfl h ((b.drop h).take (b.length - h - e)) (a.length - h - e) e) := by
    show _ = _
    unfold dif
    rw [Hh.out, He.out]
  rw [Hh.out] at h1 h2
  rw [He.out] at h2
  have Hcb : Hid (cpl a b = h) := Hh.out
  have Hce : Hid (cpl (a.drop h).reverse (b.drop h).reverse = e) := by rw [← Hh.out]; exact He.out
  obtain ⟨na, Hna⟩ : ∃ na, Hid (a.length - h - e = na) := ⟨_, rfl⟩
  obtain ⟨nb, Hnb⟩ : ∃ nb, Hid (b.length - h - e = nb) := ⟨_, rfl⟩
  obtain ⟨cm, Hcm⟩ : ∃ cm, Hid ((b.drop h).take nb = cm) := ⟨_, rfl⟩
  rw [Hna.out, Hnb.out, Hcm.out] at Hd
  have Hna' := Hna.out
  have Hnb' := Hnb.out
  have hncm : cm.length = nb := by rw [← Hcm.out]; simp; omega
  obtain ⟨bw, cp, hbw⟩ := conv_bytes cm (by omega)
  have Hbw := Lib.hid hbw
  have hza := txt_size a
  have hzb := txt_size b
  have hza2 := txt_size (a.drop h)
  have hzb2 := txt_size (b.drop h)
  rw [List.length_drop] at hza2 hzb2
  have hhA : (h : Int) ≤ ((txt a).size : Int) := by omega
  have hhB : (h : Int) ≤ ((txt b).size : Int) := by omega
  have hla := Lib.hid (show (a.drop h).length ≤ 1099511627776 by rw [List.length_drop]; omega)
  have hlb := Lib.hid (show (b.drop h).length ≤ 1099511627776 by rw [List.length_drop]; omega)
  have Hlda := Lib.hid (show a.length ≤ (txt a).size by omega)
  have Hldb := Lib.hid (show b.length ≤ (txt b).size by omega)
  have s1 : IntKind.i64.wrap (((txt (b.drop h)).size : Int) - (e : Int)) = (nb : Int) := by rw [IntWalk.i64_in _ (by omega)]; omega
  have s2 : IntKind.i64.wrap (((txt (a.drop h)).size : Int) - (e : Int)) = (na : Int) := by rw [IntWalk.i64_in _ (by omega)]; omega
  have hnbI : (nb : Int) ≤ ((txt (b.drop h)).size : Int) := by omega
  have hcv : ∀ W, (convert 9 38 (.string ((txt (b.drop h)).extract 0 nb))).run Try.prog W = .ok (.slice (some ⟨W.heap.size, 0, none⟩) cm.length (cp W)) (bw W) := fun W => by
    rw [txt_to, Hcm.out]
    exact (hbw W).1
  have Hcml := Lib.hid (show cm.length ≤ 1099511627776 by omega)
  have Hs1 := Lib.hid s1
  have Hs2 := Lib.hid s2
  have Hnbi := Lib.hid hnbI
  have Hcv := Lib.hid hcv
  have Ha := Lib.hid ha
  have Hb := Lib.hid hb
  clear h1 h2 s1 s2 hnbI hcv Hna' Hnb' hza hzb hza2 hzb2 hbw hncm ha hb
  go_enter Try.func26, Try.ntmps26
  go_wp2_with (first
    | (go_at_call 45; refine (sameBegin_any a b _ Ha.out Hb.out).mono ?_; rintro _ w1 ⟨rfl, hb1⟩; rw [Hcb.out]))
  go_quiet (fail)
  rw [txt_from a _ _ Hlda.out, txt_from b _ _ Hldb.out]
  have s1 := Hs1.out
  have s2 := Hs2.out
  have hnbI := Hnbi.out
  have hcv := Hcv.out
  go_wp2_with (first
    | (go_at_call 46; refine (sameEnd_any (a.drop h) (b.drop h) _ hla.out hlb.out).mono ?_; rintro _ w2 ⟨rfl, hb2⟩; rw [Hce.out])
    | (go_at_call 36; refine (appendTo_any w.heap.size _ (flush h cm na) e 0 none 0 [] _ (by have := HF5.out; omega) (by simp) hbb5.size Hown5.out Reads.none_ (Aside.none_ _ _)).mono ?_; rintro _ w6 ⟨v6, rfl, hown6, hb6, hz6, hk6⟩; have hbb6 := hbb5.trans hb6)
    | (go_at_call 36; have hbd := below_drewN hb1 nq; have hbb2 := hbd.trans (hb2.mono hbd.size); refine (dif_first h na Hbw hbb2 Hcml.out).mono ?_; rintro _ w5 ⟨v5, rfl, hown5, hbb5⟩; have Hown5 := Lib.hid hown5; have HF5 := Lib.hid (flush_len h cm na); clear hown5))
  go_ret
  exact ⟨_, rfl, by rw [Hd.out]; exact hown6, hbb6⟩
end Go.Proofs.Ytohgghaooppcoaa
