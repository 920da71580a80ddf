/- The walk of the directory's failure: how many names each file has then. Conditions: at most 900 calls. The walk of a power failure. Conditions: at most 900 calls; at most 1000 told. Lists of files (a name, its content): as cells, read, and grown; the walk of Files. Conditions: at most 900 calls. -/
import Derived.Test.YtbhmnmmockmibaaGreatKpFoF
import Derived.Test.YtbhmnmmockmibaaGreatKpFtR
import Derived.Test.YtbhmnmmockmibaaGreatKpFoL
import Derived.Test.YtbhmnmmockmibaaGreatKpFtT
namespace Go.Proofs.YtbhmnmmockmibaaGreat
open Go.RowKit Go.Maps
def CntM (w : World) (b : Nat) (l : List Int) : Prop := ∃ n D, n ≤ l.length ∧ w.ownsMap (H := Unit) Tryz.prog 3 (plainElem Tryz.prog 3) b n D ∧ IsMap D ∧ ∀ z, D.atKey (.int .i64 z) (.lit (.int .i64 0)) = .lit (.int .i64 (l.count z : Nat))
section
variable {w0 w w' W : World} {Y Y' X : Nat → Prop} {F N M B R L : Nat} {s s' : Fo} {b : Nat} {l : List Int} {z : Int}
theorem CntM.keep (h : CntM w b l) (ht : Touch X w w') (hx : ¬ X b) : CntM w' b l := by
  obtain ⟨n, D, h1, h2, h3, h4⟩ := h
  exact ⟨n, D, h1, owns_touch h2 ht hx, h3, h4⟩
theorem CntM.made (w : World) : CntM (w.alloc (.map #[] 0)) w.heap.size [] := ⟨0, .map [], Nat.le_refl _, World.ownsMap_made w Tryz.prog 3 (plainElem Tryz.prog 3), isMap_empty, fun _ => rfl⟩
theorem CntM.lt (h : CntM w b l) : b < w.heap.size := by
  obtain ⟨n, D, h1, h2, _⟩ := h
  exact h2.lt
set_option maxRecDepth 100000 in
theorem CntM.look (h : CntM w b l) (hz : -9223372036854775808 ≤ z ∧ z ≤ 9223372036854775807) : (Instr.lookup 86 (.map (some b)) (.int .i64 z) false).run Tryz.prog w = .ok (.int .i64 (l.count z : Nat)) w := by
  obtain ⟨n, D, h1, h2, h3, h4⟩ := h
  obtain ⟨c, hrun, hat, _⟩ := h2.lookup_int keyI Tryz.underlying86 Tryz.underlying3 (Tryz.zeroValue3 w) (key_i hz)
  rw [h4] at hat
  injection hat with hat
  injection hat with _ hat
  rw [hat]
  exact hrun
theorem cnt_snoc (l : List Int) (z y : Int) : ((l ++ [z]).count y : Nat) = l.count y + if z = y then 1 else 0 := by
  rw [List.count_append, List.count_singleton]
  by_cases h : z = y <;> simp [h]
set_option maxRecDepth 100000 in
theorem CntM.more (h : CntM w b l) (hz : -9223372036854775808 ≤ z ∧ z ≤ 9223372036854775807) (hl : l.length ≤ 1000) : ∃ w', (Instr.mapUpdate 86 (.map (some b)) (.int .i64 z) (.int .i64 ((l.count z : Nat) + 1))).run Tryz.prog w = .ok () w' ∧ CntM w' b (l ++ [z]) ∧ Touch (fun k => k = b) w w' := by
  obtain ⟨n, D, h1, h2, h3, h4⟩ := h
  have hc : l.count z ≤ 1000 := Nat.le_trans List.count_le_length hl
  have hc2 : -9223372036854775808 ≤ ((l.count z : Nat) : Int) + 1 ∧ ((l.count z : Nat) : Int) + 1 ≤ 9223372036854775807 := by omega
  obtain ⟨w3, hrun, hown3, hg3⟩ := h2.update keyI Tryz.underlying86 (by simp only [maxLen]; omega) (key_i hz) (plainElem_int Tryz.underlying3 (a := ((l.count z : Nat) : Int) + 1) (by simp only [Lit.wf, Bool.and_eq_true, decide_eq_true_eq]; exact hc2))
  refine ⟨w3, hrun, ⟨_, _, ?_, hown3, h3.put _ _, fun y => ?_⟩, Touch.grown hg3 fun k e => by injection e with e; exact e.symm⟩
  · rw [List.length_append, List.length_singleton]; omega
  · rw [cnt_snoc]
    by_cases hy : y = z
    · subst hy
      rw [atKey_put_same h3 (by simp [WideAt.IsKeyLit])]
      simp
    · rw [atKey_put_other (fun e => by injection e with _ e; exact hy e), h4, if_neg (fun e => hy e.symm)]
      rfl
def Fo.failN (s : Fo) (ops : Int) : Fo := { s with d := s.d.fail ops, many := ((s.d.fail ops).now.length : Int), tk := [] }
theorem snd_snoc {m : List EnD} {j : Nat} {e : EnD} (h : m[j]? = some e) : (m.take (j + 1)).map Prod.snd = (m.take j).map Prod.snd ++ [e.2] := by
  obtain ⟨hj, e'⟩ := List.getElem?_eq_some_iff.1 h
  rw [List.take_succ_eq_append_getElem hj, List.map_append, e']
  rfl
set_option maxHeartbeats 4000000 in
set_option maxRecDepth 100000 in
theorem FS.nfail (h : FS w0 Y F s N w) (hN : N ≤ 900) (ops : Int) (hk1 : -9223372036854775808 ≤ ops) (hk2 : ops ≤ 9223372036854775807) :
    Calls Tryz.prog 27 #[.pointer (some ⟨F, 0, none⟩), .int .i64 ops] w fun e w' => ∃ b, e = .returned (.map (some b)) ∧ CntM w' b ((s.d.fail ops).now.map Prod.snd) ∧ FS w0 (fun k => Y k ∨ k = b) F (s.failN ops) N w' ∧ Touch (Fr w0 Y) w w' := by
  obtain ⟨c, nm, pd, tk, mp, h0⟩ := h.ex
  have htop := h0.top
  have c4 := (f_cells htop).2.2
  have fz := fun i => d_frozen (i := i) htop
  obtain ⟨W1, hW1⟩ : ∃ W1, Hid (w.setCell ⟨F, 4, none⟩ (.slice none 0 0) = W1) := ⟨_, rfl⟩
  obtain ⟨c1, h1, ht1, _⟩ := h0.ownS (many := s.many) (l := []) (tk' := .slice none 0 0) ((Touch.cell1 w F 4 (.slice none 0 0)).mono fun _ _ e => .inl e) (f_set4 _ htop) (World.ownsRow_nil _ _ _ _) (.inl rfl)
  rw [hW1.out] at h1 ht1
  obtain ⟨m, hm⟩ : ∃ m, Hid ((s.d.fail ops).now = m) := ⟨_, rfl⟩
  have hgood := h.ok.d.fail ops
  have hml : Hid (m.length ≤ 900) := by rw [← hm.out]; exact Nat.le_trans hgood.now.1 hN
  have hmv : Hid (∀ e ∈ m, -9223372036854775808 ≤ e.2 ∧ e.2 ≤ 9223372036854775807) := by rw [← hm.out]; exact fun e he => (hgood.now.2 e he).v
  have hfail := Lib.hid (fail_anyD h1.dir (by decide) h.ok.d (by omega) ops hk1 hk2)
  have Hpre : Hid (∀ w2, Did W1 c1 1 F (Fo.zz { s with tk := [] } (.slice none 0 0) mp) (s.d.fail ops) w2 →
      (Calls Tryz.prog 55 #[.pointer (some ⟨F, 0, none⟩)] w2 fun e w' => ∃ v, e = .returned v ∧ OwnEnD 120 w2.heap.size w' v m ∧ Below w2.heap.size w2 w') ∧
      ∀ w3, Below w2.heap.size w2 w3 → w3.cell? ⟨F, 3, none⟩ = some (.int .i64 s.many) ∧ w3.frozen? ⟨F, 3, none⟩ = false ∧ FS w0 Y F (s.failN ops) N (w3.setCell ⟨F, 3, none⟩ (.int .i64 (m.length : Int))) ∧ Touch (Fr w0 Y) w (w3.setCell ⟨F, 3, none⟩ (.int .i64 (m.length : Int))) ∧ F < w2.heap.size) := by
    intro w2 hd
    obtain ⟨c2, nm2, pd2, h2, ht2, _⟩ := h1.dirS hd
    rw [← hm.out]
    refine ⟨list_anyD h2.dir hgood (by omega), fun w3 hb => ?_⟩
    have h3 := h2.quiet hb
    have top3 := h3.top
    have t3 := Touch.cell1 w3 F 3 (.int .i64 ((s.d.fail ops).now.length : Int))
    obtain ⟨c4, h4, ht4, _⟩ := h3.ownS (many := ((s.d.fail ops).now.length : Int)) (l := []) (tk' := .slice none 0 0) (t3.mono fun _ _ e => .inl e) (f_set3 _ top3) (World.ownsRow_nil _ _ _ _) (.inl rfl)
    exact ⟨(f_cells top3).2.1, d_frozen top3, ⟨⟨c4, nm2, pd2, _, mp, h4⟩, hgood, h.ok.t, h.ok.most, rfl, Nat.zero_le _, by simp [Fo.failN]⟩, ht1.trans (ht2.trans ((Touch.of hb).trans ht4)), h2.lt⟩
  obtain ⟨len, hln⟩ : ∃ l, Hid (m.length = l) := ⟨_, rfl⟩
  have hlenI : (len : Int) ≤ 900 := by have := hml.out; have := hln.out; omega
  rw [hln.out] at Hpre
  rw [hm.out]
  have hmk := fun w => run_makeMap (P := Tryz.prog) 86 w
  clear h h0 htop h1 ht1 hgood hk1 hk2
  go_enter Tryz.func27, Tryz.ntmps27
  go_upto_region 2 with fail
  rw [hW1.out]
  clear c4 fz
  go_upto_region 4 with (first
    | (go_at_call 60; refine hfail.out.mono ?_; rintro e w2 ⟨rfl, hd⟩; have HP := Lib.hid (Hpre.out _ hd); clear hd)
    | (go_at_call 55; refine HP.out.1.mono ?_; rintro e w3 ⟨u, rfl, ho, hb3⟩; have HQ := Lib.hid (HP.out.2 _ hb3); obtain ⟨A, cap, rfl, hcap, hcm, hrd⟩ := own_form ho; have Ho := Lib.hid ho; have Hrd := Lib.hid hrd; clear ho hrd hb3 hcap hcm; rw [hln.out]))
  obtain ⟨c3, z3, hF, hT, hFl⟩ := HQ.out
  have HF := Lib.hid hF
  have HT := Lib.hid hT
  have HFl := Lib.hid hFl
  clear hF hT hFl
  obtain ⟨W5, hW5⟩ : ∃ W5, Hid (w3.setCell ⟨F, 3, none⟩ (.int .i64 (len : Int)) = W5) := ⟨_, rfl⟩
  go_upto_region 5 with fail
  rw [hW5.out]
  clear c3 z3
  obtain ⟨b, hb⟩ : ∃ b, Hid (W5.heap.size = b) := ⟨_, rfl⟩
  obtain ⟨W6, hW6⟩ : ∃ W6, Hid (W5.alloc (.map #[] 0) = W6) := ⟨_, rfl⟩
  go_upto_region 6 with fail
  rw [hW6.out, hb.out]
  clear hmk
  have hs5 : W5.heap.size = w3.heap.size := by rw [← hW5.out]; simp [World.setCell]
  have hc0 : Hid (CntM W6 b []) := by rw [← hW6.out, ← hb.out]; exact CntM.made W5
  have hb6 : Hid (Below W5.heap.size W5 W6) := by rw [← hW6.out]; exact below_new _ _
  have h6 : Hid (FS w0 (fun k => Y k ∨ k = b) F (s.failN ops) N W6) := by
    have h5 := HF.out
    rw [hW5.out] at h5
    refine h5.more hb6.out fun k hk => hk.imp id fun e => ?_
    rw [e, ← hb.out, ← hW6.out]
    simp
  have ht6 : Hid (Touch (Fr w0 Y) w W6) := by
    have h5 := HT.out
    rw [hW5.out] at h5
    exact h5.trans (.of hb6.out)
  have hlist : Hid (EnXD W6 (fun k => k = b) A m) := by
    have h3 : EnXD w3 (fun k => k = F ∨ k = b) A m := by
      refine ⟨Hrd.out.1, fun hn => ?_⟩
      obtain ⟨ad, e, hbl, hcc⟩ := Hrd.out.2 hn
      refine ⟨ad, e, hbl, ?_, hcc⟩
      rintro (e1 | e1)
      · have h7 := (Ho.out.lt ad.block (by rw [e]; rfl)).1
        have := HFl.out
        omega
      · have := hb.out; omega
    have h5 : EnXD W5 (fun k => k = F ∨ k = b) A m := by rw [← hW5.out]; exact h3.keep ((Touch.cell1 w3 F 3 _).mono fun _ _ e => .inl e)
    exact (h5.below hb6.out).mono fun k _ e => .inr e
  go_wp2
  go_loopw [29] (fun i wr => ∃ (j : Nat), j ≤ len ∧ i = .int .i64 (j : Int) ∧ Hid (CntM wr b ((m.take j).map Prod.snd)) ∧ Hid (Touch (fun k => k = b) W6 wr)) (fun i _ => len - (intOf i).toNat)
  case atStart => exact ⟨0, by omega, rfl, hc0.out, Touch.refl _ _⟩
  case round =>
    obtain ⟨j, hj, rfl, hcn, htr⟩ := hrel
    by_cases hlt : j < len
    · obtain ⟨ad, e, rfl, _, _, d0, d1, hx⟩ := EnXD.at_ (hlist.out.keep htr.out) (k := j) (by rw [hln.out]; exact hlt)
      have Hx := Lib.hid hx.out
      clear hx
      obtain ⟨ek, ez⟩ := e
      obtain ⟨Wa, hWa⟩ : ∃ Wa, Hid (wr.alloc (.cells #[.string (txt ek), .int .i64 ez] 120) = Wa) := ⟨_, rfl⟩
      obtain ⟨g, hg⟩ : ∃ g, Hid (wr.heap.size = g) := ⟨_, rfl⟩
      have e1 : Wa.cell? ⟨g, 1, none⟩ = some (.int .i64 ez) := by rw [← hWa.out, ← hg.out]; exact (two_cells (heap_alloc_new wr _)).2
      have hba : Hid (Below wr.heap.size wr Wa) := by rw [← hWa.out]; exact below_new _ _
      have hca : Hid (CntM Wa b ((m.take j).map Prod.snd)) := hcn.out.keep (Touch.of (X := fun _ => False) hba.out) fun e => e
      have hzb := hmv.out _ (List.mem_of_getElem? Hx.out)
      have hlk := hca.out.look hzb
      obtain ⟨w7, hup, hcn7, ht7⟩ := hca.out.more hzb (by rw [List.length_map, List.length_take]; have := hml.out; omega)
      have hcnt : List.count ez ((m.take j).map Prod.snd) ≤ 900 := Nat.le_trans List.count_le_length (by rw [List.length_map, List.length_take]; have := hml.out; omega)
      obtain ⟨q, hq⟩ : ∃ q : Nat, Hid (List.count ez ((m.take j).map Prod.snd) = q) := ⟨_, rfl⟩
      simp only at hlk hup hcnt
      rw [hq.out] at hlk hup hcnt
      have hqI : (q : Int) ≤ 900 := by omega
      have Hcn7 := Lib.hid hcn7
      have Ht7 := Lib.hid ht7
      have Hzb := Lib.hid hzb
      clear hcn7 ht7 hcnt hzb
      go_upto_region 9 with fail
      rw [hWa.out, hg.out]
      go_wp2
      go_roundw
      case rel => exact ⟨j + 1, by omega, by go_num, by rw [snd_snoc Hx.out]; exact Hcn7.out, (htr.out.trans (.of hba.out)).trans Ht7.out⟩
      case measure => simp [intOf]; omega
    · obtain rfl : j = len := by omega
      have hfull : m.take j = m := by rw [← hln.out, List.take_length]
      rw [hfull] at hcn
      have hfin := Lib.hid (h6.out.write (htr.out.mono fun k _ e => .inr e))
      go_wp2
      go_ret
      refine ⟨b, rfl, hcn.out, hfin.out, ht6.out.then_ htr.out fun k hk e => ?_⟩
      have h8 := HT.out.size
      rw [hW5.out] at h8
      have := hb.out
      omega
end
end Go.Proofs.YtbhmnmmockmibaaGreat

namespace Go.Proofs.YtbhmnmmockmibaaGreat
open Go.RowKit Go.Maps
def updC (l : List Int) (x : En) : En := (x.1, (l.count x.1 : Nat))
def mixC (l : List Int) (L0 : List En) (j : Nat) : List En := (L0.take j).map (updC l) ++ L0.drop j
theorem mixC_len {l : List Int} {L0 : List En} {j : Nat} : (mixC l L0 j).length = L0.length := by
  unfold mixC
  rw [List.length_append, List.length_map, List.length_take, List.length_drop]
  omega
theorem mixC_get {l : List Int} {L0 : List En} {j : Nat} (hj : j < L0.length) : (mixC l L0 j)[j]? = some L0[j] := by
  unfold mixC
  rw [List.getElem?_append_right (by rw [List.length_map, List.length_take]; omega), List.length_map, List.length_take, Nat.min_eq_left (by omega), Nat.sub_self, List.getElem?_drop, Nat.add_zero]
  exact List.getElem?_eq_getElem hj
theorem mixC_set {l : List Int} {L0 : List En} {j : Nat} (hj : j < L0.length) : (mixC l L0 j).set j (updC l L0[j]) = mixC l L0 (j + 1) := by
  unfold mixC
  rw [List.set_append_right _ _ (by rw [List.length_map, List.length_take]; omega), List.length_map, List.length_take, Nat.min_eq_left (by omega), Nat.sub_self, List.drop_eq_getElem_cons hj, List.set_cons_zero, List.take_succ_eq_append_getElem hj, List.map_append, List.append_assoc]
  rfl
theorem mixC_all (l : List Int) (L0 : List En) : mixC l L0 L0.length = L0.map (updC l) := by simp [mixC]
theorem ecells_set1 {l : List En} {k : Nat} {e : En} (n : Int) (h : l[k]? = some e) : (ecells l).set (k * 2 + 1) (.int .i64 n) = ecells (l.set k (e.1, n)) := by
  obtain ⟨hs, hl⟩ := ecells_split h
  have hk := (List.getElem?_eq_some_iff.1 h).1
  have h2 : (l.set k (e.1, n))[k]? = some (e.1, n) := by rw [List.getElem?_set_self hk]
  obtain ⟨hs2, hl2⟩ := ecells_split h2
  rw [hs, hs2, List.take_set_of_le (Nat.le_refl _), List.drop_set_of_lt (by omega)]
  rw [List.set_append_right _ _ (by omega), hl, show k * 2 + 1 - k * 2 = 1 by omega]
  rfl
def Fo.power (s : Fo) (ops : Int) (keep : List Bool) : Fo := { s.failN ops with fs := failT s.fs ((manyC s.fs).map (updC ((s.d.fail ops).now.map Prod.snd))) keep }
section
variable {w0 w w' W : World} {Y Y' X : Nat → Prop} {F N M B R L : Nat} {s s' : Fo} {b : Nat} {l : List Int} {z : Int}
theorem OwnEn.form2 {e : TypeId} {base n cap j : Nat} {w : World} {A : Option Addr} {xs : List En} (h : OwnEn e base w (.slice A n cap) xs) (hj : j < xs.length) : ∃ g, A = some ⟨g, 0, none⟩ ∧ base ≤ g ∧ n = xs.length ∧ n ≤ cap ∧ g < w.heap.size ∧ ∀ i, w.frozen? ⟨g, i, none⟩ = false := by
  rcases h.form with ⟨e1, e2⟩ | ⟨g, cap', rest, e1, hb, hr, hc, _⟩
  · rw [e2] at hj; simp at hj
  · injection e1 with e1 e2 e3
    subst e1 e2 e3
    exact ⟨g, rfl, hb, rfl, hc, hr.lt, fun i => d_frozen hr⟩
theorem FitE.upd {l : List Int} {L0 : List En} (h : FitE L0) (hl : l.length ≤ 1000) : FitE (L0.map (updC l)) := by
  intro x hx
  obtain ⟨y, hy, rfl⟩ := List.mem_map.1 hx
  have := h y hy
  have hc : l.count y.1 ≤ 1000 := Nat.le_trans List.count_le_length hl
  refine ⟨this.1, ?_⟩
  show -9223372036854775808 ≤ ((l.count y.1 : Nat) : Int) ∧ ((l.count y.1 : Nat) : Int) ≤ 9223372036854775807
  omega
theorem FS.fit (h : FS w0 Y F s N w) (hN : N ≤ 900) : FitE (manyC s.fs) := by
  intro x hx
  obtain ⟨f, hf, rfl⟩ := List.mem_map.1 hx
  have h1 := (h.ok.t ⟨.map none, .map none, .map none, .map none, .map none⟩ none)
  have h2 := h1.num f hf
  have h3 := h1.many f hf
  have h4 : s.made ≤ N := h1.made
  have h5 : 1 ≤ f.i ∧ f.i ≤ (s.made : Int) := h2
  exact ⟨by show _ ≤ f.i ∧ f.i ≤ _; omega, h3⟩
set_option maxHeartbeats 4000000 in
set_option maxRecDepth 100000 in
theorem fpower_any (h : FS w0 Y F s N w) (hN : N ≤ 900) (ops : Int) (hk1 : -9223372036854775808 ≤ ops) (hk2 : ops ≤ 9223372036854775807) {Ak : Option Addr} {nk ck : Nat} {keep : List Bool} (hk : KeX w (Fr w0 Y) Ak keep) (hnk : keep.length = nk) (hkc : nk ≤ ck) (hkl : nk ≤ 1000) :
    Calls Tryz.prog 10 #[.pointer (some ⟨F, 0, none⟩), .int .i64 ops, .slice Ak nk ck] w fun e w' => e = .returned (.tuple #[]) ∧ FS w0 Y F (s.power ops keep) N w' ∧ Touch (Fr w0 Y) w w' := by
  have hf := Lib.hid (h.nfail hN ops hk1 hk2)
  have hfit := Lib.hid (h.fit hN)
  have Hk := Lib.hid hk
  have Hnk := Lib.hid hnk
  have Hkc := Lib.hid hkc
  have hcl : Hid (((s.d.fail ops).now.map Prod.snd).length ≤ 1000) := by show _ ≤ _; rw [List.length_map]; exact Nat.le_trans (h.ok.d.fail ops).now.1 (by omega)
  have hfl : Hid (s.fs.length ≤ 900) := Nat.le_trans (h.ok.t ⟨.map none, .map none, .map none, .map none, .map none⟩ none).len hN
  clear h hk hk1 hk2 hnk
  go_enter Tryz.func10, Tryz.ntmps10
  go_upto_region 2 with (first | (go_at_call 27; refine hf.out.mono ?_; rintro e w1 ⟨b, rfl, hcn, hf1, ht1⟩; have Hcn := Lib.hid hcn; have Hf1 := Lib.hid hf1; have Ht1 := Lib.hid ht1; clear hcn hf1 ht1; have hall := Lib.hid (Hf1.out.tall hN)))
  go_upto_region 3 with (first | (go_at_call 28; refine hall.out.mono ?_; rintro e w2 ⟨u, rfl, ho, hb2⟩; obtain ⟨A, cap, rfl, hcap, hcm, _⟩ := own_form ho; have Ho := Lib.hid ho; have Hb2 := Lib.hid hb2; clear ho hb2 hcm))
  obtain ⟨L0, hL0⟩ : ∃ L0, Hid (manyC s.fs = L0) := ⟨_, rfl⟩
  obtain ⟨cl, hcle⟩ : ∃ cl, Hid ((s.d.fail ops).now.map Prod.snd = cl) := ⟨_, rfl⟩
  have hL1 : Hid (L0.length ≤ 900) := by rw [← hL0.out]; show (s.fs.map _).length ≤ _; rw [List.length_map]; exact hfl.out
  have hLm : Hid ((manyC (s.failN ops).fs) = L0) := hL0.out
  rw [hLm.out] at Ho hcap ⊢
  obtain ⟨len, hln⟩ : ∃ l, Hid (L0.length = l) := ⟨_, rfl⟩
  have hlenI : (len : Int) ≤ 900 := by have := hL1.out; have := hln.out; omega
  rw [hln.out] at hcap ⊢
  rw [hL0.out] at hfit
  rw [hcle.out] at hcl Hcn
  have Hcap := Lib.hid hcap
  have Ho1 : Hid (OwnEn 91 w1.heap.size w2 (.slice A len cap) (mixC cl L0 0)) := by
    have := Ho.out
    have e0 : mixC cl L0 0 = L0 := by simp [mixC]
    rw [e0]
    unfold OwnEn at this
    rw [hln.out] at this
    show OwnEn _ _ _ _ _
    unfold OwnEn
    rw [hln.out]
    exact this
  have hcn2 : Hid (CntM w2 b cl) := Hcn.out.keep (Touch.of (X := fun _ => False) Hb2.out) fun e => e
  have hblt : Hid (b < w1.heap.size) := Hcn.out.lt
  clear hcap hkc
  go_wp2
  go_loopw [22] (fun i wr => ∃ (j : Nat), j ≤ len ∧ i = .int .i64 (j : Int) ∧ Hid (OwnEn 91 w1.heap.size wr (.slice A len cap) (mixC cl L0 j)) ∧ Hid (Touch (fun k => (Value.slice A len cap).ownBlock = some k) w2 wr)) (fun i _ => len - (intOf i).toNat)
  case atStart => exact ⟨0, by omega, rfl, Ho1.out, Touch.refl _ _⟩
  case round =>
    obtain ⟨j, hj, rfl, hrow, htr⟩ := hrel
    by_cases hlt : j < len
    · obtain ⟨g, rfl, hg0, hgn, hgc, hgl, hfz⟩ := hrow.out.form2 (j := j) (by rw [mixC_len, hln.out]; exact hlt)
      have hjl : j < L0.length := by rw [hln.out]; exact hlt
      have hget := mixC_get (l := cl) hjl
      obtain ⟨h0, h1⟩ := ecells_get hget
      have d0 : wr.cell? ⟨g, j * 2, none⟩ = some (.int .i64 L0[j].1) := by have := hrow.out.cells (g := g) rfl _ _ h0; rwa [lit_add, Nat.zero_add] at this
      obtain ⟨z, hz⟩ : ∃ z, Hid (L0[j].1 = z) := ⟨L0[j].1, Lib.hid rfl⟩
      have d1 : wr.cell? ⟨g, j * 2 + 1, none⟩ = some (.int .i64 L0[j].2) := by have := hrow.out.cells (g := g) rfl _ _ h1; rwa [lit_add, Nat.zero_add] at this
      have hzb := (hfit.out _ (List.getElem_mem hjl)).1
      rw [hz.out] at d0 hzb
      have hcr : CntM wr b cl := hcn2.out.keep htr.out fun e => by
        have e' : some g = some b := e
        injection e' with e'
        have := hblt.out
        omega
      have hlk := hcr.look hzb
      obtain ⟨q, hq⟩ : ∃ q : Nat, Hid (List.count z cl = q) := ⟨_, rfl⟩
      rw [hq.out] at hlk
      have Hfin : Hid (OwnEn 91 w1.heap.size (wr.setCell ⟨g, j * 2 + 1, none⟩ (.int .i64 (q : Int))) (.slice (some ⟨g, 0, none⟩) len cap) (mixC cl L0 (j + 1))) := by
        have hrow' := hrow.out
        unfold OwnEn at hrow'
        rw [mixC_len, hln.out] at hrow'
        have h3 := (World.ownsRow.stored hrow' (j * 2 + 1) (.int .i64 (q : Int))).1
        rw [ecells_set1 _ hget] at h3
        have e5 : ((L0[j]).1, (q : Int)) = updC cl L0[j] := by unfold updC; rw [hz.out, hq.out]
        rw [e5, mixC_set hjl] at h3
        show OwnEn _ _ _ _ _
        unfold OwnEn
        rw [mixC_len, hln.out]
        exact h3
      have Hj := Lib.hid hjl
      clear hrow hget h0 h1 hcr hzb hgn hgc
      go_wp2
      go_roundw
      case rel => exact ⟨j + 1, by omega, by go_num, Hfin.out, htr.out.trans ((Touch.cell1 _ g _ _).mono fun k _ e => by rw [e]; rfl)⟩
      case measure => simp [intOf]; omega
    · obtain rfl : j = len := by omega
      have hY2 : Hid (FS w0 (fun k => (Y k ∨ k = b) ∨ (Value.slice A j cap).ownBlock = some k) F (s.failN ops) N w2) := Hf1.out.more Hb2.out fun k hk => hk.imp id fun e => Ho1.out.lt k e
      have hwr := Lib.hid (hY2.out.write (htr.out.mono fun k _ e => .inr e))
      have hTr : Hid (Touch (Fr w0 Y) w wr) := (Ht1.out.trans (.of Hb2.out)).then_ htr.out fun k hk e => by
        have h1 := (Ho1.out.lt k e).1
        have h2 := Ht1.out.size
        omega
      have hrow' := hrow.out
      rw [← hln.out, mixC_all] at hrow'
      obtain ⟨A2, c2, e2, _, _, hrd⟩ := own_form hrow'
      injection e2 with e2 e3 e4
      clear e3 e4
      subst e2
      have htf := Lib.hid (hwr.out.tfail (A := A) (cap := cap) (nn := j) (Xn := fun _ => False) hN (RdX.of hrd (Nat.le_refl _) fun _ _ h => h) (by rw [List.length_map, hln.out]) (by have := hL1.out; have := hln.out; omega) (hfit.out.upd hcl.out) ((Hk.out.keep hTr.out).mono fun k _ e => Fr.weak (fun _ e => .inl (.inl e)) e) Hnk.out Hkc.out hkl)
      clear hrow' hrd
      go_wp2_with (first | (go_at_call 29; refine htf.out.mono ?_; rintro e w9 ⟨rfl, hf9, ht9⟩; have Hf9 := Lib.hid hf9; have Ht9 := Lib.hid ht9; clear hf9 ht9))
      go_end0
      refine ⟨rfl, ?_, hTr.out.trans (Ht9.out.mono fun k _ e => Fr.weak (fun _ e => .inl (.inl e)) e)⟩
      have h10 := Hf9.out.weak (Y := Y) fun k hk => .inl (.inl hk)
      unfold Fo.power
      rw [hL0.out, hcle.out]
      exact h10
end
end Go.Proofs.YtbhmnmmockmibaaGreat

namespace Go.Proofs.YtbhmnmmockmibaaGreat
open Go.RowKit Go.Maps
structure Fv where
  n : List UInt8
  A : Option Addr
  c : Nat
  l : List UInt8
def Fv.cs (e : Fv) : List Value := [.string (txt e.n), .slice e.A e.l.length e.c]
def Fv.r (e : Fv) : Value := .slice e.A e.l.length e.c
def Fv.say (e : Fv) : List UInt8 × List UInt8 := (e.n, e.l)
def flcells (l : List Fv) : List Value := l.flatMap Fv.cs
theorem flcells_len (l : List Fv) : (flcells l).length = l.length * 2 := by
  induction l with
  | nil => rfl
  | cons f l ih =>
    unfold flcells at ih ⊢
    rw [List.flatMap_cons, List.length_append, ih, List.length_cons]
    simp [Fv.cs]
    omega
theorem flcells_append (a b : List Fv) : flcells (a ++ b) = flcells a ++ flcells b := by simp [flcells]
theorem flcells_split {l : List Fv} {k : Nat} {e : Fv} (h : l[k]? = some e) : flcells l = flcells (l.take k) ++ (Fv.cs e ++ flcells (l.drop (k + 1))) ∧ (flcells (l.take k)).length = k * 2 := by
  obtain ⟨hk, e'⟩ := List.getElem?_eq_some_iff.1 h
  constructor
  · conv => lhs; rw [← List.take_append_drop k l, List.drop_eq_getElem_cons hk, e']
    rw [flcells_append]
    rfl
  · rw [flcells_len, List.length_take]
    congr 1
    omega
theorem flcells_get {l : List Fv} {k : Nat} {e : Fv} (h : l[k]? = some e) : (flcells l)[k * 2]? = some (.string (txt e.n)) ∧ (flcells l)[k * 2 + 1]? = some (.slice e.A e.l.length e.c) := by
  obtain ⟨hs, hl⟩ := flcells_split h
  rw [hs]
  constructor
  · rw [List.getElem?_append_right (by omega), hl, Nat.sub_self]; rfl
  · rw [List.getElem?_append_right (by omega), hl, show k * 2 + 1 - k * 2 = 1 by omega]; rfl
theorem flcells_one (l : List Fv) : ∀ u ∈ flcells l, u.oneCell' = true := by
  intro u hu
  unfold flcells at hu
  rw [List.mem_flatMap] at hu
  obtain ⟨p, _, hu⟩ := hu
  simp only [Fv.cs, List.mem_cons, List.not_mem_nil, or_false] at hu
  rcases hu with rfl | rfl <;> rfl
structure FlX (w : World) (X : Nat → Prop) (A : Option Addr) (es : List Fv) : Prop where
  top : RdX w X 2 A es.length (flcells es)
  file : ∀ e ∈ es, RdX w X 1 e.A e.l.length (bs e.l)
section
variable {w w' : World} {X Y : Nat → Prop} {A : Option Addr} {es : List Fv}
theorem FlX.keep (h : FlX w X A es) (ht : Touch X w w') : FlX w' X A es := ⟨h.top.keep ht, fun p hp => (h.file p hp).keep ht⟩
theorem FlX.below (h : FlX w X A es) (ht : Below w.heap.size w w') : FlX w' X A es := h.keep (.of ht)
theorem FlX.mono (h : FlX w X A es) (hx : ∀ b, b < w.heap.size → Y b → X b) : FlX w Y A es := ⟨h.top.mono hx, fun p hp => (h.file p hp).mono hx⟩
theorem FlX.at_ {k : Nat} (h : FlX w X A es) (hk : k < es.length) :
    ∃ (ad : Addr) (e : Fv), A = some ad ∧ ad.block < w.heap.size ∧ ¬ X ad.block ∧ w.cell? (ad.add (k * 2)) = some (.string (txt e.n)) ∧ w.cell? ⟨(ad.add (k * 2)).block, (ad.add (k * 2)).off + 1, none⟩ = some (.slice e.A e.l.length e.c) ∧ Hid (es[k]? = some e) ∧ RdX w X 1 e.A e.l.length (bs e.l) := by
  obtain ⟨ad, e, hb, hx, hc⟩ := h.top.2 (by omega)
  have hr : es[k]? = some es[k] := List.getElem?_eq_getElem hk
  obtain ⟨h0, h1⟩ := flcells_get hr
  exact ⟨ad, _, e, hb, hx, hc _ _ h0, by rw [← padd_next]; exact hc _ _ h1, hr, h.file _ (List.getElem_mem hk)⟩
end
structure FlO (ty : TypeId) (base : Nat) (w : World) (v : Value) (es : List Fv) : Prop where
  head : w.ownsRow base ty 2 v es.length (flcells es)
  row : ∀ e ∈ es, w.ownsRow base 5 1 e.r e.l.length (bs e.l)
  apart : ∀ e ∈ es, ∀ b, e.r.ownBlock = some b → v.ownBlock ≠ some b
  dist : es.Pairwise fun a b => ∀ k, a.r.ownBlock = some k → b.r.ownBlock ≠ some k
section
variable {ty : TypeId} {base : Nat} {w w' : World} {X : Nat → Prop} {v : Value} {es : List Fv}
theorem FlO.nil (ty : TypeId) (base : Nat) (w : World) : FlO ty base w (.slice none 0 0) [] := ⟨World.ownsRow_nil _ _ _ _, by simp, by simp, List.Pairwise.nil⟩
theorem FlO.keep (h : FlO ty base w v es) (ht : Touch X w w') (hx : ∀ b, base ≤ b → ¬ X b) : FlO ty base w' v es :=
  ⟨own_touch h.head ht fun b hb => hx b (h.head.lt b hb).1, fun e he => own_touch (h.row e he) ht fun b hb => hx b ((h.row e he).lt b hb).1, h.apart, h.dist⟩
theorem FlO.below (h : FlO ty base w v es) (hb : Below w.heap.size w w') : FlO ty base w' v es := h.keep (Touch.of (X := fun _ => False) hb) fun _ _ e => e
theorem FlO.base_ {base' : Nat} (h : FlO ty base w v es) (hb : base' ≤ base) : FlO ty base' w v es := ⟨own_base h.head hb, fun e he => own_base (h.row e he) hb, h.apart, h.dist⟩
theorem FlO.reads {A : Option Addr} {n c : Nat} (h : FlO ty base w (.slice A n c) es) (hX : ∀ b, X b → b < base) : n = es.length ∧ FlX w X A es := by
  obtain ⟨A', c', e, _, _, _⟩ := own_form h.head
  injection e with e1 e2 e3
  subst e1 e2
  exact ⟨rfl, own_avoid h.head hX, fun e he => own_avoid (h.row e he) hX⟩
def FlSl (t e : TypeId) : Prop := Tryz.prog.underlying t = some (.slice e) ∧ (Tryz.prog.info? e).map (fun i => (i.zero, i.size, i.bytes)) = some (some (.agg #[.string ByteArray.empty, .slice none 0 0]), 2, 40)
theorem flSl1 : FlSl 60 63 := ⟨Tryz.underlying60, by kernel_rfl⟩
theorem flSl2 : FlSl 71 70 := ⟨Tryz.underlying71, by kernel_rfl⟩
end
section
variable {ops : Array Oper} {rest : List Oper} {o : Oper} {a : Act} {Q : Exit → Act → World → Prop} {w : World} {base : Nat} {v : Value}
theorem push_fl {t e : TypeId} (ht : FlSl t e) {N n k c : Nat} {A : Option Addr} (s x : Operand) {own : List Fv} (f : Fv) (hfA : f.A = A) (hfk : f.l.length = k) (hfc : f.c = c) (hlen : own.length = n) (hown : FlO e base w v own) (hrow : w.ownsRow base 5 1 f.r f.l.length (bs f.l)) (hap : ∀ b, f.r.ownBlock = some b → v.ownBlock ≠ some b ∧ ∀ q ∈ own, q.r.ownBlock ≠ some b)
    (hbase : base ≤ w.heap.size) (hl : n ≤ 100000) (hgd : o.guard = none) (ho : o.op = .call { callee := .builtin .append, args := #[s, x], argTypes := #[t, t] })
    (hs : a.eval s = v) (hx : a.eval x = .slice (some ⟨N, 0, none⟩) 1 1) (hN : w.heap.size = N)
    (h : ∀ v' w', FlO e base w' v' (own ++ [f]) → Below base w w' → wpList Tryz.prog ops Q rest (a.put o.dst v') w') :
    wpList Tryz.prog ops Q (o :: rest) a (w.alloc (.cells #[.string (txt f.n), .slice A k c] e)) := by
  subst hN hlen hfA hfk hfc
  obtain ⟨hu, hi⟩ := ht
  obtain ⟨i0, hi0, hz0, hz1, hz2⟩ := info_parts hi
  have hnew : Reads (w.alloc (.cells (flcells [f]).toArray e)) (w.heap.size + 1) 2 (some ⟨w.heap.size, 0, none⟩) 1 (flcells [f]) := by
    refine ⟨flcells_len [f], fun _ => ⟨_, rfl, by simp, fun j u hu => ?_⟩⟩
    rw [lit_add, Nat.zero_add, cell_of_row (w.alloc (.cells (flcells [f]).toArray e)) w.heap.size j (flcells [f]).toArray e (0, 0) (heap_alloc_new w _)]
    simpa using hu
  refine wpList_append_any _ hgd s x t ho base e i0 _ 2 40 hu hi0 hz0 hz1 hz2 rfl (by omega) v _ _ hs (hown.head.alloc _) (w.heap.size + 1) _ 1 1 (flcells [f]) hx hnew (flcells_one _) (by simp only [maxLen]; omega) (by omega) (by simp; omega) ?_
  intro v1 w1 h1 h2 h3
  have hb := ((Below.refl base w).alloc hbase _).trans (grown_below (hown.head.alloc (.cells (flcells [f]).toArray e)) h2 (by simp; omega))
  have hT : Touch (fun b => v.ownBlock = some b) w w1 := (Touch.of (below_new w (.cells (flcells [f]).toArray e))).trans (Touch.grown h2 fun k e => e)
  have hv1 : ∀ b, b < w.heap.size → v.ownBlock ≠ some b → v1.ownBlock ≠ some b := fun b hb hne e => by
    rcases h3 with h4 | h4
    · exact hne (h4 ▸ e)
    · rw [h4] at e
      injection e with e
      simp at e
      omega
  refine h v1 w1 ⟨?_, fun q hq => ?_, fun q hq b hb => ?_, ?_⟩ hb
  · rw [flcells_append, List.length_append]
    exact h1
  · rcases List.mem_append.1 hq with hq | hq
    · exact own_touch (hown.row q hq) hT fun b hb e => hown.apart q hq b hb e
    · rw [List.mem_singleton] at hq; subst hq
      exact own_touch hrow hT fun b hb e => (hap b hb).1 e
  · rcases List.mem_append.1 hq with hq | hq
    · exact hv1 b ((hown.row q hq).lt b hb).2 (hown.apart q hq b hb)
    · rw [List.mem_singleton] at hq; subst hq
      exact hv1 b (hrow.lt b hb).2 (hap b hb).1
  · rw [List.pairwise_append]
    refine ⟨hown.dist, by simp, fun q hq r hr k hk e => ?_⟩
    rw [List.mem_singleton] at hr; subst hr
    exact (hap k e).2 q hq hk
end
def Fo.files (s : Fo) : List (List UInt8 × List UInt8) := s.d.now.map fun e => (e.1, (bytesF s.fs e.2).1)
section
variable {w0 w w' W : World} {Y Y' X : Nat → Prop} {F N M B R L : Nat} {s s' : Fo}
theorem files_snoc {fs : List Fi} {m : List EnD} {j : Nat} {e : EnD} (h : m[j]? = some e) : (m.take (j + 1)).map (fun e => (e.1, (bytesF fs e.2).1)) = (m.take j).map (fun e => (e.1, (bytesF fs e.2).1)) ++ [(e.1, (bytesF fs e.2).1)] := by
  obtain ⟨hj, e'⟩ := List.getElem?_eq_some_iff.1 h
  rw [List.take_succ_eq_append_getElem hj, List.map_append, e']
  rfl
set_option maxHeartbeats 4000000 in
set_option maxRecDepth 100000 in
theorem ffiles_any (h : FS w0 Y F s N w) (hN : N ≤ 900) :
    Calls Tryz.prog 18 #[.pointer (some ⟨F, 0, none⟩)] w fun e w' => ∃ v es, e = .returned v ∧ FlO 63 w.heap.size w' v es ∧ es.map Fv.say = s.files ∧ Below w.heap.size w w' := by
  have hl := Lib.hid (h.dlist hN)
  have H := Lib.hid h
  have hlen : Hid (s.d.now.length ≤ 900) := Nat.le_trans h.ok.d.now.1 hN
  have hmv : Hid (∀ e ∈ s.d.now, -9223372036854775808 ≤ e.2 ∧ e.2 ≤ 9223372036854775807) := fun e he => (h.ok.d.now.2 e he).v
  unfold Fo.files
  obtain ⟨m, hm⟩ : ∃ m, Hid (s.d.now = m) := ⟨_, rfl⟩
  rw [hm.out] at hl hlen hmv ⊢
  obtain ⟨len, hln⟩ : ∃ l, Hid (m.length = l) := ⟨_, rfl⟩
  have hlenI : (len : Int) ≤ 900 := by have := hlen.out; have := hln.out; omega
  clear h
  go_enter Tryz.func18, Tryz.ntmps18
  go_wp2_with (first | (go_at_call 55; refine hl.out.mono ?_; rintro e w1 ⟨u, rfl, ho, hb1⟩; obtain ⟨A, cap, rfl, hcap, hcm, hrd⟩ := own_form ho; have Ho := Lib.hid ho; have Hrd := Lib.hid hrd; have Hb1 := Lib.hid hb1; clear ho hrd hb1; rw [hln.out]; rw [hln.out] at hcap))
  clear hcap hcm
  go_loopw [3, 16] (fun r i wr => ∃ (j : Nat) (es : List Fv), j ≤ len ∧ i = .int .i64 (j : Int) ∧ FlO 63 w1.heap.size wr r es ∧ Hid (es.map Fv.say = (m.take j).map fun e => (e.1, (bytesF s.fs e.2).1)) ∧ Hid (Below w1.heap.size w1 wr)) (fun _ i _ => len - (intOf i).toNat)
  case atStart => exact ⟨0, [], by omega, rfl, FlO.nil _ _ _, Lib.hid rfl, .refl _ _⟩
  case round =>
    obtain ⟨j, es, hj, rfl, hrow, hsay, hB1⟩ := hrel
    have Hrow := Lib.hid hrow
    clear hrow
    by_cases hlt : j < len
    · obtain ⟨ad, e, rfl, _, _, d0, d1, hx⟩ := EnXD.at_ (X := fun _ => False) ((RdX.of Hrd.out (Nat.le_refl _) fun _ _ h => h).below hB1.out) (k := j) (by rw [hln.out]; exact hlt)
      have Hx := Lib.hid hx.out
      clear hx
      obtain ⟨ek, ez⟩ := e
      obtain ⟨Wa, hWa⟩ : ∃ Wa, Hid (wr.alloc (.cells #[.string (txt ek), .int .i64 ez] 120) = Wa) := ⟨_, rfl⟩
      obtain ⟨g, hg⟩ : ∃ g, Hid (wr.heap.size = g) := ⟨_, rfl⟩
      have hga : Hid (Wa.heap[g]? = some (.cells #[.string (txt ek), .int .i64 ez] 120 (0, 0))) := by rw [← hWa.out, ← hg.out]; exact heap_alloc_new wr _
      obtain ⟨e0, e1⟩ := two_cells hga.out
      have hba : Hid (Below wr.heap.size wr Wa) := by rw [← hWa.out]; exact below_new _ _
      have hzb := Lib.hid (hmv.out _ (List.mem_of_getElem? Hx.out))
      have hwa : Hid (Below w.heap.size w Wa) := (Hb1.out.trans (hB1.out.mono Hb1.out.size)).trans (hba.out.mono (Nat.le_trans Hb1.out.size hB1.out.size))
      have hby := Lib.hid (((H.out.quiet (hwa.out.trans ((Below.refl _ Wa).drew.mono hwa.out.size))).1).tbytes hN (z := ez) hzb.out)
      obtain ⟨bl, hbl⟩ : ∃ bl, Hid ((bytesF s.fs ez).1 = bl) := ⟨_, rfl⟩
      obtain ⟨be, hbe⟩ : ∃ be, Hid ((bytesF s.fs ez).2 = be) := ⟨_, rfl⟩
      obtain ⟨nb, hnb⟩ : ∃ nb, Hid (bl.length = nb) := ⟨_, rfl⟩
      rw [hbl.out, hbe.out] at hby
      go_upto_region 7 with fail
      rw [hWa.out, hg.out]
      go_region_held3 (fun wx => wx.cell? ⟨g, 1, none⟩ = some (.int .i64 ez)) (first | exact e1 | exact f1) (first | (go_at_call 56; refine hby.out.mono ?_; rintro e w5 ⟨u5, rfl, ho5, hb5⟩; obtain ⟨A5, c5, rfl, _, _, _⟩ := own_form ho5; rw [hnb.out]; have Ho5 := Lib.hid ho5; have Hb5 := Lib.hid (((Below.refl Wa.heap.size Wa).drew).trans hb5); have f1 := (Hb5.out.cell (p := ⟨g, 1, none⟩) (Array.getElem?_eq_some_iff.1 hga.out).1).trans e1; clear ho5 hb5))
      have f0 := (Hb5.out.cell (p := ⟨g, 0, none⟩) (Array.getElem?_eq_some_iff.1 hga.out).1).trans e0
      have hb15 : Hid (Below w1.heap.size w1 w5) := hB1.out.trans ((hba.out.trans (Hb5.out.mono hba.out.size)).mono hB1.out.size)
      have hrow5 := Lib.hid (Hrow.out.below (hba.out.trans (Hb5.out.mono hba.out.size)))
      have hel : es.length ≤ 900 := by
        have := congrArg List.length hsay.out
        rw [List.length_map, List.length_map, List.length_take] at this
        have := hlen.out
        omega
      have hap : Hid (∀ b, (⟨ek, A5, c5, bl⟩ : Fv).r.ownBlock = some b → Wa.heap.size ≤ b) := fun b hb => (Ho5.out.lt b hb).1
      have hap2 : Hid (∀ (v : Value), FlO 63 w1.heap.size wr v es → ∀ b, (⟨ek, A5, c5, bl⟩ : Fv).r.ownBlock = some b → v.ownBlock ≠ some b ∧ ∀ q ∈ es, q.r.ownBlock ≠ some b) := by
        intro v hv b hb
        have h1 := hap.out b hb
        have h2 := hba.out.size
        refine ⟨fun e => ?_, fun q hq e => ?_⟩
        · have := (hv.head.lt b e).2
          omega
        · have := ((hv.row q hq).lt b e).2
          omega
      have hro : Hid (w5.ownsRow w1.heap.size 5 1 (⟨ek, A5, c5, bl⟩ : Fv).r bl.length (bs bl)) := own_base Ho5.out (Nat.le_trans hB1.out.size hba.out.size)
      go_wp2_with (at_builtin; refine push_fl flSl1 (.tmp 29) (.tmp 34) ⟨ek, A5, c5, bl⟩ rfl hnb.out rfl rfl hrow5.out hro.out (hap2.out _ Hrow.out) hb15.out.size (by omega) rfl rfl rfl rfl rfl ?_; intro v' w6 hown' hb6; go_frame)
      go_roundw
      case rel => exact ⟨j + 1, es ++ [⟨ek, A5, c5, bl⟩], by omega, by go_num, hown', by show _ = _; rw [List.map_append, hsay.out, files_snoc Hx.out]; simp [Fv.say, hbl.out], hb15.out.trans hb6⟩
      case measure => simp [intOf]; omega
    · obtain rfl : j = len := by omega
      have hfull : m.take j = m := by rw [← hln.out, List.take_length]
      rw [hfull] at hsay
      have Hfin := Lib.hid (Hrow.out.base_ Hb1.out.size)
      go_wp2
      go_ret
      exact ⟨_, es, rfl, Hfin.out, hsay.out, Hb1.out.trans (hB1.out.mono Hb1.out.size)⟩
end
end Go.Proofs.YtbhmnmmockmibaaGreat
