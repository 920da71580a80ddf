/- The walks of leave, Drop, Append; what is answered where there is no file, or no table. Conditions: at most 1000 files, of at most 1000 parts of 60 bytes. The walks of New and Make. Conditions: at most 1000 files. -/
import Derived.Test.YtbhmnmmockmibaaGreatKpFtD
import Derived.Deep.RegionHeld3
namespace Go.Proofs.YtbhmnmmockmibaaGreat
open Go.RowKit Go.Maps
section
variable {w : World} {Z : Nat → Prop} {t N : Nat} {T : Tb}
theorem find_nil (z : Int) (w : World) : Calls Tryz.prog 91 #[.pointer none, .int .i64 z] w fun e w' => e = .returned (.tuple #[.pointer none, .int .i64 1]) ∧ w' = w := by
  go_enter Tryz.func91, Tryz.ntmps91
  go_wp2
  go_ret2
  exact ⟨rfl, rfl⟩
theorem sync_none (h : TabAt w Z t T) {z : Int} (hz : -9223372036854775808 ≤ z ∧ z ≤ 9223372036854775807) (hf : findF T.fs z = none) : Calls Tryz.prog 74 #[.pointer (some ⟨t, 5, none⟩), .int .i64 z] w fun e w' => e = .returned (.int .i64 80) ∧ w' = w := by
  have Hc := Lib.hid (find_none h hz hf)
  clear h
  go_enter Tryz.func74, Tryz.ntmps74
  go_wp2_with (go_at_call 91; refine Hc.out.mono ?_; rintro e w1 ⟨rfl, rfl⟩)
  go_ret
  exact ⟨rfl, rfl⟩
theorem link_none (h : TabAt w Z t T) {z : Int} (hz : -9223372036854775808 ≤ z ∧ z ≤ 9223372036854775807) (hf : findF T.fs z = none) : Calls Tryz.prog 104 #[.pointer (some ⟨t, 5, none⟩), .int .i64 z] w fun e w' => e = .returned (.int .i64 80) ∧ w' = w := by
  have Hc := Lib.hid (find_none h hz hf)
  clear h
  go_enter Tryz.func104, Tryz.ntmps104
  go_wp2_with (go_at_call 91; refine Hc.out.mono ?_; rintro e w1 ⟨rfl, rfl⟩)
  go_ret
  exact ⟨rfl, rfl⟩
theorem drop_none (h : TabAt w Z t T) {z : Int} (hz : -9223372036854775808 ≤ z ∧ z ≤ 9223372036854775807) (hf : findF T.fs z = none) : Calls Tryz.prog 76 #[.pointer (some ⟨t, 5, none⟩), .int .i64 z] w fun e w' => e = .returned (.int .i64 80) ∧ w' = w := by
  have Hc := Lib.hid (find_none h hz hf)
  clear h
  go_enter Tryz.func76, Tryz.ntmps76
  go_wp2_with (go_at_call 91; refine Hc.out.mono ?_; rintro e w1 ⟨rfl, rfl⟩)
  go_ret
  exact ⟨rfl, rfl⟩
theorem drop_nil (z : Int) (w : World) : Calls Tryz.prog 76 #[.pointer none, .int .i64 z] w fun e w' => e = .returned (.int .i64 1) ∧ w' = w := by
  have Hc := Lib.hid (find_nil z w)
  go_enter Tryz.func76, Tryz.ntmps76
  go_wp2_with (go_at_call 91; refine Hc.out.mono ?_; rintro e w1 ⟨rfl, rfl⟩)
  go_ret
  exact ⟨rfl, rfl⟩
theorem append_none {Ab : Option Addr} {nb cb : Nat} (h : TabAt w Z t T) {z : Int} (hz : -9223372036854775808 ≤ z ∧ z ≤ 9223372036854775807) (hf : findF T.fs z = none) : Calls Tryz.prog 73 #[.pointer (some ⟨t, 5, none⟩), .int .i64 z, .slice Ab nb cb] w fun e w' => e = .returned (.int .i64 80) ∧ w' = w := by
  have Hc := Lib.hid (find_none h hz hf)
  clear h
  go_enter Tryz.func73, Tryz.ntmps73
  go_wp2_with (go_at_call 91; refine Hc.out.mono ?_; rintro e w1 ⟨rfl, rfl⟩)
  go_ret
  exact ⟨rfl, rfl⟩
theorem append_nil {Ab : Option Addr} {nb cb : Nat} (z : Int) (w : World) : Calls Tryz.prog 73 #[.pointer none, .int .i64 z, .slice Ab nb cb] w fun e w' => e = .returned (.int .i64 1) ∧ w' = w := by
  have Hc := Lib.hid (find_nil z w)
  go_enter Tryz.func73, Tryz.ntmps73
  go_wp2_with (go_at_call 91; refine Hc.out.mono ?_; rintro e w1 ⟨rfl, rfl⟩)
  go_ret
  exact ⟨rfl, rfl⟩
theorem bytes_none (h : TabAt w Z t T) {z : Int} (hz : -9223372036854775808 ≤ z ∧ z ≤ 9223372036854775807) (hf : findF T.fs z = none) : Calls Tryz.prog 56 #[.pointer (some ⟨t, 5, none⟩), .int .i64 z] w fun e w' => e = .returned (.tuple #[.slice none 0 0, .int .i64 80]) ∧ w' = w := by
  have Hc := Lib.hid (find_none h hz hf)
  clear h
  go_enter Tryz.func56, Tryz.ntmps56
  go_wp2_with (go_at_call 91; refine Hc.out.mono ?_; rintro e w1 ⟨rfl, rfl⟩)
  go_ret2
  exact ⟨rfl, rfl⟩
def leaveF (fs : List Fi) (z n : Int) : List Fi := if n < 1 then delF fs z else fs
theorem TabAt.del (h : TabAt w Z t T) {b : Nat} (hb : T.mp = some b) {z : Int} {w' : World} (hm : w'.ownsMap Tryz.prog 3 RF b T.fs.length ((datum T.fs).del (.int .i64 z))) (ht : Touch (fun k => k = b) w w') : TabAt w' Z t { T with fs := delF T.fs z } := by
  obtain ⟨es, clock, hbb, _⟩ := h.map b hb
  have hne : ∀ r cs ty fr, w.heap[r]? = some (.cells cs ty fr) → ¬ r = b := fun r cs ty fr hr e => by rw [e, hbb] at hr; cases hr
  have hX : ∀ k, ({ T with fs := delF T.fs z } : Tb).X t k → T.X t k := fun k hk => by
    rcases hk with e | e | ⟨f, hf, e⟩
    · exact .inl e
    · exact .inr (.inl e)
    · exact .inr (.inr ⟨f, (delF_mem.1 hf).1, e⟩)
  refine ⟨ht.heap (hne _ _ _ _ h.top) h.top, fun b' hb' => ?_, fun hn => ?_, fun f hf => ?_, ?_⟩
  · have e : b = b' := by
      have h1 : T.mp = some b' := hb'
      rw [hb] at h1
      injection h1
    subst e
    have h1 := owns_size hm
    rw [datum_del, datum_size] at h1
    exact h1
  · have h1 : T.mp = none := hn
    rw [hb] at h1
    cases h1
  · obtain ⟨v, hv, hF⟩ := h.file f (delF_mem.1 hf).1
    refine ⟨v, ht.heap (hne _ _ _ _ hv) hv, ?_⟩
    refine (hF.mono fun k _ hk => hk.elim (fun hk => .inl (hX k hk)) .inr).keep (ht.mono fun k _ e => ?_)
    rw [e]
    exact .inl (.inr (.inl hb))
  · exact h.dist.filter _
set_option maxHeartbeats 1000000 in
theorem leave_any (h : TabAt w Z t T) {z : Int} (hz : -9223372036854775808 ≤ z ∧ z ≤ 9223372036854775807) {f : Fi} (hf : findF T.fs z = some f) :
    Calls Tryz.prog 65 #[.pointer (some ⟨t, 5, none⟩), .int .i64 z, .pointer (some ⟨f.g, 0, none⟩)] w fun e w' => e = .returned (.tuple #[]) ∧ Touch (T.X t) w w' ∧ TabAt w' Z t { T with fs := leaveF T.fs z f.n } := by
  obtain ⟨c0, c1, c2⟩ := h.cells
  obtain ⟨A, n, c, hv, hF⟩ := h.filed hf
  have cn := bx_cell1 hv
  obtain ⟨hm, hi⟩ := findF_mem hf
  have H := Lib.hid h
  obtain ⟨mp, hmp⟩ : ∃ mp, T.mp = mp := ⟨_, rfl⟩
  cases mp with
  | none =>
    have := h.non hmp
    rw [this] at hm
    cases hm
  | some b =>
    rw [hmp] at c2
    have hown := h.map b hmp
    have Hmp := Lib.hid hmp
    clear hmp
    by_cases hn : f.n < 1
    · have hl : Hid (leaveF T.fs z f.n = delF T.fs z) := by show leaveF T.fs z f.n = _; unfold leaveF; rw [if_pos hn]
      rw [hl.out]
      generalize f.g = g at *
      clear hv hF hm hi hf h
      go_enter Tryz.func65, Tryz.ntmps65
      go_wp2_with (at_delete; refine wpList_delete_own _ rfl _ _ 78 3 rfl 130 keyI Tryz.underlying78 _ b _ _ rfl hown _ (.int .i64 z) rfl (key_i hz) ?_; intro w1 hown1 hturn1)
      go_end0
      have ht := Touch.grown (X := fun k => k = b) hturn1.grown fun k e => by injection e with e; exact e.symm
      exact ⟨rfl, ht.mono fun k _ e => .inr (.inl (by rw [e]; exact Hmp.out)), H.out.del Hmp.out hown1 ht⟩
    · have hl : Hid (leaveF T.fs z f.n = T.fs) := by show leaveF T.fs z f.n = _; unfold leaveF; rw [if_neg hn]
      rw [hl.out]
      generalize f.g = g at *
      have hn' : decide (f.n < 1) = false := by simpa using hn
      clear hv hF hm hi hf h hown
      go_enter Tryz.func65, Tryz.ntmps65
      go_wp2
      go_end0
      exact ⟨rfl, .refl _ _, H.out⟩
def Tb.drop (T : Tb) (z : Int) (f : Fi) : Tb := { T with fs := leaveF (updF T.fs z (wrap64 (f.n - 1)) f.m) z (wrap64 (f.n - 1)) }
theorem leaveF_mem {fs : List Fi} {z n : Int} {x : Fi} (h : x ∈ leaveF fs z n) : x ∈ fs := by
  unfold leaveF at h
  split at h
  · exact (delF_mem.1 h).1
  · exact h
set_option maxHeartbeats 1000000 in
theorem drop_some (h : TabAt w Z t T) (hok : T.Ok N) {z : Int} (hz : -9223372036854775808 ≤ z ∧ z ≤ 9223372036854775807) {f : Fi} (hf : findF T.fs z = some f) :
    Calls Tryz.prog 76 #[.pointer (some ⟨t, 5, none⟩), .int .i64 z] w fun e w' => e = .returned (.int .i64 0) ∧ Touch (T.X t) w w' ∧ TabAt w' Z t (T.drop z f) := by
  have Hc := Lib.hid (find_some h hz hf)
  obtain ⟨hm, hi⟩ := findF_mem hf
  obtain ⟨A, n, c, hv, hF⟩ := h.filed hf
  have c1 := bx_cell1 hv
  have z1 := bx_frozen1 hv
  have ht := Touch.cell1 w f.g 1 (.int .i64 (wrap64 (f.n - 1)))
  have hT : TabAt (w.setCell ⟨f.g, 1, none⟩ (.int .i64 (wrap64 (f.n - 1)))) Z t { T with fs := updF T.fs z (wrap64 (f.n - 1)) f.m } := by
    rw [← hi]
    exact h.upd hok.sort (by rw [hi]; exact hf) ht (bx_set1 _ hv) (hF.keep (ht.mono fun b _ e => .inl (.inr (.inr ⟨f, hm, e⟩))))
  have Hl := Lib.hid (leave_any hT hz (updF_here hf))
  have Ht := Lib.hid (ht.mono (Y := T.X t) fun b _ e => .inr (.inr ⟨f, hm, e⟩))
  have HX : Hid (∀ k, ({ T with fs := updF T.fs z (wrap64 (f.n - 1)) f.m } : Tb).X t k → T.X t k) := fun k hk => by
    rcases hk with e | e | ⟨x, hx, e⟩
    · exact .inl e
    · exact .inr (.inl e)
    · obtain ⟨y, hy, _, hg, _⟩ := updF_mem hx
      exact .inr (.inr ⟨y, hy, by rw [e, hg]⟩)
  unfold Tb.drop
  simp only at Hl
  clear h hok hF hm hf hi hT ht hv
  generalize f.g = g at *
  go_enter Tryz.func76, Tryz.ntmps76
  go_wp2_with (first
    | (go_at_call 91; refine Hc.out.mono ?_; rintro e w1 ⟨rfl, rfl⟩)
    | (go_at_call 65; refine Hl.out.mono ?_; rintro e w1 ⟨rfl, ht1, hT1⟩))
  go_ret
  exact ⟨rfl, Ht.out.trans (ht1.mono fun k _ hk => HX.out k hk), hT1⟩
set_option maxHeartbeats 1000000 in
set_option maxRecDepth 100000 in
theorem append_some {Ab : Option Addr} {cb B : Nat} {l : List UInt8} (h : TabAt w Z t T) (hok : T.Ok N) (hN : N ≤ 999) (hZ : ∀ b, Z b → b < w.heap.size) {z : Int} (hz : -9223372036854775808 ≤ z ∧ z ≤ 9223372036854775807) {f : Fi} (hf : findF T.fs z = some f)
    (hl : l.length ≤ 60) (hB : B ≤ w.heap.size) (hr : RdB w B Ab l) (hq : (l.length : Int) + usedF T.fs ≤ T.q) :
    Calls Tryz.prog 73 #[.pointer (some ⟨t, 5, none⟩), .int .i64 z, .slice Ab l.length cb] w fun e w' => e = .returned (.int .i64 0) ∧ Touch (T.X t) w w' ∧ TabAt w' Z t { T with fs := updF T.fs z f.n (appM f.m l) } := by
  have Hc := Lib.hid (find_some h hz hf)
  have Hu := Lib.hid (tused_any (h.below (Below.refl _ _).drew) hok (by omega))
  obtain ⟨hm, hi⟩ := findF_mem hf
  obtain ⟨c0, _, _⟩ := h.cells
  have htl : t < w.heap.size := h.lt (.inl rfl)
  obtain ⟨q, hqe⟩ : ∃ q, T.q = q := ⟨_, rfl⟩
  obtain ⟨U, hU⟩ : ∃ U, usedF T.fs = U := ⟨_, rfl⟩
  obtain ⟨hq0, hq1⟩ := hok.q
  rw [hqe] at c0 hq hq0 hq1
  rw [hU] at hq Hu
  have hlI : (l.length : Int) ≤ 60 := by omega
  have hw : Hid (∀ w1, Below w.heap.size w w1 → ∃ A n c, w1.heap[f.g]? = some (.cells #[.slice A n c, .int .i64 f.n] 129 (0, 0)) ∧
      Calls Tryz.prog 107 #[.pointer (some ⟨f.g, 0, none⟩), .slice Ab l.length cb] w1 fun e w' => e = .returned (.tuple #[]) ∧ Touch (T.X t) w w' ∧ TabAt w' Z t { T with fs := updF T.fs z f.n (appM f.m l) }) := by
    intro w1 hb1
    have h1 := h.below hb1
    obtain ⟨A, n, c, hv, hF⟩ := h1.filed hf
    refine ⟨A, n, c, hv, ?_⟩
    obtain ⟨A', c', ps, e, hcap, hp, hsay⟩ := hF
    injection e with e1 e2 e3
    subst e1 e2 e3
    have hsm : SmM (says ps ++ [(l, false)]) := by rw [hsay]; exact ((hok.size f hm).more l hl).sm (by omega)
    refine (app_any (nm := .int .i64 f.n) hv hcap hsm hp (Nat.le_trans hB hb1.size) (Reads.below hr (hb1.mono hB))).mono ?_
    rintro e w2 ⟨rfl, ht, v, hv', hF'⟩
    refine ⟨rfl, (Touch.of hb1).trans (ht.mono fun b _ e => .inr (.inr ⟨f, hm, e⟩)), ?_⟩
    rw [← hi]
    refine h1.upd hok.sort (by rw [hi]; exact hf) ht hv' ?_
    rw [hsay] at hF'
    exact hF'.mono fun b _ hb => h1.lowF (fun b hb => Nat.lt_of_lt_of_le (hZ b hb) hb1.size) b hb
  have Htl := Lib.hid htl
  obtain ⟨nl, hnl⟩ : ∃ nl, Hid (l.length = nl) := ⟨_, rfl⟩
  rw [hnl.out] at hw hq hlI ⊢
  have hsub : IntKind.i64.wrap (q - (U : Int)) = q - (U : Int) := IntWalk.i64_in _ (by omega)
  have hdec : decide (q - (U : Int) < (nl : Int)) = false := by rw [decide_eq_false_iff_not]; omega
  generalize f.g = g at *
  clear h hok hB hr hm hf hi hz hU hqe hl hnl htl
  go_enter Tryz.func73, Tryz.ntmps73
  go_wp2_with (go_at_call 91; refine Hc.out.mono ?_; rintro e w1 ⟨rfl, rfl⟩)
  go_region_held3 (fun wx => wx.cell? ⟨t, 5, none⟩ = some (.int .i64 q)) (first | exact hc3 | exact c0) (first | (go_at_call 59; refine Hu.out.mono ?_; rintro e w3 ⟨rfl, hb3'⟩; have hb3 := (Below.refl _ _).drew.trans hb3'; have hc3 := (hb3.cell (p := ⟨t, 5, none⟩) Htl.out).trans c0))
  obtain ⟨A, n, c, hv, hcall⟩ := hw.out _ hb3
  have Hcall := Lib.hid hcall
  clear hcall hw hv
  go_wp2_with (go_at_call 107; refine Hcall.out.mono ?_; rintro e w4 ⟨rfl, ht4, hT4⟩)
  go_ret
  exact ⟨rfl, ht4, hT4⟩
set_option maxHeartbeats 1000000 in
set_option maxRecDepth 100000 in
theorem append_full {Ab : Option Addr} {cb nl : Nat} (h : TabAt w Z t T) (hok : T.Ok N) (hN : N ≤ 999) {z : Int} (hz : -9223372036854775808 ≤ z ∧ z ≤ 9223372036854775807) {f : Fi} (hf : findF T.fs z = some f)
    (hl : nl ≤ 60) (hq : T.q < (nl : Int) + usedF T.fs) :
    Calls Tryz.prog 73 #[.pointer (some ⟨t, 5, none⟩), .int .i64 z, .slice Ab nl cb] w fun e w' => e = .returned (.int .i64 90) ∧ Below w.heap.size w w' := by
  have Hc := Lib.hid (find_some h hz hf)
  have Hu := Lib.hid (tused_any (h.below (Below.refl _ _).drew) hok (by omega))
  obtain ⟨c0, _, _⟩ := h.cells
  have htl : t < w.heap.size := h.lt (.inl rfl)
  have hub : usedF T.fs ≤ 30000000000 := by
    have h1 := hok.used
    have h2 : N * (N * 60) ≤ 1000 * (1000 * 60) := Nat.mul_le_mul (by omega) (Nat.mul_le_mul_right _ (by omega))
    omega
  obtain ⟨q, hqe⟩ : ∃ q, T.q = q := ⟨_, rfl⟩
  obtain ⟨U, hU⟩ : ∃ U, usedF T.fs = U := ⟨_, rfl⟩
  obtain ⟨hq0, hq1⟩ := hok.q
  rw [hqe] at c0 hq hq0 hq1
  rw [hU] at hq Hu hub
  have hlI : (nl : Int) ≤ 60 := by omega
  have Htl := Lib.hid htl
  have hsub : IntKind.i64.wrap (q - (U : Int)) = q - (U : Int) := IntWalk.i64_in _ (by omega)
  have hdec : decide (q - (U : Int) < (nl : Int)) = true := by rw [decide_eq_true_iff]; omega
  generalize f.g = g at *
  clear h hok hf hz hU hqe hl htl hub
  go_enter Tryz.func73, Tryz.ntmps73
  go_wp2_with (go_at_call 91; refine Hc.out.mono ?_; rintro e w1 ⟨rfl, rfl⟩)
  go_region_held3 (fun wx => wx.cell? ⟨t, 5, none⟩ = some (.int .i64 q)) (first | exact hc3 | exact c0) (first | (go_at_call 59; refine Hu.out.mono ?_; rintro e w3 ⟨rfl, hb3'⟩; have hb3 := (Below.refl _ _).drew.trans hb3'; have hc3 := (hb3.cell (p := ⟨t, 5, none⟩) Htl.out).trans c0))
  go_wp2
  go_ret
  exact ⟨rfl, hb3⟩
end
end Go.Proofs.YtbhmnmmockmibaaGreat

namespace Go.Proofs.YtbhmnmmockmibaaGreat
open Go.RowKit Go.Maps
theorem run_eqMap (m : Option Nat) (w : World) : (binOp .eql 78 (.map m) (.map none)).run Tryz.prog w = .ok (.bool m.isNone) w := by
  simp only [binOp]
  simp [run_equal_map_nil w _ _ _ m Tryz.underlying78]
section
variable {w : World} {Z : Nat → Prop} {t N : Nat} {T : Tb}
theorem TabAt.moved {w' : World} (h : TabAt w Z t T) (ht : Touch (fun k => k = t) w w') {f : Fi} (hf : f ∈ T.fs) : ∃ v, w'.heap[f.g]? = some (.cells #[v, .int .i64 f.n] 129 (0, 0)) ∧ FileV w' (fun k => T.X t k ∨ w.heap.size ≤ k ∨ Z k) v f.m := by
  obtain ⟨v, hv, hF⟩ := h.high.file f hf
  have hne : ¬ f.g = t := fun e => by
    have := h.top
    rw [← e, hv] at this
    injection this with this
    injection this with this _ _
    simp at this
  refine ⟨v, ht.heap hne hv, (hF.mono fun k _ hk => ?_).keep (ht.mono fun k _ e => .inl (.inl e))⟩
  rcases hk with hk | hk | hk
  · exact .inl hk
  · exact .inr (.inr hk)
  · exact .inr (.inl hk)
structure Made (w w' : World) (Z : Nat → Prop) (t : Nat) (T T' : Tb) : Prop where
  pp : T'.pp = T.pp
  q : T'.q = T.q
  made : T'.made = T.made + 1
  fs : ∃ g, w.heap.size ≤ g ∧ T'.fs = T.fs ++ [⟨(T.made : Int) + 1, g, 0, []⟩]
  X : ∀ k, T'.X t k → T.X t k ∨ w.heap.size ≤ k
  touch : Touch (T.X t) w w'
  tab : TabAt w' Z t T'
theorem Made.of {w0 w w' : World} (h0 : TabAt w0 Z t T) (hok : T.Ok N) {b g : Nat} (ht0 : Touch (T.X t) w0 w) (hg0 : w0.heap.size ≤ g) (hb0 : T.mp = some b ∨ w0.heap.size ≤ b)
    (htop : w.heap[t]? = some (.cells #[T.pp.nm, T.pp.pd, T.pp.m, T.pp.n, T.pp.tk, .int .i64 T.q, .int .i64 ((T.made : Int) + 1), .map (some b)] 84 (0, 0)))
    (hfile : ∀ f ∈ T.fs, ∃ v, w.heap[f.g]? = some (.cells #[v, .int .i64 f.n] 129 (0, 0)) ∧ FileV w (fun k => T.X t k ∨ w0.heap.size ≤ k ∨ Z k) v f.m)
    (hgn : w.heap[g]? = some (.cells #[.slice none 0 0, .int .i64 0] 129 (0, 0)))
    (hown : w'.ownsMap Tryz.prog 3 RF b (T.fs.length + 1) ((datum T.fs).put (.int .i64 ((T.made : Int) + 1)) (dt (some g)))) (ht : Touch (fun k => k = b) w w') (hbw : w.ownsMap Tryz.prog 3 RF b T.fs.length (datum T.fs)) :
    ∃ T', Made w0 w' Z t T T' := by
  obtain ⟨es, clock, hbb, _⟩ := hbw
  have hne : ∀ r cs ty fr, w.heap[r]? = some (.cells cs ty fr) → ¬ r = b := fun r cs ty fr hr e => by rw [e, hbb] at hr; cases hr
  let x : Fi := ⟨(T.made : Int) + 1, g, 0, []⟩
  have hX : ∀ k, ({ pp := T.pp, q := T.q, made := T.made + 1, mp := some b, fs := T.fs ++ [x] } : Tb).X t k → T.X t k ∨ w0.heap.size ≤ k := by
    rintro k (e | e | ⟨f, hf, e⟩)
    · exact .inl (.inl e)
    · injection e with e
      rcases hb0 with h | h
      · exact .inl (.inr (.inl (by rw [h, e])))
      · exact .inr (by omega)
    · rw [List.mem_append, List.mem_singleton] at hf
      rcases hf with hf | rfl
      · exact .inl (.inr (.inr ⟨f, hf, e⟩))
      · exact .inr (by rw [e]; exact hg0)
  refine ⟨{ pp := T.pp, q := T.q, made := T.made + 1, mp := some b, fs := T.fs ++ [x] }, rfl, rfl, rfl, ⟨g, hg0, rfl⟩, hX, ht0.then_ ht fun k hk e => ?_, ?_⟩
  · rcases hb0 with h | h
    · exact .inr (.inl (by rw [h, e]))
    · omega
  · refine ⟨?_, fun b' hb' => ?_, fun hn => (by cases hn), fun f hf => ?_, ?_⟩
    · have := ht.heap (hne _ _ _ _ htop) htop
      rw [this]
      simp
    · injection hb' with hb'
      subst hb'
      have h1 := hown
      rw [datum_put (x := x) (fun f hf => by have := (hok.num f hf).2; show f.i < (T.made : Int) + 1; omega)] at h1
      rw [List.length_append]
      exact h1
    · rw [List.mem_append, List.mem_singleton] at hf
      rcases hf with hf | rfl
      · obtain ⟨v, hv, hF⟩ := hfile f hf
        refine ⟨v, ht.heap (hne _ _ _ _ hv) hv, ?_⟩
        have hF2 : FileV w' (fun k => T.X t k ∨ w0.heap.size ≤ k ∨ Z k) v f.m := hF.keep (ht.mono fun k _ e => by
          rcases hb0 with h | h
          · exact .inl (.inr (.inl (by rw [h, e])))
          · exact .inr (.inl (by omega)))
        refine hF2.mono fun k _ hk => ?_
        rcases hk with hk | hk
        · rcases hX k hk with h | h
          · exact .inl h
          · exact .inr (.inl h)
        · exact .inr (.inr hk)
      · exact ⟨_, ht.heap (hne _ _ _ _ hgn) hgn, FileV.nil _ _⟩
    · rw [List.pairwise_append]
      refine ⟨h0.dist, by simp, fun f hf y hy => ?_⟩
      rw [List.mem_singleton] at hy
      subst hy
      have := h0.lt (.inr (.inr ⟨f, hf, rfl⟩))
      show f.g ≠ g
      omega
set_option maxHeartbeats 2000000 in
set_option maxRecDepth 100000 in
theorem make_any (h : TabAt w Z t T) (hok : T.Ok N) (hN : N ≤ 998) :
    Calls Tryz.prog 70 #[.pointer (some ⟨t, 5, none⟩)] w fun e w' => e = .returned (.int .i64 ((T.made : Int) + 1)) ∧ ∃ T', Made w w' Z t T T' := by
  obtain ⟨c0, c1, c2⟩ := h.cells
  have hmI : (T.made : Int) ≤ 998 := by have := hok.made; omega
  have hm0 : (0 : Int) ≤ (T.made : Int) := by omega
  have H := Lib.hid h
  have Hok := Lib.hid hok
  have HN := Lib.hid hN
  have htl := Lib.hid (h.lt (.inl rfl))
  have Htop := Lib.hid h.top
  have hkey : Hid (keyOf Tryz.prog 3 (.int .i64 ((T.made : Int) + 1)) = some (.int .i64 ((T.made : Int) + 1))) := key_i (by omega)
  have hlen : Hid (T.fs.length < maxLen) := by show _ < _; have := hok.len; simp only [maxLen]; omega
  have fz : ∀ i, w.frozen? ⟨t, i, none⟩ = false := fun i => by unfold World.frozen?; rw [h.top]; simp
  obtain ⟨mp, hmp⟩ : ∃ mp, T.mp = mp := ⟨_, rfl⟩
  cases mp with
  | some b =>
    rw [hmp] at c2 Htop
    have Hown := Lib.hid (h.map b hmp)
    have Hmp := Lib.hid hmp
    obtain ⟨m, hm⟩ : ∃ m : Int, Hid ((T.made : Int) = m) := ⟨_, rfl⟩
    obtain ⟨W1, hW1⟩ : ∃ W1, Hid (w.setCell ⟨t, 6, none⟩ (.int .i64 (m + 1)) = W1) := ⟨_, rfl⟩
    have ht1 : Hid (Touch (fun k => k = t) w W1) := by rw [← hW1.out]; exact Touch.cell1 w t 6 _
    have htop1 : Hid (W1.heap[t]? = some (.cells #[T.pp.nm, T.pp.pd, T.pp.m, T.pp.n, T.pp.tk, .int .i64 T.q, .int .i64 (m + 1), .map (some b)] 84 (0, 0))) := by rw [← hW1.out]; exact heap_setCell_same w t 6 _ _ _ Htop.out
    have d1 : W1.cell? ⟨t, 6, none⟩ = some (.int .i64 (m + 1)) := by rw [cell_of_row W1 t 6 _ _ _ htop1.out]; rfl
    have d2 : W1.cell? ⟨t, 7, none⟩ = some (.map (some b)) := by rw [cell_of_row W1 t 7 _ _ _ htop1.out]; rfl
    obtain ⟨es, clock, hbb, _⟩ := h.map b hmp
    have hbt : ¬ b = t := fun e => by rw [e, h.top] at hbb; cases hbb
    have hown1 : Hid (W1.ownsMap Tryz.prog 3 RF b T.fs.length (datum T.fs)) := owns_touch (h.map b hmp) ht1.out hbt
    have hnil := run_eqMap (some b)
    simp only [Option.isNone_some] at hnil
    have D1 := Lib.hid d1
    have D2 := Lib.hid d2
    rw [hm.out] at c1 hmI hm0 hkey ⊢
    clear h hok hN hmp hbb hbt
    go_enter Tryz.func70, Tryz.ntmps70
    clear d1 d2
    go_upto_region 6 with fail
    rw [hW1.out]
    have d1 := D1.out
    have d2 := D2.out
    clear c0 c1 c2 fz
    obtain ⟨g, hg⟩ : ∃ g, Hid (W1.heap.size = g) := ⟨_, rfl⟩
    obtain ⟨W2, hW2⟩ : ∃ W2, Hid ((W1.alloc (.cells #[.slice none 0 0, .int .i64 0] 129)).drew = W2) := ⟨_, rfl⟩
    have hb2 : Hid (Below W1.heap.size W1 W2) := by rw [← hW2.out]; exact (below_new _ _).drew
    have hgn : Hid (W2.heap[g]? = some (.cells #[.slice none 0 0, .int .i64 0] 129 (0, 0))) := by rw [← hW2.out, ← hg.out]; exact heap_alloc_new _ _
    have hown2 : Hid (W2.ownsMap Tryz.prog 3 RF b T.fs.length (datum T.fs)) := owns_touch hown1.out (Touch.of (X := fun _ => False) hb2.out) fun e => e
    obtain ⟨w3, hrun, hown3, hg3⟩ := hown2.out.update keyI Tryz.underlying78 hlen.out hkey.out (RF_ptr (some g))
    have ht3 : Hid (Touch (fun k => k = b) W2 w3) := Touch.grown hg3 fun k e => by injection e with e; exact e.symm
    have htl1 : t < W1.heap.size := (Array.getElem?_eq_some_iff.1 htop1.out).1
    have e1 := (hb2.out.cell (p := ⟨t, 6, none⟩) htl1).trans d1
    have e2 := (hb2.out.cell (p := ⟨t, 7, none⟩) htl1).trans d2
    have f1 : w3.cell? ⟨t, 6, none⟩ = some (.int .i64 (m + 1)) := by
      refine (ht3.out.cell (p := ⟨t, 6, none⟩) (Nat.lt_of_lt_of_le htl1 hb2.out.size) fun e => ?_).trans e1
      obtain ⟨es', clock', hbb', _⟩ := hown1.out
      have h5 := htop1.out
      have e' : t = b := e
      rw [← e', h5] at hbb'
      cases hbb'
    simp only [ptr] at hrun
    have f2 : w3.cell? ⟨t, 7, none⟩ = some (.map (some b)) := by
      refine (ht3.out.cell (p := ⟨t, 7, none⟩) (Nat.lt_of_lt_of_le htl1 hb2.out.size) fun e => ?_).trans e2
      obtain ⟨es', clock', hbb', _⟩ := hown1.out
      have h5 := htop1.out
      have e' : t = b := e
      rw [← e', h5] at hbb'
      cases hbb'
    have Hfin : Hid (∃ T', Made w w3 Z t T T') := by
      have htw : Touch (T.X t) w W2 := (ht1.out.trans (Touch.of hb2.out)).mono fun k _ e => .inl e
      refine Made.of H.out Hok.out htw (by rw [← hg.out]; exact ht1.out.size) (.inl Hmp.out) (by rw [hm.out]; exact (hb2.out.block t htl1).trans htop1.out) (fun f hf => ?_) hgn.out (by rw [hm.out]; exact hown3) ht3.out hown2.out
      exact H.out.moved (ht1.out.trans (Touch.of hb2.out)) hf
    rw [← hW2.out, ← hg.out] at hrun
    rw [← hW2.out] at e1 e2
    clear hgn hown3 hg3
    go_region_held3 (fun wx => wx.cell? ⟨t, 6, none⟩ = some (.int .i64 (m + 1)) ∧ wx.cell? ⟨t, 7, none⟩ = some (.map (some b))) (first | exact ⟨d1, d2⟩ | exact ⟨e1, e2⟩ | exact ⟨f1, f2⟩) (fail)
    go_wp2
    go_ret
    exact ⟨rfl, Hfin.out⟩
  | none =>
    rw [hmp] at c2 Htop
    have Hmp := Lib.hid hmp
    obtain ⟨m, hm⟩ : ∃ m : Int, Hid ((T.made : Int) = m) := ⟨_, rfl⟩
    have hfs : T.fs = [] := h.non hmp
    obtain ⟨b, hb⟩ : ∃ b, Hid (w.heap.size = b) := ⟨_, rfl⟩
    obtain ⟨V0, hV0⟩ : ∃ V0, Hid (w.alloc (.map #[] 0) = V0) := ⟨_, rfl⟩
    have hbV : Hid (Below w.heap.size w V0) := by rw [← hV0.out]; exact below_new _ _
    have htopV : Hid (V0.heap[t]? = some (.cells #[T.pp.nm, T.pp.pd, T.pp.m, T.pp.n, T.pp.tk, .int .i64 T.q, .int .i64 m, .map none] 84 (0, 0))) := by rw [← hm.out]; exact (hbV.out.block t htl.out).trans Htop.out
    have hownV : Hid (V0.ownsMap Tryz.prog 3 RF b T.fs.length (datum T.fs)) := by
      rw [hfs, ← hV0.out, ← hb.out]
      exact World.ownsMap_made w Tryz.prog 3 RF
    obtain ⟨V1, hV1⟩ : ∃ V1, Hid (V0.setCell ⟨t, 7, none⟩ (.map (some b)) = V1) := ⟨_, rfl⟩
    have htV : Hid (Touch (fun k => k = t) V0 V1) := by rw [← hV1.out]; exact Touch.cell1 V0 t 7 _
    have htop2 : Hid (V1.heap[t]? = some (.cells #[T.pp.nm, T.pp.pd, T.pp.m, T.pp.n, T.pp.tk, .int .i64 T.q, .int .i64 m, .map (some b)] 84 (0, 0))) := by rw [← hV1.out]; exact heap_setCell_same V0 t 7 _ _ _ htopV.out
    obtain ⟨W1, hW1⟩ : ∃ W1, Hid (V1.setCell ⟨t, 6, none⟩ (.int .i64 (m + 1)) = W1) := ⟨_, rfl⟩
    have ht1' : Hid (Touch (fun k => k = t) V1 W1) := by rw [← hW1.out]; exact Touch.cell1 V1 t 6 _
    have ht1 : Hid (Touch (fun k => k = t) w W1) := (Touch.of hbV.out).trans (htV.out.trans ht1'.out)
    have htop1 : Hid (W1.heap[t]? = some (.cells #[T.pp.nm, T.pp.pd, T.pp.m, T.pp.n, T.pp.tk, .int .i64 T.q, .int .i64 (m + 1), .map (some b)] 84 (0, 0))) := by rw [← hW1.out]; exact heap_setCell_same V1 t 6 _ _ _ htop2.out
    have d1 : W1.cell? ⟨t, 6, none⟩ = some (.int .i64 (m + 1)) := by rw [cell_of_row W1 t 6 _ _ _ htop1.out]; rfl
    have d2 : W1.cell? ⟨t, 7, none⟩ = some (.map (some b)) := by rw [cell_of_row W1 t 7 _ _ _ htop1.out]; rfl
    have v1 : V1.cell? ⟨t, 6, none⟩ = some (.int .i64 m) := by rw [cell_of_row V1 t 6 _ _ _ htop2.out]; rfl
    have fV : V0.frozen? ⟨t, 7, none⟩ = false := by unfold World.frozen?; rw [htopV.out]; simp
    have cV : V0.cell? ⟨t, 7, none⟩ = some (.map none) := by rw [cell_of_row V0 t 7 _ _ _ htopV.out]; rfl
    have fV1 : V1.frozen? ⟨t, 6, none⟩ = false := by unfold World.frozen?; rw [htop2.out]; simp
    have hbt : ¬ b = t := fun e => by have := htl.out; have := hb.out; omega
    have hown1 : Hid (W1.ownsMap Tryz.prog 3 RF b T.fs.length (datum T.fs)) := owns_touch hownV.out (htV.out.trans ht1'.out) hbt
    have hnil := run_eqMap none
    simp only [Option.isNone_none] at hnil
    have hmk := fun w => run_makeMap (P := Tryz.prog) 78 w
    rw [← hV0.out] at cV fV
    have D1 := Lib.hid d1
    have D2 := Lib.hid d2
    rw [hm.out] at c1 hmI hm0 hkey ⊢
    clear h hok hN hmp hbt hfs
    go_enter Tryz.func70, Tryz.ntmps70
    clear d1 d2
    go_upto_region 5 with fail
    rw [hV0.out, hb.out, hV1.out]
    go_upto_region 6 with fail
    rw [hW1.out]
    have d1 := D1.out
    have d2 := D2.out
    clear c0 c1 c2 fz v1 fV cV fV1
    obtain ⟨g, hg⟩ : ∃ g, Hid (W1.heap.size = g) := ⟨_, rfl⟩
    obtain ⟨W2, hW2⟩ : ∃ W2, Hid ((W1.alloc (.cells #[.slice none 0 0, .int .i64 0] 129)).drew = W2) := ⟨_, rfl⟩
    have hb2 : Hid (Below W1.heap.size W1 W2) := by rw [← hW2.out]; exact (below_new _ _).drew
    have hgn : Hid (W2.heap[g]? = some (.cells #[.slice none 0 0, .int .i64 0] 129 (0, 0))) := by rw [← hW2.out, ← hg.out]; exact heap_alloc_new _ _
    have hown2 : Hid (W2.ownsMap Tryz.prog 3 RF b T.fs.length (datum T.fs)) := owns_touch hown1.out (Touch.of (X := fun _ => False) hb2.out) fun e => e
    obtain ⟨w3, hrun, hown3, hg3⟩ := hown2.out.update keyI Tryz.underlying78 hlen.out hkey.out (RF_ptr (some g))
    have ht3 : Hid (Touch (fun k => k = b) W2 w3) := Touch.grown hg3 fun k e => by injection e with e; exact e.symm
    have htl1 : t < W1.heap.size := (Array.getElem?_eq_some_iff.1 htop1.out).1
    have e1 := (hb2.out.cell (p := ⟨t, 6, none⟩) htl1).trans d1
    have e2 := (hb2.out.cell (p := ⟨t, 7, none⟩) htl1).trans d2
    have f1 : w3.cell? ⟨t, 6, none⟩ = some (.int .i64 (m + 1)) := by
      refine (ht3.out.cell (p := ⟨t, 6, none⟩) (Nat.lt_of_lt_of_le htl1 hb2.out.size) fun e => ?_).trans e1
      obtain ⟨es', clock', hbb', _⟩ := hown1.out
      have h5 := htop1.out
      have e' : t = b := e
      rw [← e', h5] at hbb'
      cases hbb'
    simp only [ptr] at hrun
    have f2 : w3.cell? ⟨t, 7, none⟩ = some (.map (some b)) := by
      refine (ht3.out.cell (p := ⟨t, 7, none⟩) (Nat.lt_of_lt_of_le htl1 hb2.out.size) fun e => ?_).trans e2
      obtain ⟨es', clock', hbb', _⟩ := hown1.out
      have h5 := htop1.out
      have e' : t = b := e
      rw [← e', h5] at hbb'
      cases hbb'
    have Hfin : Hid (∃ T', Made w w3 Z t T T') := by
      have htw : Touch (T.X t) w W2 := (ht1.out.trans (Touch.of hb2.out)).mono fun k _ e => .inl e
      refine Made.of H.out Hok.out htw (by rw [← hg.out]; exact ht1.out.size) (.inr (by rw [hb.out]; exact Nat.le_refl _)) (by rw [hm.out]; exact (hb2.out.block t htl1).trans htop1.out) (fun f hf => ?_) hgn.out (by rw [hm.out]; exact hown3) ht3.out hown2.out
      exact H.out.moved (ht1.out.trans (Touch.of hb2.out)) hf
    rw [← hW2.out, ← hg.out] at hrun
    rw [← hW2.out] at e1 e2
    clear hgn hown3 hg3
    go_region_held3 (fun wx => wx.cell? ⟨t, 6, none⟩ = some (.int .i64 (m + 1)) ∧ wx.cell? ⟨t, 7, none⟩ = some (.map (some b))) (first | exact ⟨d1, d2⟩ | exact ⟨e1, e2⟩ | exact ⟨f1, f2⟩) (fail)
    go_wp2
    go_ret
    exact ⟨rfl, Hfin.out⟩
end
end Go.Proofs.YtbhmnmmockmibaaGreat
