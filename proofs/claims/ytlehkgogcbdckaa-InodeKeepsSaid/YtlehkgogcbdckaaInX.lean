/- The walk of the chapter's examples (works): they hold. Conditions: none. -/
import Derived.Test.YtlehkgogcbdckaaInW
import Derived.Test.YtlehkgogcbdckaaText
import Derived.Lib.SmallJoins
namespace Go.Proofs.Ytlehkgogcbdckaa
open Go.RowKit Go.Maps

def mABC : List Pt := [([97, 98, 99], false)]
def mXY (d : Bool) : List Pt := [([120, 121], d)]
theorem wpl : wrap64 (0 + 1) = 1 := by unfold wrap64; omega
theorem wmn : wrap64 (1 - 1) = 0 := by unfold wrap64; omega
section
variable (g h : Nat)
theorem wk0 : ([] : List Fi) ++ [⟨((0 : Nat) : Int) + 1, g, 0, []⟩] = [⟨1, g, 0, []⟩] := rfl
theorem wk1 : doApp 5 [⟨1, g, 0, []⟩] 1 [97, 98, 99] = ([⟨1, g, 0, mABC⟩], 0) := rfl
theorem wk2 : doApp 5 [⟨1, g, 0, mABC⟩] 1 [100, 101, 102] = ([⟨1, g, 0, mABC⟩], 90) := rfl
theorem wk3 : usedF [⟨1, g, 0, mABC⟩] = 3 := rfl
theorem wk4 : doLink [⟨1, g, 0, mABC⟩] 1 = ([⟨1, g, 1, mABC⟩], 0) := by
  show (updF _ 1 (wrap64 (0 + 1)) mABC, (0 : Int)) = _
  rw [wpl]
  rfl
theorem wk5 : ([⟨1, g, 1, mABC⟩] : List Fi) ++ [⟨((1 : Nat) : Int) + 1, h, 0, []⟩] = [⟨1, g, 1, mABC⟩, ⟨2, h, 0, []⟩] := rfl
theorem wk6 : doApp 5 [⟨1, g, 1, mABC⟩, ⟨2, h, 0, []⟩] 2 [120, 121] = ([⟨1, g, 1, mABC⟩, ⟨2, h, 0, mXY false⟩], 0) := rfl
theorem wk7 : doSync [⟨1, g, 1, mABC⟩, ⟨2, h, 0, mXY false⟩] 2 = ([⟨1, g, 1, mABC⟩, ⟨2, h, 0, mXY true⟩], 0) := rfl
theorem wk8 : doLink [⟨1, g, 1, mABC⟩, ⟨2, h, 0, mXY true⟩] 2 = ([⟨1, g, 1, mABC⟩, ⟨2, h, 1, mXY true⟩], 0) := by
  show (updF _ 2 (wrap64 (0 + 1)) (mXY true), (0 : Int)) = _
  rw [wpl]
  rfl
theorem wk9 : failT [⟨1, g, 1, mABC⟩, ⟨2, h, 1, mXY true⟩] [(1, 1), (2, 1)] [] = [⟨1, g, 1, []⟩, ⟨2, h, 1, mXY true⟩] := rfl
theorem wkA : findF [⟨1, g, 1, []⟩, ⟨2, h, 1, mXY true⟩] 1 = some ⟨1, g, 1, []⟩ := rfl
theorem wkB : findF [⟨1, g, 1, []⟩, ⟨2, h, 1, mXY true⟩] 2 = some ⟨2, h, 1, mXY true⟩ := rfl
theorem wkC : doDrop [⟨1, g, 1, []⟩, ⟨2, h, 1, mXY true⟩] 1 = ([⟨2, h, 1, mXY true⟩], 0) := by
  show (leaveF (updF _ 1 (wrap64 (1 - 1)) []) 1 (wrap64 (1 - 1)), (0 : Int)) = _
  rw [wmn]
  rfl
theorem wkD : findF [⟨2, h, 1, mXY true⟩] 1 = none := rfl
end
theorem reads_marked (W : World) {xs : List Value} {l : List UInt8} (hx : xs = bs l) (fr : Nat × Nat) : RdB (W.alloc (.cells xs.toArray 5 fr)) (W.heap.size + 1) (some ⟨W.heap.size, 0, none⟩) l := by
  subst hx
  refine ⟨by rw [bs_len]; omega, fun _ => ⟨_, rfl, by simp, fun j u hu => ?_⟩⟩
  rw [lit_add, Nat.zero_add, cell_of_row (W.alloc (.cells (bs l).toArray 5 fr)) W.heap.size j (bs l).toArray 5 fr (heap_alloc_new W _)]
  simpa using hu
theorem en_new (W : World) (e : TypeId) {xs : List Value} {l : List En} (hx : xs = ecells l) : EnX (W.alloc (.cells xs.toArray e)) (fun _ => False) (some ⟨W.heap.size, 0, none⟩) l := by
  subst hx
  refine ⟨ecells_len l, fun _ => ⟨_, rfl, by simp, fun h => h, fun j u hu => ?_⟩⟩
  rw [lit_add, Nat.zero_add, cell_of_row (W.alloc (.cells (ecells l).toArray e)) W.heap.size j (ecells l).toArray e (0, 0) (heap_alloc_new W _)]
  simpa using hu
theorem fit12 : FitE [(1, 1), (2, 1)] := by
  intro x hx
  simp only [List.mem_cons, List.not_mem_nil, or_false] at hx
  rcases hx with rfl | rfl <;> (constructor <;> constructor <;> decide)
abbrev No : Nat → Prop := fun _ => False
theorem zfit (n : Nat) (h : n ≤ 100) : -9223372036854775808 ≤ (n : Int) ∧ (n : Int) ≤ 9223372036854775807 := by omega
set_option maxHeartbeats 4000000 in
set_option maxRecDepth 100000 in
theorem works_any (w : World) : Calls Try.prog 6 #[] w fun e w' => e = .returned (.bool true) ∧ Below w.heap.size w w' := by
  have hnew := Lib.hid (WS.new (w0 := w) (w := w) 5 (by omega) (by omega) (.refl _ _))
  obtain ⟨t, ht⟩ : ∃ t, Hid (w.heap.size = t) := ⟨_, rfl⟩
  rw [ht.out, show max (5 : Int) 0 = 5 from rfl] at hnew
  have kc := fun (W : World) (C : Array Value) (n c : Nat) => Lib.run_convert_bytes_const (P := Try.prog) W 29 5 C n c Try.underlying29 Try.underlying5
  go_enter Try.func6, Try.ntmps6
  go_upto_region 2 with (go_at_call 7; refine hnew.out.mono ?_; rintro e w1 ⟨rfl, h1⟩)
  have H1 := Lib.hid h1
  clear h1 hnew
  have t1 := Lib.hid True.intro
  have t2 := Lib.hid True.intro
  have t3 := Lib.hid True.intro
  go_upto_region 3 with (first
    | (go_at_call 9; clear t1; refine (H1.out.make (by omega)).mono ?_; rintro e w2 ⟨rfl, g, h2, _⟩; have H2 := Lib.hid h2; clear h2; rw [wk0] at H2)
    | (go_at_call 17; clear t2; refine ((H2.out.quiet (below_new w2 _)).1.append (by omega) (z := 1) (by omega) (l := [97, 98, 99]) (nl := 3) rfl (by omega) (B := w2.heap.size + 1) (by simp) (reads_marked w2 (l := [97, 98, 99]) rfl _)).mono ?_; rintro e w3 ⟨rfl, h3, _⟩; have H3 := Lib.hid h3; clear h3; rw [wk1] at H3 ⊢)
    | (go_at_call 17; clear t3; refine ((H3.out.quiet (below_new w3 _)).1.append (by omega) (z := 1) (by omega) (l := [100, 101, 102]) (nl := 3) rfl (by omega) (B := w3.heap.size + 1) (by simp) (reads_marked w3 (l := [100, 101, 102]) rfl _)).mono ?_; rintro e w4 ⟨rfl, h4, _⟩; have H4 := Lib.hid h4; clear h4; rw [wk2] at H4 ⊢))
  go_upto_region 4 with (go_at_call 14; refine (H4.out.used (by omega)).mono ?_; rintro e w5 ⟨rfl, h5, _⟩; have H5 := Lib.hid h5; clear h5; rw [wk3])
  go_upto_region 5 with (go_at_call 11; refine (H5.out.link (z := 1) (by omega)).mono ?_; rintro e w6 ⟨rfl, h6, _⟩; have H6 := Lib.hid h6; clear h6; rw [wk4] at H6)
  go_upto_region 6 with (go_at_call 9; refine (H6.out.make (by omega)).mono ?_; rintro e w7 ⟨rfl, h, h7, _⟩; have H7 := Lib.hid h7; clear h7; rw [wk5] at H7)
  go_upto_region 7 with (go_at_call 17; refine ((H7.out.quiet (below_new w7 _)).1.append (by omega) (z := 2) (by omega) (l := [120, 121]) (nl := 2) rfl (by omega) (B := w7.heap.size + 1) (by simp) (reads_marked w7 (l := [120, 121]) rfl _)).mono ?_; rintro e w8 ⟨rfl, h8, _⟩; have H8 := Lib.hid h8; clear h8; rw [wk6] at H8 ⊢)
  go_upto_region 8 with (go_at_call 10; refine (H8.out.sync (by omega) (z := 2) (by omega)).mono ?_; rintro e w9 ⟨rfl, h9, _⟩; have H9 := Lib.hid h9; clear h9; rw [wk7] at H9)
  go_upto_region 9 with (go_at_call 11; refine (H9.out.link (z := 2) (by omega)).mono ?_; rintro e wa ⟨rfl, ha, _⟩; have HA := Lib.hid ha; clear ha; rw [wk8] at HA)
  go_upto_region 10 with (go_at_call 15; refine ((HA.out.quiet (below_new wa _)).1.fail (nn := 2) (nk := 0) (ck := 0) (Ak := none) (by omega) (en_new wa 45 (l := [(1, 1), (2, 1)]) rfl) rfl (by omega) fit12 (keep := []) RdX.none_ rfl (Nat.le_refl _) (by omega)).mono ?_; rintro e wb ⟨rfl, hb, _⟩; have HB := Lib.hid hb; clear hb; rw [wk9] at HB)
  go_upto_region 11 with (go_at_call 19; refine (HB.out.bytes (by omega) (z := 1) (by omega) (wkA g h)).mono ?_; rintro e wc ⟨v1, rfl, ho1, hc, _⟩; obtain ⟨A1, c1, rfl, _, _, _⟩ := own_form ho1; have HC := Lib.hid hc; clear hc ho1)
  go_upto_region 12 with (go_at_call 19; refine (HC.out.bytes (by omega) (z := 2) (by omega) (wkB g h)).mono ?_; rintro e wd ⟨v2, rfl, ho2, _, _, hbd⟩; replace ho2 : wd.ownsRow wc.heap.size 5 1 v2 2 (bs [120, 121]) := ho2; obtain ⟨A2, c2, rfl, _, _, hr2⟩ := own_form ho2; have HD := Lib.hid (HC.out.more (Y' := fun b => (Value.slice A2 2 c2).ownBlock = some b) hbd fun k hk => Or.inr (ho2.lt k hk)); have HO2 := Lib.hid ho2; clear hbd ho2 hr2)
  go_upto_region 13 with (go_at_call 12; refine (HD.out.drop (z := 1) (by omega)).mono ?_; rintro e we ⟨rfl, he, hte⟩; have HE := Lib.hid he; have HTE := Lib.hid hte; clear he hte; rw [wkC] at HE ⊢)
  go_upto_region 14 with (go_at_call 19; refine (HE.out.bytesNo (z := 1) (by omega) (wkD h)).mono ?_; rintro e wf ⟨rfl, rfl⟩)
  have hO2 := own_touch HO2.out HTE.out (fun b hb e => e.2 hb)
  have hcv : (convert 29 9 (.slice A2 2 c2)).run Try.prog wf = .ok (.string ⟨#[120, 121]⟩) wf := by
    obtain ⟨A', c', e, _, _, hr⟩ := own_form hO2
    injection e with e1 _ e3
    subst e1 e3
    exact run_text_any (l := [120, 121]) hr c2
  clear hO2
  go_wp2_with (go_at_call 9; refine (HE.out.make (by omega)).mono ?_; rintro e wg ⟨rfl, g3, hg3, _⟩; have HG := Lib.hid hg3; clear hg3)
  go_ret
  exact ⟨rfl, HG.out.below⟩
end Go.Proofs.Ytlehkgogcbdckaa
