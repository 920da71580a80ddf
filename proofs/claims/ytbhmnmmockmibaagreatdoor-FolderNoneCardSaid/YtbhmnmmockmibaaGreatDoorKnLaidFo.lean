/- FolderNone's walk. Conditions: the names of the kinds stand where the program keeps them. From what a row lists of package-level variables to what the walks ask of them; one start that fits; the wrap that hands on both what is listed and the world's shape. Conditions: none. -/
import Derived.Test.YtbhmnmmockmibaaGreatDoorKnFqX
import Derived.Test.YtbhmnmmockmibaaGreatDoorRows
import Derived.Test.YtbhmnmmockmibaaGreatDoorKnFoAl
import Derived.Stop.LaidErr
import Derived.Lib.LaidU8
import Derived.Handed
namespace Go.Proofs.YtbhmnmmockmibaaGreatDoor
open Go.RowKit Go.Maps
def wordsL : List (List UInt8) := [[], [99, 114, 101, 97, 116, 101], [119, 114, 105, 116, 101], [102, 115, 121, 110, 99], [102, 115, 121, 110, 99, 100, 105, 114], [108, 105, 110, 107], [117, 110, 108, 105, 110, 107], [114, 101, 97, 100, 100, 105, 114], [114, 101, 97, 100]]
/-- The names of the kinds stand where the program keeps them. -/
def EnvW (w : World) : Prop := ∀ (j : Nat) (x : List UInt8), wordsL[j]? = some x → w.cell? ⟨0, j, none⟩ = some (.string (txt x))
theorem EnvW.below {w w' : World} (h : EnvW w) (hb : Below w.heap.size w w') : EnvW w' := fun j x hx => by
  have h1 := h j x hx
  rw [hb.cell (World.block_lt_of_cell? w _ h1)]
  exact h1
theorem word_any {w : World} (k : Nat) (hk : k ≤ 255) (hE : EnvW w) :
    Calls Tryz.prog 11 #[.int .u8 (k : Int)] w fun e w' => e = .returned (.string (txt (wordsL.getD k []))) ∧ w' = w := by
  have hkI : (k : Int) ≤ 255 := by omega
  by_cases h9 : k < 9
  · have hx : wordsL[k]? = some (wordsL.getD k []) := by
      have hl : k < wordsL.length := h9
      rw [List.getD_eq_getElem?_getD, List.getElem?_eq_getElem hl]
      rfl
    have hc := hE k _ hx
    obtain ⟨s, hs⟩ : ∃ s, Hid (txt (wordsL.getD k []) = s) := ⟨_, rfl⟩
    rw [hs.out] at hc ⊢
    have hlt : decide ((9 : Int) ≤ (k : Int)) = false := by rw [decide_eq_false_iff_not]; omega
    have hge : decide ((k : Int) ≥ 9) = false := by rw [decide_eq_false_iff_not]; omega
    have h9I : (k : Int) < 9 := by omega
    go_enter Tryz.func11, Tryz.ntmps11
    go_wp2
    go_ret
    exact ⟨rfl, rfl⟩
  · have hx : wordsL.getD k [] = [] := by
      rw [List.getD_eq_getElem?_getD, List.getElem?_eq_none (by show 9 ≤ k; omega)]
      rfl
    rw [hx]
    have h9I : (9 : Int) ≤ (k : Int) := by omega
    go_enter Tryz.func11, Tryz.ntmps11
    go_wp2
    go_ret
    exact ⟨rfl, rfl⟩
theorem powerNil_any (ops : Int) (w : World) : Calls Tryz.prog 6 #[.pointer none, .int .i64 ops, .slice none 0 0] w fun e w' => e = .returned (.tuple #[]) ∧ w' = w := by
  go_enter Tryz.func6, Tryz.ntmps6
  go_wp2
  refine bodyPost_ret (results_none rfl _ _ _) rfl ?_
  exact ⟨rfl, rfl⟩
theorem pendNil_any (w : World) : Calls Tryz.prog 8 #[.pointer none] w fun e w' => e = .returned (.int .i64 0) ∧ w' = w := by
  go_enter Tryz.func8, Tryz.ntmps8
  go_wp2
  go_ret
  exact ⟨rfl, rfl⟩
theorem volNil_any (w : World) : Calls Tryz.prog 9 #[.pointer none] w fun e w' => e = .returned (.int .i64 0) ∧ w' = w := by
  go_enter Tryz.func9, Tryz.ntmps9
  go_wp2
  go_ret
  exact ⟨rfl, rfl⟩
theorem usedNil_any (w : World) : Calls Tryz.prog 10 #[.pointer none] w fun e w' => e = .returned (.int .i64 0) ∧ w' = w := by
  go_enter Tryz.func10, Tryz.ntmps10
  go_wp2
  go_ret
  exact ⟨rfl, rfl⟩
set_option maxHeartbeats 4000000 in
set_option maxRecDepth 100000 in
theorem doNil_any (k : Int) (n t : List UInt8) (A : Option Addr) (m c : Nat) (w : World) : Calls Tryz.prog 5 #[.pointer none, fcv k n t A m c] w fun e w' => e = .returned (.agg #[.int .i64 1, .slice none 0 0, .slice none 0 0]) ∧ Below w.heap.size w w' := by
  obtain ⟨W, hW⟩ : ∃ W, Hid ((w.alloc (.cells #[.int .u8 k, .string (txt n), .string (txt t), .slice A m c] 24)).alloc (.cells zres 29) = W) := ⟨_, rfl⟩
  obtain ⟨R, hR⟩ : ∃ R, Hid (w.heap.size + 1 = R) := ⟨_, rfl⟩
  have hb : Hid (Below w.heap.size w W) := by rw [← hW.out]; exact (below_new _ _).alloc (by simp) _
  have hr : Hid (W.heap[R]? = some (.cells zres 29 (0, 0))) := by
    rw [← hW.out, ← hR.out]
    have := heap_alloc_new (w.alloc (.cells #[.int .u8 k, .string (txt n), .string (txt t), .slice A m c] 24)) (.cells zres 29)
    rwa [World.size_alloc] at this
  go_enter Tryz.func5, Tryz.ntmps5
  go_upto_region 1 with fail
  rw [hR.out, hW.out]
  go_wp2_with (refine wpList_store_row rfl 29 (.tmp 4) (.tmp 8) rfl R _ rfl rfl _ _ hr.out size_fr10 rfl (by simp [Value.oneCell']) ?_)
  refine ret_res rfl R _ _ _ _ (0, 0) rfl (setRow_heap _ _ _ _ _ _ hr.out) rfl ?_
  exact ⟨rfl, below_setRow hb.out (by rw [← hR.out]; omega) _⟩
set_option maxHeartbeats 8000000 in
set_option maxRecDepth 100000 in
theorem fnone_any {w : World} (hE : EnvW w) (k : Nat) (hk : k ≤ 255) (n t : List UInt8) (A : Option Addr) (m c : Nat) (ops : Int) :
    Calls Tryz.prog 3 #[.agg #[.int .u8 (k : Int), .string (txt n), .string (txt t), .slice A m c], .int .i64 ops] w fun e w' => e = .returned (.bool true) ∧ Below w.heap.size w w' := by
  obtain ⟨B0, hB0⟩ : ∃ B, Hid (w.heap.size = B) := ⟨_, rfl⟩
  obtain ⟨W, hW⟩ : ∃ W, Hid (w.alloc (.cells #[.int .u8 (k : Int), .string (txt n), .string (txt t), .slice A m c] 24) = W) := ⟨_, rfl⟩
  have hbW : Hid (Below w.heap.size w W) := by rw [← hW.out]; exact below_new _ _
  have hg0 : Hid (W.heap[B0]? = some (.cells #[.int .u8 (k : Int), .string (txt n), .string (txt t), .slice A m c] 24 (0, 0))) := by rw [← hW.out, ← hB0.out]; exact heap_alloc_new _ _
  obtain ⟨c0, c1, c2, c3⟩ := quad_cell hg0.out
  have Hdo := Lib.hid (doNil_any (k : Int) n t A m c W)
  have HE := Lib.hid (fun wx (hb : Below w.heap.size w wx) => word_any k hk (hE.below hb))
  have Hworks := Lib.hid works_any
  have hkI : (k : Int) ≤ 255 := by omega
  clear hE
  go_enter Tryz.func3, Tryz.ntmps3
  go_upto_region 1 with fail
  rw [hB0.out, hW.out]
  go_upto_region 3 with (first
    | (go_at_call 5; refine Hdo.out.mono ?_; rintro e w1 ⟨rfl, hb1⟩; have Hb1 := Lib.hid hb1; clear hb1)
    | (refine wpList_store_row rfl 29 (.tmp 6) (.tmp 11) rfl w1.heap.size _ rfl rfl _ _ (heap_alloc_new w1 _) size_fr10 rfl (by simp [Value.oneCell']) ?_))
  go_frame
  obtain ⟨R, hR⟩ : ∃ R, Hid (w1.heap.size = R) := ⟨_, rfl⟩
  obtain ⟨W2, hW2⟩ : ∃ x, Hid ((w1.alloc (.cells #[.int .i64 0, .slice none 0 0, .slice none 0 0] 29)).setRow w1.heap.size #[.int .i64 1, .slice none 0 0, .slice none 0 0] = x) := ⟨_, rfl⟩
  have hbox : Hid (W2.heap[R]? = some (.cells #[.int .i64 1, .slice none 0 0, .slice none 0 0] 29 (0, 0))) := by rw [← hW2.out, ← hR.out]; exact setRow_heap _ _ _ _ _ _ (heap_alloc_new w1 _)
  have hb12 : Hid (Below w1.heap.size w1 W2) := by rw [← hW2.out]; exact below_setRow (below_new _ _) (Nat.le_refl _) _
  rw [hW2.out, hR.out]
  have HB2 := Lib.hid (hbW.out.trans ((Hb1.out.trans (hb12.out.mono Hb1.out.size)).mono hbW.out.size))
  have HB2' := Lib.hid (Hb1.out.trans (hb12.out.mono Hb1.out.size))
  go_upto_region 4 with (go_at_call 6; refine (powerNil_any _ _).mono ?_; rintro e w3 ⟨rfl, rfl⟩)
  go_upto_region 5 with fail
  obtain ⟨N, hN⟩ : ∃ N, Hid (w3.heap.size = N) := ⟨_, rfl⟩
  obtain ⟨W4, hW4⟩ : ∃ x, Hid (w3.alloc (.cells (wordsL.map fun x => Value.string (txt x)).toArray 9) = x) := ⟨_, rfl⟩
  have hrow : Hid (W4.heap[N]? = some (.cells (wordsL.map fun x => Value.string (txt x)).toArray 9 (0, 0))) := by rw [← hW4.out, ← hN.out]; exact heap_alloc_new _ _
  have hb34 : Hid (Below w3.heap.size w3 W4) := by rw [← hW4.out]; exact below_new _ _
  have hlit : Hid (w3.alloc (.cells #[.string ⟨#[]⟩, .string ⟨#[99, 114, 101, 97, 116, 101]⟩, .string ⟨#[119, 114, 105, 116, 101]⟩, .string ⟨#[102, 115, 121, 110, 99]⟩, .string ⟨#[102, 115, 121, 110, 99, 100, 105, 114]⟩, .string ⟨#[108, 105, 110, 107]⟩, .string ⟨#[117, 110, 108, 105, 110, 107]⟩, .string ⟨#[114, 101, 97, 100, 100, 105, 114]⟩, .string ⟨#[114, 101, 97, 100]⟩] 9) = W4) := hW4
  rw [hlit.out, hN.out]
  have HB4 := Lib.hid (HB2.out.trans (hb34.out.mono HB2.out.size))
  have HB24 := Lib.hid (HB2'.out.trans (hb34.out.mono HB2'.out.size))
  have hcs : Hid (∀ wx, Below W4.heap.size W4 wx → wx.cell? ⟨B0, 0, none⟩ = some (.int .u8 (k : Int)) ∧ wx.cell? ⟨R, 0, none⟩ = some (.int .i64 1) ∧ wx.cell? ⟨R, 1, none⟩ = some (.slice none 0 0) ∧ wx.cell? ⟨R, 2, none⟩ = some (.slice none 0 0)) := fun wx hb => by
    have h1 := quad_cell (((HB24.out.trans (hb.mono HB24.out.size)).block _ (Array.getElem?_eq_some_iff.1 hg0.out).1).trans hg0.out)
    have h2 := tri_cell (((hb34.out.trans (hb.mono hb34.out.size)).block _ (Array.getElem?_eq_some_iff.1 hbox.out).1).trans hbox.out)
    exact ⟨h1.1, h2.1, h2.2.1, h2.2.2⟩
  clear c0 c1 c2 c3
  obtain ⟨d0, d1, d2, d3⟩ := hcs.out W4 (Below.refl _ _)
  have hq := Lib.hid (HE.out W4 HB4.out)
  obtain ⟨s, hs⟩ : ∃ s, Hid (txt (wordsL.getD k []) = s) := ⟨_, rfl⟩
  rw [hs.out] at hq
  by_cases h9 : k < 9
  · have h9I : (k : Int) < 9 := by omega
    have hc : W4.cell? ⟨N, k, none⟩ = some (.string s) := by
      rw [cell_of_row W4 N k _ _ _ hrow.out, ← hs.out, List.getElem?_toArray, List.getElem?_map, List.getD_eq_getElem?_getD, List.getElem?_eq_getElem (show k < wordsL.length from h9)]
      rfl
    go_wp2_with (first
      | (go_at_call 7; refine (filesNil_any _).mono ?_; rintro e w5 ⟨rfl, rfl⟩)
      | (go_at_call 8; refine (pendNil_any _).mono ?_; rintro e w6 ⟨rfl, rfl⟩)
      | (go_at_call 9; refine (volNil_any _).mono ?_; rintro e w7 ⟨rfl, rfl⟩)
      | (go_at_call 10; refine (usedNil_any _).mono ?_; rintro e w8 ⟨rfl, rfl⟩)
      | (go_at_call 11; refine hq.out.mono ?_; rintro e w9 ⟨rfl, rfl⟩)
      | (go_at_call 12; refine (Hworks.out _).mono ?_; rintro e w10 ⟨rfl, hb10⟩))
    go_ret
    exact ⟨rfl, HB4.out.trans (hb10.mono HB4.out.size)⟩
  · have h9I : (9 : Int) ≤ (k : Int) := by omega
    have hsx : Hid (s = ⟨#[]⟩) := by
      rw [← hs.out, List.getD_eq_getElem?_getD, List.getElem?_eq_none (show 9 ≤ k by omega)]
      rfl
    rw [hsx.out] at hq
    go_wp2_with (first
      | (go_at_call 7; refine (filesNil_any _).mono ?_; rintro e w5 ⟨rfl, rfl⟩)
      | (go_at_call 8; refine (pendNil_any _).mono ?_; rintro e w6 ⟨rfl, rfl⟩)
      | (go_at_call 9; refine (volNil_any _).mono ?_; rintro e w7 ⟨rfl, rfl⟩)
      | (go_at_call 10; refine (usedNil_any _).mono ?_; rintro e w8 ⟨rfl, rfl⟩)
      | (go_at_call 11; refine hq.out.mono ?_; rintro e w9 ⟨rfl, rfl⟩)
      | (go_at_call 12; refine (Hworks.out _).mono ?_; rintro e w10 ⟨rfl, hb10⟩))
    go_ret
    exact ⟨rfl, HB4.out.trans (hb10.mono HB4.out.size)⟩
end Go.Proofs.YtbhmnmmockmibaaGreatDoor

namespace Go.Proofs.YtbhmnmmockmibaaGreatDoor
open Go.RowKit Go.Lib Go.ChangeShapes Go.WideShapes Go.ChangeAt
/-- What every row of this seat lists. -/
def laidL : List (String × DataW Unit) := [("chartroom/folder.words", Rows.laid_chartroom_folder_words)]
theorem gWds : Tryz.prog.globalNamed "chartroom/folder.words" = some 0 := by kernel_rfl
theorem gWdsT : (Tryz.prog.globals[0]?).map (·.type) = some 73 := by kernel_rfl
theorem cellsWd : Tryz.prog.cellsOf 9 = 1 := by kernel_rfl
theorem cellsWds : Tryz.prog.cellsOf 73 = 9 := by kernel_rfl
def wordCells : List Value := wordsL.map fun x => Value.string (txt x)
section
variable {H : Type} {enc : TypeId × Value → H} {w : World} {base : Nat} {sp : Nat → Bool} {held : Bool} {fuel : Nat}
theorem word_of_trod {c : Value} {s : List UInt8} {p : List MemPlace} (h : DataW.trod enc Tryz.prog w base sp held fuel 9 [c] = some (.lit (.string s), p)) : c = .string (txt s) := by
  obtain ⟨s', e0, e1, _⟩ := DataW.trod_string Tryz.underlying9 h
  simp only [Prod.mk.injEq, DataW.lit.injEq, Lit.string.injEq] at e1
  simp only [List.cons.injEq, and_true] at e0
  rw [e0, e1.1, txt_toList]
theorem words_of_trod {cs : List Value} {p : List MemPlace} (h : DataW.trod enc Tryz.prog w base sp held fuel 73 cs = some (Rows.laid_chartroom_folder_words, p)) : cs = wordCells := by
  cases fuel with
  | zero => simp [DataW.trod] at h
  | succ fuel =>
    simp only [DataW.trod, Tryz.underlying73, cellsWds, cellsWd] at h
    split at h
    · rename_i hl
      obtain ⟨c0, c1, c2, c3, c4, c5, c6, c7, c8, rfl⟩ : ∃ c0 c1 c2 c3 c4 c5 c6 c7 c8, cs = [c0, c1, c2, c3, c4, c5, c6, c7, c8] := by
        match cs, hl with
        | [a, b, c, d, e, f, g, h, i], _ => exact ⟨a, b, c, d, e, f, g, h, i, rfl⟩
      have e : List.range 9 = [0, 1, 2, 3, 4, 5, 6, 7, 8] := rfl
      rw [e] at h
      simp only [Option.map_eq_some_iff, List.mapM_cons, List.mapM_nil, Option.bind_eq_bind, Option.bind_eq_some_iff, Option.pure_def, Option.some.injEq] at h
      obtain ⟨xs, ⟨y0, h0, _, ⟨y1, h1, _, ⟨y2, h2, _, ⟨y3, h3, _, ⟨y4, h4, _, ⟨y5, h5, _, ⟨y6, h6, _, ⟨y7, h7, _, ⟨y8, h8, _, rfl, rfl⟩, rfl⟩, rfl⟩, rfl⟩, rfl⟩, rfl⟩, rfl⟩, rfl⟩, rfl⟩, hx⟩ := h
      obtain ⟨y0, _⟩ := y0
      obtain ⟨y1, _⟩ := y1
      obtain ⟨y2, _⟩ := y2
      obtain ⟨y3, _⟩ := y3
      obtain ⟨y4, _⟩ := y4
      obtain ⟨y5, _⟩ := y5
      obtain ⟨y6, _⟩ := y6
      obtain ⟨y7, _⟩ := y7
      obtain ⟨y8, _⟩ := y8
      simp [Rows.laid_chartroom_folder_words] at hx
      obtain ⟨⟨rfl, rfl, rfl, rfl, rfl, rfl, rfl, rfl, rfl⟩, _⟩ := hx
      have e0 := word_of_trod h0
      have e1 := word_of_trod h1
      have e2 := word_of_trod h2
      have e3 := word_of_trod h3
      have e4 := word_of_trod h4
      have e5 := word_of_trod h5
      have e6 := word_of_trod h6
      have e7 := word_of_trod h7
      have e8 := word_of_trod h8
      rw [e0, e1, e2, e3, e4, e5, e6, e7, e8]
      rfl
    · cases h
end
theorem env_of_laid {W : World} (hL : laidMet Tryz.prog laidL W) : EnvW W := by
  obtain ⟨g, t, cs, fuel, p, hg, ht, hvar, hd⟩ := Lib.laidMet.reads hL (n := "chartroom/folder.words") (d := Rows.laid_chartroom_folder_words) (by simp [laidL])
  obtain rfl := Option.some.inj (gWds.symm.trans hg)
  obtain rfl := Option.some.inj (gWdsT.symm.trans ht)
  have hcs := words_of_trod hd
  intro j x hj
  rw [World.var?_cell gWds hvar j, ← Array.getElem?_toList, hcs]
  show (wordsL.map fun x => Value.string (txt x))[j]? = _
  rw [List.getElem?_map, hj]
  rfl
/-- The wrap: what is listed, and the world's shape, handed on. -/
theorem handed_laid {H : Type} {enc : TypeId × Value → H} {C : Checked} {os : Os} {f : FuncId} {fn : Func} {s : ChangeSpec} {conds : List PathCond} {apart fresh handsOn again : Bool} {l : List (String × DataW Unit)}
    (own : ownKnob C.prog.godebug = none) (started : os.Started) (noInit : C.prog.inits.idxOf? f = none) (hfn : C.prog.funcs[f]? = some fn)
    (witness : ∃ (w : World) (tape : Tape) (i : Input), w.os = os ∧ (w.forCall tape i).Shaped C.prog ∧ i.vars = [] ∧ Input.okWide C.prog (w.forCall tape i) .any w.heap.size f i ∧
      ((s.pre enc C.prog fn conds apart (w.forCall tape i).memory i.args ∧ laidMet C.prog l (w.forCall tape i).memory) ∧ sizedMet enc C.prog fn (OpenSpec.ofChange s) apart (w.forCall tape i).memory i.args) ∧ Assume.holds {} C.prog (lone (Frame.enter C.prog f i.args .normal) [] (w.forCall tape i)))
    (contract : ∀ (W : World) (base : Nat) (args : Array Value) (ds gs : List (DataW H)) (before : List MemPlace),
      (∀ (j : Nat) t v, fn.params[j]? = some t → args[j]? = some v → Value.okWide C.prog W .any base t v) → DataW.Whole enc C.prog fn.params.toList s.vars apart W args.toList ds gs before →
      (DataW.weightsEach C.prog (fn.params.toList ++ s.plain.varTypes C.prog) (ds ++ gs)).all (· ≤ reachBytes) = true → laidMet C.prog l W → W.ShapedOpen C.prog →
      Calls C.prog f args W fun e W' => ∃ v, e = .returned v ∧ s.post enc C.prog fn apart fresh handsOn again W args v W') :
    ReturnsInHanded {} C os f .any (fun w args => (s.pre enc C.prog fn conds apart w args ∧ laidMet C.prog l w) ∧ sizedMet enc C.prog fn (OpenSpec.ofChange s) apart w args) (s.post enc C.prog fn apart fresh handsOn again) := by
  refine returnsInHanded_of_calls own started noInit witness ?_
  intro w tape i _ hsh _ hok hpre _
  obtain ⟨_, _, _, fn', hfn', _, _, _, _, hval⟩ := hok
  obtain rfl : fn' = fn := Option.some.inj (hfn'.symm.trans hfn)
  obtain ⟨⟨⟨ds, gs, before, hw, _⟩, hl⟩, hz⟩ := hpre
  refine (contract (w.forCall tape i) w.heap.size i.args ds gs before hval (DataW.Whole.of_heap (w' := w.forCall tape i) (by rfl) hw) (hz.weights hw) (hl.of_heap (by rfl)) hsh).mono fun e W' ⟨v, he, hp⟩ => ?_
  subst he
  exact ChangeSpec.post_blind hp
def setB (h : Array Obj) (g : Nat) (cs : Array Value) : Array Obj := h.modify g fun
  | .cells _ t frozen => .cells cs t frozen
  | o => o
noncomputable def laidWorld (os : Os) : World :=
  let w0 := World.holding Tryz.prog os ⟨#[], #[], []⟩
  { w0 with heap := setB w0.heap 0 wordCells.toArray }
theorem laidWorld_met (os : Os) (args : Array Value) : laidMet Tryz.prog laidL ((laidWorld os).forCall (fun _ _ => 0) ⟨#[], args, []⟩).memory :=
  laidMet_of_run (ps := (List.range 9).map (MemPlace.cell 0 ·)) 8 (by kernel_rfl) (by kernel_rfl) (by kernel_rfl)
theorem cells_callv {cs : Array Value} (h : cs.size = 4) : cs.toList.length = 4 := by rw [Array.length_toList, h]
section
variable {H : Type} {enc : TypeId × Value → H}
set_option maxRecDepth 100000 in
/-- A call that came in. -/
theorem open_call {W : World} {v : Value} {d : DataW H} {ps : List MemPlace} {r : Reach} {b : Nat} (hval : Value.okWide Tryz.prog W r b 24 v) (h : DataW.Trod enc Tryz.prog W 0 (fun _ => true) true 24 v d ps) :
    ∃ (k : Nat) (n t : List UInt8) (r : Go.Proofs.YtbhmnmmockmibaaGreatDoor.Row), v = .agg #[.int .u8 (k : Int), .string (txt n), .string (txt t), .slice r.A r.l.length r.c] ∧ k ≤ 255 ∧ n.length ≤ 9223372036854775807 ∧ t.length ≤ 9223372036854775807 ∧ r.l.length ≤ 9223372036854775807 ∧ RdB W W.heap.size r.A r.l := by
  obtain ⟨cs, rfl, hsz⟩ := okWide_struct Tryz.underlying24 hval
  obtain ⟨fuel, hf⟩ := h
  obtain ⟨k, n, t, r, e, h1⟩ := open_callf (x := some _) (cs := cs.toList) rfl (cells_callv (hsz.trans cells_callf)) hf
  exact ⟨k, n, t, r, by rw [← Array.toArray_toList (xs := cs), e], h1⟩
end
end Go.Proofs.YtbhmnmmockmibaaGreatDoor
