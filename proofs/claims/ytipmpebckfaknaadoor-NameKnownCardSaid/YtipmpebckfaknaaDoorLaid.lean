/- From what a row lists of package-level variables to what the walks ask of them; one start that fits; the wrap that hands on both what is listed and the world's shape. Conditions: none. -/
import Derived.Test.YtipmpebckfaknaaDoorNmG
import Derived.Test.YtipmpebckfaknaaDoorRows
import Derived.Test.YtipmpebckfaknaaDoorRow
import Derived.Stop.LaidErr
import Derived.Lib.LaidU8
import Derived.Handed
namespace Go.Proofs.YtipmpebckfaknaaDoor
open Go.RowKit Go.Lib

/-- What every row of this seat lists. -/
def laidL : List (String × DataW Unit) := [("math/bits.deBruijn32tab", Rows.laid_math_bits_deBruijn32tab), ("math/bits.deBruijn64tab", Rows.laid_math_bits_deBruijn64tab), ("internal/strconv.uint64pow10", Rows.laid_internal_strconv_uint64pow10), ("strconv.ErrRange", Rows.laid_strconv_ErrRange), ("strconv.ErrSyntax", Rows.laid_strconv_ErrSyntax), ("chartroom/name.shapes", Rows.laid_chartroom_name_shapes)]

theorem gRng : Tryd.prog.globalNamed "strconv.ErrRange" = some 4 := by kernel_rfl
theorem gRngT : (Tryd.prog.globals[4]?).map (·.type) = some 77 := by kernel_rfl
theorem gSyn : Tryd.prog.globalNamed "strconv.ErrSyntax" = some 3 := by kernel_rfl
theorem gSynT : (Tryd.prog.globals[3]?).map (·.type) = some 77 := by kernel_rfl
theorem gPow : Tryd.prog.globalNamed "internal/strconv.uint64pow10" = some 1 := by kernel_rfl
theorem gPowT : (Tryd.prog.globals[1]?).map (·.type) = some 103 := by kernel_rfl
theorem gShp : Tryd.prog.globalNamed "chartroom/name.shapes" = some 0 := by kernel_rfl
theorem gShpT : (Tryd.prog.globals[0]?).map (·.type) = some 59 := by kernel_rfl
theorem cellsES : Tryd.prog.cellsOf 132 = 1 := by kernel_rfl
theorem cellsS : Tryd.prog.cellsOf 9 = 1 := by kernel_rfl
theorem cellsI : Tryd.prog.cellsOf 3 = 1 := by kernel_rfl
theorem cellsSh : Tryd.prog.cellsOf 58 = 2 := by kernel_rfl
theorem cellsShs : Tryd.prog.cellsOf 59 = 10 := by kernel_rfl
theorem starES : "*" ++ "errors.errorString" = "*errors.errorString" := by decide
theorem rowES (u : TypeId) (h : Tryd.prog.typeName? 3 u = some "*errors.errorString") : u = 130 :=
  typeName_ptr_named (nm := "errors.errorString") (by rw [starES]; kernel_rfl) (by kernel_rfl) (by decide) u (by rw [starES]; exact h)

theorem two_of_length {α : Type} {l : List α} (h : l.length = 2) : ∃ a b, l = [a, b] := by
  match l, h with
  | [a, b], _ => exact ⟨a, b, rfl⟩
section
variable {H : Type} {enc : TypeId × Value → H} {w : World} {base : Nat} {sp : Nat → Bool} {held : Bool} {fuel : Nat}
/-- A shape that was read. -/
theorem shape_of_trod {cs : List Value} {s : List UInt8} {n : Int} {p : List MemPlace}
    (h : DataW.trod enc Tryd.prog w base sp held fuel 58 cs = some (.agg [.lit (.string s), .lit (.int .i64 n)], p)) : cs = [.string (txt s), .int .i64 n] := by
  obtain ⟨xs, m, rfl, hx, hl, hxl, hall⟩ := DataW.trod_struct Tryd.underlying58 h
  have h0 : DataW.trod enc Tryd.prog w base sp held m 9 ((cs.drop 0).take (Tryd.prog.cellsOf 9)) = xs[0]? := hall 0 _ rfl
  have h1 : DataW.trod enc Tryd.prog w base sp held m 3 ((cs.drop 1).take (Tryd.prog.cellsOf 3)) = xs[1]? := hall 1 _ rfl
  clear hall
  rw [cellsSh] at hl
  replace hxl : xs.length = 2 := hxl
  obtain ⟨c0, c1, rfl⟩ := two_of_length hl
  obtain ⟨x0, x1, rfl⟩ := two_of_length hxl
  simp only [cellsS, cellsI, List.drop_zero, List.take_succ_cons, List.take_zero, List.drop_succ_cons, List.getElem?_cons_zero, List.getElem?_cons_succ] at h0 h1
  obtain ⟨s', e0, rfl, _⟩ := DataW.trod_string Tryd.underlying9 h0
  obtain ⟨n', e1, rfl, _⟩ := DataW.trod_int Tryd.underlying3 h1
  simp only [List.map_cons, List.map_nil, Prod.mk.injEq, DataW.agg.injEq, List.cons.injEq, DataW.lit.injEq, Lit.string.injEq, Lit.int.injEq, true_and, and_true] at hx
  obtain ⟨⟨rfl, rfl⟩, _⟩ := hx
  simp only [List.cons.injEq, and_true] at e0 e1
  rw [e0, e1]
  rfl
theorem shapes_of_trod {cs : List Value} {p : List MemPlace} (h : DataW.trod enc Tryd.prog w base sp held fuel 59 cs = some (Rows.laid_chartroom_name_shapes, p)) : cs = shapeCells := by
  cases fuel with
  | zero => simp [DataW.trod] at h
  | succ fuel =>
    simp only [DataW.trod, Tryd.underlying59, cellsShs, cellsSh] at h
    split at h
    · rename_i hl
      obtain ⟨c0, c1, c2, c3, c4, c5, c6, c7, c8, c9, rfl⟩ : ∃ c0 c1 c2 c3 c4 c5 c6 c7 c8 c9, cs = [c0, c1, c2, c3, c4, c5, c6, c7, c8, c9] := by
        match cs, hl with
        | [a, b, c, d, e, f, g, h, i, j], _ => exact ⟨a, b, c, d, e, f, g, h, i, j, rfl⟩
      have e : List.range 5 = [0, 1, 2, 3, 4] := rfl
      rw [e] at h
      simp only [Option.map_eq_some_iff, List.mapM_cons, List.mapM_nil, Option.bind_eq_bind, Option.bind_eq_some_iff, Option.pure_def, Option.some.injEq] at h
      obtain ⟨xs, ⟨y0, h0, _, ⟨y1, h1, _, ⟨y2, h2, _, ⟨y3, h3, _, ⟨y4, h4, _, rfl, rfl⟩, rfl⟩, rfl⟩, rfl⟩, rfl⟩, hx⟩ := h
      obtain ⟨y0, _⟩ := y0
      obtain ⟨y1, _⟩ := y1
      obtain ⟨y2, _⟩ := y2
      obtain ⟨y3, _⟩ := y3
      obtain ⟨y4, _⟩ := y4
      simp [Rows.laid_chartroom_name_shapes] at hx
      obtain ⟨⟨rfl, rfl, rfl, rfl, rfl⟩, _⟩ := hx
      have e0 := shape_of_trod h0
      have e1 := shape_of_trod h1
      have e2 := shape_of_trod h2
      have e3 := shape_of_trod h3
      have e4 := shape_of_trod h4
      simp at e0 e1 e2 e3 e4
      obtain ⟨rfl, rfl⟩ := e0
      obtain ⟨rfl, rfl⟩ := e1
      obtain ⟨rfl, rfl⟩ := e2
      obtain ⟨rfl, rfl⟩ := e3
      obtain ⟨rfl, rfl⟩ := e4
      rfl
    · cases h
end

theorem env0_of_laid {W : World} (hL : laidMet Tryd.prog laidL W) (hsh : W.ShapedOpen Tryd.prog) : Env0 W := by
  obtain ⟨m, hm⟩ : ∃ m, W.cell? ⟨2, 0, none⟩ = some (.int .i64 m) :=
    Go.Proofs.cell_of_shapedOpen_int (zero := #[.int .i64 0]) (t := 3) hsh (of_decide_eq_true (by kernel_rfl)) (by kernel_rfl) rfl (by kernel_rfl) (by kernel_rfl) Tryd.underlying3
  obtain ⟨a0, s0, hv0, -, -, -⟩ := laid_sentinel hL.tail.tail.tail gRng gRngT Tryd.underlying77 rowES Tryd.underlying130 Tryd.underlying132 rfl rfl Tryd.underlying9 cellsES cellsS
  obtain ⟨a1, s1, hv1, -, -, -⟩ := laid_sentinel hL.tail.tail.tail.tail gSyn gSynT Tryd.underlying77 rowES Tryd.underlying130 Tryd.underlying132 rfl rfl Tryd.underlying9 cellsES cellsS
  have hpow : Lib.TabIs Tryd.prog W "internal/strconv.uint64pow10" .u64 Lib.pow10Tab :=
    Lib.tabIs_of_head (rest := laidL.drop 3) gPow gPowT Tryd.underlying103 Tryd.underlying22 (by kernel_rfl) (by kernel_rfl) hL.tail.tail
  obtain ⟨g, t, cs, fuel, p, hg, ht, hvar, hd⟩ := Lib.laidMet.reads hL (n := "chartroom/name.shapes") (d := Rows.laid_chartroom_name_shapes) (by simp [laidL])
  obtain rfl := Option.some.inj (gShp.symm.trans hg)
  obtain rfl := Option.some.inj (gShpT.symm.trans ht)
  have hcs := shapes_of_trod hd
  have h0 := World.var?_cell gSyn hv1 0
  have h1 := World.var?_cell gRng hv0 0
  refine ⟨⟨m, hm⟩, ⟨_, _, h0⟩, ⟨_, _, h1⟩, hpow, ?_⟩
  · intro j v hj
    rw [World.var?_cell gShp hvar j, ← Array.getElem?_toList, hcs, hj]
theorem cell_on {w w' : World} (h : Below w.heap.size w w') {a : Addr} {v : Value} (hc : w.cell? a = some v) : w'.cell? a = some v := by
  rw [h.cell (World.block_lt_of_cell? w a hc)]
  exact hc
theorem env_of_laid {W : World} (hL : laidMet Tryd.prog laidL W) (hsh : W.ShapedOpen Tryd.prog) : Env W := by
  have h0 := env0_of_laid hL hsh
  intro w hb
  obtain ⟨⟨m, hm⟩, ⟨t1, p1, h1⟩, ⟨t2, p2, h2⟩, hpow, hshp⟩ := h0
  refine ⟨⟨m, cell_on hb hm⟩, ⟨t1, p1, cell_on hb h1⟩, ⟨t2, p2, cell_on hb h2⟩, ?_, fun j v hj => cell_on hb (hshp j v hj)⟩
  have hlt : 1 < W.heap.size := World.block_lt_of_cell? W _ (hpow.cell gPow 0 (by simp [pow10Tab_length]))
  unfold Lib.TabIs World.var? at hpow ⊢
  rw [gPow] at hpow ⊢
  simp only [Option.bind_some] at hpow ⊢
  rw [hb.block _ hlt]
  exact hpow

/-- The wrap: what is listed, and the world's shape, handed on. -/
theorem handed_laid {H : Type} {enc : TypeId × Value → H} {C : Checked} {os : Os} {f : FuncId} {fn : Func} {s : ChangeSpec} {conds : List PathCond} {apart fresh handsOn again : Bool} {l : List (String × DataW Unit)}
    (own : ownKnob C.prog.godebug = none) (started : os.Started) (noInit : C.prog.inits.idxOf? f = none) (hfn : C.prog.funcs[f]? = some fn)
    (witness : ∃ (w : World) (tape : Tape) (i : Input), w.os = os ∧ (w.forCall tape i).Shaped C.prog ∧ i.vars = [] ∧ Input.okWide C.prog (w.forCall tape i) .any w.heap.size f i ∧
      ((s.pre enc C.prog fn conds apart (w.forCall tape i).memory i.args ∧ laidMet C.prog l (w.forCall tape i).memory) ∧ sizedMet enc C.prog fn (OpenSpec.ofChange s) apart (w.forCall tape i).memory i.args) ∧ Assume.holds {} C.prog (lone (Frame.enter C.prog f i.args .normal) [] (w.forCall tape i)))
    (contract : ∀ (W : World) (base : Nat) (args : Array Value) (ds gs : List (DataW H)) (before : List MemPlace),
      (∀ (j : Nat) t v, fn.params[j]? = some t → args[j]? = some v → Value.okWide C.prog W .any base t v) → DataW.Whole enc C.prog fn.params.toList s.vars apart W args.toList ds gs before →
      (DataW.weightsEach C.prog (fn.params.toList ++ s.plain.varTypes C.prog) (ds ++ gs)).all (· ≤ reachBytes) = true → laidMet C.prog l W → W.ShapedOpen C.prog →
      Calls C.prog f args W fun e W' => ∃ v, e = .returned v ∧ s.post enc C.prog fn apart fresh handsOn again W args v W') :
    ReturnsInHanded {} C os f .any (fun w args => (s.pre enc C.prog fn conds apart w args ∧ laidMet C.prog l w) ∧ sizedMet enc C.prog fn (OpenSpec.ofChange s) apart w args) (s.post enc C.prog fn apart fresh handsOn again) := by
  refine returnsInHanded_of_calls own started noInit witness ?_
  intro w tape i _ hsh _ hok hpre _
  obtain ⟨_, _, _, fn', hfn', _, _, _, _, hval⟩ := hok
  obtain rfl : fn' = fn := Option.some.inj (hfn'.symm.trans hfn)
  obtain ⟨⟨⟨ds, gs, before, hw, _⟩, hl⟩, hz⟩ := hpre
  refine (contract (w.forCall tape i) w.heap.size i.args ds gs before hval (DataW.Whole.of_heap (w' := w.forCall tape i) (by rfl) hw) (hz.weights hw) (hl.of_heap (by rfl)) hsh).mono fun e W' ⟨v, he, hp⟩ => ?_
  subst he
  exact ChangeSpec.post_blind hp

/-! ### One start that fits -/
abbrev synS : ByteArray := { data := #[105, 110, 118, 97, 108, 105, 100, 32, 115, 121, 110, 116, 97, 120] }
abbrev rngS : ByteArray := { data := #[118, 97, 108, 117, 101, 32, 111, 117, 116, 32, 111, 102, 32, 114, 97, 110, 103, 101] }
noncomputable def low : Nat := (World.holding Tryd.prog default ⟨#[], #[], []⟩).heap.size
def u8s (l : List Int) : Array Value := (l.map fun n => Value.int .u8 n).toArray
def nums (d : DataW Unit) : List Int := match d with
  | .agg l => l.map fun x => match x with
    | .lit (.int _ n) => n
    | _ => 0
  | _ => []
def setB (h : Array Obj) (g : Nat) (cs : Array Value) : Array Obj := h.modify g fun
  | .cells _ t frozen => .cells cs t frozen
  | o => o
noncomputable def laidWorld (os : Os) : World :=
  let w0 := World.holding Tryd.prog os ⟨#[.cells #[.string rngS] 132, .cells #[.string synS] 132], #[], []⟩
  let h := setB w0.heap 5 (u8s (nums Rows.laid_math_bits_deBruijn32tab))
  let h := setB h 6 (u8s (nums Rows.laid_math_bits_deBruijn64tab))
  let h := setB h 1 ((nums Rows.laid_internal_strconv_uint64pow10).map fun n => Value.int .u64 n).toArray
  let h := setB h 4 #[.iface 130 (.pointer (some ⟨low, 0, none⟩))]
  let h := setB h 3 #[.iface 130 (.pointer (some ⟨low + 1, 0, none⟩))]
  { w0 with heap := setB h 0 shapeCells.toArray }
theorem laidWorld_met (os : Os) (args : Array Value) : laidMet Tryd.prog laidL ((laidWorld os).forCall (fun _ _ => 0) ⟨#[], args, []⟩).memory :=
  laidMet_of_run (ps := (List.range 32).map (MemPlace.cell 5 ·) ++ (List.range 64).map (MemPlace.cell 6 ·) ++ (List.range 20).map (MemPlace.cell 1 ·) ++ [.cell 4 0, .cell low 0, .cell 3 0, .cell (low + 1) 0] ++ (List.range 10).map (MemPlace.cell 0 ·)) 8 (by kernel_rfl) (by kernel_rfl) (by kernel_rfl)
end Go.Proofs.YtipmpebckfaknaaDoor
