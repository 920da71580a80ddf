/- The walks of the writer's and the reader's methods. Conditions: numbers below 2^64, rows of at most 2^46 bytes. -/
import Derived.Test.YtfhcpjnjemojgaaKRcF
import Derived.Test.YtfhcpjnjemojgaaKRcD
import Derived.Test.YtfhcpjnjemojgaaKRefC
import Derived.Test.YtfhcpjnjemojgaaKGa
namespace Go.Proofs.Ytfhcpjnjemojgaa
open Go.RowKit Go.Lib

section
variable {b : Act} {w : World} {o : Oper}
theorem exec_loadB {x : Operand} {a : Addr} {v : Value} (ho : o.op = .load 27 x) (h : b.eval x = .pointer (some a)) (h1 : w.cell? a = some v) : (execOp b.eval o).run Try.prog w = .ok (.value v) w := by
  unfold execOp
  simp only [ho, h]
  go_simp
theorem exec_load64 {x : Operand} {a : Addr} {v : Value} (ho : o.op = .load 22 x) (h : b.eval x = .pointer (some a)) (h1 : w.cell? a = some v) : (execOp b.eval o).run Try.prog w = .ok (.value v) w := by
  unfold execOp
  simp only [ho, h]
  go_simp
theorem exec_loadI {x : Operand} {a : Addr} {v : Value} (ho : o.op = .load 3 x) (h : b.eval x = .pointer (some a)) (h1 : w.cell? a = some v) : (execOp b.eval o).run Try.prog w = .ok (.value v) w := by
  unfold execOp
  simp only [ho, h]
  go_simp
theorem exec_fieldW {x : Operand} {g : Nat} (ho : o.op = .fieldAddr 64 x 0) (h : b.eval x = .pointer (some ⟨g, 0, none⟩)) : (execOp b.eval o).run Try.prog w = .ok (.value (.pointer (some ⟨g, 0, none⟩))) w := by
  unfold execOp
  simp only [ho, h]
  go_simp
theorem exec_fieldR0 {x : Operand} {g : Nat} (ho : o.op = .fieldAddr 75 x 0) (h : b.eval x = .pointer (some ⟨g, 0, none⟩)) : (execOp b.eval o).run Try.prog w = .ok (.value (.pointer (some ⟨g, 0, none⟩))) w := by
  unfold execOp
  simp only [ho, h]
  go_simp
theorem exec_fieldR1 {x : Operand} {g : Nat} (ho : o.op = .fieldAddr 75 x 1) (h : b.eval x = .pointer (some ⟨g, 0, none⟩)) : (execOp b.eval o).run Try.prog w = .ok (.value (.pointer (some ⟨g, 1, none⟩))) w := by
  unfold execOp
  simp only [ho, h]
  go_simp
theorem exec_storeB {x y : Operand} {a : Addr} {u : Value} {A : Option Addr} {n c : Nat} (ho : o.op = .store 27 x y) (h : b.eval x = .pointer (some a)) (h' : b.eval y = .slice A n c) (h1 : w.cell? a = some u) (h2 : w.frozen? a = false) : (execOp b.eval o).run Try.prog w = .ok .skip (w.setCell a (.slice A n c)) := by
  unfold execOp
  simp only [ho, h, h']
  go_simp
theorem exec_store64 {x y : Operand} {a : Addr} {u : Value} {n : Int} (ho : o.op = .store 22 x y) (h : b.eval x = .pointer (some a)) (h' : b.eval y = .int .u64 n) (h1 : w.cell? a = some u) (h2 : w.frozen? a = false) : (execOp b.eval o).run Try.prog w = .ok .skip (w.setCell a (.int .u64 n)) := by
  unfold execOp
  simp only [ho, h, h']
  go_simp
theorem exec_storeI {x y : Operand} {a : Addr} {u : Value} {n : Int} (ho : o.op = .store 3 x y) (h : b.eval x = .pointer (some a)) (h' : b.eval y = .int .i64 n) (h1 : w.cell? a = some u) (h2 : w.frozen? a = false) : (execOp b.eval o).run Try.prog w = .ok .skip (w.setCell a (.int .i64 n)) := by
  unfold execOp
  simp only [ho, h, h']
  go_simp
theorem exec_storeT {x y : Operand} {a : Addr} {u : Value} {s : ByteArray} (ho : o.op = .store 9 x y) (h : b.eval x = .pointer (some a)) (h' : b.eval y = .string s) (h1 : w.cell? a = some u) (h2 : w.frozen? a = false) : (execOp b.eval o).run Try.prog w = .ok .skip (w.setCell a (.string s)) := by
  unfold execOp
  simp only [ho, h, h']
  go_simp
theorem exec_ext {x : Operand} {cs : Array Value} {v : Value} (i : Nat) (ho : o.op = .extract x i) (h : b.eval x = .tuple cs) (hv : cs[i]? = some v) : (execOp b.eval o).run Try.prog w = .ok (.value v) w := by
  unfold execOp
  simp only [ho, h]
  simp [Instr.extract, hv]
theorem wp_stored {P : Program} {K : Act → World → Prop} {Q : Exit → Act → World → Prop} {w' : World} (hr : (execOp b.eval o).run P w = .ok .skip w') (hk : K (b.put o.dst undef) w') : o.wp P b w K Q := by
  unfold Oper.wp
  rw [hr, Oper.upon_skip]
  exact hk
end
theorem enter_vput (w : World) (args : Array Value) : (callFunc 55 args).run Try.prog w = .ok (.enter 55 args) w := by kernel_rfl
theorem enter_vtext (w : World) (args : Array Value) : (callFunc 83 args).run Try.prog w = .ok (.enter 83 args) w := by kernel_rfl
theorem enter_vtake (w : World) (args : Array Value) : (callFunc 50 args).run Try.prog w = .ok (.enter 50 args) w := by kernel_rfl
theorem enter_vtakeText (w : World) (args : Array Value) : (callFunc 86 args).run Try.prog w = .ok (.enter 86 args) w := by kernel_rfl

/-- A writer, with what it has written. -/
structure WrAt (base wb : Nat) (l : List UInt8) (w : World) (v : Value) : Prop where
  at_ : w.heap[wb]? = some (.cells #[v] 64 (0, 0))
  own : w.ownsRow base 5 1 v l.length (bs l)
  lt : wb < base
  le : base ≤ w.heap.size
/-- What the writer's operations say. -/
def WrF (base wb : Nat) (V0 : Value) (a : Addr) (x : Value) (l m : List UInt8) : Nat → Value → World → Prop
  | 0, v, _ | 1, v, _ | 2, v, _ | 3, v, _ | 10, v, _ | 11, v, _ => v = .pointer (some ⟨wb, 0, none⟩)
  | 4, v, _ => v = V0
  | 5, v, _ | 6, v, _ => v = .pointer (some a)
  | 7, v, _ => v = x
  | 8, v, w => ∃ A c, v = .slice A m.length c ∧ RdB w w.heap.size A m ∧ ∀ ad, A = some ad → V0.ownBlock ≠ some ad.block ∧ ad.block ≠ wb
  | 9, v, w => w.ownsRow base 5 1 v (l ++ m).length (bs (l ++ m))
  | _, _, _ => True
theorem WrF.keep {base wb : Nat} {V0 : Value} {a : Addr} {x : Value} {l m : List UInt8} (j : Nat) (u : Value) (w w' : World) (hb : Below w.heap.size w w') (h : WrF base wb V0 a x l m j u w) : WrF base wb V0 a x l m j u w' :=
  match j, h with
  | 0, h | 1, h | 2, h | 3, h | 4, h | 5, h | 6, h | 7, h | 10, h | 11, h => h
  | 8, h => let ⟨A, c, e, hr, hn⟩ := h; ⟨A, c, e, (hr.below hb).more hb.size, hn⟩
  | 9, h => own_below h hb (Nat.le_refl _)
  | _ + 12, h => h
theorem Reads.apart {w : World} {B size n : Nat} {A : Option Addr} {xs : List Value} {p : Addr} {u : Value} (h : Reads w B size A n xs) (ha : ∀ ad, A = some ad → ad.block ≠ p.block) : Reads (w.setCell p u) B size A n xs := by
  refine ⟨h.1, fun hn => ?_⟩
  obtain ⟨ad, e, hb, hc⟩ := h.2 hn
  refine ⟨ad, e, hb, fun j v hv => ?_⟩
  rw [World.cell?_setCell_other w p _ u (by rintro rfl; exact ha ad e (by rw [block_of_add])), hc j v hv]
theorem WrF.app {base wb : Nat} {V0 : Value} {a : Addr} {x : Value} {l m : List UInt8} {j : Nat} {u : Value} {w w' : World} (hg : w.grownBy w' V0.ownBlock) (hj : j ≠ 9) (h : WrF base wb V0 a x l m j u w) : WrF base wb V0 a x l m j u w' :=
  match j, h, hj with
  | 0, h, _ | 1, h, _ | 2, h, _ | 3, h, _ | 4, h, _ | 5, h, _ | 6, h, _ | 7, h, _ | 10, h, _ | 11, h, _ => h
  | 8, h, _ => let ⟨A, c, e, hr, hn⟩ := h; ⟨A, c, e, (hr.grown_apart hg (Nat.le_refl _) fun ad e => (hn ad e).1).more hg.size, hn⟩
  | 9, _, hj => absurd rfl hj
  | _ + 12, h, _ => h
theorem WrF.store {base wb : Nat} {V0 : Value} {a : Addr} {x : Value} {l m : List UInt8} {j : Nat} {u y : Value} {w : World} (hb : wb < base) (h : WrF base wb V0 a x l m j u w) : WrF base wb V0 a x l m j u (w.setCell ⟨wb, 0, none⟩ y) :=
  match j, h with
  | 0, h | 1, h | 2, h | 3, h | 4, h | 5, h | 6, h | 7, h | 10, h | 11, h => h
  | 8, h => let ⟨A, c, e, hr, hn⟩ := h; ⟨A, c, e, by
      have := hr.apart (p := ⟨wb, 0, none⟩) (u := y) fun ad e => (hn ad e).2
      simpa [World.setCell] using this, hn⟩
  | 9, h => own_setCell h (fun e => by have := (h.lt wb e).1; omega) y
  | _ + 12, h => h
set_option maxHeartbeats 2000000 in
set_option maxRecDepth 100000 in
theorem wrNum_any {base wb : Nat} {l : List UInt8} {V0 : Value} {w : World} (h : WrAt base wb l w V0) (hl : l.length ≤ 1000000000) {a : Addr} (ha : a.block < base) (n : Nat) (hn : n < 18446744073709551616) (hc : w.cell? a = some (.int .u64 (n : Int))) :
    Calls Try.prog 81 #[.pointer (some ⟨wb, 0, none⟩), .pointer (some a)] w fun e w' => e = .returned (.int .i64 0) ∧ (∃ v, WrAt base wb (l ++ enc n) w' v) ∧ But base [wb] w w' := by
  obtain ⟨m, hm⟩ : ∃ m : List UInt8, Hid (m = enc n) := ⟨_, rfl⟩
  have hml : m.length ≤ 1000100 := by rw [hm.out]; have := sz_10 hn; unfold sz at this; omega
  have hput : ∀ wx, Calls Try.prog 55 #[.int .u64 (n : Int)] wx fun e w' => ∃ v, e = .returned v ∧ w'.ownsRow wx.heap.size 5 1 v m.length (bs m) ∧ Below wx.heap.size wx w' := by
    intro wx
    rw [hm.out]
    exact put_any n _ hn
  rw [← hm.out]
  have H := Lib.hid h
  have Hc := Lib.hid hc
  have Hl := Lib.hid hl
  have Hml := Lib.hid hml
  have Ha := Lib.hid ha
  clear h hc hl hml ha hn
  obtain ⟨x, hx⟩ : ∃ x : Value, Hid (x = .int .u64 (n : Int)) := ⟨_, rfl⟩
  rw [← hx.out] at hput Hc
  go_enter Try.func81, Try.ntmps81
  go_upto_region 1 with fail
  go_cut [] from 5 to 16 (fun wx => (∃ v, WrAt base wb (l ++ m) wx v) ∧ But base [wb] w wx)
  case first =>
    rename_i J K1 hJ hK
    refine wp_region_ph (n := 17) (WrF base wb V0 a x l m) (Ph 9 12 4 4 (fun w' => Below w.heap.size w w') (fun _ w' => Below base w w') (fun _ _ w' => (∃ v, WrAt base wb (l ++ m) w' v) ∧ But base [wb] w w')) (by kernel_rfl) (by kernel_rfl) rfl ?_ ?_ ?_
    · intro L hL
      exact Ph.start hL (Below.refl _ _).drew
    · skip
      have hA : ∀ u u' : World, Below u.heap.size u u' → Below w.heap.size w u → Below w.heap.size w u' := fun u u' hb h => h.trans (hb.mono h.size)
      refine OpsPh.cons _ _ (OpPh.free (by decide) (by decide) rfl (by decide) fun b v hs hg => ⟨rfl, _, exec_move rfl (hs 0 (by kernel_rfl)), rfl⟩) ?_
      refine OpsPh.cons _ _ (OpPh.free (by decide) (by decide) rfl (by decide) fun b v hs hg => ⟨rfl, _, exec_move rfl (hs 0 (by kernel_rfl)), rfl⟩) ?_
      refine OpsPh.cons _ _ (OpPh.free (by decide) (by decide) rfl (by decide) fun b v hs hg => ⟨rfl, _, exec_nilP rfl (dep hg 0 rfl rfl rfl rfl), rfl⟩) ?_
      refine OpsPh.cons _ _ (OpPh.free (by decide) (by decide) rfl (by decide) fun b v hs hg => ⟨rfl, _, exec_fieldW rfl (dep hg 0 rfl rfl rfl rfl), rfl⟩) ?_
      refine OpsPh.cons _ _ (OpPh.pre (by decide) (by decide) (fun L hcl hn => have h9 : L.getD 9 false = false := notyet hcl (ho := rfl) (he := (rfl : _[0]? = _)) rfl hn; ⟨h9, notyet hcl (ho := rfl) (he := (rfl : _[1]? = _)) rfl h9⟩) WrF.keep hA fun b v hs hv hg => ⟨rfl, _, _, exec_loadB rfl (dep hg 0 rfl rfl rfl rfl) ((hv.cell (p := ⟨wb, 0, none⟩) (Nat.lt_of_lt_of_le H.out.lt H.out.le)).trans (cell_of_row w wb 0 _ _ _ H.out.at_)), .refl _ _, rfl⟩) ?_
      refine OpsPh.cons _ _ (OpPh.free (by decide) (by decide) rfl (by decide) fun b v hs hg => ⟨rfl, _, exec_move rfl (hs 1 (by kernel_rfl)), rfl⟩) ?_
      refine OpsPh.cons _ _ (OpPh.free (by decide) (by decide) rfl (by decide) fun b v hs hg => ⟨rfl, _, exec_nilP rfl (dep hg 0 rfl rfl rfl rfl), rfl⟩) ?_
      refine OpsPh.cons _ _ (OpPh.pre (by decide) (by decide) (fun L hcl hn => have h8 : L.getD 8 false = false := notyet hcl (ho := rfl) (he := (rfl : _[0]? = _)) rfl hn; have h9 : L.getD 9 false = false := notyet hcl (ho := rfl) (he := (rfl : _[1]? = _)) rfl h8; ⟨h9, notyet hcl (ho := rfl) (he := (rfl : _[1]? = _)) rfl h9⟩) WrF.keep hA fun b v hs hv hg => ⟨rfl, _, _, exec_load64 rfl (dep hg 0 rfl rfl rfl rfl) ((hv.cell (Nat.lt_of_lt_of_le Ha.out H.out.le)).trans Hc.out), .refl _ _, rfl⟩) ?_
      refine OpsPh.cons _ _ (OpPh.preC (by decide) (by decide) (fun L hcl hn => have h9 : L.getD 9 false = false := notyet hcl (ho := rfl) (he := (rfl : _[1]? = _)) rfl hn; ⟨h9, notyet hcl (ho := rfl) (he := (rfl : _[1]? = _)) rfl h9⟩) WrF.keep hA fun b v hs hv hg => ⟨rfl, _, _, exec_call1 (enter_vput _) rfl (dep hg 0 rfl rfl rfl rfl), (hput v).mono ?_⟩) ?_
      · rintro e w' ⟨r, rfl, hown, hb⟩
        obtain ⟨A, c, rfl, _, _, hr⟩ := own_form hown
        refine ⟨_, rfl, hb, A, c, rfl, hr, fun ad e => ⟨fun hV => ?_, fun hV => ?_⟩⟩
        rotate_left
        · subst e
          have h1 := (hown.lt ad.block rfl).1
          have h2 := hv.size
          have h3 := H.out.le
          have h4 := H.out.lt
          omega
        subst e
        have h1 := (H.out.own.lt _ hV).2
        have h2 := (hown.lt ad.block rfl).1
        have h3 := hv.size
        omega
      have hbase : ∀ u : World, Below w.heap.size w u → base ≤ u.heap.size := fun u hu => Nat.le_trans H.out.le hu.size
      refine OpsPh.cons _ _ (OpPh.mid (by decide) (fun L hcl h9 => notyet hcl (ho := rfl) (he := (rfl : _[1]? = _)) rfl h9) fun b v hs hsz hv hg => ⟨rfl, ?_⟩) ?_
      · obtain ⟨A, c, e8, hr8, hap⟩ := (dep hg 1 rfl rfl rfl rfl : WrF base wb V0 a x l m 8 _ _)
        have e4 : b.tmps.getD 9 undef = V0 := dep hg 0 rfl rfl rfl rfl
        obtain ⟨i0, hi0, hz0, hz1, hz2⟩ := info_parts Try.info5
        have hownv := own_below H.out.own hv (Nat.le_refl _)
        refine wp_append_any v (.tmp 9) (.tmp 13) _ rfl base 5 i0 _ 1 1 Try.underlying27 hi0 hz0 hz1 hz2 rfl (by omega) V0 _ _ e4 hownv _ A m.length c (bs m) e8 hr8 (bs_one _) (by have := Hl.out; have := Hml.out; simp only [maxLen]; omega) (by have := Hl.out; have := Hml.out; omega) (hbase v hv) ?_
        intro v1 w1 h1 h2 h3
        refine ⟨v1, rfl, (hv.mono H.out.le).trans (grown_below hownv h2 (hbase v hv)), fun _ => ?_, fun j u hj h => h.app h2 hj⟩
        show w1.ownsRow base 5 1 v1 (l ++ m).length (bs (l ++ m))
        rw [bs_append, List.length_append]
        exact h1
      refine OpsPh.cons _ _ (OpPh.free (by decide) (by decide) rfl (by decide) fun b v hs hg => ⟨rfl, _, exec_nilP rfl (dep hg 0 rfl rfl rfl rfl), rfl⟩) ?_
      refine OpsPh.cons _ _ (OpPh.free (by decide) (by decide) rfl (by decide) fun b v hs hg => ⟨rfl, _, exec_fieldW rfl (dep hg 0 rfl rfl rfl rfl), rfl⟩) ?_
      refine OpsPh.cons _ _ (OpPh.last (k := 1) rfl rfl rfl fun b v hs hsz hv hg => ⟨rfl, ?_⟩) (OpsPh.nil _ _)
      have own9 : v.ownsRow base 5 1 (b.tmps.getD 14 undef) (l ++ m).length (bs (l ++ m)) := (dep hg 1 rfl rfl rfl rfl : WrF base wb V0 a x l m 9 _ _)
      have e11 : b.tmps.getD 16 undef = .pointer (some ⟨wb, 0, none⟩) := dep hg 0 rfl rfl rfl rfl
      have hat := (hv.block wb H.out.lt).trans H.out.at_
      obtain ⟨A, c, e14, _⟩ := own_form own9
      refine wp_stored (exec_storeB rfl e11 e14 (cell_of_row v wb 0 _ _ _ hat) (frozen_of_row v wb 0 _ _ hat)) ⟨undef, rfl, ⟨⟨.slice A (l ++ m).length c, ?_, ?_, H.out.lt, ?_⟩, ?_⟩, fun _ => trivial, fun j u hj h => h.store H.out.lt⟩
      · rw [setCell_eq_setRow v wb 0 _ _ _ _ hat]
        exact setRow_heap _ _ _ _ _ _ hat
      · rw [e14] at own9
        exact own_setCell own9 (fun e => by have := (own9.lt wb e).1; have := H.out.lt; omega) _
      · have := hv.size; have := H.out.le; simp only [World.setCell, Array.size_modify]; omega
      · exact but_setCell (But.of hv) (p := ⟨wb, 0, none⟩) (.inl (List.mem_singleton.2 rfl)) _
    · intro L b' w' hL hsz hd hs hC hall
      have h := hC.end_ (hL 12 (by decide))
      refine hK _ _ (Met.intro (hJ _ _ ?_))
      exact ⟨b'.tmps.getD 5 undef, b'.tmps.getD 6 undef, b'.tmps.getD 7 undef, b'.tmps.getD 8 undef, b'.tmps.getD 9 undef, b'.tmps.getD 10 undef, b'.tmps.getD 11 undef, b'.tmps.getD 12 undef, b'.tmps.getD 13 undef, b'.tmps.getD 14 undef, b'.tmps.getD 15 undef, b'.tmps.getD 16 undef, h, (act_known hsz hd hs).trans (by kernel_rfl)⟩
  go_wp2
  go_ret
  exact ⟨rfl, hcut⟩
set_option maxHeartbeats 2000000 in
set_option maxRecDepth 100000 in
theorem wrTxt_any {base wb : Nat} {l : List UInt8} {V0 : Value} {w : World} (h : WrAt base wb l w V0) (hl : l.length ≤ 1000000000) {a : Addr} (ha : a.block < base) (n : List UInt8) (hn : n.length ≤ 1000000) (hc : w.cell? a = some (.string (txt n))) :
    Calls Try.prog 82 #[.pointer (some ⟨wb, 0, none⟩), .pointer (some a)] w fun e w' => e = .returned (.int .i64 0) ∧ (∃ v, WrAt base wb (l ++ encText n) w' v) ∧ But base [wb] w w' := by
  obtain ⟨m, hm⟩ : ∃ m : List UInt8, Hid (m = encText n) := ⟨_, rfl⟩
  have hml : m.length ≤ 1000100 := by rw [hm.out]; have := sz_10 (n := n.length) (by omega); unfold sz at this; unfold encText; rw [List.length_append]; omega
  have hput : ∀ wx, Calls Try.prog 83 #[.string (txt n)] wx fun e w' => ∃ v, e = .returned v ∧ w'.ownsRow wx.heap.size 5 1 v m.length (bs m) ∧ Below wx.heap.size wx w' := by
    intro wx
    rw [hm.out]
    exact text_any (txt n) _ (by rw [txt_size]; omega)
  rw [← hm.out]
  have H := Lib.hid h
  have Hc := Lib.hid hc
  have Hl := Lib.hid hl
  have Hml := Lib.hid hml
  have Ha := Lib.hid ha
  clear h hc hl hml ha hn
  obtain ⟨x, hx⟩ : ∃ x : Value, Hid (x = .string (txt n)) := ⟨_, rfl⟩
  rw [← hx.out] at hput Hc
  go_enter Try.func82, Try.ntmps82
  go_upto_region 1 with fail
  go_cut [] from 5 to 16 (fun wx => (∃ v, WrAt base wb (l ++ m) wx v) ∧ But base [wb] w wx)
  case first =>
    rename_i J K1 hJ hK
    refine wp_region_ph (n := 17) (WrF base wb V0 a x l m) (Ph 9 12 4 4 (fun w' => Below w.heap.size w w') (fun _ w' => Below base w w') (fun _ _ w' => (∃ v, WrAt base wb (l ++ m) w' v) ∧ But base [wb] w w')) (by kernel_rfl) (by kernel_rfl) rfl ?_ ?_ ?_
    · intro L hL
      exact Ph.start hL (Below.refl _ _).drew
    · skip
      have hA : ∀ u u' : World, Below u.heap.size u u' → Below w.heap.size w u → Below w.heap.size w u' := fun u u' hb h => h.trans (hb.mono h.size)
      refine OpsPh.cons _ _ (OpPh.free (by decide) (by decide) rfl (by decide) fun b v hs hg => ⟨rfl, _, exec_move rfl (hs 0 (by kernel_rfl)), rfl⟩) ?_
      refine OpsPh.cons _ _ (OpPh.free (by decide) (by decide) rfl (by decide) fun b v hs hg => ⟨rfl, _, exec_move rfl (hs 0 (by kernel_rfl)), rfl⟩) ?_
      refine OpsPh.cons _ _ (OpPh.free (by decide) (by decide) rfl (by decide) fun b v hs hg => ⟨rfl, _, exec_nilP rfl (dep hg 0 rfl rfl rfl rfl), rfl⟩) ?_
      refine OpsPh.cons _ _ (OpPh.free (by decide) (by decide) rfl (by decide) fun b v hs hg => ⟨rfl, _, exec_fieldW rfl (dep hg 0 rfl rfl rfl rfl), rfl⟩) ?_
      refine OpsPh.cons _ _ (OpPh.pre (by decide) (by decide) (fun L hcl hn => have h9 : L.getD 9 false = false := notyet hcl (ho := rfl) (he := (rfl : _[0]? = _)) rfl hn; ⟨h9, notyet hcl (ho := rfl) (he := (rfl : _[1]? = _)) rfl h9⟩) WrF.keep hA fun b v hs hv hg => ⟨rfl, _, _, exec_loadB rfl (dep hg 0 rfl rfl rfl rfl) ((hv.cell (p := ⟨wb, 0, none⟩) (Nat.lt_of_lt_of_le H.out.lt H.out.le)).trans (cell_of_row w wb 0 _ _ _ H.out.at_)), .refl _ _, rfl⟩) ?_
      refine OpsPh.cons _ _ (OpPh.free (by decide) (by decide) rfl (by decide) fun b v hs hg => ⟨rfl, _, exec_move rfl (hs 1 (by kernel_rfl)), rfl⟩) ?_
      refine OpsPh.cons _ _ (OpPh.free (by decide) (by decide) rfl (by decide) fun b v hs hg => ⟨rfl, _, exec_nilP rfl (dep hg 0 rfl rfl rfl rfl), rfl⟩) ?_
      refine OpsPh.cons _ _ (OpPh.pre (by decide) (by decide) (fun L hcl hn => have h8 : L.getD 8 false = false := notyet hcl (ho := rfl) (he := (rfl : _[0]? = _)) rfl hn; have h9 : L.getD 9 false = false := notyet hcl (ho := rfl) (he := (rfl : _[1]? = _)) rfl h8; ⟨h9, notyet hcl (ho := rfl) (he := (rfl : _[1]? = _)) rfl h9⟩) WrF.keep hA fun b v hs hv hg => ⟨rfl, _, _, exec_loadT rfl (dep hg 0 rfl rfl rfl rfl) ((hv.cell (Nat.lt_of_lt_of_le Ha.out H.out.le)).trans Hc.out), .refl _ _, rfl⟩) ?_
      refine OpsPh.cons _ _ (OpPh.preC (by decide) (by decide) (fun L hcl hn => have h9 : L.getD 9 false = false := notyet hcl (ho := rfl) (he := (rfl : _[1]? = _)) rfl hn; ⟨h9, notyet hcl (ho := rfl) (he := (rfl : _[1]? = _)) rfl h9⟩) WrF.keep hA fun b v hs hv hg => ⟨rfl, _, _, exec_call1 (enter_vtext _) rfl (dep hg 0 rfl rfl rfl rfl), (hput v).mono ?_⟩) ?_
      · rintro e w' ⟨r, rfl, hown, hb⟩
        obtain ⟨A, c, rfl, _, _, hr⟩ := own_form hown
        refine ⟨_, rfl, hb, A, c, rfl, hr, fun ad e => ⟨fun hV => ?_, fun hV => ?_⟩⟩
        rotate_left
        · subst e
          have h1 := (hown.lt ad.block rfl).1
          have h2 := hv.size
          have h3 := H.out.le
          have h4 := H.out.lt
          omega
        subst e
        have h1 := (H.out.own.lt _ hV).2
        have h2 := (hown.lt ad.block rfl).1
        have h3 := hv.size
        omega
      have hbase : ∀ u : World, Below w.heap.size w u → base ≤ u.heap.size := fun u hu => Nat.le_trans H.out.le hu.size
      refine OpsPh.cons _ _ (OpPh.mid (by decide) (fun L hcl h9 => notyet hcl (ho := rfl) (he := (rfl : _[1]? = _)) rfl h9) fun b v hs hsz hv hg => ⟨rfl, ?_⟩) ?_
      · obtain ⟨A, c, e8, hr8, hap⟩ := (dep hg 1 rfl rfl rfl rfl : WrF base wb V0 a x l m 8 _ _)
        have e4 : b.tmps.getD 9 undef = V0 := dep hg 0 rfl rfl rfl rfl
        obtain ⟨i0, hi0, hz0, hz1, hz2⟩ := info_parts Try.info5
        have hownv := own_below H.out.own hv (Nat.le_refl _)
        refine wp_append_any v (.tmp 9) (.tmp 13) _ rfl base 5 i0 _ 1 1 Try.underlying27 hi0 hz0 hz1 hz2 rfl (by omega) V0 _ _ e4 hownv _ A m.length c (bs m) e8 hr8 (bs_one _) (by have := Hl.out; have := Hml.out; simp only [maxLen]; omega) (by have := Hl.out; have := Hml.out; omega) (hbase v hv) ?_
        intro v1 w1 h1 h2 h3
        refine ⟨v1, rfl, (hv.mono H.out.le).trans (grown_below hownv h2 (hbase v hv)), fun _ => ?_, fun j u hj h => h.app h2 hj⟩
        show w1.ownsRow base 5 1 v1 (l ++ m).length (bs (l ++ m))
        rw [bs_append, List.length_append]
        exact h1
      refine OpsPh.cons _ _ (OpPh.free (by decide) (by decide) rfl (by decide) fun b v hs hg => ⟨rfl, _, exec_nilP rfl (dep hg 0 rfl rfl rfl rfl), rfl⟩) ?_
      refine OpsPh.cons _ _ (OpPh.free (by decide) (by decide) rfl (by decide) fun b v hs hg => ⟨rfl, _, exec_fieldW rfl (dep hg 0 rfl rfl rfl rfl), rfl⟩) ?_
      refine OpsPh.cons _ _ (OpPh.last (k := 1) rfl rfl rfl fun b v hs hsz hv hg => ⟨rfl, ?_⟩) (OpsPh.nil _ _)
      have own9 : v.ownsRow base 5 1 (b.tmps.getD 14 undef) (l ++ m).length (bs (l ++ m)) := (dep hg 1 rfl rfl rfl rfl : WrF base wb V0 a x l m 9 _ _)
      have e11 : b.tmps.getD 16 undef = .pointer (some ⟨wb, 0, none⟩) := dep hg 0 rfl rfl rfl rfl
      have hat := (hv.block wb H.out.lt).trans H.out.at_
      obtain ⟨A, c, e14, _⟩ := own_form own9
      refine wp_stored (exec_storeB rfl e11 e14 (cell_of_row v wb 0 _ _ _ hat) (frozen_of_row v wb 0 _ _ hat)) ⟨undef, rfl, ⟨⟨.slice A (l ++ m).length c, ?_, ?_, H.out.lt, ?_⟩, ?_⟩, fun _ => trivial, fun j u hj h => h.store H.out.lt⟩
      · rw [setCell_eq_setRow v wb 0 _ _ _ _ hat]
        exact setRow_heap _ _ _ _ _ _ hat
      · rw [e14] at own9
        exact own_setCell own9 (fun e => by have := (own9.lt wb e).1; have := H.out.lt; omega) _
      · have := hv.size; have := H.out.le; simp only [World.setCell, Array.size_modify]; omega
      · exact but_setCell (But.of hv) (p := ⟨wb, 0, none⟩) (.inl (List.mem_singleton.2 rfl)) _
    · intro L b' w' hL hsz hd hs hC hall
      have h := hC.end_ (hL 12 (by decide))
      refine hK _ _ (Met.intro (hJ _ _ ?_))
      exact ⟨b'.tmps.getD 5 undef, b'.tmps.getD 6 undef, b'.tmps.getD 7 undef, b'.tmps.getD 8 undef, b'.tmps.getD 9 undef, b'.tmps.getD 10 undef, b'.tmps.getD 11 undef, b'.tmps.getD 12 undef, b'.tmps.getD 13 undef, b'.tmps.getD 14 undef, b'.tmps.getD 15 undef, b'.tmps.getD 16 undef, h, (act_known hsz hd hs).trans (by kernel_rfl)⟩
  go_wp2
  go_ret
  exact ⟨rfl, hcut⟩
end Go.Proofs.Ytfhcpjnjemojgaa
