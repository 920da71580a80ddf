/- Single operations on folders, calls, answers; the steps of S7. Conditions: none. The walk of the chapter's examples (works): they hold. Conditions: none. -/
import Derived.Test.YtbhmnmmockmibaaGreatKbFqU
import Derived.Lib.SmallJoins
import Derived.Deep.CutRange
import Derived.Deep.RegionHeld3
namespace Go.Proofs.YtbhmnmmockmibaaGreat
open Go.RowKit
section
variable {w : World} {b : Act} {o : Oper}
theorem exec_loadRow {P : Program} {x : Operand} {g : Nat} {ty t : TypeId} {cs : Array Value} {fr : Nat × Nat} {d : TypeDesc} (ho : o.op = .load ty x) (h : b.eval x = .pointer (some ⟨g, 0, none⟩)) (hg : w.heap[g]? = some (.cells cs t fr))
    (hu : P.underlying ty = some d) (hd : (match d with | .struct _ | .array _ _ => true | _ => false) = true) (hi : (P.info? ty).map (·.size) = some cs.size) : (execOp b.eval o).run P w = .ok (.value (.agg cs)) w := by
  unfold execOp
  simp only [ho, h, Instr.loadAt, Instr.sureAddr, Sem.run_bind, Sem.run_pure, Result.andThen_ok, run_loadVar_row w g t ty cs fr d hg hu hd hi]
theorem exec_loadCall {x : Operand} {a : Addr} {k : Int} {n t : List UInt8} {Ab : Option Addr} {nl cb : Nat} (ho : o.op = .load 40 x) (h : b.eval x = .pointer (some a)) (h0 : w.cell? a = some (.int .u8 k)) (h1 : w.cell? ⟨a.block, a.off + 1, none⟩ = some (.string (txt n))) (h2 : w.cell? ⟨a.block, a.off + 2, none⟩ = some (.string (txt t))) (h3 : w.cell? ⟨a.block, a.off + 3, none⟩ = some (.slice Ab nl cb)) :
    (execOp b.eval o).run Tryz.prog w = .ok (.value (fcv k n t Ab nl cb)) w := by
  unfold execOp
  simp only [ho, h]
  go_simp
theorem exec_atCall {x y : Operand} {ad : Addr} {n c k : Nat} (ho : o.op = .indexAddr 68 x y) (h : b.eval x = .slice (some ad) n c) (h' : b.eval y = .int .i64 (k : Int)) (hk : k < n) : (execOp b.eval o).run Tryz.prog w = .ok (.value (.pointer (some (ad.add (k * 4))))) w := by
  have hk' : (k : Int) < n := by omega
  unfold execOp
  simp only [ho, h, h']
  go_simp
theorem exec_allocRf (ho : o.op = .alloc 36) : (execOp b.eval o).run Tryz.prog w = .ok (.value (.pointer (some ⟨w.heap.size, 0, none⟩))) (w.alloc (.cells zrf 36)) := by
  unfold execOp
  simp only [ho]
  go_simp
theorem exec_allocRr (ho : o.op = .alloc 53) : (execOp b.eval o).run Tryz.prog w = .ok (.value (.pointer (some ⟨w.heap.size, 0, none⟩))) (w.alloc (.cells zres 53)) := by
  unfold execOp
  simp only [ho]
  go_simp
theorem exec_allocFr (ho : o.op = .alloc 51) : (execOp b.eval o).run Tryz.prog w = .ok (.value (.pointer (some ⟨w.heap.size, 0, none⟩))) (w.alloc (.cells zres 51)) := by
  unfold execOp
  simp only [ho]
  go_simp
theorem exec_first {P : Program} {x : Operand} {u v : Value} (ho : o.op = .extract x 0) (h : b.eval x = .tuple #[u, v]) : (execOp b.eval o).run P w = .ok (.value u) w := by
  unfold execOp
  simp only [ho, h]
  go_simp
theorem exec_second {P : Program} {x : Operand} {u v : Value} (ho : o.op = .extract x 1) (h : b.eval x = .tuple #[u, v]) : (execOp b.eval o).run P w = .ok (.value v) w := by
  unfold execOp
  simp only [ho, h]
  go_simp
end
theorem enter_call (w : World) (args : Array Value) : (callFunc 12 args).run Tryz.prog w = .ok (.enter 12 args) w := by kernel_rfl
theorem enter_rdo (w : World) (args : Array Value) : (callFunc 14 args).run Tryz.prog w = .ok (.enter 14 args) w := by kernel_rfl
theorem enter_fdo (w : World) (args : Array Value) : (callFunc 13 args).run Tryz.prog w = .ok (.enter 13 args) w := by kernel_rfl
/-- The reference's Do, whatever block the project's file gets. -/
theorem rdo_all {w : World} {X : Nat → Prop} {N : Nat} {s : Fo} {v : Value} (hr : RefF w X v s) (hok : s.Ok N) (hN : N ≤ 880) (hw : s.Well) {k : Nat} (hk : k ≤ 255) {n t : List UInt8} (hn : n.length ≤ 1000) (ht : t.length ≤ 1000) {Ab : Option Addr} {nl cb Bb : Nat} {l : List UInt8} (hnl : l.length = nl) (hl : nl ≤ 60) (hB : Bb ≤ w.heap.size) (hbl : RdB w Bb Ab l) :
    Calls Tryz.prog 14 #[v, fcv (k : Int) n t Ab nl cb] w fun e w' => RdD w X (s.doC 0 k n t l) e w' := rdo_any hr hok hN hw hk hn ht hnl hl hB hbl 0
section
variable {Q : Exit → Act → World → Prop} {F : Nat → Value → World → Prop} {D : List Nv} {nt : Nat} {ops : List Oper} {a : Act} {i : Nat} {o : Oper} {z : Sl} {W : World} {X : Nat → Prop} {k N : Nat} {s : Fo} {n t l : List UInt8} {v0 : Value}
theorem S7.off {L : Array Bool} {Y : Nat → Prop} {b : Act} {w : World} {d : Nat} {u : Value} (h : S7 z W X (k : Int) n t l (s.doC 0 k n t l) L Y (sl b) w) (hz : i ∉ [z.c, z.d, z.m, z.x, z.y]) (hsz : b.tmps.size = nt) (hdn : d < nt) (hd : d ∉ [z.tc, z.td, z.tm, z.tx, z.ty]) : S7 z W X (k : Int) n t l (s.doC 0 k n t l) (L.setIfInBounds i true) Y (sl (b.put (some d) u)) w :=
  h.congr (offL hz) (offT hsz hdn hd)
/-- The call is copied. -/
theorem OpFu.copy7 {x : Operand} {Ab : Option Addr} {cb Bb : Nat} (hi : i = z.c) (hd : o.dst = some z.tc) (hdn : z.tc < nt) (hD : ∀ e ∈ D, i ≠ e.i ∧ i ≠ e.s ∧ z.tc ≠ e.d) (hsrc : ∀ e ∈ D, z.tc = e.src → ∀ L : Array Bool, Closed ops L → L.getD i false = false → L.getD e.s false = false)
    (hz : z.c ∉ [z.d, z.m, z.x, z.y]) (hzt : z.tc ∉ [z.td, z.tm, z.tx, z.ty]) (hgd : o.guard = none) (ho : o.op = .call { callee := .value (.func 12), args := #[x], argTypes := #[40] })
    (hx : ∀ (b : Act) (w : World), (∀ e ∈ o.after.toList, Region.binds .any e = true → ∀ oj d, ops[e.on]? = some oj → oj.dst = some d → F e.on (b.tmps.getD d undef) w) → b.eval x = fcv (k : Int) n t Ab l.length cb)
    (hl : l.length ≤ 60000) (hB : Bb ≤ W.heap.size) (hbl : RdB W Bb Ab l) (hK : ∀ j u w w', Below w.heap.size w w' → F j u w → F j u w') (hF : ∀ u w, F i u w) : OpFu Tryz.prog Q F (KX (S7 z W X (k : Int) n t l (s.doC 0 k n t l)) D) nt ops a i o := by
  subst hi
  refine OpFu.stepS hd hdn hD hsrc fun L b w Y hL hcl hni hdep hsm hsz hS hg => ⟨by simp [Region.wanted, hgd], ?_⟩
  unfold Oper.wp
  rw [exec_call1 (enter_call _) ho (hx b w hg), Oper.upon_enter]
  have hs := hS.below.size
  refine (call_any rfl hl (Nat.le_trans hB hs) (Reads.below hbl (hS.below.mono hB))).mono ?_
  rintro e w' ⟨A, c, rfl, hown, hb⟩
  have hlt : z.c < L.size ∨ ¬ z.c < L.size := Decidable.em _
  refine ⟨_, rfl, ⟨hS.below.trans (hb.mono hs), fun g hg => ⟨(hS.box g hg).1, Nat.lt_of_lt_of_le (hS.box g hg).2 hb.size⟩, fun _ => ?_, fun h6 => ?_⟩, hF _ _, fun j u hj => hK j u _ _ hb hj, hb.size, fun k _ hk => hb.block k hk⟩
  · refine ⟨A, c, by rw [hd]; exact sl_here (by omega), own_avoid hown fun b hb' => (hS.box b hb').2⟩
  · have hoff : ∀ j, j ≠ z.c → (L.setIfInBounds z.c true).getD j false = L.getD j false := fun j hj => by
      rcases hlt with h | h
      · rw [getD_set h, decide_eq_false (fun e => hj e.symm), Bool.false_or]
      · rw [Array.setIfInBounds_eq_of_size_le (by omega)]
    have hsl : ∀ j, j ≠ z.tc → sl (b.put o.dst (fcv (k : Int) n t A l.length c)) j = sl b j := fun j hj => by rw [hd]; exact sl_put (by omega) fun e => hj e.symm
    simp only [List.mem_cons, List.not_mem_nil, or_false, not_or] at hz hzt
    rw [hoff _ (Ne.symm hz.1)] at h6
    obtain ⟨u, r, h1, h2, h3, h4, h7, h8⟩ := hS.done h6
    refine ⟨u, r, (hsl _ (Ne.symm hzt.1)).trans h1, h2.below hb, h3.below hb, fun h => ?_, fun h => ?_, fun h => ?_⟩
    · rw [hoff _ (Ne.symm hz.2.1)] at h; exact (hsl _ (Ne.symm hzt.2.1)).trans (h4 h)
    · rw [hoff _ (Ne.symm hz.2.2.1)] at h; exact (hsl _ (Ne.symm hzt.2.2.1)).trans (h7 h)
    · rw [hoff _ (Ne.symm hz.2.2.2)] at h; exact (hsl _ (Ne.symm hzt.2.2.2)).trans (h8 h)
/-- The call. -/
theorem OpFu.done7 {x : Operand} (hi : i = z.d) (hd : o.dst = some z.td) (hdn : z.td < nt) (hil : i < ops.length) (hD : ∀ e ∈ D, i ≠ e.i ∧ i ≠ e.s ∧ z.td ≠ e.d) (hsrc : ∀ e ∈ D, z.td = e.src → ∀ L : Array Bool, Closed ops L → L.getD i false = false → L.getD e.s false = false)
    (hz : z.d ∉ [z.c, z.m, z.x, z.y]) (hzt : z.td ∉ [z.tc, z.tm, z.tx, z.ty]) (hgd : o.guard = none) (ho : o.op = .call { callee := .value (.func 14), args := #[x, .tmp z.tc], argTypes := #[36, 46] })
    (hx : ∀ (b : Act) (w : World), (∀ e ∈ o.after.toList, Region.binds .any e = true → ∀ oj d, ops[e.on]? = some oj → oj.dst = some d → F e.on (b.tmps.getD d undef) w) → b.eval x = v0)
    (hc : ∀ L : Array Bool, (∀ e ∈ o.after.toList, Region.binds .any e = true → L.getD e.on false = true) → L.getD z.c false = true)
    (hlater : ∀ L : Array Bool, Closed ops L → L.getD i false = false → L.getD z.m false = false ∧ L.getD z.x false = false ∧ L.getD z.y false = false)
    (hX : ∀ b, X b → b < W.heap.size) (hr : RefF W X v0 s) (hok : s.Ok N) (hN : N ≤ 880) (hw : s.Well) (hk : k ≤ 255) (hn : n.length ≤ 1000) (ht : t.length ≤ 1000) (hl : l.length ≤ 60)
    (hK : ∀ j u w w', Below w.heap.size w w' → F j u w → F j u w') (hF : ∀ u w, F i u w) : OpFu Tryz.prog Q F (KX (S7 z W X (k : Int) n t l (s.doC 0 k n t l)) D) nt ops a i o := by
  subst hi
  refine OpFu.stepS hd hdn hD hsrc fun L b w Y hL hcl hni hdep hsm hsz hS hg => ⟨by simp [Region.wanted, hgd], ?_⟩
  obtain ⟨A, c, ec, hbx⟩ := hS.copy (hc L hdep)
  have ec' : b.eval (.tmp z.tc) = fcv (k : Int) n t A l.length c := ec
  unfold Oper.wp
  rw [exec_call2 (enter_rdo _) ho (hx b w hg) ec', Oper.upon_enter]
  have hs := hS.below.size
  have hr' : RefF w (fun b => X b ∨ Y b) v0 s := (hr.high hS.below).mono fun b _ e => e.imp id fun e => (hS.box b e).1
  refine (rdo_all hr' hok hN hw hk hn ht rfl hl (Nat.le_refl _) hbx.reads).mono ?_
  rintro e w' ⟨u, r, rfl, hb, hu, hrr⟩
  have hlt : z.d < L.size := by omega
  have hoff : ∀ j, j ≠ z.d → (L.setIfInBounds z.d true).getD j false = L.getD j false := fun j hj => by rw [getD_set hlt, decide_eq_false (fun e => hj e.symm), Bool.false_or]
  have hsl : ∀ j, j ≠ z.td → sl (b.put o.dst (.tuple #[u, r])) j = sl b j := fun j hj => by rw [hd]; exact sl_put (by omega) fun e => hj e.symm
  simp only [List.mem_cons, List.not_mem_nil, or_false, not_or] at hz hzt
  obtain ⟨l1, l2, l3⟩ := hlater L hcl hni
  have hxy : ∀ b, b < w'.heap.size → (X b ∨ Y b) → AX w (fun b => X b ∨ Y b) b := fun b _ e => ⟨by
    rcases e with e | e
    · exact Nat.lt_of_lt_of_le (hX b e) hs
    · exact (hS.box b e).2, e⟩
  refine ⟨_, rfl, ⟨hS.below.trans (hb.mono hs), fun g hg => ⟨(hS.box g hg).1, Nat.lt_of_lt_of_le (hS.box g hg).2 hb.size⟩, fun h5 => ?_, fun _ => ?_⟩, hF _ _, fun j u hj => hK j u _ _ hb hj, hb.size, fun k _ hk => hb.block k hk⟩
  · exact ⟨A, c, (hsl _ (Ne.symm hzt.1)).trans ec, hbx.below hb⟩
  · refine ⟨u, r, by rw [hd]; exact sl_here (by omega), hu.mono hxy, hrr.mono hxy, fun h => ?_, fun h => ?_, fun h => ?_⟩
    · rw [hoff _ (Ne.symm hz.2.1), l1] at h; cases h
    · rw [hoff _ (Ne.symm hz.2.2.1), l2] at h; cases h
    · rw [hoff _ (Ne.symm hz.2.2.2), l3] at h; cases h
/-- The call's answer, moved. -/
theorem OpFu.move7 (hi : i = z.m) (hd : o.dst = some z.tm) (hdn : z.tm < nt) (hD : ∀ e ∈ D, i ≠ e.i ∧ i ≠ e.s ∧ z.tm ≠ e.d) (hsrc : ∀ e ∈ D, z.tm = e.src → ∀ L : Array Bool, Closed ops L → L.getD i false = false → L.getD e.s false = false)
    (n1 : z.c ≠ z.m ∧ z.d ≠ z.m ∧ z.x ≠ z.m ∧ z.y ≠ z.m) (n2 : z.tc ≠ z.tm ∧ z.td ≠ z.tm ∧ z.tx ≠ z.tm ∧ z.ty ≠ z.tm) (hgd : o.guard = none) (ho : o.op = .move (.tmp z.td))
    (hc : ∀ L : Array Bool, Closed ops L → (∀ e ∈ o.after.toList, Region.binds .any e = true → L.getD e.on false = true) → L.getD z.d false = true) (hF : ∀ u w, F i u w) : OpFu Tryz.prog Q F (KX (S7 z W X (k : Int) n t l (s.doC 0 k n t l)) D) nt ops a i o := by
  subst hi
  refine OpFu.readS hd hdn hD hsrc fun L b w Y hcl hni hlt hsz hdep hsm hS hg => ⟨by simp [Region.wanted, hgd], ?_⟩
  obtain ⟨u, r, h1, h2, h3, h4, h7, h8⟩ := hS.done (hc L hcl hdep)
  have ev : b.eval (.tmp z.td) = .tuple #[u, r] := h1
  have hdlt : z.tm < b.tmps.size := by rw [hsz]; exact hdn
  have hoff : ∀ j, j ≠ z.m → (L.setIfInBounds z.m true).getD j false = L.getD j false := fun j hj => by rw [getD_set hlt, decide_eq_false (fun e => hj e.symm), Bool.false_or]
  have hsl : ∀ j v, j ≠ z.tm → sl (b.put o.dst v) j = sl b j := fun j v hj => by rw [hd]; exact sl_put hdlt fun e => hj e.symm
  have hhere : ∀ v, sl (b.put o.dst v) z.tm = v := fun v => by rw [hd]; exact sl_here hdlt
  refine ⟨.tuple #[u, r], exec_move ho ev, hF _ _, hS.below, hS.box, fun h => ?_, fun h => ?_⟩
  · rw [hoff _ n1.1] at h
    obtain ⟨A, c, e1, e2⟩ := hS.copy h
    exact ⟨A, c, (hsl _ _ n2.1).trans e1, e2⟩
  · refine ⟨u, r, (hsl _ _ n2.2.1).trans h1, h2, h3, fun h => ?_, fun h => ?_, fun h => ?_⟩
    · exact hhere _
    · rw [hoff _ n1.2.2.1] at h; exact (hsl _ _ n2.2.2.1).trans (h7 h)
    · rw [hoff _ n1.2.2.2] at h; exact (hsl _ _ n2.2.2.2).trans (h8 h)
/-- The answer's folder. -/
theorem OpFu.fst7 (hi : i = z.x) (hd : o.dst = some z.tx) (hdn : z.tx < nt) (hD : ∀ e ∈ D, i ≠ e.i ∧ i ≠ e.s ∧ z.tx ≠ e.d) (hsrc : ∀ e ∈ D, z.tx = e.src → ∀ L : Array Bool, Closed ops L → L.getD i false = false → L.getD e.s false = false)
    (n1 : z.c ≠ z.x ∧ z.d ≠ z.x ∧ z.m ≠ z.x ∧ z.y ≠ z.x) (n2 : z.tc ≠ z.tx ∧ z.td ≠ z.tx ∧ z.tm ≠ z.tx ∧ z.ty ≠ z.tx) (hgd : o.guard = none) (ho : o.op = .extract (.tmp z.tm) 0)
    (hc : ∀ L : Array Bool, Closed ops L → (∀ e ∈ o.after.toList, Region.binds .any e = true → L.getD e.on false = true) → L.getD z.d false = true ∧ L.getD z.m false = true) (hF : ∀ u w, F i u w) : OpFu Tryz.prog Q F (KX (S7 z W X (k : Int) n t l (s.doC 0 k n t l)) D) nt ops a i o := by
  subst hi
  refine OpFu.readS hd hdn hD hsrc fun L b w Y hcl hni hlt hsz hdep hsm hS hg => ⟨by simp [Region.wanted, hgd], ?_⟩
  obtain ⟨u, r, h1, h2, h3, h4, h7, h8⟩ := hS.done ((hc L hcl hdep).1)
  have ev : b.eval (.tmp z.tm) = .tuple #[u, r] := h4 (hc L hcl hdep).2
  have hdlt : z.tx < b.tmps.size := by rw [hsz]; exact hdn
  have hoff : ∀ j, j ≠ z.x → (L.setIfInBounds z.x true).getD j false = L.getD j false := fun j hj => by rw [getD_set hlt, decide_eq_false (fun e => hj e.symm), Bool.false_or]
  have hsl : ∀ j v, j ≠ z.tx → sl (b.put o.dst v) j = sl b j := fun j v hj => by rw [hd]; exact sl_put hdlt fun e => hj e.symm
  have hhere : ∀ v, sl (b.put o.dst v) z.tx = v := fun v => by rw [hd]; exact sl_here hdlt
  refine ⟨u, exec_first ho ev, hF _ _, hS.below, hS.box, fun h => ?_, fun h => ?_⟩
  · rw [hoff _ n1.1] at h
    obtain ⟨A, c, e1, e2⟩ := hS.copy h
    exact ⟨A, c, (hsl _ _ n2.1).trans e1, e2⟩
  · refine ⟨u, r, (hsl _ _ n2.2.1).trans h1, h2, h3, fun h => ?_, fun h => ?_, fun h => ?_⟩
    · rw [hoff _ n1.2.2.1] at h; exact (hsl _ _ n2.2.2.1).trans (h4 h)
    · exact hhere _
    · rw [hoff _ n1.2.2.2] at h; exact (hsl _ _ n2.2.2.2).trans (h8 h)
/-- The answer's result. -/
theorem OpFu.snd7 (hi : i = z.y) (hd : o.dst = some z.ty) (hdn : z.ty < nt) (hD : ∀ e ∈ D, i ≠ e.i ∧ i ≠ e.s ∧ z.ty ≠ e.d) (hsrc : ∀ e ∈ D, z.ty = e.src → ∀ L : Array Bool, Closed ops L → L.getD i false = false → L.getD e.s false = false)
    (n1 : z.c ≠ z.y ∧ z.d ≠ z.y ∧ z.m ≠ z.y ∧ z.x ≠ z.y) (n2 : z.tc ≠ z.ty ∧ z.td ≠ z.ty ∧ z.tm ≠ z.ty ∧ z.tx ≠ z.ty) (hgd : o.guard = none) (ho : o.op = .extract (.tmp z.tm) 1)
    (hc : ∀ L : Array Bool, Closed ops L → (∀ e ∈ o.after.toList, Region.binds .any e = true → L.getD e.on false = true) → L.getD z.d false = true ∧ L.getD z.m false = true) (hF : ∀ u w, F i u w) : OpFu Tryz.prog Q F (KX (S7 z W X (k : Int) n t l (s.doC 0 k n t l)) D) nt ops a i o := by
  subst hi
  refine OpFu.readS hd hdn hD hsrc fun L b w Y hcl hni hlt hsz hdep hsm hS hg => ⟨by simp [Region.wanted, hgd], ?_⟩
  obtain ⟨u, r, h1, h2, h3, h4, h7, h8⟩ := hS.done ((hc L hcl hdep).1)
  have ev : b.eval (.tmp z.tm) = .tuple #[u, r] := h4 (hc L hcl hdep).2
  have hdlt : z.ty < b.tmps.size := by rw [hsz]; exact hdn
  have hoff : ∀ j, j ≠ z.y → (L.setIfInBounds z.y true).getD j false = L.getD j false := fun j hj => by rw [getD_set hlt, decide_eq_false (fun e => hj e.symm), Bool.false_or]
  have hsl : ∀ j v, j ≠ z.ty → sl (b.put o.dst v) j = sl b j := fun j v hj => by rw [hd]; exact sl_put hdlt fun e => hj e.symm
  have hhere : ∀ v, sl (b.put o.dst v) z.ty = v := fun v => by rw [hd]; exact sl_here hdlt
  refine ⟨r, exec_second ho ev, hF _ _, hS.below, hS.box, fun h => ?_, fun h => ?_⟩
  · rw [hoff _ n1.1] at h
    obtain ⟨A, c, e1, e2⟩ := hS.copy h
    exact ⟨A, c, (hsl _ _ n2.1).trans e1, e2⟩
  · refine ⟨u, r, (hsl _ _ n2.2.1).trans h1, h2, h3, fun h => ?_, fun h => ?_, fun h => ?_⟩
    · rw [hoff _ n1.2.2.1] at h; exact (hsl _ _ n2.2.2.1).trans (h4 h)
    · rw [hoff _ n1.2.2.2] at h; exact (hsl _ _ n2.2.2.2).trans (h7 h)
    · exact hhere _
end
end Go.Proofs.YtbhmnmmockmibaaGreat

namespace Go.Proofs.YtbhmnmmockmibaaGreat
open Go.RowKit Go.Maps
/-- A call, as it is said. -/
structure Cc where
  k : Nat
  n : List UInt8
  t : List UInt8
  l : List UInt8
def wkL : List Cc := [⟨1, [97], [], []⟩, ⟨2, [97], [], [120, 121]⟩, ⟨5, [97], [98], []⟩, ⟨8, [98], [], []⟩, ⟨6, [97], [], []⟩, ⟨7, [], [], []⟩, ⟨4, [], [], []⟩]
def Cc.does (g : Nat) (s : Fo) (x : Cc) : Fo := (s.doC g x.k x.n x.t x.l).1
def wkS (g j : Nat) : Fo := (wkL.take j).foldl (Cc.does g) (Fo.new 10 3)
theorem wkS_snoc {g j : Nat} {x : Cc} (h : wkL[j]? = some x) : wkS g (j + 1) = ((wkS g j).doC g x.k x.n x.t x.l).1 := by
  unfold wkS
  rw [List.take_add_one, h, List.foldl_append]
  rfl
/-- Calls in a row of the block Lb; they, and their bytes, lie apart from Z. -/
structure CaAt (w : World) (Z : Nat → Prop) (Lb : Nat) (L : List Cc) : Prop where
  lt : Lb < w.heap.size
  nz : ¬ Z Lb
  at_ : ∀ j x, L[j]? = some x → ∃ Ab cb, w.cell? ⟨Lb, j * 4, none⟩ = some (.int .u8 (x.k : Int)) ∧ w.cell? ⟨Lb, j * 4 + 1, none⟩ = some (.string (txt x.n)) ∧ w.cell? ⟨Lb, j * 4 + 2, none⟩ = some (.string (txt x.t)) ∧ w.cell? ⟨Lb, j * 4 + 3, none⟩ = some (.slice Ab x.l.length cb) ∧ BsX w Z Ab x.l
section
variable {w w' : World} {Z Z' : Nat → Prop} {Lb : Nat} {L : List Cc}
theorem CaAt.keep (h : CaAt w Z Lb L) (ht : Touch Z w w') : CaAt w' Z Lb L := by
  refine ⟨Nat.lt_of_lt_of_le h.lt ht.size, h.nz, fun j x hj => ?_⟩
  obtain ⟨Ab, cb, h0, h1, h2, h3, h4⟩ := h.at_ j x hj
  have hc : ∀ i, w'.cell? ⟨Lb, i, none⟩ = w.cell? ⟨Lb, i, none⟩ := fun i => ht.cell (p := ⟨Lb, i, none⟩) h.lt h.nz
  exact ⟨Ab, cb, (hc _).trans h0, (hc _).trans h1, (hc _).trans h2, (hc _).trans h3, h4.keep ht⟩
theorem CaAt.below (h : CaAt w Z Lb L) (ht : Below w.heap.size w w') : CaAt w' Z Lb L := h.keep (.of ht)
theorem CaAt.mono (h : CaAt w Z Lb L) (hz : ∀ b, b < w.heap.size → Z' b → Z b) : CaAt w Z' Lb L := by
  refine ⟨h.lt, fun e => h.nz (hz _ h.lt e), fun j x hj => ?_⟩
  obtain ⟨Ab, cb, h0, h1, h2, h3, h4⟩ := h.at_ j x hj
  exact ⟨Ab, cb, h0, h1, h2, h3, h4.mono hz⟩
end
def wkR (Wb : Nat) : List Value := [.int .u8 1, .string ⟨#[97]⟩, .string ⟨#[]⟩, .slice none 0 0, .int .u8 2, .string ⟨#[97]⟩, .string ⟨#[]⟩, .slice (some ⟨Wb, 0, none⟩) 2 2, .int .u8 5, .string ⟨#[97]⟩, .string ⟨#[98]⟩, .slice none 0 0, .int .u8 8, .string ⟨#[98]⟩, .string ⟨#[]⟩, .slice none 0 0, .int .u8 6, .string ⟨#[97]⟩, .string ⟨#[]⟩, .slice none 0 0, .int .u8 7, .string ⟨#[]⟩, .string ⟨#[]⟩, .slice none 0 0, .int .u8 4, .string ⟨#[]⟩, .string ⟨#[]⟩, .slice none 0 0]
theorem wk_calls {w : World} {Lb Wb : Nat} {fr : Nat × Nat} {T : TypeId} (hL : w.heap[Lb]? = some (.cells (wkR Wb).toArray T fr)) (hW : w.heap[Wb]? = some (.cells #[.int .u8 120, .int .u8 121] 5 (2, 3))) {Z : Nat → Prop} (hz : ¬ Z Lb) (hz' : ¬ Z Wb) : CaAt w Z Lb wkL := by
  refine ⟨(Array.getElem?_eq_some_iff.1 hL).1, hz, fun j x hj => ?_⟩
  have hc : ∀ i, w.cell? ⟨Lb, i, none⟩ = (wkR Wb).toArray[i]? := fun i => cell_of_row w Lb i _ _ _ hL
  have hw : ∀ i, w.cell? ⟨Wb, i, none⟩ = (#[.int .u8 120, .int .u8 121] : Array Value)[i]? := fun i => cell_of_row w Wb i _ _ _ hW
  have hj7 : j < 7 := (List.getElem?_eq_some_iff.1 hj).1
  have none_ : BsX w Z none [] := RdX.none_
  have xy : BsX w Z (some ⟨Wb, 0, none⟩) [120, 121] := by
    refine ⟨rfl, fun _ => ⟨_, rfl, (Array.getElem?_eq_some_iff.1 hW).1, hz', fun i u hu => ?_⟩⟩
    rw [lit_add, Nat.zero_add, hw]
    rw [List.getElem?_toArray]
    exact hu
  rcases j with _ | _ | _ | _ | _ | _ | _ | j <;> first
    | (injection hj with hj; subst hj; exact ⟨none, 0, hc _, hc _, hc _, hc _, none_⟩)
    | (injection hj with hj; subst hj; exact ⟨_, _, hc _, hc _, hc _, hc _, xy⟩)
    | omega
theorem Fo.doC_other {s : Fo} {g g' k : Nat} {n t l : List UInt8} (hk : k ≠ 1) : s.doC g' k n t l = s.doC g k n t l := by
  unfold Fo.doC
  split
  · exact absurd rfl hk
  all_goals rfl
theorem wkL_other : ∀ {j : Nat} {x : Cc}, wkL[j + 1]? = some x → x.k ≠ 1
  | 0, _, h | 1, _, h | 2, _, h | 3, _, h | 4, _, h | 5, _, h => by injection h with h; subst h; decide
  | j + 6, _, h => by cases h
theorem wkS_next {g g' j : Nat} {x : Cc} (h : wkL[j]? = some x) : ∃ g2, ((wkS g j).doC g' x.k x.n x.t x.l).1 = wkS g2 (j + 1) := by
  cases j with
  | zero => exact ⟨g', (wkS_snoc (g := g') h).symm⟩
  | succ j => exact ⟨g, by rw [wkS_snoc h, Fo.doC_other (wkL_other h)]⟩
theorem doC_small {s : Fo} {N : Nat} (hok : s.Ok N) (hN : N ≤ 900) (g k : Nat) (n t l : List UInt8) : (s.doC g k n t l).2.2.1.length ≤ 1000 ∧ (s.doC g k n t l).2.2.2.length ≤ 60000 := by
  have h0 : ([] : List (List UInt8)).length ≤ 1000 ∧ ([] : List UInt8).length ≤ 60000 := ⟨by simp, by simp⟩
  unfold Fo.doC
  split
  · unfold Fo.doCreate; split <;> exact h0
  · unfold Fo.doWrite; split <;> exact h0
  · unfold Fo.doFsync; split <;> exact h0
  · exact h0
  · unfold Fo.doLink; (repeat' split) <;> exact h0
  · exact h0
  · refine ⟨?_, by simp⟩
    have := hok.d.now.1
    show (s.d.now.map Prod.fst).length ≤ 1000
    rw [List.length_map]
    omega
  · unfold Fo.doRead
    split
    · exact h0
    · rename_i v hg
      refine ⟨by simp, ?_⟩
      show (bytesF s.fs v).1.length ≤ 60000
      unfold bytesF
      split
      · simp
      · rename_i f hf
        have := ((tabOk hok).size f (findF_mem hf).1).cont
        simp only
        omega
  · exact h0
end Go.Proofs.YtbhmnmmockmibaaGreat
