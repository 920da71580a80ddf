/- Single operations on folders, calls, answers; the steps of S7. Conditions: none. The walk of the chapter's examples (works): they hold. Conditions: none. A call that fails changes nothing; quotas stay; how many names there may be. Conditions: none. What was fsynced, and whose name was there, stays, whatever is called, but for an Unlink of it, and behind a power failure. Conditions: none. -/
import Derived.Test.YtbhmnmmockmibaaGreatDoorKnFqU
import Derived.Lib.SmallJoins
import Derived.Deep.CutRange
import Derived.Deep.RegionHeld3
import Derived.Test.YtbhmnmmockmibaaGreatDoorKnFqS
namespace Go.Proofs.YtbhmnmmockmibaaGreatDoor
open Go.RowKit
section
variable {w : World} {b : Act} {o : Oper}
theorem exec_loadRow {P : Program} {x : Operand} {g : Nat} {ty t : TypeId} {cs : Array Value} {fr : Nat × Nat} {d : TypeDesc} (ho : o.op = .load ty x) (h : b.eval x = .pointer (some ⟨g, 0, none⟩)) (hg : w.heap[g]? = some (.cells cs t fr))
    (hu : P.underlying ty = some d) (hd : (match d with | .struct _ | .array _ _ => true | _ => false) = true) (hi : (P.info? ty).map (·.size) = some cs.size) : (execOp b.eval o).run P w = .ok (.value (.agg cs)) w := by
  unfold execOp
  simp only [ho, h, Instr.loadAt, Instr.sureAddr, Sem.run_bind, Sem.run_pure, Result.andThen_ok, run_loadVar_row w g t ty cs fr d hg hu hd hi]
theorem exec_loadCall {x : Operand} {a : Addr} {k : Int} {n t : List UInt8} {Ab : Option Addr} {nl cb : Nat} (ho : o.op = .load 24 x) (h : b.eval x = .pointer (some a)) (h0 : w.cell? a = some (.int .u8 k)) (h1 : w.cell? ⟨a.block, a.off + 1, none⟩ = some (.string (txt n))) (h2 : w.cell? ⟨a.block, a.off + 2, none⟩ = some (.string (txt t))) (h3 : w.cell? ⟨a.block, a.off + 3, none⟩ = some (.slice Ab nl cb)) :
    (execOp b.eval o).run Tryz.prog w = .ok (.value (fcv k n t Ab nl cb)) w := by
  unfold execOp
  simp only [ho, h]
  go_simp
theorem exec_atCall {x y : Operand} {ad : Addr} {n c k : Nat} (ho : o.op = .indexAddr 85 x y) (h : b.eval x = .slice (some ad) n c) (h' : b.eval y = .int .i64 (k : Int)) (hk : k < n) : (execOp b.eval o).run Tryz.prog w = .ok (.value (.pointer (some (ad.add (k * 4))))) w := by
  have hk' : (k : Int) < n := by omega
  unfold execOp
  simp only [ho, h, h']
  go_simp
theorem exec_allocRf (ho : o.op = .alloc 83) : (execOp b.eval o).run Tryz.prog w = .ok (.value (.pointer (some ⟨w.heap.size, 0, none⟩))) (w.alloc (.cells zrf 83)) := by
  unfold execOp
  simp only [ho]
  go_simp
theorem exec_allocRr (ho : o.op = .alloc 86) : (execOp b.eval o).run Tryz.prog w = .ok (.value (.pointer (some ⟨w.heap.size, 0, none⟩))) (w.alloc (.cells zres 86)) := by
  unfold execOp
  simp only [ho]
  go_simp
theorem exec_allocFr (ho : o.op = .alloc 29) : (execOp b.eval o).run Tryz.prog w = .ok (.value (.pointer (some ⟨w.heap.size, 0, none⟩))) (w.alloc (.cells zres 29)) := by
  unfold execOp
  simp only [ho]
  go_simp
theorem exec_first {P : Program} {x : Operand} {u v : Value} (ho : o.op = .extract x 0) (h : b.eval x = .tuple #[u, v]) : (execOp b.eval o).run P w = .ok (.value u) w := by
  unfold execOp
  simp only [ho, h]
  go_simp
theorem exec_second {P : Program} {x : Operand} {u v : Value} (ho : o.op = .extract x 1) (h : b.eval x = .tuple #[u, v]) : (execOp b.eval o).run P w = .ok (.value v) w := by
  unfold execOp
  simp only [ho, h]
  go_simp
end
theorem enter_call (w : World) (args : Array Value) : (callFunc 35 args).run Tryz.prog w = .ok (.enter 35 args) w := by kernel_rfl
theorem enter_rdo (w : World) (args : Array Value) : (callFunc 34 args).run Tryz.prog w = .ok (.enter 34 args) w := by kernel_rfl
theorem enter_fdo (w : World) (args : Array Value) : (callFunc 5 args).run Tryz.prog w = .ok (.enter 5 args) w := by kernel_rfl
/-- The reference's Do, whatever block the project's file gets. -/
theorem rdo_all {w : World} {X : Nat → Prop} {N : Nat} {s : Fo} {v : Value} (hr : RefF w X v s) (hok : s.Ok N) (hN : N ≤ 880) (hw : s.Well) {k : Nat} (hk : k ≤ 255) {n t : List UInt8} (hn : n.length ≤ 1000) (ht : t.length ≤ 1000) {Ab : Option Addr} {nl cb Bb : Nat} {l : List UInt8} (hnl : l.length = nl) (hl : nl ≤ 60) (hB : Bb ≤ w.heap.size) (hbl : RdB w Bb Ab l) :
    Calls Tryz.prog 34 #[v, fcv (k : Int) n t Ab nl cb] w fun e w' => RdD w X (s.doC 0 k n t l) e w' := rdo_any hr hok hN hw hk hn ht hnl hl hB hbl 0
section
variable {Q : Exit → Act → World → Prop} {F : Nat → Value → World → Prop} {D : List Nv} {nt : Nat} {ops : List Oper} {a : Act} {i : Nat} {o : Oper} {z : Sl} {W : World} {X : Nat → Prop} {k N : Nat} {s : Fo} {n t l : List UInt8} {v0 : Value}
theorem S7.off {L : Array Bool} {Y : Nat → Prop} {b : Act} {w : World} {d : Nat} {u : Value} (h : S7 z W X (k : Int) n t l (s.doC 0 k n t l) L Y (sl b) w) (hz : i ∉ [z.c, z.d, z.m, z.x, z.y]) (hsz : b.tmps.size = nt) (hdn : d < nt) (hd : d ∉ [z.tc, z.td, z.tm, z.tx, z.ty]) : S7 z W X (k : Int) n t l (s.doC 0 k n t l) (L.setIfInBounds i true) Y (sl (b.put (some d) u)) w :=
  h.congr (offL hz) (offT hsz hdn hd)
/-- The call is copied. -/
theorem OpFu.copy7 {x : Operand} {Ab : Option Addr} {cb Bb : Nat} (hi : i = z.c) (hd : o.dst = some z.tc) (hdn : z.tc < nt) (hD : ∀ e ∈ D, i ≠ e.i ∧ i ≠ e.s ∧ z.tc ≠ e.d) (hsrc : ∀ e ∈ D, z.tc = e.src → ∀ L : Array Bool, Closed ops L → L.getD i false = false → L.getD e.s false = false)
    (hz : z.c ∉ [z.d, z.m, z.x, z.y]) (hzt : z.tc ∉ [z.td, z.tm, z.tx, z.ty]) (hgd : o.guard = none) (ho : o.op = .call { callee := .value (.func 35), args := #[x], argTypes := #[24] })
    (hx : ∀ (b : Act) (w : World), (∀ e ∈ o.after.toList, Region.binds .any e = true → ∀ oj d, ops[e.on]? = some oj → oj.dst = some d → F e.on (b.tmps.getD d undef) w) → b.eval x = fcv (k : Int) n t Ab l.length cb)
    (hl : l.length ≤ 60000) (hB : Bb ≤ W.heap.size) (hbl : RdB W Bb Ab l) (hK : ∀ j u w w', Below w.heap.size w w' → F j u w → F j u w') (hF : ∀ u w, F i u w) : OpFu Tryz.prog Q F (KX (S7 z W X (k : Int) n t l (s.doC 0 k n t l)) D) nt ops a i o := by
  subst hi
  refine OpFu.stepS hd hdn hD hsrc fun L b w Y hL hcl hni hdep hsm hsz hS hg => ⟨by simp [Region.wanted, hgd], ?_⟩
  unfold Oper.wp
  rw [exec_call1 (enter_call _) ho (hx b w hg), Oper.upon_enter]
  have hs := hS.below.size
  refine (call_any rfl hl (Nat.le_trans hB hs) (Reads.below hbl (hS.below.mono hB))).mono ?_
  rintro e w' ⟨A, c, rfl, hown, hb⟩
  have hlt : z.c < L.size ∨ ¬ z.c < L.size := Decidable.em _
  refine ⟨_, rfl, ⟨hS.below.trans (hb.mono hs), fun g hg => ⟨(hS.box g hg).1, Nat.lt_of_lt_of_le (hS.box g hg).2 hb.size⟩, fun _ => ?_, fun h6 => ?_⟩, hF _ _, fun j u hj => hK j u _ _ hb hj, hb.size, fun k _ hk => hb.block k hk⟩
  · refine ⟨A, c, by rw [hd]; exact sl_here (by omega), own_avoid hown fun b hb' => (hS.box b hb').2⟩
  · have hoff : ∀ j, j ≠ z.c → (L.setIfInBounds z.c true).getD j false = L.getD j false := fun j hj => by
      rcases hlt with h | h
      · rw [getD_set h, decide_eq_false (fun e => hj e.symm), Bool.false_or]
      · rw [Array.setIfInBounds_eq_of_size_le (by omega)]
    have hsl : ∀ j, j ≠ z.tc → sl (b.put o.dst (fcv (k : Int) n t A l.length c)) j = sl b j := fun j hj => by rw [hd]; exact sl_put (by omega) fun e => hj e.symm
    simp only [List.mem_cons, List.not_mem_nil, or_false, not_or] at hz hzt
    rw [hoff _ (Ne.symm hz.1)] at h6
    obtain ⟨u, r, h1, h2, h3, h4, h7, h8⟩ := hS.done h6
    refine ⟨u, r, (hsl _ (Ne.symm hzt.1)).trans h1, h2.below hb, h3.below hb, fun h => ?_, fun h => ?_, fun h => ?_⟩
    · rw [hoff _ (Ne.symm hz.2.1)] at h; exact (hsl _ (Ne.symm hzt.2.1)).trans (h4 h)
    · rw [hoff _ (Ne.symm hz.2.2.1)] at h; exact (hsl _ (Ne.symm hzt.2.2.1)).trans (h7 h)
    · rw [hoff _ (Ne.symm hz.2.2.2)] at h; exact (hsl _ (Ne.symm hzt.2.2.2)).trans (h8 h)
/-- The call. -/
theorem OpFu.done7 {x : Operand} (hi : i = z.d) (hd : o.dst = some z.td) (hdn : z.td < nt) (hil : i < ops.length) (hD : ∀ e ∈ D, i ≠ e.i ∧ i ≠ e.s ∧ z.td ≠ e.d) (hsrc : ∀ e ∈ D, z.td = e.src → ∀ L : Array Bool, Closed ops L → L.getD i false = false → L.getD e.s false = false)
    (hz : z.d ∉ [z.c, z.m, z.x, z.y]) (hzt : z.td ∉ [z.tc, z.tm, z.tx, z.ty]) (hgd : o.guard = none) (ho : o.op = .call { callee := .value (.func 34), args := #[x, .tmp z.tc], argTypes := #[83, 89] })
    (hx : ∀ (b : Act) (w : World), (∀ e ∈ o.after.toList, Region.binds .any e = true → ∀ oj d, ops[e.on]? = some oj → oj.dst = some d → F e.on (b.tmps.getD d undef) w) → b.eval x = v0)
    (hc : ∀ L : Array Bool, (∀ e ∈ o.after.toList, Region.binds .any e = true → L.getD e.on false = true) → L.getD z.c false = true)
    (hlater : ∀ L : Array Bool, Closed ops L → L.getD i false = false → L.getD z.m false = false ∧ L.getD z.x false = false ∧ L.getD z.y false = false)
    (hX : ∀ b, X b → b < W.heap.size) (hr : RefF W X v0 s) (hok : s.Ok N) (hN : N ≤ 880) (hw : s.Well) (hk : k ≤ 255) (hn : n.length ≤ 1000) (ht : t.length ≤ 1000) (hl : l.length ≤ 60)
    (hK : ∀ j u w w', Below w.heap.size w w' → F j u w → F j u w') (hF : ∀ u w, F i u w) : OpFu Tryz.prog Q F (KX (S7 z W X (k : Int) n t l (s.doC 0 k n t l)) D) nt ops a i o := by
  subst hi
  refine OpFu.stepS hd hdn hD hsrc fun L b w Y hL hcl hni hdep hsm hsz hS hg => ⟨by simp [Region.wanted, hgd], ?_⟩
  obtain ⟨A, c, ec, hbx⟩ := hS.copy (hc L hdep)
  have ec' : b.eval (.tmp z.tc) = fcv (k : Int) n t A l.length c := ec
  unfold Oper.wp
  rw [exec_call2 (enter_rdo _) ho (hx b w hg) ec', Oper.upon_enter]
  have hs := hS.below.size
  have hr' : RefF w (fun b => X b ∨ Y b) v0 s := (hr.high hS.below).mono fun b _ e => e.imp id fun e => (hS.box b e).1
  refine (rdo_all hr' hok hN hw hk hn ht rfl hl (Nat.le_refl _) hbx.reads).mono ?_
  rintro e w' ⟨u, r, rfl, hb, hu, hrr⟩
  have hlt : z.d < L.size := by omega
  have hoff : ∀ j, j ≠ z.d → (L.setIfInBounds z.d true).getD j false = L.getD j false := fun j hj => by rw [getD_set hlt, decide_eq_false (fun e => hj e.symm), Bool.false_or]
  have hsl : ∀ j, j ≠ z.td → sl (b.put o.dst (.tuple #[u, r])) j = sl b j := fun j hj => by rw [hd]; exact sl_put (by omega) fun e => hj e.symm
  simp only [List.mem_cons, List.not_mem_nil, or_false, not_or] at hz hzt
  obtain ⟨l1, l2, l3⟩ := hlater L hcl hni
  have hxy : ∀ b, b < w'.heap.size → (X b ∨ Y b) → AX w (fun b => X b ∨ Y b) b := fun b _ e => ⟨by
    rcases e with e | e
    · exact Nat.lt_of_lt_of_le (hX b e) hs
    · exact (hS.box b e).2, e⟩
  refine ⟨_, rfl, ⟨hS.below.trans (hb.mono hs), fun g hg => ⟨(hS.box g hg).1, Nat.lt_of_lt_of_le (hS.box g hg).2 hb.size⟩, fun h5 => ?_, fun _ => ?_⟩, hF _ _, fun j u hj => hK j u _ _ hb hj, hb.size, fun k _ hk => hb.block k hk⟩
  · exact ⟨A, c, (hsl _ (Ne.symm hzt.1)).trans ec, hbx.below hb⟩
  · refine ⟨u, r, by rw [hd]; exact sl_here (by omega), hu.mono hxy, hrr.mono hxy, fun h => ?_, fun h => ?_, fun h => ?_⟩
    · rw [hoff _ (Ne.symm hz.2.1), l1] at h; cases h
    · rw [hoff _ (Ne.symm hz.2.2.1), l2] at h; cases h
    · rw [hoff _ (Ne.symm hz.2.2.2), l3] at h; cases h
/-- The call's answer, moved. -/
theorem OpFu.move7 (hi : i = z.m) (hd : o.dst = some z.tm) (hdn : z.tm < nt) (hD : ∀ e ∈ D, i ≠ e.i ∧ i ≠ e.s ∧ z.tm ≠ e.d) (hsrc : ∀ e ∈ D, z.tm = e.src → ∀ L : Array Bool, Closed ops L → L.getD i false = false → L.getD e.s false = false)
    (n1 : z.c ≠ z.m ∧ z.d ≠ z.m ∧ z.x ≠ z.m ∧ z.y ≠ z.m) (n2 : z.tc ≠ z.tm ∧ z.td ≠ z.tm ∧ z.tx ≠ z.tm ∧ z.ty ≠ z.tm) (hgd : o.guard = none) (ho : o.op = .move (.tmp z.td))
    (hc : ∀ L : Array Bool, Closed ops L → (∀ e ∈ o.after.toList, Region.binds .any e = true → L.getD e.on false = true) → L.getD z.d false = true) (hF : ∀ u w, F i u w) : OpFu Tryz.prog Q F (KX (S7 z W X (k : Int) n t l (s.doC 0 k n t l)) D) nt ops a i o := by
  subst hi
  refine OpFu.readS hd hdn hD hsrc fun L b w Y hcl hni hlt hsz hdep hsm hS hg => ⟨by simp [Region.wanted, hgd], ?_⟩
  obtain ⟨u, r, h1, h2, h3, h4, h7, h8⟩ := hS.done (hc L hcl hdep)
  have ev : b.eval (.tmp z.td) = .tuple #[u, r] := h1
  have hdlt : z.tm < b.tmps.size := by rw [hsz]; exact hdn
  have hoff : ∀ j, j ≠ z.m → (L.setIfInBounds z.m true).getD j false = L.getD j false := fun j hj => by rw [getD_set hlt, decide_eq_false (fun e => hj e.symm), Bool.false_or]
  have hsl : ∀ j v, j ≠ z.tm → sl (b.put o.dst v) j = sl b j := fun j v hj => by rw [hd]; exact sl_put hdlt fun e => hj e.symm
  have hhere : ∀ v, sl (b.put o.dst v) z.tm = v := fun v => by rw [hd]; exact sl_here hdlt
  refine ⟨.tuple #[u, r], exec_move ho ev, hF _ _, hS.below, hS.box, fun h => ?_, fun h => ?_⟩
  · rw [hoff _ n1.1] at h
    obtain ⟨A, c, e1, e2⟩ := hS.copy h
    exact ⟨A, c, (hsl _ _ n2.1).trans e1, e2⟩
  · refine ⟨u, r, (hsl _ _ n2.2.1).trans h1, h2, h3, fun h => ?_, fun h => ?_, fun h => ?_⟩
    · exact hhere _
    · rw [hoff _ n1.2.2.1] at h; exact (hsl _ _ n2.2.2.1).trans (h7 h)
    · rw [hoff _ n1.2.2.2] at h; exact (hsl _ _ n2.2.2.2).trans (h8 h)
/-- The answer's folder. -/
theorem OpFu.fst7 (hi : i = z.x) (hd : o.dst = some z.tx) (hdn : z.tx < nt) (hD : ∀ e ∈ D, i ≠ e.i ∧ i ≠ e.s ∧ z.tx ≠ e.d) (hsrc : ∀ e ∈ D, z.tx = e.src → ∀ L : Array Bool, Closed ops L → L.getD i false = false → L.getD e.s false = false)
    (n1 : z.c ≠ z.x ∧ z.d ≠ z.x ∧ z.m ≠ z.x ∧ z.y ≠ z.x) (n2 : z.tc ≠ z.tx ∧ z.td ≠ z.tx ∧ z.tm ≠ z.tx ∧ z.ty ≠ z.tx) (hgd : o.guard = none) (ho : o.op = .extract (.tmp z.tm) 0)
    (hc : ∀ L : Array Bool, Closed ops L → (∀ e ∈ o.after.toList, Region.binds .any e = true → L.getD e.on false = true) → L.getD z.d false = true ∧ L.getD z.m false = true) (hF : ∀ u w, F i u w) : OpFu Tryz.prog Q F (KX (S7 z W X (k : Int) n t l (s.doC 0 k n t l)) D) nt ops a i o := by
  subst hi
  refine OpFu.readS hd hdn hD hsrc fun L b w Y hcl hni hlt hsz hdep hsm hS hg => ⟨by simp [Region.wanted, hgd], ?_⟩
  obtain ⟨u, r, h1, h2, h3, h4, h7, h8⟩ := hS.done ((hc L hcl hdep).1)
  have ev : b.eval (.tmp z.tm) = .tuple #[u, r] := h4 (hc L hcl hdep).2
  have hdlt : z.tx < b.tmps.size := by rw [hsz]; exact hdn
  have hoff : ∀ j, j ≠ z.x → (L.setIfInBounds z.x true).getD j false = L.getD j false := fun j hj => by rw [getD_set hlt, decide_eq_false (fun e => hj e.symm), Bool.false_or]
  have hsl : ∀ j v, j ≠ z.tx → sl (b.put o.dst v) j = sl b j := fun j v hj => by rw [hd]; exact sl_put hdlt fun e => hj e.symm
  have hhere : ∀ v, sl (b.put o.dst v) z.tx = v := fun v => by rw [hd]; exact sl_here hdlt
  refine ⟨u, exec_first ho ev, hF _ _, hS.below, hS.box, fun h => ?_, fun h => ?_⟩
  · rw [hoff _ n1.1] at h
    obtain ⟨A, c, e1, e2⟩ := hS.copy h
    exact ⟨A, c, (hsl _ _ n2.1).trans e1, e2⟩
  · refine ⟨u, r, (hsl _ _ n2.2.1).trans h1, h2, h3, fun h => ?_, fun h => ?_, fun h => ?_⟩
    · rw [hoff _ n1.2.2.1] at h; exact (hsl _ _ n2.2.2.1).trans (h4 h)
    · exact hhere _
    · rw [hoff _ n1.2.2.2] at h; exact (hsl _ _ n2.2.2.2).trans (h8 h)
/-- The answer's result. -/
theorem OpFu.snd7 (hi : i = z.y) (hd : o.dst = some z.ty) (hdn : z.ty < nt) (hD : ∀ e ∈ D, i ≠ e.i ∧ i ≠ e.s ∧ z.ty ≠ e.d) (hsrc : ∀ e ∈ D, z.ty = e.src → ∀ L : Array Bool, Closed ops L → L.getD i false = false → L.getD e.s false = false)
    (n1 : z.c ≠ z.y ∧ z.d ≠ z.y ∧ z.m ≠ z.y ∧ z.x ≠ z.y) (n2 : z.tc ≠ z.ty ∧ z.td ≠ z.ty ∧ z.tm ≠ z.ty ∧ z.tx ≠ z.ty) (hgd : o.guard = none) (ho : o.op = .extract (.tmp z.tm) 1)
    (hc : ∀ L : Array Bool, Closed ops L → (∀ e ∈ o.after.toList, Region.binds .any e = true → L.getD e.on false = true) → L.getD z.d false = true ∧ L.getD z.m false = true) (hF : ∀ u w, F i u w) : OpFu Tryz.prog Q F (KX (S7 z W X (k : Int) n t l (s.doC 0 k n t l)) D) nt ops a i o := by
  subst hi
  refine OpFu.readS hd hdn hD hsrc fun L b w Y hcl hni hlt hsz hdep hsm hS hg => ⟨by simp [Region.wanted, hgd], ?_⟩
  obtain ⟨u, r, h1, h2, h3, h4, h7, h8⟩ := hS.done ((hc L hcl hdep).1)
  have ev : b.eval (.tmp z.tm) = .tuple #[u, r] := h4 (hc L hcl hdep).2
  have hdlt : z.ty < b.tmps.size := by rw [hsz]; exact hdn
  have hoff : ∀ j, j ≠ z.y → (L.setIfInBounds z.y true).getD j false = L.getD j false := fun j hj => by rw [getD_set hlt, decide_eq_false (fun e => hj e.symm), Bool.false_or]
  have hsl : ∀ j v, j ≠ z.ty → sl (b.put o.dst v) j = sl b j := fun j v hj => by rw [hd]; exact sl_put hdlt fun e => hj e.symm
  have hhere : ∀ v, sl (b.put o.dst v) z.ty = v := fun v => by rw [hd]; exact sl_here hdlt
  refine ⟨r, exec_second ho ev, hF _ _, hS.below, hS.box, fun h => ?_, fun h => ?_⟩
  · rw [hoff _ n1.1] at h
    obtain ⟨A, c, e1, e2⟩ := hS.copy h
    exact ⟨A, c, (hsl _ _ n2.1).trans e1, e2⟩
  · refine ⟨u, r, (hsl _ _ n2.2.1).trans h1, h2, h3, fun h => ?_, fun h => ?_, fun h => ?_⟩
    · rw [hoff _ n1.2.2.1] at h; exact (hsl _ _ n2.2.2.1).trans (h4 h)
    · rw [hoff _ n1.2.2.2] at h; exact (hsl _ _ n2.2.2.2).trans (h7 h)
    · exact hhere _
end
end Go.Proofs.YtbhmnmmockmibaaGreatDoor

namespace Go.Proofs.YtbhmnmmockmibaaGreatDoor
open Go.RowKit Go.Maps
/-- A call, as it is said. -/
structure Cc where
  k : Nat
  n : List UInt8
  t : List UInt8
  l : List UInt8
def wkL : List Cc := [⟨1, [97], [], []⟩, ⟨2, [97], [], [120, 121]⟩, ⟨5, [97], [98], []⟩, ⟨8, [98], [], []⟩, ⟨6, [97], [], []⟩, ⟨7, [], [], []⟩, ⟨4, [], [], []⟩]
def Cc.does (g : Nat) (s : Fo) (x : Cc) : Fo := (s.doC g x.k x.n x.t x.l).1
def wkS (g j : Nat) : Fo := (wkL.take j).foldl (Cc.does g) (Fo.new 10 3)
theorem wkS_snoc {g j : Nat} {x : Cc} (h : wkL[j]? = some x) : wkS g (j + 1) = ((wkS g j).doC g x.k x.n x.t x.l).1 := by
  unfold wkS
  rw [List.take_add_one, h, List.foldl_append]
  rfl
/-- Calls in a row of the block Lb; they, and their bytes, lie apart from Z. -/
structure CaAt (w : World) (Z : Nat → Prop) (Lb : Nat) (L : List Cc) : Prop where
  lt : Lb < w.heap.size
  nz : ¬ Z Lb
  at_ : ∀ j x, L[j]? = some x → ∃ Ab cb, w.cell? ⟨Lb, j * 4, none⟩ = some (.int .u8 (x.k : Int)) ∧ w.cell? ⟨Lb, j * 4 + 1, none⟩ = some (.string (txt x.n)) ∧ w.cell? ⟨Lb, j * 4 + 2, none⟩ = some (.string (txt x.t)) ∧ w.cell? ⟨Lb, j * 4 + 3, none⟩ = some (.slice Ab x.l.length cb) ∧ BsX w Z Ab x.l
section
variable {w w' : World} {Z Z' : Nat → Prop} {Lb : Nat} {L : List Cc}
theorem CaAt.keep (h : CaAt w Z Lb L) (ht : Touch Z w w') : CaAt w' Z Lb L := by
  refine ⟨Nat.lt_of_lt_of_le h.lt ht.size, h.nz, fun j x hj => ?_⟩
  obtain ⟨Ab, cb, h0, h1, h2, h3, h4⟩ := h.at_ j x hj
  have hc : ∀ i, w'.cell? ⟨Lb, i, none⟩ = w.cell? ⟨Lb, i, none⟩ := fun i => ht.cell (p := ⟨Lb, i, none⟩) h.lt h.nz
  exact ⟨Ab, cb, (hc _).trans h0, (hc _).trans h1, (hc _).trans h2, (hc _).trans h3, h4.keep ht⟩
theorem CaAt.below (h : CaAt w Z Lb L) (ht : Below w.heap.size w w') : CaAt w' Z Lb L := h.keep (.of ht)
theorem CaAt.mono (h : CaAt w Z Lb L) (hz : ∀ b, b < w.heap.size → Z' b → Z b) : CaAt w Z' Lb L := by
  refine ⟨h.lt, fun e => h.nz (hz _ h.lt e), fun j x hj => ?_⟩
  obtain ⟨Ab, cb, h0, h1, h2, h3, h4⟩ := h.at_ j x hj
  exact ⟨Ab, cb, h0, h1, h2, h3, h4.mono hz⟩
end
def wkR (Wb : Nat) : List Value := [.int .u8 1, .string ⟨#[97]⟩, .string ⟨#[]⟩, .slice none 0 0, .int .u8 2, .string ⟨#[97]⟩, .string ⟨#[]⟩, .slice (some ⟨Wb, 0, none⟩) 2 2, .int .u8 5, .string ⟨#[97]⟩, .string ⟨#[98]⟩, .slice none 0 0, .int .u8 8, .string ⟨#[98]⟩, .string ⟨#[]⟩, .slice none 0 0, .int .u8 6, .string ⟨#[97]⟩, .string ⟨#[]⟩, .slice none 0 0, .int .u8 7, .string ⟨#[]⟩, .string ⟨#[]⟩, .slice none 0 0, .int .u8 4, .string ⟨#[]⟩, .string ⟨#[]⟩, .slice none 0 0]
theorem wk_calls {w : World} {Lb Wb : Nat} {fr : Nat × Nat} {T : TypeId} (hL : w.heap[Lb]? = some (.cells (wkR Wb).toArray T fr)) (hW : w.heap[Wb]? = some (.cells #[.int .u8 120, .int .u8 121] 5 (2, 3))) {Z : Nat → Prop} (hz : ¬ Z Lb) (hz' : ¬ Z Wb) : CaAt w Z Lb wkL := by
  refine ⟨(Array.getElem?_eq_some_iff.1 hL).1, hz, fun j x hj => ?_⟩
  have hc : ∀ i, w.cell? ⟨Lb, i, none⟩ = (wkR Wb).toArray[i]? := fun i => cell_of_row w Lb i _ _ _ hL
  have hw : ∀ i, w.cell? ⟨Wb, i, none⟩ = (#[.int .u8 120, .int .u8 121] : Array Value)[i]? := fun i => cell_of_row w Wb i _ _ _ hW
  have hj7 : j < 7 := (List.getElem?_eq_some_iff.1 hj).1
  have none_ : BsX w Z none [] := RdX.none_
  have xy : BsX w Z (some ⟨Wb, 0, none⟩) [120, 121] := by
    refine ⟨rfl, fun _ => ⟨_, rfl, (Array.getElem?_eq_some_iff.1 hW).1, hz', fun i u hu => ?_⟩⟩
    rw [lit_add, Nat.zero_add, hw]
    rw [List.getElem?_toArray]
    exact hu
  rcases j with _ | _ | _ | _ | _ | _ | _ | j <;> first
    | (injection hj with hj; subst hj; exact ⟨none, 0, hc _, hc _, hc _, hc _, none_⟩)
    | (injection hj with hj; subst hj; exact ⟨_, _, hc _, hc _, hc _, hc _, xy⟩)
    | omega
theorem Fo.doC_other {s : Fo} {g g' k : Nat} {n t l : List UInt8} (hk : k ≠ 1) : s.doC g' k n t l = s.doC g k n t l := by
  unfold Fo.doC
  split
  · exact absurd rfl hk
  all_goals rfl
theorem wkL_other : ∀ {j : Nat} {x : Cc}, wkL[j + 1]? = some x → x.k ≠ 1
  | 0, _, h | 1, _, h | 2, _, h | 3, _, h | 4, _, h | 5, _, h => by injection h with h; subst h; decide
  | j + 6, _, h => by cases h
theorem wkS_next {g g' j : Nat} {x : Cc} (h : wkL[j]? = some x) : ∃ g2, ((wkS g j).doC g' x.k x.n x.t x.l).1 = wkS g2 (j + 1) := by
  cases j with
  | zero => exact ⟨g', (wkS_snoc (g := g') h).symm⟩
  | succ j => exact ⟨g, by rw [wkS_snoc h, Fo.doC_other (wkL_other h)]⟩
theorem doC_small {s : Fo} {N : Nat} (hok : s.Ok N) (hN : N ≤ 900) (g k : Nat) (n t l : List UInt8) : (s.doC g k n t l).2.2.1.length ≤ 1000 ∧ (s.doC g k n t l).2.2.2.length ≤ 60000 := by
  have h0 : ([] : List (List UInt8)).length ≤ 1000 ∧ ([] : List UInt8).length ≤ 60000 := ⟨by simp, by simp⟩
  unfold Fo.doC
  split
  · unfold Fo.doCreate; split <;> exact h0
  · unfold Fo.doWrite; split <;> exact h0
  · unfold Fo.doFsync; split <;> exact h0
  · exact h0
  · unfold Fo.doLink; (repeat' split) <;> exact h0
  · exact h0
  · refine ⟨?_, by simp⟩
    have := hok.d.now.1
    show (s.d.now.map Prod.fst).length ≤ 1000
    rw [List.length_map]
    omega
  · unfold Fo.doRead
    split
    · exact h0
    · rename_i v hg
      refine ⟨by simp, ?_⟩
      show (bytesF s.fs v).1.length ≤ 60000
      unfold bytesF
      split
      · simp
      · rename_i f hf
        have := ((tabOk hok).size f (findF_mem hf).1).cont
        simp only
        omega
  · exact h0
end Go.Proofs.YtbhmnmmockmibaaGreatDoor

namespace Go.Proofs.YtbhmnmmockmibaaGreatDoor
open Go.RowKit Go.Maps
section
variable {s : Fo} {N : Nat} {n t l : List UInt8} {g k : Nat}
theorem Fo.Inv.names (h : s.Inv) : (s.files.length : Int) ≤ s.most := by
  have := h.bound s.d.ops.length
  rw [List.take_length] at this
  unfold Fo.files
  rw [List.length_map]
  exact this
end
end Go.Proofs.YtbhmnmmockmibaaGreatDoor

namespace Go.Proofs.YtbhmnmmockmibaaGreatDoor
open Go.RowKit Go.Maps
/-- Bytes that stand durable at a file's beginning. -/
def PreM (b : List UInt8) (m : List Pt) : Prop := ∃ m1 m2, m = m1 ++ m2 ∧ b <+: contM m1 ∧ ∀ p ∈ m1, p.2 = true
section
variable {b : List UInt8} {m : List Pt}
theorem PreM.cont (h : PreM b m) : b <+: contM m := by
  obtain ⟨m1, m2, rfl, h1, _⟩ := h
  rw [contM_append]
  exact h1.trans (List.prefix_append _ _)
theorem fullM_sub {p : Pt} (h : p ∈ fullM m) : p ∈ m := (List.mem_filter.1 h).1
theorem PreM.app (h : PreM b m) (l : List UInt8) : PreM b (appM m l) := by
  obtain ⟨m1, m2, rfl, h1, h2⟩ := h
  refine ⟨fullM m1, fullM (m2 ++ [(l, false)]), ?_, by rw [contM_full]; exact h1, fun p hp => h2 p (fullM_sub hp)⟩
  unfold appM
  rw [List.append_assoc, fullM_append]
theorem sync_durable {p : Pt} (h : p ∈ syncM m) : p.2 = true := by
  unfold syncM at h
  obtain ⟨q, _, rfl⟩ := List.mem_map.1 h
  rfl
theorem PreM.all (hc : b <+: contM m) (hd : ∀ p ∈ m, p.2 = true) : PreM b m := ⟨m, [], by simp, hc, hd⟩
theorem PreM.sync (h : PreM b m) : PreM b (syncM m) := .all (by rw [contM_sync]; exact h.cont) fun _ hp => sync_durable hp
theorem PreM.fail (h : PreM b m) (k : List Bool) : PreM b (failM m k) := by
  refine .all ?_ fun _ hp => failM_durable hp
  obtain ⟨m1, m2, rfl, h1, h2⟩ := h
  have e : failM (m1 ++ m2) k = failM (fullM (m1 ++ m2)) k := by unfold failM; rw [fullM_idem]
  rw [e, fullM_append]
  have hx : (fullM m1 ++ fullM m2).take (fullM m1).length = fullM m1 := by simp
  have := failM_keeps (m := fullM m1 ++ fullM m2) (k := k) (j := (fullM m1).length) (fun p hp => by
    rcases List.mem_append.1 hp with hp | hp <;> exact fullM_mem hp) (fun p hp => by rw [hx] at hp; exact h2 p (fullM_sub hp))
  rw [hx, contM_full] at this
  exact h1.trans this
end
/-- A name that stays, with its bytes. -/
def Fo.Holds (s : Fo) (k : List UInt8) (b : List UInt8) : Prop := ∃ v, (∀ j, (k, v) ∈ runs s.d.dur (s.d.ops.take j)) ∧ ∃ f ∈ s.fs, f.i = v ∧ PreM b f.m
section
variable {s : Fo} {N : Nat} {n t l k b : List UInt8} {g kk : Nat}
theorem Fo.Holds.now (h : s.Holds k b) : ∃ v, (k, v) ∈ s.d.now ∧ ∃ f ∈ s.fs, f.i = v ∧ PreM b f.m := by
  obtain ⟨v, h1, h2⟩ := h
  have := h1 s.d.ops.length
  rw [List.take_length] at this
  exact ⟨v, this, h2⟩
/-- The files go on, each as it was, or changed so that what is durable stays. -/
def GoOn (fs fs' : List Fi) : Prop := ∀ x ∈ fs', ∀ f ∈ fs, x.i = f.i → ∀ b, PreM b f.m → PreM b x.m
theorem GoOn.refl (hs : s.Ok N) : GoOn s.fs s.fs := by
  intro x hx f hf e b hb
  have h1 := findF_of_mem hs.srt hx
  have h2 := findF_of_mem hs.srt hf
  rw [e, h2] at h1
  injection h1 with h1
  rw [← h1]; exact hb
theorem GoOn.upd (hs : s.Ok N) {z : Int} {f0 : Fi} (hf0 : findF s.fs z = some f0) {m : List Pt} {c : Int} (hm : ∀ b, PreM b f0.m → PreM b m) : GoOn s.fs (updF s.fs z c m) := by
  intro x hx f hf e b hb
  obtain ⟨f1, hf1, e1, _, h⟩ := updF_mem hx
  have h1 := findF_of_mem hs.srt hf1
  have h2 := findF_of_mem hs.srt hf
  rw [← e1, e, h2] at h1
  injection h1 with h1
  subst h1
  rcases h with ⟨h3, _, h4⟩ | ⟨_, h4⟩
  · rw [h3, hf0] at h2
    injection h2 with h2
    subst h2
    rw [h4]; exact hm b hb
  · rw [h4]; exact hb
theorem leave_mem {fs : List Fi} {z n : Int} {x : Fi} (h : x ∈ leaveF fs z n) : x ∈ fs := by
  unfold leaveF at h
  split at h
  · exact (List.mem_filter.1 h).1
  · exact h
theorem GoOn.drop (hs : s.Ok N) (z : Int) : GoOn s.fs (doDrop s.fs z).1 := by
  unfold doDrop
  cases hf : findF s.fs z with
  | none => exact GoOn.refl hs
  | some f0 =>
    intro x hx
    exact GoOn.upd hs hf (fun b hb => hb) x (leave_mem hx)
theorem drops_sub : ∀ (l : List Int) (fs : List Fi) (x : Fi), x ∈ dropsF fs l → ∃ f ∈ fs, x.i = f.i ∧ x.m = f.m
  | [], _, x, h => ⟨x, h, rfl, rfl⟩
  | z :: l, fs, x, h => by
    obtain ⟨f1, hf1, e1, e2⟩ := drops_sub l (doDrop fs z).1 x h
    unfold doDrop at hf1
    cases hf : findF fs z with
    | none => rw [hf] at hf1; exact ⟨f1, hf1, e1, e2⟩
    | some f0 =>
      rw [hf] at hf1
      obtain ⟨f, hff, e3, _, h⟩ := updF_mem (leave_mem hf1)
      rcases h with ⟨h3, _, h4⟩ | ⟨_, h4⟩
      · obtain ⟨h5, h6⟩ := findF_mem hf
        exact ⟨f0, h5, by rw [e1, e3, h3, h6], by rw [e2, h4]⟩
      · exact ⟨f, hff, by rw [e1, e3], by rw [e2, h4]⟩
theorem GoOn.drops (hs : s.Ok N) (l : List Int) : GoOn s.fs (dropsF s.fs l) := by
  intro x hx f hf e b hb
  obtain ⟨f1, hf1, e1, e2⟩ := drops_sub l s.fs x hx
  rw [e2]
  exact GoOn.refl hs f1 hf1 f hf (by rw [← e1, e]) b hb
theorem GoOn.fail (hs : s.Ok N) (names : List En) (keep : List Bool) : GoOn s.fs (failT s.fs names keep) := by
  intro x hx f hf e b hb
  obtain ⟨f1, hf1, k, rfl, _⟩ := failT_mem hx
  have h1 : PreM b f1.m := GoOn.refl hs f1 hf1 f hf e b hb
  exact h1.fail _
/-- It goes on. -/
theorem Fo.Holds.go {s' : Fo} (h : s.Holds k b) (hi' : s'.Inv) (hok' : s'.Ok N) (hd : ∀ v, (∀ j, (k, v) ∈ runs s.d.dur (s.d.ops.take j)) → ∀ j, (k, v) ∈ runs s'.d.dur (s'.d.ops.take j)) (hg : GoOn s.fs s'.fs) : s'.Holds k b := by
  obtain ⟨v, h1, f, hf, e, hp⟩ := h
  have h2 := hd v h1
  refine ⟨v, h2, ?_⟩
  have h3 := h2 s'.d.ops.length
  rw [List.take_length] at h3
  obtain ⟨x, hx⟩ := (hi'.well hok').file _ h3
  obtain ⟨hx1, hx2⟩ := findF_mem hx
  have hx2 : x.i = v := hx2
  exact ⟨x, hx1, hx2, hg x hx1 f hf (by rw [hx2, e]) b hp⟩
theorem runs_more {d : St} {o : Pr} {v : Int} (h : ∀ j, (k, v) ∈ runs d.dur (d.ops.take j)) (ho : (k, v) ∈ o.does d.now) : ∀ j, (k, v) ∈ runs d.dur ((d.ops ++ [o]).take j) := by
  intro j
  rcases take_end d.ops o j with e | e
  · rw [e]; exact h j
  · rw [e, runs_snoc]; exact ho
theorem now_of {d : St} {v : Int} (h : ∀ j, (k, v) ∈ runs d.dur (d.ops.take j)) : (k, v) ∈ d.now := by
  have := h d.ops.length
  rwa [List.take_length] at this
theorem runs_add {d : St} {v v' : Int} (hn : hasE d.now n = false) (h : ∀ j, (k, v) ∈ runs d.dur (d.ops.take j)) : ∀ j, (k, v) ∈ runs (d.addE n v').dur ((d.addE n v').ops.take j) := by
  refine runs_more h ?_
  show (k, v) ∈ putE d.now (n, v')
  rw [put_new hn]
  exact mem_ins.2 (.inr (now_of h))
theorem runs_rem {d : St} {v v' : Int} (hn : k ≠ n) (h : ∀ j, (k, v) ∈ runs d.dur (d.ops.take j)) : ∀ j, (k, v) ∈ runs (d.rem n v').dur ((d.rem n v').ops.take j) := by
  refine runs_more h ?_
  show (k, v) ∈ delE d.now n
  exact mem_del.2 ⟨now_of h, hn⟩
theorem Fo.Holds.doC (h : s.Holds k b) (hok : s.Ok N) (hi' : (s.doC g kk n t l).1.Inv) (hok' : (s.doC g kk n t l).1.Ok (N + 2)) (hk : kk = 6 → k ≠ n) : (s.doC g kk n t l).1.Holds k b := by
  have hid : ∀ v, (∀ j, (k, v) ∈ runs s.d.dur (s.d.ops.take j)) → ∀ j, (k, v) ∈ runs s.d.dur (s.d.ops.take j) := fun _ h => h
  revert hi' hok'
  unfold Fo.doC
  split
  · unfold Fo.doCreate
    split
    · rename_i hm
      intro hi' hok'
      have hz : ∀ f ∈ s.fs, f.i ≠ (s.made : Int) + 1 := by
        intro f hf e
        have e2 : f.i ≤ (s.made : Int) := ((tabOk hok).num f hf).2
        omega
      refine h.go hi' hok' (fun v hv => runs_add (may_nil0 hm).2.1 hv) ?_
      intro x hx f hf e b hb
      have hx' : x ∈ (Proofs.YtbhmnmmockmibaaGreatDoor.doLink (s.fs ++ [⟨(s.made : Int) + 1, g, 0, []⟩]) ((s.made : Int) + 1)).1 := hx
      rw [made_eq hz] at hx'
      rcases List.mem_append.1 hx' with hx' | hx'
      · exact GoOn.refl hok x hx' f hf e b hb
      · rw [List.mem_singleton] at hx'
        subst hx'
        exact absurd e.symm (hz f hf)
    · intro _ _; exact h
  · unfold Fo.doWrite
    split
    · intro _ _; exact h
    · rename_i v hv
      intro hi' hok'
      refine h.go hi' hok' hid ?_
      show GoOn s.fs (doApp s.q s.fs v l).1
      unfold doApp
      cases hf : findF s.fs v with
      | none => exact GoOn.refl hok
      | some f0 =>
        simp only
        split
        · exact GoOn.refl hok
        · exact GoOn.upd hok hf fun b hb => hb.app l
  · unfold Fo.doFsync
    split
    · intro _ _; exact h
    · rename_i v hv
      intro hi' hok'
      refine h.go hi' hok' hid ?_
      show GoOn s.fs (doSync s.fs v).1
      unfold doSync
      cases hf : findF s.fs v with
      | none => exact GoOn.refl hok
      | some f0 => exact GoOn.upd hok hf fun b hb => hb.sync
  · intro hi' hok'
    refine h.go hi' hok' (fun v hv j => ?_) (GoOn.drops hok _)
    show (k, v) ∈ runs s.d.now ([].take j)
    rw [List.take_nil]
    exact now_of hv
  · unfold Fo.doLink
    split
    · intro _ _; exact h
    · rename_i v hv
      split
      · rename_i hm
        intro hi' hok'
        refine h.go hi' hok' (fun v hv => runs_add (may_nil0 hm).2.1 hv) ?_
        show GoOn s.fs (Proofs.YtbhmnmmockmibaaGreatDoor.doLink s.fs v).1
        unfold Proofs.YtbhmnmmockmibaaGreatDoor.doLink
        cases hf : findF s.fs v with
        | none => exact GoOn.refl hok
        | some f0 => exact GoOn.upd hok hf fun b hb => hb
      · intro _ _; exact h
  · unfold Fo.doTake
    split
    · intro _ _; exact h
    · intro hi' hok'
      exact h.go hi' hok' (fun v hv => runs_rem (hk rfl) hv) (GoOn.refl hok)
  · intro _ _; exact h
  · unfold Fo.doRead
    split <;> (intro _ _; exact h)
  · intro _ _; exact h
theorem Fo.Holds.power (h : s.Holds k b) (hi : s.Inv) (hok : s.Ok N) (ops : Int) (keep : List Bool) (hok' : (s.power ops keep).Ok N) : (s.power ops keep).Holds k b := by
  refine h.go (hi.power hok ops keep) hok' (fun v hv j => ?_) (GoOn.fail hok _ _)
  show (k, v) ∈ runs (runs s.d.dur (s.d.ops.take (stay s.d.ops.length ops))) ([].take j)
  rw [List.take_nil]
  exact hv _
end
end Go.Proofs.YtbhmnmmockmibaaGreatDoor
