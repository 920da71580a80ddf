/- The walk of the chapter's examples (works): they hold. Conditions: none. Calls of a folder in a region that draws its order, whose answers are laid into boxes, and whose bytes are made there: what holds as far as it has come. Conditions: none. The examples' second folder, as plain values. -/
import Derived.Test.YtbhmnmmockmibaaGreatKpFqV
import Derived.Lib.SmallJoins
import Derived.Deep.CutRange
import Derived.Deep.RegionHeld3
import Derived.Test.YtbhmnmmockmibaaGreatKpFoP
import Derived.Test.YtbhmnmmockmibaaGreatKpFqS
namespace Go.Proofs.YtbhmnmmockmibaaGreat
open Go.RowKit Go.Maps
structure Cc where
  k : Nat
  n : List UInt8
  t : List UInt8
  l : List UInt8
def wkL : List Cc := [⟨1, [97], [], []⟩, ⟨2, [97], [], [120, 121]⟩, ⟨5, [97], [98], []⟩, ⟨8, [98], [], []⟩, ⟨6, [97], [], []⟩, ⟨7, [], [], []⟩, ⟨4, [], [], []⟩]
def Cc.does (g : Nat) (s : Fo) (x : Cc) : Fo := (s.doC g x.k x.n x.t x.l).1
def wkS (g j : Nat) : Fo := (wkL.take j).foldl (Cc.does g) (Fo.new 10 3)
theorem wkS_snoc {g j : Nat} {x : Cc} (h : wkL[j]? = some x) : wkS g (j + 1) = ((wkS g j).doC g x.k x.n x.t x.l).1 := by
  unfold wkS
  rw [List.take_add_one, h, List.foldl_append]
  rfl
structure CaAt (w : World) (Z : Nat → Prop) (Lb : Nat) (L : List Cc) : Prop where
  lt : Lb < w.heap.size
  nz : ¬ Z Lb
  at_ : ∀ j x, L[j]? = some x → ∃ Ab cb, w.cell? ⟨Lb, j * 4, none⟩ = some (.int .u8 (x.k : Int)) ∧ w.cell? ⟨Lb, j * 4 + 1, none⟩ = some (.string (txt x.n)) ∧ w.cell? ⟨Lb, j * 4 + 2, none⟩ = some (.string (txt x.t)) ∧ w.cell? ⟨Lb, j * 4 + 3, none⟩ = some (.slice Ab x.l.length cb) ∧ BsX w Z Ab x.l
section
variable {w w' : World} {Z Z' : Nat → Prop} {Lb : Nat} {L : List Cc}
theorem CaAt.keep (h : CaAt w Z Lb L) (ht : Touch Z w w') : CaAt w' Z Lb L := by
  refine ⟨Nat.lt_of_lt_of_le h.lt ht.size, h.nz, fun j x hj => ?_⟩
  obtain ⟨Ab, cb, h0, h1, h2, h3, h4⟩ := h.at_ j x hj
  have hc : ∀ i, w'.cell? ⟨Lb, i, none⟩ = w.cell? ⟨Lb, i, none⟩ := fun i => ht.cell (p := ⟨Lb, i, none⟩) h.lt h.nz
  exact ⟨Ab, cb, (hc _).trans h0, (hc _).trans h1, (hc _).trans h2, (hc _).trans h3, h4.keep ht⟩
theorem CaAt.below (h : CaAt w Z Lb L) (ht : Below w.heap.size w w') : CaAt w' Z Lb L := h.keep (.of ht)
theorem CaAt.mono (h : CaAt w Z Lb L) (hz : ∀ b, b < w.heap.size → Z' b → Z b) : CaAt w Z' Lb L := by
  refine ⟨h.lt, fun e => h.nz (hz _ h.lt e), fun j x hj => ?_⟩
  obtain ⟨Ab, cb, h0, h1, h2, h3, h4⟩ := h.at_ j x hj
  exact ⟨Ab, cb, h0, h1, h2, h3, h4.mono hz⟩
end
def wkR (Wb : Nat) : List Value := [.int .u8 1, .string ⟨#[97]⟩, .string ⟨#[]⟩, .slice none 0 0, .int .u8 2, .string ⟨#[97]⟩, .string ⟨#[]⟩, .slice (some ⟨Wb, 0, none⟩) 2 2, .int .u8 5, .string ⟨#[97]⟩, .string ⟨#[98]⟩, .slice none 0 0, .int .u8 8, .string ⟨#[98]⟩, .string ⟨#[]⟩, .slice none 0 0, .int .u8 6, .string ⟨#[97]⟩, .string ⟨#[]⟩, .slice none 0 0, .int .u8 7, .string ⟨#[]⟩, .string ⟨#[]⟩, .slice none 0 0, .int .u8 4, .string ⟨#[]⟩, .string ⟨#[]⟩, .slice none 0 0]
theorem wk_calls {w : World} {Lb Wb : Nat} {fr : Nat × Nat} {T : TypeId} (hL : w.heap[Lb]? = some (.cells (wkR Wb).toArray T fr)) (hW : w.heap[Wb]? = some (.cells #[.int .u8 120, .int .u8 121] 5 (2, 3))) {Z : Nat → Prop} (hz : ¬ Z Lb) (hz' : ¬ Z Wb) : CaAt w Z Lb wkL := by
  refine ⟨(Array.getElem?_eq_some_iff.1 hL).1, hz, fun j x hj => ?_⟩
  have hc : ∀ i, w.cell? ⟨Lb, i, none⟩ = (wkR Wb).toArray[i]? := fun i => cell_of_row w Lb i _ _ _ hL
  have hw : ∀ i, w.cell? ⟨Wb, i, none⟩ = (#[.int .u8 120, .int .u8 121] : Array Value)[i]? := fun i => cell_of_row w Wb i _ _ _ hW
  have hj7 : j < 7 := (List.getElem?_eq_some_iff.1 hj).1
  have none_ : BsX w Z none [] := RdX.none_
  have xy : BsX w Z (some ⟨Wb, 0, none⟩) [120, 121] := by
    refine ⟨rfl, fun _ => ⟨_, rfl, (Array.getElem?_eq_some_iff.1 hW).1, hz', fun i u hu => ?_⟩⟩
    rw [lit_add, Nat.zero_add, hw]
    rw [List.getElem?_toArray]
    exact hu
  rcases j with _ | _ | _ | _ | _ | _ | _ | j <;> first
    | (injection hj with hj; subst hj; exact ⟨none, 0, hc _, hc _, hc _, hc _, none_⟩)
    | (injection hj with hj; subst hj; exact ⟨_, _, hc _, hc _, hc _, hc _, xy⟩)
    | omega
theorem Fo.doC_other {s : Fo} {g g' k : Nat} {n t l : List UInt8} (hk : k ≠ 1) : s.doC g' k n t l = s.doC g k n t l := by
  unfold Fo.doC
  split
  · exact absurd rfl hk
  all_goals rfl
theorem wkL_other : ∀ {j : Nat} {x : Cc}, wkL[j + 1]? = some x → x.k ≠ 1
  | 0, _, h | 1, _, h | 2, _, h | 3, _, h | 4, _, h | 5, _, h => by injection h with h; subst h; decide
  | j + 6, _, h => by cases h
theorem wkS_next {g g' j : Nat} {x : Cc} (h : wkL[j]? = some x) : ∃ g2, ((wkS g j).doC g' x.k x.n x.t x.l).1 = wkS g2 (j + 1) := by
  cases j with
  | zero => exact ⟨g', (wkS_snoc (g := g') h).symm⟩
  | succ j => exact ⟨g, by rw [wkS_snoc h, Fo.doC_other (wkL_other h)]⟩
theorem doC_small {s : Fo} {N : Nat} (hok : s.Ok N) (hN : N ≤ 900) (g k : Nat) (n t l : List UInt8) : (s.doC g k n t l).2.2.1.length ≤ 1000 ∧ (s.doC g k n t l).2.2.2.length ≤ 60000 := by
  have h0 : ([] : List (List UInt8)).length ≤ 1000 ∧ ([] : List UInt8).length ≤ 60000 := ⟨by simp, by simp⟩
  unfold Fo.doC
  split
  · unfold Fo.doCreate; split <;> exact h0
  · unfold Fo.doWrite; split <;> exact h0
  · unfold Fo.doFsync; split <;> exact h0
  · exact h0
  · unfold Fo.doLink; (repeat' split) <;> exact h0
  · exact h0
  · refine ⟨?_, by simp⟩
    have := hok.d.now.1
    show (s.d.now.map Prod.fst).length ≤ 1000
    rw [List.length_map]
    omega
  · unfold Fo.doRead
    split
    · exact h0
    · rename_i v hg
      refine ⟨by simp, ?_⟩
      show (bytesF s.fs v).1.length ≤ 60000
      unfold bytesF
      split
      · simp
      · rename_i f hf
        have := ((tabOk hok).size f (findF_mem hf).1).cont
        simp only
        omega
  · exact h0
end Go.Proofs.YtbhmnmmockmibaaGreat

namespace Go.Proofs.YtbhmnmmockmibaaGreat
open Go.RowKit Go.Maps
def LitG (w : World) (g : Nat) (l : List UInt8) : Prop := ∃ fr, w.heap[g]? = some (.cells (bs l).toArray 5 fr)
theorem LitG.lt {w : World} {g : Nat} {l : List UInt8} (h : LitG w g l) : g < w.heap.size := by
  obtain ⟨fr, h⟩ := h
  exact (Array.getElem?_eq_some_iff.1 h).1
theorem LitG.reads {w : World} {g : Nat} {l : List UInt8} (h : LitG w g l) : RdB w w.heap.size (some ⟨g, 0, none⟩) l := by
  refine ⟨by rw [bs_len]; omega, fun _ => ⟨_, rfl, h.lt, fun j u hj => ?_⟩⟩
  obtain ⟨fr, h⟩ := h
  rw [lit_add, Nat.zero_add, cell_of_row w g j _ _ fr h, List.getElem?_toArray]
  exact hj
theorem LitG.keep {w w' : World} {X : Nat → Prop} {g : Nat} {l : List UInt8} (h : LitG w g l) (ht : Touch X w w') (hx : ¬ X g) : LitG w' g l := by
  obtain ⟨fr, h⟩ := h
  exact ⟨fr, ht.heap hx h⟩
theorem heap_freezeG {w : World} {g k : Nat} {C : Array Value} {t : TypeId} {fr : Nat × Nat} (h : w.heap[g]? = some (.cells C t fr)) (j : Nat) : (w.freeze ⟨g, k, none⟩ 1).heap[j]? = if j = g then some (.cells C t (if fr.1 == fr.2 then (k, k + 1) else (min fr.1 k, max fr.2 (k + 1)))) else w.heap[j]? := by
  unfold World.freeze
  rw [if_neg (by decide)]
  show (w.heap.modify g _)[j]? = _
  rw [Array.getElem?_modify]
  by_cases e : g = j
  · subst e
    rw [if_pos rfl, if_pos rfl, h]
    rfl
  · rw [if_neg e, if_neg (fun e' => e e'.symm)]
structure Mk where
  i : Nat
  d : Nat
  l : List UInt8
  val : Nat → Value
structure SG (W0 Ws : World) (G : Nat) (Y0 : Nat → Prop) (P : Array Bool → Fo → Prop) (T : List (Nat × Nat × Int)) (M : List Mk) (L : Array Bool) (Y : Nat → Prop) (tm : Nat → Value) (w : World) : Prop where
  ex : ∃ (s : Fo) (Z : Nat → Prop), P L s ∧ FS W0 (fun b => Y0 b ∨ Y b ∨ Z b) G s 2 w ∧ (∀ b, Z b → ¬ Y b ∧ Ws.heap.size ≤ b ∧ b < w.heap.size) ∧ ∀ m ∈ M, L.getD m.i false = true → ∃ g, tm m.d = m.val g ∧ Z g ∧ LitG w g m.l
  touch : Touch (Fr W0 Y0) Ws w
  box : ∀ g, Y g → Ws.heap.size ≤ g ∧ g < w.heap.size
  res : ∀ e ∈ T, L.getD e.1 false = true → ∃ A n c A' n' c', tm e.2.1 = .agg #[.int .i64 e.2.2, .slice A n c, .slice A' n' c']
section
variable {W0 Ws w w' : World} {G : Nat} {Y0 Y : Nat → Prop} {P : Array Bool → Fo → Prop} {T : List (Nat × Nat × Int)} {M : List Mk} {L L' : Array Bool} {tm tm' : Nat → Value}
theorem SG.congr (h : SG W0 Ws G Y0 P T M L Y tm w) (hP : ∀ s, P L s → P L' s) (hL : ∀ j ∈ T.map (·.1) ++ M.map (·.i), L'.getD j false = L.getD j false) (ht : ∀ j ∈ T.map (·.2.1) ++ M.map (·.d), tm' j = tm j) : SG W0 Ws G Y0 P T M L' Y tm' w := by
  obtain ⟨s, Z, h1, h2, h3, h4⟩ := h.ex
  refine ⟨⟨s, Z, hP s h1, h2, h3, fun m hm hl => ?_⟩, h.touch, h.box, fun e he hl => ?_⟩
  · rw [hL m.i (List.mem_append_right _ (List.mem_map.2 ⟨m, hm, rfl⟩))] at hl
    rw [ht m.d (List.mem_append_right _ (List.mem_map.2 ⟨m, hm, rfl⟩))]
    exact h4 m hm hl
  · rw [hL e.1 (List.mem_append_left _ (List.mem_map.2 ⟨e, he, rfl⟩))] at hl
    rw [ht e.2.1 (List.mem_append_left _ (List.mem_map.2 ⟨e, he, rfl⟩))]
    exact h.res e he hl
theorem SG.new (h : SG W0 Ws G Y0 P T M L Y tm w) (o' : Obj) : SG W0 Ws G Y0 P T M L (fun b => Y b ∨ b = w.heap.size) tm (w.alloc o') := by
  obtain ⟨s, Z, h1, h2, h3, h4⟩ := h.ex
  have hb := below_new w o'
  have hs : (w.alloc o').heap.size = w.heap.size + 1 := by simp
  refine ⟨⟨s, Z, h1, h2.more hb fun k hk => ?_, fun b hb => ?_, fun m hm hl => ?_⟩, h.touch.low (hb.mono h.touch.size), fun g hg => ?_, h.res⟩
  · rcases hk with hk | (hk | hk) | hk
    · exact .inl (.inl hk)
    · exact .inl (.inr (.inl hk))
    · exact .inr ⟨by omega, by omega⟩
    · exact .inl (.inr (.inr hk))
  · have := h3 b hb
    exact ⟨fun e => e.elim this.1 fun e => by omega, this.2.1, by omega⟩
  · obtain ⟨g, e, hz, hl2⟩ := h4 m hm hl
    exact ⟨g, e, hz, hl2.keep (Touch.of (X := fun _ => False) hb) fun e => e⟩
  · rcases hg with hg | hg
    · have := h.box g hg
      exact ⟨this.1, by omega⟩
    · have := h.touch.size
      exact ⟨by omega, by omega⟩
theorem SG.fill (h : SG W0 Ws G Y0 P T M L Y tm w) {g : Nat} (hg : Y g) (xs : Array Value) : SG W0 Ws G Y0 P T M L Y tm (w.setRow g xs) := by
  obtain ⟨s, Z, h1, h2, h3, h4⟩ := h.ex
  have ht := Touch.row1 w g xs
  have hs : (w.setRow g xs).heap.size = w.heap.size := size_setRow _ _ _
  refine ⟨⟨s, Z, h1, h2.write (ht.mono fun b _ e => by rw [e]; exact .inr (.inl hg)), fun b hb => ?_, fun m hm hl => ?_⟩, ?_, fun b hb => ?_, h.res⟩
  · rw [hs]; exact h3 b hb
  · obtain ⟨g', e, hz, hl2⟩ := h4 m hm hl
    exact ⟨g', e, hz, hl2.keep ht fun e => (h3 g' hz).1 (by rw [e]; exact hg)⟩
  · exact h.touch.setRow (.inl (h.box g hg).1) xs
  · rw [hs]; exact h.box b hb
end
section
variable {Q : Exit → Act → World → Prop} {F : Nat → Value → World → Prop} {D : List Nv} {nt : Nat} {ops : List Oper} {a : Act} {i : Nat} {o : Oper}
variable {W0 Ws : World} {G : Nat} {Y0 : Nat → Prop} {P : Array Bool → Fo → Prop} {T : List (Nat × Nat × Int)} {M : List Mk}
theorem SG.off {L : Array Bool} {Y : Nat → Prop} {b : Act} {w : World} {d : Nat} {u : Value} (h : SG W0 Ws G Y0 P T M L Y (sl b) w) (hP : ∀ s, P L s → P (L.setIfInBounds i true) s) (hz : i ∉ T.map (·.1) ++ M.map (·.i)) (hsz : b.tmps.size = nt) (hdn : d < nt) (hd : d ∉ T.map (·.2.1) ++ M.map (·.d)) : SG W0 Ws G Y0 P T M (L.setIfInBounds i true) Y (sl (b.put (some d) u)) w :=
  h.congr hP (offL hz) (offT hsz hdn hd)
theorem OpFu.callG {x y : Operand} {k : Nat} {nn tt l : List UInt8} {e : Nat × Nat × Int} (he : e ∈ T) (hi : i = e.1) (hd : o.dst = some e.2.1) (hdn : e.2.1 < nt) (hil : i < ops.length) (hD : ∀ v ∈ D, i ≠ v.i ∧ i ≠ v.s ∧ e.2.1 ≠ v.d) (hsrc : ∀ v ∈ D, e.2.1 = v.src → ∀ L : Array Bool, Closed ops L → L.getD i false = false → L.getD v.s false = false)
    (hone : ∀ v ∈ T, v.1 = i ∨ v.2.1 = e.2.1 → v = e) (hM : ∀ m ∈ M, m.i ≠ i ∧ m.d ≠ e.2.1) (hgd : o.guard = none)
    (ho : o.op = .call { callee := .value (.func 13), args := #[x, y], argTypes := #[25, 40] })
    (hx : ∀ (b : Act) (w : World), (∀ e ∈ o.after.toList, Region.binds .any e = true → ∀ oj d, ops[e.on]? = some oj → oj.dst = some d → F e.on (b.tmps.getD d undef) w) → b.eval x = .pointer (some ⟨G, 0, none⟩))
    (hy : ∀ (L : Array Bool) (Y : Nat → Prop) (b : Act) (w : World), (∀ e ∈ o.after.toList, Region.binds .any e = true → L.getD e.on false = true) → SG W0 Ws G Y0 P T M L Y (sl b) w → (∀ e ∈ o.after.toList, Region.binds .any e = true → ∀ oj d, ops[e.on]? = some oj → oj.dst = some d → F e.on (b.tmps.getD d undef) w) → ∃ A c, b.eval y = fcv (k : Int) nn tt A l.length c ∧ RdB w w.heap.size A l)
    (hst : ∀ (L : Array Bool) (s : Fo), L.size = ops.length → Closed ops L → (∀ e ∈ o.after.toList, Region.binds .any e = true → L.getD e.on false = true) → L.getD i false = false → P L s → s.Ok 2 → (∀ v ∈ s.d.now, 0 ≤ v.2) ∧ ∃ N1, N1 ≤ 800 ∧ s.Ok N1 ∧ ∀ g', (s.doC g' k nn tt l).2.1 = e.2.2 ∧ ((s.doC g' k nn tt l).1.Ok (N1 + 2) → (s.doC g' k nn tt l).1.Ok 2) ∧ P (L.setIfInBounds i true) (s.doC g' k nn tt l).1)
    (hk : k ≤ 255) (hn : nn.length ≤ 1000) (ht : tt.length ≤ 1000) (hl : l.length ≤ 60)
    (hK : ∀ j u w w', F j u w → F j u w') (hF : ∀ u w, F i u w) : OpFu Tryz.prog Q F (KX (SG W0 Ws G Y0 P T M) D) nt ops a i o := by
  refine OpFu.stepS hd hdn hD hsrc fun L b w Y hL hcl hni hdep hsm hsz hS hg => ⟨by simp [Region.wanted, hgd], ?_⟩
  obtain ⟨A, c, ey, hrd⟩ := hy L Y b w hdep hS hg
  obtain ⟨s, Z, h1, h2, h3, h4⟩ := hS.ex
  obtain ⟨hpos, N1, hN1, hok1, hdo⟩ := hst L s hL hcl hdep hni h1 h2.ok
  have h2' : FS W0 (fun b => Y0 b ∨ Y b ∨ Z b) G s N1 w := ⟨h2.ex, hok1⟩
  unfold Oper.wp
  rw [exec_call2 (enter_fdo _) ho (hx b w hg) ey, Oper.upon_enter]
  refine (fdo_any h2' (by omega) hk hn ht rfl hl (Nat.le_refl _) hrd hpos).mono ?_
  rintro en w' ⟨g', v, rfl, hv, hf, ht'⟩
  obtain ⟨e1, e2, e3⟩ := hdo g'
  have hsl : ∀ j, j ≠ e.2.1 → sl (b.put o.dst v) j = sl b j := fun j hj => by rw [hd]; exact sl_put (by omega) fun e => hj e.symm
  have hoff : ∀ j, j ≠ i → (L.setIfInBounds i true).getD j false = L.getD j false := fun j hj => by rw [getD_set (by omega), decide_eq_false (fun e => hj e.symm), Bool.false_or]
  obtain ⟨A1, n1, c1, A2, n2, c2, ev, _⟩ := hv
  refine ⟨v, rfl, ⟨⟨_, Z, e3, ⟨hf.ex, e2 hf.ok⟩, fun q hq => ?_, fun m hm hlm => ?_⟩, hS.touch.then_ ht' fun q _ e => ⟨e.1, fun h => e.2 (.inl h)⟩, fun q hq => ?_, fun q hq hlq => ?_⟩, hF _ _, fun j u hj => hK j u _ _ hj, ht'.size, fun q hq hlt => ht'.block q hlt fun e => e.2 (.inr (.inl hq))⟩
  · have := h3 q hq
    exact ⟨this.1, this.2.1, Nat.lt_of_lt_of_le this.2.2 ht'.size⟩
  · rw [hoff _ (hM m hm).1] at hlm
    obtain ⟨g, q1, q2, q3⟩ := h4 m hm hlm
    exact ⟨g, (hsl _ (hM m hm).2).trans q1, q2, q3.keep ht' fun e => e.2 (.inr (.inr q2))⟩
  · have := hS.box q hq
    exact ⟨this.1, Nat.lt_of_lt_of_le this.2 ht'.size⟩
  · by_cases hq1 : q.1 = i
    · obtain rfl := hone q hq (.inl hq1)
      refine ⟨A1, n1, c1, A2, n2, c2, ?_⟩
      rw [hd, sl_here (by omega), ev, e1]
    · rw [hoff _ hq1] at hlq
      obtain ⟨A, n, c, A', n', c', q3⟩ := hS.res q hq hlq
      refine ⟨A, n, c, A', n', c', (hsl _ fun e' => hq1 ?_).trans q3⟩
      rw [hone q hq (.inr e'), ← hi]
theorem OpFu.bytesG {m : Mk} (hm : m ∈ M) (hi : i = m.i) (hd : o.dst = some m.d) (hdn : m.d < nt) (hil : i < ops.length) (hD : ∀ v ∈ D, i ≠ v.i ∧ i ≠ v.s ∧ m.d ≠ v.d) (hsrc : ∀ v ∈ D, m.d = v.src → ∀ L : Array Bool, Closed ops L → L.getD i false = false → L.getD v.s false = false)
    (hone : ∀ v ∈ M, v.i = i ∨ v.d = m.d → v = m) (hT : ∀ v ∈ T, v.1 ≠ i ∧ v.2.1 ≠ m.d) (hgd : o.guard = none) (hP : ∀ L s, P L s → P (L.setIfInBounds i true) s)
    (hrun : ∀ (b : Act) (w : World), (execOp b.eval o).run Tryz.prog w = .ok (.value (m.val w.heap.size)) (w.alloc (.cells (bs m.l).toArray 5)))
    (hK : ∀ j u w w', F j u w → F j u w') (hF : ∀ u w, F i u w) : OpFu Tryz.prog Q F (KX (SG W0 Ws G Y0 P T M) D) nt ops a i o := by
  refine OpFu.stepS hd hdn hD hsrc fun L b w Y hL hcl hni hdep hsm hsz hS hg => ⟨by simp [Region.wanted, hgd], ?_⟩
  obtain ⟨s, Z, h1, h2, h3, h4⟩ := hS.ex
  unfold Oper.wp
  rw [hrun, Oper.upon_value]
  have hb := below_new w (.cells (bs m.l).toArray 5)
  have hs : (w.alloc (.cells (bs m.l).toArray 5)).heap.size = w.heap.size + 1 := by simp
  have hsl : ∀ j v, j ≠ m.d → sl (b.put o.dst v) j = sl b j := fun j v hj => by rw [hd]; exact sl_put (by omega) fun e => hj e.symm
  have hoff : ∀ j, j ≠ i → (L.setIfInBounds i true).getD j false = L.getD j false := fun j hj => by rw [getD_set (by omega), decide_eq_false (fun e => hj e.symm), Bool.false_or]
  refine ⟨_, rfl, ⟨⟨s, fun q => Z q ∨ q = w.heap.size, hP L s h1, h2.more hb fun k hk => ?_, fun q hq => ?_, fun m' hm' hlm => ?_⟩, hS.touch.low (hb.mono hS.touch.size), fun q hq => ?_, fun q hq hlq => ?_⟩, hF _ _, fun j u hj => hK j u _ _ hj, hb.size, fun q _ hlt => hb.block q hlt⟩
  · rcases hk with hk | hk | hk | hk
    · exact .inl (.inl hk)
    · exact .inl (.inr (.inl hk))
    · exact .inl (.inr (.inr hk))
    · exact .inr ⟨by omega, by omega⟩
  · rcases hq with hq | hq
    · have := h3 q hq
      exact ⟨this.1, this.2.1, by omega⟩
    · have := hS.touch.size
      exact ⟨fun e => by have := (hS.box q e).2; omega, by omega, by omega⟩
  · by_cases hmi : m'.i = i
    · obtain rfl := hone m' hm' (.inl hmi)
      refine ⟨w.heap.size, by rw [hd]; exact sl_here (by omega), .inr rfl, ⟨_, heap_alloc_new w _⟩⟩
    · rw [hoff _ hmi] at hlm
      obtain ⟨g, q1, q2, q3⟩ := h4 m' hm' hlm
      exact ⟨g, (hsl _ _ fun e' => hmi (by rw [hone m' hm' (.inr e'), ← hi])).trans q1, .inl q2, q3.keep (Touch.of (X := fun _ => False) hb) fun e => e⟩
  · have := hS.box q hq
    exact ⟨this.1, by omega⟩
  · rw [hoff _ (hT q hq).1] at hlq
    obtain ⟨A, n, c, A', n', c', q3⟩ := hS.res q hq hlq
    exact ⟨A, n, c, A', n', c', (hsl _ _ (hT q hq).2).trans q3⟩
theorem OpFu.fromG {m m0 : Mk} (hm : m ∈ M) (hm0 : m0 ∈ M) (hi : i = m.i) (hd : o.dst = some m.d) (hdn : m.d < nt) (hil : i < ops.length) (hD : ∀ v ∈ D, i ≠ v.i ∧ i ≠ v.s ∧ m.d ≠ v.d) (hsrc : ∀ v ∈ D, m.d = v.src → ∀ L : Array Bool, Closed ops L → L.getD i false = false → L.getD v.s false = false)
    (hone : ∀ v ∈ M, v.i = i ∨ v.d = m.d → v = m) (hT : ∀ v ∈ T, v.1 ≠ i ∧ v.2.1 ≠ m.d) (hgd : o.guard = none) (hP : ∀ L s, P L s → P (L.setIfInBounds i true) s) (hl : m.l = m0.l)
    (hdp : ∀ L : Array Bool, (∀ e ∈ o.after.toList, Region.binds .any e = true → L.getD e.on false = true) → L.getD m0.i false = true)
    (hrun : ∀ (b : Act) (w : World) (g : Nat), sl b m0.d = m0.val g → LitG w g m.l → ∃ w', (execOp b.eval o).run Tryz.prog w = .ok (.value (m.val g)) w' ∧ LitG w' g m.l ∧ Touch (fun k => k = g) w w' ∧ w'.heap.size = w.heap.size ∧ ∀ g' l', LitG w g' l' → LitG w' g' l')
    (hK : ∀ j u w w', F j u w → F j u w') (hF : ∀ u w, F i u w) : OpFu Tryz.prog Q F (KX (SG W0 Ws G Y0 P T M) D) nt ops a i o := by
  refine OpFu.stepS hd hdn hD hsrc fun L b w Y hL hcl hni hdep hsm hsz hS hg => ⟨by simp [Region.wanted, hgd], ?_⟩
  obtain ⟨s, Z, h1, h2, h3, h4⟩ := hS.ex
  obtain ⟨g0, q1, q2, q3⟩ := h4 m0 hm0 (hdp L hdep)
  rw [← hl] at q3
  obtain ⟨w', hr, r1, r2, r3, r4⟩ := hrun b w g0 q1 q3
  unfold Oper.wp
  rw [hr, Oper.upon_value]
  have hsl : ∀ j v, j ≠ m.d → sl (b.put o.dst v) j = sl b j := fun j v hj => by rw [hd]; exact sl_put (by omega) fun e => hj e.symm
  have hoff : ∀ j, j ≠ i → (L.setIfInBounds i true).getD j false = L.getD j false := fun j hj => by rw [getD_set (by omega), decide_eq_false (fun e => hj e.symm), Bool.false_or]
  refine ⟨_, rfl, ⟨⟨s, Z, hP L s h1, h2.write (r2.mono fun q _ e => by rw [e]; exact .inr (.inr q2)), fun q hq => ?_, fun m' hm' hlm => ?_⟩, ?_, fun q hq => ?_, fun q hq hlq => ?_⟩, hF _ _, fun j u hj => hK j u _ _ hj, by omega, fun q hq hlt => r2.block q hlt fun e => (h3 g0 q2).1 (by rw [← e]; exact hq)⟩
  · rw [r3]; exact h3 q hq
  · by_cases hmi : m'.i = i
    · obtain rfl := hone m' hm' (.inl hmi)
      exact ⟨g0, by rw [hd]; exact sl_here (by omega), q2, r1⟩
    · rw [hoff _ hmi] at hlm
      obtain ⟨g, p1, p2, p3⟩ := h4 m' hm' hlm
      exact ⟨g, (hsl _ _ fun e' => hmi (by rw [hone m' hm' (.inr e'), ← hi])).trans p1, p2, r4 g m'.l p3⟩
  · refine ⟨r2.os.trans hS.touch.os, r2.tape.trans hS.touch.tape, r2.output.trans hS.touch.output, by rw [r3]; exact hS.touch.size, fun q hq hn => ?_⟩
    exact (r2.block q (Nat.lt_of_lt_of_le hq hS.touch.size) fun e => by have := (h3 g0 q2).2.1; omega).trans (hS.touch.block q hq hn)
  · rw [r3]; exact hS.box q hq
  · rw [hoff _ (hT q hq).1] at hlq
    obtain ⟨A, n, c, A', n', c', p3⟩ := hS.res q hq hlq
    exact ⟨A, n, c, A', n', c', (hsl _ _ (hT q hq).2).trans p3⟩
end
section
variable {w : World} {b : Act} {o : Oper}
theorem exec_buildC1 (ho : o.op = .build 40 #[(0, .const (.int .u8 1))]) : (execOp b.eval o).run Tryz.prog w = .ok (.value (fcv 1 [] [] none 0 0)) w := by
  have hc : b.eval (.const (.int .u8 1)) = .int .u8 1 := rfl
  unfold execOp
  simp only [ho, List.map_toArray, List.map_cons, List.map_nil, hc]
  go_simp
  rfl
theorem exec_buildC2 {x : Operand} {A : Option Addr} {n c : Nat} {nm : ByteArray} (ho : o.op = .build 40 #[(0, .const (.int .u8 2)), (1, .const (.string nm)), (3, x)]) (h : b.eval x = .slice A n c) : (execOp b.eval o).run Tryz.prog w = .ok (.value (.agg #[.int .u8 2, .string nm, .string ByteArray.empty, .slice A n c])) w := by
  have hc : b.eval (.const (.int .u8 2)) = .int .u8 2 := rfl
  have hc' : b.eval (.const (.string nm)) = .string nm := rfl
  unfold execOp
  simp only [ho, List.map_toArray, List.map_cons, List.map_nil, hc, hc', h]
  go_simp
  rfl
theorem exec_litG {c : UInt8} {n : Int} (ho : o.op = .buildSlice 38 1 #[(0, .const (.int .u8 n))]) (hc : (c.toNat : Int) = n) : (execOp b.eval o).run Tryz.prog w = .ok (.value (.slice (some ⟨w.heap.size, 0, none⟩) 1 1)) (w.alloc (.cells (bs [c]).toArray 5)) := by
  subst hc
  have hc : b.eval (.const (.int .u8 (c.toNat : Int))) = .int .u8 (c.toNat : Int) := rfl
  unfold execOp
  simp only [ho, List.map_toArray, List.map_cons, List.map_nil, hc]
  go_simp
  rfl
theorem exec_convG {x : Operand} {v v' : Value} {t t' : TypeId} {w' : World} (ho : o.op = .convert t t' x) (h : b.eval x = v) (hr : (convert t t' v).run Tryz.prog w = .ok v' w') : (execOp b.eval o).run Tryz.prog w = .ok (.value v') w' := by
  unfold execOp
  simp only [ho, h]
  simp only [Sem.run_bind, hr, Result.andThen, Sem.run_pure]
end
end Go.Proofs.YtbhmnmmockmibaaGreat

namespace Go.Proofs.YtbhmnmmockmibaaGreat
open Go.RowKit Go.Maps
theorem wk_files (g : Nat) : ((wkS g 7).power 0 []).files = [([98], [])] := by kernel_rfl
def wk1 (g : Nat) : Fo := ((Fo.new 10 3).doC g 1 [97] [] []).1
theorem wk_e2 (g g' : Nat) : (wk1 g).doC g' 1 [97] [] [] = (wk1 g, 81, [], []) := by rfl
theorem wk_e3 (g g' : Nat) : (wk1 g).doC g' 1 [] [] [] = (wk1 g, 2, [], []) := by rfl
theorem wk_e4 (g g' : Nat) : (wk1 g).doC g' 2 [99] [] [120] = (wk1 g, 80, [], []) := by rfl
theorem wk_e5 (g g' : Nat) : (wk1 g).doC g' 2 [97] [] (noughts 11) = (wk1 g, 90, [], []) := by rfl
theorem wk_now (g : Nat) : (wk1 g).d.now = [([97], 1)] := by rfl
end Go.Proofs.YtbhmnmmockmibaaGreat

namespace Go.Proofs.YtbhmnmmockmibaaGreat
open Go.RowKit
set_option maxHeartbeats 4000000 in
set_option maxRecDepth 100000 in
theorem files_true {w : World} {X1 X2 : Nat → Prop} {A1 A2 : Option Addr} {c1 c2 n1 n2 : Nat} {e1 e2 : List Fv} (h1 : FlX w X1 A1 e1) (h2 : FlX w X2 A2 e2) (hn1 : e1.length = n1) (hn2 : e2.length = n2) (he : e1.map Fv.say = e2.map Fv.say) (hl : n1 ≤ 1000) (hb : ∀ e ∈ e1, e.l.length ≤ 140737488351232) :
    Calls Tryz.prog 24 #[.slice A1 n1 c1, .slice A2 n2 c2] w fun en w' => en = .returned (.bool true) ∧ Below w.heap.size w w' := by
  obtain rfl : n1 = n2 := by rw [← hn1, ← hn2, ← List.length_map (f := Fv.say), he, List.length_map]
  have hlI : (n1 : Int) ≤ 1000 := by omega
  have He := Lib.hid he
  have Hb := Lib.hid hb
  have Hn1 := Lib.hid hn1
  have Hn2 := Lib.hid hn2
  clear he hb hn1 hn2
  go_enter Tryz.func24, Tryz.ntmps24
  go_wp2
  go_loopw [5] (fun i wr => ∃ k : Nat, k ≤ n1 ∧ i = .int .i64 (k : Int) ∧ Hid (Below w.heap.size w wr)) (fun i _ => n1 - (intOf i).toNat)
  case atStart => exact ⟨0, by omega, rfl, Below.refl _ _⟩
  case round =>
    obtain ⟨k, hk, rfl, hw⟩ := hrel
    by_cases hlt : k < n1
    · obtain ⟨a1, x1, rfl, _, _, p0, p1, hx1, hr1⟩ := (h1.below hw.out).at_ (k := k) (by rw [Hn1.out]; exact hlt)
      obtain ⟨a2, x2, rfl, _, _, q0, q1, hx2, hr2⟩ := (h2.below hw.out).at_ (k := k) (by rw [Hn2.out]; exact hlt)
      have hsay : x1.n = x2.n ∧ x1.l = x2.l := by
        have e1' : (e1.map Fv.say)[k]? = some (x1.n, x1.l) := by rw [List.getElem?_map, hx1.out]; rfl
        have e2' : (e2.map Fv.say)[k]? = some (x2.n, x2.l) := by rw [List.getElem?_map, hx2.out]; rfl
        rw [He.out, e2'] at e1'
        injection e1' with e1'
        injection e1' with e3 e4
        exact ⟨e3.symm, e4.symm⟩
      obtain ⟨en, el⟩ := hsay
      rw [← en] at q0
      rw [← el] at q1 hr2
      have hsb := Lib.hid (fun (wx : World) (hx : Below wr.heap.size wr wx) => sameBytes_any x1.A x2.A x1.c x2.c _ _ x1.l x1.l wx (Hb.out x1 (List.mem_of_getElem? hx1.out)) (hr1.below hx).reads (hr2.below hx).reads)
      have hd : decide (x1.l = x1.l) = true := decide_eq_true rfl
      rw [hd] at hsb
      clear hr1 hr2 hx1 hx2 hd en el
      obtain ⟨m, hm⟩ : ∃ m, Hid (x1.l.length = m) := ⟨_, rfl⟩
      obtain ⟨nm, hnm⟩ : ∃ m, Hid (txt x1.n = m) := ⟨_, rfl⟩
      rw [hm.out] at hsb p1 q1
      rw [hnm.out] at p0 q0
      go_upto_region 6 with fail
      go_quiet (first | (go_at_call 51; refine Calls.quiet_of (hsb.out _ (below_drewN (Below.refl _ _) _))))
      go_wp2
      go_roundw
      case rel => exact ⟨k + 1, by omega, by go_num, below_drewN hw.out _⟩
      case measure => simp [intOf]; omega
    · obtain rfl : k = n1 := by omega
      go_wp2
      go_ret
      exact ⟨rfl, hw.out⟩
end Go.Proofs.YtbhmnmmockmibaaGreat
