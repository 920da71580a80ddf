/- The walk of ExtentOdd: it holds, of files and calls that are small. Conditions: at most 20 parts of 30 bytes; 30 bytes; 30 told. -/
import Derived.Test.YtnlcohijopokjaaLawEP
namespace Go.Proofs.Ytnlcohijopokjaa
open Go.RowKit

theorem enter_rsync (w : World) (args : Array Value) : (callFunc 14 args).run Try.prog w = .ok (.enter 14 args) w := by kernel_rfl
theorem enter_works7 (w : World) (args : Array Value) : (callFunc 7 args).run Try.prog w = .ok (.enter 7 args) w := by kernel_rfl
theorem worksX (w : World) : Calls Try.prog 7 #[] w fun e w' => ∃ u, e = .returned u ∧ Below w.heap.size w w' ∧ u = .bool true :=
  works7a_any w _ fun _ _ h => ⟨_, h.1, h.2, rfl⟩
theorem rsyncW {W : World} {X : Nat → Prop} {v : Value} {m m' : List Pt} (hm : SmM m) (hv : FileV W X v m) (he : syncM m = m') (w : World) (hc : Below W.heap.size W w) :
    Calls Try.prog 14 #[.agg #[v]] w fun e w' => ∃ u, e = .returned u ∧ Below w.heap.size w w' ∧ ∃ u', u = .agg #[u'] ∧ FileV w' (XW W) u' m' := by
  subst he
  refine (rsyncX hm (hv.below hc)).mono ?_
  rintro e w' ⟨u, rfl, hb, u', rfl, hf⟩
  exact ⟨_, rfl, hb, u', rfl, hf.mono fun b _ e => Nat.lt_of_lt_of_le e hc.size⟩
/-- The call alone, listed. -/
theorem RdAc.one {w : World} {B : Nat} (a : Ac) (t : TypeId) (hB : B ≤ w.heap.size) (hr : RdB w B a.r.A a.r.l) (hq : RdK w B a.q.A a.q.l) (hk : a.Ok) : RdAc (w.alloc (.cells a.cs.toArray t)) (w.heap.size + 1) (some ⟨w.heap.size, 0, none⟩) [a] := by
  have hb := below_new w (.cells a.cs.toArray t)
  refine ⟨⟨acells_len _, fun _ => ⟨_, rfl, by simp, fun j u hu => ?_⟩⟩, fun x hx => ?_, fun x hx => ?_, fun x hx => ?_⟩
  · rw [lit_add, Nat.zero_add, cell_of_row (w.alloc (.cells a.cs.toArray t)) w.heap.size j a.cs.toArray t (0, 0) (heap_alloc_new w _)]
    simpa [acells] using hu
  · rw [List.mem_singleton] at hx; subst hx
    exact (Reads.below hr (hb.mono hB)).more (by omega)
  · rw [List.mem_singleton] at hx; subst hx
    exact (Reads.below hq (hb.mono hB)).more (by omega)
  · rw [List.mem_singleton] at hx; subst hx
    exact hk
structure OdSt (W wr : World) (g : Nat) (v : Value) (qs : List Pa) (m : List Pt) : Prop where
  f : wr.heap[g]? = some (.cells #[v] 30 (0, 0))
  own : OwnP 52 W.heap.size (XW W) wr v qs
  say : says qs = m
  touch : Touch (fun k => k = g) W wr
def OdF (X : Nat → Prop) (Av : Option Addr) (nv cv g7 g6 : Nat) (ad : Addr) (n c k : Nat) (Ar : Option Addr) (nr cr : Nat) (l : List UInt8) (d : Bool) : Nat → Value → World → Prop
  | 0, v, _ => v = .pointer (some ⟨g7, 0, none⟩)
  | 1, v, _ => v = .slice Av nv cv
  | 2, v, _ => v = .pointer (some ⟨g6, 0, none⟩)
  | 3, v, _ => v = .slice (some ad) n c
  | 4, v, _ => v = .int .i64 (k : Int)
  | 5, v, _ => v = .pointer (some (ad.add (k * 2)))
  | 6, v, _ => v = .pointer (some (ad.add (k * 2)))
  | 7, v, _ => v = .slice Ar nr cr
  | 8, v, w => ∃ A c, v = .slice A nr c ∧ BsX w X A l
  | 9, v, _ => v = .pointer (some ⟨g6, 0, none⟩)
  | 10, v, _ => v = .slice (some ad) n c
  | 11, v, _ => v = .int .i64 (k : Int)
  | 12, v, _ => v = .pointer (some (ad.add (k * 2)))
  | 13, v, _ => v = .pointer (some ⟨((ad.add (k * 2))).block, ((ad.add (k * 2))).off + 1, none⟩)
  | 14, v, _ => v = .bool d
  | 15, v, w => ∃ A c, v = (Pa.mk ⟨A, c, l⟩ d).v ∧ BsX w X A l
  | 16, v, w => ∃ p : Pa, p.r.l = l ∧ p.d = d ∧ BsX w X p.r.A p.r.l ∧ ∃ A, v = .slice A 1 1 ∧ Reads w w.heap.size 2 A 1 (pcells [p])
  | _, _, _ => True
theorem OdF.keep {X : Nat → Prop} {Av : Option Addr} {nv cv g7 g6 : Nat} {ad : Addr} {n c k : Nat} {Ar : Option Addr} {nr cr : Nat} {l : List UInt8} {d : Bool} (j : Nat) (u : Value) (w w' : World) (hb : Below w.heap.size w w') (hfact : OdF X Av nv cv g7 g6 ad n c k Ar nr cr l d j u w) : OdF X Av nv cv g7 g6 ad n c k Ar nr cr l d j u w' :=
  match j, hfact with
  | 0, h => h
  | 1, h => h
  | 2, h => h
  | 3, h => h
  | 4, h => h
  | 5, h => h
  | 6, h => h
  | 7, h => h
  | 8, h => by obtain ⟨A, c, e, h⟩ := h; exact ⟨A, c, e, h.below hb⟩
  | 9, h => h
  | 10, h => h
  | 11, h => h
  | 12, h => h
  | 13, h => h
  | 14, h => h
  | 15, h => by obtain ⟨A, c, e, h⟩ := h; exact ⟨A, c, e, h.below hb⟩
  | 16, h => by obtain ⟨p, e1, e2, h, A, e3, h2⟩ := h; exact ⟨p, e1, e2, h.below hb, A, e3, (Reads.below h2 hb).more hb.size⟩
  | _ + 17, h => h
def O4F (l : List UInt8) (nm vm : Nat) (Af : Option Addr) (nf cf : Nat) (Ar : Option Addr) (nr cr : Nat) : Nat → Value → World → Prop
  | 0, v, _ => v = .agg #[.slice Af nf cf]
  | 1, v, w => ∃ A c, v = .slice A nm c ∧ RdB w w.heap.size A l
  | 2, v, _ => v = .agg #[.slice Ar nr cr]
  | 3, v, w => ∃ A c, v = .slice A nm c ∧ RdB w w.heap.size A l
  | 4, v, _ => v = .bool true
  | 5, v, _ => v = .bool false
  | 6, v, _ => v = .bool false
  | 7, v, _ => v = .agg #[.slice Af nf cf]
  | 8, v, _ => v = .int .i64 (nm : Int)
  | 9, v, _ => v = .agg #[.slice Ar nr cr]
  | 10, v, w => ∃ A c, v = .slice A nm c ∧ RdB w w.heap.size A l
  | 11, v, _ => v = .int .i64 (nm : Int)
  | 12, v, _ => v = .bool false
  | 13, v, _ => v = .bool false
  | 14, v, _ => v = .bool false
  | 15, v, _ => v = .agg #[.slice Af nf cf]
  | 16, v, _ => v = .int .i64 (vm : Int)
  | 17, v, _ => v = .agg #[.slice Ar nr cr]
  | 18, v, _ => v = .int .i64 (vm : Int)
  | 19, v, _ => v = .bool false
  | 20, v, _ => v = .bool false
  | _, _, _ => True
theorem O4F.keep {l : List UInt8} {nm vm : Nat} {Af : Option Addr} {nf cf : Nat} {Ar : Option Addr} {nr cr : Nat} (j : Nat) (u : Value) (w w' : World) (hb : Below w.heap.size w w') (hfact : O4F l nm vm Af nf cf Ar nr cr j u w) : O4F l nm vm Af nf cf Ar nr cr j u w' :=
  match j, hfact with
  | 0, h => h
  | 1, h => by obtain ⟨A, c, e, h⟩ := h; exact ⟨A, c, e, (Reads.below h hb).more hb.size⟩
  | 2, h => h
  | 3, h => by obtain ⟨A, c, e, h⟩ := h; exact ⟨A, c, e, (Reads.below h hb).more hb.size⟩
  | 4, h => h
  | 5, h => h
  | 6, h => h
  | 7, h => h
  | 8, h => h
  | 9, h => h
  | 10, h => by obtain ⟨A, c, e, h⟩ := h; exact ⟨A, c, e, (Reads.below h hb).more hb.size⟩
  | 11, h => h
  | 12, h => h
  | 13, h => h
  | 14, h => h
  | 15, h => h
  | 16, h => h
  | 17, h => h
  | 18, h => h
  | 19, h => h
  | 20, h => h
  | _ + 21, h => h
def O5F (Ao : Option Addr) (no co : Nat) (Ar : Option Addr) (nr cr : Nat) (X : Nat → Prop) (m' : List Pt) : Nat → Value → World → Prop
  | 0, v, _ => v = .agg #[.slice Ao no co]
  | 1, v, w => ∃ u, v = .agg #[u] ∧ FileV w (fun _ => False) u m'
  | 2, v, _ => v = .agg #[.slice Ar nr cr]
  | 3, v, w => ∃ u, v = .agg #[u] ∧ FileV w X u m'
  | 4, v, _ => v = .bool true
  | 5, v, _ => v = .bool true
  | 6, v, _ => v = .bool true
  | 7, v, _ => v = .bool true
  | 8, v, _ => v = .bool true
  | _, _, _ => True
theorem O5F.keep {Ao : Option Addr} {no co : Nat} {Ar : Option Addr} {nr cr : Nat} {X : Nat → Prop} {m' : List Pt} (j : Nat) (u : Value) (w w' : World) (hb : Below w.heap.size w w') (hfact : O5F Ao no co Ar nr cr X m' j u w) : O5F Ao no co Ar nr cr X m' j u w' :=
  match j, hfact with
  | 0, h => h
  | 1, h => by obtain ⟨u, e, h⟩ := h; exact ⟨u, e, h.below hb⟩
  | 2, h => h
  | 3, h => by obtain ⟨u, e, h⟩ := h; exact ⟨u, e, h.below hb⟩
  | 4, h => h
  | 5, h => h
  | 6, h => h
  | 7, h => h
  | 8, h => h
  | _ + 9, h => h
def O6F (Ao : Option Addr) (no co : Nat) (Ar : Option Addr) (nr cr : Nat) (g3 : Nat) (Ab : Option Addr) (nb cb : Nat) (X : Nat → Prop) (m' : List Pt) : Nat → Value → World → Prop
  | 0, v, _ => v = .agg #[.slice Ao no co]
  | 1, v, w => ∃ u, v = .agg #[u] ∧ FileV w (fun _ => False) u m'
  | 2, v, _ => v = .agg #[.slice Ar nr cr]
  | 3, v, _ => v = .pointer (some ⟨g3, 2, none⟩)
  | 4, v, _ => v = .slice Ab nb cb
  | 5, v, w => ∃ u, v = .agg #[u] ∧ FileV w X u m'
  | 6, v, _ => v = .bool true
  | 7, v, _ => v = .bool true
  | 8, v, _ => v = .bool true
  | 9, v, _ => v = .bool true
  | 10, v, _ => v = .bool true
  | _, _, _ => True
theorem O6F.keep {Ao : Option Addr} {no co : Nat} {Ar : Option Addr} {nr cr : Nat} {g3 : Nat} {Ab : Option Addr} {nb cb : Nat} {X : Nat → Prop} {m' : List Pt} (j : Nat) (u : Value) (w w' : World) (hb : Below w.heap.size w w') (hfact : O6F Ao no co Ar nr cr g3 Ab nb cb X m' j u w) : O6F Ao no co Ar nr cr g3 Ab nb cb X m' j u w' :=
  match j, hfact with
  | 0, h => h
  | 1, h => by obtain ⟨u, e, h⟩ := h; exact ⟨u, e, h.below hb⟩
  | 2, h => h
  | 3, h => h
  | 4, h => h
  | 5, h => by obtain ⟨u, e, h⟩ := h; exact ⟨u, e, h.below hb⟩
  | 6, h => h
  | 7, h => h
  | 8, h => h
  | 9, h => h
  | 10, h => h
  | _ + 11, h => h
def O7F (Ao : Option Addr) (no co : Nat) (Ar : Option Addr) (nr cr : Nat) (g3 : Nat) (Ab : Option Addr) (nb cb : Nat) (X : Nat → Prop) (m' : List Pt) : Nat → Value → World → Prop
  | 0, v, _ => v = .agg #[.slice Ao no co]
  | 1, v, w => ∃ u, v = .agg #[u] ∧ FileV w (fun _ => False) u m'
  | 2, v, _ => v = .agg #[.slice Ar nr cr]
  | 3, v, _ => v = .pointer (some ⟨g3, 1, none⟩)
  | 4, v, _ => v = .slice Ab nb cb
  | 5, v, w => ∃ u, v = .agg #[u] ∧ FileV w X u m'
  | 6, v, _ => v = .bool true
  | 7, v, _ => v = .bool true
  | 8, v, _ => v = .bool true
  | 9, v, _ => v = .bool true
  | 10, v, _ => v = .bool true
  | _, _, _ => True
theorem O7F.keep {Ao : Option Addr} {no co : Nat} {Ar : Option Addr} {nr cr : Nat} {g3 : Nat} {Ab : Option Addr} {nb cb : Nat} {X : Nat → Prop} {m' : List Pt} (j : Nat) (u : Value) (w w' : World) (hb : Below w.heap.size w w') (hfact : O7F Ao no co Ar nr cr g3 Ab nb cb X m' j u w) : O7F Ao no co Ar nr cr g3 Ab nb cb X m' j u w' :=
  match j, hfact with
  | 0, h => h
  | 1, h => by obtain ⟨u, e, h⟩ := h; exact ⟨u, e, h.below hb⟩
  | 2, h => h
  | 3, h => h
  | 4, h => h
  | 5, h => by obtain ⟨u, e, h⟩ := h; exact ⟨u, e, h.below hb⟩
  | 6, h => h
  | 7, h => h
  | 8, h => h
  | 9, h => h
  | 10, h => h
  | _ + 11, h => h
set_option maxHeartbeats 8000000 in
set_option maxRecDepth 100000 in
theorem odd7_any {A : Option Addr} {np0 cp0 B : Nat} {X : Nat → Prop} {m : List Pt} {a : Ac} {w : World} (hsz : Sz m 20) (hf : FileV w X (.slice A np0 cp0) m) (hB : B ≤ w.heap.size) (hr : RdB w B a.r.A a.r.l) (hq : RdK w B a.q.A a.q.l) (hok : a.Ok) (hl30 : a.r.l.length ≤ 30) (hq30 : a.q.l.length ≤ 30) :
    Calls Try.prog 24 #[.agg #[.slice A np0 cp0], .agg #[.int .i64 a.k, .slice a.r.A a.r.l.length a.r.c, .slice a.q.A a.q.l.length a.q.c]] w fun e w' => e = .returned (.bool true) ∧ Below w.heap.size w w' := by
  have hnp : (np0 : Int) ≤ 20 := by
    obtain ⟨A', c', ps, e, _, _, hsy⟩ := hf
    injection e with _ e2 _
    have h1 := hsz.n
    rw [← hsy, says_len] at h1
    omega
  have hnd : decide ((20 : Int) < (np0 : Int)) = false := by rw [decide_eq_false_iff_not]; omega
  have Hok := Lib.hid hok
  have Hsz := Lib.hid hsz
  have HB := Lib.hid hB
  have hr0 := Lib.hid hr
  have hq0 := Lib.hid hq
  obtain ⟨g2, h2⟩ : ∃ g, Hid (w.heap.size = g) := ⟨_, rfl⟩
  obtain ⟨g3, h3⟩ : ∃ g, Hid (w.heap.size + 1 = g) := ⟨_, rfl⟩
  obtain ⟨W, hW⟩ : ∃ W, Hid ((w.alloc (.cells #[.slice A np0 cp0] 30)).alloc (.cells #[.int .i64 a.k, .slice a.r.A a.r.l.length a.r.c, .slice a.q.A a.q.l.length a.q.c] 40) = W) := ⟨_, rfl⟩
  have hbW : Hid (Below w.heap.size w W) := by rw [← hW.out]; exact (below_new _ _).alloc (by simp) _
  have hsW : Hid (W.heap.size = w.heap.size + 2) := by rw [← hW.out]; show _ = _; simp
  have f2 : Hid (W.heap[g2]? = some (.cells #[.slice A np0 cp0] 30 (0, 0))) := by
    rw [← hW.out, ← h2.out]; show _ = _
    rw [heap_alloc_old _ _ (by simp)]
    exact heap_alloc_new _ _
  have f3 : Hid (W.heap[g3]? = some (.cells #[.int .i64 a.k, .slice a.r.A a.r.l.length a.r.c, .slice a.q.A a.q.l.length a.q.c] 40 (0, 0))) := by
    rw [← hW.out, ← h3.out]; show _ = _
    have := heap_alloc_new (w.alloc (.cells #[.slice A np0 cp0] 30)) (.cells #[.int .i64 a.k, .slice a.r.A a.r.l.length a.r.c, .slice a.q.A a.q.l.length a.q.c] 40)
    simpa using this
  have h2l : Hid (g2 < W.heap.size) := by rw [hsW.out, ← h2.out]; show _ < _; omega
  have h3l : Hid (g3 < W.heap.size) := by rw [hsW.out, ← h3.out]; show _ < _; omega
  have HfW := Lib.hid (FileV.both (hf.below hbW.out))
  have hrW := Lib.hid (Reads.below hr (hbW.out.mono hB))
  have hqW := Lib.hid (Reads.below hq (hbW.out.mono hB))
  have hfew0 := few_any (c := 1) (t := 1) rfl (by omega) (by simp) (RdAc.one a 40 (Nat.le_trans hB hbW.out.size) hrW.out hqW.out hok)
  have Hfew := Lib.hid hfew0
  have cf2 := box_cell f2.out
  have cf3 : W.cell? ⟨g3, 0, none⟩ = some (.int .i64 a.k) := by rw [cell_of_row W g3 0 _ _ _ f3.out]; rfl
  have cf31 : W.cell? ⟨g3, 1, none⟩ = some (.slice a.r.A a.r.l.length a.r.c) := by rw [cell_of_row W g3 1 _ _ _ f3.out]; rfl
  have cf32 : W.cell? ⟨g3, 2, none⟩ = some (.slice a.q.A a.q.l.length a.q.c) := by rw [cell_of_row W g3 2 _ _ _ f3.out]; rfl
  have CF31 := Lib.hid cf31
  have CF32 := Lib.hid cf32
  have CF3 := Lib.hid cf3
  clear hfew0 hf hr hq hok hsz
  go_enter Try.func24, Try.ntmps24
  go_upto_region 1 with fail
  rw [hW.out, h3.out, h2.out]
  go_wp2_with fail
  go_at_call 6
  refine Hfew.out.mono ?_
  rintro e W2 ⟨b, rfl, _, hw2⟩
  have hb2 : Hid (Below W.heap.size W W2) := by rw [hw2]; exact below_new _ _
  have hWs := Lib.hid hb2.out.size
  have hac2 := Lib.hid (hbW.out.trans (hb2.out.mono hbW.out.size))
  clear hw2 Hfew cf2 cf3 cf31 cf32
  cases b
  · go_wp2_with fail
    go_at_call 7
    refine works7a_any _ _ ?_
    rintro e w4 ⟨rfl, hbl⟩
    go_wp2
    go_ret
    exact ⟨rfl, hac2.out.trans (hbl.mono hac2.out.size)⟩
  have Hf2 := Lib.hid (HfW.out.below hb2.out)
  have cf2 := (hb2.out.cell (p := ⟨g2, 0, none⟩) h2l.out).trans (box_cell f2.out)
  have h2l2 : Hid (g2 < W2.heap.size) := Nat.lt_of_lt_of_le h2l.out hb2.out.size
  have h3l2 : Hid (g3 < W2.heap.size) := Nat.lt_of_lt_of_le h3l.out hb2.out.size
  have c20 := Lib.hid cf2
  have c30 := Lib.hid ((hb2.out.cell (p := ⟨g3, 0, none⟩) h3l.out).trans CF3.out)
  have c31 := Lib.hid ((hb2.out.cell (p := ⟨g3, 1, none⟩) h3l.out).trans CF31.out)
  have c32 := Lib.hid ((hb2.out.cell (p := ⟨g3, 2, none⟩) h3l.out).trans CF32.out)
  have hbw2 : Hid (Below w.heap.size w W2) := hac2.out
  have Hrow := Lib.hid (Reads.below hrW.out (hb2.out.mono (Nat.le_trans hB hbW.out.size)))
  have Htold := Lib.hid (Reads.below hqW.out (hb2.out.mono (Nat.le_trans hB hbW.out.size)))
  have HB2 := Lib.hid (Nat.le_trans hB hac2.out.size)
  have Hsm := Lib.hid (Hsz.out.sm (by omega))
  clear HfW f2 f3 CF3 CF31 CF32 hrW hqW hb2 hbW hsW hac2 h2l h3l
  go_wp2
  go_loopw [5] (fun i wr => ∃ k : Nat, k ≤ np0 ∧ i = .int .i64 (k : Int) ∧ wr = W2) (fun i _ => np0 - (intOf i).toNat)
  case atStart => exact ⟨0, by omega, rfl, rfl⟩
  case round =>
    obtain ⟨k, hk, rfl, rfl⟩ := hrel
    by_cases hlt : k < np0
    · obtain ⟨A', c', ps, e, _, hp, hsy⟩ := Hf2.out
      injection e with e1 e2 e3
      subst e1 e3
      obtain ⟨ad, p, rfl, _, _, hca, _, hx, _⟩ := hp.at_ (k := k) (by omega)
      have hl : p.r.l.length ≤ 30 := by
        have h := mem_of_get (says_get hx)
        rw [hsy] at h
        exact Hsz.out.l _ h
      have hlI : (p.r.l.length : Int) ≤ 30 := by omega
      have hld : decide ((30 : Int) < (p.r.l.length : Int)) = false := by rw [decide_eq_false_iff_not]; omega
      have hkI : (k : Int) < (np0 : Int) := by omega
      clear hp hsy hl e2
      go_wp2
      go_roundw
      case rel => exact ⟨k + 1, by omega, by go_num, by first | rfl | trivial⟩
      case measure => simp [intOf]; omega
    · obtain rfl : k = np0 := by omega
      obtain ⟨W2, hW2⟩ : ∃ w2 : World, w2 = wr := ⟨_, rfl⟩
      subst hW2
      have hlr := Lib.hid (lrefX Hsm.out Hf2.out)
      go_upto_region 9 with
        (go_at_call 31
         refine hlr.out.mono ?_
         rintro e W3 ⟨u, rfl, hb3, u', rfl, hf3⟩
         obtain ⟨A6, c6, p6, rfl, hp60, hp6, hs6⟩ := hf3
         have hcap6 := Lib.hid hp60
         have Hb3 := Lib.hid hb3
         have Hp6 := Lib.hid hp6
         have Hs6 := Lib.hid hs6
         clear hb3 hp6 hs6 hp60)
      clear hlr cf2
      go_upto_region 10 with fail
      obtain ⟨n6, hn6⟩ : ∃ n, Hid (p6.length = n) := ⟨_, rfl⟩
      obtain ⟨g6, hg6⟩ : ∃ g, Hid (W3.heap.size = g) := ⟨_, rfl⟩
      obtain ⟨g7, hg7⟩ : ∃ g, Hid (W3.heap.size + 1 = g) := ⟨_, rfl⟩
      rw [hn6.out]
      obtain ⟨Wc, hWc⟩ : ∃ W1, Hid ((W3.alloc (.cells #[.slice A6 n6 c6] 34)).alloc (.cells #[.slice none 0 0] 30) = W1) := ⟨_, rfl⟩
      have hb3c : Hid (Below W3.heap.size W3 Wc) := by rw [← hWc.out]; exact (below_new _ _).alloc (by simp) _
      have hsc : Hid (Wc.heap.size = W3.heap.size + 2) := by rw [← hWc.out]; show _ = _; simp
      have hb2c : Hid (Below W2.heap.size W2 Wc) := Hb3.out.trans (hb3c.out.mono Hb3.out.size)
      have f6 : Hid (Wc.heap[g6]? = some (.cells #[.slice A6 n6 c6] 34 (0, 0))) := by
        rw [← hWc.out, ← hg6.out]; show _ = _
        rw [heap_alloc_old _ _ (by simp)]
        exact heap_alloc_new _ _
      have f7 : Hid (Wc.heap[g7]? = some (.cells #[.slice none 0 0] 30 (0, 0))) := by
        rw [← hWc.out, ← hg7.out]; show _ = _
        have := heap_alloc_new (W3.alloc (.cells #[.slice A6 n6 c6] 34)) (.cells #[.slice none 0 0] 30)
        simpa using this
      have h6l : Hid (g6 < Wc.heap.size) := by rw [hsc.out, ← hg6.out]; show _ < _; omega
      have h7l : Hid (g7 < Wc.heap.size) := by rw [hsc.out, ← hg7.out]; show _ < _; omega
      have h67 : Hid (¬ g6 = g7) := by rw [← hg6.out, ← hg7.out]; show ¬ _; omega
      have h27 : Hid (¬ g2 = g7) := by rw [← hg7.out]; have := h2l2.out; have := Hb3.out.size; show ¬ _; omega
      have h37 : Hid (¬ g3 = g7) := by rw [← hg7.out]; have := h3l2.out; have := Hb3.out.size; show ¬ _; omega
      have h7w : Hid (w.heap.size ≤ g7) := by rw [← hg7.out]; have := hbw2.out.size; have := Hb3.out.size; show _ ≤ _; omega
      have hPc : Hid (PsX Wc (fun b => W3.heap.size ≤ b) A6 p6) := by
        have h0 : PsX W3 (fun b => False ∨ W3.heap.size ≤ b) A6 p6 := ⟨Hp6.out.top.both, fun p hq => (Hp6.out.row p hq).both⟩
        exact (h0.mono fun b _ e => .inr e).below hb3c.out
      have hW3 : Hid (W2.heap.size ≤ W3.heap.size) := Hb3.out.size
      have h7hi : Hid (W3.heap.size ≤ g7) := by rw [← hg7.out]; show _ ≤ _; omega
      have hlen6 : (n6 : Int) ≤ 20 := by
        have h1 := Hsz.out.n
        rw [← Hs6.out, says_len, hn6.out] at h1
        omega
      have Hs6m := Lib.hid (show SmM (says p6) by rw [Hs6.out]; exact Hsm.out)
      have hstart : Hid (OdSt Wc Wc g7 (.slice none 0 0) [] (says (p6.take 0))) := ⟨f7.out, OwnP.nil _ _ _ _, rfl, .refl _ _⟩
      rw [hWc.out, hg7.out, hg6.out]
      clear hWc hg6 hg7 hb3c hsc Hp6 Hb3
      go_wp2
      go_loopw [8] (fun i wr => ∃ (q : Nat) (v : Value) (qs : List Pa), q ≤ n6 ∧ i = .int .i64 (q : Int) ∧ Hid (OdSt Wc wr g7 v qs (says (p6.take q)))) (fun i _ => n6 - (intOf i).toNat)
      case atStart => exact ⟨0, _, _, by omega, rfl, hstart⟩
      case round =>
        clear hstart
        obtain ⟨q, v, qs, hq, rfl, hst⟩ := hrel
        have ht := hst.out.touch
        have cb := Lib.hid (box_cell ((ht.block g6 h6l.out h67.out).trans f6.out))
        have hcb := cb.out
        have hqk : qs.length ≤ 1000 := by
          have := hst.out.say
          rw [← says_len, this, says_take, List.length_take]
          have := Hs6m.out.n
          omega
        by_cases hlt : q < n6
        · obtain ⟨ad, p, rfl, hab, _, hca, hcd, hx, hrow⟩ := (hPc.out.keep (ht.mono fun b _ e => by rw [e]; exact h7hi.out)).at_ (k := q) (by rw [hn6.out]; exact hlt)
          obtain ⟨Av, cv, rfl, _, _⟩ := hst.out.own.reads (fun b hb => hb)
          obtain ⟨nv, hnv⟩ : ∃ nv, Hid (qs.length = nv) := ⟨_, rfl⟩
          have hv := hst.out.f
          rw [hnv.out] at hv
          have Hown := Lib.hid hst.out.own
          rw [hnv.out] at Hown
          have hgl : Hid (g7 < wr.heap.size) := Nat.lt_of_lt_of_le h7l.out ht.size
          have hbl : Hid (g6 < wr.heap.size) := Nat.lt_of_lt_of_le h6l.out ht.size
          have cg := Lib.hid (box_cell hv)
          have hadl : Hid ((ad.add (q * 2)).block < wr.heap.size) := by show _ < _; rw [block_of_add]; exact hab
          have ca := Lib.hid hca
          have cd := Lib.hid hcd
          have hkl := Lib.hid hlt
          have hltI : (q : Int) < (n6 : Int) := by omega
          have Hl := Lib.hid (Hs6m.out.at_ hx)
          have Hrow6 := Lib.hid hrow.reads
          have Ht := Lib.hid ht
          have Hvv := Lib.hid hv
          have Hqk := Lib.hid hqk
          have Hsay := Lib.hid hst.out.say
          have hXB : Hid (∀ b, (XB (XW Wc) (.slice Av nv cv)) b → b < wr.heap.size) := by
            intro b hb
            rcases hb with hb | hb
            · exact Nat.lt_of_lt_of_le (show b < Wc.heap.size from hb) ht.size
            · exact (Hown.out.head.lt b hb).2
          obtain ⟨nr, hnr⟩ : ∃ nr, Hid (p.r.l.length = nr) := ⟨_, rfl⟩
          have hown : ∀ w0, Below wr.heap.size wr w0 → Calls Try.prog 8 #[.slice p.r.A nr p.r.c] w0 fun e w' => ∃ u, e = .returned u ∧ Below w0.heap.size w0 w' ∧ ∃ A c, u = .slice A nr c ∧ BsX w' (XB (XW Wc) (.slice Av nv cv)) A p.r.l := by
            intro w0 hc
            rw [← hnr.out]
            exact ownX _ _ wr.heap.size _ hXB.out Hl.out hc (Reads.below Hrow6.out hc)
          rw [hnr.out] at ca
          clear hv hca hcd hrow ht hst hqk
          go_upto_region 13 with fail
          refine wp_last ?_
          go_cut [] from 46 to 64 (fun wx => ∃ (v : Value) (qs' : List Pa), OdSt Wc wx g7 v qs' (says (p6.take (q + 1))))
          case first =>
            rename_i J K1 hJ hK
            refine wp_region_tailP (n := 128) (m := 17) (OdF (XB (XW Wc) (.slice Av nv cv)) Av nv cv g7 g6 ad n6 c6 q p.r.A nr p.r.c p.r.l p.d) (BelC wr) (by kernel_rfl) (by kernel_rfl) rfl rfl (by decide) (by kernel_rfl) (by kernel_rfl) ?_ ?_ ?_
            · exact (Below.refl _ _).drew
            rotate_left
            · intro b' w' hsz hd hs hc hall
              obtain ⟨p', hpl, hpd, hpr, Ap, e16, hrp⟩ : OdF (XB (XW Wc) (.slice Av nv cv)) Av nv cv g7 g6 ad n6 c6 q p.r.A nr p.r.c p.r.l p.d 16 (b'.tmps.getD 62 undef) w' := hall 16 _ _ (by decide) rfl rfl
              have e1 : b'.tmps.getD 47 undef = .slice Av nv cv := hall 1 _ _ (by decide) rfl rfl
              have e3 : b'.tmps.getD 7 undef = .pointer (some ⟨g7, 0, none⟩) := hs 7 (by kernel_rfl)
              refine push_ps ptSl1 (.tmp 47) (.tmp 62) (own := qs) (new := [p']) rfl (Hown.out.keep hc) (Nat.le_trans Ht.out.size hc.size) hrp (fun q hq => by rw [List.mem_singleton] at hq; rw [hq]; exact hpr) (by simp only [List.length_cons, List.length_nil]; have := Hqk.out; omega) rfl rfl e1 e16 ?_
              intro v7 w7 hown7 hb7 hz7 hg7 _
              obtain ⟨A7, c7, rfl, _, _⟩ := hown7.reads (fun b hb => hb)
              have j2 := (hb7.block g7 h7l.out).trans ((hc.block g7 hgl.out).trans Hvv.out)
              refine wpList_op rfl (exec_fieldE (x := .tmp 7) rfl ((eval_put_ne (by decide)).trans e3)) ?_
              refine wpList_storeP (.tmp 64) (.tmp 63) rfl rfl (eval_put_eq (size_put hsz) (by decide)) ((eval_put_ne (by decide)).trans (eval_put_eq hsz (by decide))) j2 ?_
              refine hK _ _ (Met.intro (hJ _ _ ?_))
              have ht8 : Touch (fun k => k = g7) w7 (w7.setCell ⟨g7, 0, none⟩ (.slice A7 (qs ++ [p']).length c7)) := Touch.cell1 _ _ _ _
              refine ⟨b'.tmps.getD 46 undef, b'.tmps.getD 47 undef, b'.tmps.getD 48 undef, b'.tmps.getD 49 undef, b'.tmps.getD 50 undef, b'.tmps.getD 51 undef, b'.tmps.getD 52 undef, b'.tmps.getD 53 undef, b'.tmps.getD 54 undef, b'.tmps.getD 55 undef, b'.tmps.getD 56 undef, b'.tmps.getD 57 undef, b'.tmps.getD 58 undef, b'.tmps.getD 59 undef, b'.tmps.getD 60 undef, b'.tmps.getD 61 undef, b'.tmps.getD 62 undef, .slice A7 (qs ++ [p']).length c7, .pointer (some ⟨g7, 0, none⟩), ⟨_, qs ++ [p'], box_set _ j2, hown7.touch (fun b hb => hb) (ht8.mono fun b _ e => by rw [e]; exact h7l.out), ?_, ?_⟩, (congrArg (fun a : Act => (a.put (some 63) _).put (some 64) _) (act_known hsz hd hs)).trans (by kernel_rfl)⟩
              · rw [says_append, Hsay.out, says_snoc hx]
                show _ ++ [(p'.r.l, p'.d)] = _
                rw [hpl, hpd]
              · refine ((Ht.out.then_ (Touch.of (X := fun _ => False) hc) (fun _ _ h => h.elim)).then_ (Touch.grown (X := fun b => Wc.heap.size ≤ b) hg7 fun x hx => ?_) fun x hx e => ?_).trans ht8
                · exact (Hown.out.head.lt x hx).1
                · exfalso; exact absurd hx (Nat.not_lt.2 e)
            refine OpsOk.cons _ _ (OpOk.run _ _ OdF.keep BelC.keep fun b v hs hc hg => ⟨rfl, _, _, exec_fieldE rfl (hs 7 (by kernel_rfl)), .refl _ _, rfl⟩) ?_
            refine OpsOk.cons _ _ (OpOk.run _ _ OdF.keep BelC.keep fun b v hs hc hg => ⟨rfl, _, _, exec_loadPs rfl (dep hg 0 rfl rfl rfl rfl) ((hc.cell (p := ⟨g7, 0, none⟩) hgl.out).trans cg.out), .refl _ _, rfl⟩) ?_
            refine OpsOk.cons _ _ (OpOk.run _ _ OdF.keep BelC.keep fun b v hs hc hg => ⟨rfl, _, _, exec_fieldF rfl (hs 6 (by kernel_rfl)), .refl _ _, rfl⟩) ?_
            refine OpsOk.cons _ _ (OpOk.run _ _ OdF.keep BelC.keep fun b v hs hc hg => ⟨rfl, _, _, exec_loadRs rfl (dep hg 0 rfl rfl rfl rfl) ((hc.cell (p := ⟨g6, 0, none⟩) hbl.out).trans cb.out), .refl _ _, rfl⟩) ?_
            refine OpsOk.cons _ _ (OpOk.run _ _ OdF.keep BelC.keep fun b v hs hc hg => ⟨rfl, _, _, exec_move rfl (hs 8 (by kernel_rfl)), .refl _ _, rfl⟩) ?_
            refine OpsOk.cons _ _ (OpOk.run _ _ OdF.keep BelC.keep fun b v hs hc hg => ⟨rfl, _, _, exec_atR (k := q) rfl (dep hg 0 rfl rfl rfl rfl) (dep hg 1 rfl rfl rfl rfl) hkl.out, .refl _ _, rfl⟩) ?_
            refine OpsOk.cons _ _ (OpOk.run _ _ OdF.keep BelC.keep fun b v hs hc hg => ⟨rfl, _, _, exec_fieldR0 rfl (dep hg 0 rfl rfl rfl rfl), .refl _ _, rfl⟩) ?_
            refine OpsOk.cons _ _ (OpOk.run _ _ OdF.keep BelC.keep fun b v hs hc hg => ⟨rfl, _, _, exec_loadB rfl (dep hg 0 rfl rfl rfl rfl) ((hc.cell (p := ad.add (q * 2)) hadl.out).trans ca.out), .refl _ _, rfl⟩) ?_
            refine OpsOk.cons _ _ (OpOk.call _ _ OdF.keep BelC.keep fun b v hs hc hg => ⟨rfl, _, _, exec_call1 (enter_own _) rfl (dep hg 0 rfl rfl rfl rfl), hown _ hc⟩) ?_
            refine OpsOk.cons _ _ (OpOk.run _ _ OdF.keep BelC.keep fun b v hs hc hg => ⟨rfl, _, _, exec_fieldF rfl (hs 6 (by kernel_rfl)), .refl _ _, rfl⟩) ?_
            refine OpsOk.cons _ _ (OpOk.run _ _ OdF.keep BelC.keep fun b v hs hc hg => ⟨rfl, _, _, exec_loadRs rfl (dep hg 0 rfl rfl rfl rfl) ((hc.cell (p := ⟨g6, 0, none⟩) hbl.out).trans cb.out), .refl _ _, rfl⟩) ?_
            refine OpsOk.cons _ _ (OpOk.run _ _ OdF.keep BelC.keep fun b v hs hc hg => ⟨rfl, _, _, exec_move rfl (hs 8 (by kernel_rfl)), .refl _ _, rfl⟩) ?_
            refine OpsOk.cons _ _ (OpOk.run _ _ OdF.keep BelC.keep fun b v hs hc hg => ⟨rfl, _, _, exec_atR (k := q) rfl (dep hg 0 rfl rfl rfl rfl) (dep hg 1 rfl rfl rfl rfl) hkl.out, .refl _ _, rfl⟩) ?_
            refine OpsOk.cons _ _ (OpOk.run _ _ OdF.keep BelC.keep fun b v hs hc hg => ⟨rfl, _, _, exec_fieldR1 rfl (dep hg 0 rfl rfl rfl rfl), .refl _ _, rfl⟩) ?_
            refine OpsOk.cons _ _ (OpOk.run _ _ OdF.keep BelC.keep fun b v hs hc hg => ⟨rfl, _, _, exec_loadT rfl (dep hg 0 rfl rfl rfl rfl) ((hc.cell (p := ⟨(ad.add (q * 2)).block, (ad.add (q * 2)).off + 1, none⟩) hadl.out).trans cd.out), .refl _ _, rfl⟩) ?_
            refine OpsOk.cons _ _ (OpOk.run _ _ OdF.keep BelC.keep fun b v hs hc hg => by
                obtain ⟨A3, c3, e3, h3⟩ : OdF (XB (XW Wc) (.slice Av nv cv)) Av nv cv g7 g6 ad n6 c6 q p.r.A nr p.r.c p.r.l p.d 8 (b.tmps.getD 54 undef) v := (dep hg 0 rfl rfl rfl rfl)
                exact ⟨rfl, _, _, exec_buildPa hnr.out rfl e3 (dep hg 1 rfl rfl rfl rfl), .refl _ _, A3, c3, rfl, h3⟩) ?_
            refine OpsOk.cons _ _ (OpOk.run _ _ OdF.keep BelC.keep fun b v hs hc hg => by
                obtain ⟨A3, c3, e3, h3⟩ : OdF (XB (XW Wc) (.slice Av nv cv)) Av nv cv g7 g6 ad n6 c6 q p.r.A nr p.r.c p.r.l p.d 15 (b.tmps.getD 61 undef) v := (dep hg 0 rfl rfl rfl rfl)
                exact ⟨rfl, _, _, exec_listP (p := ⟨⟨A3, c3, p.r.l⟩, p.d⟩) rfl e3, below_new _ _, ⟨⟨A3, c3, p.r.l⟩, p.d⟩, rfl, rfl, h3.below (below_new _ _), _, rfl, psNew_reads v _ [⟨⟨A3, c3, p.r.l⟩, p.d⟩]⟩) ?_
            exact OpsOk.nil _ _
          obtain ⟨v2, qs2, hst2⟩ := hcut
          have Hst2 := Lib.hid hst2
          clear hst2 hcb
          go_wp2
          go_roundw
          case rel => exact ⟨q + 1, v2, qs2, by omega, by go_num, Hst2⟩
          case measure => simp [intOf]; omega
        · obtain rfl : q = n6 := by omega
          obtain ⟨c6v, hc6v⟩ : ∃ n : Nat, n = c6 := ⟨_, rfl⟩
          subst hc6v
          have hsay := hst.out.say
          rw [List.take_of_length_le (by rw [hn6.out]; omega), Hs6.out] at hsay
          obtain ⟨wd, hwd⟩ : ∃ w2 : World, w2 = wr := ⟨_, rfl⟩
          subst hwd
          have hfd : Hid (FileAt wd (XW Wc) g7 m) := ⟨_, hst.out.f, hst.out.own.file (fun b hb => hb) hsay⟩
          have h2c := Lib.hid (Nat.lt_of_lt_of_le h2l2.out hb2c.out.size)
          have h3c := Lib.hid (Nat.lt_of_lt_of_le h3l2.out hb2c.out.size)
          have h2l := Lib.hid (Nat.lt_of_lt_of_le h2c.out ht.size)
          have h3d := Lib.hid (Nat.lt_of_lt_of_le h3c.out ht.size)
          have h6d := Lib.hid (Nat.lt_of_lt_of_le h6l.out ht.size)
          have c2 := Lib.hid ((ht.cell (p := ⟨g2, 0, none⟩) h2c.out h27.out).trans ((hb2c.out.cell (p := ⟨g2, 0, none⟩) h2l2.out).trans c20.out))
          have d30 := Lib.hid ((ht.cell (p := ⟨g3, 0, none⟩) h3c.out h37.out).trans ((hb2c.out.cell (p := ⟨g3, 0, none⟩) h3l2.out).trans c30.out))
          have d31 := Lib.hid ((ht.cell (p := ⟨g3, 1, none⟩) h3c.out h37.out).trans ((hb2c.out.cell (p := ⟨g3, 1, none⟩) h3l2.out).trans c31.out))
          have d32 := Lib.hid ((ht.cell (p := ⟨g3, 2, none⟩) h3c.out h37.out).trans ((hb2c.out.cell (p := ⟨g3, 2, none⟩) h3l2.out).trans c32.out))
          have Hf := Lib.hid ((Hf2.out.below hb2c.out).keep (ht.mono fun b _ e => Or.inr (by rw [e]; exact Nat.le_trans hWs.out (Nat.le_trans hW3.out h7hi.out))))
          have Hr0 : Hid (FileV wd (fun b => W3.heap.size ≤ b) (.slice A6 q c6v) m) := ⟨A6, c6v, p6, by rw [hn6.out], hcap6.out, hPc.out.keep (ht.mono fun b _ e => by rw [e]; exact h7hi.out), Hs6.out⟩
          have Hacd := Lib.hid (hbw2.out.trans ((hb2c.out.mono hbw2.out.size).trans (ht.below (Nat.le_trans hbw2.out.size hb2c.out.size) fun b e => by rw [e]; exact h7w.out)))
          have c6d := Lib.hid hcb
          obtain ⟨l, hl⟩ : ∃ l, Hid (contM m = l) := ⟨_, rfl⟩
          obtain ⟨nm, hnm⟩ : ∃ n, Hid (l.length = n) := ⟨_, rfl⟩
          obtain ⟨vm, hvm⟩ : ∃ n, Hid (volM m = n) := ⟨_, rfl⟩
          have hnmle : Hid (nm ≤ 140737488351232) := by rw [← hnm.out, ← hl.out]; have := contM_le' Hsm.out; show _ ≤ _; omega
          have hsz1000 := Lib.hid (show XW Wc = fun b => b < Wc.heap.size from rfl)
          have hcd := Lib.hid ht.size
          clear ht cb hst hsay hqk hPc f6 f7 h2c h3c c20 c30 c31 c32 Hf2 h6l h7l
          go_upto_region 14 with fail
          clear hcb
          go_cut [85] from 65 to 84 (fun sv wx => sv = .bool false ∧ Below wd.heap.size wd wx)
          case first =>
            rename_i J K1 hJ hK
            have Hr := Hr0
            have h6l := h6d
            have c6 := c6d
            refine wp_region_facts (n := 128) (O4F l nm vm A k cp0 A6 q c6v) (BelC wd) (by kernel_rfl) (by kernel_rfl) rfl ?_ ?_ ?_
            · exact (Below.refl _ _).drew
            rotate_left
            · intro b' w' hsz hd hs hc hall
              have elast : b'.tmps.getD 85 undef = .bool false := hall 20 _ _ rfl rfl
              refine hK _ _ (Met.intro (hJ _ _ ?_))
              exact ⟨b'.tmps.getD 65 undef, b'.tmps.getD 66 undef, b'.tmps.getD 67 undef, b'.tmps.getD 68 undef, b'.tmps.getD 69 undef, b'.tmps.getD 70 undef, b'.tmps.getD 71 undef, b'.tmps.getD 72 undef, b'.tmps.getD 73 undef, b'.tmps.getD 74 undef, b'.tmps.getD 75 undef, b'.tmps.getD 76 undef, b'.tmps.getD 77 undef, b'.tmps.getD 78 undef, b'.tmps.getD 79 undef, b'.tmps.getD 80 undef, b'.tmps.getD 81 undef, b'.tmps.getD 82 undef, b'.tmps.getD 83 undef, b'.tmps.getD 84 undef, b'.tmps.getD 85 undef, ⟨elast, hc⟩, (act_known hsz hd hs).trans (by kernel_rfl)⟩
            refine OpsOk.cons _ _ (OpOk.run _ _ O4F.keep BelC.keep fun b v hs hc hg => ⟨rfl, _, _, exec_loadFileE rfl (hs 2 (by kernel_rfl)) ((hc.cell (p := ⟨g2, 0, none⟩) h2l.out).trans c2.out), .refl _ _, rfl⟩) ?_
            refine OpsOk.cons _ _ (OpOk.call _ _ O4F.keep BelC.keep fun b v hs hc hg => ⟨rfl, _, _, exec_call1 (enter_bytes _) rfl (dep hg 0 rfl rfl rfl rfl), bytesX Hsm.out hl.out hnm.out (Hf.out.below hc)⟩) ?_
            refine OpsOk.cons _ _ (OpOk.run _ _ O4F.keep BelC.keep fun b v hs hc hg => ⟨rfl, _, _, exec_loadFile rfl (hs 6 (by kernel_rfl)) ((hc.cell (p := ⟨g6, 0, none⟩) h6l.out).trans c6.out), .refl _ _, rfl⟩) ?_
            refine OpsOk.cons _ _ (OpOk.call _ _ O4F.keep BelC.keep fun b v hs hc hg => ⟨rfl, _, _, exec_call1 (enter_rbytes _) rfl (dep hg 0 rfl rfl rfl rfl), rbytesX Hsm.out hl.out hnm.out (Hr.out.below hc)⟩) ?_
            refine OpsOk.cons _ _ (OpOk.call _ _ O4F.keep BelC.keep fun b v hs hc hg => by
                obtain ⟨A2, c2, e2, h2⟩ : O4F l nm vm A k cp0 A6 q c6v 1 (b.tmps.getD 66 undef) v := (dep hg 0 rfl rfl rfl rfl)
                obtain ⟨A3, c3, e3, h3⟩ : O4F l nm vm A k cp0 A6 q c6v 3 (b.tmps.getD 68 undef) v := (dep hg 1 rfl rfl rfl rfl)
                exact ⟨rfl, _, _, exec_call2 (enter_sb _) rfl e2 e3, sbX hnm.out hnmle.out h2 h3⟩) ?_
            refine OpsOk.cons _ _ (OpOk.run _ _ O4F.keep BelC.keep fun b v hs hc hg => ⟨rfl, _, _, exec_not' rfl (dep hg 0 rfl rfl rfl rfl), .refl _ _, rfl⟩) ?_
            refine OpsOk.cons _ _ (OpOk.run _ _ O4F.keep BelC.keep fun b v hs hc hg => ⟨rfl, _, _, exec_move rfl (dep hg 0 rfl rfl rfl rfl), .refl _ _, rfl⟩) ?_
            refine OpsOk.cons _ _ (OpOk.run _ _ O4F.keep BelC.keep fun b v hs hc hg => ⟨wanted_of rfl rfl rfl (dep hg 0 rfl rfl rfl rfl), _, _, exec_loadFileE rfl (hs 2 (by kernel_rfl)) ((hc.cell (p := ⟨g2, 0, none⟩) h2l.out).trans c2.out), .refl _ _, rfl⟩) ?_
            refine OpsOk.cons _ _ (OpOk.call _ _ O4F.keep BelC.keep fun b v hs hc hg => ⟨wanted_of rfl rfl rfl (dep hg 1 rfl rfl rfl rfl), _, _, exec_call1 (enter_len _) rfl (dep hg 0 rfl rfl rfl rfl), lenX Hsm.out hl.out hnm.out (Hf.out.below hc)⟩) ?_
            refine OpsOk.cons _ _ (OpOk.run _ _ O4F.keep BelC.keep fun b v hs hc hg => ⟨wanted_of rfl rfl rfl (dep hg 0 rfl rfl rfl rfl), _, _, exec_loadFile rfl (hs 6 (by kernel_rfl)) ((hc.cell (p := ⟨g6, 0, none⟩) h6l.out).trans c6.out), .refl _ _, rfl⟩) ?_
            refine OpsOk.cons _ _ (OpOk.call _ _ O4F.keep BelC.keep fun b v hs hc hg => ⟨wanted_of rfl rfl rfl (dep hg 2 rfl rfl rfl rfl), _, _, exec_call1 (enter_rbytes _) rfl (dep hg 0 rfl rfl rfl rfl), rbytesX Hsm.out hl.out hnm.out (Hr.out.below hc)⟩) ?_
            refine OpsOk.cons _ _ (OpOk.run _ _ O4F.keep BelC.keep fun b v hs hc hg => by
                obtain ⟨A3, c3, e3, h3⟩ : O4F l nm vm A k cp0 A6 q c6v 10 (b.tmps.getD 75 undef) v := (dep hg 0 rfl rfl rfl rfl)
                exact ⟨wanted_of rfl rfl rfl (dep hg 1 rfl rfl rfl rfl), _, _, exec_lenB rfl e3, .refl _ _, rfl⟩) ?_
            refine OpsOk.cons _ _ (OpOk.run _ _ O4F.keep BelC.keep fun b v hs hc hg => ⟨wanted_of rfl rfl rfl (dep hg 2 rfl rfl rfl rfl), _, _, exec_neInt rfl (dep hg 0 rfl rfl rfl rfl) (dep hg 1 rfl rfl rfl rfl), .refl _ _, rfl⟩) ?_
            refine OpsOk.cons _ _ (OpOk.run _ _ O4F.keep BelC.keep fun b v hs hc hg => ⟨rfl, _, _, exec_pick rfl (dep hg 0 rfl rfl rfl rfl) (dep hg 1 rfl rfl rfl rfl), .refl _ _, rfl⟩) ?_
            refine OpsOk.cons _ _ (OpOk.run _ _ O4F.keep BelC.keep fun b v hs hc hg => ⟨rfl, _, _, exec_move rfl (dep hg 0 rfl rfl rfl rfl), .refl _ _, rfl⟩) ?_
            refine OpsOk.cons _ _ (OpOk.run _ _ O4F.keep BelC.keep fun b v hs hc hg => ⟨wanted_of rfl rfl rfl (dep hg 0 rfl rfl rfl rfl), _, _, exec_loadFileE rfl (hs 2 (by kernel_rfl)) ((hc.cell (p := ⟨g2, 0, none⟩) h2l.out).trans c2.out), .refl _ _, rfl⟩) ?_
            refine OpsOk.cons _ _ (OpOk.call _ _ O4F.keep BelC.keep fun b v hs hc hg => ⟨wanted_of rfl rfl rfl (dep hg 1 rfl rfl rfl rfl), _, _, exec_call1 (enter_vol _) rfl (dep hg 0 rfl rfl rfl rfl), volX Hsm.out hvm.out (Hf.out.below hc)⟩) ?_
            refine OpsOk.cons _ _ (OpOk.run _ _ O4F.keep BelC.keep fun b v hs hc hg => ⟨wanted_of rfl rfl rfl (dep hg 0 rfl rfl rfl rfl), _, _, exec_loadFile rfl (hs 6 (by kernel_rfl)) ((hc.cell (p := ⟨g6, 0, none⟩) h6l.out).trans c6.out), .refl _ _, rfl⟩) ?_
            refine OpsOk.cons _ _ (OpOk.call _ _ O4F.keep BelC.keep fun b v hs hc hg => ⟨wanted_of rfl rfl rfl (dep hg 2 rfl rfl rfl rfl), _, _, exec_call1 (enter_rvol _) rfl (dep hg 0 rfl rfl rfl rfl), rvolX Hsm.out hvm.out (Hr.out.below hc)⟩) ?_
            refine OpsOk.cons _ _ (OpOk.run _ _ O4F.keep BelC.keep fun b v hs hc hg => ⟨wanted_of rfl rfl rfl (dep hg 2 rfl rfl rfl rfl), _, _, exec_neInt rfl (dep hg 0 rfl rfl rfl rfl) (dep hg 1 rfl rfl rfl rfl), .refl _ _, rfl⟩) ?_
            refine OpsOk.cons _ _ (OpOk.run _ _ O4F.keep BelC.keep fun b v hs hc hg => ⟨rfl, _, _, exec_pick rfl (dep hg 0 rfl rfl rfl rfl) (dep hg 1 rfl rfl rfl rfl), .refl _ _, rfl⟩) ?_
            exact OpsOk.nil _ _
          obtain ⟨rfl, hbe⟩ := hcut
          obtain ⟨We, hWe⟩ : ∃ w2 : World, w2 = wc := ⟨_, rfl⟩
          subst hWe
          have hfe := Lib.hid (hfd.out.below hbe)
          have hXe : Hid (∀ b, XW Wc b → b < We.heap.size) := fun b hb => Nat.lt_of_lt_of_le (Nat.lt_of_lt_of_le hb hcd.out) hbe.size
          have h3e := Lib.hid (Nat.lt_of_lt_of_le h3d.out hbe.size)
          have h6e := Lib.hid (Nat.lt_of_lt_of_le h6d.out hbe.size)
          have c6e := Lib.hid ((hbe.cell (p := ⟨g6, 0, none⟩) h6d.out).trans c6d.out)
          have hc30 := (hbe.cell (p := ⟨g3, 0, none⟩) h3d.out).trans d30.out
          have e31 := Lib.hid ((hbe.cell (p := ⟨g3, 1, none⟩) h3d.out).trans d31.out)
          have e32 := Lib.hid ((hbe.cell (p := ⟨g3, 2, none⟩) h3d.out).trans d32.out)
          have Hre := Lib.hid (Hr0.out.below hbe)
          have Hace := Lib.hid (Hacd.out.trans (hbe.mono Hacd.out.size))
          clear hbe hfd h3d h6d c6d d30 d31 d32 Hr0 Hacd c2 h2l Hf
          go_wp2_with fail
          go_at_call 12
          refine (pick_any _ _).mono ?_
          rintro e w7 ⟨rfl, rfl⟩
          by_cases hz : a.k % 4 = 2
          · obtain ⟨m', hm'⟩ : ∃ m', Hid (syncM m = m') := ⟨_, rfl⟩
            have Hsm' : Hid (SmM m') := by rw [← hm'.out]; exact Hsm.out.sync
            have hsy := Lib.hid (syncAt hfe.out hXe.out Hsm.out)
            clear hc30
            go_wp2_with fail
            go_at_call 13
            refine hsy.out.mono ?_
            rintro e Wf ⟨rfl, ht, hfa⟩
            rw [hm'.out] at hfa
            obtain ⟨Ao, co, no, hc7, hfo⟩ := hfa.loadC
            have c7 := Lib.hid hc7
            have h7l := Lib.hid hfa.lt
            have Ho := Lib.hid hfo
            have h6l : Hid (g6 < Wf.heap.size) := Nat.lt_of_lt_of_le h6e.out ht.size
            have c6' := Lib.hid ((ht.cell (p := ⟨g6, 0, none⟩) h6e.out h67.out).trans c6e.out)
            have Hr := Lib.hid (Hre.out.keep (ht.mono fun b _ e => by rw [e]; exact h7hi.out))
            have hbf := ht.below Hace.out.size (fun b e => by rw [e]; exact h7w.out)
            have Hacc := Lib.hid (Hace.out.trans hbf)
            have hcall := Lib.hid (fun w hc => rsyncW Hsm.out Hr.out hm'.out w hc)
            clear hc7 hfo hfa ht hbf
            go_upto_region 19 with fail
            go_cut [4] from 92 to 99 (fun sv wx => sv = .bool true ∧ Below Wf.heap.size Wf wx)
            case first =>
              rename_i J K1 hJ hK
              refine wp_region_facts (n := 128) (O5F Ao no co A6 q c6v (XW Wf) m') (BelC Wf) (by kernel_rfl) (by kernel_rfl) rfl ?_ ?_ ?_
              · exact (Below.refl _ _).drew
              rotate_left
              · intro b' w' hsz hd hs hc hall
                have elast : b'.tmps.getD 4 undef = .bool true := hall 8 _ _ rfl rfl
                refine hK _ _ (Met.intro (hJ _ _ ?_))
                exact ⟨b'.tmps.getD 4 undef, b'.tmps.getD 92 undef, b'.tmps.getD 93 undef, b'.tmps.getD 94 undef, b'.tmps.getD 95 undef, b'.tmps.getD 96 undef, b'.tmps.getD 97 undef, b'.tmps.getD 98 undef, b'.tmps.getD 99 undef, ⟨elast, hc⟩, (act_known hsz hd hs).trans (by kernel_rfl)⟩
              refine OpsOk.cons _ _ (OpOk.run _ _ O5F.keep BelC.keep fun b v hs hc hg => ⟨rfl, _, _, exec_loadFileE rfl (hs 7 (by kernel_rfl)) ((hc.cell (p := ⟨g7, 0, none⟩) h7l.out).trans c7.out), .refl _ _, rfl⟩) ?_
              refine OpsOk.cons _ _ (OpOk.call _ _ O5F.keep BelC.keep fun b v hs hc hg => ⟨rfl, _, _, exec_call1 (enter_lref _) rfl (dep hg 0 rfl rfl rfl rfl), lrefX Hsm'.out (Ho.out.below hc)⟩) ?_
              refine OpsOk.cons _ _ (OpOk.run _ _ O5F.keep BelC.keep fun b v hs hc hg => ⟨rfl, _, _, exec_loadFile rfl (hs 6 (by kernel_rfl)) ((hc.cell (p := ⟨g6, 0, none⟩) h6l.out).trans c6'.out), .refl _ _, rfl⟩) ?_
              refine OpsOk.cons _ _ (OpOk.call _ _ O5F.keep BelC.keep fun b v hs hc hg => ⟨rfl, _, _, exec_call1 (enter_rsync _) rfl (dep hg 0 rfl rfl rfl rfl), hcall.out _ hc⟩) ?_
              refine OpsOk.cons _ _ (OpOk.call _ _ O5F.keep BelC.keep fun b v hs hc hg => by
                  obtain ⟨u2, e2, h2⟩ : O5F Ao no co A6 q c6v (XW Wf) m' 1 (b.tmps.getD 93 undef) v := (dep hg 0 rfl rfl rfl rfl)
                  obtain ⟨u3, e3, h3⟩ : O5F Ao no co A6 q c6v (XW Wf) m' 3 (b.tmps.getD 95 undef) v := (dep hg 1 rfl rfl rfl rfl)
                  exact ⟨rfl, _, _, exec_call2 (enter_lsame _) rfl e2 e3, lsameX Hsm'.out h2 h3⟩) ?_
              refine OpsOk.cons _ _ (OpOk.run _ _ O5F.keep BelC.keep fun b v hs hc hg => ⟨rfl, _, _, exec_move rfl (dep hg 0 rfl rfl rfl rfl), .refl _ _, rfl⟩) ?_
              refine OpsOk.cons _ _ (OpOk.call _ _ O5F.keep BelC.keep fun b v hs hc hg => ⟨wanted_of rfl rfl rfl (dep hg 0 rfl rfl rfl rfl), _, _, exec_call0 (enter_works7 _) rfl , worksX _⟩) ?_
              refine OpsOk.cons _ _ (OpOk.run _ _ O5F.keep BelC.keep fun b v hs hc hg => ⟨rfl, _, _, exec_pick rfl (dep hg 0 rfl rfl rfl rfl) (dep hg 1 rfl rfl rfl rfl), .refl _ _, rfl⟩) ?_
              refine OpsOk.cons _ _ (OpOk.run _ _ O5F.keep BelC.keep fun b v hs hc hg => ⟨rfl, _, _, exec_assign rfl (dep hg 0 rfl rfl rfl rfl), .refl _ _, rfl⟩) ?_
              exact OpsOk.nil _ _
            obtain ⟨rfl, hbx⟩ := hcut
            go_wp2
            go_ret
            exact ⟨rfl, Hacc.out.trans (hbx.mono Hacc.out.size)⟩
          by_cases hz3 : a.k % 4 = 3
          · obtain ⟨m', hm'⟩ : ∃ m', Hid (failM m a.q.l = m') := ⟨_, rfl⟩
            have Hsm' : Hid (SmM m') := by rw [← hm'.out]; exact (Hsz.out.fail _).sm (by omega)
            have hsy := Lib.hid (failAt (ck := a.q.c) (nk := a.q.l.length) hfe.out hXe.out Hsm.out rfl (Nat.le_trans HB.out Hace.out.size) (Reads.below hq0.out (Hace.out.mono HB.out)) Hok.out.qc (by omega))
            have hc32 := e32.out
            clear hc30
            go_wp2_with fail
            go_at_call 15
            refine hsy.out.mono ?_
            rintro e Wf ⟨rfl, ht, hfa⟩
            clear hc32
            rw [hm'.out] at hfa
            obtain ⟨Ao, co, no, hc7, hfo⟩ := hfa.loadC
            have c7 := Lib.hid hc7
            have h7l := Lib.hid hfa.lt
            have Ho := Lib.hid hfo
            have h6l : Hid (g6 < Wf.heap.size) := Nat.lt_of_lt_of_le h6e.out ht.size
            have c6' := Lib.hid ((ht.cell (p := ⟨g6, 0, none⟩) h6e.out h67.out).trans c6e.out)
            have Hr := Lib.hid (Hre.out.keep (ht.mono fun b _ e => by rw [e]; exact h7hi.out))
            have hbf := ht.below Hace.out.size (fun b e => by rw [e]; exact h7w.out)
            have Hacc := Lib.hid (Hace.out.trans hbf)
            have h3l : Hid (g3 < Wf.heap.size) := Nat.lt_of_lt_of_le h3e.out ht.size
            have c3 := Lib.hid ((ht.cell (p := ⟨g3, 2, none⟩) h3e.out h37.out).trans e32.out)
            have hcall := Lib.hid (fun w hc => rfailX (ck := a.q.c) Hsm.out Hr.out (by omega) rfl (Nat.le_trans HB.out Hacc.out.size) (Reads.below hq0.out (Hacc.out.mono HB.out)) hm'.out w hc)
            clear hc7 hfo hfa ht hbf
            go_upto_region 22 with fail
            go_cut [4] from 105 to 114 (fun sv wx => sv = .bool true ∧ Below Wf.heap.size Wf wx)
            case first =>
              rename_i J K1 hJ hK
              refine wp_region_facts (n := 128) (O6F Ao no co A6 q c6v g3 a.q.A a.q.l.length a.q.c (XW Wf) m') (BelC Wf) (by kernel_rfl) (by kernel_rfl) rfl ?_ ?_ ?_
              · exact (Below.refl _ _).drew
              rotate_left
              · intro b' w' hsz hd hs hc hall
                have elast : b'.tmps.getD 4 undef = .bool true := hall 10 _ _ rfl rfl
                refine hK _ _ (Met.intro (hJ _ _ ?_))
                exact ⟨b'.tmps.getD 4 undef, b'.tmps.getD 105 undef, b'.tmps.getD 106 undef, b'.tmps.getD 107 undef, b'.tmps.getD 108 undef, b'.tmps.getD 109 undef, b'.tmps.getD 110 undef, b'.tmps.getD 111 undef, b'.tmps.getD 112 undef, b'.tmps.getD 113 undef, b'.tmps.getD 114 undef, ⟨elast, hc⟩, (act_known hsz hd hs).trans (by kernel_rfl)⟩
              refine OpsOk.cons _ _ (OpOk.run _ _ O6F.keep BelC.keep fun b v hs hc hg => ⟨rfl, _, _, exec_loadFileE rfl (hs 7 (by kernel_rfl)) ((hc.cell (p := ⟨g7, 0, none⟩) h7l.out).trans c7.out), .refl _ _, rfl⟩) ?_
              refine OpsOk.cons _ _ (OpOk.call _ _ O6F.keep BelC.keep fun b v hs hc hg => ⟨rfl, _, _, exec_call1 (enter_lref _) rfl (dep hg 0 rfl rfl rfl rfl), lrefX Hsm'.out (Ho.out.below hc)⟩) ?_
              refine OpsOk.cons _ _ (OpOk.run _ _ O6F.keep BelC.keep fun b v hs hc hg => ⟨rfl, _, _, exec_loadFile rfl (hs 6 (by kernel_rfl)) ((hc.cell (p := ⟨g6, 0, none⟩) h6l.out).trans c6'.out), .refl _ _, rfl⟩) ?_
              refine OpsOk.cons _ _ (OpOk.run _ _ O6F.keep BelC.keep fun b v hs hc hg => ⟨rfl, _, _, exec_fieldA2 rfl (hs 3 (by kernel_rfl)), .refl _ _, rfl⟩) ?_
              refine OpsOk.cons _ _ (OpOk.run _ _ O6F.keep BelC.keep fun b v hs hc hg => ⟨rfl, _, _, exec_loadK rfl (dep hg 0 rfl rfl rfl rfl) ((hc.cell (p := ⟨g3, 2, none⟩) h3l.out).trans c3.out), .refl _ _, rfl⟩) ?_
              refine OpsOk.cons _ _ (OpOk.call _ _ O6F.keep BelC.keep fun b v hs hc hg => ⟨rfl, _, _, exec_call2 (enter_rfail _) rfl (dep hg 0 rfl rfl rfl rfl) (dep hg 1 rfl rfl rfl rfl), hcall.out _ hc⟩) ?_
              refine OpsOk.cons _ _ (OpOk.call _ _ O6F.keep BelC.keep fun b v hs hc hg => by
                  obtain ⟨u2, e2, h2⟩ : O6F Ao no co A6 q c6v g3 a.q.A a.q.l.length a.q.c (XW Wf) m' 1 (b.tmps.getD 106 undef) v := (dep hg 0 rfl rfl rfl rfl)
                  obtain ⟨u3, e3, h3⟩ : O6F Ao no co A6 q c6v g3 a.q.A a.q.l.length a.q.c (XW Wf) m' 5 (b.tmps.getD 110 undef) v := (dep hg 1 rfl rfl rfl rfl)
                  exact ⟨rfl, _, _, exec_call2 (enter_lsame _) rfl e2 e3, lsameX Hsm'.out h2 h3⟩) ?_
              refine OpsOk.cons _ _ (OpOk.run _ _ O6F.keep BelC.keep fun b v hs hc hg => ⟨rfl, _, _, exec_move rfl (dep hg 0 rfl rfl rfl rfl), .refl _ _, rfl⟩) ?_
              refine OpsOk.cons _ _ (OpOk.call _ _ O6F.keep BelC.keep fun b v hs hc hg => ⟨wanted_of rfl rfl rfl (dep hg 0 rfl rfl rfl rfl), _, _, exec_call0 (enter_works7 _) rfl , worksX _⟩) ?_
              refine OpsOk.cons _ _ (OpOk.run _ _ O6F.keep BelC.keep fun b v hs hc hg => ⟨rfl, _, _, exec_pick rfl (dep hg 0 rfl rfl rfl rfl) (dep hg 1 rfl rfl rfl rfl), .refl _ _, rfl⟩) ?_
              refine OpsOk.cons _ _ (OpOk.run _ _ O6F.keep BelC.keep fun b v hs hc hg => ⟨rfl, _, _, exec_assign rfl (dep hg 0 rfl rfl rfl rfl), .refl _ _, rfl⟩) ?_
              exact OpsOk.nil _ _
            obtain ⟨rfl, hbx⟩ := hcut
            go_wp2
            go_ret
            exact ⟨rfl, Hacc.out.trans (hbx.mono Hacc.out.size)⟩
          · obtain ⟨m', hm'⟩ : ∃ m', Hid (appM m a.r.l = m') := ⟨_, rfl⟩
            have hz2b : (a.k % 4 == 2) = false := by rw [beq_eq_false_iff_ne]; exact hz
            have hz3b : (a.k % 4 == 3) = false := by rw [beq_eq_false_iff_ne]; exact hz3
            have Hsm' : Hid (SmM m') := by rw [← hm'.out]; exact (Hsz.out.app hl30).sm (by omega)
            have hsy := Lib.hid (appAt (cb := a.r.c) hfe.out hXe.out (((Hsz.out.more a.r.l hl30).sm (by omega))) rfl (Nat.le_trans HB.out Hace.out.size) (Reads.below hr0.out (Hace.out.mono HB.out)))
            have hc31 := e31.out
            clear hc30
            go_wp2_with fail
            go_at_call 17
            refine hsy.out.mono ?_
            rintro e Wf ⟨rfl, ht, hfa⟩
            clear hc31
            rw [hm'.out] at hfa
            obtain ⟨Ao, co, no, hc7, hfo⟩ := hfa.loadC
            have c7 := Lib.hid hc7
            have h7l := Lib.hid hfa.lt
            have Ho := Lib.hid hfo
            have h6l : Hid (g6 < Wf.heap.size) := Nat.lt_of_lt_of_le h6e.out ht.size
            have c6' := Lib.hid ((ht.cell (p := ⟨g6, 0, none⟩) h6e.out h67.out).trans c6e.out)
            have Hr := Lib.hid (Hre.out.keep (ht.mono fun b _ e => by rw [e]; exact h7hi.out))
            have hbf := ht.below Hace.out.size (fun b e => by rw [e]; exact h7w.out)
            have Hacc := Lib.hid (Hace.out.trans hbf)
            have h3l : Hid (g3 < Wf.heap.size) := Nat.lt_of_lt_of_le h3e.out ht.size
            have c3 := Lib.hid ((ht.cell (p := ⟨g3, 1, none⟩) h3e.out h37.out).trans e31.out)
            have hcall := Lib.hid (fun w hc => rappX (cb := a.r.c) Hsm.out Hr.out (by omega) rfl (Nat.le_trans HB.out Hacc.out.size) (Reads.below hr0.out (Hacc.out.mono HB.out)) hm'.out w hc)
            clear hc7 hfo hfa ht hbf
            go_upto_region 24 with fail
            go_cut [4] from 118 to 127 (fun sv wx => sv = .bool true ∧ Below Wf.heap.size Wf wx)
            case first =>
              rename_i J K1 hJ hK
              refine wp_region_facts (n := 128) (O7F Ao no co A6 q c6v g3 a.r.A a.r.l.length a.r.c (XW Wf) m') (BelC Wf) (by kernel_rfl) (by kernel_rfl) rfl ?_ ?_ ?_
              · exact (Below.refl _ _).drew
              rotate_left
              · intro b' w' hsz hd hs hc hall
                have elast : b'.tmps.getD 4 undef = .bool true := hall 10 _ _ rfl rfl
                refine hK _ _ (Met.intro (hJ _ _ ?_))
                exact ⟨b'.tmps.getD 4 undef, b'.tmps.getD 118 undef, b'.tmps.getD 119 undef, b'.tmps.getD 120 undef, b'.tmps.getD 121 undef, b'.tmps.getD 122 undef, b'.tmps.getD 123 undef, b'.tmps.getD 124 undef, b'.tmps.getD 125 undef, b'.tmps.getD 126 undef, b'.tmps.getD 127 undef, ⟨elast, hc⟩, (act_known hsz hd hs).trans (by kernel_rfl)⟩
              refine OpsOk.cons _ _ (OpOk.run _ _ O7F.keep BelC.keep fun b v hs hc hg => ⟨rfl, _, _, exec_loadFileE rfl (hs 7 (by kernel_rfl)) ((hc.cell (p := ⟨g7, 0, none⟩) h7l.out).trans c7.out), .refl _ _, rfl⟩) ?_
              refine OpsOk.cons _ _ (OpOk.call _ _ O7F.keep BelC.keep fun b v hs hc hg => ⟨rfl, _, _, exec_call1 (enter_lref _) rfl (dep hg 0 rfl rfl rfl rfl), lrefX Hsm'.out (Ho.out.below hc)⟩) ?_
              refine OpsOk.cons _ _ (OpOk.run _ _ O7F.keep BelC.keep fun b v hs hc hg => ⟨rfl, _, _, exec_loadFile rfl (hs 6 (by kernel_rfl)) ((hc.cell (p := ⟨g6, 0, none⟩) h6l.out).trans c6'.out), .refl _ _, rfl⟩) ?_
              refine OpsOk.cons _ _ (OpOk.run _ _ O7F.keep BelC.keep fun b v hs hc hg => ⟨rfl, _, _, exec_fieldA1 rfl (hs 3 (by kernel_rfl)), .refl _ _, rfl⟩) ?_
              refine OpsOk.cons _ _ (OpOk.run _ _ O7F.keep BelC.keep fun b v hs hc hg => ⟨rfl, _, _, exec_loadB rfl (dep hg 0 rfl rfl rfl rfl) ((hc.cell (p := ⟨g3, 1, none⟩) h3l.out).trans c3.out), .refl _ _, rfl⟩) ?_
              refine OpsOk.cons _ _ (OpOk.call _ _ O7F.keep BelC.keep fun b v hs hc hg => ⟨rfl, _, _, exec_call2 (enter_rapp _) rfl (dep hg 0 rfl rfl rfl rfl) (dep hg 1 rfl rfl rfl rfl), hcall.out _ hc⟩) ?_
              refine OpsOk.cons _ _ (OpOk.call _ _ O7F.keep BelC.keep fun b v hs hc hg => by
                  obtain ⟨u2, e2, h2⟩ : O7F Ao no co A6 q c6v g3 a.r.A a.r.l.length a.r.c (XW Wf) m' 1 (b.tmps.getD 119 undef) v := (dep hg 0 rfl rfl rfl rfl)
                  obtain ⟨u3, e3, h3⟩ : O7F Ao no co A6 q c6v g3 a.r.A a.r.l.length a.r.c (XW Wf) m' 5 (b.tmps.getD 123 undef) v := (dep hg 1 rfl rfl rfl rfl)
                  exact ⟨rfl, _, _, exec_call2 (enter_lsame _) rfl e2 e3, lsameX Hsm'.out h2 h3⟩) ?_
              refine OpsOk.cons _ _ (OpOk.run _ _ O7F.keep BelC.keep fun b v hs hc hg => ⟨rfl, _, _, exec_move rfl (dep hg 0 rfl rfl rfl rfl), .refl _ _, rfl⟩) ?_
              refine OpsOk.cons _ _ (OpOk.call _ _ O7F.keep BelC.keep fun b v hs hc hg => ⟨wanted_of rfl rfl rfl (dep hg 0 rfl rfl rfl rfl), _, _, exec_call0 (enter_works7 _) rfl , worksX _⟩) ?_
              refine OpsOk.cons _ _ (OpOk.run _ _ O7F.keep BelC.keep fun b v hs hc hg => ⟨rfl, _, _, exec_pick rfl (dep hg 0 rfl rfl rfl rfl) (dep hg 1 rfl rfl rfl rfl), .refl _ _, rfl⟩) ?_
              refine OpsOk.cons _ _ (OpOk.run _ _ O7F.keep BelC.keep fun b v hs hc hg => ⟨rfl, _, _, exec_assign rfl (dep hg 0 rfl rfl rfl rfl), .refl _ _, rfl⟩) ?_
              exact OpsOk.nil _ _
            obtain ⟨rfl, hbx⟩ := hcut
            go_wp2
            go_ret
            exact ⟨rfl, Hacc.out.trans (hbx.mono Hacc.out.size)⟩
end Go.Proofs.Ytnlcohijopokjaa
