/- Lists of files (a name, its content): as cells, read, and grown; the walk of Files. Conditions: at most 900 calls. The reference's folders as values; in a box; the walks of fails, New. Conditions: none. -/
import Derived.Test.YtbhmnmmockmibaaGreatDoorKnFoN
import Derived.Test.YtbhmnmmockmibaaGreatDoorKnFoL
import Derived.Test.YtbhmnmmockmibaaGreatDoorKnFuA
import Derived.Test.YtbhmnmmockmibaaGreatDoorKnFoB
namespace Go.Proofs.YtbhmnmmockmibaaGreatDoor
open Go.RowKit Go.Maps
/-- A file of a list: its name, its row, its content. -/
structure Fv where
  n : List UInt8
  A : Option Addr
  c : Nat
  l : List UInt8
def Fv.cs (e : Fv) : List Value := [.string (txt e.n), .slice e.A e.l.length e.c]
def Fv.r (e : Fv) : Value := .slice e.A e.l.length e.c
def Fv.say (e : Fv) : List UInt8 × List UInt8 := (e.n, e.l)
def flcells (l : List Fv) : List Value := l.flatMap Fv.cs
theorem flcells_len (l : List Fv) : (flcells l).length = l.length * 2 := by
  induction l with
  | nil => rfl
  | cons f l ih =>
    unfold flcells at ih ⊢
    rw [List.flatMap_cons, List.length_append, ih, List.length_cons]
    simp [Fv.cs]
    omega
theorem flcells_append (a b : List Fv) : flcells (a ++ b) = flcells a ++ flcells b := by simp [flcells]
theorem flcells_split {l : List Fv} {k : Nat} {e : Fv} (h : l[k]? = some e) : flcells l = flcells (l.take k) ++ (Fv.cs e ++ flcells (l.drop (k + 1))) ∧ (flcells (l.take k)).length = k * 2 := by
  obtain ⟨hk, e'⟩ := List.getElem?_eq_some_iff.1 h
  constructor
  · conv => lhs; rw [← List.take_append_drop k l, List.drop_eq_getElem_cons hk, e']
    rw [flcells_append]
    rfl
  · rw [flcells_len, List.length_take]
    congr 1
    omega
theorem flcells_get {l : List Fv} {k : Nat} {e : Fv} (h : l[k]? = some e) : (flcells l)[k * 2]? = some (.string (txt e.n)) ∧ (flcells l)[k * 2 + 1]? = some (.slice e.A e.l.length e.c) := by
  obtain ⟨hs, hl⟩ := flcells_split h
  rw [hs]
  constructor
  · rw [List.getElem?_append_right (by omega), hl, Nat.sub_self]; rfl
  · rw [List.getElem?_append_right (by omega), hl, show k * 2 + 1 - k * 2 = 1 by omega]; rfl
theorem flcells_one (l : List Fv) : ∀ u ∈ flcells l, u.oneCell' = true := by
  intro u hu
  unfold flcells at hu
  rw [List.mem_flatMap] at hu
  obtain ⟨p, _, hu⟩ := hu
  simp only [Fv.cs, List.mem_cons, List.not_mem_nil, or_false] at hu
  rcases hu with rfl | rfl <;> rfl
/-- Files, as a slice value reads. -/
structure FlX (w : World) (X : Nat → Prop) (A : Option Addr) (es : List Fv) : Prop where
  top : RdX w X 2 A es.length (flcells es)
  file : ∀ e ∈ es, RdX w X 1 e.A e.l.length (bs e.l)
section
variable {w w' : World} {X Y : Nat → Prop} {A : Option Addr} {es : List Fv}
theorem FlX.keep (h : FlX w X A es) (ht : Touch X w w') : FlX w' X A es := ⟨h.top.keep ht, fun p hp => (h.file p hp).keep ht⟩
theorem FlX.below (h : FlX w X A es) (ht : Below w.heap.size w w') : FlX w' X A es := h.keep (.of ht)
theorem FlX.mono (h : FlX w X A es) (hx : ∀ b, b < w.heap.size → Y b → X b) : FlX w Y A es := ⟨h.top.mono hx, fun p hp => (h.file p hp).mono hx⟩
theorem FlX.at_ {k : Nat} (h : FlX w X A es) (hk : k < es.length) :
    ∃ (ad : Addr) (e : Fv), A = some ad ∧ ad.block < w.heap.size ∧ ¬ X ad.block ∧ w.cell? (ad.add (k * 2)) = some (.string (txt e.n)) ∧ w.cell? ⟨(ad.add (k * 2)).block, (ad.add (k * 2)).off + 1, none⟩ = some (.slice e.A e.l.length e.c) ∧ Hid (es[k]? = some e) ∧ RdX w X 1 e.A e.l.length (bs e.l) := by
  obtain ⟨ad, e, hb, hx, hc⟩ := h.top.2 (by omega)
  have hr : es[k]? = some es[k] := List.getElem?_eq_getElem hk
  obtain ⟨h0, h1⟩ := flcells_get hr
  exact ⟨ad, _, e, hb, hx, hc _ _ h0, by rw [← padd_next]; exact hc _ _ h1, hr, h.file _ (List.getElem_mem hk)⟩
end
/-- Files that a call made: their list, and each one's row. -/
structure FlO (ty : TypeId) (base : Nat) (w : World) (v : Value) (es : List Fv) : Prop where
  head : w.ownsRow base ty 2 v es.length (flcells es)
  row : ∀ e ∈ es, w.ownsRow base 5 1 e.r e.l.length (bs e.l)
  apart : ∀ e ∈ es, ∀ b, e.r.ownBlock = some b → v.ownBlock ≠ some b
  dist : es.Pairwise fun a b => ∀ k, a.r.ownBlock = some k → b.r.ownBlock ≠ some k
section
variable {ty : TypeId} {base : Nat} {w w' : World} {X : Nat → Prop} {v : Value} {es : List Fv}
theorem FlO.nil (ty : TypeId) (base : Nat) (w : World) : FlO ty base w (.slice none 0 0) [] := ⟨World.ownsRow_nil _ _ _ _, by simp, by simp, List.Pairwise.nil⟩
theorem FlO.keep (h : FlO ty base w v es) (ht : Touch X w w') (hx : ∀ b, base ≤ b → ¬ X b) : FlO ty base w' v es :=
  ⟨own_touch h.head ht fun b hb => hx b (h.head.lt b hb).1, fun e he => own_touch (h.row e he) ht fun b hb => hx b ((h.row e he).lt b hb).1, h.apart, h.dist⟩
theorem FlO.below (h : FlO ty base w v es) (hb : Below w.heap.size w w') : FlO ty base w' v es := h.keep (Touch.of (X := fun _ => False) hb) fun _ _ e => e
theorem FlO.base_ {base' : Nat} (h : FlO ty base w v es) (hb : base' ≤ base) : FlO ty base' w v es := ⟨own_base h.head hb, fun e he => own_base (h.row e he) hb, h.apart, h.dist⟩
theorem FlO.reads {A : Option Addr} {n c : Nat} (h : FlO ty base w (.slice A n c) es) (hX : ∀ b, X b → b < base) : n = es.length ∧ FlX w X A es := by
  obtain ⟨A', c', e, _, _, _⟩ := own_form h.head
  injection e with e1 e2 e3
  subst e1 e2
  exact ⟨rfl, own_avoid h.head hX, fun e he => own_avoid (h.row e he) hX⟩
/-- A type of slices of files. -/
def FlSl (t e : TypeId) : Prop := Tryz.prog.underlying t = some (.slice e) ∧ (Tryz.prog.info? e).map (fun i => (i.zero, i.size, i.bytes)) = some (some (.agg #[.string ByteArray.empty, .slice none 0 0]), 2, 40)
theorem flSl1 : FlSl 32 72 := ⟨Tryz.underlying32, by kernel_rfl⟩
end
section
variable {ops : Array Oper} {rest : List Oper} {o : Oper} {a : Act} {Q : Exit → Act → World → Prop} {w : World} {base : Nat} {v : Value}
/-- A file behind a list. -/
theorem push_fl {t e : TypeId} (ht : FlSl t e) {N n k c : Nat} {A : Option Addr} (s x : Operand) {own : List Fv} (f : Fv) (hfA : f.A = A) (hfk : f.l.length = k) (hfc : f.c = c) (hlen : own.length = n) (hown : FlO e base w v own) (hrow : w.ownsRow base 5 1 f.r f.l.length (bs f.l)) (hap : ∀ b, f.r.ownBlock = some b → v.ownBlock ≠ some b ∧ ∀ q ∈ own, q.r.ownBlock ≠ some b)
    (hbase : base ≤ w.heap.size) (hl : n ≤ 100000) (hgd : o.guard = none) (ho : o.op = .call { callee := .builtin .append, args := #[s, x], argTypes := #[t, t] })
    (hs : a.eval s = v) (hx : a.eval x = .slice (some ⟨N, 0, none⟩) 1 1) (hN : w.heap.size = N)
    (h : ∀ v' w', FlO e base w' v' (own ++ [f]) → Below base w w' → wpList Tryz.prog ops Q rest (a.put o.dst v') w') :
    wpList Tryz.prog ops Q (o :: rest) a (w.alloc (.cells #[.string (txt f.n), .slice A k c] e)) := by
  subst hN hlen hfA hfk hfc
  obtain ⟨hu, hi⟩ := ht
  obtain ⟨i0, hi0, hz0, hz1, hz2⟩ := info_parts hi
  have hnew : Reads (w.alloc (.cells (flcells [f]).toArray e)) (w.heap.size + 1) 2 (some ⟨w.heap.size, 0, none⟩) 1 (flcells [f]) := by
    refine ⟨flcells_len [f], fun _ => ⟨_, rfl, by simp, fun j u hu => ?_⟩⟩
    rw [lit_add, Nat.zero_add, cell_of_row (w.alloc (.cells (flcells [f]).toArray e)) w.heap.size j (flcells [f]).toArray e (0, 0) (heap_alloc_new w _)]
    simpa using hu
  refine wpList_append_any _ hgd s x t ho base e i0 _ 2 40 hu hi0 hz0 hz1 hz2 rfl (by omega) v _ _ hs (hown.head.alloc _) (w.heap.size + 1) _ 1 1 (flcells [f]) hx hnew (flcells_one _) (by simp only [maxLen]; omega) (by omega) (by simp; omega) ?_
  intro v1 w1 h1 h2 h3
  have hb := ((Below.refl base w).alloc hbase _).trans (grown_below (hown.head.alloc (.cells (flcells [f]).toArray e)) h2 (by simp; omega))
  have hT : Touch (fun b => v.ownBlock = some b) w w1 := (Touch.of (below_new w (.cells (flcells [f]).toArray e))).trans (Touch.grown h2 fun k e => e)
  have hv1 : ∀ b, b < w.heap.size → v.ownBlock ≠ some b → v1.ownBlock ≠ some b := fun b hb hne e => by
    rcases h3 with h4 | h4
    · exact hne (h4 ▸ e)
    · rw [h4] at e
      injection e with e
      simp at e
      omega
  refine h v1 w1 ⟨?_, fun q hq => ?_, fun q hq b hb => ?_, ?_⟩ hb
  · rw [flcells_append, List.length_append]
    exact h1
  · rcases List.mem_append.1 hq with hq | hq
    · exact own_touch (hown.row q hq) hT fun b hb e => hown.apart q hq b hb e
    · rw [List.mem_singleton] at hq; subst hq
      exact own_touch hrow hT fun b hb e => (hap b hb).1 e
  · rcases List.mem_append.1 hq with hq | hq
    · exact hv1 b ((hown.row q hq).lt b hb).2 (hown.apart q hq b hb)
    · rw [List.mem_singleton] at hq; subst hq
      exact hv1 b (hrow.lt b hb).2 (hap b hb).1
  · rw [List.pairwise_append]
    refine ⟨hown.dist, by simp, fun q hq r hr k hk e => ?_⟩
    rw [List.mem_singleton] at hr; subst hr
    exact (hap k e).2 q hq hk
end
def Fo.files (s : Fo) : List (List UInt8 × List UInt8) := s.d.now.map fun e => (e.1, (bytesF s.fs e.2).1)
section
variable {w0 w w' W : World} {Y Y' X : Nat → Prop} {F N M B R L : Nat} {s s' : Fo}
theorem filesNil_any (w : World) : Calls Tryz.prog 7 #[.pointer none] w fun e w' => e = .returned (.slice none 0 0) ∧ w' = w := by
  go_enter Tryz.func7, Tryz.ntmps7
  go_wp2
  go_ret
  exact ⟨rfl, rfl⟩
theorem files_snoc {fs : List Fi} {m : List EnD} {j : Nat} {e : EnD} (h : m[j]? = some e) : (m.take (j + 1)).map (fun e => (e.1, (bytesF fs e.2).1)) = (m.take j).map (fun e => (e.1, (bytesF fs e.2).1)) ++ [(e.1, (bytesF fs e.2).1)] := by
  obtain ⟨hj, e'⟩ := List.getElem?_eq_some_iff.1 h
  rw [List.take_succ_eq_append_getElem hj, List.map_append, e']
  rfl
set_option maxHeartbeats 4000000 in
set_option maxRecDepth 100000 in
theorem ffiles_any (h : FS w0 Y F s N w) (hN : N ≤ 900) :
    Calls Tryz.prog 7 #[.pointer (some ⟨F, 0, none⟩)] w fun e w' => ∃ v es, e = .returned v ∧ FlO 72 w.heap.size w' v es ∧ es.map Fv.say = s.files ∧ Below w.heap.size w w' := by
  have hl := Lib.hid (h.dlist hN)
  have H := Lib.hid h
  have hlen : Hid (s.d.now.length ≤ 900) := Nat.le_trans h.ok.d.now.1 hN
  have hmv : Hid (∀ e ∈ s.d.now, -9223372036854775808 ≤ e.2 ∧ e.2 ≤ 9223372036854775807) := fun e he => (h.ok.d.now.2 e he).v
  unfold Fo.files
  obtain ⟨m, hm⟩ : ∃ m, Hid (s.d.now = m) := ⟨_, rfl⟩
  rw [hm.out] at hl hlen hmv ⊢
  obtain ⟨len, hln⟩ : ∃ l, Hid (m.length = l) := ⟨_, rfl⟩
  have hlenI : (len : Int) ≤ 900 := by have := hlen.out; have := hln.out; omega
  clear h
  go_enter Tryz.func7, Tryz.ntmps7
  go_wp2_with (first | (go_at_call 27; refine hl.out.mono ?_; rintro e w1 ⟨u, rfl, ho, hb1⟩; obtain ⟨A, cap, rfl, hcap, hcm, hrd⟩ := own_form ho; have Ho := Lib.hid ho; have Hrd := Lib.hid hrd; have Hb1 := Lib.hid hb1; clear ho hrd hb1; rw [hln.out]; rw [hln.out] at hcap))
  clear hcap hcm
  go_loopw [3, 16] (fun r i wr => ∃ (j : Nat) (es : List Fv), j ≤ len ∧ i = .int .i64 (j : Int) ∧ FlO 72 w1.heap.size wr r es ∧ Hid (es.map Fv.say = (m.take j).map fun e => (e.1, (bytesF s.fs e.2).1)) ∧ Hid (Below w1.heap.size w1 wr)) (fun _ i _ => len - (intOf i).toNat)
  case atStart => exact ⟨0, [], by omega, rfl, FlO.nil _ _ _, Lib.hid rfl, .refl _ _⟩
  case round =>
    obtain ⟨j, es, hj, rfl, hrow, hsay, hB1⟩ := hrel
    have Hrow := Lib.hid hrow
    clear hrow
    by_cases hlt : j < len
    · obtain ⟨ad, e, rfl, _, _, d0, d1, hx⟩ := EnXD.at_ (X := fun _ => False) ((RdX.of Hrd.out (Nat.le_refl _) fun _ _ h => h).below hB1.out) (k := j) (by rw [hln.out]; exact hlt)
      have Hx := Lib.hid hx.out
      clear hx
      obtain ⟨ek, ez⟩ := e
      obtain ⟨Wa, hWa⟩ : ∃ Wa, Hid (wr.alloc (.cells #[.string (txt ek), .int .i64 ez] 68) = Wa) := ⟨_, rfl⟩
      obtain ⟨g, hg⟩ : ∃ g, Hid (wr.heap.size = g) := ⟨_, rfl⟩
      have hga : Hid (Wa.heap[g]? = some (.cells #[.string (txt ek), .int .i64 ez] 68 (0, 0))) := by rw [← hWa.out, ← hg.out]; exact heap_alloc_new wr _
      obtain ⟨e0, e1⟩ := two_cells hga.out
      have hba : Hid (Below wr.heap.size wr Wa) := by rw [← hWa.out]; exact below_new _ _
      have hzb := Lib.hid (hmv.out _ (List.mem_of_getElem? Hx.out))
      have hwa : Hid (Below w.heap.size w Wa) := (Hb1.out.trans (hB1.out.mono Hb1.out.size)).trans (hba.out.mono (Nat.le_trans Hb1.out.size hB1.out.size))
      have hby := Lib.hid (((H.out.quiet (hwa.out.trans ((Below.refl _ Wa).drew.mono hwa.out.size))).1).tbytes hN (z := ez) hzb.out)
      obtain ⟨bl, hbl⟩ : ∃ bl, Hid ((bytesF s.fs ez).1 = bl) := ⟨_, rfl⟩
      obtain ⟨be, hbe⟩ : ∃ be, Hid ((bytesF s.fs ez).2 = be) := ⟨_, rfl⟩
      obtain ⟨nb, hnb⟩ : ∃ nb, Hid (bl.length = nb) := ⟨_, rfl⟩
      rw [hbl.out, hbe.out] at hby
      go_upto_region 7 with fail
      rw [hWa.out, hg.out]
      go_region_held3 (fun wx => wx.cell? ⟨g, 1, none⟩ = some (.int .i64 ez)) (first | exact e1 | exact f1) (first | (go_at_call 28; refine hby.out.mono ?_; rintro e w5 ⟨u5, rfl, ho5, hb5⟩; obtain ⟨A5, c5, rfl, _, _, _⟩ := own_form ho5; rw [hnb.out]; have Ho5 := Lib.hid ho5; have Hb5 := Lib.hid (((Below.refl Wa.heap.size Wa).drew).trans hb5); have f1 := (Hb5.out.cell (p := ⟨g, 1, none⟩) (Array.getElem?_eq_some_iff.1 hga.out).1).trans e1; clear ho5 hb5))
      have f0 := (Hb5.out.cell (p := ⟨g, 0, none⟩) (Array.getElem?_eq_some_iff.1 hga.out).1).trans e0
      have hb15 : Hid (Below w1.heap.size w1 w5) := hB1.out.trans ((hba.out.trans (Hb5.out.mono hba.out.size)).mono hB1.out.size)
      have hrow5 := Lib.hid (Hrow.out.below (hba.out.trans (Hb5.out.mono hba.out.size)))
      have hel : es.length ≤ 900 := by
        have := congrArg List.length hsay.out
        rw [List.length_map, List.length_map, List.length_take] at this
        have := hlen.out
        omega
      have hap : Hid (∀ b, (⟨ek, A5, c5, bl⟩ : Fv).r.ownBlock = some b → Wa.heap.size ≤ b) := fun b hb => (Ho5.out.lt b hb).1
      have hap2 : Hid (∀ (v : Value), FlO 72 w1.heap.size wr v es → ∀ b, (⟨ek, A5, c5, bl⟩ : Fv).r.ownBlock = some b → v.ownBlock ≠ some b ∧ ∀ q ∈ es, q.r.ownBlock ≠ some b) := by
        intro v hv b hb
        have h1 := hap.out b hb
        have h2 := hba.out.size
        refine ⟨fun e => ?_, fun q hq e => ?_⟩
        · have := (hv.head.lt b e).2
          omega
        · have := ((hv.row q hq).lt b e).2
          omega
      have hro : Hid (w5.ownsRow w1.heap.size 5 1 (⟨ek, A5, c5, bl⟩ : Fv).r bl.length (bs bl)) := own_base Ho5.out (Nat.le_trans hB1.out.size hba.out.size)
      go_wp2_with (at_builtin; refine push_fl flSl1 (.tmp 29) (.tmp 34) ⟨ek, A5, c5, bl⟩ rfl hnb.out rfl rfl hrow5.out hro.out (hap2.out _ Hrow.out) hb15.out.size (by omega) rfl rfl rfl rfl rfl ?_; intro v' w6 hown' hb6; go_frame)
      go_roundw
      case rel => exact ⟨j + 1, es ++ [⟨ek, A5, c5, bl⟩], by omega, by go_num, hown', by show _ = _; rw [List.map_append, hsay.out, files_snoc Hx.out]; simp [Fv.say, hbl.out], hb15.out.trans hb6⟩
      case measure => simp [intOf]; omega
    · obtain rfl : j = len := by omega
      have hfull : m.take j = m := by rw [← hln.out, List.take_length]
      rw [hfull] at hsay
      have Hfin := Lib.hid (Hrow.out.base_ Hb1.out.size)
      go_wp2
      go_ret
      exact ⟨_, es, rfl, Hfin.out, hsay.out, Hb1.out.trans (hB1.out.mono Hb1.out.size)⟩
end
end Go.Proofs.YtbhmnmmockmibaaGreatDoor

namespace Go.Proofs.YtbhmnmmockmibaaGreatDoor
open Go.RowKit
/-- A folder of the reference: where its rows lie. -/
structure Rp where
  D : Option Addr
  nD : Nat
  cD : Nat
  O : Option Addr
  nO : Nat
  cO : Nat
  T : Option Addr
  nT : Nat
  cT : Nat
  G : Option Addr
  cG : Nat
def Rp.cs (p : Rp) (s : Fo) : Array Value := #[.slice p.D p.nD p.cD, .slice p.O p.nO p.cO, .slice p.T p.nT p.cT, .int .i64 s.q, .int .i64 (s.made : Int), .int .i64 s.most, .slice p.G s.tk.length p.cG]
structure RfP (w : World) (X : Nat → Prop) (p : Rp) (s : Fo) : Prop where
  d : RefV w X (.agg #[.slice p.D p.nD p.cD, .slice p.O p.nO p.cO]) s.d
  t : RefT w X (.agg #[.slice p.T p.nT p.cT, .int .i64 s.q, .int .i64 (s.made : Int)]) (rmT s.fs) s.q (s.made : Int)
  g : RdX w X 1 p.G s.tk.length (ics s.tk)
def RefF (w : World) (X : Nat → Prop) (v : Value) (s : Fo) : Prop := ∃ p : Rp, v = .agg (p.cs s) ∧ RfP w X p s
section
variable {w w' w1 w2 W : World} {X Y : Nat → Prop} {p : Rp} {s : Fo} {v : Value}
theorem RfP.keep (h : RfP w X p s) (ht : Touch X w w') : RfP w' X p s := ⟨h.d.keep ht, h.t.keep ht, h.g.keep ht⟩
theorem RfP.below (h : RfP w X p s) (ht : Below w.heap.size w w') : RfP w' X p s := h.keep (.of ht)
theorem RfP.mono (h : RfP w X p s) (hx : ∀ b, b < w.heap.size → Y b → X b) : RfP w Y p s := ⟨h.d.mono hx, h.t.mono hx, h.g.mono hx⟩
theorem RefF.keep (h : RefF w X v s) (ht : Touch X w w') : RefF w' X v s := by
  obtain ⟨p, e, h⟩ := h
  exact ⟨p, e, h.keep ht⟩
theorem RefF.below (h : RefF w X v s) (ht : Below w.heap.size w w') : RefF w' X v s := h.keep (.of ht)
theorem RefF.mono (h : RefF w X v s) (hx : ∀ b, b < w.heap.size → Y b → X b) : RefF w Y v s := by
  obtain ⟨p, e, h⟩ := h
  exact ⟨p, e, h.mono hx⟩
theorem size_rf : (Tryz.prog.info? 83).map (·.size) = some 7 := by kernel_rfl
theorem size_rr : (Tryz.prog.info? 86).map (·.size) = some 3 := by kernel_rfl
theorem ret_rf {fn : Func} {R : Ending → World → Prop} {p : Tmp} (h : fn.results = #[.cell p 83]) {a : Act} {w : World} (g : Nat) (cs : Array Value) (hcs : cs.size = 7) (t : TypeId) (fr : Nat × Nat)
    (hp : a.tmps.getD p undef = .pointer (some ⟨g, 0, none⟩)) (hg : w.heap[g]? = some (.cells cs t fr)) (hd : a.defers = []) (hR : R (.returned (.agg cs)) w) : bodyPost Tryz.prog fn R .ret a w := by
  refine bodyPost_ret (v := .agg cs) ?_ hd hR
  have hp' : a.tmps[p]?.getD undef = .pointer (some ⟨g, 0, none⟩) := by simpa using hp
  have hty := run_loadVar_row (P := Tryz.prog) w g t 83 cs fr _ hg Tryz.underlying83 rfl (by rw [hcs]; exact size_rf)
  simp [results, h, hp', asAddr, hty]
theorem ret_rfr {fn : Func} {R : Ending → World → Prop} {p q : Tmp} (h : fn.results = #[.cell p 83, .cell q 86]) {a : Act} {w : World} (g g' : Nat) (cs ds : Array Value) (hcs : cs.size = 7) (hds : ds.size = 3) (t t' : TypeId) (fr fr' : Nat × Nat)
    (hp : a.tmps.getD p undef = .pointer (some ⟨g, 0, none⟩)) (hq : a.tmps.getD q undef = .pointer (some ⟨g', 0, none⟩)) (hg : w.heap[g]? = some (.cells cs t fr)) (hg' : w.heap[g']? = some (.cells ds t' fr')) (hd : a.defers = []) (hR : R (.returned (.tuple #[.agg cs, .agg ds])) w) : bodyPost Tryz.prog fn R .ret a w := by
  refine bodyPost_ret (v := .tuple #[.agg cs, .agg ds]) ?_ hd hR
  have hp' : a.tmps[p]?.getD undef = .pointer (some ⟨g, 0, none⟩) := by simpa using hp
  have hq' : a.tmps[q]?.getD undef = .pointer (some ⟨g', 0, none⟩) := by simpa using hq
  have hty := run_loadVar_row (P := Tryz.prog) w g t 83 cs fr _ hg Tryz.underlying83 rfl (by rw [hcs]; exact size_rf)
  have hty' := run_loadVar_row (P := Tryz.prog) w g' t' 86 ds fr' _ hg' Tryz.underlying86 rfl (by rw [hds]; exact size_rr)
  simp [results, h, hp', hq', asAddr, hty, hty']
theorem sept_cell {g : Nat} {x y z a b c d : Value} {T : TypeId} (h : w.heap[g]? = some (.cells #[x, y, z, a, b, c, d] T (0, 0))) : w.cell? ⟨g, 0, none⟩ = some x ∧ w.cell? ⟨g, 1, none⟩ = some y ∧ w.cell? ⟨g, 2, none⟩ = some z ∧ w.cell? ⟨g, 3, none⟩ = some a ∧ w.cell? ⟨g, 4, none⟩ = some b ∧ w.cell? ⟨g, 5, none⟩ = some c ∧ w.cell? ⟨g, 6, none⟩ = some d :=
  ⟨by rw [cell_of_row w g 0 _ _ _ h]; rfl, by rw [cell_of_row w g 1 _ _ _ h]; rfl, by rw [cell_of_row w g 2 _ _ _ h]; rfl, by rw [cell_of_row w g 3 _ _ _ h]; rfl, by rw [cell_of_row w g 4 _ _ _ h]; rfl, by rw [cell_of_row w g 5 _ _ _ h]; rfl, by rw [cell_of_row w g 6 _ _ _ h]; rfl⟩
end
abbrev zrf : Array Value := #[.slice none 0 0, .slice none 0 0, .slice none 0 0, .int .i64 0, .int .i64 0, .int .i64 0, .slice none 0 0]
/-- Cells of a folder of the reference. -/
structure Sev (cs : Array Value) : Prop where
  n : cs.size = 7
  one : cs.all (·.oneCell') = true
theorem Rp.sev (p : Rp) (s : Fo) : Sev (p.cs s) := ⟨rfl, by simp [Rp.cs, Value.oneCell']⟩
set_option maxHeartbeats 2000000 in
set_option maxRecDepth 100000 in
theorem rfails_any {cs : Array Value} (hk : Sev cs) (e : Int) (w : World) :
    Calls Tryz.prog 72 #[.agg cs, .int .i64 e] w fun en w' => en = .returned (.tuple #[.agg cs, .agg #[.int .i64 e, .slice none 0 0, .slice none 0 0]]) ∧ Below w.heap.size w w' := by
  obtain ⟨W, hW⟩ : ∃ W, Hid (((w.alloc (.cells cs 83)).alloc (.cells zrf 83)).alloc (.cells #[.int .i64 0, .slice none 0 0, .slice none 0 0] 86) = W) := ⟨_, rfl⟩
  obtain ⟨g0, h0⟩ : ∃ g, Hid (w.heap.size = g) := ⟨_, rfl⟩
  obtain ⟨g1, h1⟩ : ∃ g, Hid (w.heap.size + 1 = g) := ⟨_, rfl⟩
  obtain ⟨g2, h2⟩ : ∃ g, Hid (w.heap.size + 1 + 1 = g) := ⟨_, rfl⟩
  obtain ⟨hs, e0, e1, e2⟩ := three_heap w (.cells cs 83) (.cells zrf 83) (.cells #[.int .i64 0, .slice none 0 0, .slice none 0 0] 86)
  rw [hW.out] at hs e0 e1 e2
  rw [h0.out] at e0
  rw [h1.out] at e1
  rw [h2.out] at e2
  have hb : Hid (Below w.heap.size w W) := by rw [← hW.out]; exact ((below_new _ _).alloc (by simp) _).alloc (by simp; omega) _
  have E0 := Lib.hid e0
  have E1 := Lib.hid e1
  have E2 := Lib.hid e2
  have Hs := Lib.hid hs
  clear e0 e1 e2 hs
  obtain ⟨W2, hW2⟩ : ∃ W2, Hid (W.setRow g1 cs = W2) := ⟨_, rfl⟩
  have hne : ¬ g2 = g1 := by have := h1.out; have := h2.out; omega
  have E22 : Hid (W2.heap[g2]? = some (.cells #[.int .i64 0, .slice none 0 0, .slice none 0 0] 86 (0, 0))) := by rw [← hW2.out]; exact (setRow_other _ _ _ _ hne).trans E2.out
  have E12 : Hid (W2.heap[g1]? = some (.cells cs 83 (0, 0))) := by rw [← hW2.out]; exact setRow_heap _ _ _ _ _ _ E1.out
  have hb2 : Hid (Below w.heap.size w W2) := by rw [← hW2.out]; exact below_setRow hb.out (by rw [← h1.out]; omega) _
  have m := tri_cell E22.out
  have f2 := fun i => d_frozen (i := i) E22.out
  go_enter Tryz.func72, Tryz.ntmps72
  go_upto_region 1 with fail
  rw [h2.out, h1.out, h0.out, show ((w.alloc (.cells cs 83)).alloc (.cells zrf 83)).alloc (.cells #[.int .i64 0, .slice none 0 0, .slice none 0 0] 86) = W from hW.out]
  go_wp2_with (first
    | (refine wpList_load_row rfl 83 (.tmp 2) rfl g0 rfl _ _ _ _ E0.out Tryz.underlying83 rfl (by rw [hk.n]; exact size_rf) ?_)
    | (refine wpList_store_row rfl 83 (.tmp 4) (.tmp 6) rfl g1 _ rfl rfl _ _ E1.out (by rw [hk.n]; exact size_rf) (by rw [hk.n]; rfl) hk.one ?_; rw [hW2.out]))
  have ht := Touch.tri W2 g2 (.int .i64 e) (.slice none 0 0) (.slice none 0 0)
  refine ret_rfr rfl g1 g2 cs _ hk.n rfl _ _ (0, 0) (0, 0) rfl rfl (ht.heap (fun e => hne e.symm) E12.out) (tri_set _ _ _ E22.out) rfl ?_
  exact ⟨rfl, hb2.out.trans (ht.below hb2.out.size fun b e => by have := h2.out; omega)⟩
theorem sev_setT {w : World} {g : Nat} {a b c d e f h x y z : Value} {T : TypeId} (hg : w.heap[g]? = some (.cells #[a, b, c, d, e, f, h] T (0, 0))) : (((w.setCell ⟨g, 2, none⟩ x).setCell ⟨g, 3, none⟩ y).setCell ⟨g, 4, none⟩ z).heap[g]? = some (.cells #[a, b, x, y, z, f, h] T (0, 0)) := by
  have h1 : (w.setCell ⟨g, 2, none⟩ x).heap[g]? = some (.cells #[a, b, x, d, e, f, h] T (0, 0)) := heap_setCell_same w g 2 _ _ x hg
  have h2 : ((w.setCell ⟨g, 2, none⟩ x).setCell ⟨g, 3, none⟩ y).heap[g]? = some (.cells #[a, b, x, y, e, f, h] T (0, 0)) := heap_setCell_same _ g 3 _ _ y h1
  exact heap_setCell_same _ g 4 _ _ z h2
theorem sev_setD {w : World} {g : Nat} {a b c d e f h x y : Value} {T : TypeId} (hg : w.heap[g]? = some (.cells #[a, b, c, d, e, f, h] T (0, 0))) : ((w.setCell ⟨g, 0, none⟩ x).setCell ⟨g, 1, none⟩ y).heap[g]? = some (.cells #[x, y, c, d, e, f, h] T (0, 0)) := by
  have h1 : (w.setCell ⟨g, 0, none⟩ x).heap[g]? = some (.cells #[x, b, c, d, e, f, h] T (0, 0)) := heap_setCell_same w g 0 _ _ x hg
  exact heap_setCell_same _ g 1 _ _ y h1
theorem sev_setG {w : World} {g : Nat} {a b c d e f h x : Value} {T : TypeId} (hg : w.heap[g]? = some (.cells #[a, b, c, d, e, f, h] T (0, 0))) : (w.setCell ⟨g, 6, none⟩ x).heap[g]? = some (.cells #[a, b, c, d, e, f, x] T (0, 0)) := heap_setCell_same w g 6 _ _ x hg
/-- A function's own copy of a folder, in the box g: it avoids what AY says. -/
structure RfB (w W w1 : World) (X : Nat → Prop) (g : Nat) (p : Rp) (s : Fo) : Prop where
  box : w1.heap[g]? = some (.cells (p.cs s) 83 (0, 0))
  pt : RfP w1 (AY w W X) p s
  bel : Below w.heap.size w w1
  ge : W.heap.size ≤ w1.heap.size
  lo : w.heap.size ≤ g ∧ g < W.heap.size
section
variable {w W w1 w2 w3 : World} {X Y : Nat → Prop} {g N : Nat} {p : Rp} {s : Fo}
theorem RfB.cells (h : RfB w W w1 X g p s) : w1.cell? ⟨g, 0, none⟩ = some (.slice p.D p.nD p.cD) ∧ w1.cell? ⟨g, 1, none⟩ = some (.slice p.O p.nO p.cO) ∧ w1.cell? ⟨g, 2, none⟩ = some (.slice p.T p.nT p.cT) ∧ w1.cell? ⟨g, 3, none⟩ = some (.int .i64 s.q) ∧ w1.cell? ⟨g, 4, none⟩ = some (.int .i64 (s.made : Int)) ∧ w1.cell? ⟨g, 5, none⟩ = some (.int .i64 s.most) ∧ w1.cell? ⟨g, 6, none⟩ = some (.slice p.G s.tk.length p.cG) := sept_cell h.box
theorem RfB.fz (h : RfB w W w1 X g p s) (i : Nat) : w1.frozen? ⟨g, i, none⟩ = false := d_frozen h.box
theorem RfB.below (h : RfB w W w1 X g p s) (hb : Below w1.heap.size w1 w2) : RfB w W w2 X g p s :=
  ⟨(hb.block g (Array.getElem?_eq_some_iff.1 h.box).1).trans h.box, h.pt.below hb, h.bel.trans (hb.mono h.bel.size), Nat.le_trans h.ge hb.size, h.lo⟩
theorem RfB.ay (_h : RfB w W w1 X g p s) {b : Nat} (hb : w.heap.size ≤ b) (hb2 : b < W.heap.size) : AY w W X b := ⟨hb2, .inr hb⟩
/-- Something else of the function's own changes. -/
theorem RfB.touch (h : RfB w W w1 X g p s) (ht : Touch (fun b => w.heap.size ≤ b ∧ b < W.heap.size ∧ b ≠ g) w1 w2) : RfB w W w2 X g p s :=
  ⟨ht.heap (fun e => e.2.2 rfl) h.box, h.pt.keep (ht.mono fun _ _ e => ⟨e.2.1, .inr e.1⟩), h.bel.trans (ht.below h.bel.size fun _ e => e.1), Nat.le_trans h.ge ht.size, h.lo⟩
theorem RfB.setT (h : RfB w W w1 X g p s) {A : Option Addr} {n c : Nat} {q : Int} {made : Nat} {fs : List Fi} (hu : RefT w1 (AX w3 (AY w W X)) (.agg #[.slice A n c, .int .i64 q, .int .i64 (made : Int)]) (rmT fs) q (made : Int)) (h3 : W.heap.size ≤ w3.heap.size) :
    RfB w W (((w1.setCell ⟨g, 2, none⟩ (.slice A n c)).setCell ⟨g, 3, none⟩ (.int .i64 q)).setCell ⟨g, 4, none⟩ (.int .i64 (made : Int))) X g { p with T := A, nT := n, cT := c } { s with q := q, made := made, fs := fs } := by
  have ht : Touch (fun b => b = g) w1 (((w1.setCell ⟨g, 2, none⟩ (.slice A n c)).setCell ⟨g, 3, none⟩ (.int .i64 q)).setCell ⟨g, 4, none⟩ (.int .i64 (made : Int))) := ((Touch.cell1 w1 g 2 _).trans (Touch.cell1 _ g 3 _)).trans (Touch.cell1 _ g 4 _)
  have hta := ht.mono (Y := AY w W X) fun b _ e => by rw [e]; exact h.ay h.lo.1 h.lo.2
  refine ⟨sev_setT h.box, ⟨h.pt.d.keep hta, (hu.mono fun b _ (e : AY w W X b) => ⟨Nat.lt_of_lt_of_le e.1 h3, e⟩).keep hta, h.pt.g.keep hta⟩, h.bel.trans (ht.below h.bel.size fun b e => by rw [e]; exact h.lo.1), Nat.le_trans h.ge ht.size, h.lo⟩
theorem RfB.setD (h : RfB w W w1 X g p s) {A A' : Option Addr} {n c n' c' : Nat} {d : St} (hu : RefV w1 (fun b => b < w3.heap.size ∧ AY w W X b) (.agg #[.slice A n c, .slice A' n' c']) d) (h3 : W.heap.size ≤ w3.heap.size) :
    RfB w W ((w1.setCell ⟨g, 0, none⟩ (.slice A n c)).setCell ⟨g, 1, none⟩ (.slice A' n' c')) X g { p with D := A, nD := n, cD := c, O := A', nO := n', cO := c' } { s with d := d } := by
  have ht : Touch (fun b => b = g) w1 ((w1.setCell ⟨g, 0, none⟩ (.slice A n c)).setCell ⟨g, 1, none⟩ (.slice A' n' c')) := (Touch.cell1 w1 g 0 _).trans (Touch.cell1 _ g 1 _)
  have hta := ht.mono (Y := AY w W X) fun b _ e => by rw [e]; exact h.ay h.lo.1 h.lo.2
  refine ⟨sev_setD h.box, ⟨(hu.mono fun b _ (e : AY w W X b) => ⟨Nat.lt_of_lt_of_le e.1 h3, e⟩).keep hta, h.pt.t.keep hta, h.pt.g.keep hta⟩, h.bel.trans (ht.below h.bel.size fun b e => by rw [e]; exact h.lo.1), Nat.le_trans h.ge ht.size, h.lo⟩
theorem RfB.setG (h : RfB w W w1 X g p s) {A : Option Addr} {c : Nat} {l : List Int} (hu : RdX w1 (AY w W X) 1 A l.length (ics l)) :
    RfB w W (w1.setCell ⟨g, 6, none⟩ (.slice A l.length c)) X g { p with G := A, cG := c } { s with tk := l } := by
  have ht := Touch.cell1 w1 g 6 (.slice A l.length c)
  have hta := ht.mono (Y := AY w W X) fun b _ e => by rw [e]; exact h.ay h.lo.1 h.lo.2
  refine ⟨sev_setG h.box, ⟨h.pt.d.keep hta, h.pt.t.keep hta, hu.keep hta⟩, h.bel.trans (ht.below h.bel.size fun b e => by rw [e]; exact h.lo.1), Nat.le_trans h.ge ht.size, h.lo⟩
/-- The answer. -/
theorem RfB.fin (h : RfB w W w1 X g p s) : RefF w1 (AX w X) (.agg (p.cs s)) s := ⟨p, rfl, h.pt.mono fun b _ (e : AX w X b) => ⟨Nat.lt_of_lt_of_le e.1 (by have := h.lo; omega), .inl e.2⟩⟩
/-- From the argument. -/
theorem RfB.start {v : Value} (hr : RefF w X v s) (hb : Below w.heap.size w W) (hl : w.heap.size ≤ g ∧ g < W.heap.size) (hg : ∀ p : Rp, v = .agg (p.cs s) → W.heap[g]? = some (.cells (p.cs s) 83 (0, 0))) : ∃ p, v = .agg (p.cs s) ∧ RfB w W W X g p s := by
  obtain ⟨p, rfl, hp⟩ := hr
  refine ⟨p, rfl, hg p rfl, ?_, hb, Nat.le_refl _, hl⟩
  have h1 : RfP w (fun b => X b ∨ w.heap.size ≤ b) p s := by
    obtain ⟨A, c, A', c', e, h1, h2⟩ := hp.d.v
    obtain ⟨A2, c2, es, e2, h3, h4⟩ := hp.t
    exact ⟨⟨A, c, A', c', e, h1.high', h2.high'⟩, ⟨A2, c2, es, e2, h3.high, h4⟩, hp.g.high'⟩
  exact (h1.below hb).mono fun b _ (e : AY w W X b) => e.2
end
end Go.Proofs.YtbhmnmmockmibaaGreatDoor
