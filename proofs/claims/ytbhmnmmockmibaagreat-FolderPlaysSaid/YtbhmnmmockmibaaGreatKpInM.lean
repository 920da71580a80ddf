/- The walk of Fail. Conditions: files of at most 1000 parts of 100000 bytes; at most 1000 told. -/
import Derived.Test.YtbhmnmmockmibaaGreatKpInL
import Derived.Lib.SliceRun
namespace Go.Proofs.YtbhmnmmockmibaaGreat
open Go.RowKit
variable {nm : Value}
theorem wp_storeP {o : Oper} {a : Act} {w : World} {K : Act → World → Prop} {Q : Exit → Act → World → Prop} {t : TypeId} (s y : Operand) {g n c : Nat} {A : Option Addr} {v : Value} (ho : o.op = .store 125 s y) (hs : a.eval s = .pointer (some ⟨g, 0, none⟩)) (hy : a.eval y = .slice A n c) (hg : w.heap[g]? = some (.cells #[v, nm] t (0, 0)))
    (hk : K (a.put o.dst undef) (w.setCell ⟨g, 0, none⟩ (.slice A n c))) : o.wp Tryz.prog a w K Q := by
  have hc := bx_cell hg
  have hf := bx_frozen hg
  unfold Oper.wp execOp
  simp only [ho, hs, hy]
  go_simp
  exact hk
theorem setCells_heap {g : Nat} {t : TypeId} : ∀ (vs : List Value) (a z : List Value) (k : Nat) (w : World), a.length = k → (∃ old, old.length = vs.length ∧ w.heap[g]? = some (.cells (a ++ (old ++ z)).toArray t (0, 0))) → (w.setCells g k vs).heap[g]? = some (.cells (a ++ (vs ++ z)).toArray t (0, 0))
  | [], a, z, k, w, hk, ⟨old, ho, hg⟩ => by
    have : old = [] := List.eq_nil_of_length_eq_zero (by simpa using ho)
    subst this
    exact hg
  | v :: vs, a, z, k, w, hk, ⟨old, ho, hg⟩ => by
    cases old with
    | nil => simp at ho
    | cons u old =>
      have h1 := heap_setCell_same w g k _ t v hg
      have e1 : ((a ++ (u :: old ++ z)).toArray.setIfInBounds k v) = (a ++ [v] ++ (old ++ z)).toArray := by
        rw [List.setIfInBounds_toArray]
        congr 1
        rw [List.set_append_right _ _ (by omega), hk, Nat.sub_self]
        simp
      rw [e1] at h1
      have ih := setCells_heap vs (a ++ [v]) z (k + 1) (w.setCell ⟨g, k, none⟩ v) (by simp [hk]) ⟨old, by simpa using ho, h1⟩
      show (((w.setCell ⟨g, k, none⟩ v).setCells g (k + 1) vs).heap[g]? = _)
      rw [ih]
      simp
theorem Touch.cells (g : Nat) : ∀ (vs : List Value) (k : Nat) (w : World), Touch (fun b => b = g) w (w.setCells g k vs)
  | [], _, w => Touch.refl _ w
  | v :: vs, k, w => (Touch.cell1 w g k v).trans (Touch.cells g vs (k + 1) _)
theorem run_clear_bytes {w : World} {g k n c : Nat} {a l z : List UInt8} (hg : w.heap[g]? = some (.cells (bs (a ++ (l ++ z))).toArray 5 (0, 0))) (hk : a.length = k) (hn : l.length = n) (hp : 0 < n) (ty : TypeId) :
    (Builtin.clear_ #[38] ty #[.slice (some ⟨g, k, none⟩) n c]).run Tryz.prog w = .ok (.tuple #[]) (w.setCells g k (List.replicate n (.int .u8 0))) := by
  obtain ⟨i0, hi0, hz0, hz1, hz2⟩ := info_parts Tryz.info5
  refine Lib.run_clear_slice w 38 5 ty (.int .u8 0) Tryz.underlying38 (fun w => by simp [zeroValue, hi0, hz0, typeInfo]) rfl rfl g k n c hp ?_ ?_
  · intro j hj
    have hlt : j < (bs l).length := by rw [bs_len]; omega
    have := reads_stretch hg k hk j _ (List.getElem?_eq_getElem hlt)
    rw [lit_add] at this
    rw [this]
    rfl
  · intro j hj
    simp [World.frozen?, hg]
theorem noughts_bs (n : Nat) : List.replicate n (Value.int .u8 0) = bs (noughts n) := by
  unfold bs noughts
  rw [List.map_replicate]
  rfl
def FaF (W9 : World) (F : Nat) (Av : Option Addr) (nv cv : Nat) (pA : Option Addr) (n pc : Nat) (l' : List UInt8) (M : Nat) : Nat → Value → World → Prop
  | 0, v, _ => v = .pointer (some ⟨F, 0, none⟩)
  | 1, v, _ => v = .pointer (some ⟨F, 0, none⟩)
  | 2, v, _ => v = .pointer (some ⟨F, 0, none⟩)
  | 3, v, _ => v = .pointer (some ⟨F, 0, none⟩)
  | 4, v, _ => v = .slice Av nv cv
  | 5, v, _ => v = .pointer (some ⟨M, 0, none⟩)
  | 6, v, _ => v = .slice pA n pc
  | 7, v, _ => v = (Pa.mk ⟨pA, pc, l'⟩ true).v
  | 8, v, w => ∃ m, v = .slice (some ⟨m, 0, none⟩) 1 1 ∧ W9.heap.size ≤ m ∧ w.heap[m]? = some (.cells (pcells [Pa.mk ⟨pA, pc, l'⟩ true]).toArray 180 (0, 0))
  | 10, v, _ => v = .pointer (some ⟨F, 0, none⟩)
  | 11, v, _ => v = .pointer (some ⟨F, 0, none⟩)
  | _, _, _ => True
theorem FaF.keep {W9 : World} {F : Nat} {Av : Option Addr} {nv cv : Nat} {pA : Option Addr} {n pc : Nat} {l' : List UInt8} {M : Nat} (j : Nat) (u : Value) (w w' : World) (hk : ∀ m o, W9.heap.size ≤ m → w.heap[m]? = some o → w'.heap[m]? = some o) (h : FaF W9 F Av nv cv pA n pc l' M j u w) : FaF W9 F Av nv cv pA n pc l' M j u w' :=
  match j, h with
  | 0, h => h
  | 1, h => h
  | 2, h => h
  | 3, h => h
  | 4, h => h
  | 5, h => h
  | 6, h => h
  | 7, h => h
  | 8, h => by obtain ⟨m, e, hm, hc⟩ := h; exact ⟨m, e, hm, hk m _ hm hc⟩
  | 9, h => h
  | 10, h => h
  | 11, h => h
  | _ + 12, h => h
theorem FaF.below {W9 : World} {F : Nat} {Av : Option Addr} {nv cv : Nat} {pA : Option Addr} {n pc : Nat} {l' : List UInt8} {M : Nat} (j : Nat) (u : Value) (w w' : World) (hb : Below w.heap.size w w') (h : FaF W9 F Av nv cv pA n pc l' M j u w) : FaF W9 F Av nv cv pA n pc l' M j u w' :=
  FaF.keep j u w w' (fun m o _ hm => by rw [hb.block m (Array.getElem?_eq_some_iff.1 hm).1]; exact hm) h
structure FaB (base : Nat) (W9 : World) (v : Value) (ds : List Pa) (u : Value) (w : World) : Prop where
  touch : Touch (fun k => v.ownBlock = some k) W9 w
  own : w.ownsRow base 180 2 u ds.length (pcells ds)
  apart : ∀ b, b < W9.heap.size → v.ownBlock ≠ some b → u.ownBlock ≠ some b
structure FaD (nm : Value) (base F : Nat) (W9 : World) (v : Value) (ds : List Pa) (u : Value) (w : World) : Prop where
  f : w.heap[F]? = some (.cells #[u, nm] 129 (0, 0))
  touch : Touch (fun k => v.ownBlock = some k ∨ k = F) W9 w
  own : w.ownsRow base 180 2 u ds.length (pcells ds)
  apart : ∀ b, b < W9.heap.size → v.ownBlock ≠ some b → u.ownBlock ≠ some b
section
variable {b : Act} {w : World} {o : Oper}
theorem exec_buildT {x : Operand} {A : Option Addr} {n c : Nat} {l : List UInt8} (hn : l.length = n) (ho : o.op = .build 180 #[(0, x), (1, .const (.bool true))]) (h : b.eval x = .slice A n c) : (execOp b.eval o).run Tryz.prog w = .ok (.value (Pa.mk ⟨A, c, l⟩ true).v) w := exec_buildPa hn ho h rfl
end
def fillPa (p : Pa) : Pa := ⟨⟨p.r.A, p.r.c, (fillP (p.r.l, p.d)).1⟩, true⟩
def dsF (qs : List Pa) (j : Nat) : List Pa := (qs.take j).map fillPa
def esF (qs : List Pa) (j : Nat) : List Pa := dsF qs j ++ qs.drop j
theorem fillPa_len (p : Pa) : (fillPa p).r.l.length = p.r.l.length := fillP_len (p.r.l, p.d)
theorem says_dsF (qs : List Pa) (j : Nat) : says (dsF qs j) = ((says qs).take j).map fillP := by
  unfold dsF says
  rw [List.map_map, ← List.map_take, List.map_map]
  rfl
theorem dsF_snoc {qs : List Pa} {j : Nat} {p : Pa} (h : Hid (qs[j]? = some p)) : dsF qs (j + 1) = dsF qs j ++ [fillPa p] := map_snoc_take _ h
theorem dsF_len (qs : List Pa) {j : Nat} (h : j ≤ qs.length) : (dsF qs j).length = j := by
  unfold dsF
  rw [List.length_map, List.length_take]
  omega
theorem esF_now {qs : List Pa} {j : Nat} {p : Pa} (h : Hid (qs[j]? = some p)) : esF qs j = dsF qs j ++ p :: qs.drop (j + 1) := by
  unfold esF
  rw [drop_cons h]
theorem esF_next {qs : List Pa} {j : Nat} {p : Pa} (h : Hid (qs[j]? = some p)) : esF qs (j + 1) = dsF qs j ++ fillPa p :: qs.drop (j + 1) := by
  unfold esF
  rw [dsF_snoc h, List.append_assoc]
  rfl
def lens (ps : List Pa) : List Nat := ps.map fun p => p.r.l.length
theorem contM_lens (ps : List Pa) : (contM (says ps)).length = (lens ps).sum := by
  induction ps with
  | nil => rfl
  | cons p ps ih =>
    show (p.r.l ++ contM (says ps)).length = p.r.l.length + (lens ps).sum
    rw [List.length_append, ih]
theorem Room.same {w w' : World} {g : Nat} {ps ps' : List Pa} {spare spare' : List UInt8} (h : Room w g ps spare) (hA : (ps'.map fun p => p.r.A) = ps.map fun p => p.r.A) (hl : lens ps' = lens ps) (hh : w'.heap[g]? = some (.cells (bs (contM (says ps') ++ spare')).toArray 5 (0, 0))) : Room w' g ps' spare' := by
  refine ⟨hh, fun k p' hk => ?_⟩
  have h1 := congrArg (fun l => l[k]?) hA
  simp only [List.getElem?_map, hk, Option.map_some] at h1
  cases h2 : ps[k]? with
  | none => rw [h2] at h1; cases h1
  | some p =>
    rw [h2] at h1
    injection h1 with h1
    have h1' : p'.r.A = p.r.A := h1
    rw [h1', h.lies k p h2, contM_lens, contM_lens]
    unfold lens at hl ⊢
    rw [List.map_take, List.map_take, hl]
theorem esF_same {qs : List Pa} {j : Nat} {p : Pa} (h : Hid (qs[j]? = some p)) : ((esF qs (j + 1)).map fun p => p.r.A) = ((esF qs j).map fun p => p.r.A) ∧ lens (esF qs (j + 1)) = lens (esF qs j) := by
  rw [esF_now h, esF_next h]
  unfold lens
  constructor
  · rw [List.map_append, List.map_append]; rfl
  · rw [List.map_append, List.map_append, List.map_cons, List.map_cons, fillPa_len]
structure FaSt (nm : Value) (w wr : World) (F g n c : Nat) (A : Option Addr) (qs : List Pa) (v : Value) (j : Nat) : Prop where
  list : wr.ownsRow w.heap.size 180 2 (.slice A n c) n (pcells qs)
  room : Room wr g (esF qs j) []
  f : wr.heap[F]? = some (.cells #[v, nm] 129 (0, 0))
  own : wr.ownsRow w.heap.size 180 2 v (dsF qs j).length (pcells (dsF qs j))
  ne1 : v.ownBlock ≠ some g
  ne2 : ∀ b, (Value.slice A n c).ownBlock = some b → v.ownBlock ≠ some b
  ne3 : (Value.slice A n c).ownBlock ≠ some g
  le : w.heap.size ≤ g
  touch : Touch (fun k => k = F) w wr
theorem FaSt.mid {w wr W1 W9 : World} {F g n c : Nat} {A : Option Addr} {qs : List Pa} {v : Value} {j : Nat} {p : Pa} (h : FaSt nm w wr F g n c A qs v j) (hx : Hid (qs[j]? = some p)) (hb : Below wr.heap.size wr W1) (ht : Touch (fun b => b = g) W1 W9)
    (hh : W9.heap[g]? = some (.cells (bs (contM (says (dsF qs j)) ++ ((fillP (p.r.l, p.d)).1 ++ contM (says (qs.drop (j + 1)))))).toArray 5 (0, 0))) :
    Room W9 g (esF qs (j + 1)) [] ∧ W9.ownsRow w.heap.size 180 2 (.slice A n c) n (pcells qs) ∧ W9.ownsRow w.heap.size 180 2 v (dsF qs j).length (pcells (dsF qs j)) := by
  obtain ⟨h1, h2⟩ := esF_same hx
  refine ⟨(h.room.same h1 h2 ?_), own_touch (own_below h.list hb (Nat.le_refl _)) ht (fun b hb e => h.ne3 (by rw [hb, e])), own_touch (own_below h.own hb (Nat.le_refl _)) ht (fun b hb e => h.ne1 (by rw [hb, e]))⟩
  rw [esF_next hx, says_append, contM_append, List.append_nil]
  exact hh
theorem FaSt.heap {w wr : World} {F g n c : Nat} {A : Option Addr} {qs : List Pa} {v : Value} {j : Nat} {p : Pa} (h : FaSt nm w wr F g n c A qs v j) (hx : Hid (qs[j]? = some p)) : wr.heap[g]? = some (.cells (bs (contM (says (dsF qs j)) ++ (p.r.l ++ contM (says (qs.drop (j + 1)))))).toArray 5 (0, 0)) := by
  have := h.room.heap
  rw [esF_now hx, says_append, contM_append, List.append_nil] at this
  exact this
theorem FaSt.at_ {w wr : World} {F g n c : Nat} {A : Option Addr} {qs : List Pa} {v : Value} {j : Nat} {p : Pa} (h : FaSt nm w wr F g n c A qs v j) (hx : Hid (qs[j]? = some p)) : p.r.A = some ⟨g, (contM (says (dsF qs j))).length, none⟩ := by
  have hj := (List.getElem?_eq_some_iff.1 hx.out).1
  have hl := dsF_len qs (Nat.le_of_lt hj)
  have := h.room.lies j p (by rw [esF_now hx, List.getElem?_append_right (by omega), hl, Nat.sub_self]; rfl)
  rw [esF_now hx, List.take_append_of_le_length (by omega), List.take_of_length_le (by omega)] at this
  exact this
theorem Touch.then_ {X Y : Nat → Prop} {w w1 w2 : World} (h : Touch X w w1) (k : Touch Y w1 w2) (hy : ∀ b, b < w.heap.size → Y b → X b) : Touch X w w2 :=
  ⟨k.os.trans h.os, k.tape.trans h.tape, k.output.trans h.output, Nat.le_trans h.size k.size, fun i hi hx => (k.block i (Nat.lt_of_lt_of_le hi h.size) (fun e => hx (hy i hi e))).trans (h.block i hi hx)⟩
theorem FaSt.next {w wr W1 W9 wx : World} {F g n c pc : Nat} {A : Option Addr} {qs : List Pa} {v u : Value} {j : Nat} {p : Pa} {pA : Option Addr} {l' : List UInt8} (h : FaSt nm w wr F g n c A qs v j) (hx : Hid (qs[j]? = some p)) (hb : Below wr.heap.size wr W1) (ht : Touch (fun b => b = g) W1 W9)
    (hroom : Room W9 g (esF qs (j + 1)) []) (hlist : W9.ownsRow w.heap.size 180 2 (.slice A n c) n (pcells qs)) (hD : FaD nm w.heap.size F W9 v (dsF qs j ++ [Pa.mk ⟨pA, pc, l'⟩ true]) u wx) (hp : fillPa p = Pa.mk ⟨pA, pc, l'⟩ true) (hFl : F < w.heap.size) : FaSt nm w wx F g n c A qs u (j + 1) := by
  have hg9 : g < W9.heap.size := (Array.getElem?_eq_some_iff.1 hroom.heap).1
  have hgn : ¬ (v.ownBlock = some g ∨ g = F) := by
    rintro (e | e)
    · exact h.ne1 e
    · have := h.le; omega
  refine ⟨own_touch hlist hD.touch ?_, ⟨hD.touch.heap hgn hroom.heap, hroom.lies⟩, hD.f, ?_, hD.apart g hg9 h.ne1, ?_, h.ne3, h.le, ?_⟩
  · rintro b hb' (e | e)
    · exact h.ne2 b hb' e
    · have := (hlist.lt b hb').1
      omega
  · rw [dsF_snoc hx, hp]
    exact hD.own
  · intro b hb'
    exact hD.apart b (hlist.lt b hb').2 (h.ne2 b hb')
  · refine ((h.touch.then_ (Touch.of (X := fun _ => False) hb) fun _ _ h => h.elim).then_ ht fun x hx e => ?_).then_ hD.touch fun x hx e => ?_
    · have := h.le; omega
    · rcases e with e | e
      · have := (h.own.lt x e).1; omega
      · exact e
set_option maxHeartbeats 4000000 in
set_option maxRecDepth 100000 in
theorem fail_any {X : Nat → Prop} {A Ak : Option Addr} {c ck B F : Nat} {ps : List Pa} {keep : List Bool} {w : World} (hF : w.heap[F]? = some (.cells #[.slice A ps.length c, nm] 129 (0, 0))) (hs : SmM (says ps)) (hr : PsX w X A ps) (hB : B ≤ w.heap.size) (hkr : RdK w B Ak keep) (hkc : keep.length ≤ ck) (hkl : keep.length ≤ 1000) :
    Calls Tryz.prog 64 #[.pointer (some ⟨F, 0, none⟩), .slice Ak keep.length ck] w fun e w' => e = .returned (.tuple #[]) ∧ Touch (fun k => k = F) w w' ∧ ∃ v, w'.heap[F]? = some (.cells #[v, nm] 129 (0, 0)) ∧ FileV w' (XW w) v (failM (says ps) keep) := by
  have hcF := bx_cell hF
  have hFl : Hid (F < w.heap.size) := (Array.getElem?_eq_some_iff.1 hF).1
  have HF := Lib.hid hF
  have Hs := Lib.hid hs
  have Hcall := Lib.hid (anew_any A c ps w hs hr)
  have Hkr := Lib.hid hkr
  have HB := Lib.hid hB
  have Hkc := Lib.hid hkc
  have Hkl := Lib.hid hkl
  clear hF hs hr hkr hB hkc hkl
  go_enter Tryz.func64, Tryz.ntmps64
  go_upto_region 2 with
    (go_at_call 98
     refine Hcall.out.mono ?_
     rintro e w2 ⟨v2, g2, qs0, rfl, hO, hsay, hb2⟩
     obtain ⟨A2, c2, rfl, hc2, _, _⟩ := own_form hO.head
     have HO := Lib.hid hO
     have Hsay := Lib.hid hsay
     have Hb2 := Lib.hid hb2
     have Hc2 := Lib.hid hc2
     clear hO hsay hb2 hc2)
  obtain ⟨n, hn⟩ : ∃ n, Hid (qs0.length = n) := ⟨_, rfl⟩
  have hn1 : Hid (n ≤ 1000) := by
    show _ ≤ _
    rw [← hn.out, ← says_len, Hsay.out]
    exact Hs.out.full.n
  rw [hn.out] at HO Hc2 ⊢
  have Hhold := Lib.hid (hold_any HO.out hn.out hn1.out (Nat.le_refl _) Hb2.out.size (Reads.more (Reads.below Hkr.out (Hb2.out.mono HB.out)) HB.out) Hkc.out Hkl.out)
  go_upto_region 3 with
    (go_at_call 99
     refine Hhold.out.mono ?_
     rintro e w3 ⟨rfl, hb3, qs, hO3, hn3, hsay3⟩
     have HO3 := Lib.hid hO3
     have Hn3 := Lib.hid hn3
     have Hsay3 := Lib.hid hsay3
     have Hb3 := Lib.hid (Hb2.out.trans hb3)
     have hF3 := Lib.hid ((Hb3.out.block F hFl.out).trans HF.out)
     have cF3 := bx_cell hF3.out
     have zF3 := bx_frozen hF3.out
     clear hO3 hn3 hsay3 hb3)
  go_upto_region 4 with fail
  obtain ⟨w4, hw4⟩ : ∃ w4, Hid (w3.setCell ⟨F, 0, none⟩ (.slice none 0 0) = w4) := ⟨_, rfl⟩
  rw [hw4.out]
  have f4 : Hid (w4.heap[F]? = some (.cells #[.slice none 0 0, nm] 129 (0, 0))) := by rw [← hw4.out]; exact bx_set _ hF3.out
  have ht4 : Hid (Touch (fun k => k = F) w3 w4) := by rw [← hw4.out]; exact Touch.cell1 _ _ _ _
  have HO4 : Hid (OwnR w.heap.size w4 (.slice A2 n c2) g2 qs) := HO3.out.touch ht4.out (fun b hb => by rw [hb]; exact hFl.out)
  have hsm : Hid (SmM (says qs)) := by
    have hf := Hs.out.full
    rw [Hsay3.out, Hsay.out]
    refine ⟨by rw [holdM_len]; exact hf.n, fun x hx => ?_⟩
    obtain ⟨i, hi⟩ := List.getElem?_of_mem hx
    have hil := (List.getElem?_eq_some_iff.1 hi).1
    rw [holdM_len] at hil
    obtain ⟨d, hd, _⟩ := holdM_get (k := keep) (List.getElem?_eq_getElem hil)
    rw [hi] at hd
    injection hd with hd
    rw [hd]
    exact hf.l ((fullM (says ps))[i]) (List.getElem_mem hil)
  have hPs : Hid (PsX w4 (fun _ => False) A2 qs) := by
    obtain ⟨A', c', e, _, hp⟩ := HO4.out.reads (X := fun _ => False) (fun _ h => h.elim)
    injection e with e1 _ _
    rw [e1]
    exact hp
  have Hend := Lib.hid (end_any A2 c2 qs w4 hsm.out hPs.out)
  obtain ⟨e, he⟩ : ∃ e, Hid (endM (says qs) = e) := ⟨_, rfl⟩
  rw [he.out, Hn3.out] at Hend
  have hen : Hid (e ≤ n) := by show _ ≤ _; rw [← he.out, ← Hn3.out, ← says_len]; exact endM_le _
  have hec : (e : Int) ≤ (c2 : Int) := by have := hen.out; have := Hc2.out; omega
  have heI : (e : Int) ≤ 1000 := by have := hen.out; have := hn1.out; omega
  have hstart : Hid (FaSt nm w w4 F g2 n c2 A2 qs (.slice none 0 0) 0) := by
    refine ⟨by have := HO4.out.head; rw [Hn3.out] at this; exact this, ?_, f4.out, World.ownsRow_nil _ _ _ _, by simp [Value.ownBlock], by simp [Value.ownBlock], HO4.out.ne, HO4.out.le, (Touch.of Hb3.out).trans ht4.out⟩
    exact HO4.out.room
  clear cF3 zF3
  go_wp2_with (go_at_call 100; refine Hend.out.mono ?_; rintro e0 w5 ⟨rfl, hw5⟩; subst hw5)
  go_loopw [25] (fun i wr => ∃ (j : Nat) (v : Value), j ≤ e ∧ i = .int .i64 (j : Int) ∧ Hid (FaSt nm w wr F g2 n c2 A2 qs v j)) (fun i _ => e - (intOf i).toNat)
  case atStart => exact ⟨0, _, by omega, rfl, hstart⟩
  case round =>
    clear hstart
    obtain ⟨j, v, hj, rfl, hst⟩ := hrel
    by_cases hlt : j < e
    · have hjn : j < qs.length := by have := hen.out; have := Hn3.out; omega
      obtain ⟨p, hp⟩ : ∃ p, p = qs[j] := ⟨_, rfl⟩
      have hx : Hid (qs[j]? = some p) := by rw [hp]; exact List.getElem?_eq_getElem hjn
      obtain ⟨Av, cv, rfl, _, _, _⟩ := own_form hst.out.own
      obtain ⟨gl, cap, hv, _, _⟩ := hst.out.list.form (by have := Hn3.out; omega)
      injection hv with hv1 hv2 hv3
      subst hv1
      obtain ⟨nv, hnv⟩ : ∃ nv, Hid ((dsF qs j).length = nv) := ⟨_, rfl⟩
      have hnvj : Hid (nv = j) := by rw [← hnv.out]; exact dsF_len qs (Nat.le_of_lt hjn)
      have hdl : Hid ((dsF qs j).length ≤ 1000) := by rw [hnv.out, hnvj.out]; show _ ≤ _; omega
      rw [hnv.out] at hst
      have hcl0 : wr.cell? ((⟨gl, 0, none⟩ : Addr).add (j * 2)) = some (.slice p.r.A p.r.l.length p.r.c) := hst.out.list.cells (g := gl) rfl _ _ (pcells_get hx.out).1
      have hcl1 : wr.cell? ((⟨gl, 0, none⟩ : Addr).add (j * 2 + 1)) = some (.bool p.d) := hst.out.list.cells (g := gl) rfl _ _ (pcells_get hx.out).2
      rw [lit_add, Nat.zero_add] at hcl0 hcl1
      have hat := hst.out.at_ hx
      obtain ⟨⟨pA, pc, pl⟩, pd⟩ := p
      simp only at hcl0 hcl1 hat
      subst hat
      obtain ⟨off, hoff⟩ : ∃ off, Hid ((contM (says (dsF qs j))).length = off) := ⟨_, rfl⟩
      have hpl := hsm.out.l _ (mem_of_get (says_get hx))
      simp only at hpl
      obtain ⟨n1, hn1e⟩ : ∃ n1, Hid (pl.length = n1) := ⟨_, rfl⟩
      rw [hn1e.out] at hcl0 hpl
      have hpne : pl ≠ [] := by
        have hm := mem_of_get (says_get hx)
        rw [Hsay3.out, Hsay.out] at hm
        obtain ⟨i, hi⟩ := List.getElem?_of_mem hm
        have hil := (List.getElem?_eq_some_iff.1 hi).1
        rw [holdM_len] at hil
        obtain ⟨d, hd, _⟩ := holdM_get (k := keep) (List.getElem?_eq_getElem hil)
        rw [hi] at hd
        injection hd with hd
        have h1 := congrArg Prod.fst hd
        simp only at h1
        rw [h1]
        exact fullM_mem (List.getElem_mem hil)
      have hn0 : 0 < n1 := by rw [← hn1e.out]; exact List.length_pos_iff.2 hpne
      have hn0I : (0 : Int) < (n1 : Int) := by omega
      have hn1I : (n1 : Int) ≤ 100000 := by omega
      have hx' := Lib.hid hx
      obtain ⟨M, hM⟩ : ∃ M, Hid (wr.heap.size = M) := ⟨_, rfl⟩
      rw [hoff.out] at hcl0
      obtain ⟨W1, hW1⟩ : ∃ W1, Hid (wr.alloc (.cells #[.slice (some ⟨g2, off, none⟩) n1 pc, .bool pd] 180) = W1) := ⟨_, rfl⟩
      have hb1 : Hid (Below wr.heap.size wr W1) := by rw [← hW1.out]; exact below_new _ _
      have fM : Hid (W1.heap[M]? = some (.cells #[.slice (some ⟨g2, off, none⟩) n1 pc, .bool pd] 180 (0, 0))) := by rw [← hW1.out, ← hM.out]; exact heap_alloc_new _ _
      have cM1 : W1.cell? ⟨M, 1, none⟩ = some (.bool pd) := by rw [cell_of_row W1 M 1 _ _ _ fM.out]; rfl
      have cM0 : W1.cell? ⟨M, 0, none⟩ = some (.slice (some ⟨g2, off, none⟩) n1 pc) := by rw [cell_of_row W1 M 0 _ _ _ fM.out]; rfl
      obtain ⟨l', hl'e⟩ : ∃ l', Hid ((fillP (pl, pd)).1 = l') := ⟨_, rfl⟩
      have hl' : Hid (l'.length = n1) := by rw [← hl'e.out, fillP_len]; exact hn1e.out
      have hl'p : Hid (fillPa ⟨⟨some ⟨g2, off, none⟩, pc, pl⟩, pd⟩ = Pa.mk ⟨some ⟨g2, off, none⟩, pc, l'⟩ true) := by
        show _ = _
        rw [← hl'e.out]
        rfl
      have hjnI : (j : Int) < (n : Int) := by have := hen.out; omega
      have hx := Lib.hid hx
      have hjeI : (j : Int) < (e : Int) := by omega
      clear hpne hpl hp hv2 hv3 hjn
      rw [hoff.out] at hx
      go_upto_region 7 with fail
      rw [hW1.out, hM.out]
      cases pd with
      | true =>
          have hW9 : Hid (Below wr.heap.size wr W1) := hb1.out
          obtain ⟨W9, hW9e⟩ : ∃ W9, Hid (W1 = W9) := ⟨_, rfl⟩
          have ht9 : Hid (Touch (fun b => b = g2) W1 W9) := by rw [← hW9e.out]; exact .refl _ _
          have hh9 : Hid (W9.heap[g2]? = some (.cells (bs (contM (says (dsF qs j)) ++ (l' ++ contM (says (qs.drop (j + 1)))))).toArray 5 (0, 0))) := by
            rw [← hW9e.out, ← hl'e.out, hb1.out.block g2 (Array.getElem?_eq_some_iff.1 (hst.out.heap hx)).1]
            exact hst.out.heap hx
          go_upto_region 9 with fail
          rw [hW9e.out]
          obtain ⟨pA, hpA⟩ : ∃ pA, Hid ((some ⟨g2, off, none⟩ : Option Addr) = pA) := ⟨_, rfl⟩
          obtain ⟨hroom9, hlist9, hown9⟩ := hst.out.mid hx hb1.out ht9.out (by rw [hl'e.out]; exact hh9.out)
          have hroom9 := Lib.hid hroom9
          have hlist9 := Lib.hid hlist9
          have hown9 := Lib.hid hown9
          have hgM : Hid (M ≠ g2) := by rw [← hM.out]; intro e; have := (Array.getElem?_eq_some_iff.1 (hst.out.heap hx)).1; omega
          have cM9 : Hid (W9.cell? ⟨M, 0, none⟩ = some (.slice pA n1 pc)) := by
            show _ = _
            rw [cell_of_row W9 M 0 _ _ _ (ht9.out.heap hgM.out fM.out), ← hpA.out]; rfl
          have hMl9 : Hid (M < W9.heap.size) := (Array.getElem?_eq_some_iff.1 (ht9.out.heap hgM.out fM.out)).1
          have hFg : Hid (F ≠ g2) := by show F ≠ g2; have := hFl.out; have := hst.out.le; omega
          have fF9 : Hid (W9.heap[F]? = some (.cells #[.slice Av nv cv, nm] 129 (0, 0))) := ht9.out.heap hFg.out ((hb1.out.block F (Array.getElem?_eq_some_iff.1 hst.out.f).1).trans hst.out.f)
          have hFl9 : Hid (F < W9.heap.size) := (Array.getElem?_eq_some_iff.1 fF9.out).1
          have cF9 := Lib.hid (bx_cell fF9.out)
          have hw9 : Hid (w.heap.size ≤ W9.heap.size) := Nat.le_trans hst.out.touch.size (Nat.le_trans hb1.out.size ht9.out.size)
          refine wp_last ?_
          go_cut [] from 34 to 45 (fun wx => ∃ u, FaD nm w.heap.size F W9 (.slice Av nv cv) (dsF qs j ++ [Pa.mk ⟨pA, pc, l'⟩ true]) u wx)
          case first =>
            rename_i J K1 hJ hK
            obtain ⟨n, hn⟩ : ∃ n, Hid (n1 = n) := ⟨_, rfl⟩
            rw [hn.out] at cM9
            rw [hn.out] at hl'
            refine wp_region_ph (n := 47) (FaF W9 F Av nv cv pA n pc l' M) (Ph 9 12 43 46 (fun w' => Below W9.heap.size W9 w') (fun u w' => FaB w.heap.size W9 (.slice Av nv cv) (dsF qs j ++ [Pa.mk ⟨pA, pc, l'⟩ true]) u w') (fun u _ w' => FaD nm w.heap.size F W9 (.slice Av nv cv) (dsF qs j ++ [Pa.mk ⟨pA, pc, l'⟩ true]) u w')) (by kernel_rfl) (by kernel_rfl) rfl ?_ ?_ ?_
            · intro L hL
              exact Ph.start hL (Below.refl _ _).drew
            rotate_left
            · intro L b' w' hall hsz hd hs hc hf
              have hD := hc.end_ (hall 12 (by decide))
              refine hK _ _ (Met.intro (hJ _ _ ?_))
              exact ⟨b'.tmps.getD 34 undef, b'.tmps.getD 35 undef, b'.tmps.getD 36 undef, b'.tmps.getD 37 undef, b'.tmps.getD 38 undef, b'.tmps.getD 39 undef, b'.tmps.getD 40 undef, b'.tmps.getD 41 undef, b'.tmps.getD 42 undef, b'.tmps.getD 43 undef, b'.tmps.getD 44 undef, b'.tmps.getD 45 undef, ⟨_, hD⟩, (act_known hsz hd hs).trans (by kernel_rfl)⟩
            refine OpsPh.cons _ _ (OpPh.free (by decide) (by decide) rfl (by decide) fun b v hs hg => ⟨rfl, _, exec_move rfl (hs 0 (by kernel_rfl)), rfl⟩) ?_
            refine OpsPh.cons _ _ (OpPh.free (by decide) (by decide) rfl (by decide) fun b v hs hg => ⟨rfl, _, exec_move rfl (hs 0 (by kernel_rfl)), rfl⟩) ?_
            refine OpsPh.cons _ _ (OpPh.free (by decide) (by decide) rfl (by decide) fun b v hs hg => ⟨rfl, _, exec_nil rfl (dep hg 0 rfl rfl rfl rfl), rfl⟩) ?_
            refine OpsPh.cons _ _ (OpPh.free (by decide) (by decide) rfl (by decide) fun b v hs hg => ⟨rfl, _, exec_fieldE rfl (dep hg 0 rfl rfl rfl rfl), rfl⟩) ?_
            refine OpsPh.cons _ _ (OpPh.pre (by decide) (by decide) (fun L hcl hn => ⟨notyet hcl (ho := rfl) (he := (rfl : _[0]? = _)) rfl hn, notyet hcl (ho := rfl) (he := (rfl : _[7]? = _)) rfl hn⟩) FaF.below (fun _ _ hb h => Below.trans h (hb.mono h.size)) fun b v hs hc hg => ⟨rfl, _, _, exec_loadPs rfl (dep hg 0 rfl rfl rfl rfl) ((hc.cell (p := ⟨F, 0, none⟩) hFl9.out).trans cF9.out), .refl _ _, rfl⟩) ?_
            refine OpsPh.cons _ _ (OpPh.free (by decide) (by decide) rfl (by decide) fun b v hs hg => ⟨rfl, _, exec_fieldP0 rfl (hs 6 (by kernel_rfl)), rfl⟩) ?_
            refine OpsPh.cons _ _ (OpPh.pre (by decide) (by decide) (fun L hcl hn => ⟨notyet hcl (ho := rfl) (he := (rfl : _[1]? = _)) rfl (notyet hcl (ho := rfl) (he := (rfl : _[0]? = _)) rfl (notyet hcl (ho := rfl) (he := (rfl : _[0]? = _)) rfl hn)), notyet hcl (ho := rfl) (he := (rfl : _[9]? = _)) rfl hn⟩) FaF.below (fun _ _ hb h => Below.trans h (hb.mono h.size)) fun b v hs hc hg => ⟨rfl, _, _, exec_loadB rfl (dep hg 0 rfl rfl rfl rfl) ((hc.cell (p := ⟨M, 0, none⟩) hMl9.out).trans cM9.out), .refl _ _, rfl⟩) ?_
            refine OpsPh.cons _ _ (OpPh.free (by decide) (by decide) rfl (by decide) fun b v hs hg => ⟨rfl, _, exec_buildT hl'.out rfl (dep hg 0 rfl rfl rfl rfl), rfl⟩) ?_
            refine OpsPh.cons _ _ (OpPh.pre (by decide) (by decide) (fun L hcl hn => ⟨notyet hcl (ho := rfl) (he := (rfl : _[1]? = _)) rfl hn, notyet hcl (ho := rfl) (he := (rfl : _[11]? = _)) rfl hn⟩) FaF.below (fun _ _ hb h => Below.trans h (hb.mono h.size)) fun b v hs hc hg => ⟨rfl, _, _, exec_listP (p := ⟨⟨pA, pc, l'⟩, true⟩) rfl (dep hg 0 rfl rfl rfl rfl), below_new _ _, v.heap.size, rfl, hc.size, heap_alloc_new _ _⟩) ?_
            refine OpsPh.cons _ _ (OpPh.mid (by decide) (fun L hcl hn => notyet hcl (ho := rfl) (he := (rfl : _[1]? = _)) rfl hn) fun b v hs hsz hc hg => ⟨rfl, ?_⟩) ?_
            · obtain ⟨m, e8, hm8, hh8⟩ : FaF W9 F Av nv cv pA n pc l' M 8 (b.tmps.getD 42 undef) v := (dep hg 1 rfl rfl rfl rfl)
              have e4 : b.tmps.getD 38 undef = .slice Av nv cv := (dep hg 0 rfl rfl rfl rfl)
              have hrd : Reads v v.heap.size 2 (some ⟨m, 0, none⟩) 1 (pcells [Pa.mk ⟨pA, pc, l'⟩ true]) := by
                refine ⟨pcells_len _, fun _ => ⟨_, rfl, (Array.getElem?_eq_some_iff.1 hh8).1, fun j u hu => ?_⟩⟩
                rw [lit_add, Nat.zero_add, cell_of_row v m j _ _ _ hh8]
                simpa using hu
              have hO : v.ownsRow w.heap.size 180 2 (.slice Av nv cv) (dsF qs j).length (pcells (dsF qs j)) := own_below hown9.out hc (Nat.le_refl _)
              obtain ⟨v', w', hrun, h1, h2, h3⟩ := run_append_any v w.heap.size 125 125 180 _ _ 2 32 Tryz.underlying125 (info_parts ptSl1.2).choose_spec.1 (info_parts ptSl1.2).choose_spec.2.1 (info_parts ptSl1.2).choose_spec.2.2.1 (info_parts ptSl1.2).choose_spec.2.2.2 rfl (by omega) _ _ _ hO v.heap.size (some ⟨m, 0, none⟩) 1 1 _ hrd (pcells_one _) (by have := hdl.out; simp only [maxLen]; omega) (by have := hdl.out; omega) (Nat.le_trans hw9.out hc.size)
              unfold Oper.wp execOp
              simp only [resolve, invoke, builtin, Sem.run_bind, Sem.run_pure, Result.andThen_ok, List.map_toArray, List.map_cons, List.map_nil]
              have e4' : b.eval (.tmp 38) = .slice Av nv cv := e4
              have e8' : b.eval (.tmp 42) = .slice (some ⟨m, 0, none⟩) 1 1 := e8
              simp only [e4', e8', hrun]
              have hKp := Kept.of h2 h3
              have hvlt : ∀ b, (Value.slice Av nv cv).ownBlock = some b → b < W9.heap.size := fun b hb => (hown9.out.lt b hb).2
              refine ⟨v', rfl, ?_, fun _ => trivial, fun i u hi hf => FaF.keep i u v w' (fun m' o hm' ho => ?_) hf⟩
              · have e9 : (b.put (some 43) v').tmps.getD 43 undef = v' := eval_put_eq hsz (by decide)
                show FaB w.heap.size W9 (.slice Av nv cv) (dsF qs j ++ [Pa.mk ⟨pA, pc, l'⟩ true]) ((b.put (some 43) v').tmps.getD 43 undef) w'
                rw [e9]
                refine ⟨(Touch.of hc).trans (Touch.grown h2 fun k hk => hk), ?_, fun x hx hne => (hKp x (Nat.lt_of_lt_of_le hx hc.size) hne).1⟩
                rw [pcells_append, List.length_append]
                exact h1
              · rw [(hKp m' (Array.getElem?_eq_some_iff.1 ho).1 (fun e => by have := hvlt m' e; omega)).2]
                exact ho
            refine OpsPh.cons _ _ (OpPh.free (by decide) (by decide) rfl (by decide) fun b v hs hg => ⟨rfl, _, exec_nil rfl (dep hg 0 rfl rfl rfl rfl), rfl⟩) ?_
            refine OpsPh.cons _ _ (OpPh.free (by decide) (by decide) rfl (by decide) fun b v hs hg => ⟨rfl, _, exec_fieldE rfl (dep hg 0 rfl rfl rfl rfl), rfl⟩) ?_
            refine OpsPh.cons _ _ (OpPh.last (k := 1) rfl rfl rfl fun b v hs hsz hc hg => ⟨rfl, ?_⟩) (OpsPh.nil _ _)
            obtain ⟨A9, c9, e9, _, _, _⟩ := own_form hc.own
            have e11 : b.eval (.tmp 45) = .pointer (some ⟨F, 0, none⟩) := (dep hg 0 rfl rfl rfl rfl)
            have e9' : b.eval (.tmp 43) = .slice A9 (dsF qs j ++ [Pa.mk ⟨pA, pc, l'⟩ true]).length c9 := e9
            have hvF : ¬ (Value.slice Av nv cv).ownBlock = some F := fun e => by have := (hown9.out.lt F e).1; have := hFl.out; omega
            have hF' := hc.touch.heap hvF fF9.out
            refine wp_storeP (.tmp 45) (.tmp 43) rfl e11 e9' hF' ?_
            refine ⟨undef, rfl, ?_, fun h => by simp at h, fun i u hi hf => FaF.keep i u v _ (fun m' o hm' ho => ?_) hf⟩
            · show FaD nm w.heap.size F W9 (.slice Av nv cv) (dsF qs j ++ [Pa.mk ⟨pA, pc, l'⟩ true]) (b.tmps.getD 43 undef) _
              rw [e9]
              rw [e9] at hc
              have ht := Touch.cell1 v F 0 (.slice A9 (dsF qs j ++ [Pa.mk ⟨pA, pc, l'⟩ true]).length c9)
              refine ⟨bx_set _ hF', (hc.touch.mono fun _ _ h => Or.inl h).trans (ht.mono fun _ _ h => Or.inr h), own_touch hc.own ht (fun x hx e => by rw [e] at hx; have := (hc.own.lt F hx).1; have := hFl.out; omega), hc.apart⟩
            · rw [heap_setCell_other _ _ _ _ (by show m' ≠ F; have := hFl9.out; omega)]
              exact ho

          obtain ⟨u, hD⟩ := hcut
          have HD := Lib.hid hD
          clear hD
          go_wp2
          go_roundw
          case rel => exact ⟨j + 1, u, by omega, by go_num, FaSt.next hst.out hx hb1.out ht9.out hroom9.out hlist9.out HD.out (by rw [← hpA.out]; exact hl'p.out) hFl.out⟩
          case measure => simp [intOf]; omega
      | false =>
          obtain ⟨W9, hW9e⟩ : ∃ W9, Hid (W1.setCells g2 off (List.replicate n1 (.int .u8 0)) = W9) := ⟨_, rfl⟩
          have ht9 : Hid (Touch (fun b => b = g2) W1 W9) := by rw [← hW9e.out]; exact Touch.cells _ _ _ _
          have hheap1 := (hb1.out.block g2 (Array.getElem?_eq_some_iff.1 (hst.out.heap hx)).1).trans (hst.out.heap hx)
          have hh9 : Hid (W9.heap[g2]? = some (.cells (bs (contM (says (dsF qs j)) ++ (l' ++ contM (says (qs.drop (j + 1)))))).toArray 5 (0, 0))) := by
            rw [← hW9e.out, noughts_bs, bs_append, bs_append, ← hl'e.out]
            show _ = some (Obj.cells (bs (contM (says (dsF qs j))) ++ (bs (noughts pl.length) ++ bs (contM (says (qs.drop (j + 1)))))).toArray _ (0, 0))
            rw [hn1e.out]
            refine setCells_heap _ _ _ _ _ ((bs_len _).trans hoff.out) ⟨bs pl, by rw [bs_len, bs_len, noughts_len]; exact hn1e.out, ?_⟩
            rw [← bs_append, ← bs_append]
            exact hheap1
          have hcl := run_clear_bytes (c := pc) hheap1 hoff.out hn1e.out hn0
          go_upto_region 9 with fail
          rw [hW9e.out]
          obtain ⟨pA, hpA⟩ : ∃ pA, Hid ((some ⟨g2, off, none⟩ : Option Addr) = pA) := ⟨_, rfl⟩
          obtain ⟨hroom9, hlist9, hown9⟩ := hst.out.mid hx hb1.out ht9.out (by rw [hl'e.out]; exact hh9.out)
          have hroom9 := Lib.hid hroom9
          have hlist9 := Lib.hid hlist9
          have hown9 := Lib.hid hown9
          have hgM : Hid (M ≠ g2) := by rw [← hM.out]; intro e; have := (Array.getElem?_eq_some_iff.1 (hst.out.heap hx)).1; omega
          have cM9 : Hid (W9.cell? ⟨M, 0, none⟩ = some (.slice pA n1 pc)) := by
            show _ = _
            rw [cell_of_row W9 M 0 _ _ _ (ht9.out.heap hgM.out fM.out), ← hpA.out]; rfl
          have hMl9 : Hid (M < W9.heap.size) := (Array.getElem?_eq_some_iff.1 (ht9.out.heap hgM.out fM.out)).1
          have hFg : Hid (F ≠ g2) := by show F ≠ g2; have := hFl.out; have := hst.out.le; omega
          have fF9 : Hid (W9.heap[F]? = some (.cells #[.slice Av nv cv, nm] 129 (0, 0))) := ht9.out.heap hFg.out ((hb1.out.block F (Array.getElem?_eq_some_iff.1 hst.out.f).1).trans hst.out.f)
          have hFl9 : Hid (F < W9.heap.size) := (Array.getElem?_eq_some_iff.1 fF9.out).1
          have cF9 := Lib.hid (bx_cell fF9.out)
          have hw9 : Hid (w.heap.size ≤ W9.heap.size) := Nat.le_trans hst.out.touch.size (Nat.le_trans hb1.out.size ht9.out.size)
          refine wp_last ?_
          go_cut [] from 34 to 45 (fun wx => ∃ u, FaD nm w.heap.size F W9 (.slice Av nv cv) (dsF qs j ++ [Pa.mk ⟨pA, pc, l'⟩ true]) u wx)
          case first =>
            rename_i J K1 hJ hK
            obtain ⟨n, hn⟩ : ∃ n, Hid (n1 = n) := ⟨_, rfl⟩
            rw [hn.out] at cM9
            rw [hn.out] at hl'
            refine wp_region_ph (n := 47) (FaF W9 F Av nv cv pA n pc l' M) (Ph 9 12 43 46 (fun w' => Below W9.heap.size W9 w') (fun u w' => FaB w.heap.size W9 (.slice Av nv cv) (dsF qs j ++ [Pa.mk ⟨pA, pc, l'⟩ true]) u w') (fun u _ w' => FaD nm w.heap.size F W9 (.slice Av nv cv) (dsF qs j ++ [Pa.mk ⟨pA, pc, l'⟩ true]) u w')) (by kernel_rfl) (by kernel_rfl) rfl ?_ ?_ ?_
            · intro L hL
              exact Ph.start hL (Below.refl _ _).drew
            rotate_left
            · intro L b' w' hall hsz hd hs hc hf
              have hD := hc.end_ (hall 12 (by decide))
              refine hK _ _ (Met.intro (hJ _ _ ?_))
              exact ⟨b'.tmps.getD 34 undef, b'.tmps.getD 35 undef, b'.tmps.getD 36 undef, b'.tmps.getD 37 undef, b'.tmps.getD 38 undef, b'.tmps.getD 39 undef, b'.tmps.getD 40 undef, b'.tmps.getD 41 undef, b'.tmps.getD 42 undef, b'.tmps.getD 43 undef, b'.tmps.getD 44 undef, b'.tmps.getD 45 undef, ⟨_, hD⟩, (act_known hsz hd hs).trans (by kernel_rfl)⟩
            refine OpsPh.cons _ _ (OpPh.free (by decide) (by decide) rfl (by decide) fun b v hs hg => ⟨rfl, _, exec_move rfl (hs 0 (by kernel_rfl)), rfl⟩) ?_
            refine OpsPh.cons _ _ (OpPh.free (by decide) (by decide) rfl (by decide) fun b v hs hg => ⟨rfl, _, exec_move rfl (hs 0 (by kernel_rfl)), rfl⟩) ?_
            refine OpsPh.cons _ _ (OpPh.free (by decide) (by decide) rfl (by decide) fun b v hs hg => ⟨rfl, _, exec_nil rfl (dep hg 0 rfl rfl rfl rfl), rfl⟩) ?_
            refine OpsPh.cons _ _ (OpPh.free (by decide) (by decide) rfl (by decide) fun b v hs hg => ⟨rfl, _, exec_fieldE rfl (dep hg 0 rfl rfl rfl rfl), rfl⟩) ?_
            refine OpsPh.cons _ _ (OpPh.pre (by decide) (by decide) (fun L hcl hn => ⟨notyet hcl (ho := rfl) (he := (rfl : _[0]? = _)) rfl hn, notyet hcl (ho := rfl) (he := (rfl : _[7]? = _)) rfl hn⟩) FaF.below (fun _ _ hb h => Below.trans h (hb.mono h.size)) fun b v hs hc hg => ⟨rfl, _, _, exec_loadPs rfl (dep hg 0 rfl rfl rfl rfl) ((hc.cell (p := ⟨F, 0, none⟩) hFl9.out).trans cF9.out), .refl _ _, rfl⟩) ?_
            refine OpsPh.cons _ _ (OpPh.free (by decide) (by decide) rfl (by decide) fun b v hs hg => ⟨rfl, _, exec_fieldP0 rfl (hs 6 (by kernel_rfl)), rfl⟩) ?_
            refine OpsPh.cons _ _ (OpPh.pre (by decide) (by decide) (fun L hcl hn => ⟨notyet hcl (ho := rfl) (he := (rfl : _[1]? = _)) rfl (notyet hcl (ho := rfl) (he := (rfl : _[0]? = _)) rfl (notyet hcl (ho := rfl) (he := (rfl : _[0]? = _)) rfl hn)), notyet hcl (ho := rfl) (he := (rfl : _[9]? = _)) rfl hn⟩) FaF.below (fun _ _ hb h => Below.trans h (hb.mono h.size)) fun b v hs hc hg => ⟨rfl, _, _, exec_loadB rfl (dep hg 0 rfl rfl rfl rfl) ((hc.cell (p := ⟨M, 0, none⟩) hMl9.out).trans cM9.out), .refl _ _, rfl⟩) ?_
            refine OpsPh.cons _ _ (OpPh.free (by decide) (by decide) rfl (by decide) fun b v hs hg => ⟨rfl, _, exec_buildT hl'.out rfl (dep hg 0 rfl rfl rfl rfl), rfl⟩) ?_
            refine OpsPh.cons _ _ (OpPh.pre (by decide) (by decide) (fun L hcl hn => ⟨notyet hcl (ho := rfl) (he := (rfl : _[1]? = _)) rfl hn, notyet hcl (ho := rfl) (he := (rfl : _[11]? = _)) rfl hn⟩) FaF.below (fun _ _ hb h => Below.trans h (hb.mono h.size)) fun b v hs hc hg => ⟨rfl, _, _, exec_listP (p := ⟨⟨pA, pc, l'⟩, true⟩) rfl (dep hg 0 rfl rfl rfl rfl), below_new _ _, v.heap.size, rfl, hc.size, heap_alloc_new _ _⟩) ?_
            refine OpsPh.cons _ _ (OpPh.mid (by decide) (fun L hcl hn => notyet hcl (ho := rfl) (he := (rfl : _[1]? = _)) rfl hn) fun b v hs hsz hc hg => ⟨rfl, ?_⟩) ?_
            · obtain ⟨m, e8, hm8, hh8⟩ : FaF W9 F Av nv cv pA n pc l' M 8 (b.tmps.getD 42 undef) v := (dep hg 1 rfl rfl rfl rfl)
              have e4 : b.tmps.getD 38 undef = .slice Av nv cv := (dep hg 0 rfl rfl rfl rfl)
              have hrd : Reads v v.heap.size 2 (some ⟨m, 0, none⟩) 1 (pcells [Pa.mk ⟨pA, pc, l'⟩ true]) := by
                refine ⟨pcells_len _, fun _ => ⟨_, rfl, (Array.getElem?_eq_some_iff.1 hh8).1, fun j u hu => ?_⟩⟩
                rw [lit_add, Nat.zero_add, cell_of_row v m j _ _ _ hh8]
                simpa using hu
              have hO : v.ownsRow w.heap.size 180 2 (.slice Av nv cv) (dsF qs j).length (pcells (dsF qs j)) := own_below hown9.out hc (Nat.le_refl _)
              obtain ⟨v', w', hrun, h1, h2, h3⟩ := run_append_any v w.heap.size 125 125 180 _ _ 2 32 Tryz.underlying125 (info_parts ptSl1.2).choose_spec.1 (info_parts ptSl1.2).choose_spec.2.1 (info_parts ptSl1.2).choose_spec.2.2.1 (info_parts ptSl1.2).choose_spec.2.2.2 rfl (by omega) _ _ _ hO v.heap.size (some ⟨m, 0, none⟩) 1 1 _ hrd (pcells_one _) (by have := hdl.out; simp only [maxLen]; omega) (by have := hdl.out; omega) (Nat.le_trans hw9.out hc.size)
              unfold Oper.wp execOp
              simp only [resolve, invoke, builtin, Sem.run_bind, Sem.run_pure, Result.andThen_ok, List.map_toArray, List.map_cons, List.map_nil]
              have e4' : b.eval (.tmp 38) = .slice Av nv cv := e4
              have e8' : b.eval (.tmp 42) = .slice (some ⟨m, 0, none⟩) 1 1 := e8
              simp only [e4', e8', hrun]
              have hKp := Kept.of h2 h3
              have hvlt : ∀ b, (Value.slice Av nv cv).ownBlock = some b → b < W9.heap.size := fun b hb => (hown9.out.lt b hb).2
              refine ⟨v', rfl, ?_, fun _ => trivial, fun i u hi hf => FaF.keep i u v w' (fun m' o hm' ho => ?_) hf⟩
              · have e9 : (b.put (some 43) v').tmps.getD 43 undef = v' := eval_put_eq hsz (by decide)
                show FaB w.heap.size W9 (.slice Av nv cv) (dsF qs j ++ [Pa.mk ⟨pA, pc, l'⟩ true]) ((b.put (some 43) v').tmps.getD 43 undef) w'
                rw [e9]
                refine ⟨(Touch.of hc).trans (Touch.grown h2 fun k hk => hk), ?_, fun x hx hne => (hKp x (Nat.lt_of_lt_of_le hx hc.size) hne).1⟩
                rw [pcells_append, List.length_append]
                exact h1
              · rw [(hKp m' (Array.getElem?_eq_some_iff.1 ho).1 (fun e => by have := hvlt m' e; omega)).2]
                exact ho
            refine OpsPh.cons _ _ (OpPh.free (by decide) (by decide) rfl (by decide) fun b v hs hg => ⟨rfl, _, exec_nil rfl (dep hg 0 rfl rfl rfl rfl), rfl⟩) ?_
            refine OpsPh.cons _ _ (OpPh.free (by decide) (by decide) rfl (by decide) fun b v hs hg => ⟨rfl, _, exec_fieldE rfl (dep hg 0 rfl rfl rfl rfl), rfl⟩) ?_
            refine OpsPh.cons _ _ (OpPh.last (k := 1) rfl rfl rfl fun b v hs hsz hc hg => ⟨rfl, ?_⟩) (OpsPh.nil _ _)
            obtain ⟨A9, c9, e9, _, _, _⟩ := own_form hc.own
            have e11 : b.eval (.tmp 45) = .pointer (some ⟨F, 0, none⟩) := (dep hg 0 rfl rfl rfl rfl)
            have e9' : b.eval (.tmp 43) = .slice A9 (dsF qs j ++ [Pa.mk ⟨pA, pc, l'⟩ true]).length c9 := e9
            have hvF : ¬ (Value.slice Av nv cv).ownBlock = some F := fun e => by have := (hown9.out.lt F e).1; have := hFl.out; omega
            have hF' := hc.touch.heap hvF fF9.out
            refine wp_storeP (.tmp 45) (.tmp 43) rfl e11 e9' hF' ?_
            refine ⟨undef, rfl, ?_, fun h => by simp at h, fun i u hi hf => FaF.keep i u v _ (fun m' o hm' ho => ?_) hf⟩
            · show FaD nm w.heap.size F W9 (.slice Av nv cv) (dsF qs j ++ [Pa.mk ⟨pA, pc, l'⟩ true]) (b.tmps.getD 43 undef) _
              rw [e9]
              rw [e9] at hc
              have ht := Touch.cell1 v F 0 (.slice A9 (dsF qs j ++ [Pa.mk ⟨pA, pc, l'⟩ true]).length c9)
              refine ⟨bx_set _ hF', (hc.touch.mono fun _ _ h => Or.inl h).trans (ht.mono fun _ _ h => Or.inr h), own_touch hc.own ht (fun x hx e => by rw [e] at hx; have := (hc.own.lt F hx).1; have := hFl.out; omega), hc.apart⟩
            · rw [heap_setCell_other _ _ _ _ (by show m' ≠ F; have := hFl9.out; omega)]
              exact ho

          obtain ⟨u, hD⟩ := hcut
          have HD := Lib.hid hD
          clear hD
          go_wp2
          go_roundw
          case rel => exact ⟨j + 1, u, by omega, by go_num, FaSt.next hst.out hx hb1.out ht9.out hroom9.out hlist9.out HD.out (by rw [← hpA.out]; exact hl'p.out) hFl.out⟩
          case measure => simp [intOf]; omega
    · obtain rfl : j = e := by omega
      go_wp2
      go_end0
      obtain ⟨Av, cv, rfl, hcv, _, _⟩ := own_form hst.out.own
      refine ⟨rfl, hst.out.touch, _, hst.out.f, Av, cv, dsF qs j, rfl, hcv, ⟨own_avoid hst.out.own (fun b hb => hb), fun q hq => ?_⟩, ?_⟩
      · obtain ⟨k, hk⟩ := List.getElem?_of_mem hq
        have hkl := (List.getElem?_eq_some_iff.1 hk).1
        exact hst.out.room.row (k := k) (by unfold esF; rw [List.getElem?_append_left hkl]; exact hk) (fun hx => by have := hst.out.le; have h2 : g2 < w.heap.size := hx; omega)
      · rw [says_dsF, ← he.out]
        unfold failM failH
        rw [Hsay3.out, Hsay.out]
end Go.Proofs.YtbhmnmmockmibaaGreat
