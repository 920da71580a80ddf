/- One round of the second loop of InodeKeeps. Conditions: none. -/
import Derived.Test.YtlehkgogcbdckaaInZ
import Derived.Test.YtlehkgogcbdckaaExKit
namespace Go.Proofs.Ytlehkgogcbdckaa
open Go.RowKit Go.Maps

theorem mkS_found {fs : List Fi} {k j : Nat} {f : Fi} (hs : fs.Pairwise fun a b => a.i < b.i) (hf : fs[j]? = some f) : ∃ x, findF (mkS fs k) f.i = some x ∧ contM x.m = contM f.m := by
  have hg := mkS_get (k := k) hf
  obtain ⟨y, hy⟩ : ∃ y, (if j < k ∧ j % 2 = 0 then syF f else f) = y := ⟨_, rfl⟩
  rw [hy] at hg
  have hyi : y.i = f.i := by rw [← hy]; split <;> rfl
  have hyc : contM y.m = contM f.m := by rw [← hy]; split; exact syF_cont f; rfl
  have := findF_at (mkS_sort k hs) hg
  rw [hyi] at this
  exact ⟨y, this, hyc⟩
theorem sameBytes_n {A A' : Option Addr} {c c' B B' n m : Nat} {l l' : List UInt8} {w : World} (hn : l.length = n) (hm' : l'.length = m) (hl : n ≤ 140737488351232) (hr : RdB w B A l) (hm : RdB w B' A' l') :
    Calls Try.prog 20 #[.slice A n c, .slice A' m c'] w fun e w' => e = .returned (.bool (decide (l = l'))) ∧ Below w.heap.size w w' := by
  subst hn hm'
  refine (sameBytes_any A A' c c' B B' l l' w hl hr hm).mono ?_
  rintro e w' ⟨rfl, n, rfl⟩
  exact ⟨rfl, below_drewN (.refl _ _) n⟩
/-- What the caller has of its own. -/
def Yo (va sv : Value) (rows : List Row) : Nat → Prop := fun b => va.ownBlock = some b ∨ sv.ownBlock = some b ∨ Zf rows b
/-- Amid the second loop: k files told. -/
structure L2 (w0 w2 : World) (t : Nat) (q : Int) (made N : Nat) (fs S : List Fi) (va : Value) (k : Nat) (rows : List Row) (sv : Value) (wr : World) : Prop where
  ws : WS w0 (Yo va sv rows) t q made S N wr
  all : wr.ownsRow w0.heap.size 45 2 va fs.length (ecells (oneE fs k))
  own : Owns w2.heap.size wr sv rows
  len : rows.length = k
  say : rows.map Row.l = (fs.take k).map fun f => contM f.m
  alt : ∀ b, va.ownBlock = some b → b < w2.heap.size
  rlow : ∀ b, Zf rows b → w2.heap.size ≤ b
  size : w0.heap.size ≤ w2.heap.size ∧ w2.heap.size ≤ wr.heap.size
section
variable {w0 w2 wr w' w4 w5 w6 : World} {t : Nat} {q : Int} {made N k : Nat} {fs S S' : List Fi} {va sv v6 : Value} {rows : List Row}
theorem L2.touch (h : L2 w0 w2 t q made N fs S va k rows sv wr) (ht : Touch (Fr w0 (Yo va sv rows)) wr w') (hws : WS w0 (Yo va sv rows) t q made S' N w') : L2 w0 w2 t q made N fs S' va k rows sv w' :=
  ⟨hws, own_touch h.all ht fun _ hb e => e.2 (.inl hb), h.own.touch ht (fun _ hb e => e.2 (.inr (.inl hb))) (fun _ hb e => e.2 (.inr (.inr hb))), h.len, h.say, h.alt, h.rlow, h.size.1, Nat.le_trans h.size.2 ht.size⟩
theorem L2.below (h : L2 w0 w2 t q made N fs S va k rows sv wr) (hb : Below wr.heap.size wr w') : L2 w0 w2 t q made N fs S va k rows sv w' := h.touch (h.ws.quiet hb).2 (h.ws.quiet hb).1
theorem L2.row {j : Nat} {f : Fi} (h : L2 w0 w2 t q made N fs S va k rows sv wr) (hj : j < k) (hf : fs[j]? = some f) : ∃ r, rows[j]? = some r ∧ r.l = contM f.m := by
  have hr : rows[j]? = some (rows[j]'(by rw [h.len]; exact hj)) := List.getElem?_eq_getElem _
  refine ⟨_, hr, ?_⟩
  have h1 := congrArg (fun l => l[j]?) h.say
  simp only [List.getElem?_map, hr, List.getElem?_take, if_pos hj, hf, Option.map_some] at h1
  injection h1
theorem L2.low (h : L2 w0 w2 t q made N fs S va k rows sv wr) (b : Nat) (hb : Yo va sv rows b) : w0.heap.size ≤ b := by
  rcases hb with hb | hb | hb
  · exact (h.all.lt b hb).1
  · exact Nat.le_trans h.size.1 (h.own.head.lt b hb).1
  · exact Nat.le_trans h.size.1 (h.rlow b hb)
/-- Behind the append. -/
theorem L2.push (h : L2 w0 w2 t q made N fs S va k rows sv w4) {f : Fi} {A : Option Addr} {n c : Nat} {l : List UInt8} (hf : fs[k]? = some f) (hl : contM f.m = l) (hb5 : Below w4.heap.size w4 w5) (hrow : w5.ownsRow w4.heap.size 5 1 (.slice A n c) n (bs l))
    (hO6 : Owns w2.heap.size w6 v6 (rows ++ [Row.mk A c l])) (hg6 : w5.grownBy w6 sv.ownBlock) (hk6 : v6.ownBlock = sv.ownBlock ∨ v6.ownBlock = some (w5.heap.size + 1)) :
    WS w0 (Yo va v6 (rows ++ [Row.mk A c l])) t q made S N w6 ∧ w6.ownsRow w0.heap.size 45 2 va fs.length (ecells (oneE fs k)) ∧ (rows ++ [Row.mk A c l]).length = k + 1 ∧ (rows ++ [Row.mk A c l]).map Row.l = (fs.take (k + 1)).map (fun f => contM f.m) ∧ (∀ b, Zf (rows ++ [Row.mk A c l]) b → w2.heap.size ≤ b) ∧ w2.heap.size ≤ w6.heap.size := by
  have hz : ∀ b, Zf (rows ++ [Row.mk A c l]) b → Zf rows b ∨ (w4.heap.size ≤ b ∧ b < w5.heap.size) := by
    rintro b ⟨r, hr, ad, e, rfl⟩
    rw [List.mem_append, List.mem_singleton] at hr
    rcases hr with hr | rfl
    · exact .inl ⟨r, hr, ad, e, rfl⟩
    · refine .inr (hrow.lt ad.block ?_)
      have e : A = some ad := e
      rw [e]
      rfl
  have ws5 : WS w0 (fun b => Yo va sv rows b ∨ (w4.heap.size ≤ b ∧ b < w5.heap.size)) t q made S N w5 := h.ws.more hb5 fun b hb => hb
  have htg : Touch (fun b => sv.ownBlock = some b) w5 w6 := Touch.grown hg6 fun k e => e
  have h6 := h.size.2
  have h7 := hb5.size
  have hsz := hg6.size
  refine ⟨ws5.both (htg.mono fun b _ hb => .inl (.inr (.inl hb))) (fun b hb => ?_) fun b hb => ?_, own_touch (own_below h.all hb5 (Nat.le_refl _)) htg fun b hb e => ?_, ?_, ?_, fun b hb => ?_, by omega⟩
  · rcases hb with hb | hb
    · exact h.low b hb
    · have := h.size.1; omega
  · rcases hb with hb | hb | hb
    · exact .inl (.inl (.inl hb))
    · rcases hk6 with hk | hk
      · rw [hk] at hb; exact .inl (.inl (.inr (.inl hb)))
      · have := (hO6.head.lt b hb).2
        rw [hk] at hb
        injection hb with hb
        exact .inr ⟨by omega, this⟩
    · rcases hz b hb with hb | hb
      · exact .inl (.inl (.inr (.inr hb)))
      · exact .inl (.inr hb)
  · have h1 := h.alt b hb
    have h2 := (h.own.head.lt b e).1
    omega
  · rw [List.length_append, h.len]; rfl
  · rw [List.map_append, h.say, List.take_add_one, hf]
    simp [hl]
  · rcases hz b hb with hb | hb
    · exact h.rlow b hb
    · omega
/-- Behind the store. -/
theorem L2.store {ga m ca : Nat} {f : Fi} (hf : fs[k]? = some f) (hva : va = .slice (some ⟨ga, 0, none⟩) m ca) (hws : WS w0 (Yo va sv rows) t q made S N wr) (hall : wr.ownsRow w0.heap.size 45 2 va fs.length (ecells (oneE fs k))) (hown : Owns w2.heap.size wr sv rows) (hlen : rows.length = k + 1)
    (hsay : rows.map Row.l = (fs.take (k + 1)).map fun f => contM f.m) (halt : ∀ b, va.ownBlock = some b → b < w2.heap.size) (hrl : ∀ b, Zf rows b → w2.heap.size ≤ b) (hsz : w0.heap.size ≤ w2.heap.size ∧ w2.heap.size ≤ wr.heap.size) :
    L2 w0 w2 t q made N fs S va (k + 1) rows sv (wr.setCell ⟨ga, k * 2 + 1, none⟩ (.int .i64 1)) := by
  have hk := (List.getElem?_eq_some_iff.1 hf).1
  have hga : va.ownBlock = some ga := by rw [hva]; rfl
  have hg1 := halt ga hga
  have ht := Touch.cell1 wr ga (k * 2 + 1) (.int .i64 1)
  subst hva
  have hm : fs.length = m := by
    obtain ⟨A', c', e, _⟩ := own_form hall
    injection e with _ e2 _
    exact e2.symm
  subst hm
  obtain ⟨h1, _⟩ := hall.stored (k * 2 + 1) (.int .i64 1)
  rw [oneE_set hf] at h1
  refine ⟨hws.write (ht.mono fun b _ e => .inl (by rw [e]; exact hga)) fun b hb => ?_, h1, hown.touch ht (fun b hb e => ?_) (fun b hb e => ?_), hlen, hsay, halt, hrl, hsz.1, Nat.le_trans hsz.2 ht.size⟩
  · rcases hb with hb | hb | hb
    · exact (hall.lt b hb).1
    · exact Nat.le_trans hsz.1 (hown.head.lt b hb).1
    · exact Nat.le_trans hsz.1 (hrl b hb)
  · have := (hown.head.lt b hb).1; omega
  · have := hrl b hb; omega
end
end Go.Proofs.Ytlehkgogcbdckaa
