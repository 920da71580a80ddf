/- The walk of the statements' own names. Conditions: at most 1000 numbers. -/
import Derived.Test.YtlehkgogcbdckaaInU
namespace Go.Proofs.Ytlehkgogcbdckaa
open Go.RowKit Go.Maps

def pairs : List Int → List En
  | x :: y :: l => (x, y) :: pairs l
  | _ => []
theorem pairs_get : ∀ {l : List Int} {k : Nat}, 2 * k + 1 < l.length → ∃ x y, l[2 * k]? = some x ∧ l[2 * k + 1]? = some y ∧ (pairs l)[k]? = some (x, y)
  | [], k, h => by simp at h
  | [x], k, h => by simp at h
  | x :: y :: l, 0, _ => ⟨x, y, rfl, rfl, rfl⟩
  | x :: y :: l, k + 1, h => by
    obtain ⟨a, b, h1, h2, h3⟩ := pairs_get (l := l) (k := k) (by simp at h; omega)
    refine ⟨a, b, ?_, ?_, ?_⟩
    · rw [show 2 * (k + 1) = 2 * k + 1 + 1 by omega, List.getElem?_cons_succ, List.getElem?_cons_succ]; exact h1
    · rw [show 2 * (k + 1) + 1 = 2 * k + 1 + 1 + 1 by omega, List.getElem?_cons_succ, List.getElem?_cons_succ]; exact h2
    · show (pairs l)[k]? = _
      exact h3
theorem pairs_len : ∀ l : List Int, (pairs l).length = l.length / 2
  | [] => rfl
  | [x] => by simp [pairs]
  | x :: y :: l => by
    have := pairs_len l
    show (pairs l).length + 1 = (l.length + 1 + 1) / 2
    omega
theorem pairs_fit : ∀ {l : List Int}, (∀ z ∈ l, -9223372036854775808 ≤ z ∧ z ≤ 9223372036854775807) → FitE (pairs l)
  | [], _ => fun x hx => by cases hx
  | [x], _ => fun x hx => by cases hx
  | x :: y :: l, h => by
    intro e he
    have he : e ∈ (x, y) :: pairs l := he
    rw [List.mem_cons] at he
    rcases he with rfl | he
    · exact ⟨h x (by simp), h y (by simp)⟩
    · exact pairs_fit (fun z hz => h z (by simp [hz])) e he
section
variable {ops : Array Oper} {o : Oper} {a : Act} {K : Act → World → Prop} {Q : Exit → Act → World → Prop} {w : World} {base : Nat} {v : Value} {E : Prop}
theorem step_push_en {t e : TypeId} (ht : EnSl t e) {N : Nat} (s x : Operand) {own : List En} (f : En) (hown : OwnEn e base w v own) (hbase : base ≤ w.heap.size) (hl : own.length ≤ 1099511627776)
    (hgd : o.guard = none) (ho : o.op = .call { callee := .builtin .append, args := #[s, x], argTypes := #[t, t] })
    (hs : a.eval s = v) (hx : a.eval x = .slice (some ⟨N, 0, none⟩) 1 1) (hN : w.heap.size = N)
    (h : ∀ v' w', OwnEn e base w' v' (own ++ [f]) → w.grownBy w' v.ownBlock → (v'.ownBlock = v.ownBlock ∨ v'.ownBlock = some (w.heap.size + 1)) → Below base w w' → K (a.put o.dst v') w') :
    if Region.wanted o (yielded ops a.tmps) = true then Oper.wp Try.prog o a (w.alloc (.cells #[.int .i64 f.1, .int .i64 f.2] e)) K Q else E := by
  subst hN
  have hw : Region.wanted o (yielded ops a.tmps) = true := by simp [Region.wanted, hgd]
  rw [if_pos hw]
  obtain ⟨hu, hi⟩ := ht
  obtain ⟨i0, hi0, hz0, hz1, hz2⟩ := info_parts hi
  have hnew : Reads (w.alloc (.cells (ecells [f]).toArray e)) (w.heap.size + 1) 2 (some ⟨w.heap.size, 0, none⟩) 1 (ecells [f]) := by
    refine ⟨ecells_len [f], fun _ => ⟨_, rfl, by simp, fun j u hu => ?_⟩⟩
    rw [lit_add, Nat.zero_add, cell_of_row (w.alloc (.cells (ecells [f]).toArray e)) w.heap.size j (ecells [f]).toArray e (0, 0) (heap_alloc_new w _)]
    simpa using hu
  refine wp_append_any (w.alloc (.cells (ecells [f]).toArray e)) s x t ho base e i0 _ 2 16 hu hi0 hz0 hz1 hz2 rfl (by omega) v _ _ hs (hown.alloc (.cells (ecells [f]).toArray e)) (w.heap.size + 1) _ 1 1 (ecells [f]) hx hnew (ecells_one _) (by simp only [maxLen]; omega) (by omega) (by simp; omega) ?_
  intro v1 w1 h1 h2 h3
  have hb := ((Below.refl base w).alloc hbase _).trans (grown_below (hown.alloc (.cells (ecells [f]).toArray e)) h2 (by simp; omega))
  refine h v1 w1 ?_ ⟨h2.os, h2.tape, h2.output, Nat.le_trans (by simp) h2.size, fun k hk hne => (h2.block k (by simp; omega) hne).trans (heap_alloc_old w _ hk)⟩ (by simpa using h3) hb
  unfold OwnEn
  rw [ecells_append, List.length_append]
  exact h1
end
theorem padd_lit (a : Addr) (j : Nat) : a.add (j + 1) = ⟨a.block, a.off + (j + 1), none⟩ := by unfold Addr.add; rw [if_neg (by omega)]
/-- Two lists, apart. -/
structure NmSt (w wr : World) (va vb : Value) (l : List En) : Prop where
  a : OwnEn 45 w.heap.size wr va l
  b : OwnEn 63 w.heap.size wr vb l
  apart : ∀ r, va.ownBlock = some r → vb.ownBlock ≠ some r
  below : Below w.heap.size w wr
theorem NmSt.pushA {w wr w1 w2 : World} {va vb v' : Value} {l : List En} {x : En} (h : NmSt w wr va vb l) (_hd : wr.heap.size ≤ w1.heap.size) (hb : Below wr.heap.size wr w1) (_ho : OwnEn 45 w.heap.size w2 v' (l ++ [x])) (hg : w1.grownBy w2 va.ownBlock) (hk : v'.ownBlock = va.ownBlock ∨ v'.ownBlock = some (w1.heap.size + 1)) :
    OwnEn 63 w.heap.size w2 vb l ∧ (∀ r, v'.ownBlock = some r → vb.ownBlock ≠ some r) ∧ Below w.heap.size w w2 := by
  have hb1 := own_below h.b hb (Nat.le_refl _)
  have hlt : ∀ r, vb.ownBlock = some r → r < w1.heap.size := fun r hr => (hb1.lt r hr).2
  refine ⟨own_touch hb1 (Touch.grown (X := fun k => va.ownBlock = some k) hg fun k e => e) fun k hk e => h.apart k e hk, fun r hr e => ?_, ?_⟩
  · rcases hk with hk | hk
    · rw [hk] at hr; exact h.apart r hr e
    · rw [hk] at hr
      injection hr with hr
      have := hlt r e
      omega
  · have h1 : Below w.heap.size w w1 := h.below.trans (hb.mono h.below.size)
    refine Touch.below (X := fun k => w.heap.size ≤ k) ((Touch.of h1).trans (Touch.grown hg fun k e => ?_)) (Nat.le_refl _) fun k h => h
    exact (h.a.lt k e).1
theorem NmSt.pushB {w w1 w2 : World} {va vb v' : Value} {l l' : List En} (ha : OwnEn 45 w.heap.size w1 va l') (hb0 : OwnEn 63 w.heap.size w1 vb l) (hap : ∀ r, va.ownBlock = some r → vb.ownBlock ≠ some r) (hbl : Below w.heap.size w w1) (ho : OwnEn 63 w.heap.size w2 v' l') (hg : w1.grownBy w2 vb.ownBlock) (hk : v'.ownBlock = vb.ownBlock ∨ v'.ownBlock = some (w1.heap.size + 1)) :
    NmSt w w2 va v' l' := by
  refine ⟨own_touch ha (Touch.grown (X := fun k => vb.ownBlock = some k) hg fun k e => e) fun k hk e => hap k hk e, ho, fun r hr e => ?_, ?_⟩
  · rcases hk with hk | hk
    · rw [hk] at e; exact hap r hr e
    · rw [hk] at e
      injection e with e
      have := (ha.lt r hr).2
      omega
  · refine Touch.below (X := fun k => w.heap.size ≤ k) ((Touch.of hbl).trans (Touch.grown hg fun k e => ?_)) (Nat.le_refl _) fun k h => h
    exact (hb0.lt k e).1
set_option maxHeartbeats 2000000 in
set_option maxRecDepth 100000 in
theorem names_any {A : Option Addr} {c B : Nat} {l : List Int} {w : World} (hl : l.length ≤ 1000) (hB : B ≤ w.heap.size) (hr : RdI w B A l) :
    Calls Try.prog 13 #[.slice A l.length c] w fun e w' => ∃ va vb, e = .returned (.tuple #[va, vb]) ∧ NmSt w w' va vb (pairs l) := by
  obtain ⟨n, hn⟩ : ∃ n, Hid (l.length = n) := ⟨_, rfl⟩
  have hnI : (n : Int) ≤ 1000 := by rw [← hn.out]; omega
  have Hr := Lib.hid hr
  have HB := Lib.hid hB
  rw [hn.out]
  clear hl hr hB
  go_enter Try.func13, Try.ntmps13
  go_wp2
  go_loopw [4, 5, 6] (fun va vb i wr => ∃ k : Nat, 2 * k ≤ n ∧ i = .int .i64 ((2 * k : Nat) : Int) ∧ Hid (NmSt w wr va vb ((pairs l).take k))) (fun _ _ i _ => n - (Go.Lib.intOf i).toNat)
  case atStart => exact ⟨0, by omega, rfl, OwnEn.nil _ _ _, OwnEn.nil _ _ _, fun r hr => by simp [Value.ownBlock] at hr, .refl _ _⟩
  case round =>
    obtain ⟨k, hk, rfl, hst⟩ := hrel
    by_cases hlt : 2 * k + 1 < n
    · obtain ⟨x, y, hx, hy, hxy⟩ := pairs_get (l := l) (k := k) (by rw [hn.out]; exact hlt)
      have Hxy := Lib.hid hxy
      obtain ⟨ad, rfl, hab, hcell⟩ := (Hr.out.below (hst.out.below.mono HB.out)).2 (by rw [hn.out]; omega)
      have c1 : wr.cell? (ad.add (2 * k)) = some (.int .i64 x) := hcell _ _ (by unfold ic; rw [List.getElem?_map, hx]; rfl)
      have c2 : wr.cell? (ad.add (2 * k + 1)) = some (.int .i64 y) := hcell _ _ (by unfold ic; rw [List.getElem?_map, hy]; rfl)
      obtain ⟨j, hj⟩ : ∃ j, Hid (2 * k = j) := ⟨_, rfl⟩
      rw [hj.out] at c1 c2 hlt hk ⊢
      have hjI : (j : Int) + 1 < (n : Int) := by omega
      have hjI0 : (j : Int) < (n : Int) := by omega
      have hj0 : (0 : Int) ≤ (j : Int) + 1 := by omega
      have hjw : IntKind.i64.wrap ((j : Int) + 1) = (j : Int) + 1 := IntWalk.i64_in _ (by omega)
      rw [padd_lit] at c2
      have hab2 : ad.block < w.heap.size := Nat.lt_of_lt_of_le hab HB.out
      have hcw : w.cell? (ad.add j) = some (.int .i64 x) ∧ w.cell? ⟨ad.block, ad.off + (j + 1), none⟩ = some (.int .i64 y) := ⟨(hst.out.below.cell (p := ad.add j) (by rw [block_of_add]; exact hab2)).symm.trans c1, (hst.out.below.cell (p := ⟨ad.block, ad.off + (j + 1), none⟩) hab2).symm.trans c2⟩
      have HS : Hid (∀ wx, Below w.heap.size w wx → wx.cell? (ad.add j) = some (.int .i64 x) ∧ wx.cell? ⟨ad.block, ad.off + (j + 1), none⟩ = some (.int .i64 y)) := fun wx hx => ⟨(hx.cell (p := ad.add j) (by rw [block_of_add]; exact hab2)).trans hcw.1, (hx.cell (p := ⟨ad.block, ad.off + (j + 1), none⟩) hab2).trans hcw.2⟩
      obtain ⟨T, hT⟩ : ∃ T, Hid ((pairs l).take k = T) := ⟨_, rfl⟩
      rw [hT.out] at hst
      have hTl : Hid (T.length ≤ 1099511627776) := by rw [← hT.out, List.length_take]; show _ ≤ _; have := hj.out; omega
      have hd0 : Hid (Below wr.heap.size wr wr.drew) := (Below.refl _ _).drew
      have hsz0 : Hid (w.heap.size ≤ wr.drew.heap.size) := hst.out.below.size
      have hB0 : Hid (Below w.heap.size w wr.drew) := hst.out.below.drew
      clear c1 c2 hx hy hcell hab hab2 hxy hcw
      go_wp2_with fail
      go_region_held3 (fun wx => wx.cell? (ad.add j) = some (.int .i64 x) ∧ wx.cell? ⟨ad.block, ad.off + (j + 1), none⟩ = some (.int .i64 y)) (first | exact HS.out _ hb3 | exact HS.out _ (hB0.out.alloc hsz0.out _) | exact HS.out _ hB0.out) (first | (refine step_push_en enSl1 (.tmp 14) (.tmp 25) (x, y) (own_below hst.out.a hd0.out (Nat.le_refl _)) hsz0.out hTl.out rfl rfl rfl rfl rfl ?_; intro v3 w3 hO3 hg3 hk3 hb3'; have hA := hst.out.pushA (w1 := wr.drew) (Nat.le_refl _) hd0.out hO3 hg3 hk3; have hb3 := hA.2.2; clear hb3'))
      have HA := Lib.hid hA
      have HO3 := Lib.hid hO3
      have hB3 : Hid (Below w.heap.size w w3.drew) := hb3.drew
      have hd3 : Hid (Below w3.heap.size w3 w3.drew) := (Below.refl _ _).drew
      have hsz3 : Hid (w.heap.size ≤ w3.drew.heap.size) := hb3.size
      clear hA hO3 hg3 hk3 hb3
      go_wp2_with fail
      go_region_held3 (fun wx => wx.cell? (ad.add j) = some (.int .i64 x) ∧ wx.cell? ⟨ad.block, ad.off + (j + 1), none⟩ = some (.int .i64 y)) (first | exact HS.out _ hb5 | exact HS.out _ (hB3.out.alloc hsz3.out _) | exact HS.out _ hB3.out) (first | (refine step_push_en enSl2 (.tmp 27) (.tmp 38) (x, y) (own_below HA.out.1 hd3.out (Nat.le_refl _)) hsz3.out hTl.out rfl rfl rfl rfl rfl ?_; intro v5 w5 hO5 hg5 hk5 hb5'; have hB := NmSt.pushB (w1 := w3.drew) (own_below HO3.out hd3.out (Nat.le_refl _)) (own_below HA.out.1 hd3.out (Nat.le_refl _)) HA.out.2.1 hB3.out hO5 hg5 hk5; have hb5 := hB.below; clear hb5'))
      have HB5 := Lib.hid hB
      clear hB hO5 hg5 hk5 hb5
      go_wp2
      go_roundw
      case rel => exact ⟨k + 1, by have := hj.out; omega, by rw [show 2 * (k + 1) = j + 2 by have := hj.out; omega]; go_num, by rw [take_snoc Hxy, hT.out]; exact HB5.out⟩
      case measure => simp [Go.Lib.intOf]; omega
    · have hkn : (pairs l).take k = pairs l := List.take_of_length_le (by rw [pairs_len, hn.out]; omega)
      have hst' := hst.out
      rw [hkn] at hst'
      obtain ⟨j, hj⟩ : ∃ j, Hid (2 * k = j) := ⟨_, rfl⟩
      rw [hj.out] at hlt hk ⊢
      have hjI : ¬ (j : Int) + 1 < (n : Int) := by omega
      have hjI2 : (n : Int) ≤ (j : Int) + 1 := by omega
      have hd : decide ((j : Int) + 1 < (n : Int)) = false := by simpa using hjI2
      go_wp2
      go_ret2
      exact ⟨_, _, rfl, hst'⟩
end Go.Proofs.Ytlehkgogcbdckaa
