/- The walk of frame.Take. Conditions: bytes of at most 2^40. -/
import Derived.Test.YtogoaihimepboaaKFrP
import Derived.Deep.RegionHeld3
namespace Go.Proofs.Ytogoaihimepboaa
open Go.RowKit

/-- A struct of two cells: how a variable of it is loaded. -/
def FrTy (ty : TypeId) : Prop := ∀ (w : World) (g : Nat) (t : TypeId) (x y : Value) (fr : Nat × Nat), w.heap[g]? = some (.cells #[x, y] t fr) → (loadVar ty ⟨g, 0, none⟩).run Try.prog w = .ok (.agg #[x, y]) w
theorem size_fr1 : (Try.prog.info? 58).map (·.size) = some 2 := by kernel_rfl
theorem size_fr2 : (Try.prog.info? 61).map (·.size) = some 2 := by kernel_rfl
theorem frTy1 : FrTy 58 := fun w g t x y fr hg => run_loadVar_row w g t _ #[x, y] fr _ hg Try.underlying58 rfl size_fr1
theorem frTy2 : FrTy 61 := fun w g t x y fr hg => run_loadVar_row w g t _ #[x, y] fr _ hg Try.underlying61 rfl size_fr2
theorem two_one {x y : Value} (hx : x.oneCell' = true) (hy : y.oneCell' = true) : #[x, y].all (·.oneCell') = true := by simp [hx, hy]
theorem ret_cell3 {fn : Func} {R : Ending → World → Prop} {p u v : Tmp} {ty : TypeId} (h : fn.results = #[.cell p ty, .tmp u, .tmp v]) (hty : FrTy ty) {a : Act} {w : World} (g : Nat) (x y : Value) (t : TypeId) (fr : Nat × Nat)
    (hp : a.tmps.getD p undef = .pointer (some ⟨g, 0, none⟩)) (hg : w.heap[g]? = some (.cells #[x, y] t fr)) (hd : a.defers = []) (hR : R (.returned (.tuple #[.agg #[x, y], a.tmps.getD u undef, a.tmps.getD v undef])) w) : bodyPost Try.prog fn R .ret a w := by
  refine bodyPost_ret (v := .tuple #[.agg #[x, y], a.tmps.getD u undef, a.tmps.getD v undef]) ?_ hd hR
  have hp' : a.tmps[p]?.getD undef = .pointer (some ⟨g, 0, none⟩) := by simpa using hp
  simp [results, h, hp', asAddr, hty w g t x y fr hg]
theorem ret_cell2 {fn : Func} {R : Ending → World → Prop} {p u : Tmp} {ty : TypeId} (h : fn.results = #[.cell p ty, .tmp u]) (hty : FrTy ty) {a : Act} {w : World} (g : Nat) (x y : Value) (t : TypeId) (fr : Nat × Nat)
    (hp : a.tmps.getD p undef = .pointer (some ⟨g, 0, none⟩)) (hg : w.heap[g]? = some (.cells #[x, y] t fr)) (hd : a.defers = []) (hR : R (.returned (.tuple #[.agg #[x, y], a.tmps.getD u undef])) w) : bodyPost Try.prog fn R .ret a w := by
  refine bodyPost_ret (v := .tuple #[.agg #[x, y], a.tmps.getD u undef]) ?_ hd hR
  have hp' : a.tmps[p]?.getD undef = .pointer (some ⟨g, 0, none⟩) := by simpa using hp
  simp [results, h, hp', asAddr, hty w g t x y fr hg]

/-- Take's answer as a value, in a world. -/
def FrVal (base : Nat) (r : Fk × Int × Nat) (e : Ending) (w' : World) : Prop :=
  ∃ v, e = .returned (.tuple #[.agg #[.int .u8 (r.1.1.toNat : Int), v], .int .i64 r.2.1, .int .i64 (r.2.2 : Nat)]) ∧ w'.ownsRow base 5 1 v r.1.2.length (bs r.1.2)
theorem FrVal.no {base : Nat} {r : Fk × Int × Nat} {w' : World} {p : Int} {e : Nat} (h : r = ((0, []), p, e)) : FrVal base r (.returned (.tuple #[.agg #[.int .u8 0, .slice none 0 0], .int .i64 p, .int .i64 (e : Nat)])) w' := by
  subst h
  exact ⟨_, rfl, World.ownsRow_nil _ _ _ _⟩

theorem readSum_at (A : Option Addr) (c n B : Nat) (l : List UInt8) (hn : l.length = n) (w : World) (h4 : 4 ≤ n) (hl : n ≤ 140737488351232) (hr : RdB w B A l) :
    Calls Try.prog 41 #[.slice A n c] w fun e w' => e = .returned (rv (rd4 l)) ∧ w = w' := by
  subst hn
  exact readSum_any A c B l w h4 hl hr
theorem matchOne (W : World) (N : Nat) (hN : W.heap.size = N) (A : Option Addr) (c n B : Nat) (l : List UInt8) (hn : l.length = n) (hl : l.length ≤ 140737488351232) (hB : B ≤ N) (hr : RdB W B A l) (x : BitVec 32) (r : Bool) (hx : decide (sum l = x) = r) :
    Calls Try.prog 40 #[rv x, .slice (some ⟨N, 0, none⟩) 1 1] (W.alloc (.cells #[.slice A n c] 22)) fun e w' => e = .returned (.bool r) ∧ Below N W w' ∧ N + 1 ≤ w'.heap.size := by
  subst hn hN hx
  have h := match_any x (some ⟨W.heap.size, 0, none⟩) 1 (W.heap.size + 1) [⟨A, c, l⟩] (W.alloc (.cells #[.slice A l.length c] 22)) (by simp) (by intro r hr; simp only [List.mem_singleton] at hr; subst hr; exact hl) (by simp) (RdR.new W B [⟨A, c, l⟩] 22 hB (by intro r hr'; simp only [List.mem_singleton] at hr'; subst hr'; exact hr))
  refine h.mono ?_
  rintro e w' ⟨rfl, hb⟩
  exact ⟨congrArg (fun m => Ending.returned (.bool (decide (sum m = x)))) (by simp [bytes]), ((Below.refl _ _).alloc (Nat.le_refl _) _).trans (hb.mono (by simp)), by have := hb.size; simpa using this⟩

set_option maxHeartbeats 2000000 in
set_option maxRecDepth 100000 in
theorem frTake_any (A : Option Addr) (c B : Nat) (l : List UInt8) (p : Int) (w : World) (hl : l.length ≤ 1099511627776) (hcap : l.length ≤ c) (hB : B ≤ w.heap.size) (hr : RdB w B A l) :
    Calls Try.prog 30 #[.slice A l.length c, .int .i64 p] w fun e w' => FrVal w.heap.size (takeF l p) e w' ∧ Below w.heap.size w w' := by
  have hlen : (l.length : Int) ≤ 1099511627776 := by omega
  have Hl := Lib.hid (show l.length ≤ 140737488351232 by omega)
  have hb0 := (Below.refl w.heap.size w).alloc (Nat.le_refl _) (.cells #[.int .u8 0, .slice none 0 0] 58)
  have hrW : RdB (w.alloc (.cells #[.int .u8 0, .slice none 0 0] 58)) B A l := Reads.alloc hr hB _
  have HrW : Hid (RdB _ _ _ _) := hrW
  clear hl hrW
  by_cases hneg : p < 0
  · have Hv := Lib.hid (takeF_out (b := l) (.inl hneg))
    go_enter Try.func30, Try.ntmps30
    go_wp2
    refine ret_cell3 rfl frTy1 w.heap.size _ _ _ (0, 0) rfl (heap_alloc_new _ _) rfl ?_
    exact ⟨FrVal.no Hv.out, hb0⟩
  by_cases hout : (l.length : Int) ≤ p
  · have Hv := Lib.hid (takeF_out (b := l) (.inr hout))
    go_enter Try.func30, Try.ntmps30
    go_wp2
    refine ret_cell3 rfl frTy1 w.heap.size _ _ _ (0, 0) rfl (heap_alloc_new _ _) rfl ?_
    exact ⟨FrVal.no Hv.out, hb0⟩
  obtain ⟨q, rfl⟩ := Int.eq_ofNat_of_zero_le (a := p) (by omega)
  have hq : q < l.length := by omega
  clear hneg hout
  obtain ⟨ad, x0, rfl, _, hcx, hx0⟩ := RdB.at_ hr hq
  have hlt := take_lt l ((q : Int) + 1)
  obtain ⟨n, f, e, ht⟩ : ∃ n f e, take l ((q : Int) + 1) = (n, f, e) := ⟨_, _, _, rfl⟩
  have hn64 : (n : Int) ≤ 18446744073709551615 := by rw [ht] at hlt; simp only at hlt; omega
  have Ht := Lib.hid ht
  clear hlt
  by_cases he : e = 0
  · subst he
    by_cases hbig : 65535 < n
    · have Hv := Lib.hid (takeF_big hq ht hbig)
      have hbI : (65535 : Int) < (n : Int) := by omega
      clear ht hbig
      go_enter Try.func30, Try.ntmps30
      go_wp2_with fail
      refine (take_any _ _ B l _ _ Hl.out hcap HrW.out).mono ?_
      rintro e' w' ⟨rfl, rfl⟩
      rw [Ht.out]
      go_wp2
      refine ret_cell3 rfl frTy1 w.heap.size _ _ _ (0, 0) rfl (heap_alloc_new _ _) rfl ?_
      exact ⟨FrVal.no Hv.out, hb0⟩
    have hnI : (n : Int) ≤ 65535 := by omega
    have hok : (take l ((q : Int) + 1)).2.2 = 0 := by rw [ht]
    obtain ⟨-, -, k, hk0, hk, hkl, -⟩ := take_ok hok
    rw [ht] at hk
    simp only at hk
    obtain ⟨F, hF⟩ : ∃ F : Nat, F = q + 1 + k := ⟨_, rfl⟩
    obtain rfl : f = (F : Int) := by omega
    have hFl : (F : Int) ≤ (l.length : Int) := by omega
    by_cases hs : (l.length : Int) < (F : Int) + n + 4
    · have Hv := Lib.hid (takeF_short hq ht hbig hs)
      have hsI : (l.length : Int) - (F : Int) < (n : Int) + 4 := by omega
      clear ht hbig hok hk hF hk0 hkl hs hn64
      go_enter Try.func30, Try.ntmps30
      go_wp2_with fail
      refine (take_any _ _ B l _ _ Hl.out hcap HrW.out).mono ?_
      rintro e' w' ⟨rfl, rfl⟩
      rw [Ht.out]
      go_wp2
      refine ret_cell3 rfl frTy1 w.heap.size _ _ _ (0, 0) rfl (heap_alloc_new _ _) rfl ?_
      exact ⟨FrVal.no Hv.out, hb0⟩
    obtain ⟨F', hF', hFn, hqF, hhead, -⟩ := takeF_head hq ht hs
    obtain rfl : F = F' := by omega
    obtain ⟨E, hE⟩ : ∃ E : Nat, E = F + n := ⟨_, rfl⟩
    have hEI : (F : Int) + (n : Int) = (E : Int) := by omega
    have hsI : ¬ (l.length : Int) - (F : Int) < (n : Int) + 4 := by omega
    have hEl : (E : Int) ≤ (l.length : Int) := by omega
    have hEl4 : E + 4 ≤ l.length := by omega
    have hqE : (q : Int) ≤ (E : Int) := by omega
    have hFE : (F : Int) ≤ (E : Int) := by omega
    have hEc : (E : Int) ≤ (c : Int) := by omega
    have hcE : ¬ c = E := by omega
    have hcq : ¬ c = q := by omega
    have hcF : ¬ c = F := by omega
    have hbk := RdB.back (c := c) HrW.out (k := E) (by omega) hcap
    rw [if_neg hcE] at hbk
    have Hbk : Hid (RdB (w.alloc (.cells #[.int .u8 0, .slice none 0 0] 58)) B (some (ad.add E)) (l.drop E)) := hbk
    have hmd := RdB.part HrW.out q (E - q) (by omega)
    have hEq : F + n - q = E - q := by omega
    rw [hEq] at hhead
    rw [hhead] at hmd
    have Hmd : Hid (RdB _ _ _ _) := hmd
    have hfl := congrArg List.length hhead
    rw [List.length_take, List.length_drop, Nat.min_eq_left (by omega)] at hfl
    have Hfl := Lib.hid hfl
    have hdl : (l.drop E).length = l.length - E := List.length_drop
    have Hdl := Lib.hid hdl
    have hk8 : l[q]?.getD 0 = x0 := by rw [hx0.out]; rfl
    have hx8 : (x0.toNat : Int) = ((l[q]?.getD 0).toNat : Int) := by rw [hk8]
    have hrd := rd4_eq (l := l.drop E) (by rw [hdl]; omega) (sum (fhead (l[q]?.getD 0) ((l.drop F).take n)))
    have hcx0 : Hid ((w.alloc (.cells #[.int .u8 0, .slice none 0 0] 58)).cell? (ad.add q) = some (.int .u8 (x0.toNat : Int))) := (World.cell?_alloc_lt w _ _ (by rw [block_of_add]; omega)).trans hcx
    by_cases hc : (l.drop E).take 4 = sum4 (sum (fhead (l[q]?.getD 0) ((l.drop F).take n)))
    · have Hv := Lib.hid (takeF_fine hq ht hbig hFn (by rw [← hE]; exact hc))
      have Hsum := Lib.hid (show decide (sum (fhead (l[q]?.getD 0) ((l.drop F).take n)) = rd4 (l.drop E)) = true by rw [decide_eq_true_iff, ← hrd]; exact hc)
      have Hx8 := Lib.hid hx8
      have HEn := Lib.hid (show ((l.drop F).take n).length = E - F by rw [List.length_take, List.length_drop]; omega)
      have HE := Lib.hid hE
      have Had := Lib.hid (show (ad.add q).block < w.heap.size by rw [block_of_add]; omega)
      have hEF : F + (E - F) = E := by omega
      have HEF := Lib.hid hEF
      clear ht hbig hok hk hF hk0 hkl hs hn64 hE hhead hbk hmd hfl hdl hrd hc hk8 hEq hqF hx8 hFn hF' hcx hEF
      go_enter Try.func30, Try.ntmps30
      go_wp2_with fail
      refine (take_any _ _ B l _ _ Hl.out hcap HrW.out).mono ?_
      rintro e' w' ⟨rfl, rfl⟩
      rw [Ht.out]
      go_wp2_with fail
      obtain ⟨W, hW⟩ : ∃ W : World, W = w.alloc (.cells #[.int .u8 0, .slice none 0 0] 58) := ⟨_, rfl⟩
      have hgW : W.heap[w.heap.size]? = some (.cells #[.int .u8 0, .slice none 0 0] 58 (0, 0)) := by rw [hW]; exact heap_alloc_new _ _
      have hszW : W.heap.size = w.heap.size + 1 := by rw [hW]; simp
      rw [← hW] at Hbk Hmd hb0 ⊢
      have HszW := Lib.hid hszW
      have HgW := Lib.hid hgW
      have HB := Lib.hid (show B ≤ W.heap.size by rw [hszW]; omega)
      have Hcx : Hid (W.cell? (ad.add q) = some (.int .u8 (x0.toNat : Int))) := by rw [hW]; exact hcx0.out
      have HrW2 : Hid (RdB W B (some ad) l) := by rw [hW]; exact HrW.out
      clear hW HrW hcx0 hszW hgW
      go_region_held3 (fun _ => True) (first | exact trivial) (first
        | (go_at_call 41
           refine (readSum_at (some (ad.add E)) (c - E) (l.length - E) B (l.drop E) Hdl.out _ (by omega) (by have := Hl.out; omega) ?hrd).mono ?_
           case hrd => first | exact Reads.drew Hbk.out | exact Reads.alloc (Reads.drew Hbk.out) HB.out _
           rintro e' w' ⟨rfl, rfl⟩)
        | (go_at_call 40
           refine (matchOne W.drew W.heap.size rfl (some (ad.add q)) (c - q) (E - q) B _ Hfl.out.symm (by have := Hl.out; have := Hfl.out; omega) HB.out (Reads.drew Hmd.out) _ true Hsum.out).mono ?_
           rintro e' w' ⟨rfl, hb', hs'⟩))
      all_goals
        have hg' : w'.heap[w.heap.size]? = some (.cells #[.int .u8 0, .slice none 0 0] 58 (0, 0)) := (hb'.block w.heap.size (by have := HszW.out; omega)).trans HgW.out
        have hbb := hb0.drew.trans (hb'.mono hb0.size)
        have hbody := Reads.below (Reads.drew HrW2.out) (hb'.mono HB.out)
        have hbody2 := RdB.part (l := l) hbody F n (by have := HE.out; omega)
        have Hbody : Hid (RdB w' B (some (ad.add F)) ((l.drop F).take n)) := hbody2
        have hcq : w'.cell? (ad.add q) = some (.int .u8 (x0.toNat : Int)) := (hb'.cell (p := ad.add q) (by have := Had.out; have := HszW.out; omega)).trans Hcx.out
        have Hcq := Lib.hid hcq
        have Hg' := Lib.hid hg'
        obtain ⟨M, hM⟩ : ∃ M, M = (l.drop F).take n := ⟨_, rfl⟩
        have HMn := HEn
        rw [← hM] at Hbody HMn
        have HM := Lib.hid hM
        clear hbody hbody2 hcq hg' hM
        go_wp2_with (first
          | (at_builtin
             refine push_rowN (.const (.slice none 0 0)) (.tmp 71) (l := []) HMn.out (World.ownsRow_nil w' w.heap.size 5 1) hbb.size Hbody.out (by have := Hl.out; have := HMn.out; simp only [List.length_nil]; omega) rfl rfl rfl rfl ?_
             intro v2 w2 hown2 hb2 hbs2 hz2 hk2
             rw [List.nil_append] at hown2
             obtain ⟨A2, c2, rfl, _, _, _⟩ := own_form hown2
             have hbb2 := hbb.trans hb2
             have hcq2 := (hb2.cell (p := ad.add q) Had.out).trans Hcq.out
             have hg2 := (hk2 w.heap.size (by have := HszW.out; omega) (by simp [Value.ownBlock])).2.trans Hg'.out)
          | (refine wpList_store_row rfl 58 (.tmp 4) (.tmp 78) rfl w.heap.size _ rfl rfl _ _ hg2 size_fr1 rfl (two_one rfl rfl) ?_))
        refine ret_cell3 rfl frTy1 w.heap.size _ _ _ (0, 0) rfl (setRow_heap _ _ _ _ _ _ hg2) rfl ?_
        refine ⟨?_, below_setRow hbb2 (Nat.le_refl _) _⟩
        rw [Hv.out, ← HM.out]
        refine ⟨.slice A2 M.length c2, ?_, own_setRow hown2 (by have := HszW.out; have := hk2 w.heap.size (by omega) (by simp [Value.ownBlock]); exact this.1) _⟩
        rw [← Hx8.out]
        have e1 : ((F + n + 4 : Nat) : Int) = (E : Int) + 4 := by have := HE.out; omega
        rw [e1]
        rfl
    · have Hv := Lib.hid (takeF_odd hq ht hbig hFn (by rw [← hE]; exact hc))
      have Hsum := Lib.hid (show decide (sum (fhead (l[q]?.getD 0) ((l.drop F).take n)) = rd4 (l.drop E)) = false by rw [decide_eq_false_iff_not, ← hrd]; exact hc)
      clear ht hbig hok hk hF hk0 hkl hs hn64 hE hhead hbk hmd hfl hdl hrd hc hk8 hEq hqF hx8 hFn hF' hcx
      go_enter Try.func30, Try.ntmps30
      go_wp2_with fail
      refine (take_any _ _ B l _ _ Hl.out hcap HrW.out).mono ?_
      rintro e' w' ⟨rfl, rfl⟩
      rw [Ht.out]
      go_wp2_with fail
      obtain ⟨W, hW⟩ : ∃ W : World, W = w.alloc (.cells #[.int .u8 0, .slice none 0 0] 58) := ⟨_, rfl⟩
      have hgW : W.heap[w.heap.size]? = some (.cells #[.int .u8 0, .slice none 0 0] 58 (0, 0)) := by rw [hW]; exact heap_alloc_new _ _
      have hszW : W.heap.size = w.heap.size + 1 := by rw [hW]; simp
      rw [← hW] at Hbk Hmd hb0 ⊢
      have HszW := Lib.hid hszW
      have HgW := Lib.hid hgW
      have HB := Lib.hid (show B ≤ W.heap.size by rw [hszW]; omega)
      clear hW HrW hcx0 hszW hgW
      go_region_held3 (fun _ => True) (first | exact trivial) (first
        | (go_at_call 41
           refine (readSum_at (some (ad.add E)) (c - E) (l.length - E) B (l.drop E) Hdl.out _ (by omega) (by have := Hl.out; omega) ?hrd).mono ?_
           case hrd => first | exact Reads.drew Hbk.out | exact Reads.alloc (Reads.drew Hbk.out) HB.out _
           rintro e' w' ⟨rfl, rfl⟩)
        | (go_at_call 40
           refine (matchOne W.drew W.heap.size rfl (some (ad.add q)) (c - q) (E - q) B _ Hfl.out.symm (by have := Hl.out; have := Hfl.out; omega) HB.out (Reads.drew Hmd.out) _ false Hsum.out).mono ?_
           rintro e' w' ⟨rfl, hb', hs'⟩))
      all_goals
        have hg' : w'.heap[w.heap.size]? = some (.cells #[.int .u8 0, .slice none 0 0] 58 (0, 0)) := (hb'.block w.heap.size (by have := HszW.out; omega)).trans HgW.out
        have hbb := hb0.drew.trans (hb'.mono hb0.size)
        go_wp2_with (refine wpList_store_row rfl 58 (.tmp 4) (.tmp 66) rfl w.heap.size _ rfl rfl _ _ hg' size_fr1 rfl (two_one rfl rfl) ?_)
        refine ret_cell3 rfl frTy1 w.heap.size _ _ _ (0, 0) rfl (setRow_heap _ _ _ _ _ _ hg') rfl ?_
        exact ⟨FrVal.no Hv.out, below_setRow hbb (Nat.le_refl _) _⟩
  · have Hv := Lib.hid (takeF_no hq ht he)
    have heI : ((e : Int) != 0) = true := by rw [bne_iff_ne]; omega
    have heI' : (e != 0) = true := by rw [bne_iff_ne]; omega
    clear ht he
    go_enter Try.func30, Try.ntmps30
    go_wp2_with fail
    refine (take_any _ _ B l _ _ Hl.out hcap HrW.out).mono ?_
    rintro e' w' ⟨rfl, rfl⟩
    rw [Ht.out]
    go_wp2
    refine ret_cell3 rfl frTy1 w.heap.size _ _ _ (0, 0) rfl (heap_alloc_new _ _) rfl ?_
    exact ⟨FrVal.no Hv.out, hb0⟩
end Go.Proofs.Ytogoaihimepboaa
