/- A text's Name, as the code reads it: the walk. Conditions: texts below 2^32. -/
import Derived.Test.YtipmpebckfaknaaDoorNmP
namespace Go.Proofs.YtipmpebckfaknaaDoor
open Go.RowKit Go.Lib

theorem below_setRow' {B : Nat} {a w : World} (h : Below B a w) {g : Nat} (hg : B ≤ g) (cs : Array Value) : Below B a (w.setRow g cs) :=
  ⟨h.os, h.tape, h.output, by rw [size_setRow]; exact h.size, fun k hk => (setRow_other w g k cs (by omega)).trans (h.block k hk)⟩
def zeros6 : Array Value := #[.int .u8 0, .int .u64 0, .int .u64 0, .int .u64 0, .int .u64 0, .int .u64 0]
/-- The two blocks of Parse's own. -/
structure ParseMem (w0 wr : World) (ns : List Nat) : Prop where
  res : wr.heap[w0.heap.size]? = some (.cells zeros6 24 (0, 0))
  arr : wr.heap[w0.heap.size + 1]? = some (.cells (cells4 ns) 53 (0, 0))
  old : Below w0.heap.size w0 wr
theorem ParseMem.on {w0 wr w' : World} {ns : List Nat} (h : ParseMem w0 wr ns) (hb : Below wr.heap.size wr w') : ParseMem w0 w' ns :=
  ⟨(hb.block _ (Array.getElem?_eq_some_iff.1 h.res).1).trans h.res, (hb.block _ (Array.getElem?_eq_some_iff.1 h.arr).1).trans h.arr, h.old.trans (hb.mono h.old.size)⟩
theorem ParseMem.set {w0 wr : World} {ns : List Nat} {u k : Nat} (h : ParseMem w0 wr ns) (hk : ns.length = k) (h4 : k < 4) : ParseMem w0 (wr.setCell ⟨w0.heap.size + 1, k, none⟩ (.int .u64 (u : Int))) (ns ++ [u]) := by
  subst hk
  refine ⟨?_, ?_, h.old.setCell (by simp) _⟩
  · rw [heap_setCell_other _ _ _ _ (by simp)]; exact h.res
  · rw [setCell_block h.arr, cells4_set h4]
theorem below_of_drew {w : World} {n : Nat} : Below w.heap.size w (w.drewN n) := below_drewN (.refl _ _) n

theorem number_ok (l : List UInt8) (u : Nat) (w : World) (hE : Env w) (hl : l.length < 4294967281) (h : numOf l = some u) :
    Calls Tryd.prog 34 #[.string (txt l)] w fun e w' => e = .returned (.tuple #[.int .u64 (u : Int), .bool true]) ∧ Below w.heap.size w w' := by
  refine (number_any l w hE hl).mono ?_
  rintro e w' ⟨hn, hb⟩
  unfold NumAns at hn
  rw [h] at hn
  exact ⟨hn, hb⟩
theorem number_bad (l : List UInt8) (w : World) (hE : Env w) (hl : l.length < 4294967281) (h : numOf l = none) :
    Calls Tryd.prog 34 #[.string (txt l)] w fun e w' => (∃ x : Int, e = .returned (.tuple #[.int .u64 x, .bool false])) ∧ Below w.heap.size w w' := by
  refine (number_any l w hE hl).mono ?_
  rintro e w' ⟨hn, hb⟩
  unfold NumAns at hn
  rw [h] at hn
  exact ⟨hn, hb⟩
theorem int_one (k : IntKind) (z : Int) : (Value.int k z).oneCell' = true := rfl
theorem six_one (k d n p i c : Int) : (#[.int .u8 k, .int .u64 d, .int .u64 n, .int .u64 p, .int .u64 i, .int .u64 c] : Array Value).all (·.oneCell') = true := by simp [int_one]
theorem exec_zeroN {b : Act} {w : World} {o : Oper} (ho : o.op = .build 24 #[] := by rfl) : (execOp b.eval o).run Tryd.prog w = .ok (.value (.agg zeros6)) w := by
  unfold execOp
  simp only [ho, List.map_toArray, List.map_nil]
  go_simp
  rfl
set_option maxHeartbeats 4000000 in
set_option maxRecDepth 100000 in
theorem parse_any (s : List UInt8) (w : World) (hE : Env w) (hl : s.length < 4294967281) :
    Calls Tryd.prog 17 #[.string (txt s)] w fun e w' => ParseAns s e ∧ Below w.heap.size w w' := by
  obtain ⟨letter, rest, more, hcut, hst, hrl⟩ : ∃ (letter rest : List UInt8) (more : Bool), (∀ w', Env w' → Calls Tryd.prog 33 #[.string (txt s), .string ⟨#[45]⟩] w' fun e w2 => e = .returned (.tuple #[.string (txt letter), .string (txt rest), .bool more]) ∧ ∃ n, w2 = w'.drewN n)
      ∧ ParseSt s letter 0 [] [] rest more ∧ rest.length < 4294967281 := by
    rcases stroke_cases s with h | ⟨a, b, h, ha⟩
    · exact ⟨s, [], false, fun w' hE' => cut_not s w' hE' hl h, ⟨by rw [splitD_no h]; rfl, rfl, rfl⟩, by decide⟩
    · exact ⟨a, b, true, fun w' hE' => cut_yes s a b w' hE' hl h ha, ⟨by rw [h, splitD_cut ha]; rfl, rfl, rfl⟩, by rw [h] at hl; simp at hl; omega⟩
  have Hcut := Lib.hid hcut
  have Hst := Lib.hid hst
  have Hrl := Lib.hid hrl
  have HE := Lib.hid hE
  have Hl := Lib.hid hl
  clear hcut hst hrl hE hl
  have HE1 : Hid (Env (w.alloc (.cells zeros6 24))) := HE.out.on (below_new _ _)
  go_enter Tryd.func17, Tryd.ntmps17
  go_wp2_with (go_at_call 33; refine (Hcut.out _ HE1.out).mono ?_; rintro e w1 ⟨rfl, n1, rfl⟩)
  obtain ⟨W, hW⟩ : ∃ W, Hid (W = ((w.alloc (.cells zeros6 24)).drewN n1).alloc (.cells #[.int .u64 0, .int .u64 0, .int .u64 0, .int .u64 0] 53)) := ⟨_, rfl⟩
  rw [← hW.out]
  have HM : Hid (ParseMem w W []) := by
    rw [hW.out]
    refine ⟨?_, ?_, (below_drewN (below_new w _) _).alloc (by simp [World.drewN]) _⟩
    · exact (heap_alloc_old _ _ (by simp [World.drewN])).trans (heap_alloc_new w _)
    · have := heap_alloc_new ((w.alloc (.cells zeros6 24)).drewN n1) (.cells #[.int .u64 0, .int .u64 0, .int .u64 0, .int .u64 0] 53)
      have h2 : ((w.alloc (.cells zeros6 24)).drewN n1).heap.size = w.heap.size + 1 := by simp [World.drewN]
      rw [h2] at this
      exact this
  go_loopw [5, 6, 8] (fun r mo i wr => ∃ (k : Nat) (ns : List Nat) (ds : List (List UInt8)) (rest : List UInt8) (more : Bool), k ≤ 4 ∧ i = .int .i64 (k : Int) ∧ r = .string (txt rest) ∧ mo = .bool more ∧ Hid (ParseSt s letter k ns ds rest more) ∧ Hid (rest.length < 4294967281) ∧ Hid (ParseMem w wr ns))
    (fun _ _ i _ => 4 - (Lib.intOf i).toNat)
  case atStart => exact ⟨0, [], [], rest, more, Nat.zero_le _, rfl, rfl, rfl, Hst, Hrl, HM⟩
  case round =>
    clear Hst Hrl HM hW Hcut
    obtain ⟨k, ns, ds, rest', more', hk, rfl, rfl, rfl, Hs, Hr, Hm⟩ := hrel
    have HEr : Hid (Env wr) := HE.out.on Hm.out.old
    have Hlt : Hid (w.heap.size < wr.heap.size) := (Array.getElem?_eq_some_iff.1 Hm.out.res).1
    cases more' with
    | true =>
      by_cases h4 : k < 4
      · obtain ⟨d, rest2, more2, hcut2, hsp, hst2, hrl2, hdl⟩ : ∃ (d rest2 : List UInt8) (more2 : Bool), (∀ w', Env w' → Calls Tryd.prog 33 #[.string (txt rest'), .string ⟨#[45]⟩] w' fun e w2 => e = .returned (.tuple #[.string (txt d), .string (txt rest2), .bool more2]) ∧ ∃ n, w2 = w'.drewN n)
            ∧ (∃ r, splitD rest' = d :: r) ∧ (∀ u, numOf d = some u → ParseSt s letter (k + 1) (ns ++ [u]) (ds ++ [d]) rest2 more2) ∧ rest2.length < 4294967281 ∧ d.length < 4294967281 := by
          rcases stroke_cases rest' with h | ⟨a, b, h, ha⟩
          · exact ⟨rest', [], false, fun w' hE' => cut_not _ w' hE' Hr.out h, ⟨[], splitD_no h⟩, fun u hu => Hs.out.last h hu, by decide, Hr.out⟩
          · have hr2 := Hr.out
            rw [h] at hr2
            simp at hr2
            exact ⟨a, b, true, fun w' hE' => cut_yes _ a b w' hE' Hr.out h ha, ⟨splitD b, by rw [h, splitD_cut ha]⟩, fun u hu => Hs.out.yes h ha hu, by omega, by omega⟩
        have Hcut2 := Lib.hid hcut2
        have Hsp := Lib.hid hsp
        have Hst2 := Lib.hid hst2
        have Hrl2 := Lib.hid hrl2
        have Hdl := Lib.hid hdl
        clear hcut2 hsp hst2 hrl2 hdl
        cases hd : numOf d with
        | none =>
          have Hd := Lib.hid hd
          clear hd
          have Hno : Hid (parseOf s = none) := by obtain ⟨r, hr⟩ := Hsp.out; exact Hs.out.bad hr Hd.out
          go_upto_region 9 with (first
            | (go_at_call 33; refine (Hcut2.out _ HEr.out).mono ?_; rintro e w2 ⟨rfl, n2, rfl⟩)
            | (go_at_call 34; refine (number_bad d _ (HEr.out.on below_of_drew) Hdl.out Hd.out).mono ?_; rintro e w2 ⟨⟨x, rfl⟩, hb2⟩))
          have HM2 := Hm.out.on ((below_of_drew (w := wr) (n := n2)).trans (hb2.mono (Nat.le_refl _)))
          go_wp2_with (refine wpList_store_row rfl 24 (.tmp 2) (.tmp 37) rfl w.heap.size _ rfl rfl _ _ HM2.res size_nm rfl (six_one _ _ _ _ _ _) ?_)
          exact ret_agg2 (u := 3) rfl nmTy w.heap.size _ _ (0, 0) rfl rfl (setRow_heap _ _ _ _ _ _ HM2.res) rfl ⟨.none Hno.out, below_setRow' HM2.old (Nat.le_refl _) _⟩
        | some u =>
          have Hd := Lib.hid hd
          clear hd
          have Hn := Lib.hid (Hst2.out u Hd.out)
          go_upto_region 10 with (first
            | (go_at_call 33; refine (Hcut2.out _ HEr.out).mono ?_; rintro e w2 ⟨rfl, n2, rfl⟩)
            | (go_at_call 34; refine (number_ok d u _ (HEr.out.on below_of_drew) Hdl.out Hd.out).mono ?_; rintro e w2 ⟨rfl, hb2⟩))
          have HM2 := Hm.out.on ((below_of_drew (w := wr) (n := n2)).trans (hb2.mono (Nat.le_refl _)))
          have hc1 : ∃ v, w2.cell? ⟨w.heap.size + 1, k, none⟩ = some v := by
            rw [cell_of_row w2 _ k _ _ _ HM2.arr]
            exact ⟨_, Array.getElem?_eq_getElem (show k < 4 from h4)⟩
          obtain ⟨v0, hc1⟩ := hc1
          have hf1 : w2.frozen? ⟨w.heap.size + 1, k, none⟩ = false := frozen_of_row w2 _ k _ _ HM2.arr
          have HM3 := Lib.hid (HM2.set (u := u) Hs.out.len h4)
          clear HM2 hb2
          go_wp2
          go_roundw
          case rel => exact ⟨k + 1, ns ++ [u], ds ++ [d], rest2, more2, by omega, by go_num, rfl, rfl, Hn, Hrl2, HM3⟩
          case measure => simp [Lib.intOf]; omega
      · obtain rfl : k = 4 := by omega
        have Hno : Hid (parseOf s = none) := Hs.out.over
        go_upto_region 14 with (first
          | (go_at_call 35; refine (kindOf_any letter 4 _ HEr.out).mono ?_; rintro e w2 ⟨rfl, hb2⟩))
        all_goals
          have HM2 := Hm.out.on hb2
          go_wp2_with (refine wpList_store_row rfl 24 (.tmp 2) (.tmp 52) rfl w.heap.size _ rfl rfl _ _ HM2.res size_nm rfl (six_one _ _ _ _ _ _) ?_)
          exact ret_agg2 (u := 3) rfl nmTy w.heap.size _ _ (0, 0) rfl rfl (setRow_heap _ _ _ _ _ _ HM2.res) rfl ⟨.none Hno.out, below_setRow' HM2.old (Nat.le_refl _) _⟩
    | false =>
      have hdone := Hs.out.done hk
      by_cases h0 : kindFor letter k = 0
      · rw [if_pos h0] at hdone
        have Hno := Lib.hid hdone
        have hk0 : ∀ w', Env w' → Calls Tryd.prog 35 #[.agg #[.string (txt letter), .int .i64 (k : Int)]] w' fun e w2 => e = .returned (.int .u8 0) ∧ Below w'.heap.size w' w2 := by
          intro w' hE'
          have := kindOf_any letter k w' hE'
          rw [h0] at this
          exact this
        have Hk0 := Lib.hid hk0
        clear hdone hk0 h0
        go_upto_region 14 with (first
          | (go_at_call 35; refine (Hk0.out _ HEr.out).mono ?_; rintro e w2 ⟨rfl, hb2⟩))
        have HM2 := Hm.out.on hb2
        go_wp2_with (refine wpList_store_row rfl 24 (.tmp 2) (.tmp 52) rfl w.heap.size _ rfl rfl _ _ HM2.res size_nm rfl (six_one _ _ _ _ _ _) ?_)
        exact ret_agg2 (u := 3) rfl nmTy w.heap.size _ _ (0, 0) rfl rfl (setRow_heap _ _ _ _ _ _ HM2.res) rfl ⟨.none Hno.out, below_setRow' HM2.old (Nat.le_refl _) _⟩
      · rw [if_neg h0] at hdone
        obtain ⟨K, hK⟩ : ∃ K, Hid (kindFor letter k = K) := ⟨_, rfl⟩
        rw [hK.out] at hdone h0
        have Hyes := Lib.hid hdone
        have hk1 : ((K : Int) == 0) = false := by simp only [beq_eq_false_iff_ne, ne_eq]; omega
        have hk2 : ∀ w', Env w' → Calls Tryd.prog 35 #[.agg #[.string (txt letter), .int .i64 (k : Int)]] w' fun e w2 => e = .returned (.int .u8 (K : Int)) ∧ Below w'.heap.size w' w2 := by
          intro w' hE'
          have := kindOf_any letter k w' hE'
          rw [hK.out] at this
          exact this
        have Hk2 := Lib.hid hk2
        clear hdone h0 hk2
        go_upto_region 15 with (first
          | (go_at_call 35; refine (Hk2.out _ HEr.out).mono ?_; rintro e w2 ⟨rfl, hb2⟩))
        have HM2 := Hm.out.on hb2
        have hE2 := HEr.out.on hb2
        have q0 : w2.cell? ⟨w.heap.size + 1, 0, none⟩ = some (.int .u64 (ns.getD 0 0 : Nat)) := cell_of_row w2 _ 0 _ _ _ HM2.arr
        have q1 : w2.cell? ⟨w.heap.size + 1, 1, none⟩ = some (.int .u64 (ns.getD 1 0 : Nat)) := cell_of_row w2 _ 1 _ _ _ HM2.arr
        have q2 : w2.cell? ⟨w.heap.size + 1, 2, none⟩ = some (.int .u64 (ns.getD 2 0 : Nat)) := cell_of_row w2 _ 2 _ _ _ HM2.arr
        have q3 : w2.cell? ⟨w.heap.size + 1, 3, none⟩ = some (.int .u64 (ns.getD 3 0 : Nat)) := cell_of_row w2 _ 3 _ _ _ HM2.arr
        have HQ2 := Lib.hid HM2
        clear HM2 hE2 hb2
        obtain ⟨a0, ha0⟩ : ∃ a, Hid (ns.getD 0 0 = a) := ⟨_, rfl⟩
        obtain ⟨a1, ha1⟩ : ∃ a, Hid (ns.getD 1 0 = a) := ⟨_, rfl⟩
        obtain ⟨a2, ha2⟩ : ∃ a, Hid (ns.getD 2 0 = a) := ⟨_, rfl⟩
        obtain ⟨a3, ha3⟩ : ∃ a, Hid (ns.getD 3 0 = a) := ⟨_, rfl⟩
        rw [ha0.out] at q0
        rw [ha1.out] at q1
        rw [ha2.out] at q2
        rw [ha3.out] at q3
        have Hyes2 : Hid (parseOf s = some (madeOf K a0 a1 a2 a3)) := by rw [← ha0.out, ← ha1.out, ← ha2.out, ← ha3.out]; exact Hyes.out
        clear Hyes ha0 ha1 ha2 ha3
        obtain ⟨x, hx⟩ : ∃ x, Hid (madeOf K a0 a1 a2 a3 = x) := ⟨_, rfl⟩
        have hmade : ∀ w', Calls Tryd.prog 25 #[.int .u8 (K : Int), .agg #[.int .u64 (a0 : Int), .int .u64 (a1 : Int), .int .u64 (a2 : Int), .int .u64 (a3 : Int)]] w' fun e w2 => e = .returned x.v ∧ Below w'.heap.size w' w2 := by
          intro w'
          have := made_any K a0 a1 a2 a3 w'
          rw [hx.out] at this
          exact this
        have Hmade := Lib.hid hmade
        clear hmade
        rw [hx.out] at Hyes2
        unfold Nm.v at Hmade
        go_wp2_with (first
          | (go_at_call 25; refine (Hmade.out _).mono ?_; rintro e w3 ⟨rfl, hb3⟩)
          | refine wpList_store_row rfl 24 (.tmp 2) (.tmp 55) rfl w.heap.size _ rfl rfl _ _ (HQ2.out.on hb3).res size_nm rfl (six_one _ _ _ _ _ _) ?_)
        exact ret_agg2 (u := 3) rfl nmTy w.heap.size _ _ (0, 0) rfl rfl (setRow_heap _ _ _ _ _ _ (HQ2.out.on hb3).res) rfl ⟨.some Hyes2.out, below_setRow' (HQ2.out.on hb3).old (Nat.le_refl _) _⟩
end Go.Proofs.YtipmpebckfaknaaDoor
