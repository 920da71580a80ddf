/- A run of a normal delta, behind a list of the call's own: the program's appendTo. Conditions: lists of at most 10^9 edits. -/
import Derived.Test.YtohgghaooppcoaaDlE
namespace Go.Proofs.Ytohgghaooppcoaa
open Go.RowKit Go.Lib

/-- What a slice value reads lies apart from a row of the call's own. -/
def Aside (w : World) (v : Value) (A : Option Addr) : Prop := ∀ ad, A = some ad → ad.block < w.heap.size ∧ v.ownBlock ≠ some ad.block
theorem Aside.none_ (w : World) (v : Value) : Aside w v none := fun _ h => by cases h
theorem Aside.nil {w : World} {A : Option Addr} (h : ∀ ad, A = some ad → ad.block < w.heap.size) : Aside w (.slice none 0 0) A := fun ad e => ⟨h ad e, by simp [Value.ownBlock]⟩
theorem Aside.kept {w w' : World} {v v' : Value} {A : Option Addr} (h : Aside w v A) (hk : Kept v v' w w') (hz : w.heap.size ≤ w'.heap.size) : Aside w' v' A :=
  fun ad e => ⟨Nat.lt_of_lt_of_le (h ad e).1 hz, hk.apart (h ad e).1 (h ad e).2⟩
theorem Aside.alloc {w : World} {v : Value} {A : Option Addr} (h : Aside w v A) (o : Obj) : Aside (w.alloc o) v A := fun ad e => ⟨by have := (h ad e).1; simp; omega, (h ad e).2⟩
theorem Reads.aside {w w' : World} {v v' : Value} {B size n : Nat} {A : Option Addr} {xs : List Value} (h : Reads w B size A n xs) (ha : Aside w v A) (hk : Kept v v' w w') : Reads w' B size A n xs :=
  ⟨h.1, fun hn => by
    obtain ⟨ad, e, hb, hc⟩ := h.2 hn
    obtain ⟨h1, h2⟩ := ha ad e
    exact ⟨ad, e, hb, fun j u hu => (hk.cell (p := ad.add j) (by rw [block_of_add]; exact h1) (by rw [block_of_add]; exact h2)).trans (hc j u hu)⟩⟩
/-- Rows of two element types lie apart. -/
theorem own_types {w : World} {b1 b2 s1 s2 n1 n2 : Nat} {e1 e2 : TypeId} {v1 v2 : Value} {xs ys : List Value} (h1 : w.ownsRow b1 e1 s1 v1 n1 xs) (h2 : w.ownsRow b2 e2 s2 v2 n2 ys) (hne : e1 ≠ e2) {g : Nat} (hg : v1.ownBlock = some g) : v2.ownBlock ≠ some g := by
  intro hg2
  rcases h1.2 with ⟨rfl, _⟩ | ⟨g1, c1, cur1, rfl, _, k1, _⟩
  · simp [Value.ownBlock] at hg
  · rcases h2.2 with ⟨rfl, _⟩ | ⟨g2, c2, cur2, rfl, _, k2, _⟩
    · simp [Value.ownBlock] at hg2
    · simp only [Value.ownBlock, Option.some.injEq] at hg hg2
      subst hg
      subst hg2
      rw [k1] at k2
      simp only [Option.some.injEq, Obj.cells.injEq] at k2
      exact hne k2.2.1
theorem own_aside {w : World} {b1 b2 s1 s2 n1 n2 c : Nat} {e1 e2 : TypeId} {A : Option Addr} {v2 : Value} {xs ys : List Value} (h1 : w.ownsRow b1 e1 s1 (.slice A n1 c) n1 xs) (h2 : w.ownsRow b2 e2 s2 v2 n2 ys) (hne : e1 ≠ e2) : Aside w v2 A := by
  intro ad e
  subst e
  rcases h1.2 with ⟨hv, _⟩ | ⟨g, cap, cur, hv, _, hk, _⟩
  · cases hv
  · injection hv with hv
    injection hv with hv
    subst hv
    exact ⟨(Array.getElem?_eq_some_iff.1 hk).1, own_types h1 h2 hne rfl⟩
theorem Kept.refl (v : Value) (w : World) : Kept v v w w := fun _ _ h => ⟨h, rfl⟩
theorem Kept.new (v : Value) (w : World) (o : Obj) : Kept v v w (w.alloc o) := fun _ hM h => ⟨h, heap_alloc_old w o hM⟩
theorem Kept.trans {v1 v2 v3 : Value} {a b c : World} (h : Kept v1 v2 a b) (k : Kept v2 v3 b c) (hz : a.heap.size ≤ b.heap.size) : Kept v1 v3 a c := fun M hM hne => by
  obtain ⟨h1, h2⟩ := h M hM hne
  obtain ⟨k1, k2⟩ := k M (by omega) h1
  exact ⟨k1, k2.trans h2⟩
theorem ed_ne_u8 : (5 : TypeId) ≠ 47 := by decide
theorem flush_app (own : List Ed) (st : Nat) (cm : List UInt8) (go : Nat) : own ++ flush st cm go = ((own ++ (if 0 < st then [eR st] else [])) ++ (if cm ≠ [] then [eI cm] else [])) ++ (if 0 < go then [eD go] else []) := by simp [flush]

set_option maxHeartbeats 1000000 in
set_option maxRecDepth 100000 in
theorem appendTo_nnn (base : Nat) (v : Value) (own : List Ed) (st go : Nat) (A : Option Addr) (c : Nat) (cm : List UInt8) (w : World) (hs : st = 0) (hc : cm = []) (hg : go = 0) (hl : own.length ≤ 1000000000) (hcl : cm.length ≤ 1099511627776) (hbase : base ≤ w.heap.size) (hown : OwnE 47 base w v own)
    (hr : RdB w w.heap.size A cm) (ha : Aside w v A) :
    Calls Try.prog 36 #[.agg #[.int .i64 (st : Int), .slice A cm.length c, .int .i64 (go : Int)], v] w fun e w' => ∃ v', e = .returned v' ∧ OwnE 47 base w' v' (own ++ flush st cm go) ∧ Below base w w' ∧ w.heap.size ≤ w'.heap.size ∧ Kept v v' w w' := by
  have hf := Lib.hid (flush_app own st cm go)
  subst hs
  subst hc
  subst hg
  obtain ⟨R, hR⟩ : ∃ R, R = w.heap.size := ⟨_, rfl⟩
  have hne0 := own_ne hown (M := R) (by omega)
  have hown0 := hown.alloc (.cells #[.int .i64 (0 : Int), .slice A 0 c, .int .i64 (0 : Int)] 74)
  have hb0 := (Below.refl base w).alloc hbase (.cells #[.int .i64 (0 : Int), .slice A 0 c, .int .i64 (0 : Int)] 74)
  have hr0 := Reads.alloc hr (Nat.le_refl _) (.cells #[.int .i64 (0 : Int), .slice A 0 c, .int .i64 (0 : Int)] 74)
  have ha0 := ha.alloc (.cells #[.int .i64 (0 : Int), .slice A 0 c, .int .i64 (0 : Int)] 74)
  have hcc : ∀ j, (w.alloc (.cells #[.int .i64 (0 : Int), .slice A 0 c, .int .i64 (0 : Int)] 74)).cell? ⟨R, j, none⟩ = #[Value.int .i64 (0 : Int), .slice A 0 c, .int .i64 (0 : Int)][j]? := by
    intro j
    rw [hR, cell_of_row _ _ j _ _ _ (heap_alloc_new w _)]
  have K0 := Lib.hid (Kept.new v w (.cells #[.int .i64 (0 : Int), .slice A 0 c, .int .i64 (0 : Int)] 74))
  have hzz0 := Lib.hid (show w.heap.size ≤ (w.alloc (.cells #[.int .i64 (0 : Int), .slice A 0 c, .int .i64 (0 : Int)] 74)).heap.size by simp)
  have Hc0 := Lib.hid hcc
  have Hl := Lib.hid hl
  have Hcl := Lib.hid hcl
  have HR := Lib.hid hR
  have HRz := Lib.hid (show R < (w.alloc (.cells #[.int .i64 (0 : Int), .slice A 0 c, .int .i64 (0 : Int)] 74)).heap.size by rw [hR]; simp)
  clear hcc hl hcl hr ha hown
  go_enter Try.func36, Try.ntmps36
  go_wp2
  go_ret
  refine ⟨_, rfl, ?_, hb0, hzz0.out, K0.out⟩
  rw [hf.out]
  rw [if_neg (by omega), if_neg (by simp), if_neg (by omega)]
  simpa using hown0
set_option maxHeartbeats 1000000 in
set_option maxRecDepth 100000 in
theorem appendTo_nny (base : Nat) (v : Value) (own : List Ed) (st go : Nat) (A : Option Addr) (c : Nat) (cm : List UInt8) (w : World) (hs : st = 0) (hc : cm = []) (hg : 0 < go) (hl : own.length ≤ 1000000000) (hcl : cm.length ≤ 1099511627776) (hbase : base ≤ w.heap.size) (hown : OwnE 47 base w v own)
    (hr : RdB w w.heap.size A cm) (ha : Aside w v A) :
    Calls Try.prog 36 #[.agg #[.int .i64 (st : Int), .slice A cm.length c, .int .i64 (go : Int)], v] w fun e w' => ∃ v', e = .returned v' ∧ OwnE 47 base w' v' (own ++ flush st cm go) ∧ Below base w w' ∧ w.heap.size ≤ w'.heap.size ∧ Kept v v' w w' := by
  have hf := Lib.hid (flush_app own st cm go)
  subst hs
  subst hc
  have hgI : (0 : Int) < (go : Int) := by omega
  obtain ⟨R, hR⟩ : ∃ R, R = w.heap.size := ⟨_, rfl⟩
  have hne0 := own_ne hown (M := R) (by omega)
  have hown0 := hown.alloc (.cells #[.int .i64 (0 : Int), .slice A 0 c, .int .i64 (go : Int)] 74)
  have hb0 := (Below.refl base w).alloc hbase (.cells #[.int .i64 (0 : Int), .slice A 0 c, .int .i64 (go : Int)] 74)
  have hr0 := Reads.alloc hr (Nat.le_refl _) (.cells #[.int .i64 (0 : Int), .slice A 0 c, .int .i64 (go : Int)] 74)
  have ha0 := ha.alloc (.cells #[.int .i64 (0 : Int), .slice A 0 c, .int .i64 (go : Int)] 74)
  have hcc : ∀ j, (w.alloc (.cells #[.int .i64 (0 : Int), .slice A 0 c, .int .i64 (go : Int)] 74)).cell? ⟨R, j, none⟩ = #[Value.int .i64 (0 : Int), .slice A 0 c, .int .i64 (go : Int)][j]? := by
    intro j
    rw [hR, cell_of_row _ _ j _ _ _ (heap_alloc_new w _)]
  have K0 := Lib.hid (Kept.new v w (.cells #[.int .i64 (0 : Int), .slice A 0 c, .int .i64 (go : Int)] 74))
  have hzz0 := Lib.hid (show w.heap.size ≤ (w.alloc (.cells #[.int .i64 (0 : Int), .slice A 0 c, .int .i64 (go : Int)] 74)).heap.size by simp)
  have Hc0 := Lib.hid hcc
  have Hl := Lib.hid hl
  have Hcl := Lib.hid hcl
  have HR := Lib.hid hR
  have HRz := Lib.hid (show R < (w.alloc (.cells #[.int .i64 (0 : Int), .slice A 0 c, .int .i64 (go : Int)] 74)).heap.size by rw [hR]; simp)
  clear hcc hl hcl hr ha hown hg
  go_enter Try.func36, Try.ntmps36
  go_wp2_with (first
    | (at_builtin; refine push_ed edSl1 (.tmp 28) (.tmp 32) (eD go) rfl rfl rfl hown0 (Nat.le_trans hbase hb0.size) (by have := Hl.out; simp; omega) rfl rfl rfl rfl (by simp) ?_; intro v1 w1 hown1 hbx1 hbs1 hz1 hk1; have hb1 := hb0.trans hbx1; have hr1 := Reads.aside hr0 ha0 hk1; have ha1 := ha0.kept hk1 hz1; have HRz1 := Lib.hid (Nat.lt_of_lt_of_le HRz.out hz1); have hne1 := hk1.apart HRz.out hne0; have Hc1 := Lib.hid (fun j => (hk1.cell (p := ⟨R, j, none⟩) HRz.out hne0).trans (Hc0.out j)); have d11 := Hc1.out 1; have d12 := Hc1.out 2; rw [HR.out] at d11 d12; have K1 := Lib.hid (K0.out.trans hk1 hzz0.out); have hzz1 := Lib.hid (Nat.le_trans hzz0.out hz1); clear hown0 hbx1 hr0 hk1 ha0 hne0))
  go_ret
  refine ⟨_, rfl, ?_, hb1, hzz1.out, K1.out⟩
  rw [hf.out]
  rw [if_neg (by omega), if_neg (by simp), if_pos (by omega)]
  simpa using hown1
set_option maxHeartbeats 1000000 in
set_option maxRecDepth 100000 in
theorem appendTo_nyn (base : Nat) (v : Value) (own : List Ed) (st go : Nat) (A : Option Addr) (c : Nat) (cm : List UInt8) (w : World) (hs : st = 0) (hc : cm ≠ []) (hg : go = 0) (hl : own.length ≤ 1000000000) (hcl : cm.length ≤ 1099511627776) (hbase : base ≤ w.heap.size) (hown : OwnE 47 base w v own)
    (hr : RdB w w.heap.size A cm) (ha : Aside w v A) :
    Calls Try.prog 36 #[.agg #[.int .i64 (st : Int), .slice A cm.length c, .int .i64 (go : Int)], v] w fun e w' => ∃ v', e = .returned v' ∧ OwnE 47 base w' v' (own ++ flush st cm go) ∧ Below base w w' ∧ w.heap.size ≤ w'.heap.size ∧ Kept v v' w w' := by
  have hf := Lib.hid (flush_app own st cm go)
  subst hs
  have hcP : 0 < cm.length := List.length_pos_iff.2 hc
  have hcI : (0 : Int) < (cm.length : Int) := by omega
  subst hg
  obtain ⟨R, hR⟩ : ∃ R, R = w.heap.size := ⟨_, rfl⟩
  have hne0 := own_ne hown (M := R) (by omega)
  have hown0 := hown.alloc (.cells #[.int .i64 (0 : Int), .slice A cm.length c, .int .i64 (0 : Int)] 74)
  have hb0 := (Below.refl base w).alloc hbase (.cells #[.int .i64 (0 : Int), .slice A cm.length c, .int .i64 (0 : Int)] 74)
  have hr0 := Reads.alloc hr (Nat.le_refl _) (.cells #[.int .i64 (0 : Int), .slice A cm.length c, .int .i64 (0 : Int)] 74)
  have ha0 := ha.alloc (.cells #[.int .i64 (0 : Int), .slice A cm.length c, .int .i64 (0 : Int)] 74)
  have hcc : ∀ j, (w.alloc (.cells #[.int .i64 (0 : Int), .slice A cm.length c, .int .i64 (0 : Int)] 74)).cell? ⟨R, j, none⟩ = #[Value.int .i64 (0 : Int), .slice A cm.length c, .int .i64 (0 : Int)][j]? := by
    intro j
    rw [hR, cell_of_row _ _ j _ _ _ (heap_alloc_new w _)]
  have K0 := Lib.hid (Kept.new v w (.cells #[.int .i64 (0 : Int), .slice A cm.length c, .int .i64 (0 : Int)] 74))
  have hzz0 := Lib.hid (show w.heap.size ≤ (w.alloc (.cells #[.int .i64 (0 : Int), .slice A cm.length c, .int .i64 (0 : Int)] 74)).heap.size by simp)
  have Hc0 := Lib.hid hcc
  have Hl := Lib.hid hl
  have Hcl := Lib.hid hcl
  have HR := Lib.hid hR
  have HRz := Lib.hid (show R < (w.alloc (.cells #[.int .i64 (0 : Int), .slice A cm.length c, .int .i64 (0 : Int)] 74)).heap.size by rw [hR]; simp)
  have htx := run_text_any hr0 c
  clear hcc hl hcl hr ha hown hc
  go_enter Try.func36, Try.ntmps36
  go_wp2_with (first
    | (at_builtin; refine push_ed edSl1 (.tmp 18) (.tmp 23) (eI cm) rfl rfl rfl hown0 (Nat.le_trans hbase hb0.size) (by have := Hl.out; simp; omega) rfl rfl rfl rfl (by simp) ?_; intro v1 w1 hown1 hbx1 hbs1 hz1 hk1; have hb1 := hb0.trans hbx1; have hr1 := Reads.aside hr0 ha0 hk1; have ha1 := ha0.kept hk1 hz1; have HRz1 := Lib.hid (Nat.lt_of_lt_of_le HRz.out hz1); have hne1 := hk1.apart HRz.out hne0; have Hc1 := Lib.hid (fun j => (hk1.cell (p := ⟨R, j, none⟩) HRz.out hne0).trans (Hc0.out j)); have d11 := Hc1.out 1; have d12 := Hc1.out 2; rw [HR.out] at d11 d12; have K1 := Lib.hid (K0.out.trans hk1 hzz0.out); have hzz1 := Lib.hid (Nat.le_trans hzz0.out hz1); clear hown0 hbx1 hr0 hk1 ha0 hne0))
  go_ret
  refine ⟨_, rfl, ?_, hb1, hzz1.out, K1.out⟩
  rw [hf.out]
  rw [if_neg (by omega), if_pos (by intro h; rw [h] at hcP; simp at hcP), if_neg (by omega)]
  simpa using hown1
set_option maxHeartbeats 1000000 in
set_option maxRecDepth 100000 in
theorem appendTo_nyy (base : Nat) (v : Value) (own : List Ed) (st go : Nat) (A : Option Addr) (c : Nat) (cm : List UInt8) (w : World) (hs : st = 0) (hc : cm ≠ []) (hg : 0 < go) (hl : own.length ≤ 1000000000) (hcl : cm.length ≤ 1099511627776) (hbase : base ≤ w.heap.size) (hown : OwnE 47 base w v own)
    (hr : RdB w w.heap.size A cm) (ha : Aside w v A) :
    Calls Try.prog 36 #[.agg #[.int .i64 (st : Int), .slice A cm.length c, .int .i64 (go : Int)], v] w fun e w' => ∃ v', e = .returned v' ∧ OwnE 47 base w' v' (own ++ flush st cm go) ∧ Below base w w' ∧ w.heap.size ≤ w'.heap.size ∧ Kept v v' w w' := by
  have hf := Lib.hid (flush_app own st cm go)
  subst hs
  have hcP : 0 < cm.length := List.length_pos_iff.2 hc
  have hcI : (0 : Int) < (cm.length : Int) := by omega
  have hgI : (0 : Int) < (go : Int) := by omega
  obtain ⟨R, hR⟩ : ∃ R, R = w.heap.size := ⟨_, rfl⟩
  have hne0 := own_ne hown (M := R) (by omega)
  have hown0 := hown.alloc (.cells #[.int .i64 (0 : Int), .slice A cm.length c, .int .i64 (go : Int)] 74)
  have hb0 := (Below.refl base w).alloc hbase (.cells #[.int .i64 (0 : Int), .slice A cm.length c, .int .i64 (go : Int)] 74)
  have hr0 := Reads.alloc hr (Nat.le_refl _) (.cells #[.int .i64 (0 : Int), .slice A cm.length c, .int .i64 (go : Int)] 74)
  have ha0 := ha.alloc (.cells #[.int .i64 (0 : Int), .slice A cm.length c, .int .i64 (go : Int)] 74)
  have hcc : ∀ j, (w.alloc (.cells #[.int .i64 (0 : Int), .slice A cm.length c, .int .i64 (go : Int)] 74)).cell? ⟨R, j, none⟩ = #[Value.int .i64 (0 : Int), .slice A cm.length c, .int .i64 (go : Int)][j]? := by
    intro j
    rw [hR, cell_of_row _ _ j _ _ _ (heap_alloc_new w _)]
  have K0 := Lib.hid (Kept.new v w (.cells #[.int .i64 (0 : Int), .slice A cm.length c, .int .i64 (go : Int)] 74))
  have hzz0 := Lib.hid (show w.heap.size ≤ (w.alloc (.cells #[.int .i64 (0 : Int), .slice A cm.length c, .int .i64 (go : Int)] 74)).heap.size by simp)
  have Hc0 := Lib.hid hcc
  have Hl := Lib.hid hl
  have Hcl := Lib.hid hcl
  have HR := Lib.hid hR
  have HRz := Lib.hid (show R < (w.alloc (.cells #[.int .i64 (0 : Int), .slice A cm.length c, .int .i64 (go : Int)] 74)).heap.size by rw [hR]; simp)
  have htx := run_text_any hr0 c
  clear hcc hl hcl hr ha hown hc hg
  go_enter Try.func36, Try.ntmps36
  go_wp2_with (first
    | (at_builtin; refine push_ed edSl1 (.tmp 18) (.tmp 23) (eI cm) rfl rfl rfl hown0 (Nat.le_trans hbase hb0.size) (by have := Hl.out; simp; omega) rfl rfl rfl rfl (by simp) ?_; intro v1 w1 hown1 hbx1 hbs1 hz1 hk1; have hb1 := hb0.trans hbx1; have hr1 := Reads.aside hr0 ha0 hk1; have ha1 := ha0.kept hk1 hz1; have HRz1 := Lib.hid (Nat.lt_of_lt_of_le HRz.out hz1); have hne1 := hk1.apart HRz.out hne0; have Hc1 := Lib.hid (fun j => (hk1.cell (p := ⟨R, j, none⟩) HRz.out hne0).trans (Hc0.out j)); have d11 := Hc1.out 1; have d12 := Hc1.out 2; rw [HR.out] at d11 d12; have K1 := Lib.hid (K0.out.trans hk1 hzz0.out); have hzz1 := Lib.hid (Nat.le_trans hzz0.out hz1); clear hown0 hbx1 hr0 hk1 ha0 hne0)
    | (at_builtin; refine push_ed edSl1 (.tmp 28) (.tmp 32) (eD go) rfl rfl rfl hown1 (Nat.le_trans hbase hb1.size) (by have := Hl.out; simp; omega) rfl rfl rfl rfl (by simp) ?_; intro v2 w2 hown2 hbx2 hbs2 hz2 hk2; have hb2 := hb1.trans hbx2; have hr2 := Reads.aside hr1 ha1 hk2; have ha2 := ha1.kept hk2 hz2; have HRz2 := Lib.hid (Nat.lt_of_lt_of_le HRz1.out hz2); have hne2 := hk2.apart HRz1.out hne1; have Hc2 := Lib.hid (fun j => (hk2.cell (p := ⟨R, j, none⟩) HRz1.out hne1).trans (Hc1.out j)); have d21 := Hc2.out 1; have d22 := Hc2.out 2; rw [HR.out] at d21 d22; have K2 := Lib.hid (K1.out.trans hk2 hzz1.out); have hzz2 := Lib.hid (Nat.le_trans hzz1.out hz2); clear hown1 hbx2 hr1 hk2 ha1 hne1 d11 d12))
  go_ret
  refine ⟨_, rfl, ?_, hb2, hzz2.out, K2.out⟩
  rw [hf.out]
  rw [if_neg (by omega), if_pos (by intro h; rw [h] at hcP; simp at hcP), if_pos (by omega)]
  simpa using hown2
set_option maxHeartbeats 1000000 in
set_option maxRecDepth 100000 in
theorem appendTo_ynn (base : Nat) (v : Value) (own : List Ed) (st go : Nat) (A : Option Addr) (c : Nat) (cm : List UInt8) (w : World) (hs : 0 < st) (hc : cm = []) (hg : go = 0) (hl : own.length ≤ 1000000000) (hcl : cm.length ≤ 1099511627776) (hbase : base ≤ w.heap.size) (hown : OwnE 47 base w v own)
    (hr : RdB w w.heap.size A cm) (ha : Aside w v A) :
    Calls Try.prog 36 #[.agg #[.int .i64 (st : Int), .slice A cm.length c, .int .i64 (go : Int)], v] w fun e w' => ∃ v', e = .returned v' ∧ OwnE 47 base w' v' (own ++ flush st cm go) ∧ Below base w w' ∧ w.heap.size ≤ w'.heap.size ∧ Kept v v' w w' := by
  have hf := Lib.hid (flush_app own st cm go)
  have hsI : (0 : Int) < (st : Int) := by omega
  subst hc
  subst hg
  obtain ⟨R, hR⟩ : ∃ R, R = w.heap.size := ⟨_, rfl⟩
  have hne0 := own_ne hown (M := R) (by omega)
  have hown0 := hown.alloc (.cells #[.int .i64 (st : Int), .slice A 0 c, .int .i64 (0 : Int)] 74)
  have hb0 := (Below.refl base w).alloc hbase (.cells #[.int .i64 (st : Int), .slice A 0 c, .int .i64 (0 : Int)] 74)
  have hr0 := Reads.alloc hr (Nat.le_refl _) (.cells #[.int .i64 (st : Int), .slice A 0 c, .int .i64 (0 : Int)] 74)
  have ha0 := ha.alloc (.cells #[.int .i64 (st : Int), .slice A 0 c, .int .i64 (0 : Int)] 74)
  have hcc : ∀ j, (w.alloc (.cells #[.int .i64 (st : Int), .slice A 0 c, .int .i64 (0 : Int)] 74)).cell? ⟨R, j, none⟩ = #[Value.int .i64 (st : Int), .slice A 0 c, .int .i64 (0 : Int)][j]? := by
    intro j
    rw [hR, cell_of_row _ _ j _ _ _ (heap_alloc_new w _)]
  have K0 := Lib.hid (Kept.new v w (.cells #[.int .i64 (st : Int), .slice A 0 c, .int .i64 (0 : Int)] 74))
  have hzz0 := Lib.hid (show w.heap.size ≤ (w.alloc (.cells #[.int .i64 (st : Int), .slice A 0 c, .int .i64 (0 : Int)] 74)).heap.size by simp)
  have Hc0 := Lib.hid hcc
  have Hl := Lib.hid hl
  have Hcl := Lib.hid hcl
  have HR := Lib.hid hR
  have HRz := Lib.hid (show R < (w.alloc (.cells #[.int .i64 (st : Int), .slice A 0 c, .int .i64 (0 : Int)] 74)).heap.size by rw [hR]; simp)
  clear hcc hl hcl hr ha hown hs
  go_enter Try.func36, Try.ntmps36
  go_wp2_with (first
    | (at_builtin; refine push_ed edSl1 (.tmp 8) (.tmp 12) (eR st) rfl rfl rfl hown0 (Nat.le_trans hbase hb0.size) (by have := Hl.out; simp; omega) rfl rfl rfl rfl (by simp) ?_; intro v1 w1 hown1 hbx1 hbs1 hz1 hk1; have hb1 := hb0.trans hbx1; have hr1 := Reads.aside hr0 ha0 hk1; have ha1 := ha0.kept hk1 hz1; have HRz1 := Lib.hid (Nat.lt_of_lt_of_le HRz.out hz1); have hne1 := hk1.apart HRz.out hne0; have Hc1 := Lib.hid (fun j => (hk1.cell (p := ⟨R, j, none⟩) HRz.out hne0).trans (Hc0.out j)); have d11 := Hc1.out 1; have d12 := Hc1.out 2; rw [HR.out] at d11 d12; have K1 := Lib.hid (K0.out.trans hk1 hzz0.out); have hzz1 := Lib.hid (Nat.le_trans hzz0.out hz1); clear hown0 hbx1 hr0 hk1 ha0 hne0))
  go_ret
  refine ⟨_, rfl, ?_, hb1, hzz1.out, K1.out⟩
  rw [hf.out]
  rw [if_pos (by omega), if_neg (by simp), if_neg (by omega)]
  simpa using hown1
set_option maxHeartbeats 1000000 in
set_option maxRecDepth 100000 in
theorem appendTo_yny (base : Nat) (v : Value) (own : List Ed) (st go : Nat) (A : Option Addr) (c : Nat) (cm : List UInt8) (w : World) (hs : 0 < st) (hc : cm = []) (hg : 0 < go) (hl : own.length ≤ 1000000000) (hcl : cm.length ≤ 1099511627776) (hbase : base ≤ w.heap.size) (hown : OwnE 47 base w v own)
    (hr : RdB w w.heap.size A cm) (ha : Aside w v A) :
    Calls Try.prog 36 #[.agg #[.int .i64 (st : Int), .slice A cm.length c, .int .i64 (go : Int)], v] w fun e w' => ∃ v', e = .returned v' ∧ OwnE 47 base w' v' (own ++ flush st cm go) ∧ Below base w w' ∧ w.heap.size ≤ w'.heap.size ∧ Kept v v' w w' := by
  have hf := Lib.hid (flush_app own st cm go)
  have hsI : (0 : Int) < (st : Int) := by omega
  subst hc
  have hgI : (0 : Int) < (go : Int) := by omega
  obtain ⟨R, hR⟩ : ∃ R, R = w.heap.size := ⟨_, rfl⟩
  have hne0 := own_ne hown (M := R) (by omega)
  have hown0 := hown.alloc (.cells #[.int .i64 (st : Int), .slice A 0 c, .int .i64 (go : Int)] 74)
  have hb0 := (Below.refl base w).alloc hbase (.cells #[.int .i64 (st : Int), .slice A 0 c, .int .i64 (go : Int)] 74)
  have hr0 := Reads.alloc hr (Nat.le_refl _) (.cells #[.int .i64 (st : Int), .slice A 0 c, .int .i64 (go : Int)] 74)
  have ha0 := ha.alloc (.cells #[.int .i64 (st : Int), .slice A 0 c, .int .i64 (go : Int)] 74)
  have hcc : ∀ j, (w.alloc (.cells #[.int .i64 (st : Int), .slice A 0 c, .int .i64 (go : Int)] 74)).cell? ⟨R, j, none⟩ = #[Value.int .i64 (st : Int), .slice A 0 c, .int .i64 (go : Int)][j]? := by
    intro j
    rw [hR, cell_of_row _ _ j _ _ _ (heap_alloc_new w _)]
  have K0 := Lib.hid (Kept.new v w (.cells #[.int .i64 (st : Int), .slice A 0 c, .int .i64 (go : Int)] 74))
  have hzz0 := Lib.hid (show w.heap.size ≤ (w.alloc (.cells #[.int .i64 (st : Int), .slice A 0 c, .int .i64 (go : Int)] 74)).heap.size by simp)
  have Hc0 := Lib.hid hcc
  have Hl := Lib.hid hl
  have Hcl := Lib.hid hcl
  have HR := Lib.hid hR
  have HRz := Lib.hid (show R < (w.alloc (.cells #[.int .i64 (st : Int), .slice A 0 c, .int .i64 (go : Int)] 74)).heap.size by rw [hR]; simp)
  clear hcc hl hcl hr ha hown hs hg
  go_enter Try.func36, Try.ntmps36
  go_wp2_with (first
    | (at_builtin; refine push_ed edSl1 (.tmp 8) (.tmp 12) (eR st) rfl rfl rfl hown0 (Nat.le_trans hbase hb0.size) (by have := Hl.out; simp; omega) rfl rfl rfl rfl (by simp) ?_; intro v1 w1 hown1 hbx1 hbs1 hz1 hk1; have hb1 := hb0.trans hbx1; have hr1 := Reads.aside hr0 ha0 hk1; have ha1 := ha0.kept hk1 hz1; have HRz1 := Lib.hid (Nat.lt_of_lt_of_le HRz.out hz1); have hne1 := hk1.apart HRz.out hne0; have Hc1 := Lib.hid (fun j => (hk1.cell (p := ⟨R, j, none⟩) HRz.out hne0).trans (Hc0.out j)); have d11 := Hc1.out 1; have d12 := Hc1.out 2; rw [HR.out] at d11 d12; have K1 := Lib.hid (K0.out.trans hk1 hzz0.out); have hzz1 := Lib.hid (Nat.le_trans hzz0.out hz1); clear hown0 hbx1 hr0 hk1 ha0 hne0)
    | (at_builtin; refine push_ed edSl1 (.tmp 28) (.tmp 32) (eD go) rfl rfl rfl hown1 (Nat.le_trans hbase hb1.size) (by have := Hl.out; simp; omega) rfl rfl rfl rfl (by simp) ?_; intro v2 w2 hown2 hbx2 hbs2 hz2 hk2; have hb2 := hb1.trans hbx2; have hr2 := Reads.aside hr1 ha1 hk2; have ha2 := ha1.kept hk2 hz2; have HRz2 := Lib.hid (Nat.lt_of_lt_of_le HRz1.out hz2); have hne2 := hk2.apart HRz1.out hne1; have Hc2 := Lib.hid (fun j => (hk2.cell (p := ⟨R, j, none⟩) HRz1.out hne1).trans (Hc1.out j)); have d21 := Hc2.out 1; have d22 := Hc2.out 2; rw [HR.out] at d21 d22; have K2 := Lib.hid (K1.out.trans hk2 hzz1.out); have hzz2 := Lib.hid (Nat.le_trans hzz1.out hz2); clear hown1 hbx2 hr1 hk2 ha1 hne1 d11 d12))
  go_ret
  refine ⟨_, rfl, ?_, hb2, hzz2.out, K2.out⟩
  rw [hf.out]
  rw [if_pos (by omega), if_neg (by simp), if_pos (by omega)]
  simpa using hown2
set_option maxHeartbeats 1000000 in
set_option maxRecDepth 100000 in
theorem appendTo_yyn (base : Nat) (v : Value) (own : List Ed) (st go : Nat) (A : Option Addr) (c : Nat) (cm : List UInt8) (w : World) (hs : 0 < st) (hc : cm ≠ []) (hg : go = 0) (hl : own.length ≤ 1000000000) (hcl : cm.length ≤ 1099511627776) (hbase : base ≤ w.heap.size) (hown : OwnE 47 base w v own)
    (hr : RdB w w.heap.size A cm) (ha : Aside w v A) :
    Calls Try.prog 36 #[.agg #[.int .i64 (st : Int), .slice A cm.length c, .int .i64 (go : Int)], v] w fun e w' => ∃ v', e = .returned v' ∧ OwnE 47 base w' v' (own ++ flush st cm go) ∧ Below base w w' ∧ w.heap.size ≤ w'.heap.size ∧ Kept v v' w w' := by
  have hf := Lib.hid (flush_app own st cm go)
  have hsI : (0 : Int) < (st : Int) := by omega
  have hcP : 0 < cm.length := List.length_pos_iff.2 hc
  have hcI : (0 : Int) < (cm.length : Int) := by omega
  subst hg
  obtain ⟨R, hR⟩ : ∃ R, R = w.heap.size := ⟨_, rfl⟩
  have hne0 := own_ne hown (M := R) (by omega)
  have hown0 := hown.alloc (.cells #[.int .i64 (st : Int), .slice A cm.length c, .int .i64 (0 : Int)] 74)
  have hb0 := (Below.refl base w).alloc hbase (.cells #[.int .i64 (st : Int), .slice A cm.length c, .int .i64 (0 : Int)] 74)
  have hr0 := Reads.alloc hr (Nat.le_refl _) (.cells #[.int .i64 (st : Int), .slice A cm.length c, .int .i64 (0 : Int)] 74)
  have ha0 := ha.alloc (.cells #[.int .i64 (st : Int), .slice A cm.length c, .int .i64 (0 : Int)] 74)
  have hcc : ∀ j, (w.alloc (.cells #[.int .i64 (st : Int), .slice A cm.length c, .int .i64 (0 : Int)] 74)).cell? ⟨R, j, none⟩ = #[Value.int .i64 (st : Int), .slice A cm.length c, .int .i64 (0 : Int)][j]? := by
    intro j
    rw [hR, cell_of_row _ _ j _ _ _ (heap_alloc_new w _)]
  have K0 := Lib.hid (Kept.new v w (.cells #[.int .i64 (st : Int), .slice A cm.length c, .int .i64 (0 : Int)] 74))
  have hzz0 := Lib.hid (show w.heap.size ≤ (w.alloc (.cells #[.int .i64 (st : Int), .slice A cm.length c, .int .i64 (0 : Int)] 74)).heap.size by simp)
  have Hc0 := Lib.hid hcc
  have Hl := Lib.hid hl
  have Hcl := Lib.hid hcl
  have HR := Lib.hid hR
  have HRz := Lib.hid (show R < (w.alloc (.cells #[.int .i64 (st : Int), .slice A cm.length c, .int .i64 (0 : Int)] 74)).heap.size by rw [hR]; simp)
  clear hcc hl hcl hr ha hown hs hc
  go_enter Try.func36, Try.ntmps36
  go_wp2_with (first
    | (at_builtin; refine push_ed edSl1 (.tmp 8) (.tmp 12) (eR st) rfl rfl rfl hown0 (Nat.le_trans hbase hb0.size) (by have := Hl.out; simp; omega) rfl rfl rfl rfl (by simp) ?_; intro v1 w1 hown1 hbx1 hbs1 hz1 hk1; have hb1 := hb0.trans hbx1; have hr1 := Reads.aside hr0 ha0 hk1; have ha1 := ha0.kept hk1 hz1; have HRz1 := Lib.hid (Nat.lt_of_lt_of_le HRz.out hz1); have hne1 := hk1.apart HRz.out hne0; have Hc1 := Lib.hid (fun j => (hk1.cell (p := ⟨R, j, none⟩) HRz.out hne0).trans (Hc0.out j)); have d11 := Hc1.out 1; have d12 := Hc1.out 2; rw [HR.out] at d11 d12; have K1 := Lib.hid (K0.out.trans hk1 hzz0.out); have hzz1 := Lib.hid (Nat.le_trans hzz0.out hz1); have htx1 := run_text_any hr1 c; clear hown0 hbx1 hr0 hk1 ha0 hne0)
    | (at_builtin; refine push_ed edSl1 (.tmp 18) (.tmp 23) (eI cm) rfl rfl rfl hown1 (Nat.le_trans hbase hb1.size) (by have := Hl.out; simp; omega) rfl rfl rfl rfl (by simp) ?_; intro v2 w2 hown2 hbx2 hbs2 hz2 hk2; have hb2 := hb1.trans hbx2; have hr2 := Reads.aside hr1 ha1 hk2; have ha2 := ha1.kept hk2 hz2; have HRz2 := Lib.hid (Nat.lt_of_lt_of_le HRz1.out hz2); have hne2 := hk2.apart HRz1.out hne1; have Hc2 := Lib.hid (fun j => (hk2.cell (p := ⟨R, j, none⟩) HRz1.out hne1).trans (Hc1.out j)); have d21 := Hc2.out 1; have d22 := Hc2.out 2; rw [HR.out] at d21 d22; have K2 := Lib.hid (K1.out.trans hk2 hzz1.out); have hzz2 := Lib.hid (Nat.le_trans hzz1.out hz2); clear hown1 hbx2 hr1 hk2 ha1 hne1 d11 d12))
  go_ret
  refine ⟨_, rfl, ?_, hb2, hzz2.out, K2.out⟩
  rw [hf.out]
  rw [if_pos (by omega), if_pos (by intro h; rw [h] at hcP; simp at hcP), if_neg (by omega)]
  simpa using hown2
set_option maxHeartbeats 1000000 in
set_option maxRecDepth 100000 in
theorem appendTo_yyy (base : Nat) (v : Value) (own : List Ed) (st go : Nat) (A : Option Addr) (c : Nat) (cm : List UInt8) (w : World) (hs : 0 < st) (hc : cm ≠ []) (hg : 0 < go) (hl : own.length ≤ 1000000000) (hcl : cm.length ≤ 1099511627776) (hbase : base ≤ w.heap.size) (hown : OwnE 47 base w v own)
    (hr : RdB w w.heap.size A cm) (ha : Aside w v A) :
    Calls Try.prog 36 #[.agg #[.int .i64 (st : Int), .slice A cm.length c, .int .i64 (go : Int)], v] w fun e w' => ∃ v', e = .returned v' ∧ OwnE 47 base w' v' (own ++ flush st cm go) ∧ Below base w w' ∧ w.heap.size ≤ w'.heap.size ∧ Kept v v' w w' := by
  have hf := Lib.hid (flush_app own st cm go)
  have hsI : (0 : Int) < (st : Int) := by omega
  have hcP : 0 < cm.length := List.length_pos_iff.2 hc
  have hcI : (0 : Int) < (cm.length : Int) := by omega
  have hgI : (0 : Int) < (go : Int) := by omega
  obtain ⟨R, hR⟩ : ∃ R, R = w.heap.size := ⟨_, rfl⟩
  have hne0 := own_ne hown (M := R) (by omega)
  have hown0 := hown.alloc (.cells #[.int .i64 (st : Int), .slice A cm.length c, .int .i64 (go : Int)] 74)
  have hb0 := (Below.refl base w).alloc hbase (.cells #[.int .i64 (st : Int), .slice A cm.length c, .int .i64 (go : Int)] 74)
  have hr0 := Reads.alloc hr (Nat.le_refl _) (.cells #[.int .i64 (st : Int), .slice A cm.length c, .int .i64 (go : Int)] 74)
  have ha0 := ha.alloc (.cells #[.int .i64 (st : Int), .slice A cm.length c, .int .i64 (go : Int)] 74)
  have hcc : ∀ j, (w.alloc (.cells #[.int .i64 (st : Int), .slice A cm.length c, .int .i64 (go : Int)] 74)).cell? ⟨R, j, none⟩ = #[Value.int .i64 (st : Int), .slice A cm.length c, .int .i64 (go : Int)][j]? := by
    intro j
    rw [hR, cell_of_row _ _ j _ _ _ (heap_alloc_new w _)]
  have K0 := Lib.hid (Kept.new v w (.cells #[.int .i64 (st : Int), .slice A cm.length c, .int .i64 (go : Int)] 74))
  have hzz0 := Lib.hid (show w.heap.size ≤ (w.alloc (.cells #[.int .i64 (st : Int), .slice A cm.length c, .int .i64 (go : Int)] 74)).heap.size by simp)
  have Hc0 := Lib.hid hcc
  have Hl := Lib.hid hl
  have Hcl := Lib.hid hcl
  have HR := Lib.hid hR
  have HRz := Lib.hid (show R < (w.alloc (.cells #[.int .i64 (st : Int), .slice A cm.length c, .int .i64 (go : Int)] 74)).heap.size by rw [hR]; simp)
  clear hcc hl hcl hr ha hown hs hc hg
  go_enter Try.func36, Try.ntmps36
  go_wp2_with (first
    | (at_builtin; refine push_ed edSl1 (.tmp 8) (.tmp 12) (eR st) rfl rfl rfl hown0 (Nat.le_trans hbase hb0.size) (by have := Hl.out; simp; omega) rfl rfl rfl rfl (by simp) ?_; intro v1 w1 hown1 hbx1 hbs1 hz1 hk1; have hb1 := hb0.trans hbx1; have hr1 := Reads.aside hr0 ha0 hk1; have ha1 := ha0.kept hk1 hz1; have HRz1 := Lib.hid (Nat.lt_of_lt_of_le HRz.out hz1); have hne1 := hk1.apart HRz.out hne0; have Hc1 := Lib.hid (fun j => (hk1.cell (p := ⟨R, j, none⟩) HRz.out hne0).trans (Hc0.out j)); have d11 := Hc1.out 1; have d12 := Hc1.out 2; rw [HR.out] at d11 d12; have K1 := Lib.hid (K0.out.trans hk1 hzz0.out); have hzz1 := Lib.hid (Nat.le_trans hzz0.out hz1); have htx1 := run_text_any hr1 c; clear hown0 hbx1 hr0 hk1 ha0 hne0)
    | (at_builtin; refine push_ed edSl1 (.tmp 18) (.tmp 23) (eI cm) rfl rfl rfl hown1 (Nat.le_trans hbase hb1.size) (by have := Hl.out; simp; omega) rfl rfl rfl rfl (by simp) ?_; intro v2 w2 hown2 hbx2 hbs2 hz2 hk2; have hb2 := hb1.trans hbx2; have hr2 := Reads.aside hr1 ha1 hk2; have ha2 := ha1.kept hk2 hz2; have HRz2 := Lib.hid (Nat.lt_of_lt_of_le HRz1.out hz2); have hne2 := hk2.apart HRz1.out hne1; have Hc2 := Lib.hid (fun j => (hk2.cell (p := ⟨R, j, none⟩) HRz1.out hne1).trans (Hc1.out j)); have d21 := Hc2.out 1; have d22 := Hc2.out 2; rw [HR.out] at d21 d22; have K2 := Lib.hid (K1.out.trans hk2 hzz1.out); have hzz2 := Lib.hid (Nat.le_trans hzz1.out hz2); clear hown1 hbx2 hr1 hk2 ha1 hne1 d11 d12)
    | (at_builtin; refine push_ed edSl1 (.tmp 28) (.tmp 32) (eD go) rfl rfl rfl hown2 (Nat.le_trans hbase hb2.size) (by have := Hl.out; simp; omega) rfl rfl rfl rfl (by simp) ?_; intro v3 w3 hown3 hbx3 hbs3 hz3 hk3; have hb3 := hb2.trans hbx3; have hr3 := Reads.aside hr2 ha2 hk3; have ha3 := ha2.kept hk3 hz3; have HRz3 := Lib.hid (Nat.lt_of_lt_of_le HRz2.out hz3); have hne3 := hk3.apart HRz2.out hne2; have Hc3 := Lib.hid (fun j => (hk3.cell (p := ⟨R, j, none⟩) HRz2.out hne2).trans (Hc2.out j)); have d31 := Hc3.out 1; have d32 := Hc3.out 2; rw [HR.out] at d31 d32; have K3 := Lib.hid (K2.out.trans hk3 hzz2.out); have hzz3 := Lib.hid (Nat.le_trans hzz2.out hz3); clear hown2 hbx3 hr2 hk3 ha2 hne2 d21 d22))
  go_ret
  refine ⟨_, rfl, ?_, hb3, hzz3.out, K3.out⟩
  rw [hf.out]
  rw [if_pos (by omega), if_pos (by intro h; rw [h] at hcP; simp at hcP), if_pos (by omega)]
  exact hown3
theorem appendTo_any (base : Nat) (v : Value) (own : List Ed) (st go : Nat) (A : Option Addr) (c : Nat) (cm : List UInt8) (w : World) (hl : own.length ≤ 1000000000) (hcl : cm.length ≤ 1099511627776) (hbase : base ≤ w.heap.size) (hown : OwnE 47 base w v own)
    (hr : RdB w w.heap.size A cm) (ha : Aside w v A) :
    Calls Try.prog 36 #[.agg #[.int .i64 (st : Int), .slice A cm.length c, .int .i64 (go : Int)], v] w fun e w' => ∃ v', e = .returned v' ∧ OwnE 47 base w' v' (own ++ flush st cm go) ∧ Below base w w' ∧ w.heap.size ≤ w'.heap.size ∧ Kept v v' w w' := by
  rcases Nat.eq_zero_or_pos st with hs | hs <;> rcases (by by_cases h : cm = []; exact .inl h; exact .inr h : cm = [] ∨ cm ≠ []) with hc | hc <;> rcases Nat.eq_zero_or_pos go with hg | hg
  · exact appendTo_nnn base v own st go A c cm w hs hc hg hl hcl hbase hown hr ha
  · exact appendTo_nny base v own st go A c cm w hs hc hg hl hcl hbase hown hr ha
  · exact appendTo_nyn base v own st go A c cm w hs hc hg hl hcl hbase hown hr ha
  · exact appendTo_nyy base v own st go A c cm w hs hc hg hl hcl hbase hown hr ha
  · exact appendTo_ynn base v own st go A c cm w hs hc hg hl hcl hbase hown hr ha
  · exact appendTo_yny base v own st go A c cm w hs hc hg hl hcl hbase hown hr ha
  · exact appendTo_yyn base v own st go A c cm w hs hc hg hl hcl hbase hown hr ha
  · exact appendTo_yyy base v own st go A c cm w hs hc hg hl hcl hbase hown hr ha
end Go.Proofs.Ytohgghaooppcoaa
