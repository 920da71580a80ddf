/- The laws' small functions: refs, same, few, retain, insert, drop. Conditions: lists of at most 2^40 edits (refs: 10^9). -/
import Derived.Test.YtohgghaooppcoaaDlQ
import Derived.Deep.RegionHeld3
namespace Go.Proofs.Ytohgghaooppcoaa
open Go.RowKit Go.Lib

/-- An answer that says no more than it should. -/
def FewVal (l : List Ed) (e : Ending) : Prop := ∃ b : Bool, e = .returned (.bool b) ∧ (b = true → l.length ≤ 30 ∧ ∀ x ∈ l, x.s.length ≤ 200)
/-! ### single edits -/
set_option maxRecDepth 100000 in
theorem retain_any (n : Int) (w : World) : Calls Try.prog 28 #[.int .i64 n] w fun e w' => e = .returned (Ed.v ⟨1, n, []⟩) ∧ Below w.heap.size w w' := by
  go_enter Try.func28, Try.ntmps28
  go_wp2
  exact ret_agg rfl ed1Ty w.heap.size #[.int .u8 1, .int .i64 n, .string ByteArray.empty] 47 (0, 0) rfl rfl (heap_alloc_new w _) rfl ⟨rfl, (Below.refl _ _).alloc (Nat.le_refl _) _⟩
set_option maxRecDepth 100000 in
theorem insert_any (s : List UInt8) (w : World) : Calls Try.prog 29 #[.string (txt s)] w fun e w' => e = .returned (Ed.v ⟨2, 0, s⟩) ∧ Below w.heap.size w w' := by
  go_enter Try.func29, Try.ntmps29
  go_wp2
  exact ret_agg rfl ed1Ty w.heap.size #[.int .u8 2, .int .i64 0, .string (txt s)] 47 (0, 0) rfl rfl (heap_alloc_new w _) rfl ⟨rfl, (Below.refl _ _).alloc (Nat.le_refl _) _⟩
set_option maxRecDepth 100000 in
theorem drop_any (n : Int) (w : World) : Calls Try.prog 30 #[.int .i64 n] w fun e w' => e = .returned (Ed.v ⟨3, n, []⟩) ∧ Below w.heap.size w w' := by
  go_enter Try.func30, Try.ntmps30
  go_wp2
  exact ret_agg rfl ed1Ty w.heap.size #[.int .u8 3, .int .i64 n, .string ByteArray.empty] 47 (0, 0) rfl rfl (heap_alloc_new w _) rfl ⟨rfl, (Below.refl _ _).alloc (Nat.le_refl _) _⟩
set_option maxRecDepth 100000 in
theorem few_any (A : Option Addr) (c B : Nat) (l : List Ed) (w : World) (hl : l.length ≤ 9223372036854775807) (hs : ∀ x ∈ l, x.s.length ≤ 9223372036854775807) (hB : B ≤ w.heap.size) (hr : RdE w B A l) :
    Calls Try.prog 8 #[.slice A l.length c] w fun e w' => FewVal l e ∧ Below w.heap.size w w' := by
  have hlen : (l.length : Int) ≤ 9223372036854775807 := by omega
  have Hs := Lib.hid hs
  clear hl hs
  go_enter Try.func8, Try.ntmps8
  go_wp2
  go_loopw [3] (fun v wr => ∃ k : Nat, v = .int .i64 (k : Int) ∧ k ≤ l.length ∧ k ≤ 31 ∧ Hid (∀ x ∈ l.take k, x.s.length ≤ 200) ∧ Below w.heap.size w wr) (fun v _ => 31 - (Lib.intOf v).toNat)
  case atStart => exact ⟨0, rfl, by omega, by omega, by show ∀ _, _; simp, .refl _ _⟩
  case round =>
    obtain ⟨k, rfl, hk, hk2, ht, hb⟩ := hrel
    by_cases h1 : k < l.length
    · have h1I : (k : Int) < (l.length : Int) := by omega
      by_cases h2 : k < 31
      · have h2I : (k : Int) < 31 := by omega
        obtain ⟨ad, x, rfl, hab, c0, c1, c2, hx⟩ := RdE.at_ (Reads.below hr (hb.mono hB)) h1
        have hsz : ((txt x.s).size : Int) ≤ 9223372036854775807 := by rw [txt_size]; have := Hs.out x (mem_of_get hx); omega
        by_cases h3 : x.s.length ≤ 200
        · have h3I : ¬ ((200 : Int) < ((txt x.s).size : Int)) := by rw [txt_size]; omega
          have Ht : Hid (∀ y ∈ l.take (k + 1), y.s.length ≤ 200) := by
            show ∀ _, _
            rw [take_snoc hx]
            intro y hy
            rcases List.mem_append.1 hy with hy | hy
            · exact ht.out y hy
            · simp only [List.mem_singleton] at hy; subst hy; exact h3
          clear h3
          go_wp2
          go_roundw
          case rel => exact ⟨k + 1, by go_num, by omega, by omega, Ht.out, hb⟩
          case measure => simp [Lib.intOf]; omega
        · have h3I : (200 : Int) < ((txt x.s).size : Int) := by rw [txt_size]; omega
          clear h3
          go_wp2
          go_ret
          exact ⟨⟨false, rfl, by simp⟩, hb⟩
      · have h2I : ¬ ((k : Int) < 31) := by omega
        go_wp2
        go_ret
        exact ⟨⟨decide ((l.length : Int) ≤ 30), rfl, fun h => by simp only [decide_eq_true_eq] at h; omega⟩, hb⟩
    · have h1I : ¬ ((k : Int) < (l.length : Int)) := by omega
      have h1d : decide ((k : Int) < (l.length : Int)) = false := by simpa using h1I
      have Hk := Lib.hid (show k = l.length by omega)
      go_wp2
      go_ret
      refine ⟨⟨decide ((l.length : Int) ≤ 30), rfl, fun h => ⟨?_, ?_⟩⟩, hb⟩
      · simp only [decide_eq_true_eq] at h; omega
      · have := ht.out
        rw [Hk.out, List.take_length] at this
        exact this
theorem take_of_eq {α : Type} {l m : List α} {k : Nat} {x y : α} (hx : Hid (l[k]? = some x)) (hy : Hid (m[k]? = some y)) (h : x ≠ y) : l ≠ m := by
  rintro rfl
  have := hx.out.symm.trans hy.out
  injection this with this
  exact h this
section
variable {ops : Array Oper} {o : Oper} {a : Act} {Q : Exit → Act → World → Prop} {w : World} {base : Nat} {v : Value} {K : Act → World → Prop} {E : Prop}
/-- An edit behind a list of the call's own, at a step of a region that draws its order. -/
theorem step_push_ed {t e : TypeId} (ht : EdSl t e) {N : Nat} (s x : Operand) {own : List Ed} (f : Ed) (hown : OwnE e base w v own) (hbase : base ≤ w.heap.size) (hl : own.length ≤ 1099511627)
    (hgd : o.guard = none) (ho : o.op = .call { callee := .builtin .append, args := #[s, x], argTypes := #[t, t] })
    (hs : a.eval s = v) (hx : a.eval x = .slice (some ⟨N, 0, none⟩) 1 1) (hN : w.heap.size = N)
    (h : ∀ v' w', OwnE e base w' v' (own ++ [f]) → Below base w w' → base ≤ w'.heap.size → K (a.put o.dst v') w') :
    if Region.wanted o (yielded ops a.tmps) = true then Oper.wp Try.prog o a (w.alloc (.cells #[.int .u8 (f.k.toNat : Int), .int .i64 f.n, .string (txt f.s)] e)) K Q else E := by
  subst hN
  have hw : Region.wanted o (yielded ops a.tmps) = true := by simp [Region.wanted, hgd]
  rw [if_pos hw]
  obtain ⟨hu, hi⟩ := ht
  obtain ⟨i0, hi0, hz0, hz1, hz2⟩ := info_parts hi
  have hb0 : Below base w (w.alloc (.cells (ecells [f]).toArray e)) := (Below.refl base w).alloc hbase _
  refine wp_append_any (w.alloc (.cells (ecells [f]).toArray e)) s x t ho base e i0 _ 3 32 hu hi0 hz0 hz1 hz2 rfl (by omega) v _ _ hs (hown.alloc (.cells (ecells [f]).toArray e)) (w.heap.size + 1) _ 1 1 (ecells [f]) hx (RdE.new w [f] e) (ecells_one _) (by simp only [maxLen]; omega) (by omega) (by simp; omega) ?_
  intro v1 w1 h1 h2 h3
  have hb := grown_below (hown.alloc (.cells (ecells [f]).toArray e)) h2 (by simp; omega)
  refine h v1 w1 ?_ (hb0.trans hb) (Nat.le_trans hbase (hb0.trans hb).size)
  unfold OwnE
  rw [ecells_append, List.length_append]
  exact h1
end
set_option maxHeartbeats 2000000 in
set_option maxRecDepth 100000 in
theorem refs_any (A : Option Addr) (c B : Nat) (l : List Ed) (w : World) (hl : l.length ≤ 1000000000) (hB : B ≤ w.heap.size) (hr : RdE w B A l) :
    Calls Try.prog 10 #[.slice A l.length c] w fun e w' => (∃ v, e = .returned v ∧ OwnE 61 w.heap.size w' v l) ∧ Below w.heap.size w w' := by
  have hlen : (l.length : Int) ≤ 1000000000 := by omega
  have Hl := Lib.hid hl
  clear hl
  go_enter Try.func10, Try.ntmps10
  go_wp2
  go_loopw [3, 4] (fun v i wr => ∃ k : Nat, i = .int .i64 (k : Int) ∧ k ≤ l.length ∧ OwnE 61 w.heap.size wr v (l.take k) ∧ Below w.heap.size w wr) (fun _ i _ => l.length - (Lib.intOf i).toNat)
  case atStart => exact ⟨0, rfl, by omega, OwnE.nil _ _ _, .refl _ _⟩
  case round =>
    obtain ⟨k, rfl, hk, hown, hb⟩ := hrel
    have hbz := hb.size
    by_cases h1 : k < l.length
    · have h1I : (k : Int) < (l.length : Int) := by omega
      obtain ⟨ad, x, rfl, hab, c0, c1, c2, hx⟩ := RdE.at_ (Reads.below hr (hb.mono hB)) h1
      have hS : ∀ wx, Below w.heap.size wr wx → wx.cell? (ad.add (k * 3)) = some (.int .u8 (x.k.toNat : Int)) ∧ wx.cell? ⟨(ad.add (k * 3)).block, (ad.add (k * 3)).off + 1, none⟩ = some (.int .i64 x.n) ∧ wx.cell? ⟨(ad.add (k * 3)).block, (ad.add (k * 3)).off + 2, none⟩ = some (.string (txt x.s)) := by
        intro wx hx
        have e1 : (ad.add (k * 3)).block < w.heap.size := by rw [block_of_add]; omega
        exact ⟨(hx.cell e1).trans c0, (hx.cell (p := ⟨(ad.add (k * 3)).block, (ad.add (k * 3)).off + 1, none⟩) e1).trans c1, (hx.cell (p := ⟨(ad.add (k * 3)).block, (ad.add (k * 3)).off + 2, none⟩) e1).trans c2⟩
      have HS := Lib.hid hS
      have Htl := Lib.hid (show (l.take k).length ≤ 1099511627 by rw [List.length_take]; have := Hl.out; omega)
      obtain ⟨T, hT⟩ : ∃ T, Hid (l.take k = T) := ⟨_, rfl⟩
      rw [hT.out] at hown Htl
      have Hown : Hid (OwnE 61 w.heap.size wr.drew _ T) := hown
      have Hbz : Hid (w.heap.size ≤ wr.drew.heap.size) := hbz
      clear hS c0 c1 c2 hab hown
      go_wp2_with fail
      go_region_held3 (fun wx => wx.cell? (ad.add (k * 3)) = some (.int .u8 (x.k.toNat : Int)) ∧ wx.cell? ⟨(ad.add (k * 3)).block, (ad.add (k * 3)).off + 1, none⟩ = some (.int .i64 x.n) ∧ wx.cell? ⟨(ad.add (k * 3)).block, (ad.add (k * 3)).off + 2, none⟩ = some (.string (txt x.s))) (first | exact HS.out _ hb3 | exact HS.out _ ((Below.refl _ _).drew.alloc hbz _) | exact HS.out _ (Below.refl _ _).drew) (first | (refine step_push_ed edSl2 (.tmp 11) (.tmp 28) x Hown.out Hbz.out Htl.out rfl rfl rfl rfl rfl ?_; intro v3 w3 hO3 hb3' hbs3; have hb3 : Below w.heap.size wr w3 := (Below.refl _ _).drew.trans hb3'; clear hb3'))
      go_wp2
      go_roundw
      case rel => exact ⟨k + 1, by go_num, by omega, by rw [take_snoc hx, hT.out]; exact hO3, hb.trans hb3⟩
      case measure => simp [Lib.intOf]; omega
    · obtain rfl : k = l.length := by omega
      rw [List.take_length] at hown
      go_wp2
      go_ret
      exact ⟨⟨_, rfl, hown⟩, hb⟩
/-! ### two rows of edits -/
theorem ne_false {x y : Int} (h : x = y) : (x != y) = false ∧ (x == y) = true := by subst h; simp
theorem ne_true {x y : Int} (h : x ≠ y) : (x != y) = true ∧ (x == y) = false := by simp [h]
theorem txt_eq {a b : List UInt8} : ((txt a).toList == (txt b).toList) = decide (a = b) := txt_beq a b
set_option maxHeartbeats 2000000 in
set_option maxRecDepth 100000 in
theorem same_any (A A' : Option Addr) (c c' B B' : Nat) (fs gs : List Ed) (w : World) (hl : fs.length ≤ 1099511627776) (hl' : gs.length ≤ 1099511627776) (hB : B ≤ w.heap.size) (hB' : B' ≤ w.heap.size) (hr : RdE w B A fs) (hr' : RdE w B' A' gs) :
    Calls Try.prog 19 #[.slice A fs.length c, .slice A' gs.length c'] w fun e w' => e = .returned (.bool (decide (fs = gs))) ∧ Below w.heap.size w w' := by
  have hlen : (fs.length : Int) ≤ 1099511627776 := by omega
  have hlen' : (gs.length : Int) ≤ 1099511627776 := by omega
  clear hl hl'
  by_cases hlm : fs.length = gs.length
  · have hne : ((fs.length : Int) != (gs.length : Int)) = false := by rw [hlm]; simp
    have hne' : (fs.length != gs.length) = false := by rw [hlm]; simp
    have Hlm := Lib.hid hlm
    clear hlm
    go_enter Try.func19, Try.ntmps19
    go_wp2
    go_loopw [5] (fun i wr => ∃ k : Nat, k ≤ fs.length ∧ i = .int .i64 (k : Int) ∧ Hid (fs.take k = gs.take k) ∧ Below w.heap.size w wr) (fun i _ => fs.length - (Lib.intOf i).toNat)
    case atStart => exact ⟨0, by omega, rfl, by exact rfl, .refl _ _⟩
    case round =>
      obtain ⟨k, hk, rfl, ht, hb⟩ := hrel
      by_cases hlt : k < fs.length
      · have hlt' : k < gs.length := by have := Hlm.out; omega
        obtain ⟨ad, x, rfl, hab, c0, c1, c2, hx⟩ := RdE.at_ (Reads.below hr (hb.mono hB)) hlt
        obtain ⟨ad', y, rfl, hab', d0, d1, d2, hy⟩ := RdE.at_ (Reads.below hr' (hb.mono hB')) hlt'
        have hkI : (k : Int) < (fs.length : Int) := by omega
        have hkI' : (k : Int) < (gs.length : Int) := by omega
        clear hab hab'
        by_cases hxy : x = y
        · have Hon : Hid (fs.take (k + 1) = gs.take (k + 1)) := by
            show _ = _
            rw [take_snoc hx, take_snoc hy, ht.out, hxy]
          subst hxy
          have g0 := ne_false (x := (x.k.toNat : Int)) rfl
          have g1 := ne_false (x := x.n) rfl
          go_wp2
          go_quiet (fail)
          go_wp2
          go_roundw
          case rel => exact ⟨k + 1, by omega, by go_num, Hon.out, below_drewN hb _⟩
          case measure => simp [Lib.intOf]; omega
        · have Hno := Lib.hid (decide_eq_false (take_of_eq hx hy hxy))
          by_cases hk0 : x.k = y.k
          · by_cases hn0 : x.n = y.n
            · have hs0 : x.s ≠ y.s := fun hs => hxy (by cases x; cases y; simp_all)
              have g5 := txt_eq (a := x.s) (b := y.s)
              rw [decide_eq_false hs0] at g5
              have g0 : ((x.k.toNat : Int) != (y.k.toNat : Int)) = false := by rw [hk0]; simp
              have g0' : (x.k.toNat != y.k.toNat) = false := by rw [hk0]; simp
              have g1 : (x.n != y.n) = false := by rw [hn0]; simp
              clear hxy hk0 hn0 hs0
              go_wp2
              go_quiet (fail)
              go_wp2
              go_ret
              exact ⟨ret_b Hno.out.symm, below_drewN hb _⟩
            · have g0 : ((x.k.toNat : Int) != (y.k.toNat : Int)) = false := by rw [hk0]; simp
              have g0' : (x.k.toNat != y.k.toNat) = false := by rw [hk0]; simp
              have g1 : (x.n != y.n) = true := by simpa using hn0
              clear hxy hk0 hn0
              go_wp2
              go_quiet (fail)
              go_wp2
              go_ret
              exact ⟨ret_b Hno.out.symm, below_drewN hb _⟩
          · have hk1 : x.k.toNat ≠ y.k.toNat := fun e => hk0 (UInt8.toNat_inj.1 e)
            have g0 : ((x.k.toNat : Int) != (y.k.toNat : Int)) = true := by simpa using (show (x.k.toNat : Int) ≠ (y.k.toNat : Int) by omega)
            have g0' : (x.k.toNat != y.k.toNat) = true := by simpa using hk1
            clear hxy hk0 hk1
            go_wp2
            go_quiet (fail)
            go_wp2
            go_ret
            exact ⟨ret_b Hno.out.symm, below_drewN hb _⟩
      · obtain rfl : k = fs.length := by omega
        have Hfin : Hid (decide (fs = gs) = true) := by
          have := ht.out
          rw [List.take_length, Hlm.out, List.take_length] at this
          exact decide_eq_true this
        go_wp2
        go_ret
        exact ⟨ret_b Hfin.out.symm, hb⟩
  · have hne : ((fs.length : Int) != (gs.length : Int)) = true := by rw [bne_iff_ne]; omega
    have hne' : (fs.length != gs.length) = true := by rw [bne_iff_ne]; omega
    have Hno := Lib.hid (show decide (fs = gs) = false from decide_eq_false fun e => hlm (by rw [e]))
    clear hlm
    go_enter Try.func19, Try.ntmps19
    go_wp2
    go_ret
    exact ⟨ret_b Hno.out.symm, .refl _ _⟩
end Go.Proofs.Ytohgghaooppcoaa
