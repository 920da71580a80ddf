/- The walks of the laws' own helpers: few, rows, same. Conditions: rows of at most 2^47 - 4096 bytes. -/
import Derived.Test.YtogoaihimepboaaKJoN
namespace Go.Proofs.Ytogoaihimepboaa
open Go.RowKit

/-- At most 10 payloads, of 200 bytes? -/
def FewJ (rows : List Row) : Prop := rows.length ≤ 10 ∧ ∀ r ∈ rows, r.l.length ≤ 200
instance (rows : List Row) : Decidable (FewJ rows) := inferInstanceAs (Decidable (_ ∧ _))

set_option maxHeartbeats 1000000 in
set_option maxRecDepth 100000 in
theorem fewJ_any (A : Option Addr) (c B n : Nat) (rows : List Row) (w : World) (hn : rows.length = n) (hl : n ≤ 9223372036854775807) (hls : ∀ r ∈ rows, r.l.length ≤ 9223372036854775807) (hr : RdR w B A rows) :
    Calls Try.prog 21 #[.slice A n c] w fun e w' => e = .returned (.bool (decide (FewJ rows))) ∧ w = w' := by
  subst hn
  have hlen : (rows.length : Int) ≤ 9223372036854775807 := by omega
  have Hls := Lib.hid hls
  clear hl hls
  go_enter Try.func21, Try.ntmps21
  go_wp2
  go_loop [3] (fun i => ∃ k : Nat, k ≤ rows.length ∧ k ≤ 11 ∧ i = .int .i64 (k : Int) ∧ Hid (∀ r ∈ rows.take k, r.l.length ≤ 200)) (fun i => 11 - (intOf i).toNat)
  case atStart => exact ⟨0, by omega, by omega, rfl, by intro f hf; simp at hf⟩
  case round =>
    obtain ⟨k, hk, hk11, rfl, hall⟩ := hrel
    by_cases hlt : k < rows.length
    · by_cases h11 : k < 11
      · obtain ⟨ad, r, rfl, _, hc1, hx, hrow⟩ := hr.at_ hlt
        have hll : (r.l.length : Int) ≤ 9223372036854775807 := by have := Hls.out r (mem_of_get hx); omega
        by_cases hbig : 200 < r.l.length
        · have hbI : (200 : Int) < (r.l.length : Int) := by omega
          have Hno := Lib.hid (show decide (FewJ rows) = false by rw [decide_eq_false_iff_not]; intro h; have := h.2 r (mem_of_get hx); omega)
          clear hbig hall
          go_wp2
          go_ret
          exact ⟨ret_bool Hno.out.symm, rfl⟩
        · have hbI : (r.l.length : Int) ≤ 200 := by omega
          have hall' : Hid (∀ q ∈ rows.take (k + 1), q.l.length ≤ 200) := by
            intro g hg
            rw [take_snoc hx, List.mem_append, List.mem_singleton] at hg
            rcases hg with hg | rfl
            · exact hall.out g hg
            · omega
          clear hbig hall hll
          go_wp2
          go_round
          case rel => exact ⟨k + 1, by omega, by omega, by go_num, hall'⟩
          case measure => simp [intOf]; omega
      · have hno : decide (FewJ rows) = false := by rw [decide_eq_false_iff_not]; intro h; have := h.1; omega
        have Hno := Lib.hid hno
        have h10 : (10 : Int) < (rows.length : Int) := by omega
        clear hno
        go_wp2
        go_ret
        exact ⟨ret_bool (by rw [Hno.out, decide_eq_false_iff_not]; omega), rfl⟩
    · obtain rfl : k = rows.length := by omega
      have hyes : decide (FewJ rows) = decide ((rows.length : Int) ≤ 10) := by
        rw [Bool.eq_iff_iff, decide_eq_true_iff, decide_eq_true_iff]
        constructor
        · intro h; have := h.1; omega
        · intro h
          refine ⟨by omega, fun f hf => hall.out f (by rw [List.take_length]; exact hf)⟩
      have Hyes := Lib.hid hyes
      clear hyes hall
      go_wp2
      go_ret
      exact ⟨ret_bool Hyes.out.symm, rfl⟩

theorem map_get {rows : List Row} {k : Nat} {r : Row} (h : Hid (rows[k]? = some r)) : Hid ((rows.map (·.l))[k]? = some r.l) := by
  show _ = _
  rw [List.getElem?_map, h.out]
  rfl
set_option maxHeartbeats 2000000 in
set_option maxRecDepth 100000 in
theorem rowsJ_any (A A' : Option Addr) (c c' B B' n n' : Nat) (fs gs : List Row) (w : World) (hn : fs.length = n) (hn' : gs.length = n') (hl : n ≤ 1099511627776) (hl' : n' ≤ 1099511627776) (hls : ∀ f ∈ fs, f.l.length ≤ 140737488351232) (hB : B ≤ w.heap.size) (hB' : B' ≤ w.heap.size) (hr : RdR w B A fs) (hr' : RdR w B' A' gs) :
    Calls Try.prog 17 #[.slice A n c, .slice A' n' c'] w fun e w' => e = .returned (.bool (decide (fs.map (·.l) = gs.map (·.l)))) ∧ Below w.heap.size w w' := by
  subst hn hn'
  have hlen : (fs.length : Int) ≤ 1099511627776 := by omega
  have hlen' : (gs.length : Int) ≤ 1099511627776 := by omega
  have Hls := Lib.hid hls
  clear hl hl' hls
  by_cases hlm : fs.length = gs.length
  · have hne : ((fs.length : Int) != (gs.length : Int)) = false := by rw [hlm]; simp
    have hne' : (fs.length != gs.length) = false := by rw [hlm]; simp
    have Hlm := Lib.hid hlm
    clear hlm
    go_enter Try.func17, Try.ntmps17
    go_wp2
    go_loopw [5] (fun i wr => ∃ k : Nat, k ≤ fs.length ∧ i = .int .i64 (k : Int) ∧ Hid ((fs.map (·.l)).take k = (gs.map (·.l)).take k) ∧ Below w.heap.size w wr) (fun i _ => fs.length - (intOf i).toNat)
    case atStart => exact ⟨0, by omega, rfl, by exact rfl, .refl _ _⟩
    case round =>
      obtain ⟨k, hk, rfl, ht, hb⟩ := hrel
      by_cases hlt : k < fs.length
      · have hlt' : k < gs.length := by have := Hlm.out; omega
        obtain ⟨ad, f, rfl, hab, hc1, hx, hrow⟩ := (hr.below (hb.mono hB)).at_ hlt
        obtain ⟨ad', g, rfl, hab', hc1', hx', hrow'⟩ := (hr'.below (hb.mono hB')).at_ hlt'
        have hS : ∀ wx, Below w.heap.size wr wx → wx.cell? (ad.add k) = some (.slice f.A f.l.length f.c) ∧ wx.cell? (ad'.add k) = some (.slice g.A g.l.length g.c) := by
          intro wx hx
          have e1 : (ad.add k).block < w.heap.size := by rw [block_of_add]; omega
          have e2 : (ad'.add k).block < w.heap.size := by rw [block_of_add]; omega
          exact ⟨(hx.cell e1).trans hc1, (hx.cell e2).trans hc1'⟩
        have HS := Lib.hid hS
        have hSB := Lib.hid (sameBytes_any f.A g.A f.c g.c B B' f.l g.l wr.drew (Hls.out f (mem_of_get hx)) (Reads.drew hrow) (Reads.drew hrow'))
        have hkI : (k : Int) < (fs.length : Int) := by omega
        have hkI' : (k : Int) < (gs.length : Int) := by omega
        have Hb := Lib.hid hb
        clear hS hrow hrow' hc1 hc1' hab hab' hb
        by_cases heq : f.l = g.l
        · have He := Lib.hid (show decide (f.l = g.l) = true from decide_eq_true heq)
          have hgx := map_get hx'
          rw [← heq] at hgx
          have Hon := Lib.hid (takes_snoc ht (map_get hx) hgx).out
          clear heq hgx
          go_wp2_with fail
          go_region_held3 (fun wx => wx.cell? (ad.add k) = some (.slice f.A f.l.length f.c) ∧ wx.cell? (ad'.add k) = some (.slice g.A g.l.length g.c)) (first | exact HS.out _ Hb2.out | exact HS.out _ (Below.refl _ _).drew) (first | (go_at_call 16; refine hSB.out.mono ?_; rintro e w2 ⟨rfl, k2, hk2⟩; rw [He.out]; have Hb2 := Lib.hid (show Below w.heap.size wr w2 by rw [hk2]; exact below_drewN (Below.refl _ _).drew k2); clear hk2))
          go_wp2
          go_roundw
          case rel => exact ⟨k + 1, by omega, by go_num, Hon.out, Hb.out.trans Hb2.out⟩
          case measure => simp [intOf]; omega
        · have He := Lib.hid (show decide (f.l = g.l) = false from decide_eq_false heq)
          have Hno := Lib.hid (ne_of_get (map_get hx) (map_get hx') heq)
          clear heq
          go_wp2_with fail
          go_region_held3 (fun wx => wx.cell? (ad.add k) = some (.slice f.A f.l.length f.c) ∧ wx.cell? (ad'.add k) = some (.slice g.A g.l.length g.c)) (first | exact HS.out _ Hb2.out | exact HS.out _ (Below.refl _ _).drew) (first | (go_at_call 16; refine hSB.out.mono ?_; rintro e w2 ⟨rfl, k2, hk2⟩; rw [He.out]; have Hb2 := Lib.hid (show Below w.heap.size wr w2 by rw [hk2]; exact below_drewN (Below.refl _ _).drew k2); clear hk2))
          go_wp2
          go_ret
          exact ⟨ret_bool Hno.out.symm, Hb.out.trans Hb2.out⟩
      · obtain rfl : k = fs.length := by omega
        have hfin : decide (fs.map (·.l) = gs.map (·.l)) = true := by
          have h2 := Hlm.out
          refine eq_of_takes (by rw [List.length_map, List.length_map]; exact h2) ?_
          have := ht.out
          show _ = _
          rw [List.length_map]
          exact this
        have Hfin := Lib.hid hfin
        clear hfin
        go_wp2
        go_ret
        exact ⟨ret_bool Hfin.out.symm, hb⟩
  · have hne : ((fs.length : Int) != (gs.length : Int)) = true := by rw [bne_iff_ne]; omega
    have hne' : (fs.length != gs.length) = true := by rw [bne_iff_ne]; omega
    have Hno := Lib.hid (take_eq_of_len (l := fs.map (·.l)) (m := gs.map (·.l)) (by rw [List.length_map, List.length_map]; exact hlm))
    clear hlm
    go_enter Try.func17, Try.ntmps17
    go_wp2
    go_ret
    exact ⟨ret_bool Hno.out.symm, .refl _ _⟩

set_option maxHeartbeats 1000000 in
set_option maxRecDepth 100000 in
theorem sameR_any (s m : Nat) (w : World) : Calls Try.prog 26 #[rfV s m, rfV s m] w fun e w' => e = .returned (.bool true) ∧ Below w.heap.size w w' := by
  unfold rfV
  have hb : Hid (Below w.heap.size w ((w.alloc (.cells #[.int .u64 (s : Int), .int .u64 (m : Int)] 25)).alloc (.cells #[.int .u64 (s : Int), .int .u64 (m : Int)] 34))) := (below_new _ _).alloc (by simp) _
  go_enter Try.func26, Try.ntmps26
  go_wp2
  go_ret
  exact ⟨rfl, hb.out⟩
end Go.Proofs.Ytogoaihimepboaa
