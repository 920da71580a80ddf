/- How many bytes edits have: the program's Sizes and the document's. Conditions: at most 65536 edits. -/
import Derived.Test.YtohgghaooppcoaaDlB
namespace Go.Proofs.Ytohgghaooppcoaa
open Go.RowKit Go.Lib

theorem frN_of {x : Ed} (h : rt x = true) : frN x = x.n.toNat := by unfold frN; rw [if_pos h]
theorem frN_no {x : Ed} (h : rt x = false) : frN x = 0 := by unfold frN; rw [if_neg (by simp [h])]
theorem toN_no {x : Ed} (h : rt x = false) : toN x = 0 := by unfold toN; rw [if_neg (by simp [h])]
theorem toN_three {x : Ed} (h : rt x = true) (h3 : x.k = 3) : toN x = 0 := by unfold toN; rw [if_pos h, if_pos h3]
theorem toN_not {x : Ed} (h : rt x = true) (h3 : x.k ≠ 3) : toN x = x.n.toNat + x.s.length := by unfold toN; rw [if_pos h, if_neg h3]
theorem ne_lit {k : UInt8} {m : Nat} (hm : m < 256) (h : k ≠ UInt8.ofNat m) : ((k.toNat : Int) != (m : Int)) = true ∧ ((k.toNat : Int) == (m : Int)) = false := by
  have := fun e => h ((u8_lit hm).1 e)
  simpa using this
theorem eq_lit {k : UInt8} {m : Nat} (hm : m < 256) (h : k = UInt8.ofNat m) : ((k.toNat : Int) != (m : Int)) = false ∧ ((k.toNat : Int) == (m : Int)) = true := by
  have := (u8_lit hm).2 h
  simpa using this
/-- The bounds of an edit that is right. -/
theorem rt_bounds {x : Ed} (h : rt x = true) : ∃ m : Nat, x.n = (m : Int) ∧ (m : Int) ≤ 2147483647 ∧ frN x = m := by
  have := rt_n h
  exact ⟨x.n.toNat, by omega, by omega, frN_of h⟩
def SzSt (l : List Ed) (k F T : Nat) : Prop := F = szF (l.take k) ∧ T = szT (l.take k)
theorem szSt_le {l : List Ed} {k F T : Nat} (h : SzSt l k F T) (hok : Oks l) (hl : l.length ≤ 65536) : F ≤ 140737488289792 ∧ T ≤ 216896493256704 := by
  obtain ⟨rfl, rfl⟩ := h
  have h1 := szF_le (l.take k)
  have h2 := szT_le (l.take k) 1099511627 (fun x hx => (hok x (List.mem_of_mem_take hx)).s)
  have h3 : (l.take k).length ≤ 65536 := Nat.le_trans (List.length_take_le' _ _) hl
  have h4 : 2147483647 * (l.take k).length ≤ 2147483647 * 65536 := Nat.mul_le_mul_left _ h3
  have h5 : (2147483647 + 1099511627) * (l.take k).length ≤ (2147483647 + 1099511627) * 65536 := Nat.mul_le_mul_left _ h3
  omega
theorem szSt_on {l : List Ed} {k F T f t : Nat} {x : Ed} (h : SzSt l k F T) (hx : Hid (l[k]? = some x)) (hf : frN x = f) (ht : toN x = t) : SzSt l (k + 1) (F + f) (T + t) := by
  obtain ⟨rfl, rfl⟩ := h
  rw [SzSt, szF_snoc hx, szT_snoc hx, hf, ht]
  exact ⟨rfl, rfl⟩
theorem szSt_end {l : List Ed} {F T : Nat} (h : SzSt l l.length F T) : F = szF l ∧ T = szT l := by
  obtain ⟨rfl, rfl⟩ := h
  rw [List.take_length]
  exact ⟨rfl, rfl⟩
theorem ret_sizes {l : List Ed} {F T : Nat} (h : SzSt l l.length F T) : Ending.returned (.tuple #[.int .i64 (F : Int), .int .i64 (T : Int)]) = .returned (.tuple #[.int .i64 ((szF l : Nat) : Int), .int .i64 ((szT l : Nat) : Int)]) := by
  obtain ⟨h1, h2⟩ := szSt_end h
  rw [h1, h2]
set_option maxHeartbeats 1000000 in
set_option maxRecDepth 100000 in
theorem sizes_any (A : Option Addr) (c B : Nat) (l : List Ed) (w : World) (hl : l.length ≤ 65536) (hok : Oks l) (hB : B ≤ w.heap.size) (hr : RdE w B A l) :
    Calls Try.prog 13 #[.slice A l.length c] w fun e w' => e = .returned (.tuple #[.int .i64 ((szF l : Nat) : Int), .int .i64 ((szT l : Nat) : Int)]) ∧ Below w.heap.size w w' := by
  have hlen : (l.length : Int) ≤ 65536 := by omega
  have HB := Lib.hid hB
  have Hok : Hid (Oks l) := hok
  have Hl := Lib.hid hl
  clear hl hB hok
  go_enter Try.func13, Try.ntmps13
  go_wp2
  go_loopw [2, 3, 8] (fun f t i wr => ∃ k F T : Nat, k ≤ l.length ∧ i = .int .i64 (k : Int) ∧ f = .int .i64 (F : Int) ∧ t = .int .i64 (T : Int) ∧ Hid (SzSt l k F T) ∧ Below w.heap.size w wr) (fun _ _ i _ => l.length - (Lib.intOf i).toNat)
  case atStart => exact ⟨0, 0, 0, by omega, rfl, rfl, rfl, ⟨rfl, rfl⟩, .refl _ _⟩
  case round =>
    obtain ⟨k, F, T, hk, rfl, rfl, rfl, hst, hb⟩ := hrel
    by_cases hlt : k < l.length
    · obtain ⟨ad, x, rfl, _, hc0, hc1, hc2, hx⟩ := RdE.at_ (Reads.below hr (hb.mono HB.out)) hlt
      have hle := szSt_le hst.out Hok.out Hl.out
      have hF : (F : Int) ≤ 140737488289792 := by omega
      have hT : (T : Int) ≤ 216896493256704 := by omega
      have hs := (Hok.out.get hx).s
      have hsI : ((txt x.s).size : Int) ≤ 1099511627 := by rw [txt_size]; omega
      have hb1 := hb.alloc hb.size (.cells x.cells.toArray 47)
      clear hle hs
      rcases hid_bool (rt x) with hrt | hrt
      · obtain ⟨m, hn, hm, hf⟩ := rt_bounds hrt.out
        have Hf := Lib.hid hf
        have Hn := Lib.hid hn
        rw [hn] at hc1
        have hz : (wr.alloc (.cells #[.int .u8 (x.k.toNat : Int), .int .i64 (m : Int), .string (txt x.s)] 47)) = wr.alloc (.cells x.cells.toArray 47) := by rw [← hn]; rfl
        rw [← hz] at hb1
        have hcall : Calls Try.prog 34 #[.agg #[.int .u8 (x.k.toNat : Int), .int .i64 (m : Int), .string (txt x.s)]] (wr.alloc (.cells #[.int .u8 (x.k.toNat : Int), .int .i64 (m : Int), .string (txt x.s)] 47)) fun e w' => e = .returned (.bool true) ∧ Below (wr.alloc (.cells #[.int .u8 (x.k.toNat : Int), .int .i64 (m : Int), .string (txt x.s)] 47)).heap.size (wr.alloc (.cells #[.int .u8 (x.k.toNat : Int), .int .i64 (m : Int), .string (txt x.s)] 47)) w' := by
          rw [← hn]; exact right_is x true hrt _
        clear hn hz hf
        by_cases h3 : x.k = 3
        · obtain ⟨g1, g2⟩ := eq_lit (m := 3) (by omega) h3
          have Ht := Lib.hid (toN_three hrt.out h3)
          clear h3
          go_wp2_with fail
          refine hcall.mono ?_
          rintro e w1 ⟨rfl, hb2⟩
          have hcc := fun j => (hb2.cell (p := ⟨wr.heap.size, j, none⟩) (by simp)).trans (cell_of_row _ _ j _ _ _ (heap_alloc_new wr _))
          have d0 := hcc 0
          have d1 := hcc 1
          have d2 := hcc 2
          clear hcc
          have hb3 := hb1.trans (hb2.mono hb1.size)
          go_wp2
          go_roundw
          case rel => exact ⟨k + 1, F + m, T, by omega, by go_num, by go_num, rfl, szSt_on hst.out hx Hf.out Ht.out, hb3⟩
          case measure => simp [Lib.intOf]; omega
        · obtain ⟨g1, g2⟩ := ne_lit (m := 3) (by omega) h3
          have Ht := Lib.hid (toN_not hrt.out h3)
          clear h3
          go_wp2_with fail
          refine hcall.mono ?_
          rintro e w1 ⟨rfl, hb2⟩
          have hcc := fun j => (hb2.cell (p := ⟨wr.heap.size, j, none⟩) (by simp)).trans (cell_of_row _ _ j _ _ _ (heap_alloc_new wr _))
          have d0 := hcc 0
          have d1 := hcc 1
          have d2 := hcc 2
          clear hcc
          have hb3 := hb1.trans (hb2.mono hb1.size)
          go_wp2
          go_roundw
          case rel => exact ⟨k + 1, F + m, T + (m + x.s.length), by omega, by go_num, by go_num, by rw [← txt_size]; go_num, szSt_on hst.out hx Hf.out (by rw [Ht.out, ← frN_of hrt.out, Hf.out]), hb3⟩
          case measure => simp [Lib.intOf]; omega
      · have Hf := Lib.hid (frN_no hrt.out)
        have Ht := Lib.hid (toN_no hrt.out)
        go_wp2_with fail
        refine (right_is x false hrt _).mono ?_
        rintro e w1 ⟨rfl, hb2⟩
        have hb3 := hb1.trans (hb2.mono hb1.size)
        go_wp2
        go_roundw
        case rel => exact ⟨k + 1, F, T, by omega, by go_num, rfl, rfl, szSt_on hst.out hx Hf.out Ht.out, hb3⟩
        case measure => simp [Lib.intOf]; omega
    · obtain rfl : k = l.length := by omega
      go_wp2
      go_ret2
      exact ⟨ret_sizes hst.out, hb⟩
theorem wr64 {a b : Nat} (h : a + b ≤ 9223372036854775807) : IntKind.i64.wrap ((a : Int) + (b : Int)) = ((a + b : Nat) : Int) := by
  rw [IntWalk.i64_in _ (by omega)]
  omega
set_option maxHeartbeats 1000000 in
set_option maxRecDepth 100000 in
theorem refSizes_any (A : Option Addr) (c B : Nat) (l : List Ed) (w : World) (hl : l.length ≤ 65536) (hok : Oks l) (hB : B ≤ w.heap.size) (hr : RdE w B A l) :
    Calls Try.prog 14 #[.slice A l.length c] w fun e w' => e = .returned (.tuple #[.int .i64 ((szF l : Nat) : Int), .int .i64 ((szT l : Nat) : Int)]) ∧ Below w.heap.size w w' := by
  have hlen : (l.length : Int) ≤ 65536 := by omega
  have HB := Lib.hid hB
  have Hok : Hid (Oks l) := hok
  have Hl := Lib.hid hl
  clear hl hB hok
  go_enter Try.func14, Try.ntmps14
  go_wp2
  go_loopw [4, 5, 6] (fun f t i wr => ∃ k F T : Nat, k ≤ l.length ∧ i = .int .i64 (k : Int) ∧ f = .int .i64 (F : Int) ∧ t = .int .i64 (T : Int) ∧ Hid (SzSt l k F T) ∧ Below w.heap.size w wr) (fun _ _ i _ => l.length - (Lib.intOf i).toNat)
  case atStart => exact ⟨0, 0, 0, by omega, rfl, rfl, rfl, ⟨rfl, rfl⟩, .refl _ _⟩
  case round =>
    obtain ⟨k, F, T, hk, rfl, rfl, rfl, hst, hb⟩ := hrel
    by_cases hlt : k < l.length
    · obtain ⟨ad, x, rfl, had, hc0, hc1, hc2, hx⟩ := RdE.at_ (Reads.below hr (hb.mono HB.out)) hlt
      have hle := szSt_le hst.out Hok.out Hl.out
      have hF : (F : Int) ≤ 140737488289792 := by omega
      have hT : (T : Int) ≤ 216896493256704 := by omega
      have hT' : T ≤ 216896493256704 := hle.2
      have hs := (Hok.out.get hx).s
      have hsI : ((txt x.s).size : Int) ≤ 1099511627 := by rw [txt_size]; omega
      have hsN : (txt x.s).size ≤ 1099511627 := by rw [txt_size]; omega
      clear hle hs
      have hkeep : ∀ (w1 : World) (_ : Below wr.heap.size wr w1), w1.cell? (ad.add (k * 3)) = some (.int .u8 (x.k.toNat : Int)) ∧ w1.cell? ⟨(ad.add (k * 3)).block, (ad.add (k * 3)).off + 1, none⟩ = some (.int .i64 x.n) ∧ w1.cell? ⟨(ad.add (k * 3)).block, (ad.add (k * 3)).off + 2, none⟩ = some (.string (txt x.s)) := by
        intro w1 h1
        have hlt' : (ad.add (k * 3)).block < wr.heap.size := by rw [block_of_add]; have := HB.out; have := hb.size; omega
        exact ⟨(h1.cell (p := ad.add (k * 3)) hlt').trans hc0, (h1.cell (p := ⟨(ad.add (k * 3)).block, (ad.add (k * 3)).off + 1, none⟩) hlt').trans hc1, (h1.cell (p := ⟨(ad.add (k * 3)).block, (ad.add (k * 3)).off + 2, none⟩) hlt').trans hc2⟩
      have Hkeep := Lib.hid hkeep
      clear hkeep
      rcases hid_bool (rt x) with hrt | hrt
      · obtain ⟨m, hn, hm, hf⟩ := rt_bounds hrt.out
        have Hf := Lib.hid hf
        have hm' : m ≤ 2147483647 := by omega
        have hsum1 := Lib.hid (wr64 (a := T) (b := m) (by omega))
        have hsum2 := Lib.hid (wr64 (a := T + m) (b := (txt x.s).size) (by omega))
        have Hn := Lib.hid hn
        have hcall : Calls Try.prog 35 #[.agg #[.int .u8 (x.k.toNat : Int), .int .i64 x.n, .string (txt x.s)]] wr fun e w' => e = .returned (.bool true) ∧ Below wr.heap.size wr w' := refRight_is x true hrt (Hok.out.get hx) _
        clear hn hf
        by_cases h2 : x.k = 2
        · obtain ⟨g1, g2⟩ := eq_lit (m := 2) (by omega) h2
          obtain ⟨g3, g4⟩ := ne_lit (k := x.k) (m := 3) (by omega) (by rw [h2]; decide)
          have Ht := Lib.hid (toN_not hrt.out (by rw [h2]; decide))
          have Hm0 : Hid (m = 0) := by
            rcases rt_cases hrt.out with ⟨_, h, _⟩ | ⟨_, h, _⟩
            · have := Hn.out; show m = 0; omega
            · exact absurd h2 h
          clear h2
          go_wp2_with fail
          refine hcall.mono ?_
          rintro e w1 ⟨rfl, hb2⟩
          obtain ⟨d0, d1, d2⟩ := Hkeep.out w1 hb2
          rw [Hn.out] at d1
          have hb3 := hb.trans (hb2.mono hb.size)
          clear hc0 hc1 hc2
          have s1 := hsum1.out
          have s2 := hsum2.out
          go_wp2
          go_quiet (fail)
          clear s1 s2
          go_wp2
          go_roundw
          case rel => exact ⟨k + 1, F + m, T + (m + x.s.length), by omega, by go_num, by rw [Hm0.out]; rfl, by rw [← txt_size]; go_num, szSt_on hst.out hx Hf.out (by rw [Ht.out, ← frN_of hrt.out, Hf.out]), below_drewN hb3 _⟩
          case measure => simp [Lib.intOf]; omega
        · obtain ⟨g1, g2⟩ := ne_lit (k := x.k) (m := 2) (by omega) h2
          clear h2
          by_cases h3 : x.k = 3
          · obtain ⟨g3, g4⟩ := eq_lit (m := 3) (by omega) h3
            have Ht := Lib.hid (toN_three hrt.out h3)
            clear h3
            go_wp2_with fail
            refine hcall.mono ?_
            rintro e w1 ⟨rfl, hb2⟩
            obtain ⟨d0, d1, d2⟩ := Hkeep.out w1 hb2
            rw [Hn.out] at d1
            have hb3 := hb.trans (hb2.mono hb.size)
            clear hc0 hc1 hc2
            go_wp2
            go_roundw
            case rel => exact ⟨k + 1, F + m, T, by omega, by go_num, by go_num, rfl, szSt_on hst.out hx Hf.out Ht.out, hb3⟩
            case measure => simp [Lib.intOf]; omega
          · obtain ⟨g3, g4⟩ := ne_lit (k := x.k) (m := 3) (by omega) h3
            have Ht := Lib.hid (toN_not hrt.out h3)
            clear h3
            go_wp2_with fail
            refine hcall.mono ?_
            rintro e w1 ⟨rfl, hb2⟩
            obtain ⟨d0, d1, d2⟩ := Hkeep.out w1 hb2
            rw [Hn.out] at d1
            have hb3 := hb.trans (hb2.mono hb.size)
            clear hc0 hc1 hc2
            have s1 := hsum1.out
            have s2 := hsum2.out
            go_wp2
            go_quiet (fail)
            clear s1 s2
            go_wp2
            go_roundw
            case rel => exact ⟨k + 1, F + m, T + (m + x.s.length), by omega, by go_num, by go_num, by rw [← txt_size]; go_num, szSt_on hst.out hx Hf.out (by rw [Ht.out, ← frN_of hrt.out, Hf.out]), below_drewN hb3 _⟩
            case measure => simp [Lib.intOf]; omega
      · have Hf := Lib.hid (frN_no hrt.out)
        have Ht := Lib.hid (toN_no hrt.out)
        go_wp2_with fail
        refine (refRight_is x false hrt (Hok.out.get hx) _).mono ?_
        rintro e w1 ⟨rfl, hb2⟩
        have hb3 := hb.trans (hb2.mono hb.size)
        clear hc0 hc1 hc2
        go_wp2
        go_roundw
        case rel => exact ⟨k + 1, F, T, by omega, by go_num, rfl, rfl, szSt_on hst.out hx Hf.out Ht.out, hb3⟩
        case measure => simp [Lib.intOf]; omega
    · obtain rfl : k = l.length := by omega
      go_wp2
      go_ret2
      exact ⟨ret_sizes hst.out, hb⟩
end Go.Proofs.Ytohgghaooppcoaa
