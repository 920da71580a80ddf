/- The walks of sameAll and refs. Conditions: bodies of at most 2^47 - 4096 bytes; at most 2^40 frames. -/
import Derived.Test.YtfjgmbnnmobkbaaFrK
import Derived.Deep.RegionHeld3
namespace Go.Proofs.Ytfjgmbnnmobkbaa
open Go.RowKit

theorem not_false_bool {b : Bool} (h : b = true) : (!b) = false := by rw [h]; rfl

set_option maxHeartbeats 2000000 in
set_option maxRecDepth 100000 in
theorem sameAll_any (A A' : Option Addr) (c c' B B' : Nat) (fs gs : List Fr) (w : World) (hl : fs.length ≤ 1099511627776) (hl' : gs.length ≤ 1099511627776) (hls : ∀ f ∈ fs, f.r.l.length ≤ 140737488351232) (hB : B ≤ w.heap.size) (hB' : B' ≤ w.heap.size) (hr : RdF w B A fs) (hr' : RdF w B' A' gs) :
    Calls Try.prog 19 #[.slice A fs.length c, .slice A' gs.length c'] w fun e w' => e = .returned (.bool (decide (fks fs = fks gs))) ∧ Below w.heap.size w w' := by
  have hlen : (fs.length : Int) ≤ 1099511627776 := by omega
  have hlen' : (gs.length : Int) ≤ 1099511627776 := by omega
  have Hls := Lib.hid hls
  clear hl hl' hls
  by_cases hlm : fs.length = gs.length
  · have hne : ((fs.length : Int) != (gs.length : Int)) = false := by rw [hlm]; simp
    have hne' : (fs.length != gs.length) = false := by rw [hlm]; simp
    have Hlm := Lib.hid hlm
    clear hlm
    go_enter Try.func19, Try.ntmps19
    go_wp2
    go_loopw [5] (fun i wr => ∃ k : Nat, k ≤ fs.length ∧ i = .int .i64 (k : Int) ∧ Hid ((fks fs).take k = (fks gs).take k) ∧ Below w.heap.size w wr) (fun i _ => fs.length - (intOf i).toNat)
    case atStart => exact ⟨0, by omega, rfl, by exact rfl, .refl _ _⟩
    case round =>
      obtain ⟨k, hk, rfl, ht, hb⟩ := hrel
      by_cases hlt : k < fs.length
      · have hlt' : k < gs.length := by have := Hlm.out; omega
        obtain ⟨ad, f, rfl, hab, hc1, hc2, hx, hrow⟩ := (hr.below (hb.mono hB)).at_ hlt
        obtain ⟨ad', g, rfl, hab', hc1', hc2', hx', hrow'⟩ := (hr'.below (hb.mono hB')).at_ hlt'
        have hS : ∀ wx, Below w.heap.size wr wx → wx.cell? (ad.add (k * 2)) = some (.int .u8 (f.k.toNat : Int)) ∧ wx.cell? ⟨(ad.add (k * 2)).block, (ad.add (k * 2)).off + 1, none⟩ = some (.slice f.r.A f.r.l.length f.r.c) ∧ wx.cell? (ad'.add (k * 2)) = some (.int .u8 (g.k.toNat : Int)) ∧ wx.cell? ⟨(ad'.add (k * 2)).block, (ad'.add (k * 2)).off + 1, none⟩ = some (.slice g.r.A g.r.l.length g.r.c) := by
          intro wx hx
          have e1 : (ad.add (k * 2)).block < w.heap.size := by rw [block_of_add]; omega
          have e2 : (ad'.add (k * 2)).block < w.heap.size := by rw [block_of_add]; omega
          exact ⟨(hx.cell e1).trans hc1, (hx.cell (p := ⟨(ad.add (k * 2)).block, (ad.add (k * 2)).off + 1, none⟩) e1).trans hc2, (hx.cell e2).trans hc1', (hx.cell (p := ⟨(ad'.add (k * 2)).block, (ad'.add (k * 2)).off + 1, none⟩) e2).trans hc2'⟩
        have HS := Lib.hid hS
        have Hf := Lib.hid (Hls.out f (mem_of_get hx))
        have Hrow : Hid (RdB wr B f.r.A f.r.l) := hrow
        have Hrow' : Hid (RdB wr B' g.r.A g.r.l) := hrow'
        have HB := Lib.hid (Nat.le_trans hB hb.size)
        have HB' := Lib.hid (Nat.le_trans hB' hb.size)
        have hkI : (k : Int) < (fs.length : Int) := by omega
        have hkI' : (k : Int) < (gs.length : Int) := by omega
        clear hS hrow hrow' hc1 hc2 hc1' hc2' hab hab'
        by_cases heq : (f.k, f.r.l) = (g.k, g.r.l)
        · have He := Lib.hid (show decide ((f.k, f.r.l) = (g.k, g.r.l)) = true from decide_eq_true heq)
          have hgx := fks_get hx'
          rw [← heq] at hgx
          have Hon := Lib.hid (takes_snoc ht (fks_get hx) hgx).out
          clear heq hgx
          go_wp2_with fail
          go_region_held3 (fun wx => wx.cell? (ad.add (k * 2)) = some (.int .u8 (f.k.toNat : Int)) ∧ wx.cell? ⟨(ad.add (k * 2)).block, (ad.add (k * 2)).off + 1, none⟩ = some (.slice f.r.A f.r.l.length f.r.c) ∧ wx.cell? (ad'.add (k * 2)) = some (.int .u8 (g.k.toNat : Int)) ∧ wx.cell? ⟨(ad'.add (k * 2)).block, (ad'.add (k * 2)).off + 1, none⟩ = some (.slice g.r.A g.r.l.length g.r.c)) (first | exact HS.out _ hb2 | exact HS.out _ (Below.refl _ _).drew) (first
            | (go_at_call 27
               refine (same_any f g B B' wr.drew Hf.out HB.out HB'.out (Reads.drew Hrow.out) (Reads.drew Hrow'.out)).mono ?_
               rintro e w2 ⟨rfl, hb2'⟩
               have hb2 : Below w.heap.size wr w2 := (Below.refl _ _).drew.trans (hb2'.mono hb.size)
               rw [He.out]))
          go_wp2
          go_roundw
          case rel => exact ⟨k + 1, by omega, by go_num, Hon.out, hb.trans hb2⟩
          case measure => simp [intOf]; omega
        · have He := Lib.hid (show decide ((f.k, f.r.l) = (g.k, g.r.l)) = false from decide_eq_false heq)
          have Hno := Lib.hid (ne_of_get (fks_get hx) (fks_get hx') heq)
          clear heq
          go_wp2_with fail
          go_region_held3 (fun wx => wx.cell? (ad.add (k * 2)) = some (.int .u8 (f.k.toNat : Int)) ∧ wx.cell? ⟨(ad.add (k * 2)).block, (ad.add (k * 2)).off + 1, none⟩ = some (.slice f.r.A f.r.l.length f.r.c) ∧ wx.cell? (ad'.add (k * 2)) = some (.int .u8 (g.k.toNat : Int)) ∧ wx.cell? ⟨(ad'.add (k * 2)).block, (ad'.add (k * 2)).off + 1, none⟩ = some (.slice g.r.A g.r.l.length g.r.c)) (first | exact HS.out _ hb2 | exact HS.out _ (Below.refl _ _).drew) (first
            | (go_at_call 27
               refine (same_any f g B B' wr.drew Hf.out HB.out HB'.out (Reads.drew Hrow.out) (Reads.drew Hrow'.out)).mono ?_
               rintro e w2 ⟨rfl, hb2'⟩
               have hb2 : Below w.heap.size wr w2 := (Below.refl _ _).drew.trans (hb2'.mono hb.size)
               rw [He.out]))
          go_wp2
          go_ret
          exact ⟨ret_bool Hno.out.symm, hb.trans hb2⟩
      · obtain rfl : k = fs.length := by omega
        have hfin : decide (fks fs = fks gs) = true := by
          have h2 := Hlm.out
          rw [← fks_len, ← fks_len] at h2
          refine eq_of_takes h2 ?_
          have := ht.out
          rw [← fks_len] at this
          exact this
        have Hfin := Lib.hid hfin
        clear hfin
        go_wp2
        go_ret
        exact ⟨ret_bool Hfin.out.symm, hb⟩
  · have hne : ((fs.length : Int) != (gs.length : Int)) = true := by rw [bne_iff_ne]; omega
    have hne' : (fs.length != gs.length) = true := by rw [bne_iff_ne]; omega
    have Hno := Lib.hid (take_eq_of_len (l := fks fs) (m := fks gs) (by rw [fks_len, fks_len]; exact hlm))
    clear hlm
    go_enter Try.func19, Try.ntmps19
    go_wp2
    go_ret
    exact ⟨ret_bool Hno.out.symm, .refl _ _⟩
end Go.Proofs.Ytfjgmbnnmobkbaa
