/- The walk of FrameBack: whatever the frames, the bytes ahead, and the cut, it returns true. Conditions: none. -/
import Derived.Test.YtfjgmbnnmobkbaaLawFP
import Derived.Test.YtfjgmbnnmobkbaaFrD
import Derived.Deep.CutRange
namespace Go.Proofs.Ytfjgmbnnmobkbaa
open Go.RowKit

/-- A variable of a frame: its block's cells. -/
abbrev BoxAtB (w : World) (g : Nat) (k : UInt8) (v : Value) (t : TypeId) : Prop := w.heap[g]? = some (.cells #[.int .u8 (k.toNat : Int), v] t (0, 0))
theorem pick_n (i : Int) (n : Nat) (z : Int) (hz : z = (n : Int)) (w : World) (h0 : 0 < n) (hn : n ≤ 1099511627776) (hi : -9223372036854775808 ≤ i ∧ i ≤ 9223372036854775807) :
    Calls Try.prog 28 #[.int .i64 i, .int .i64 z] w fun e w' => e = .returned (.int .i64 (i % n)) ∧ w = w' := by
  subst hz
  exact pick_any i n w h0 hn hi
/-- Some frames of a slice. -/
theorem RdF.part {w : World} {B : Nat} {ad : Addr} {fs : List Fr} (h : RdF w B (some ad) fs) (k m : Nat) (hm : k + m ≤ fs.length) : RdF w B (some (ad.add (k * 2))) ((fs.drop k).take m) := by
  refine ⟨⟨fcells_len _, fun hn => ?_⟩, fun f hf => h.row f (List.mem_of_mem_drop (List.mem_of_mem_take hf))⟩
  rw [List.length_take, List.length_drop] at hn
  obtain ⟨ad', e, hb, hc⟩ := h.top.2 (by omega)
  injection e with e
  subst e
  refine ⟨_, rfl, by rw [block_of_add]; exact hb, fun j u hu => ?_⟩
  rw [add_of_add]
  refine hc _ u ?_
  have hj : j < (fcells ((fs.drop k).take m)).length := (List.getElem?_eq_some_iff.1 hu).1
  have h1 : fcells fs = fcells (fs.take k) ++ (fcells ((fs.drop k).take m) ++ fcells ((fs.drop k).drop m)) := by
    rw [← fcells_append, List.take_append_drop, ← fcells_append, List.take_append_drop]
  have hl : (fcells (fs.take k)).length = k * 2 := by rw [fcells_len, List.length_take]; congr 1; omega
  rw [h1, List.getElem?_append_right (by omega), hl, show k * 2 + j - k * 2 = j by omega, List.getElem?_append_left hj]
  exact hu
theorem RdF.first {w : World} {B : Nat} {A : Option Addr} {fs : List Fr} (h : RdF w B A fs) (m : Nat) (hm : m ≤ fs.length) : RdF w B A (fs.take m) := by
  cases A with
  | some ad =>
    have := h.part 0 m (by omega)
    rw [Nat.zero_mul, add_zero', List.drop_zero] at this
    exact this
  | none =>
    have : fs = [] := by
      cases fs with
      | nil => rfl
      | cons f fs =>
        obtain ⟨ad, e, _⟩ := h.top.2 (by simp)
        cases e
    subst this
    simpa using h
theorem run_midF (w : World) (A : Option Addr) {n m k c : Nat} (hm : m ≤ k) (hk : k ≤ c) :
    (Instr.slice 22 (.slice A n c) (some (.int .i64 (m : Int))) (some (.int .i64 (k : Int))) none).run Try.prog w = .ok (.slice (if c = m then A else A.map (·.add (m * 2))) (k - m) (c - m)) w := by
  have hm' : (m : Int) ≤ k := by omega
  have hc' : (k : Int) ≤ c := by omega
  go_simp
theorem run_frontF (w : World) (A : Option Addr) {n m c : Nat} (hm : m ≤ c) :
    (Instr.slice 22 (.slice A n c) none (some (.int .i64 (m : Int))) none).run Try.prog w = .ok (.slice A m c) w := by
  have hm' : (m : Int) ≤ c := by omega
  go_simp
theorem refs_n (A : Option Addr) (n c B : Nat) (fs : List Fr) (hn : fs.length = n) (w : World) (hl : n ≤ 1099511627776) (hls : ∀ f ∈ fs, f.r.l.length ≤ 140737488351232) (hB : B ≤ w.heap.size) (hr : RdF w B A fs) :
    Calls Try.prog 10 #[.slice A n c] w fun e w' => (∃ v own, e = .returned v ∧ OwnsF 38 w.heap.size w' v own ∧ fks own = fks fs) ∧ Below w.heap.size w w' := by
  subst hn
  exact refs_any A c B fs w hl hls hB hr
/-- What is put is taken, at its place behind what stands ahead. -/
theorem back_take {ahead : List UInt8} {l : List Fk} {i : Nat} {f : Fk} (hs : ∀ f ∈ l, f.2.length ≤ 65535) (h : Hid (l[i]? = some f)) :
    takeF (ahead ++ encFs l) ((ahead.length + fszs (l.take i) : Nat) : Int) = (f, ((ahead.length + fszs (l.take (i + 1)) : Nat) : Int), 0) := by
  have hd : (ahead ++ encFs l).drop (ahead.length + fszs (l.take i)) = encFr f.1 f.2 ++ encFs (l.drop (i + 1)) := by
    rw [← List.drop_drop, List.drop_left, encFs_split h]
    exact List.drop_left
  rw [takeF_enc (hs f (mem_of_get h)) hd, take_snoc h, fszs_snoc, Nat.add_assoc]

-- FK1<
/-- What the test of FrameBack's first loop lays, operation by operation. -/
def FkF (f : Fr) (ad : Addr) (f4 : Fr) (n c k k1 N P Z : Nat) : Nat → Value → World → Prop
  | 0, v, _ => v = .int .i64 0
  | 1, v, _ => v = .bool false
  | 2, v, _ => v = .bool false
  | 3, v, _ => v = .int .i64 (N : Int)
  | 4, v, _ => v = .int .i64 (P : Int)
  | 5, v, _ => v = .slice (some ad) n c
  | 6, v, _ => v = .int .i64 (k : Int)
  | 7, v, _ => v = .pointer (some (ad.add (k * 2)))
  | 8, v, _ => v = f.v
  | 9, v, _ => v = .int .i64 (Z : Int)
  | 10, v, _ => v = .int .i64 (N : Int)
  | 11, v, _ => v = .bool false
  | 12, v, _ => v = .bool false
  | 13, v, _ => v = .bool false
  | 14, v, _ => v = f4.v
  | 15, v, _ => v = .slice (some ad) n c
  | 16, v, _ => v = .int .i64 (k : Int)
  | 17, v, _ => v = .int .i64 (k : Int)
  | 18, v, _ => v = .int .i64 (k1 : Int)
  | 19, v, _ => v = .slice (some (ad.add (k * 2))) (k1 - k) (c - k)
  | 20, v, w => ∃ a6 c6 g, v = .slice (some a6) 1 c6 ∧ RefAt f w a6 g
  | 21, v, w => ∃ a6 g, v = .pointer (some a6) ∧ RefAt f w a6 g
  | 22, v, w => ∃ g : Fr, v = g.v ∧ (f.k, f.r.l) = (g.k, g.r.l) ∧ RdB w w.heap.size g.r.A g.r.l
  | 23, v, _ => v = .bool true
  | 24, v, _ => v = .bool false
  | 25, v, _ => v = .bool false
  | _, _, _ => True
theorem FkF.keep {f : Fr} {ad : Addr} {f4 : Fr} {n c k k1 N P Z : Nat} (j : Nat) (u : Value) (w w' : World) (hb : Below w.heap.size w w') (h : FkF f ad f4 n c k k1 N P Z j u w) : FkF f ad f4 n c k k1 N P Z j u w' :=
  match j, h with
  | 0, h => h
  | 1, h => h
  | 2, h => h
  | 3, h => h
  | 4, h => h
  | 5, h => h
  | 6, h => h
  | 7, h => h
  | 8, h => h
  | 9, h => h
  | 10, h => h
  | 11, h => h
  | 12, h => h
  | 13, h => h
  | 14, h => h
  | 15, h => h
  | 16, h => h
  | 17, h => h
  | 18, h => h
  | 19, h => h
  | 20, h => let ⟨a6, c6, g, e, hR⟩ := h; ⟨a6, c6, g, e, hR.keep hb⟩
  | 21, h => let ⟨a6, g, e, hR⟩ := h; ⟨a6, g, e, hR.keep hb⟩
  | 22, h => let ⟨g, e, he, hR⟩ := h; ⟨g, e, he, Reads.more (Reads.below hR hb) hb.size⟩
  | 23, h => h
  | 24, h => h
  | 25, h => h
  | _ + 26, h => h
/-- What holds of every world of it. -/
def FkC (W : World) (w : World) : Prop := Below W.heap.size W w
theorem FkC.keep {W : World} (w w' : World) (hb : Below w.heap.size w w') (h : FkC W w) : FkC W w' := Below.trans h (hb.mono (Below.size h))
-- FK1>
set_option maxHeartbeats 4000000 in
set_option maxRecDepth 100000 in
theorem backLaw_any (A A' : Option Addr) (c c' : Nat) (fs : List Fr) (ahead : List UInt8) (t : Int) (w : World) (hl : fs.length ≤ 9223372036854775807) (hls : ∀ f ∈ fs, f.r.l.length ≤ 9223372036854775807) (hcap : fs.length ≤ c) (ha : ahead.length ≤ 9223372036854775807) (ht : -9223372036854775808 ≤ t ∧ t ≤ 9223372036854775807) (hr : RdF w w.heap.size A fs) (hra : RdB w w.heap.size A' ahead) :
    Calls Try.prog 5 #[.slice A fs.length c, .slice A' ahead.length c', .int .i64 t] w fun e w' => e = .returned (.bool true) ∧ Below w.heap.size w w' := by
  have hlI : (fs.length : Int) ≤ 9223372036854775807 := by omega
  have haI : (ahead.length : Int) ≤ 9223372036854775807 := by omega
  have Hl := Lib.hid hl
  have Hls' := Lib.hid hls
  have Hr : Hid (RdF w w.heap.size A fs) := hr
  have Hra : Hid (RdB w w.heap.size A' ahead) := hra
  have Ht := Lib.hid ht
  have Hcap := Lib.hid hcap
  clear hl hls hr hra ht hcap
  by_cases hfew : Few fs
  case neg =>
    have Hf := Lib.hid (decide_eq_false hfew)
    clear hfew
    go_enter Try.func5, Try.ntmps5
    go_wp2_with fail
    refine (few_any A c w.heap.size fs w Hl.out Hls'.out Hr.out).mono ?_
    rintro e _ ⟨rfl, rfl⟩
    rw [Hf.out]
    go_wp2_with fail
    refine (worksF_any _).mono ?_
    rintro e w1 ⟨rfl, hb⟩
    go_wp2
    go_ret
    exact ⟨rfl, hb⟩
  have Hf := Lib.hid (decide_eq_true hfew)
  by_cases h100 : 100 < ahead.length
  · have haI2 : (100 : Int) < (ahead.length : Int) := by omega
    clear hfew h100
    go_enter Try.func5, Try.ntmps5
    go_wp2_with fail
    refine (few_any A c w.heap.size fs w Hl.out Hls'.out Hr.out).mono ?_
    rintro e _ ⟨rfl, rfl⟩
    rw [Hf.out]
    go_wp2_with fail
    refine (worksF_any _).mono ?_
    rintro e w1 ⟨rfl, hb⟩
    go_wp2
    go_ret
    exact ⟨rfl, hb⟩
  have haI2 : (ahead.length : Int) ≤ 100 := by omega
  have hlI2 : (fs.length : Int) ≤ 10 := by have := hfew.1; omega
  have Hfs := Lib.hid hfew.1
  have Hls := Lib.hid (show ∀ f ∈ fs, f.r.l.length ≤ 140737488351232 from fun f hf => by have := hfew.2 f hf; omega)
  have Hsm := Lib.hid (show ∀ f ∈ fks fs, f.2.length ≤ 65535 by
    intro g hg
    unfold fks at hg
    rw [List.mem_map] at hg
    obtain ⟨f, hf, rfl⟩ := hg
    have := hfew.2 f hf
    simp only
    omega)
  clear hfew h100 hlI haI
  go_enter Try.func5, Try.ntmps5
  go_wp2_with fail
  refine (few_any A c w.heap.size fs w Hl.out Hls'.out Hr.out).mono ?_
  rintro e _ ⟨rfl, rfl⟩
  rw [Hf.out]
  go_wp2_with fail
  refine (join_any A c fs w (by omega) Hls.out Hr.out).mono ?_
  rintro e w1 ⟨⟨v1, rfl, hown1⟩, hb1⟩
  rw [joinF_ok Hsm.out] at hown1 ⊢
  simp only at hown1 ⊢
  obtain ⟨T, hT⟩ : ∃ T, T = encFs (fks fs) := ⟨_, rfl⟩
  rw [← hT] at hown1
  have hTl : T.length ≤ 700000 := by
    have h1 := encFs_le Hsm.out (fks fs).length
    have h2 := Hfs.out
    rw [List.take_length, ← hT, fks_len] at h1
    omega
  obtain ⟨A1, c1, rfl, hc1, _, hr1⟩ := own_form hown1
  have HT := Lib.hid hT
  have hTI : (T.length : Int) ≤ 700000 := by omega
  have HTl := Lib.hid hTl
  have Hr1 : Hid (RdB w1 w1.heap.size A1 T) := hr1
  have Hc1 : Hid (T.length ≤ c1) := hc1
  have Hb1 := Lib.hid hb1
  clear hT hTl hown1 hr1 hc1
  go_wp2_with fail
  refine (own_any A' c' w.heap.size ahead w1 (by omega) (Reads.below Hra.out hb1)).mono ?_
  rintro e w2 ⟨v2, rfl, hown2, hb2⟩
  have hbb2 := hb1.trans (hb2.mono hb1.size)
  have hr2 := Reads.below Hr1.out hb2
  have hz2 := hb2.size
  go_wp2_with (at_builtin
               refine push_row (.tmp 40) (.tmp 41) hown2 hz2 hr2 (by have := HTl.out; omega) rfl rfl rfl rfl ?_
               intro v3 w3 hown3 hb3 hbs3 hg3
               obtain ⟨L, hL⟩ : ∃ L, L = ahead ++ T := ⟨_, rfl⟩
               rw [← hL] at hown3
               obtain ⟨A3, c3, rfl, hc3, _, hr3⟩ := own_form hown3
               have HL := Lib.hid hL
               have hbb3 := hbb2.trans (hb3.mono hb1.size)
               have hb13 := hb2.trans hb3
               clear hown2 hr2 hL)
  have HbW := Lib.hid hbb3
  have Hr3 : Hid (RdB w3 w3.heap.size A3 L) := hr3
  have Hb13 := Lib.hid hb13
  have Hc3 : Hid (L.length ≤ c3) := hc3
  have HLl := Lib.hid (show L.length ≤ 1099511627776 by rw [HL.out, List.length_append]; have := HTl.out; omega)
  clear hbb2 hbb3 hb13 hb1 hb2 hb3 hg3 hr3 hown3 hz2 hc3
  go_loopw [9, 11] (fun a i wr => ∃ k P : Nat, k ≤ fs.length ∧ i = .int .i64 (k : Int) ∧ a = .int .i64 (P : Int) ∧ Hid (P = ahead.length + fszs ((fks fs).take k)) ∧ Below w3.heap.size w3 wr) (fun _ i _ => fs.length - (intOf i).toNat)
  case atStart => exact ⟨0, ahead.length, by omega, rfl, rfl, by show _ = _; simp [fszs, encFs], .refl _ _⟩
  case round =>
    obtain ⟨k, P, hk, rfl, rfl, hP, hb⟩ := hrel
    by_cases hlt : k < fs.length
    · have hbw := HbW.out.trans (hb.mono HbW.out.size)
      obtain ⟨ad, f, rfl, hab, hc1, hc2, hx, hrow⟩ := (Hr.out.below hbw).at_ hlt
      obtain ⟨N, hN⟩ : ∃ N, N = ahead.length + fszs ((fks fs).take (k + 1)) := ⟨_, rfl⟩
      obtain ⟨Z, hZ⟩ : ∃ Z, Z = fsz f.r.l.length := ⟨_, rfl⟩
      have htk := back_take (ahead := ahead) Hsm.out (fks_get hx)
      rw [← HT.out, ← HL.out, ← hP.out, ← hN] at htk
      have hNP : N = P + Z := by rw [hN, hP.out, hZ, take_snoc (fks_get hx), fszs_snoc]; simp only; omega
      obtain ⟨N', hN', hNl⟩ := takeF_next L (P : Int) (by rw [htk])
      rw [htk] at hN'
      simp only at hN'
      have hPZ : (P : Int) + (Z : Int) = (N : Int) := by omega
      have hNI : (N : Int) ≤ 1099511627776 := by have := HLl.out; omega
      have hwN : IntKind.i64.wrap (N : Int) = (N : Int) := IntWalk.i64_in _ (by omega)
      obtain ⟨k1, hk1⟩ : ∃ k1, k1 = k + 1 := ⟨_, rfl⟩
      have hk1I : (k : Int) + 1 = (k1 : Int) := by omega
      have hwk1 : IntKind.i64.wrap (k1 : Int) = (k1 : Int) := IntWalk.i64_in _ (by omega)
      have hkk1 : (k : Int) ≤ (k1 : Int) := by omega
      have hk1c : (k1 : Int) ≤ (c : Int) := by have := Hcap.out; omega
      have hck : ¬ c = k := by have := Hcap.out; omega
      have hkl : (k : Int) < (fs.length : Int) := by omega
      have HN := Lib.hid hN
      have HZ := Lib.hid hZ
      have Htk := Lib.hid htk
      have Hk1 := Lib.hid hk1
      have Hf1 := Lib.hid (Hls.out f (mem_of_get hx))
      have Hbw := Lib.hid hbw
      have Hab := Lib.hid (show (ad.add (k * 2)).block < w.heap.size by rw [block_of_add]; exact hab)
      have Hcc1 := Lib.hid hc1
      have Hcc2 := Lib.hid hc2
      have Hsub : Hid (RdF w w.heap.size (some (ad.add (k * 2))) ((fs.drop k).take 1)) := Hr.out.part k 1 (by omega)
      have Hsubl := Lib.hid (show ((fs.drop k).take 1).length = k1 - k by rw [List.length_take, List.length_drop]; omega)
      have Hsubk : Hid (fks ((fs.drop k).take 1) = [(f.k, f.r.l)]) := by
        have hd := drop_cons hx
        show fks _ = _
        rw [hd]
        rfl
      clear hN hZ htk hNP hN' hNl hk1 hrow hbw hc1 hc2 hab hP hlt
      go_wp2_with fail
      refine (frTake_any A3 c3 w3.heap.size L (P : Int) wr HLl.out Hc3.out hb.size (Reads.below Hr3.out hb)).mono ?_
      rintro e w4 ⟨⟨v4, rfl, hown4⟩, hb4⟩
      rw [Htk.out] at hown4 ⊢
      simp only at hown4 ⊢
      obtain ⟨A4, c4, rfl, _, _, hr4⟩ := own_form hown4
      obtain ⟨W4, hW4⟩ : ∃ W4 : World, W4 = w4.alloc (.cells #[.int .u8 (f.k.toNat : Int), .slice A4 f.r.l.length c4] 26) := ⟨_, rfl⟩
      have X4 : Hid (BoxAtB W4 w4.heap.size f.k (.slice A4 f.r.l.length c4) 26) := by rw [hW4]; exact heap_alloc_new _ _
      have R4 : Hid (RdB W4 w4.heap.size A4 f.r.l) := by rw [hW4]; exact Reads.alloc hr4 (Nat.le_refl _) _
      have S4 : Below wr.heap.size wr W4 := by rw [hW4]; exact hb4.alloc hb4.size _
      have Z4 := Lib.hid (show W4.heap.size = w4.heap.size + 1 by rw [hW4]; simp)
      have HW4 := Lib.hid hW4
      have B4 := hb.trans (S4.mono hb.size)
      have E4 := Hbw.out.trans (S4.mono Hbw.out.size)
      have Hq1 : Hid (W4.cell? (ad.add (k * 2)) = some (.int .u8 (f.k.toNat : Int))) := (S4.cell (p := ad.add (k * 2)) (Nat.lt_of_lt_of_le Hab.out Hbw.out.size)).trans Hcc1.out
      have Hq2 : Hid (W4.cell? ⟨(ad.add (k * 2)).block, (ad.add (k * 2)).off + 1, none⟩ = some (.slice f.r.A f.r.l.length f.r.c)) := (S4.cell (p := ⟨(ad.add (k * 2)).block, (ad.add (k * 2)).off + 1, none⟩) (Nat.lt_of_lt_of_le Hab.out Hbw.out.size)).trans Hcc2.out
      have HB4 := Lib.hid B4
      have HE4 := Lib.hid E4
      clear hW4 hown4 hb4 hr4 S4 B4 E4
      go_wp2_with fail
      rw [← HW4.out]
      go_cut [81] from 56 to 81 (fun s wx => s = .bool false ∧ Below w3.heap.size w3 wx)
      case first =>
        rename_i J K1 hJ hK
        refine wp_region_facts (n := 133) (FkF f ad ⟨f.k, ⟨A4, c4, f.r.l⟩⟩ fs.length c k k1 N P Z) (FkC W4) (by kernel_rfl) (by kernel_rfl) rfl (Below.refl _ W4).drew ?_ ?_
        · have hkn : k < fs.length := by omega
          have hkk : k ≤ k1 := by omega
          have hkc : k1 ≤ c := by omega
          have hq1 := Hq1.out
          have hq2 := Hq2.out
          have hlt4 : (ad.add (k * 2)).block < W4.heap.size := Nat.lt_of_lt_of_le Hab.out HE4.out.size
          have hls1 : ∀ g ∈ (fs.drop k).take 1, g.r.l.length ≤ 140737488351232 := fun g hg => Hls.out g (List.mem_of_mem_drop (List.mem_of_mem_take hg))
          have hbx : ∀ wx : World, FkC W4 wx → wx.cell? ⟨w4.heap.size, 0, none⟩ = some (.int .u8 (f.k.toNat : Int)) ∧ wx.cell? ⟨w4.heap.size, 1, none⟩ = some (.slice A4 f.r.l.length c4) :=
            fun wx hc => two_cells ((hc.block w4.heap.size (by have := Z4.out; omega)).trans X4.out)
          -- FK2<
          refine OpsOk.cons _ _ (OpOk.run _ _ FkF.keep FkC.keep fun b v hs hc hg => ⟨rfl, _, _, exec_move rfl (hs 14 (by kernel_rfl)), .refl _ _, rfl⟩) ?_
          refine OpsOk.cons _ _ (OpOk.run _ _ FkF.keep FkC.keep fun b v hs hc hg => ⟨rfl, _, _, exec_neqE rfl (dep hg 0 rfl rfl rfl rfl) rfl, .refl _ _, rfl⟩) ?_
          refine OpsOk.cons _ _ (OpOk.run _ _ FkF.keep FkC.keep fun b v hs hc hg => ⟨rfl, _, _, exec_move rfl (dep hg 0 rfl rfl rfl rfl), .refl _ _, rfl⟩) ?_
          refine OpsOk.cons _ _ (OpOk.run _ _ FkF.keep FkC.keep fun b v hs hc hg => ⟨wanted_of rfl rfl rfl (dep hg 0 rfl rfl rfl rfl), _, _, exec_move rfl (hs 13 (by kernel_rfl)), .refl _ _, rfl⟩) ?_
          refine OpsOk.cons _ _ (OpOk.run _ _ FkF.keep FkC.keep fun b v hs hc hg => ⟨wanted_of rfl rfl rfl (dep hg 0 rfl rfl rfl rfl), _, _, exec_move rfl (hs 9 (by kernel_rfl)), .refl _ _, rfl⟩) ?_
          refine OpsOk.cons _ _ (OpOk.run _ _ FkF.keep FkC.keep fun b v hs hc hg => ⟨wanted_of rfl rfl rfl (dep hg 0 rfl rfl rfl rfl), _, _, exec_move rfl (hs 0 (by kernel_rfl)), .refl _ _, rfl⟩) ?_
          refine OpsOk.cons _ _ (OpOk.run _ _ FkF.keep FkC.keep fun b v hs hc hg => ⟨wanted_of rfl rfl rfl (dep hg 0 rfl rfl rfl rfl), _, _, exec_move rfl (hs 11 (by kernel_rfl)), .refl _ _, rfl⟩) ?_
          refine OpsOk.cons _ _ (OpOk.run _ _ FkF.keep FkC.keep fun b v hs hc hg => ⟨wanted_of rfl rfl rfl (dep hg 2 rfl rfl rfl rfl), _, _, exec_atF rfl (dep hg 0 rfl rfl rfl rfl) (dep hg 1 rfl rfl rfl rfl) hkn, .refl _ _, rfl⟩) ?_
          refine OpsOk.cons _ _ (OpOk.run _ _ FkF.keep FkC.keep fun b v hs hc hg => ⟨wanted_of rfl rfl rfl (dep hg 1 rfl rfl rfl rfl), _, _, exec_loadF rfl (dep hg 0 rfl rfl rfl rfl) ((hc.cell (p := ad.add (k * 2)) hlt4).trans hq1) ((hc.cell (p := ⟨(ad.add (k * 2)).block, (ad.add (k * 2)).off + 1, none⟩) hlt4).trans hq2), .refl _ _, rfl⟩) ?_
          refine OpsOk.cons _ _ (OpOk.call _ _ FkF.keep FkC.keep fun b v hs hc hg => ⟨wanted_of rfl rfl rfl (dep hg 2 rfl rfl rfl rfl), _, _, exec_call1 (enter_size _) rfl (dep hg 0 rfl rfl rfl rfl), size_ref Hf1.out HZ.out.symm⟩) ?_
          refine OpsOk.cons _ _ (OpOk.run _ _ FkF.keep FkC.keep fun b v hs hc hg => ⟨wanted_of rfl rfl rfl (dep hg 2 rfl rfl rfl rfl), _, _, exec_addI rfl (dep hg 0 rfl rfl rfl rfl) (dep hg 1 rfl rfl rfl rfl) hPZ hwN, .refl _ _, rfl⟩) ?_
          refine OpsOk.cons _ _ (OpOk.run _ _ FkF.keep FkC.keep fun b v hs hc hg => ⟨wanted_of rfl rfl rfl (dep hg 2 rfl rfl rfl rfl), _, _, exec_neqI rfl (dep hg 0 rfl rfl rfl rfl) (dep hg 1 rfl rfl rfl rfl), .refl _ _, rfl⟩) ?_
          refine OpsOk.cons _ _ (OpOk.run _ _ FkF.keep FkC.keep fun b v hs hc hg => ⟨rfl, _, _, exec_pick rfl (dep hg 0 rfl rfl rfl rfl) (dep hg 1 rfl rfl rfl rfl), .refl _ _, rfl⟩) ?_
          refine OpsOk.cons _ _ (OpOk.run _ _ FkF.keep FkC.keep fun b v hs hc hg => ⟨rfl, _, _, exec_move rfl (dep hg 0 rfl rfl rfl rfl), .refl _ _, rfl⟩) ?_
          refine OpsOk.cons _ _ (OpOk.run _ _ FkF.keep FkC.keep fun b v hs hc hg => ⟨wanted_of rfl rfl rfl (dep hg 0 rfl rfl rfl rfl), _, _, exec_loadF rfl (hs 12 (by kernel_rfl)) (hbx _ hc).1 (hbx _ hc).2, .refl _ _, rfl⟩) ?_
          refine OpsOk.cons _ _ (OpOk.run _ _ FkF.keep FkC.keep fun b v hs hc hg => ⟨wanted_of rfl rfl rfl (dep hg 0 rfl rfl rfl rfl), _, _, exec_move rfl (hs 0 (by kernel_rfl)), .refl _ _, rfl⟩) ?_
          refine OpsOk.cons _ _ (OpOk.run _ _ FkF.keep FkC.keep fun b v hs hc hg => ⟨wanted_of rfl rfl rfl (dep hg 0 rfl rfl rfl rfl), _, _, exec_move rfl (hs 11 (by kernel_rfl)), .refl _ _, rfl⟩) ?_
          refine OpsOk.cons _ _ (OpOk.run _ _ FkF.keep FkC.keep fun b v hs hc hg => ⟨wanted_of rfl rfl rfl (dep hg 0 rfl rfl rfl rfl), _, _, exec_move rfl (hs 11 (by kernel_rfl)), .refl _ _, rfl⟩) ?_
          refine OpsOk.cons _ _ (OpOk.run _ _ FkF.keep FkC.keep fun b v hs hc hg => ⟨wanted_of rfl rfl rfl (dep hg 1 rfl rfl rfl rfl), _, _, exec_addI rfl (dep hg 0 rfl rfl rfl rfl) rfl hk1I hwk1, .refl _ _, rfl⟩) ?_
          refine OpsOk.cons _ _ (OpOk.run _ _ FkF.keep FkC.keep fun b v hs hc hg => ⟨wanted_of rfl rfl rfl (dep hg 3 rfl rfl rfl rfl), _, _, exec_midF rfl (dep hg 0 rfl rfl rfl rfl) (dep hg 1 rfl rfl rfl rfl) (dep hg 2 rfl rfl rfl rfl) hkk hkc, .refl _ _, by rw [if_neg hck]; rfl⟩) ?_
          refine OpsOk.cons _ _ (OpOk.call _ _ FkF.keep FkC.keep fun b v hs hc hg => ⟨wanted_of rfl rfl rfl (dep hg 2 rfl rfl rfl rfl), _, _, exec_call1 (enter_refs _) rfl (dep hg 0 rfl rfl rfl rfl), refs_one Hsubl.out (by omega) hls1 (Nat.le_trans HE4.out.size hc.size) (RdF.below Hsub.out (HE4.out.trans (hc.mono HE4.out.size))) Hsubk.out⟩) ?_
          refine OpsOk.cons _ _ (OpOk.run _ _ FkF.keep FkC.keep fun b v hs hc hg => by
            obtain ⟨a6, c6, g, e, hR⟩ := (dep hg 0 rfl rfl rfl rfl : FkF _ _ _ _ _ _ _ _ _ _ 20 _ _)
            exact ⟨wanted_of rfl rfl rfl (dep hg 1 rfl rfl rfl rfl), _, _, exec_atR rfl e rfl (by omega), .refl _ _, ⟨a6, g, rfl, hR⟩⟩) ?_
          refine OpsOk.cons _ _ (OpOk.run _ _ FkF.keep FkC.keep fun b v hs hc hg => by
            obtain ⟨a6, g, e, hR⟩ := (dep hg 0 rfl rfl rfl rfl : FkF _ _ _ _ _ _ _ _ _ _ 21 _ _)
            exact ⟨wanted_of rfl rfl rfl (dep hg 1 rfl rfl rfl rfl), _, _, exec_loadR rfl e hR.c1 hR.c2, .refl _ _, ⟨g, rfl, hR.eq, hR.rd⟩⟩) ?_
          refine OpsOk.cons _ _ (OpOk.call _ _ FkF.keep FkC.keep fun b v hs hc hg => by
            obtain ⟨g, e, he, hR⟩ := (dep hg 1 rfl rfl rfl rfl : FkF _ _ _ _ _ _ _ _ _ _ 22 _ _)
            exact ⟨wanted_of rfl rfl rfl (dep hg 3 rfl rfl rfl rfl), _, _, exec_call2 (enter_same _) rfl (dep hg 0 rfl rfl rfl rfl) e, same_ref Hf1.out (Nat.le_trans (by rw [Z4.out]; omega) hc.size) (Reads.below R4.out (Below.mono hc (by rw [Z4.out]; omega))) he hR⟩) ?_
          refine OpsOk.cons _ _ (OpOk.run _ _ FkF.keep FkC.keep fun b v hs hc hg => ⟨wanted_of rfl rfl rfl (dep hg 1 rfl rfl rfl rfl), _, _, exec_not rfl (dep hg 0 rfl rfl rfl rfl), .refl _ _, rfl⟩) ?_
          refine OpsOk.cons _ _ (OpOk.run _ _ FkF.keep FkC.keep fun b v hs hc hg => ⟨rfl, _, _, exec_pick rfl (dep hg 0 rfl rfl rfl rfl) (dep hg 1 rfl rfl rfl rfl), .refl _ _, rfl⟩) ?_
          exact OpsOk.nil _ _
          -- FK2>
        · intro b' w' hsz hd hs hc hall
          refine hK _ _ (Met.intro (hJ _ _ ?_))
          exact ⟨b'.tmps.getD 56 undef, b'.tmps.getD 57 undef, b'.tmps.getD 58 undef, b'.tmps.getD 59 undef, b'.tmps.getD 60 undef, b'.tmps.getD 61 undef, b'.tmps.getD 62 undef, b'.tmps.getD 63 undef, b'.tmps.getD 64 undef, b'.tmps.getD 65 undef, b'.tmps.getD 66 undef, b'.tmps.getD 67 undef, b'.tmps.getD 68 undef, b'.tmps.getD 69 undef, b'.tmps.getD 70 undef, b'.tmps.getD 71 undef, b'.tmps.getD 72 undef, b'.tmps.getD 73 undef, b'.tmps.getD 74 undef, b'.tmps.getD 75 undef, b'.tmps.getD 76 undef, b'.tmps.getD 77 undef, b'.tmps.getD 78 undef, b'.tmps.getD 79 undef, b'.tmps.getD 80 undef, b'.tmps.getD 81 undef, ⟨hall 25 _ _ rfl rfl, HB4.out.trans (Below.mono hc HB4.out.size)⟩, (act_known hsz hd hs).trans (by kernel_rfl)⟩
      case rest =>
        obtain ⟨rfl, hbz⟩ := hcut
        go_wp2
        go_roundw
        case rel => exact ⟨k1, N, by omega, by go_num, by go_num, by have h := HN.out; rw [← Hk1.out] at h; exact h, hbz⟩
        case measure => simp [intOf]; omega
    · obtain rfl : k = fs.length := by omega
      clear hP hlt
      go_wp2_with fail
      have h1I : (T.length : Int) + 1 = ((T.length + 1 : Nat) : Int) := by omega
      refine (pick_n t (T.length + 1) _ h1I wr (by omega) (by omega) Ht.out).mono ?_
      rintro e _ ⟨rfl, rfl⟩
      obtain ⟨n, hn⟩ : ∃ n : Nat, (n : Int) = t % ((T.length + 1 : Nat) : Int) := ⟨(t % ((T.length + 1 : Nat) : Int)).toNat, Int.toNat_of_nonneg (Int.emod_nonneg _ (by omega))⟩
      have hnl : (n : Int) < (T.length : Int) + 1 := by rw [hn, h1I]; exact Int.emod_lt_of_pos _ (by omega)
      rw [← hn]
      have hnT : (n : Int) ≤ (T.length : Int) := by omega
      clear hn h1I hnl
      go_wp2_with fail
      go_loopw [16, 17] (fun m g wr => ∃ k G : Nat, k ≤ fs.length ∧ m = .int .i64 (k : Int) ∧ g = .int .i64 (G : Int) ∧ (G : Int) ≤ (n : Int) ∧ Hid (G = fszs ((fks fs).take k)) ∧ Below w3.heap.size w3 wr) (fun m _ _ => fs.length - (intOf m).toNat)
      case atStart => exact ⟨0, 0, by omega, rfl, rfl, by omega, by show _ = _; simp [fszs, encFs], hb⟩
      case round =>
        clear hb
        obtain ⟨k, G, hk, rfl, rfl, hGn, hG, hb⟩ := hrel
        by_cases hlt : k < fs.length
        case' pos =>
          have hbw := HbW.out.trans (hb.mono HbW.out.size)
          obtain ⟨ad, f, hA, hab, hc1, hc2, hx, hrow⟩ := (Hr.out.below hbw).at_ hlt
          subst hA
          obtain ⟨Z, hZ⟩ : ∃ Z, Z = fsz f.r.l.length := ⟨_, rfl⟩
          have hkl : (k : Int) < (fs.length : Int) := by omega
          have Hf1 := Lib.hid (Hls.out f (mem_of_get hx))
          have hZI : (Z : Int) ≤ 65550 := by
            have h1 := Hsm.out _ (mem_of_get (fks_get hx))
            simp only at h1
            have h2 := sz_10 (n := f.r.l.length) (by omega)
            rw [hZ]
            unfold fsz
            omega
          have HZ := Lib.hid hZ
          have hsn : Hid (fszs ((fks fs).take (k + 1)) = G + Z) := by
            show _ = _
            rw [take_snoc (fks_get hx), fszs_snoc, hG.out, hZ]
          have hblk : (ad.add (k * 2)).block < w.heap.size := by rw [block_of_add]; exact hab
          have Hq1 := Lib.hid hc1
          have Hq2 := Lib.hid hc2
          have Hblk := Lib.hid hblk
          have Hbw := Lib.hid hbw
          clear hrow hZ hblk hbw hab hlt
          by_cases hmore : G + Z ≤ n
          case pos =>
            have hmI : (G : Int) + (Z : Int) ≤ (n : Int) := by omega
            clear hmore
            go_wp2_with fail
            clear hc1 hc2
            refine (frSize_any f wr Hf1.out).mono ?_
            rintro e w5 ⟨rfl, hb5⟩
            rw [← HZ.out]
            have hc1 := (hb5.cell (p := ad.add (k * 2)) (Nat.lt_of_lt_of_le Hblk.out Hbw.out.size)).trans Hq1.out
            have hc2 := (hb5.cell (p := ⟨(ad.add (k * 2)).block, (ad.add (k * 2)).off + 1, none⟩) (Nat.lt_of_lt_of_le Hblk.out Hbw.out.size)).trans Hq2.out
            have hbb5 := hb.trans (hb5.mono hb.size)
            clear hb5
            go_wp2_with fail
            clear hc1 hc2
            refine (frSize_any f w5 Hf1.out).mono ?_
            rintro e w6 ⟨rfl, hb6⟩
            rw [← HZ.out]
            have hbb6 := hbb5.trans (hb6.mono hbb5.size)
            clear hb6 hbb5 hb
            go_wp2
            go_roundw
            case rel => exact ⟨k + 1, G + Z, by omega, by go_num, by go_num, by omega, hsn.out.symm, hbb6⟩
            case measure => simp [intOf]; omega
          case' neg =>
            have hmI : (n : Int) < (G : Int) + (Z : Int) := by omega
            have Hlast : Hid (∀ g, (fks fs)[k]? = some g → n < fszs ((fks fs).take k) + fsz g.2.length) := by
              intro g hg
              rw [(fks_get hx).out] at hg
              injection hg with hg
              subst hg
              simp only
              rw [← hG.out, ← HZ.out]
              omega
            clear hmore
            go_wp2_with fail
            clear hc1 hc2
            refine (frSize_any f wr Hf1.out).mono ?_
            rintro e w5 ⟨rfl, hb5⟩
            rw [← HZ.out]
            have hbz := hb.trans (hb5.mono hb.size)
            have hsl := fun wx : World => run_front wx A1 (n := T.length) (m := n) (c := c1) (by have := Hc1.out; omega)
            clear hb5
            go_wp2_with fail
            clear hsl
            generalize (some ad : Option Addr) = A at Hr ⊢
        case' neg =>
          have hkl : ¬ (k : Int) < (fs.length : Int) := by omega
          have Hlast : Hid (∀ g, (fks fs)[k]? = some g → n < fszs ((fks fs).take k) + fsz g.2.length) := by
            intro g hg
            have := (List.getElem?_eq_some_iff.1 hg).1
            rw [fks_len] at this
            omega
          have hbz := hb
          have hsl := fun wx : World => run_front wx A1 (n := T.length) (m := n) (c := c1) (by have := Hc1.out; omega)
          clear hlt
          go_wp2_with fail
          clear hsl
        all_goals
          have hE := HbW.out.trans (hbz.mono HbW.out.size)
          have h1z := Hb13.out.trans (hbz.mono Hb13.out.size)
          refine (frAll_n A1 n c1 w1.heap.size (T.take n) (by rw [List.length_take]; omega) _ (by omega) (by have := Hc1.out; omega) h1z.size (RdB.first (Reads.below Hr1.out h1z) (by omega))).mono ?_
          rintro e w7 ⟨⟨v7, own7, g7, rfl, hO7, hA7, _, hn7, hs7⟩, hb7⟩
          have hcut := allF_cut (l := fks fs) Hsm.out (n := n) (by rw [fks_len]; exact hk) (by rw [← hG.out]; omega) (by rw [← HT.out]; omega) Hlast.out
          rw [← HT.out] at hcut
          obtain ⟨hfk7, hg7⟩ := allF_one hA7 hcut
          rw [← hG.out] at hg7
          subst hg7
          obtain ⟨A7, c7, rfl, _, hR7⟩ := hO7.reads
          have Hfk7 := Lib.hid hfk7
          have HR7 : Hid (RdF w7 w7.heap.size A7 own7) := hR7
          have Hb7 := Lib.hid hb7
          have HE := Lib.hid hE
          have Hbz := Lib.hid hbz
          have H7l := Lib.hid (show own7.length = k by rw [← fks_len, hfk7, List.length_take, fks_len]; omega)
          clear hcut hfk7 hR7 hO7 hA7 hn7 hs7 hb7 h1z hE hbz
          have hslF := fun wx : World => run_frontF wx A (n := fs.length) (m := k) (c := c) (by have := Hcap.out; omega)
          go_wp2_with fail
          clear hslF
          have hEE := HE.out.trans (Hb7.out.mono HE.out.size)
          refine (refs_n A k c w.heap.size (fs.take k) (by rw [List.length_take]; omega) _ (by omega) (fun g hg => Hls.out g (List.mem_of_mem_take hg)) hEE.size (RdF.first (RdF.below Hr.out hEE) k hk)).mono ?_
          rintro e w8 ⟨⟨v8, own8, rfl, hO8, hfk8⟩, hb8⟩
          obtain ⟨A8, c8, rfl, _, hR8⟩ := hO8.reads
          have heq : fks own7 = fks own8 := by rw [Hfk7.out, hfk8, fks_take]
          have h8l : own8.length = k := by rw [← fks_len, hfk8, fks_len, List.length_take]; omega
          have HR8 : Hid (RdF w8 w8.heap.size A8 own8) := hR8
          have Hb8 := Lib.hid hb8
          have Heq := Lib.hid heq
          have H8l := Lib.hid h8l
          clear hO8 hR8 hfk8 hb8 heq h8l hEE
          go_wp2_with fail
          refine (sameAll_any A7 A8 c7 c8 w7.heap.size w8.heap.size own7 own8 _ (by have := H7l.out; omega) (by have := H8l.out; omega) (by
            intro g hg
            have h1 : (g.k, g.r.l) ∈ fks own7 := List.mem_map.2 ⟨g, hg, rfl⟩
            rw [Hfk7.out] at h1
            have := Hsm.out _ (List.mem_of_mem_take h1)
            simp only at this
            omega) Hb8.out.size (Nat.le_refl _) (RdF.below HR7.out Hb8.out) HR8.out).mono ?_
          rintro e w9 ⟨rfl, hb9⟩
          rw [decide_eq_true Heq.out]
          go_wp2_with fail
          refine (worksF_any _).mono ?_
          rintro e w10 ⟨rfl, hb10⟩
          go_wp2
          go_ret
          exact ⟨rfl, HE.out.trans ((Hb7.out.trans ((Hb8.out.trans ((hb9.trans (hb10.mono hb9.size)).mono Hb8.out.size)).mono Hb7.out.size)).mono HE.out.size)⟩
end Go.Proofs.Ytfjgmbnnmobkbaa
