/- FolderKeeps's walk. Conditions: none. -/
import Derived.Test.YtbhmnmmockmibaaGreatKkFoLa
import Derived.Test.YtbhmnmmockmibaaGreatKkFoZ
import Derived.Test.YtbhmnmmockmibaaGreatKkFqQ
namespace Go.Proofs.YtbhmnmmockmibaaGreat
open Go.RowKit Go.Maps
/-- The names that Unlinks take. -/
def takenM (l : List Af) : List (List UInt8) := (l.filter fun a => a.k == 6).map (·.n)
theorem takenM_snoc {l : List Af} {k : Nat} {a : Af} (h : Hid (l[k]? = some a)) : takenM (l.take (k + 1)) = takenM (l.take k) ++ if a.k = 6 then [a.n] else [] := by
  unfold takenM
  rw [take_snoc h, List.filter_append, List.map_append]
  by_cases h6 : a.k = 6
  · simp [h6]
  · simp [h6]
theorem takenM_mem {l : List Af} {a : Af} (h : a ∈ l) (h6 : a.k = 6) : a.n ∈ takenM l := List.mem_map.2 ⟨a, List.mem_filter.2 ⟨h, by simp [h6]⟩, rfl⟩
/-- The first loop: k names fsynced. -/
structure LK1 (w : World) (F N : Nat) (Y : Nat → Prop) (s1 : Fo) (ns : List (List UInt8)) (w5 : World) (k : Nat) (s : Fo) (wr : World) : Prop where
  fs : FS w Y F s (N + 2 * k) wr
  inv : s.Inv
  sy : Sy s1 (ns.take k) s
  touch : Touch (Fr w Y) w5 wr
/-- The second loop: the names taken of k calls. -/
structure LK2 (w8 : World) (l : List Af) (k n : Nat) (v : Value) (wr : World) : Prop where
  own : wr.ownsRow w8.heap.size 9 1 v n (scells (takenM (l.take k)))
  len : (takenM (l.take k)).length = n
  below : Below w8.heap.size w8 wr
theorem names_of {es : List Fv} {s : Fo} (h : es.map Fv.say = s.files) : es.map Fv.n = s.d.now.map Prod.fst := by
  have e : es.map Fv.n = (es.map Fv.say).map Prod.fst := by rw [List.map_map]; rfl
  rw [e, h]
  unfold Fo.files
  rw [List.map_map]
  rfl
set_option maxHeartbeats 16000000 in
set_option maxRecDepth 100000 in
theorem fkeeps_any {Aa Ab Ak : Option Addr} {ca cb ck na nb nk : Nat} {la lb : List Af} {keep : List Bool} {bytes entries ops : Int} {w : World} (hb1 : -9223372036854775808 ≤ bytes) (hb2 : bytes ≤ 9223372036854775807) (he1 : -9223372036854775808 ≤ entries) (he2 : entries ≤ 9223372036854775807) (ho1 : -9223372036854775808 ≤ ops) (ho2 : ops ≤ 9223372036854775807)
    (hna : la.length = na) (hla : na ≤ 9223372036854775807) (hra : AfX w (fun _ => False) Aa la) (hnb : lb.length = nb) (hlb : nb ≤ 9223372036854775807) (hrb : AfX w (fun _ => False) Ab lb) (hnk : keep.length = nk) (hlk : nk ≤ 9223372036854775807) (hkc : nk ≤ ck) (hrk : KeX w (fun _ => False) Ak keep) :
    Calls Tryz.prog 4 #[.int .i64 bytes, .int .i64 entries, .slice Aa na ca, .slice Ab nb cb, .int .i64 ops, .slice Ak nk ck] w fun e w' => e = .returned (.bool true) ∧ Below w.heap.size w w' := by
  have HfewA := Lib.hid (few_any (c := ca) (t := 30) hna (by omega) hla hra)
  have HfewB := Lib.hid (few_any (c := cb) (t := 20) hnb (by omega) hlb hrb)
  have Hworks := Lib.hid works_any
  have Hnew := Lib.hid (fnew_any (w := w) bytes entries hb1 hb2 he1 he2)
  have hnkI : (nk : Int) ≤ 9223372036854775807 := by omega
  have Hna := Lib.hid hna
  have Hnb := Lib.hid hnb
  have Hnk := Lib.hid hnk
  have Hkc := Lib.hid hkc
  have Hra := Lib.hid hra.low
  have Hrb := Lib.hid hrb.low
  have Hrk := Lib.hid (RdX.mono (Y := fun b => w.heap.size ≤ b) hrk fun b hb e => by omega)
  clear hna hla hra hnb hlb hrb hnk hlk hkc hrk
  go_enter Tryz.func4, Tryz.ntmps4
  have tkA := Lib.hid True.intro
  by_cases hbig : 60 < nk
  · have hbigI : (60 : Int) < (nk : Int) := by omega
    go_wp2_with (first
      | (go_at_call 6; clear tkA; refine HfewA.out.mono ?_; rintro e w1 ⟨b, rfl, _, rfl⟩; cases b)
      | (go_at_call 6; refine HfewB.out.mono ?_; rintro e w1 ⟨b, rfl, _, rfl⟩; cases b)
      | (go_at_call 7; refine (Hworks.out _).mono ?_; rintro e w1 ⟨rfl, hb⟩))
    all_goals
      go_ret
      exact ⟨rfl, hb⟩
  have hsmI : (nk : Int) ≤ 60 := by omega
  have hsmd : decide ((60 : Int) < (nk : Int)) = false := by rw [decide_eq_false_iff_not]; omega
  go_wp2_with (first
    | (go_at_call 6; clear tkA; refine HfewA.out.mono ?_; rintro e w1 ⟨b, rfl, hbtA, rfl⟩; cases b)
    | (go_at_call 6; refine HfewB.out.mono ?_; rintro e w1 ⟨b, rfl, hbtB, rfl⟩; cases b)
    | (go_at_call 7; refine (Hworks.out _).mono ?_; rintro e w1 ⟨rfl, hb⟩)
    | (go_at_call 8; refine Hnew.out.mono ?_; rintro e w3 ⟨F, rfl, h3⟩; have H3 := Lib.hid h3; have HsA := Lib.hid (show SmF la 30 by simpa using hbtA); have HsB := Lib.hid (show SmF lb 20 by simpa using hbtB); clear h3 hbtA hbtB; have HnaI : na ≤ 30 := (by have := HsA.out.1; rw [Hna.out] at this; exact this); have Hall := Lib.hid (fall_any (c := ca) (fun _ => True) H3.out (Fo.Inv.new _ _) trivial (by omega) Hna.out (by omega) (Hra.out.below H3.out.below) HsA.out.2 (fun _ _ _ _ _ _ _ _ => ⟨fun _ _ => trivial, fun _ _ _ => trivial⟩)))
    | (go_at_call 17; refine Hall.out.mono ?_; rintro e w4 ⟨rfl, s1, h4⟩; have H4 := Lib.hid h4; clear h4; have Hf5 := Lib.hid (ffiles_any H4.out.fs (by omega)))
    | (go_at_call 18; refine Hf5.out.mono ?_; rintro e w5 ⟨v, es, rfl, hfl, hes, hb5⟩; obtain ⟨A5, c5, rfl, _, _, _⟩ := own_form hfl.head; have Hfl := Lib.hid hfl; have Hes := Lib.hid hes; have Hb5 := Lib.hid hb5; clear hfl hes hb5))
  any_goals (go_ret; exact ⟨rfl, hb⟩)
  clear HfewA HfewB Hnew Hall Hf5
  have hs1 := Lib.hid H4.out.fs.ok
  obtain ⟨ne, hne⟩ : ∃ x, Hid (es.length = x) := ⟨_, rfl⟩
  rw [hne.out]
  have hneI : ne ≤ 60 := by have := files_short hs1.out; rw [← Hes.out, List.length_map, hne.out] at this; omega
  have hneI' : (ne : Int) ≤ 60 := by omega
  obtain ⟨Y5, hY5⟩ : ∃ Y : Nat → Prop, Hid ((fun b => w4.heap.size ≤ b ∧ b < w5.heap.size) = Y) := ⟨_, rfl⟩
  have HF5 : Hid (FS w1 Y5 F s1 (0 + 2 * na) w5) := H4.out.fs.more Hb5.out fun b hb => by rw [← hY5.out] at hb; exact .inr hb
  have HL5 : Hid (FlX w5 (Fr w1 Y5) A5 es) := (Hfl.out.made fun b hb e => by
    rw [← hY5.out] at e
    rcases Nat.lt_or_ge b w4.heap.size with h | h
    · exact h
    · exact absurd ⟨h, hb⟩ e.2).2
  have hcap : Hid (∀ e ∈ es, e.l.length ≤ e.c) := fun e he => by
    obtain ⟨A, c, e1, h1, _⟩ := own_form (Hfl.out.row e he)
    injection e1 with _ _ e2
    rw [e2]; exact h1
  have hst0 : Hid (LK1 w1 F (2 * na) Y5 s1 (es.map Fv.n) w5 0 s1 w5) := ⟨by have := HF5.out; rw [Nat.zero_add] at this; exact this, H4.out.inv, Sy.start _, Touch.refl _ _⟩
  go_loopw [15] (fun iv wr => ∃ (k : Nat) (s : Fo), k ≤ ne ∧ iv = .int .i64 (k : Int) ∧ Hid (LK1 w1 F (2 * na) Y5 s1 (es.map Fv.n) w5 k s wr)) (fun i _ => ne - (Go.Lib.intOf i).toNat)
  case atStart => exact ⟨0, _, by omega, rfl, hst0⟩
  case round =>
    clear hst0
    obtain ⟨k, s, hk, rfl, hst⟩ := hrel
    by_cases hlt : k < ne
    · have hwl := Lib.hid (hst.out.inv.well hst.out.fs.ok)
      obtain ⟨ad, x, rfl, _, _, p0, p1, hx, _⟩ := (HL5.out.keep hst.out.touch).at_ (k := k) (by rw [hne.out]; exact hlt)
      have hxl : Hid (x.n.length ≤ 1000) := by
        have h1 : (x.n, x.l) ∈ s1.files := by rw [← Hes.out]; exact List.mem_map.2 ⟨x, List.mem_of_getElem? hx.out, rfl⟩
        unfold Fo.files at h1
        obtain ⟨e, he, e1⟩ := List.mem_map.1 h1
        have := (hs1.out.d.now.2 e he)
        have e2 : e.1 = x.n := congrArg Prod.fst e1
        rw [← e2]
        exact this.1
      have Hdo := Lib.hid (fdo_any hst.out.fs (by omega) (kk := 3) (by omega) (n := x.n) (t := []) hxl.out (by simp) (Ab := none) (cb := 0) (nl := 0) (l := []) rfl (by omega) (Bb := 0) (Nat.zero_le _) Reads.none_ hwl.out.pos)
      clear p1
      go_wp2_with (go_at_call 13; refine Hdo.out.mono ?_; rintro e w6 ⟨g, v, rfl, _, hf6, ht6⟩; have HF6 := Lib.hid hf6; have HT6 := Lib.hid ht6; clear hf6 ht6)
      have HA := Lib.hid (show LK1 w1 F (2 * na) Y5 s1 (es.map Fv.n) w5 (k + 1) (s.doC g 3 x.n [] []).1 w6 from ⟨HF6.out.mono (by omega), hst.out.inv.doC hst.out.fs.ok (by omega) g 3 x.n [] [], by
        have h := hst.out.sy.step hst.out.fs.ok x.n
        have e : (es.map Fv.n).take (k + 1) = (es.map Fv.n).take k ++ [x.n] := by
          rw [← List.map_take, ← List.map_take, take_snoc hx, List.map_append]
          rfl
        rw [e]
        exact h, hst.out.touch.trans HT6.out⟩)
      go_roundw
      case rel => exact ⟨k + 1, _, by omega, by go_num, HA⟩
      case measure => simp [Go.Lib.intOf]; omega
    · obtain rfl : k = ne := by omega
      have hsy : Hid (Sy s1 (s1.d.now.map Prod.fst) s) := by
        have h := hst.out.sy
        have e : (es.map Fv.n).take k = s1.d.now.map Prod.fst := by
          rw [← names_of Hes.out, ← hne.out, List.take_of_length_le (by rw [List.length_map]; exact Nat.le_refl _)]
        rw [e] at h
        exact h
      have hwl := Lib.hid (hst.out.inv.well hst.out.fs.ok)
      have Hdo := Lib.hid (fdo_any hst.out.fs (by omega) (kk := 4) (by omega) (n := []) (t := []) (by simp) (by simp) (Ab := none) (cb := 0) (nl := 0) (l := []) rfl (by omega) (Bb := 0) (Nat.zero_le _) Reads.none_ hwl.out.pos)
      go_upto_region 11 with (go_at_call 13; refine Hdo.out.mono ?_; rintro e w7 ⟨g, v, rfl, _, hf7, ht7⟩; have HF7 := Lib.hid hf7; have HT7 := Lib.hid (hst.out.touch.trans ht7); clear hf7 ht7)
      obtain ⟨s2, hs2⟩ : ∃ s2, Hid (s.sync = s2) := ⟨_, rfl⟩
      have HF7 : Hid (FS w1 Y5 F s2 (2 * na + 2 * k + 2) w7) := by rw [← hs2.out]; exact HF7.out
      have hi2 : Hid s2.Inv := by rw [← hs2.out]; exact hst.out.inv.sync hst.out.fs.ok (by omega)
      have hH2 : Hid (∀ e ∈ s1.files, s2.Holds e.1 e.2) := by
        have h1 := hi2.out
        have h2 := HF7.out.ok
        rw [← hs2.out] at h1 h2 ⊢
        exact hsy.out.holds hs1.out h1 h2
      have hv2 : Hid (volF s2.fs = 0) := by
        have h1 := hi2.out
        rw [← hs2.out] at h1 ⊢
        exact hsy.out.vol h1
      have hp2 : Hid (s2.d.ops.length = 0) := by rw [← hs2.out]; rfl
      have e0 : ((0 : Nat) : Int) = 0 := rfl
      have Hp := Lib.hid (fpend_any HF7.out)
      rw [hp2.out, e0] at Hp
      clear Hdo hwl
      go_upto_region 13 with (first
        | (go_at_call 19; refine Hp.out.mono ?_; rintro e w8 ⟨rfl, hb8⟩; have Hb8 := Lib.hid hb8; have Hv := Lib.hid (fvol_any (HF7.out.quiet hb8).1 (by omega)); rw [hv2.out, e0] at Hv; clear hb8)
        | (go_at_call 20; refine Hv.out.mono ?_; rintro e w9 ⟨rfl, hb9⟩; have Hb9 := Lib.hid (Hb8.out.trans (hb9.mono Hb8.out.size)); clear hb9))
      have HB9 := Lib.hid (HF7.out.below.trans (Hb9.out.mono HF7.out.below.size))
      have hnbI : nb ≤ 20 := by have := HsB.out.1; rw [Hnb.out] at this; exact this
      have hnbI' : (nb : Int) ≤ 20 := by omega
      have hst2 : Hid (LK2 w9 lb 0 0 (.slice (some ⟨w9.heap.size, 0, none⟩) 0 0) (w9.alloc (.cells #[] 9))) := ⟨World.ownsRow_lit w9 #[] 0 (Nat.le_refl _) (by simp [maxLen]) rfl, rfl, below_new _ _⟩
      go_upto_region 15 with fail
      go_loopw [16, 17] (fun tv iv wr => ∃ (j n : Nat) (A : Option Addr) (c : Nat), j ≤ nb ∧ n ≤ j ∧ iv = .int .i64 (j : Int) ∧ tv = .slice A n c ∧ Hid (LK2 w9 lb j n (.slice A n c) wr)) (fun _ i _ => nb - (Go.Lib.intOf i).toNat)
      case atStart => exact ⟨0, 0, _, _, by omega, by omega, rfl, rfl, hst2⟩
      case round =>
        clear hst2
        obtain ⟨j, n, At, ct, hj, hnj, rfl, rfl, hst2⟩ := hrel
        by_cases hltb : j < nb
        · obtain ⟨ad, a, rfl, _, _, hcs, hx, _, _, _⟩ := (Hrb.out.below (HB9.out.trans (hst2.out.below.mono HB9.out.size))).at_ (k := j) (by rw [Hnb.out]; exact hltb)
          obtain ⟨d0, d1, _, _, _, _⟩ := hcs
          have hsn := takenM_snoc hx
          by_cases h6 : a.k = 6
          · rw [h6] at d0
            rw [if_pos h6] at hsn
            have Hsn := Lib.hid hsn
            clear hsn
            go_upto_region 18 with fail
            go_wp2_with (at_builtin; refine push_one oneStr rfl (by omega) (.tmp 81) (.tmp 88) (.string (txt a.n)) rfl (w := wr) hst2.out.own hst2.out.below.size (by omega) rfl rfl rfl rfl rfl ?_; intro v9 w10 ho hg hbk hb; go_frame; obtain ⟨A9, c9, rfl, _, _, _⟩ := own_form ho; have Ho := Lib.hid ho; have Hb := Lib.hid hb; clear ho hg hbk hb)
            have HA : Hid (LK2 w9 lb (j + 1) (n + 1) (.slice A9 (n + 1) c9) w10) := by
              refine ⟨?_, by rw [Hsn.out, List.length_append, hst2.out.len]; rfl, hst2.out.below.trans Hb.out⟩
              rw [Hsn.out, scells, List.map_append]
              exact Ho.out
            go_roundw
            case rel => exact ⟨j + 1, n + 1, A9, c9, by omega, by omega, by go_num, rfl, HA⟩
            case measure => simp [Go.Lib.intOf]; omega
          · have h6b : ((a.k : Int) == 6) = false := beq_eq_false_iff_ne.2 (by omega)
            rw [if_neg h6, List.append_nil] at hsn
            have HA : Hid (LK2 w9 lb (j + 1) n (.slice At n ct) wr) := by
              refine ⟨?_, by rw [hsn]; exact hst2.out.len, hst2.out.below⟩
              rw [hsn]
              exact hst2.out.own
            clear hsn
            go_wp2
            go_roundw
            case rel => exact ⟨j + 1, n, At, ct, by omega, by omega, by go_num, rfl, HA⟩
            case measure => simp [Go.Lib.intOf]; omega
        · obtain rfl : j = nb := by omega
          obtain ⟨tk, htk⟩ : ∃ x, Hid (takenM lb = x) := ⟨_, rfl⟩
          have hfull : takenM (lb.take j) = tk := by rw [← Hnb.out, List.take_length, htk.out]
          obtain ⟨w10, rfl⟩ : ∃ x, x = wr := ⟨_, rfl⟩
          have HB79 := Lib.hid (Hb9.out.trans (hst2.out.below.mono Hb9.out.size))
          obtain ⟨Y9, hY9⟩ : ∃ Y : Nat → Prop, Hid ((fun b => Y5 b ∨ (w7.heap.size ≤ b ∧ b < w10.heap.size)) = Y) := ⟨_, rfl⟩
          have HF10 : Hid (FS w1 Y9 F s2 (2 * na + 2 * k + 2) w10) := HF7.out.more HB79.out fun b hb => by rw [← hY9.out] at hb; exact hb
          have hY59 : Hid (∀ b, Y5 b → Y9 b) := fun b hb => by rw [← hY9.out]; exact .inl hb
          have HTK : Hid (RdX w10 (Fr w1 Y9) 1 At n (scells tk)) := by
            have h1 := own_avoid hst2.out.own (X := fun b => b < w9.heap.size) fun _ e => e
            rw [hfull] at h1
            refine h1.mono fun b hb e => ?_
            rcases Nat.lt_or_ge b w9.heap.size with h | h
            · exact h
            · refine absurd ?_ e.2
              rw [← hY9.out]
              exact .inr ⟨Nat.le_trans Hb9.out.size h, hb⟩
          have hntk : Hid (tk.length = n) := by rw [← hfull]; exact hst2.out.len
          have HL10 : Hid (FlX w10 (Fr w1 Y9) A5 es) := ((HL5.out.keep HT7.out).below HB79.out).mono fun b _ e => Fr.weak hY59.out e
          obtain ⟨P, hP⟩ : ∃ P : Fo → Prop, Hid ((fun s => ∀ e ∈ s1.files, e.1 ∉ tk → s.Holds e.1 e.2) = P) := ⟨_, rfl⟩
          have hP2 : Hid (P s2) := by rw [← hP.out]; exact fun e he _ => hH2.out e he
          have hPs : Hid (∀ (s1 : Fo) (M : Nat) (a : Af), a ∈ lb → s1.Inv → s1.Ok M → M ≤ 800 → P s1 → (a.k = 9 → (s1.power a.o a.q.l).Ok M → P (s1.power a.o a.q.l)) ∧ (a.k ≠ 9 → ∀ g, (s1.doC g a.k a.n a.t a.r.l).1.Ok (M + 2) → P (s1.doC g a.k a.n a.t a.r.l).1)) := by
            intro s' M a ha hi hok hM hp
            rw [← hP.out] at hp ⊢
            exact ⟨fun _ hok' e he hn => (hp e he hn).power hi hok a.o a.q.l hok', fun _ g hok' e he hn => (hp e he hn).doC hok (hi.doC hok (by omega) g a.k a.n a.t a.r.l) hok' (fun h6 e1 => hn (by rw [e1, ← htk.out]; exact takenM_mem ha h6))⟩
          have Hall := Lib.hid (fall_any (c := cb) P HF10.out hi2.out hP2.out (by omega) Hnb.out (by omega) (Hrb.out.below HF10.out.below) HsB.out.2 hPs.out)
          have HB10 := Lib.hid HF10.out.below
          go_upto_region 20 with (go_at_call 17; refine Hall.out.mono ?_; rintro e w11 ⟨rfl, s3, h11⟩; have H11 := Lib.hid h11; clear h11)
          have HK11 : Hid (KeX w11 (Fr w1 Y9) Ak keep) := RdX.mono (RdX.below Hrk.out H11.out.fs.below) fun b _ e => e.1
          have Hpw := Lib.hid (fpower_any (ck := ck) H11.out.fs (by omega) ops ho1 ho2 HK11.out Hnk.out Hkc.out (by omega))
          go_upto_region 21 with (go_at_call 10; refine Hpw.out.mono ?_; rintro e w12 ⟨rfl, hf12, ht12⟩; have HF12 := Lib.hid hf12; have HT12 := Lib.hid (H11.out.touch.trans ht12); clear hf12 ht12)
          have hok3 := Lib.hid H11.out.fs.ok
          have hi4 := Lib.hid (H11.out.inv.power hok3.out ops keep)
          have hv4 := Lib.hid (Fo.power_vol s3 ops keep)
          have hp4 : Hid ((s3.power ops keep).d.ops.length = 0) := rfl
          obtain ⟨s4, hs4⟩ : ∃ x, Hid (s3.power ops keep = x) := ⟨_, rfl⟩
          have hP4 : Hid (∀ e ∈ s1.files, e.1 ∉ tk → s4.Holds e.1 e.2) := by
            have h := H11.out.p
            rw [← hP.out] at h
            have h4 := HF12.out.ok
            rw [← hs4.out]
            exact fun e he hn => (h e he hn).power H11.out.inv hok3.out ops keep h4
          have hagain : Hid (∀ M, (s4.power 0 []).Ok M → (s4.power 0 []).files = s4.files) := by
            have h4 := HF12.out.ok
            rw [← hs4.out]
            exact fun M hM => Fo.power_again H11.out.inv (hok3.out.mono (Nat.le_max_left _ M)) ops keep (h4.mono (Nat.le_max_left _ M)) (hM.mono (Nat.le_max_right _ M))
          rw [hs4.out] at HF12 hi4 hv4 hp4
          have Hf13 := Lib.hid (ffiles_any HF12.out (by omega))
          go_upto_region 22 with (go_at_call 18; refine Hf13.out.mono ?_; rintro e w13 ⟨v, e2, rfl, hfl, hes2, hb13⟩; obtain ⟨A13, c13, rfl, _, _, _⟩ := own_form hfl.head; have Hfl2 := Lib.hid hfl; have Hes2 := Lib.hid hes2; have Hb13 := Lib.hid hb13; clear hfl hes2 hb13)
          obtain ⟨n2, hn2⟩ : ∃ x, Hid (e2.length = x) := ⟨_, rfl⟩
          rw [hn2.out]
          have hn2I : n2 ≤ 400 := by have := files_short HF12.out.ok; rw [← Hes2.out, List.length_map, hn2.out] at this; omega
          have Hp := Lib.hid (fpend_any (HF12.out.quiet Hb13.out).1)
          rw [hp4.out, e0] at Hp
          go_upto_region 24 with (first
            | (go_at_call 19; refine Hp.out.mono ?_; rintro e w14 ⟨rfl, hb14⟩; have Hb14 := Lib.hid (Hb13.out.trans (hb14.mono Hb13.out.size)); have Hb134 := Lib.hid hb14; have Hv := Lib.hid (fvol_any (HF12.out.quiet Hb14.out).1 (by omega)); rw [hv4.out, e0] at Hv; clear hb14)
            | (go_at_call 20; refine Hv.out.mono ?_; rintro e w15 ⟨rfl, hb15⟩; have Hb15 := Lib.hid (Hb14.out.trans (hb15.mono Hb14.out.size)); have Hb135 := Lib.hid (Hb134.out.trans (hb15.mono Hb134.out.size)); clear hb15))
          have HFE := Lib.hid (Hfl2.out.reads (X := fun b => b < w12.heap.size) fun _ e => e).2
          have HL15 := Lib.hid (HFE.out.below Hb135.out)
          have HS15 := Lib.hid ((HL10.out.keep HT12.out).below Hb15.out)
          have HTK15 := Lib.hid ((HTK.out.keep HT12.out).below Hb15.out)
          have hcap2 : Hid (∀ y ∈ e2, y.l.length ≤ 60000 ∧ y.l.length ≤ y.c) := fun e he => by
            refine ⟨?_, ?_⟩
            · exact files_cont HF12.out.ok (by omega) (e.n, e.l) (by rw [← Hes2.out]; exact List.mem_map.2 ⟨e, he, rfl⟩)
            · obtain ⟨A, c, e1, h1, _⟩ := own_form (Hfl2.out.row e he)
              injection e1 with _ _ e2
              rw [e2]; exact h1
          have hone : Hid (∀ y ∈ e2, ∀ z ∈ e2, y.n = z.n → y.l = z.l) := fun y hy z hz e => by
            have h1 : y.say ∈ s4.files := by rw [← Hes2.out]; exact List.mem_map.2 ⟨y, hy, rfl⟩
            have h2 : z.say ∈ s4.files := by rw [← Hes2.out]; exact List.mem_map.2 ⟨z, hz, rfl⟩
            exact congrArg Prod.snd (files_one HF12.out.ok _ h1 _ h2 e)
          have hkeep : Hid (∀ x ∈ es, x.n ∈ tk ∨ ∃ y ∈ e2, y.n = x.n ∧ x.l <+: y.l) := fun x hx => by
            by_cases h : x.n ∈ tk
            · exact .inl h
            · right
              obtain ⟨y, hy, e1, e3⟩ := (hP4.out (x.n, x.l) (by rw [← Hes.out]; exact List.mem_map.2 ⟨x, hx, rfl⟩) h).file HF12.out.ok
              rw [← Hes2.out] at hy
              obtain ⟨z, hz, rfl⟩ := List.mem_map.1 hy
              exact ⟨z, hz, e1, e3⟩
          have hsm1 : Hid (∀ x ∈ es, x.l.length ≤ 60000) := fun e he => files_cont hs1.out (by omega) (e.n, e.l) (by rw [← Hes.out]; exact List.mem_map.2 ⟨e, he, rfl⟩)
          clear Hall Hpw Hf13 Hp Hv
          go_upto_region 25 with fail
          go_loopw [19] (fun iv wr => ∃ (i : Nat), i ≤ k ∧ iv = .int .i64 (i : Int) ∧ Hid (Below w15.heap.size w15 wr)) (fun i _ => k - (Go.Lib.intOf i).toNat)
          case atStart => exact ⟨0, by omega, rfl, Below.refl _ _⟩
          case round =>
            obtain ⟨i, hi, rfl, hbr⟩ := hrel
            by_cases hlti : i < k
            · obtain ⟨ad, x, rfl, _, _, p0, p1, hx, hrx⟩ := (HS15.out.below hbr.out).at_ (k := i) (by rw [hne.out]; exact hlti)
              have hmx := Lib.hid (List.mem_of_getElem? hx.out)
              obtain ⟨mx, hmxl⟩ : ∃ v, Hid (x.l.length = v) := ⟨_, rfl⟩
              rw [hmxl.out] at p1
              have Hke := Lib.hid (kept_any (m := mx) (n1 := n2) (n2 := n) (c1 := c13) (c2 := ct) hrx hmxl.out (by have := hsm1.out x hmx.out; rw [hmxl.out] at this; exact this) (HL15.out.below hbr.out) hn2.out (by omega) hcap2.out (HTK15.out.below hbr.out) hntk.out (by omega) hone.out (hkeep.out x hmx.out))
              go_wp2_with (go_at_call 21; refine Hke.out.mono ?_; rintro e w16 ⟨rfl, hb16⟩; have Hb16 := Lib.hid (hbr.out.trans (hb16.mono hbr.out.size)); clear hb16)
              go_roundw
              case rel => exact ⟨i + 1, by omega, by go_num, Hb16⟩
              case measure => simp [Go.Lib.intOf]; omega
            · obtain rfl : i = k := by omega
              obtain ⟨w16, rfl⟩ : ∃ x, x = wr := ⟨_, rfl⟩
              have Hb12 := Lib.hid (Hb15.out.trans (hbr.out.mono Hb15.out.size))
              obtain ⟨Y13, hY13⟩ : ∃ Y : Nat → Prop, Hid ((fun b => Y9 b ∨ (w12.heap.size ≤ b ∧ b < w16.heap.size)) = Y) := ⟨_, rfl⟩
              have HF16 : Hid (FS w1 Y13 F s4 (2 * na + 2 * i + 2 + 2 * j) w16) := HF12.out.more Hb12.out fun b hb => by rw [← hY13.out] at hb; exact hb
              have HL16 : Hid (FlX w16 (Fr w1 Y13) A13 e2) := (HL15.out.below hbr.out).mono fun b hb e => by
                rcases Nat.lt_or_ge b w12.heap.size with h | h
                · exact h
                · refine absurd ?_ e.2
                  rw [← hY13.out]
                  exact .inr ⟨h, hb⟩
              have Hpw := Lib.hid (fpower_any HF16.out (by omega) 0 (by omega) (by omega) (Ak := none) (nk := 0) (ck := 0) (keep := []) RdX.none_ rfl (Nat.le_refl _) (by omega))
              go_upto_region 30 with (go_at_call 10; refine Hpw.out.mono ?_; rintro e w17 ⟨rfl, hf17, ht17⟩; have HF17 := Lib.hid hf17; have HT17 := Lib.hid ht17; clear hf17 ht17)
              have HL17 := Lib.hid (HL16.out.keep HT17.out)
              have hfe := Lib.hid (hagain.out _ HF17.out.ok)
              have Hf18 := Lib.hid (ffiles_any HF17.out (by omega))
              go_wp2_with (first
                | (go_at_call 18; refine Hf18.out.mono ?_; rintro e w18 ⟨v, e3, rfl, hfl, hes3, hb18⟩; obtain ⟨A18, c18, rfl, _, _, _⟩ := own_form hfl.head; have Hb18 := Lib.hid hb18; have hl3 := Lib.hid (show e3.length = n2 by rw [← hn2.out, ← List.length_map (f := Fv.say), hes3, hfe.out, ← Hes2.out, List.length_map]); rw [hl3.out]; have Hal := Lib.hid (alike_true (c1 := c18) (c2 := c13) (hfl.reads (X := fun _ => False) fun _ h => h.elim).2 (HL17.out.below hb18) hl3.out hn2.out (by rw [hes3, hfe.out, Hes2.out]) (by omega) (fun e he => by have := files_cont HF12.out.ok (by omega) (e.n, e.l) (by rw [← hfe.out, ← hes3]; exact List.mem_map.2 ⟨e, he, rfl⟩); have h2 : e.l.length ≤ 60000 := this; omega)); clear hfl hes3 hb18)
                | (go_at_call 22; refine Hal.out.mono ?_; rintro e w19 ⟨rfl, hb19⟩; have Hb19 := Lib.hid (Hb18.out.trans (hb19.mono Hb18.out.size)); clear hb19)
                | (go_at_call 7; refine (Hworks.out _).mono ?_; rintro e w20 ⟨rfl, hb20⟩; have Hb20 := Lib.hid (Hb19.out.trans (hb20.mono Hb19.out.size)); clear hb20))
              go_ret
              exact ⟨rfl, (HF17.out.quiet Hb20.out).1.below⟩
end Go.Proofs.YtbhmnmmockmibaaGreat
