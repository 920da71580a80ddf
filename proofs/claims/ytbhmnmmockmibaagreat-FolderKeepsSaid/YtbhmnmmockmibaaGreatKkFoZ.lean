/- The walk of kept: a file that is there still, or whose name was taken. Conditions: at most 1000 files, 100 names. All names fsynced, and the directory: nothing is pending, nor volatile, and each name holds; a second failure of power takes nothing. Conditions: none. -/
import Derived.Test.YtbhmnmmockmibaaGreatKkFoAl
import Derived.Test.YtbhmnmmockmibaaGreatKkFoLa
namespace Go.Proofs.YtbhmnmmockmibaaGreat
open Go.RowKit
set_option maxHeartbeats 8000000 in
set_option maxRecDepth 100000 in
theorem kept_any {w : World} {X0 X1 X2 : Nat → Prop} {x : Fv} {m n1 n2 c1 c2 : Nat} {A1 A2 : Option Addr} {es : List Fv} {tk : List (List UInt8)} (hx : RdX w X0 1 x.A x.l.length (bs x.l)) (hm : x.l.length = m) (hm2 : m ≤ 60000) (h1 : FlX w X1 A1 es) (hn1 : es.length = n1) (hl1 : n1 ≤ 1000) (hsz : ∀ y ∈ es, y.l.length ≤ 60000 ∧ y.l.length ≤ y.c) (h2 : RdX w X2 1 A2 n2 (scells tk)) (hn2 : tk.length = n2) (hl2 : n2 ≤ 1000)
    (hone : ∀ y ∈ es, ∀ z ∈ es, y.n = z.n → y.l = z.l) (hk : x.n ∈ tk ∨ ∃ y ∈ es, y.n = x.n ∧ x.l <+: y.l) :
    Calls Tryz.prog 21 #[.agg #[.string (txt x.n), .slice x.A m x.c], .slice A1 n1 c1, .slice A2 n2 c2] w fun en w' => en = .returned (.bool true) ∧ Below w.heap.size w w' := by
  obtain ⟨R, hR⟩ : ∃ R, Hid (w.heap.size = R) := ⟨_, rfl⟩
  obtain ⟨W, hW⟩ : ∃ W, Hid (w.alloc (.cells #[.string (txt x.n), .slice x.A m x.c] 63) = W) := ⟨_, rfl⟩
  have hbw : Hid (Below w.heap.size w W) := by rw [← hW.out]; exact below_new _ _
  have hbox : Hid (W.heap[R]? = some (.cells #[.string (txt x.n), .slice x.A m x.c] 63 (0, 0))) := by rw [← hW.out, ← hR.out]; exact heap_alloc_new _ _
  have b0 : W.cell? ⟨R, 0, none⟩ = some (.string (txt x.n)) := cell_of_row W R 0 _ _ _ hbox.out
  have b1 : W.cell? ⟨R, 1, none⟩ = some (.slice x.A m x.c) := cell_of_row W R 1 _ _ _ hbox.out
  have H1 := Lib.hid (h1.below hbw.out)
  have H2 := Lib.hid (h2.below hbw.out)
  have Hx := Lib.hid (hx.below hbw.out)
  have Hn1 := Lib.hid hn1
  have Hn2 := Lib.hid hn2
  have Hm := Lib.hid hm
  have Hsz := Lib.hid hsz
  have Hone := Lib.hid hone
  have Hk := Lib.hid hk
  have hl1I : (n1 : Int) ≤ 1000 := by omega
  have hl2I : (n2 : Int) ≤ 1000 := by omega
  have hmI : (m : Int) ≤ 60000 := by omega
  clear hx h1 hn1 hsz h2 hn2 hone hk hm
  go_enter Tryz.func21, Tryz.ntmps21
  go_upto_region 1 with fail
  rw [hR.out, hW.out]
  go_wp2
  go_loopw [7] (fun i wr => ∃ k q : Nat, k ≤ n2 ∧ i = .int .i64 (k : Int) ∧ wr = W.drewN q ∧ Hid (x.n ∉ tk.take k)) (fun i _ => n2 - (intOf i).toNat)
  case atStart => exact ⟨0, 0, by omega, rfl, rfl, by show x.n ∉ tk.take 0; simp⟩
  case round =>
    obtain ⟨k, q, hk, rfl, rfl, hno⟩ := hrel
    by_cases hlt : k < n2
    · have hg : tk[k]? = some (tk[k]'(by rw [Hn2.out]; exact hlt)) := List.getElem?_eq_getElem _
      obtain ⟨ad, rfl, hc⟩ := StX.at_ H2.out hg hlt
      obtain ⟨y, hy⟩ : ∃ y, tk[k]'(by rw [Hn2.out]; exact hlt) = y := ⟨_, rfl⟩
      rw [hy] at hc hg
      have Hg := Lib.hid hg
      clear hg hy
      by_cases he : y = x.n
      · subst he
        go_wp2
        go_quiet (fail)
        go_wp2
        go_ret
        exact ⟨rfl, below_drewN (below_drewN hbw.out _) _⟩
      · have h3 := @txt_beq y x.n
        rw [decide_eq_false he] at h3
        have Hno' : Hid (x.n ∉ tk.take (k + 1)) := by
          show x.n ∉ tk.take (k + 1)
          rw [take_snoc Hg.out, List.mem_append, List.mem_singleton]
          rintro (h | h)
          · exact hno.out h
          · exact he h.symm
        go_wp2
        go_quiet (fail)
        go_wp2
        go_roundw
        case rel => exact ⟨k + 1, _, by omega, by go_num, rfl, Hno'⟩
        case measure => simp [intOf]; omega
    · obtain rfl : k = n2 := by omega
      have hfull : tk.take k = tk := by rw [← Hn2.out, List.take_length]
      rw [hfull] at hno
      have hin : Hid (∃ y ∈ es, y.n = x.n ∧ x.l <+: y.l) := Hk.out.resolve_left hno.out
      obtain ⟨W1, hW1⟩ : ∃ W1, Hid (W.drewN q = W1) := ⟨_, rfl⟩
      have hbw1 : Hid (Below w.heap.size w W1) := by rw [← hW1.out]; exact below_drewN hbw.out _
      have hb11 : Below W.heap.size W W1 := by rw [← hW1.out]; exact below_drewN (Below.refl _ _) _
      have K1 := Lib.hid (H1.out.below hb11)
      have Kx := Lib.hid (Hx.out.below hb11)
      have b0 : W1.cell? ⟨R, 0, none⟩ = some (.string (txt x.n)) := by rw [← hW1.out]; exact b0
      have b1 : W1.cell? ⟨R, 1, none⟩ = some (.slice x.A m x.c) := by rw [← hW1.out]; exact b1
      go_upto_region 6 with fail
      rw [hW1.out]
      go_wp2
      go_loopw [8] (fun i wr => ∃ k q : Nat, k ≤ n1 ∧ i = .int .i64 (k : Int) ∧ wr = W1.drewN q ∧ Hid (∀ y ∈ es.take k, y.n ≠ x.n)) (fun i _ => n1 - (intOf i).toNat)
      case atStart => exact ⟨0, 0, by omega, rfl, rfl, by intro y hy; simp at hy⟩
      case round =>
        obtain ⟨j, q, hj, rfl, rfl, hno1⟩ := hrel
        by_cases hlt : j < n1
        · obtain ⟨ad, y, rfl, _, _, p0, p1, hy, hry⟩ := K1.out.at_ (k := j) (by rw [Hn1.out]; exact hlt)
          have hmem := Lib.hid (List.mem_of_getElem? hy.out)
          by_cases he : y.n = x.n
          · have hpre : Hid (x.l <+: y.l) := by
              obtain ⟨z, hz, e1, e2⟩ := hin.out
              rw [Hone.out y hmem.out z hz (he.trans e1.symm)]
              exact e2
            rw [he] at p0
            have hle := hpre.out.length_le
            rw [Hm.out] at hle
            have hyl := (Hsz.out y hmem.out).1
            have hyc := (Hsz.out y hmem.out).2
            obtain ⟨ny, hny⟩ : ∃ v, Hid (y.l.length = v) := ⟨_, rfl⟩
            rw [hny.out] at hle hyl hyc p1
            have hyI : (ny : Int) ≤ 60000 := by omega
            have hleI : (m : Int) ≤ (ny : Int) := by omega
            have hcI : (m : Int) ≤ (y.c : Int) := by omega
            have htake : Hid (y.l.take m = x.l) := by
              obtain ⟨r, hr⟩ := hpre.out
              show y.l.take m = x.l
              rw [← hr, ← Hm.out, List.take_left]
            have hry' : Hid (RdX W1 X1 1 y.A m (bs x.l)) := by
              obtain ⟨h1, h2⟩ := hry
              refine ⟨by rw [bs_len, Hm.out]; omega, fun hn => ?_⟩
              obtain ⟨ad, e, hb, hX, hc⟩ := h2 (by rw [hny.out]; omega)
              refine ⟨ad, e, hb, hX, fun i u hu => hc i u ?_⟩
              rw [← htake.out] at hu
              have e3 : bs (y.l.take m) = (bs y.l).take m := by simp [bs]
              rw [e3, List.getElem?_take] at hu
              split at hu
              · exact hu
              · cases hu
            have hsb := Lib.hid (fun wx (hb : Below W1.heap.size W1 wx) => sameBytes_any y.A x.A y.c x.c _ _ x.l x.l wx (by rw [Hm.out]; omega) (by have := (hry'.out.below hb).reads; rw [← Hm.out] at this; exact this) (Kx.out.below hb).reads)
            have hd : decide (x.l = x.l) = true := decide_eq_true rfl
            rw [Hm.out, hd] at hsb
            have hge : decide ((ny : Int) ≥ (m : Int)) = true := decide_eq_true hleI
            clear hry hle hyl hyc
            go_upto_region 9 with fail
            go_quiet (fail)
            go_upto_region 10 with fail
            go_quiet (first | (go_at_call 51; refine (hsb.out _ (below_drewN (Below.refl _ _) _)).mono ?_; rintro e w' ⟨rfl, v, rfl⟩; exact ⟨rfl, _, by rw [World.drewN_drewN, Nat.add_assoc]⟩))
            go_wp2
            go_ret
            exact ⟨rfl, below_drewN hbw1.out _⟩
          · have h3 := @txt_beq y.n x.n
            rw [decide_eq_false he] at h3
            have Hno' : Hid (∀ z ∈ es.take (j + 1), z.n ≠ x.n) := by
              intro z hz
              rw [take_snoc hy, List.mem_append, List.mem_singleton] at hz
              rcases hz with hz | rfl
              · exact hno1.out z hz
              · exact he
            go_wp2
            go_quiet (fail)
            go_wp2
            go_roundw
            case rel => exact ⟨j + 1, _, by omega, by go_num, rfl, Hno'⟩
            case measure => simp [intOf]; omega
        · obtain rfl : j = n1 := by omega
          exfalso
          obtain ⟨y, hy, e, _⟩ := hin.out
          exact hno1.out y (by rw [← Hn1.out, List.take_length]; exact hy) e
end Go.Proofs.YtbhmnmmockmibaaGreat

namespace Go.Proofs.YtbhmnmmockmibaaGreat
open Go.RowKit Go.Maps
/-- A folder of which some names were fsynced. -/
structure Sy (s0 : Fo) (done : List (List UInt8)) (s : Fo) : Prop where
  d : s.d = s0.d
  sub : ∀ x ∈ s.fs, ∃ f ∈ s0.fs, x.i = f.i ∧ contM x.m = contM f.m
  dur : ∀ n ∈ done, ∀ v, (n, v) ∈ s0.d.now → ∀ x ∈ s.fs, x.i = v → ∀ p ∈ x.m, p.2 = true
section
variable {s0 s : Fo} {N : Nat} {done : List (List UInt8)} {n : List UInt8}
theorem Sy.start (s : Fo) : Sy s [] s := ⟨rfl, fun x hx => ⟨x, hx, rfl, rfl⟩, fun _ h => (by simp at h)⟩
theorem Sy.step (h : Sy s0 done s) (hok : s.Ok N) (n : List UInt8) : Sy s0 (done ++ [n]) (s.doFsync n).1 := by
  unfold Fo.doFsync
  cases hg : getE s.d.now n with
  | none =>
    refine ⟨h.d, h.sub, fun n' hn' v hv x hx e => ?_⟩
    rcases List.mem_append.1 hn' with hn' | hn'
    · exact h.dur n' hn' v hv x hx e
    · rw [List.mem_singleton] at hn'
      subst hn'
      rw [← h.d] at hv
      rw [getE_of hok.d.ok.now hv] at hg
      cases hg
  | some v0 =>
    simp only
    unfold doSync
    cases hf : findF s.fs v0 with
    | none =>
      refine ⟨h.d, h.sub, fun n' hn' v hv x hx e => ?_⟩
      rcases List.mem_append.1 hn' with hn' | hn'
      · exact h.dur n' hn' v hv x hx e
      · rw [List.mem_singleton] at hn'
        subst hn'
        rw [← h.d] at hv
        rw [getE_of hok.d.ok.now hv] at hg
        injection hg with hg
        have h1 := findF_of_mem hok.srt hx
        rw [e, hg, hf] at h1
        cases h1
    | some f0 =>
      obtain ⟨hf0, hi0⟩ := findF_mem hf
      refine ⟨h.d, fun x hx => ?_, fun n' hn' v hv x hx e => ?_⟩
      · obtain ⟨f, hff, e1, _, h1⟩ := updF_mem hx
        rcases h1 with ⟨h2, _, h3⟩ | ⟨_, h3⟩
        · obtain ⟨f2, hf2, e2, e3⟩ := h.sub f0 hf0
          exact ⟨f2, hf2, by rw [e1, h2, ← hi0, e2], by rw [h3, contM_sync, e3]⟩
        · rw [h3]; exact h.sub f hff
      · obtain ⟨f, hff, e1, _, h1⟩ := updF_mem hx
        rcases h1 with ⟨_, _, h3⟩ | ⟨h2, h3⟩
        · rw [h3]
          exact fun p hp => sync_durable hp
        · rw [h3] at e ⊢
          rcases List.mem_append.1 hn' with hn' | hn'
          · exact h.dur n' hn' v hv f hff e
          · rw [List.mem_singleton] at hn'
            subst hn'
            rw [← h.d] at hv
            rw [getE_of hok.d.ok.now hv] at hg
            injection hg with hg
            exact absurd (e.trans hg) h2
theorem sum_zero {μ : Fi → Nat} : ∀ {fs : List Fi}, (∀ f ∈ fs, μ f = 0) → sumF μ fs = 0
  | [], _ => rfl
  | f :: fs, h => by
    have h1 := sum_zero (μ := μ) (fs := fs) fun x hx => h x (List.mem_cons_of_mem _ hx)
    unfold sumF at h1 ⊢
    rw [List.map_cons, List.sum_cons, h1, h f (List.mem_cons_self ..)]
theorem Sy.vol (h : Sy s0 (s0.d.now.map Prod.fst) s) (hi' : s.sync.Inv) : volF s.sync.fs = 0 := by
  refine sum_zero fun f hf => ?_
  have h1 := (hi'.c.n f hf).2
  have h2 : 1 ≤ cnt s.d.now f.i := by
    have : 1 ≤ cnt s.sync.d.now f.i + ([] : List Int).count f.i := h1
    rw [List.count_nil, Nat.add_zero] at this
    exact this
  obtain ⟨e, he, hev⟩ := cnt_of h2
  obtain ⟨f1, hf1, e1, e2⟩ := drops_sub s.tk s.fs f hf
  rw [h.d] at he
  rw [e2]
  exact volM_durable (h.dur e.1 (List.mem_map.2 ⟨e, he, rfl⟩) e.2 he f1 hf1 (by rw [← e1, hev]))
theorem Sy.holds (h : Sy s0 (s0.d.now.map Prod.fst) s) (hok0 : s0.Ok N) (hi' : s.sync.Inv) {M : Nat} (hok' : s.sync.Ok M) : ∀ e ∈ s0.files, s.sync.Holds e.1 e.2 := by
  intro e he
  unfold Fo.files at he
  obtain ⟨e0, he0, rfl⟩ := List.mem_map.1 he
  have hnow : e0 ∈ s.d.now := by rw [h.d]; exact he0
  have hin : e0 ∈ s.sync.d.now := hnow
  obtain ⟨f, hf⟩ := (hi'.well hok').file e0 hin
  obtain ⟨hfm, hfi⟩ := findF_mem hf
  obtain ⟨f1, hf1, e1, e2⟩ := drops_sub s.tk s.fs f hfm
  obtain ⟨f2, hf2, e3, e4⟩ := h.sub f1 hf1
  have hf0 := findF_of_mem hok0.srt hf2
  have hi2 : f2.i = e0.2 := by rw [← e3, ← e1, hfi]
  rw [hi2] at hf0
  refine ⟨e0.2, fun j => ?_, f, hfm, hfi, ?_⟩
  · show (e0.1, e0.2) ∈ runs s.d.now ([].take j)
    rw [List.take_nil]
    exact hnow
  · refine .all ?_ ?_
    · simp only [bytesF, hf0]
      rw [e2, e4]
      exact List.prefix_refl _
    · rw [e2]
      exact h.dur e0.1 (List.mem_map.2 ⟨e0, he0, rfl⟩) e0.2 he0 f1 hf1 (by rw [← e1, hfi])
/-- No two files of a folder have one name. -/
theorem files_one (hok : s.Ok N) : ∀ y ∈ s.files, ∀ y' ∈ s.files, y.1 = y'.1 → y = y' := by
  intro y hy y' hy' e
  unfold Fo.files at hy hy'
  obtain ⟨a, ha, rfl⟩ := List.mem_map.1 hy
  obtain ⟨b, hb, rfl⟩ := List.mem_map.1 hy'
  have e : a.1 = b.1 := e
  have h1 : a.2 = b.2 := srt_one hok.d.ok.now (k := a.1) ha (by rw [e]; exact hb)
  rw [e, h1]
theorem Fo.Holds.file {k b : List UInt8} (h : s.Holds k b) (hok : s.Ok N) : ∃ y ∈ s.files, y.1 = k ∧ b <+: y.2 := by
  obtain ⟨v, h1, f, hf, e, hp⟩ := h.now
  refine ⟨_, List.mem_map.2 ⟨(k, v), h1, rfl⟩, rfl, ?_⟩
  have := findF_of_mem hok.srt hf
  rw [e] at this
  simp only [bytesF, this]
  exact hp.cont
/-- Behind a failure of power another one takes nothing. -/
theorem Fo.power_again (hi : s.Inv) (hok : s.Ok N) (ops : Int) (keep : List Bool) (hok1 : (s.power ops keep).Ok N) (hok2 : ((s.power ops keep).power 0 []).Ok N) : ((s.power ops keep).power 0 []).files = (s.power ops keep).files := by
  obtain ⟨s1, hs1⟩ : ∃ s1, s1 = s.power ops keep := ⟨_, rfl⟩
  have hi1 : s1.Inv := by rw [hs1]; exact hi.power hok ops keep
  have hdur : ∀ f ∈ s1.fs, (∀ p ∈ f.m, p.1 ≠ []) ∧ ∀ p ∈ f.m, p.2 = true := by
    intro f hf
    rw [hs1] at hf
    obtain ⟨f1, _, k, rfl, _⟩ := failT_mem (show f ∈ failT s.fs _ keep from hf)
    exact ⟨fun p hp => failM_full hp, fun p hp => failM_durable hp⟩
  have hops : s1.d.ops = [] := by rw [hs1]; rfl
  rw [← hs1] at hok1 hok2 ⊢
  have hi2 := hi1.power hok1 0 []
  have hnow : (s1.power 0 []).d.now = s1.d.now := by
    show runs s1.d.dur (s1.d.ops.take (stay s1.d.ops.length 0)) = runs s1.d.dur s1.d.ops
    rw [hops]
    rfl
  unfold Fo.files
  rw [hnow]
  refine List.map_congr_left fun e he => ?_
  congr 1
  obtain ⟨x, hx⟩ := (hi2.well hok2).file e (by rw [hnow]; exact he)
  obtain ⟨hxm, hxi⟩ := findF_mem hx
  obtain ⟨f, hf, k, rfl, _⟩ := failT_mem (show x ∈ failT s1.fs _ [] from hxm)
  have hff := findF_of_mem hok1.srt hf
  have hxi : f.i = e.2 := hxi
  rw [hxi] at hff
  simp only [bytesF, hx, hff]
  show contM (failM f.m _) = contM f.m
  rw [failM_done (hdur f hf).1 (hdur f hf).2]
theorem Fo.power_vol (s : Fo) (ops : Int) (keep : List Bool) : volF (s.power ops keep).fs = 0 := failT_vol _ _ _
end
end Go.Proofs.YtbhmnmmockmibaaGreat
