/- The walk of JournalKnown: it returns true. Conditions: none. -/
import Derived.Test.YtogoaihimepboaaKLawJK
import Derived.Test.YtogoaihimepboaaKGf
namespace Go.Proofs.Ytogoaihimepboaa
open Go.RowKit

/-- The four payloads of the statement, where they lie. -/
def rows4 (g : Nat) : List Row := [⟨some ⟨g, 0, none⟩, 0, []⟩, ⟨some ⟨g + 1, 0, none⟩, 1, [1]⟩, ⟨some ⟨g + 2, 0, none⟩, 2, [9, 0]⟩, ⟨some ⟨g + 3, 0, none⟩, 3, [97, 98, 99]⟩]
def b30 : List UInt8 := encJ [[], [1], [9, 0], [97, 98, 99]]
theorem b30_len : b30.length = 30 := by decide +kernel
theorem b30_put (g : Nat) : putJ ((rows4 g).map (·.l)) = (b30, 0) := putJ_ok (by
  intro m hm
  simp only [rows4, List.map_cons, List.map_nil, List.mem_cons, List.not_mem_nil, or_false] at hm
  rcases hm with rfl | rfl | rfl | rfl <;> simp)
theorem rows4_len (g : Nat) : (rows4 g).length = 4 := rfl
theorem rows4_small (g : Nat) : ∀ r ∈ rows4 g, r.l.length ≤ 3 := by
  intro r hr
  simp only [rows4, List.mem_cons, List.not_mem_nil, or_false] at hr
  rcases hr with rfl | rfl | rfl | rfl <;> simp
theorem rows4_cap (g : Nat) : ∀ r ∈ rows4 g, r.l.length = r.c := by
  intro r hr
  simp only [rows4, List.mem_cons, List.not_mem_nil, or_false] at hr
  rcases hr with rfl | rfl | rfl | rfl <;> rfl

theorem rows4_reads (w : World) : RdR (((((w.alloc (.cells #[] 5)).alloc (.cells #[.int .u8 1] 5)).alloc (.cells #[.int .u8 9, .int .u8 0] 5)).alloc (.cells #[.int .u8 97, .int .u8 98, .int .u8 99] 5 (3, 4))).alloc (.cells ((rows4 w.heap.size).map Row.v).toArray 22)) (w.heap.size + 5) (some ⟨w.heap.size + 4, 0, none⟩) (rows4 w.heap.size) := by
  obtain ⟨X0, h0⟩ : ∃ X, w.alloc (.cells #[] 5) = X := ⟨_, rfl⟩
  have z0 : X0.heap.size = w.heap.size + 1 := by rw [← h0]; simp
  have r0 : RdB X0 (w.heap.size + 1) (some ⟨w.heap.size, 0, none⟩) [] := ⟨rfl, fun h => absurd h (by decide)⟩
  rw [h0]
  obtain ⟨X1, h1⟩ : ∃ X, X0.alloc (.cells #[.int .u8 1] 5) = X := ⟨_, rfl⟩
  have z1 : X1.heap.size = w.heap.size + 2 := by rw [← h1]; simp [z0]
  have r1 : RdB X1 (w.heap.size + 2) (some ⟨w.heap.size + 1, 0, none⟩) [1] := by
    have := reads_lit X0 (xs := bs [1]) rfl
    rw [z0] at this
    rw [← h1]
    exact this
  have r01 : RdB X1 (w.heap.size + 1) (some ⟨w.heap.size, 0, none⟩) [] := by rw [← h1]; exact Reads.alloc r0 (by omega) _
  rw [h1]
  obtain ⟨X2, h2⟩ : ∃ X, X1.alloc (.cells #[.int .u8 9, .int .u8 0] 5) = X := ⟨_, rfl⟩
  have z2 : X2.heap.size = w.heap.size + 3 := by rw [← h2]; simp [z1]
  have r2 : RdB X2 (w.heap.size + 3) (some ⟨w.heap.size + 2, 0, none⟩) [9, 0] := by
    have := reads_lit X1 (xs := bs [9, 0]) rfl
    rw [z1] at this
    rw [← h2]
    exact this
  have r02 : RdB X2 (w.heap.size + 1) (some ⟨w.heap.size, 0, none⟩) [] := by rw [← h2]; exact Reads.alloc r01 (by omega) _
  have r12 : RdB X2 (w.heap.size + 2) (some ⟨w.heap.size + 1, 0, none⟩) [1] := by rw [← h2]; exact Reads.alloc r1 (by omega) _
  rw [h2]
  obtain ⟨X3, h3⟩ : ∃ X, X2.alloc (.cells #[.int .u8 97, .int .u8 98, .int .u8 99] 5 (3, 4)) = X := ⟨_, rfl⟩
  have z3 : X3.heap.size = w.heap.size + 4 := by rw [← h3]; simp [z2]
  have r3 : RdB X3 (w.heap.size + 4) (some ⟨w.heap.size + 3, 0, none⟩) [97, 98, 99] := by
    have := reads_marked X2 (xs := bs [97, 98, 99]) rfl (3, 4)
    rw [z2] at this
    rw [← h3]
    exact this
  have r03 : RdB X3 (w.heap.size + 1) (some ⟨w.heap.size, 0, none⟩) [] := by rw [← h3]; exact Reads.alloc r02 (by omega) _
  have r13 : RdB X3 (w.heap.size + 2) (some ⟨w.heap.size + 1, 0, none⟩) [1] := by rw [← h3]; exact Reads.alloc r12 (by omega) _
  have r23 : RdB X3 (w.heap.size + 3) (some ⟨w.heap.size + 2, 0, none⟩) [9, 0] := by rw [← h3]; exact Reads.alloc r2 (by omega) _
  rw [h3]
  have := RdR.new X3 (w.heap.size + 4) (rows4 w.heap.size) 22 (by rw [z3]; exact Nat.le_refl _) (by
    intro r hr
    simp only [rows4, List.mem_cons, List.not_mem_nil, or_false] at hr
    rcases hr with rfl | rfl | rfl | rfl
    · exact Reads.more r03 (by omega)
    · exact Reads.more r13 (by omega)
    · exact Reads.more r23 (by omega)
    · exact r3)
  rw [z3] at this
  exact this

theorem lit1_reads (w : World) (B n c : Nat) (A : Option Addr) (l : List UInt8) (hn : l.length = n) (hB : B ≤ w.heap.size) (hr : RdB w B A l) : RdR (w.alloc (.cells #[.slice A n c] 22)) (w.heap.size + 1) (some ⟨w.heap.size, 0, none⟩) [⟨A, c, l⟩] := by
  subst hn
  exact RdR.new w B [⟨A, c, l⟩] _ hB (by
    intro r h
    simp only [List.mem_cons, List.not_mem_nil, or_false] at h
    subst h
    exact hr)
theorem lit2_reads (w : World) (B n c n' c' : Nat) (A A' : Option Addr) (l l' : List UInt8) (hn : l.length = n) (hn' : l'.length = n') (hB : B ≤ w.heap.size) (hr : RdB w B A l) (hr' : RdB w B A' l') : RdR (w.alloc (.cells #[.slice A n c, .slice A' n' c'] 22)) (w.heap.size + 1) (some ⟨w.heap.size, 0, none⟩) [⟨A, c, l⟩, ⟨A', c', l'⟩] := by
  subst hn hn'
  exact RdR.new w B [⟨A, c, l⟩, ⟨A', c', l'⟩] _ hB (by
    intro r h
    simp only [List.mem_cons, List.not_mem_nil, or_false] at h
    rcases h with rfl | rfl
    · exact hr
    · exact hr')
/-- The longest payload's segment is not long itself. -/
theorem long_len (k : Nat) (hk : k ≤ 65535) : (encJ [noughts k]).length ≤ 70000 := by
  rw [encJ_one, encFr_len, noughts_len]
  unfold fsz
  have := sz_10 (n := k) (by omega)
  omega

set_option maxHeartbeats 4000000 in
set_option maxRecDepth 100000 in
theorem knownLaw_any (w : World) : Calls Try.prog 6 #[] w fun e w' => e = .returned (.bool true) ∧ Below w.heap.size w w' := by
  have kc := fun (W : World) (C : Array Value) (n c : Nat) => Lib.run_convert_bytes_const (P := Try.prog) W 22 5 C n c Try.underlying22 Try.underlying5
  have kc3 := kc (((w.alloc (.cells #[] 5)).alloc (.cells #[.int .u8 1] 5)).alloc (.cells #[.int .u8 9, .int .u8 0] 5)) #[.int .u8 97, .int .u8 98, .int .u8 99] 3 3
  rw [show (((w.alloc (.cells #[] 5)).alloc (.cells #[.int .u8 1] 5)).alloc (.cells #[.int .u8 9, .int .u8 0] 5)).heap.size = w.heap.size + 1 + 1 + 1 by simp] at kc3
  obtain ⟨g, hg⟩ : ∃ g, Hid (w.heap.size = g) := ⟨_, rfl⟩
  obtain ⟨N, hN⟩ : ∃ N, Hid (b30.length = N) := ⟨_, rfl⟩
  have hN1 : 1 ≤ N := by have h := b30_len; rw [hN.out] at h; omega
  have hN2 : N ≤ 100 := by have h := b30_len; rw [hN.out] at h; omega
  have hNI1 : (1 : Int) ≤ (N : Int) := by omega
  have hNI2 : (N : Int) ≤ 100 := by omega
  have hNI3 : ¬ (N : Int) = 0 := by omega
  have hNI4 : ¬ N = 0 := by omega
  have hNI5 : ((N : Int) == 0) = false := by rw [beq_eq_false_iff_ne]; omega
  -- the four payloads, and the list of them
  obtain ⟨W1, hW1⟩ : ∃ W1, Hid (((((w.alloc (.cells #[] 5)).alloc (.cells #[.int .u8 1] 5)).alloc (.cells #[.int .u8 9, .int .u8 0] 5)).alloc (.cells #[.int .u8 97, .int .u8 98, .int .u8 99] 5 (3, 4))).alloc (.cells ((rows4 w.heap.size).map Row.v).toArray 22) = W1) := ⟨_, rfl⟩
  have hr4 : Hid (RdR W1 (g + 5) (some ⟨g + 4, 0, none⟩) (rows4 g)) := by rw [← hW1.out, ← hg.out]; exact rows4_reads w
  go_enter Try.func6, Try.ntmps6
  go_upto_region 2 with fail
  have hbW1 : Hid (Below w.heap.size w W1) := by
    rw [← hW1.out]
    exact ((((below_new w _).alloc (by simp) _).alloc (by simp; omega) _).alloc (by simp; omega) _).alloc (by simp; omega) _
  have hz1 : Hid (W1.heap.size = g + 5) := by rw [← hW1.out, ← hg.out]; show _ = _; simp
  rw [show (((((w.alloc (.cells #[] 5)).alloc (.cells #[.int .u8 1] 5)).alloc (.cells #[.int .u8 9, .int .u8 0] 5)).alloc (.cells #[.int .u8 97, .int .u8 98, .int .u8 99] 5 (3, 4))).alloc (.cells #[.slice (some ⟨w.heap.size, 0, none⟩) 0 0, .slice (some ⟨w.heap.size + 1, 0, none⟩) 1 1, .slice (some ⟨w.heap.size + 1 + 1, 0, none⟩) 2 2, .slice (some ⟨w.heap.size + 1 + 1 + 1, 0, none⟩) 3 3] 22)) = W1 from hW1.out, hg.out, show g + 1 + 1 + 1 + 1 = g + 4 from rfl]
  obtain ⟨L, hL⟩ : ∃ L : Addr, Hid ((⟨g + 4, 0, none⟩ : Addr) = L) := ⟨_, rfl⟩
  rw [hL.out] at hr4 ⊢
  have hput := Lib.hid (putJ_any (some L) 4 4 (g + 5) (rows4 g) W1 (rows4_len g) (by omega) (fun r hr => by have := rows4_small g r hr; omega) (by rw [hz1.out]; exact Nat.le_refl _) hr4.out)
  go_upto_region 5 with (go_at_call 24; refine hput.out.mono ?_; rintro e w2 ⟨⟨v2, rfl, ho⟩, hb2⟩; rw [b30_put] at ho ⊢; simp only [show ((0 : Nat) : Int) = 0 from rfl] at ho ⊢; obtain ⟨A2, c2, rfl, hc2, _, hr⟩ := own_form ho; rw [hN.out] at hc2 ⊢; have Hc2 := Lib.hid hc2; have R2 : Hid (RdB w2 w2.heap.size A2 b30) := hr; have D2 := Lib.hid hb2; clear ho hr hb2 hc2)
  have B2 := Lib.hid (hbW1.out.trans (D2.out.mono hbW1.out.size))
  have hrl : Hid (∀ wx, Below w2.heap.size w2 wx → RdR wx w2.heap.size (some L) (rows4 g)) := fun wx hx => RdR.below (RdR.more (RdR.below hr4.out (D2.out.mono (by rw [hz1.out]; exact Nat.le_refl _))) (by have h1 := D2.out.size; have h2 := hz1.out; omega)) hx
  have hrb : Hid (∀ wx, Below w2.heap.size w2 wx → RdB wx w2.heap.size A2 b30) := fun wx hx => Reads.below R2.out hx
  have hc30 : (N : Int) ≤ (c2 : Int) := by have := Hc2.out; omega
  have hb30 := hN
  have hR4 := Lib.hid (rows4_len g)
  have hRs := Lib.hid (rows4_small g)
  have hRc := Lib.hid (rows4_cap g)
  clear kc3 hput hr4 R2
  have hN47 : N ≤ 140737488351232 := by omega
  generalize b30 = bb at hrb hb30
  generalize rows4 g = R at hrl hR4 hRs hRc hW1
  clear hW1
  obtain ⟨ad1, s1, had1, _, hcs, hxs, hrows⟩ := (hrl.out _ (.refl _ _)).at_ (k := 1) (by rw [hR4.out]; omega)
  injection had1 with had1
  subst had1
  have hss := Lib.hid (hRs.out s1 (mem_of_get hxs))
  have hsw : Hid (∀ wx, Below w2.heap.size w2 wx → RdB wx w2.heap.size s1.A s1.l) := fun wx hx => Reads.below hrows hx
  have hLb : Hid (∀ q, (L.add q).block < w2.heap.size) := fun q => by
    have h1 : (L.add q).block = g + 4 := by rw [block_of_add, ← hL.out]
    rw [h1]
    have h2 := hz1.out
    have h3 := D2.out.size
    omega
  have HS1 : Hid (∀ wx, Below w2.heap.size w2 wx → wx.cell? ⟨L.block, L.off + 1, none⟩ = some (.slice s1.A s1.l.length s1.c)) := fun wx hx => (hx.cell (hLb.out 1)).trans hcs
  clear hcs hxs hrows
  obtain ⟨ad0, s0, had0, _, hcs, hxs, hrows⟩ := (hrl.out _ (.refl _ _)).at_ (k := 0) (by rw [hR4.out]; omega)
  injection had0 with had0
  subst had0
  have hs0 := Lib.hid (hRs.out s0 (mem_of_get hxs))
  have hw0 : Hid (∀ wx, Below w2.heap.size w2 wx → RdB wx w2.heap.size s0.A s0.l) := fun wx hx => Reads.below hrows hx
  have HS0 : Hid (∀ wx, Below w2.heap.size w2 wx → wx.cell? L = some (.slice s0.A s0.l.length s0.c)) := fun wx hx => (hx.cell (hLb.out 0)).trans hcs
  clear hcs hxs hrows
  go_wp2
  go_loopw [4] (fun i wr => ∃ n : Nat, n ≤ N + 1 ∧ i = .int .i64 (n : Int) ∧ Below w2.heap.size w2 wr) (fun i _ => N + 1 - (intOf i).toNat)
  case atStart => exact ⟨0, by omega, rfl, .refl _ _⟩
  case round =>
    obtain ⟨n, hn, rfl, hb⟩ := hrel
    have Bwr := Lib.hid hb
    clear hb
    by_cases hlt : n ≤ N
    · have hnI : (n : Int) ≤ (N : Int) := by omega
      obtain ⟨q, hq⟩ : ∃ q, n % 4 = q := ⟨_, rfl⟩
      have hq4 : q < 4 := by omega
      have hqI : (n : Int).tmod 4 = (q : Int) := by rw [Int.tmod_eq_emod_of_nonneg (by omega)]; omega
      have hq0 : (0 : Int) ≤ (q : Int) := by omega
      obtain ⟨d, hd⟩ : ∃ d, n / 3 = d := ⟨_, rfl⟩
      have hdI : (n : Int).tdiv 3 = (d : Int) := by rw [Int.tdiv_eq_ediv_of_nonneg (by omega)]; omega
      have hd30 : (d : Int) ≤ 100 := by omega
      have hdW : IntKind.i64.wrap (d : Int) = (d : Int) := by
        rw [IntKind.wrap_i64]
        omega
      have hqW : IntKind.i64.wrap (q : Int) = (q : Int) := by
        rw [IntKind.wrap_i64]
        omega
      have hqI4 : (q : Int) < 4 := by omega
      have hqI5 : (q : Int) ≤ 4 := by omega
      have hnc : (n : Int) ≤ (c2 : Int) := by omega
      obtain ⟨ad, r, had, _, hcr, hx, hrow⟩ := (hrl.out _ Bwr.out).at_ (k := q) (by rw [hR4.out]; exact hq4)
      injection had with had
      subst had
      have hrs := Lib.hid (hRs.out r (mem_of_get hx))
      have hrc := Lib.hid (hRc.out r (mem_of_get hx))
      have hrw : Hid (∀ wx, Below wr.heap.size wr wx → RdB wx w2.heap.size r.A r.l) := fun wx hx => Reads.below hrow (hx.mono Bwr.out.size)
      have HSb : Hid (∀ wx, Below wr.heap.size wr wx → wx.cell? (L.add q) = some (.slice r.A r.l.length r.c)) := fun wx hx => (hx.cell (Nat.lt_of_lt_of_le (hLb.out q) Bwr.out.size)).trans hcr
      have hbd : Hid (Below wr.heap.size wr wr.drew) := (Below.refl _ _).drew
      have B3 : Hid (∀ wx, Below wr.heap.size wr wx → Below w2.heap.size w2 wx) := fun wx hx => below_then Bwr.out hx (Nat.le_refl _)
      have hbn : Hid (∀ wx, Below wr.heap.size wr wx → RdB wx wx.heap.size A2 (bb.take n)) := fun wx hx => Reads.more (RdB.first (hrb.out _ (B3.out _ hx)) (by rw [hb30.out]; exact hlt)) (B3.out _ hx).size
      have hbnl : Hid ((bb.take n).length = n) := takeN hb30.out hlt
      clear hcr hrow hx
      go_upto_region 8 with fail
      go_region_held3 (fun wx => wx.cell? (L.add q) = some (.slice r.A r.l.length r.c)) (first | exact HSb.out _ D6.out | exact HSb.out _ D5.out | exact HSb.out _ D4.out | exact HSb.out _ D3.out | exact HSb.out _ hbd.out) (first
        | (go_at_call 27; refine (of_any r.A r.c w2.heap.size r.l.length r.l wr.drew rfl (by have := hrs.out; omega) (B3.out _ hbd.out).size (hrw.out _ hbd.out)).mono ?_; rintro e w3 ⟨rfl, hb3⟩; have D3 := Lib.hid (below_then hbd.out hb3 (Nat.le_refl _)); clear hb3)
        | (go_at_call 3; have hrd := readsLaw_any A2 c2 (bb.take n) d r.l.length (sum r.l).toNat w3 (by rw [hbnl.out]; omega) (by rw [hbnl.out]; have := Hc2.out; omega) (hbn.out _ D3.out); rw [hbnl.out] at hrd; refine hrd.mono ?_; rintro e w4 ⟨rfl, hb4⟩; have D4 := Lib.hid (below_then D3.out hb4 (Nat.le_refl _)); clear hb4 hrd)
        | (go_at_call 5; have hkp := keepsLaw_any (some L) A2 4 c2 (R) (n : Int) (bb.take n) w4 (by rw [hR4.out]; omega) (by rw [hR4.out]; omega) (fun r hr => by have := hRs.out r hr; omega) (RdR.more (hrl.out _ (B3.out _ D4.out)) (B3.out _ D4.out).size) (by omega) (by rw [hbnl.out]; omega) (hbn.out _ D4.out); rw [hbnl.out, hR4.out] at hkp; refine hkp.mono ?_; rintro e w5 ⟨rfl, hb5⟩; have D5 := Lib.hid (below_then D4.out hb5 (Nat.le_refl _)); clear hb5 hkp)
        | (go_at_call 4; have hapd := appendsLaw_any A2 r.A (some L) c2 r.c 4 (bb.take n) r.l ((R).take q) w5 (by rw [hbnl.out]; omega) (by rw [hbnl.out]; have := Hc2.out; omega) (hbn.out _ D5.out) (by have := hrs.out; omega) (Reads.more (hrw.out _ D5.out) (B3.out _ D5.out).size) (by rw [List.length_take, hR4.out]; omega) (fun r hr => by have := hRs.out r (List.mem_of_mem_take hr); omega) (RdR.first (RdR.more (hrl.out _ (B3.out _ D5.out)) (B3.out _ D5.out).size) (by rw [hR4.out]; omega)); rw [hbnl.out, List.length_take, hR4.out, Nat.min_eq_left (by omega)] at hapd; refine hapd.mono ?_; rintro e w6 ⟨rfl, hb6⟩; have D6 := Lib.hid (below_then D5.out hb6 (Nat.le_refl _)); clear hb6 hapd))
      have D7 := Lib.hid (B3.out _ D6.out)
      have hown := own_any A2 c2 w2.heap.size bb w6 (by rw [hb30.out]; exact hN47) (hrb.out _ D7.out)
      rw [hb30.out] at hown
      have Hown := Lib.hid hown
      clear hown hbd HSb D3 D4 D5 hbn hbnl hrw
      have hwn : IntKind.i64.wrap ((n : Int) + 1) = (n : Int) + 1 := IntWalk.i64_in _ (by omega)
      go_upto_region 11 with (go_at_call 8; refine Hown.out.mono ?_; rintro e w7 ⟨v7, rfl, ho7, hb7⟩; obtain ⟨g7, c7, rfl, hg7, _⟩ := ho7.form (by omega); have O7 := Lib.hid ho7; have G7 := Lib.hid hg7; have D8 := Lib.hid (below_then D7.out hb7 (Nat.le_refl _)); have D67 := Lib.hid hb7; clear ho7 hg7 hb7)
      by_cases hlt' : n < N
      · have hltI : (n : Int) < (N : Int) := by omega
        have hn0 : (0 : Int) ≤ (n : Int) := by omega
        obtain ⟨x, hcx, _⟩ := own_cell O7.out (k := n) (by omega)
        have hf := O7.out.frozenAt n
        obtain ⟨y, hy⟩ : ∃ y, y = x ^^^ 8 := ⟨_, rfl⟩
        obtain ⟨h1, h2⟩ := own_set (k := n) (x := (y.toNat : Int)) y O7.out rfl
        have H1 := Lib.hid h1
        have Hb8 := Lib.hid (D8.out.setCell (p := ⟨g7, n, none⟩) (Nat.le_trans D7.out.size G7.out) (.int .u8 (y.toNat : Int)))
        have hp3 : bits .xor .u8 (x.toNat : Int) 8 = (y.toNat : Int) := by rw [hy]; exact xor8 x 8
        clear h1 h2 hy
        have hol : Hid ((bb.set n y).length = N) := by show _ = _; rw [List.length_set]; exact hb30.out
        go_upto_region 13 with fail
        obtain ⟨w8, hw8⟩ : ∃ w8, w7.setCell ⟨g7, n, none⟩ (.int .u8 (y.toNat : Int)) = w8 := ⟨_, rfl⟩
        rw [hw8] at H1 Hb8 ⊢
        clear hw8 hp3 hcx
        obtain ⟨X, cx, eX, hcc, _, hrx⟩ := own_form H1.out
        injection eX with eX _ ecx
        subst eX ecx
        have Hcc := Lib.hid hcc
        have Hrx : Hid (RdB w8 w8.heap.size (some ⟨g7, 0, none⟩) (bb.set n y)) := by
          show Reads _ _ 1 _ (bb.set n y).length (bs (bb.set n y))
          rw [hol.out]
          exact hrx
        clear hcc hrx
        have hcl := HS1.out _ Hb8.out
        go_wp2_with (first
          | (go_at_call 27; refine (of_any s1.A s1.c w2.heap.size s1.l.length s1.l _ rfl (by have := hss.out; omega) Hb8.out.size (hsw.out _ Hb8.out)).mono ?_; rintro e w9 ⟨rfl, hb9⟩; have D9 := Lib.hid (below_then Hb8.out hb9 (Nat.le_refl _)); have D89 := Lib.hid hb9; clear hb9)
          | (go_at_call 3; have hrd := readsLaw_any (some ⟨g7, 0, none⟩) c7 (bb.set n y) 6 s1.l.length (sum s1.l).toNat w9 (by rw [hol.out]; omega) (by rw [hol.out]; exact Hcc.out) (Reads.more (Reads.below Hrx.out D89.out) D89.out.size); rw [hol.out] at hrd; refine hrd.mono ?_; rintro e w10 ⟨rfl, hb10⟩; have D10 := Lib.hid (below_then D9.out hb10 (Nat.le_refl _)); clear hb10 hrd))
        go_roundw
        case rel => exact ⟨n + 1, by omega, by go_num, D10.out⟩
        case measure => simp [intOf]; omega
      · obtain rfl : n = N := by omega
        go_upto_region 13 with fail
        obtain ⟨X, cx, eX, hcc, _, hrx⟩ := own_form O7.out
        injection eX with eX _ ecx
        subst eX ecx
        have Hcc := Lib.hid hcc
        have Hrx : Hid (RdB w7 w7.heap.size (some ⟨g7, 0, none⟩) bb) := by
          show Reads _ _ 1 _ bb.length (bs bb)
          rw [hb30.out]
          exact hrx
        clear hcc hrx
        have hcl := HS1.out _ D8.out
        go_wp2_with (first
          | (go_at_call 27; refine (of_any s1.A s1.c w2.heap.size s1.l.length s1.l _ rfl (by have := hss.out; omega) D8.out.size (hsw.out _ D8.out)).mono ?_; rintro e w9 ⟨rfl, hb9⟩; have D9 := Lib.hid (below_then D8.out hb9 (Nat.le_refl _)); have D89 := Lib.hid hb9; clear hb9)
          | (go_at_call 3; have hrd := readsLaw_any (some ⟨g7, 0, none⟩) c7 bb 6 s1.l.length (sum s1.l).toNat w9 (by rw [hb30.out]; omega) (by rw [hb30.out]; exact Hcc.out) (Reads.more (Reads.below Hrx.out D89.out) D89.out.size); rw [hb30.out] at hrd; refine hrd.mono ?_; rintro e w10 ⟨rfl, hb10⟩; have D10 := Lib.hid (below_then D9.out hb10 (Nat.le_refl _)); clear hb10 hrd))
        go_roundw
        case rel => exact ⟨n + 1, by omega, by go_num, D10.out⟩
        case measure => simp [intOf]
    · obtain rfl : n = N + 1 := by omega
      go_upto_region 15 with fail
      go_upto_region 15 with fail
      obtain ⟨wo, rfl⟩ : ∃ wo : World, wo = wr := ⟨_, rfl⟩
      have Bwo : Hid (Below w2.heap.size w2 wo) := Lib.hid Bwr.out
      obtain ⟨KB, hKB⟩ : ∃ K : Nat, Hid (65535 = K) := ⟨_, rfl⟩
      obtain ⟨KL, hKL⟩ : ∃ K : Nat, Hid (65536 = K) := ⟨_, rfl⟩
      have hmb := fun w => run_make_bytes w KB 65535 (by rw [← hKB.out]; rfl) (by rw [← hKB.out]; decide)
      have hml := fun w => run_make_bytes w KL 65536 (by rw [← hKL.out]; rfl) (by rw [← hKL.out]; decide)
      obtain ⟨J, hJ⟩ : ∃ J, Hid (encJ [noughts KB] = J) := ⟨_, rfl⟩
      obtain ⟨M, hM⟩ : ∃ M, Hid (J.length = M) := ⟨_, rfl⟩
      have hM2 : Hid (M ≤ 70000) := by show M ≤ 70000; rw [← hM.out, ← hJ.out]; exact long_len KB (by rw [← hKB.out]; exact Nat.le_refl _)
      have hpb : Hid (putJ [noughts KB] = (J, 0)) := by
        show putJ [noughts KB] = (J, 0)
        rw [putJ_ok, hJ.out]
        intro m hm
        simp only [List.mem_cons, List.not_mem_nil, or_false] at hm
        rw [hm, noughts_len, ← hKB.out]
        exact Nat.le_refl _
      have hpl : Hid (∀ m, putJ [m, noughts KL] = ([], 3)) := fun m => putJ_no (m := noughts KL) (by simp) (by rw [noughts_len, ← hKL.out]; decide)
      have hput5 := putJ_any (some ⟨wo.heap.size + 1, 0, none⟩) 1 1 (wo.heap.size + 2) [⟨some ⟨wo.heap.size, 0, none⟩, KB, noughts KB⟩] ((wo.alloc (.cells (bs (noughts KB)).toArray 5)).alloc (.cells #[.slice (some ⟨wo.heap.size, 0, none⟩) KB KB] 22)) rfl (by omega) (by
        intro r hr
        simp only [List.mem_cons, List.not_mem_nil, or_false] at hr
        rw [hr, noughts_len, ← hKB.out]
        decide) (by simp) (by
        have h1 := reads_lit wo (xs := bs (noughts KB)) rfl
        have h2 := lit1_reads (wo.alloc (.cells (bs (noughts KB)).toArray 5)) (wo.heap.size + 1) KB KB (some ⟨wo.heap.size, 0, none⟩) (noughts KB) (noughts_len _) (by simp) h1
        rw [show (wo.alloc (.cells (bs (noughts KB)).toArray 5)).heap.size = wo.heap.size + 1 by simp] at h2
        exact h2)
      have Hput5 := Lib.hid hput5
      clear hput5
      have hbW5 : Hid (Below w2.heap.size w2 ((wo.alloc (.cells (bs (noughts KB)).toArray 5)).alloc (.cells #[.slice (some ⟨wo.heap.size, 0, none⟩) KB KB] 22))) := below_then Bwo.out ((below_new wo _).alloc (by simp) _) (Nat.le_refl _)
      go_upto_region 16 with (go_at_call 24; refine Hput5.out.mono ?_; rintro e w3 ⟨⟨v3, rfl, ho⟩, hb3⟩; rw [show ([⟨some ⟨wo.heap.size, 0, none⟩, KB, noughts KB⟩] : List Row).map (·.l) = [noughts KB] from rfl, hpb.out] at ho ⊢; simp only [show ((0 : Nat) : Int) = 0 from rfl] at ho ⊢; obtain ⟨A3, c3, rfl, hc3, _, hr⟩ := own_form ho; rw [hM.out] at hc3 ⊢; have Hc3 := Lib.hid hc3; have R3 : Hid (RdB w3 w3.heap.size A3 J) := hr; have D3 := Lib.hid (below_then hbW5.out hb3 (Nat.le_refl _)); clear ho hr hb3 hc3)
      have hbd3 : Hid (Below w2.heap.size w2 w3.drew) := D3.out.drew
      have hbl3 : Hid (Below w2.heap.size w2 (w3.drew.alloc (.cells (bs (noughts KL)).toArray 5))) := below_then hbd3.out (below_new _ _) (Nat.le_refl _)
      have hput6 := putJ_any (some ⟨w3.heap.size + 1, 0, none⟩) 2 2 (w3.heap.size + 2) [⟨s0.A, s0.c, s0.l⟩, ⟨some ⟨w3.heap.size, 0, none⟩, KL, noughts KL⟩] ((w3.drew.alloc (.cells (bs (noughts KL)).toArray 5)).alloc (.cells #[.slice s0.A s0.l.length s0.c, .slice (some ⟨w3.heap.size, 0, none⟩) KL KL] 22)) rfl (by omega) (by
        intro r hr
        simp only [List.mem_cons, List.not_mem_nil, or_false] at hr
        rcases hr with rfl | rfl
        · have := hs0.out
          show s0.l.length ≤ _
          omega
        · show (noughts KL).length ≤ _
          rw [noughts_len, ← hKL.out]
          decide) (by simp) (by
        have h1 := reads_lit w3.drew (xs := bs (noughts KL)) rfl
        have h2 := lit2_reads (w3.drew.alloc (.cells (bs (noughts KL)).toArray 5)) (w3.heap.size + 1) s0.l.length s0.c KL KL s0.A (some ⟨w3.heap.size, 0, none⟩) s0.l (noughts KL) rfl (noughts_len _) (by simp) (Reads.more (hw0.out _ hbl3.out) (by have := D3.out.size; omega)) h1
        rw [show (w3.drew.alloc (.cells (bs (noughts KL)).toArray 5)).heap.size = w3.heap.size + 1 by simp] at h2
        exact h2)
      rw [show ([⟨s0.A, s0.c, s0.l⟩, ⟨some ⟨w3.heap.size, 0, none⟩, KL, noughts KL⟩] : List Row).map (·.l) = [s0.l, noughts KL] from rfl, hpl.out] at hput6
      have Hput6 := Lib.hid hput6
      clear hput6
      have hbW6 : Hid (Below w2.heap.size w2 ((w3.drew.alloc (.cells (bs (noughts KL)).toArray 5)).alloc (.cells #[.slice s0.A s0.l.length s0.c, .slice (some ⟨w3.heap.size, 0, none⟩) KL KL] 22))) := below_then hbl3.out (below_new _ _) (Nat.le_refl _)
      clear Hput5 hmb
      go_region_held3 (fun wx => wx.cell? L = some (.slice s0.A s0.l.length s0.c)) (first | exact HS0.out _ hbl3.out | exact HS0.out _ hbd3.out | exact HS0.out _ hbW6.out | exact HS0.out _ D6.out) (first
        | (go_at_call 24; refine Hput6.out.mono ?_; rintro e w6 ⟨⟨v6, rfl, ho⟩, hb6⟩; simp only [show ((3 : Nat) : Int) = 3 from rfl] at ho ⊢; obtain ⟨A6, c6, rfl, _, _, _⟩ := own_form ho; have D6 := Lib.hid (below_then hbW6.out hb6 (Nat.le_refl _)); have D36 := Lib.hid hb6; clear ho hb6))
      have hAJ : Hid (AllJ J [noughts KB] M) := by
        have h := allJ_encs (l := [noughts KB]) (by
          intro m hm
          simp only [List.mem_cons, List.not_mem_nil, or_false] at hm
          rw [hm, noughts_len, ← hKB.out]
          exact Nat.le_refl _)
        rw [hJ.out, hM.out] at h
        exact h
      have hb36 : Hid (Below w3.heap.size w3 w6) := (below_then (((Below.refl _ w3).drew.alloc (by simp) _).alloc (by simp) _) D36.out (Nat.le_refl _))
      clear Hput6 hbW6 hbl3 hbd3 HS0 HS1 hbW5 hpb hpl
      go_upto_region 17 with fail
      have hall := Lib.hid (allJ_any A3 c3 w3.heap.size M J w6 hM.out (by have := hM2.out; omega) Hc3.out hb36.out.size (Reads.below R3.out hb36.out))
      have hbN : Hid (∀ wx, Below w2.heap.size w2 wx → RdB wx wx.heap.size A2 bb) := fun wx hx => Reads.more (hrb.out _ hx) hx.size
      have hKL2 : Hid (KL ≤ 65536) := by show KL ≤ 65536; rw [← hKL.out]; exact Nat.le_refl _
      go_wp2_with (first
        | (go_at_call 7; refine (worksJ_any w11).mono ?_; rintro e w12 ⟨rfl, hb12⟩; have D12 := Lib.hid (below_then D11.out hb12 (Nat.le_refl _)); clear hb12)
        | (go_at_call 5; have hkp := keepsLaw_any none none 0 0 [] 0 [] w10 (by simp) (by simp) (by simp) ⟨Reads.none_, by simp⟩ (by omega) (by simp) Reads.none_; refine hkp.mono ?_; rintro e w11 ⟨rfl, hb11⟩; have D11 := Lib.hid (below_then D10.out hb11 (Nat.le_refl _)); clear hb11 hkp)
        | (go_at_call 3; have hrd := readsLaw_any none 0 [] (-1) 0 0 w9 (by simp) (by simp) Reads.none_; refine hrd.mono ?_; rintro e w10 ⟨rfl, hb10⟩; have D10 := Lib.hid (below_then D9.out hb10 (Nat.le_refl _)); clear hb10 hrd)
        | (go_at_call 3; have hrd := readsLaw_any (some ⟨w8.heap.size, 0, none⟩) 6 [8, 0, 1, 2, 3, 4] 0 0 0 (w8.alloc (.cells #[.int .u8 8, .int .u8 0, .int .u8 1, .int .u8 2, .int .u8 3, .int .u8 4] 5)) (by simp) (by simp) (by have h1 := reads_lit w8 (xs := bs [8, 0, 1, 2, 3, 4]) rfl; exact Reads.more h1 (by simp)); refine hrd.mono ?_; rintro e w9 ⟨rfl, hb9⟩; have D9 := Lib.hid (below_then (below_then D8.out (below_new w8 _) (Nat.le_refl _)) hb9 (Nat.le_refl _)); clear hb9 hrd)
        | (go_at_call 4; have hap := appendsLaw_any A2 (some ⟨w7.heap.size, 0, none⟩) none c2 KL 0 bb (noughts KL) [] (w7.alloc (.cells (bs (noughts KL)).toArray 5)) (by rw [hb30.out]; omega) (by rw [hb30.out]; exact Hc2.out) (hbN.out _ (below_then D7.out (below_new w7 _) (Nat.le_refl _))) (by rw [noughts_len]; have := hKL2.out; omega) (by have h1 := reads_lit w7 (xs := bs (noughts KL)) rfl; exact Reads.more h1 (by simp)) (by simp) (by simp) ⟨Reads.none_, by simp⟩; rw [hb30.out, noughts_len] at hap; refine hap.mono ?_; rintro e w8 ⟨rfl, hb8⟩; have D8 := Lib.hid (below_then (below_then D7.out (below_new w7 _) (Nat.le_refl _)) hb8 (Nat.le_refl _)); clear hb8 hap)
        | (go_at_call 13; refine hall.out.mono ?_; rintro e w7 ⟨⟨v7, own7, p7, rfl, ox7, ha7⟩, hb7⟩; obtain ⟨hm7, _⟩ := allJ_one ha7 hAJ.out; have hl7 : own7.length = 1 := (by have := congrArg List.length hm7; simpa using this); obtain ⟨A7, c7, rfl, _⟩ := ox7.o.reads; rw [hl7]; have D7 := Lib.hid (below_then D6.out hb7 (Nat.le_refl _)); clear ox7 ha7 hb7 hm7 hl7))
      go_ret
      exact ⟨rfl, B2.out.trans (D12.out.mono B2.out.size)⟩
end Go.Proofs.Ytogoaihimepboaa
