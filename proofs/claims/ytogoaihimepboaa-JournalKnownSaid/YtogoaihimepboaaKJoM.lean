/- The walks of the document's All, Put, Whole and Append. Conditions: a segment of at most 2^40 bytes; at most 2^20 payloads; a payload of at most 2^47 - 4096 bytes. -/
import Derived.Test.YtogoaihimepboaaKJoL
namespace Go.Proofs.Ytogoaihimepboaa
open Go.RowKit

theorem encJ_ge (l : List (List UInt8)) : l.length * 6 ≤ (encJ l).length := by
  induction l with
  | nil => simp
  | cons m l ih =>
    have h1 : encJ (m :: l) = encFr 9 m ++ encJ l := rfl
    have h2 := fsz_pos m.length
    rw [h1, List.length_append, encFr_len, List.length_cons]
    omega
theorem allJ_few {b : List UInt8} {l : List (List UInt8)} {p : Nat} (h : AllJ b l p) : l.length * 6 ≤ b.length := by
  have h1 := encJ_ge l
  have h2 := allJ_len h
  have h3 := (allJ_stand h).1
  omega
/-- The document's All's answer. -/
def AllRV (base : Nat) (b : List UInt8) (e : Ending) (w' : World) : Prop :=
  ∃ (v : Value) (own : List Row) (p : Nat), e = .returned v ∧ Owns base w' v own ∧ AllJ b (own.map (·.l)) p
set_option maxHeartbeats 2000000 in
set_option maxRecDepth 100000 in
theorem refAllJ_any (A : Option Addr) (c B n : Nat) (l : List UInt8) (w : World) (hn : l.length = n) (hl : n ≤ 1099511627776) (hcap : n ≤ c) (hB : B ≤ w.heap.size) (hr : RdB w B A l) :
    Calls Try.prog 18 #[.slice A n c] w fun e w' => AllRV w.heap.size l e w' ∧ Below w.heap.size w w' := by
  have hnI : (n : Int) ≤ 1099511627776 := by omega
  have Hn := Lib.hid hn
  have Hl := Lib.hid hl
  have Hcap := Lib.hid hcap
  have HB := Lib.hid hB
  have Hr := Lib.hid hr
  clear hn hl hcap hB hr
  go_enter Try.func18, Try.ntmps18
  go_wp2
  go_loopw [3, 4] (fun v g wr => ∃ (own : List Row) (p : Nat), g = .int .i64 (p : Int) ∧ p ≤ n ∧ own.length ≤ p ∧ Owns w.heap.size wr v own ∧ Hid (sj l own.length = some (own.map (·.l), p)) ∧ Below w.heap.size w wr) (fun _ g _ => n - (intOf g).toNat)
  case atStart => exact ⟨[], 0, rfl, by omega, by simp, Owns.nil _ _, by exact rfl, .refl _ _⟩
  case round =>
    obtain ⟨own, p, rfl, hp, hop, hown, hst, hb⟩ := hrel
    obtain ⟨M, nx, er, ht⟩ : ∃ M nx e, nxJ l (p : Int) = (M, nx, e) := ⟨_, _, _, rfl⟩
    have Ht := Lib.hid ht
    have HT := Lib.hid (refNext_any A c wr.heap.size n l (p : Int) wr Hn.out Hl.out Hcap.out (Nat.le_refl _) (Reads.more (Reads.below Hr.out (hb.mono HB.out)) (Nat.le_trans HB.out hb.size)))
    have Hown := Lib.hid hown
    have Hb := Lib.hid hb
    by_cases he : er = 0
    · subst he
      obtain ⟨q, rest, e1, e2, e3, e4, e5⟩ := nxJ_ok (b := l) (p := (p : Int)) (by rw [ht])
      rw [ht] at e2 e3 e4 e5
      simp only at e2 e3 e4 e5
      obtain rfl : p = q := by omega
      have h6 := fsz_pos M.length
      obtain ⟨N, hN⟩ : ∃ N, N = p + fsz M.length := ⟨_, rfl⟩
      obtain rfl : nx = (N : Int) := by rw [e4, hN]
      have hNl : N ≤ n := by have := Hn.out; omega
      have hpN : p < N := by omega
      have hpl : (p : Int) < (n : Int) := by omega
      have hst' := Lib.hid (sj_on hst.out ht)
      have Hop := Lib.hid (show own.length ≤ 1099511627776 by have := Hl.out; omega)
      have Hon := Lib.hid (show own.length + 1 ≤ N by omega)
      clear ht e1 e2 e3 e4 e5 h6 hN hst hown hb hop
      go_wp2_with (first
        | (go_at_call 10; refine HT.out.mono ?_; rintro e w1 ⟨⟨v1, rfl, hown1⟩, hb1⟩; rw [Ht.out] at hown1 ⊢; simp only at hown1 ⊢; obtain ⟨A1, c1, rfl, _, _, hr1⟩ := own_form hown1; have hO1 := Hown.out.below hb1; have Hap := Lib.hid (own_apart hown1); have Hlt := Lib.hid Hown.out.head.lt; have HO1 := Lib.hid hO1; have Hr1 := Lib.hid hr1; have Hb1 := Lib.hid hb1; clear hown1 hb1 hr1 hO1)
        | (at_builtin; refine push_slice (.tmp 22) (.tmp 24) ⟨A1, c1, M⟩ rfl HO1.out (Nat.le_trans Hb.out.size Hb1.out.size) Hop.out Hr1.out (fun ad e => ⟨(Hap.out ad e).2, fun e' => by have h1 := (Hlt.out _ e').2; have h2 := (Hap.out ad e).1; omega⟩) rfl rfl rfl rfl ?_; intro v2 w2 hO2 hb2 hbs2))
      go_roundw
      case rel => exact ⟨own ++ [⟨A1, c1, M⟩], N, rfl, hNl, by rw [List.length_append]; exact Hon.out, hO2, by rw [List.length_append, List.map_append]; exact hst', (Hb.out.trans (Hb1.out.mono Hb.out.size)).trans hb2⟩
      case measure => simp [intOf]; omega
    · have hall : AllJ l (own.map (·.l)) p := ⟨by rw [List.length_map]; exact hst.out, by rw [ht]; exact he⟩
      have Hall := Lib.hid hall
      have heI : ((er : Int) != 0) = true := by rw [bne_iff_ne]; omega
      have heN : (er != 0) = true := by rw [bne_iff_ne]; exact he
      clear ht he hall hst hown hb
      by_cases hpl : p < n
      · go_wp2_with (go_at_call 10; refine HT.out.mono ?_; rintro e w1 ⟨⟨v1, rfl, hown1⟩, hb1⟩; rw [Ht.out] at hown1 ⊢; simp only at hown1 ⊢; obtain ⟨A1, c1, rfl, _, _, hr1⟩ := own_form hown1; have hO1 := Hown.out.below hb1; have HO1 := Lib.hid hO1; have Hb1 := Lib.hid hb1; clear hown1 hb1 hr1 hO1)
        go_ret
        exact ⟨⟨_, own, p, rfl, HO1.out, Hall.out⟩, Hb.out.trans (Hb1.out.mono Hb.out.size)⟩
      · go_wp2
        go_ret
        exact ⟨⟨_, own, p, rfl, Hown.out, Hall.out⟩, Hb.out⟩

theorem encJ_le {l : List (List UInt8)} (h : ∀ m ∈ l, m.length ≤ 65535) : (encJ l).length ≤ 65550 * l.length := by
  have := encFs_le (l := l.map fun m => ((9 : UInt8), m)) (by
    intro f hf
    rw [List.mem_map] at hf
    obtain ⟨m, hm, rfl⟩ := hf
    exact h m hm) l.length
  rw [List.take_of_length_le (by rw [List.length_map]; exact Nat.le_refl _), ← encJ_fs] at this
  exact this
set_option maxHeartbeats 1000000 in
set_option maxRecDepth 100000 in
theorem refPutJ_any (A : Option Addr) (c m B : Nat) (rows : List Row) (w : World) (hm : rows.length = m) (hml : m ≤ 1048576) (hls : ∀ r ∈ rows, r.l.length ≤ 140737488351232) (hB : B ≤ w.heap.size) (hr : RdR w B A rows) :
    Calls Try.prog 25 #[.slice A m c] w fun e w' => BytesErr w.heap.size (putJ (rows.map (·.l))) e w' ∧ Below w.heap.size w w' := by
  subst hm
  have hlI : (rows.length : Int) ≤ 1048576 := by omega
  have Hls := Lib.hid hls
  have HB := Lib.hid hB
  have Hml := Lib.hid hml
  clear hls hB hml
  go_enter Try.func25, Try.ntmps25
  go_wp2
  go_loopw [4, 5] (fun v i wr => ∃ k : Nat, k ≤ rows.length ∧ i = .int .i64 (k : Int) ∧ Hid (∀ r ∈ rows.take k, r.l.length ≤ 65535) ∧ wr.ownsRow w.heap.size 5 1 v (encJ ((rows.take k).map (·.l))).length (bs (encJ ((rows.take k).map (·.l)))) ∧ Below w.heap.size w wr) (fun _ i _ => rows.length - (intOf i).toNat)
  case atStart => exact ⟨0, by omega, rfl, by intro f hf; simp at hf, by simpa [encJ, bs] using World.ownsRow_nil w w.heap.size 5 1, .refl _ _⟩
  case round =>
    obtain ⟨k, hk, rfl, hall, hown, hb⟩ := hrel
    by_cases hlt : k < rows.length
    · obtain ⟨ad, r, rfl, _, hc1, hx, hrow⟩ := (hr.below (hb.mono HB.out)).at_ hlt
      have Hfl := Lib.hid (Hls.out r (mem_of_get hx))
      have hkI : (k : Int) < (rows.length : Int) := by omega
      have Hown := Lib.hid hown
      have Hb := Lib.hid hb
      have HPr := Lib.hid (refFrPut_any (frJ r) wr.heap.size wr Hfl.out (Nat.le_refl _) (Reads.more hrow (Nat.le_trans HB.out hb.size)))
      by_cases hbig : 65535 < r.l.length
      · have Hv := Lib.hid (putJ_no (l := rows.map (·.l)) (m := r.l) (List.mem_map_of_mem (mem_of_get hx)) hbig)
        have Hv1 := Lib.hid (joinF_one_no (k := 9) hbig)
        clear hbig hall hown hb hrow
        go_wp2_with (go_at_call 36; refine HPr.out.mono ?_; rintro e w1 ⟨⟨v1, rfl, hown1⟩, hb1⟩; rw [show (frJ r).k = 9 from rfl, show (frJ r).r = r from rfl, Hv1.out] at hown1 ⊢; have Hb1 := Lib.hid hb1; clear hown1 hb1)
        go_ret2
        rw [Hv.out]
        exact ⟨⟨_, rfl, World.ownsRow_nil _ _ _ _⟩, Hb.out.trans (Hb1.out.mono Hb.out.size)⟩
      · have hsm : r.l.length ≤ 65535 := by omega
        have Hv1 := Lib.hid (joinF_one_ok (k := 9) hsm)
        have hall' : Hid (∀ q ∈ rows.take (k + 1), q.l.length ≤ 65535) := by
          intro q hq
          rw [take_snoc hx, List.mem_append, List.mem_singleton] at hq
          rcases hq with hq | rfl
          · exact hall.out q hq
          · exact hsm
        have Hsn : Hid (encJ ((rows.take (k + 1)).map (·.l)) = encJ ((rows.take k).map (·.l)) ++ encFr 9 r.l) := by
          show _ = _
          rw [take_snoc hx, List.map_append, List.map_cons, List.map_nil, encJ_snoc]
        have hle := encJ_le (l := (rows.take (k + 1)).map (·.l)) (by intro m hm; rw [List.mem_map] at hm; obtain ⟨q, hq, rfl⟩ := hm; exact hall'.out q hq)
        rw [Hsn.out, List.length_append, List.length_map, List.length_take] at hle
        have Hle := Lib.hid (show (encJ ((rows.take k).map (·.l))).length + (encFr 9 r.l).length ≤ 140737488355327 by have := Hml.out; omega)
        clear hle hbig hall hsm hown hb hrow
        go_wp2_with (first
          | (go_at_call 36; refine HPr.out.mono ?_; rintro e w1 ⟨⟨v1, rfl, hown1⟩, hb1⟩; rw [show (frJ r).k = 9 from rfl, show (frJ r).r = r from rfl, Hv1.out] at hown1 ⊢; obtain ⟨A1, c1, rfl, _, _, hr1⟩ := own_form hown1; have Hr1 := Lib.hid hr1; have Hb1 := Lib.hid hb1; clear hown1 hb1 hr1)
          | (at_builtin; refine push_row (.tmp 26) (.tmp 27) (own_below Hown.out Hb1.out (Nat.le_refl _)) (Nat.le_trans Hb.out.size Hb1.out.size) Hr1.out Hle.out rfl rfl rfl rfl ?_; intro v2 w2 hown2 hb2 hbs2 hg2))
        go_roundw
        case rel => exact ⟨k + 1, by omega, by go_num, hall', by rw [Hsn.out]; exact hown2, (Hb.out.trans (Hb1.out.mono Hb.out.size)).trans hb2⟩
        case measure => simp [intOf]; omega
    · obtain rfl : k = rows.length := by omega
      rw [List.take_length] at hown hall
      have Hv := Lib.hid (putJ_ok (l := rows.map (·.l)) (by intro m hm; rw [List.mem_map] at hm; obtain ⟨q, hq, rfl⟩ := hm; exact hall.out q hq))
      go_wp2
      go_ret2
      rw [Hv.out]
      exact ⟨⟨_, rfl, hown⟩, hb⟩
end Go.Proofs.Ytogoaihimepboaa
