/- The walks of varint's TakeText and TakeAll. Conditions: rows of at most 2^40 bytes. -/
import Derived.Test.YtfjelnhdmmpiaaaTakeA
import Derived.Laws.BytesString
import Derived.Laws.BytesArg
namespace Go.Proofs.Ytfjelnhdmmpiaaa
open Go.RowKit

/-- A row of bytes, as a text. -/
def txt (l : List UInt8) : ByteArray := ⟨l.toArray⟩
theorem txt_data (l : List UInt8) : (txt l).data.toList = l := rfl
theorem txt_size (l : List UInt8) : (txt l).size = l.length := by simp [txt, ByteArray.size]
theorem foldl_txt (l : List UInt8) : (l.map fun c => (c.toNat : Int)).foldl (fun (r : ByteArray) n => r.push (UInt8.ofNat n.toNat)) ByteArray.empty = txt l := by
  rw [foldl_push_bytes]
  simp [txt, ByteArray.empty, ByteArray.emptyWithCapacity, List.map_map, Function.comp_def]
  rfl
theorem run_text_of {w : World} {B : Nat} {ad : Addr} {l : List UInt8} (hr : RdB w B (some ad) l) (c : Nat) : (convert 24 9 (.slice (some ad) l.length c)).run Try.prog w = .ok (.string (txt l)) w := by
  rw [run_convert_bytes_string w _ _ 5 _ _ _ Try.underlying24 Try.underlying5 Try.underlying9]
  have hl : (loadCells ad l.length).run Try.prog w = .ok ((l.map fun c => (c.toNat : Int)).map (Value.int .u8)).toArray w := by
    have h := run_loadCells_list (P := Try.prog) w ad (bs l) (fun j v hj => by
      have hjl : j < l.length := by
        have := (List.getElem?_eq_some_iff.1 hj).1
        rwa [bs_len] at this
      obtain ⟨ad', e, _, hc⟩ := hr.2 (by omega)
      injection e with e
      subst e
      exact hc j v hj)
    rw [bs_len] at h
    rw [h]
    simp [bs, List.map_map, Function.comp_def]
  rw [run_bytesToString w ad l.length c _ hl, foldl_txt]
/-- A part of a row. -/
theorem RdB.part {w : World} {B : Nat} {ad : Addr} {l : List UInt8} (hr : RdB w B (some ad) l) (k m : Nat) (hm : k + m ≤ l.length) : RdB w B (some (ad.add k)) ((l.drop k).take m) := by
  refine ⟨by rw [bs_len]; omega, fun hn => ?_⟩
  rw [List.length_take, List.length_drop] at hn
  obtain ⟨ad', e, hb, hc⟩ := hr.2 (by omega)
  injection e with e
  subst e
  refine ⟨_, rfl, by rw [block_of_add]; exact hb, fun j u hu => ?_⟩
  rw [add_of_add]
  refine hc _ u ?_
  rw [← hu]
  simp only [bs, List.getElem?_map, List.getElem?_take, List.getElem?_drop]
  have hjl : j < (bs ((l.drop k).take m)).length := (List.getElem?_eq_some_iff.1 hu).1
  rw [bs_len, List.length_take, List.length_drop] at hjl
  rw [if_pos (by omega)]

theorem takeText_no {l : List UInt8} {p : Int} (h : (take l p).2.2 ≠ 0) : takeText l p = ([], p, (take l p).2.2) := by unfold takeText; rw [if_pos h]
theorem takeText_short {l : List UInt8} {p : Int} (h : (take l p).2.2 = 0) (h2 : (l.length : Int) - (take l p).2.1 < (take l p).1) : takeText l p = ([], p, 10) := by unfold takeText; rw [if_neg (by omega), if_pos h2]
theorem takeText_ok {l : List UInt8} {p : Int} (h : (take l p).2.2 = 0) (h2 : ¬ (l.length : Int) - (take l p).2.1 < (take l p).1) : takeText l p = ((l.drop (take l p).2.1.toNat).take (take l p).1, (take l p).2.1 + (take l p).1, 0) := by unfold takeText; rw [if_neg (by omega), if_neg h2]
/-- TakeText's answer as a value. -/
def textVal (r : List UInt8 × Int × Nat) : Value := .tuple #[.string (txt r.1), .int .i64 r.2.1, .int .i64 (r.2.2 : Nat)]
theorem ret_text {r : List UInt8 × Int × Nat} {s : List UInt8} {x : Int} {e : Nat} (h : r = (s, x, e)) {a : ByteArray} {b d : Int} (ha : a = txt s) (hb : b = x) (hd : d = (e : Nat)) :
    Ending.returned (.tuple #[.string a, .int .i64 b, .int .i64 d]) = .returned (textVal r) := by
  rw [h, ha, hb, hd]; rfl

set_option maxHeartbeats 1000000 in
set_option maxRecDepth 100000 in
theorem takeText_any (A : Option Addr) (c B : Nat) (l : List UInt8) (p : Int) (w : World) (hl : l.length ≤ 1099511627776) (hcap : l.length ≤ c) (hr : RdB w B A l) :
    Calls Try.prog 20 #[.slice A l.length c, .int .i64 p] w fun e w' => e = .returned (textVal (takeText l p)) ∧ w = w' := by
  have hlen : (l.length : Int) ≤ 1099511627776 := by omega
  have Hl := Lib.hid hl
  have hlt := take_lt l p
  have herr := take_err l p
  clear hl
  by_cases hok : (take l p).2.2 = 0
  · obtain ⟨hp0, _, k, hk0, hnx, hkl, _⟩ := take_ok hok
    obtain ⟨q, rfl⟩ := Int.eq_ofNat_of_zero_le hp0
    obtain ⟨ad, x0, rfl, z1, z2, z3⟩ := RdB.at_ hr (k := q) (by omega)
    clear z1 z2 z3 x0
    by_cases hsh : (l.length : Int) - (take l q).2.1 < (take l q).1
    · have hv := takeText_short hok hsh
      generalize htk : take l (q : Int) = r at *
      obtain ⟨n, f, e⟩ := r
      simp only at hok hnx hsh hlt hv herr
      subst hok
      subst hnx
      have Htk := Lib.hid htk
      have Hv := Lib.hid hv
      have hn64 : (n : Int) ≤ 18446744073709551615 := by omega
      have hfl : (q : Int) + (k : Int) ≤ (l.length : Int) := by omega
      clear htk hv herr hlt
      go_enter Try.func20, Try.ntmps20
      go_wp2_with (go_at_call 18; refine (take_any _ _ B l _ _ Hl.out hcap hr).mono ?_; rintro e w' ⟨rfl, rfl⟩; rw [Htk.out])
      go_ret3
      exact ⟨ret_text Hv.out rfl rfl rfl, rfl⟩
    · have hv := takeText_ok hok hsh
      generalize htk : take l (q : Int) = r at *
      obtain ⟨n, f, e⟩ := r
      simp only at hok hnx hsh hlt hv herr
      subst hok
      obtain ⟨F, hF⟩ : ∃ F : Nat, F = q + k := ⟨_, rfl⟩
      have hnx' : f = (F : Int) := by omega
      subst hnx'
      rw [Int.toNat_natCast] at hv
      have Htk := Lib.hid htk
      have Hv := Lib.hid hv
      have hfl : F + n ≤ l.length := by omega
      have hfl' : (F : Int) + (n : Int) ≤ (l.length : Int) := by omega
      have hsub : ¬ (l.length : Int) - (F : Int) < (n : Int) := hsh
      clear htk hv herr hlt hsh hnx hF hk0 hkl hp0
      have hsl : ((l.drop F).take n).length = n := by rw [List.length_take, List.length_drop]; omega
      have hcv := run_text_of (hr.part F n hfl) (c - F)
      rw [hsl] at hcv
      clear hsl
      by_cases hcF : c = F
      · have hn0 : n = 0 := by omega
        subst hn0
        have hz : (l.drop F).take 0 = [] := by simp
        have Hz := Lib.hid hz
        have hcv0 : (convert 24 9 (.slice (some ad) 0 0)).run Try.prog w = .ok (.string (txt [])) w := run_text_of (w := w) (B := B) (ad := ad) (l := []) Reads.none_ 0
        have hfl0 : (F : Int) ≤ (l.length : Int) := by omega
        clear hz hcv hfl'
        rw [Hz.out] at Hv
        subst hcF
        go_enter Try.func20, Try.ntmps20
        go_wp2_with (go_at_call 18; refine (take_any _ _ B l _ _ Hl.out hcap hr).mono ?_; rintro e w' ⟨rfl, rfl⟩; rw [Htk.out])
        go_ret3
        exact ⟨ret_text Hv.out rfl rfl rfl, rfl⟩
      · go_enter Try.func20, Try.ntmps20
        go_wp2_with (go_at_call 18; refine (take_any _ _ B l _ _ Hl.out hcap hr).mono ?_; rintro e w' ⟨rfl, rfl⟩; rw [Htk.out])
        go_ret3
        exact ⟨ret_text Hv.out rfl rfl rfl, rfl⟩
  · have hv := takeText_no hok
    obtain ⟨hn0, hnp⟩ := take_no hok
    generalize htk : take l p = r at *
    obtain ⟨n, f, e⟩ := r
    simp only at hok hn0 hnp hv herr
    subst hn0
    subst hnp
    have Htk := Lib.hid htk
    have Hv := Lib.hid hv
    have he : ((e : Int) != 0) = true := by rw [bne_iff_ne]; omega
    have he' : (e != 0) = true := by rw [bne_iff_ne]; omega
    clear htk hv herr hlt hok
    go_enter Try.func20, Try.ntmps20
    go_wp2_with (go_at_call 18; refine (take_any _ _ B l _ _ Hl.out hcap hr).mono ?_; rintro e w' ⟨rfl, rfl⟩; rw [Htk.out])
    go_ret3
    exact ⟨ret_text Hv.out rfl rfl rfl, rfl⟩

/-- TakeAll's answer as a value, in a world. -/
def ManyVal (B : Nat) (r : List Nat × Int × Nat) (e : Ending) (w' : World) : Prop :=
  ∃ v, e = .returned (.tuple #[v, .int .i64 r.2.1, .int .i64 (r.2.2 : Nat)]) ∧ w'.ownsRow B 31 1 v r.1.length (us r.1)
theorem many_step {l : List UInt8} {p0 p : Int} {k : Nat} {acc : List Nat} (h : (take l p).2.2 = 0) : takeMany l p0 (k + 1) p acc = takeMany l p0 k (take l p).2.1 (acc ++ [(take l p).1]) := by
  rw [takeMany, if_neg (by omega)]
theorem many_stop {l : List UInt8} {p0 p : Int} {k : Nat} {acc : List Nat} (h : (take l p).2.2 ≠ 0) : takeMany l p0 (k + 1) p acc = ([], p0, (take l p).2.2) := by
  rw [takeMany, if_pos h]

set_option maxHeartbeats 1000000 in
set_option maxRecDepth 100000 in
theorem takeAll_any (A : Option Addr) (c B : Nat) (l : List UInt8) (p many : Int) (w : World) (hl : l.length ≤ 1099511627776) (hcap : l.length ≤ c) (hB : B ≤ w.heap.size) (hr : RdB w B A l) (hm : many ≤ 9223372036854775807) :
    Calls Try.prog 22 #[.slice A l.length c, .int .i64 p, .int .i64 many] w fun e w' => ManyVal w.heap.size (takeAll l p many) e w' ∧ Below w.heap.size w w' := by
  have Hl := Lib.hid hl
  clear hl
  by_cases hpos : 0 < many
  · obtain ⟨K, rfl⟩ := Int.eq_ofNat_of_zero_le (a := many) (by omega)
    have hK : 0 < K := by omega
    have ht : takeAll l p K = takeMany l p K p [] := by unfold takeAll; rw [Int.toNat_natCast]
    have Ht := Lib.hid ht
    clear ht
    go_enter Try.func22, Try.ntmps22
    go_wp2
    go_loopw [6, 7, 8, 12] (fun v nx e i wr => ∃ (k : Nat) (q : Int) (acc : List Nat), k ≤ K ∧ i = .int .i64 (k : Int) ∧ nx = .int .i64 q ∧ e = .int .i64 0 ∧ Hid ((acc.length : Int) ≤ q - p ∧ (acc.length = 0 → q = p) ∧ (0 < acc.length → 0 ≤ p ∧ q ≤ l.length)) ∧ wr.ownsRow w.heap.size 31 1 v acc.length (us acc) ∧ Below w.heap.size w wr ∧ Hid (takeMany l p K p [] = takeMany l p (K - k) q acc)) (fun _ _ _ i _ => K - (intOf i).toNat)
    case atStart => exact ⟨0, p, [], by omega, rfl, rfl, rfl, ⟨by simp, fun _ => rfl, by simp⟩, World.ownsRow_nil _ _ _ _, .refl _ _, by exact rfl⟩
    case round =>
      obtain ⟨k, q, acc, hk, rfl, rfl, rfl, hq, hown, hb, hst⟩ := hrel
      by_cases hlt : k < K
      · have hlt' := take_lt l q
        have herr := take_err l q
        by_cases hok : (take l q).2.2 = 0
        · have hstep := many_step (p0 := p) (k := K - k - 1) (acc := acc) hok
          rw [show K - k - 1 + 1 = K - k from by omega, ← hst.out] at hstep
          obtain ⟨hq0, _, j, hj0, hnx, hjl, _⟩ := take_ok hok
          generalize htk : take l q = r at *
          obtain ⟨n, f, e⟩ := r
          simp only at hok hnx hlt' hstep
          subst hok
          subst hnx
          have hal : acc.length ≤ 2199023255552 := by
            have := hq.out.1; have := hq.out.2.1; have := hq.out.2.2; have := Hl.out; omega
          have Hal := Lib.hid hal
          have Htk := Lib.hid htk
          have Hstep := Lib.hid hstep
          have hq' : Hid (((acc ++ [n]).length : Int) ≤ q + j - p ∧ ((acc ++ [n]).length = 0 → q + j = p) ∧ (0 < (acc ++ [n]).length → 0 ≤ p ∧ q + j ≤ l.length)) := by
            have h1 := hq.out
            refine ⟨by simp; omega, by simp, fun _ => ⟨?_, hjl⟩⟩
            rcases Nat.eq_zero_or_pos acc.length with h | h
            · have := h1.2.1 h; omega
            · exact (h1.2.2 h).1
          clear htk hstep hlt' herr hal hq hst hj0 hjl hq0
          go_wp2_with (first
            | (go_at_call 18; refine (take_any _ _ B l _ _ Hl.out hcap (hr.below (hb.mono hB))).mono ?_; rintro e w' ⟨rfl, rfl⟩; rw [Htk.out])
            | (at_builtin; refine push_word (.tmp 25) (.tmp 27) _ n hown hb.size Hal.out rfl rfl rfl rfl rfl ?_; intro v1 w1 hown1 hb1 hbs1; clear hown))
          go_roundw
          case rel => exact ⟨k + 1, _, acc ++ [n], by omega, by go_num, rfl, rfl, hq', hown1, hb.trans hb1, by rw [show K - (k + 1) = K - k - 1 from by omega]; exact Hstep.out⟩
          case measure => simp [intOf]; omega
        · have hstop := many_stop (p0 := p) (k := K - k - 1) (acc := acc) hok
          rw [show K - k - 1 + 1 = K - k from by omega, ← hst.out, ← Ht.out] at hstop
          obtain ⟨hn0, hnp⟩ := take_no hok
          generalize htk : take l q = r at *
          obtain ⟨n, f, e⟩ := r
          simp only at hok hn0 hnp hlt' hstop herr
          subst hn0
          subst hnp
          have Htk := Lib.hid htk
          have Hstop := Lib.hid hstop
          have he : ((e : Int) != 0) = true := by rw [bne_iff_ne]; omega
          have he' : (e != 0) = true := by rw [bne_iff_ne]; omega
          clear htk hstop hlt' herr hq hst hok
          go_wp2_with (go_at_call 18; refine (take_any _ _ B l _ _ Hl.out hcap (hr.below (hb.mono hB))).mono ?_; rintro e w' ⟨rfl, rfl⟩; rw [Htk.out])
          go_ret3
          refine ⟨?_, hb⟩
          rw [Hstop.out]
          exact ⟨_, rfl, World.ownsRow_nil _ _ _ _⟩
      · have hkK : k = K := by omega
        have hfin := hst.out
        rw [hkK, Nat.sub_self, takeMany, ← Ht.out] at hfin
        have Hfin := Lib.hid hfin
        clear hfin hkK hst hq
        go_wp2
        go_ret3
        refine ⟨?_, hb⟩
        rw [Hfin.out]
        exact ⟨_, rfl, hown⟩
  · have ht : takeAll l p many = ([], p, 0) := by unfold takeAll; rw [show many.toNat = 0 from by omega, takeMany]
    have Ht := Lib.hid ht
    clear ht
    go_enter Try.func22, Try.ntmps22
    go_wp2
    refine wp_loop_rounds 1 ?_
    rw [rounds_succ]
    go_wp2
    go_ret3
    refine ⟨?_, .refl _ _⟩
    rw [Ht.out]
    exact ⟨_, rfl, World.ownsRow_nil _ _ _ _⟩
end Go.Proofs.Ytfjelnhdmmpiaaa
