/- The walks of varint's TakeText and TakeAll. Conditions: rows of at most 2^40 bytes. -/
import Derived.Test.YtfhcpjnjemojgaaKTakeA
import Derived.Test.YtfhcpjnjemojgaaKGa
namespace Go.Proofs.Ytfhcpjnjemojgaa
open Go.RowKit

/-- A part of a row. -/
theorem RdB.part {w : World} {B : Nat} {ad : Addr} {l : List UInt8} (hr : RdB w B (some ad) l) (k m : Nat) (hm : k + m ≤ l.length) : RdB w B (some (ad.add k)) ((l.drop k).take m) := by
  refine ⟨by rw [bs_len]; omega, fun hn => ?_⟩
  rw [List.length_take, List.length_drop] at hn
  obtain ⟨ad', e, hb, hc⟩ := hr.2 (by omega)
  injection e with e
  subst e
  refine ⟨_, rfl, by rw [block_of_add]; exact hb, fun j u hu => ?_⟩
  rw [add_of_add]
  refine hc _ u ?_
  rw [← hu]
  simp only [bs, List.getElem?_map, List.getElem?_take, List.getElem?_drop]
  have hjl : j < (bs ((l.drop k).take m)).length := (List.getElem?_eq_some_iff.1 hu).1
  rw [bs_len, List.length_take, List.length_drop] at hjl
  rw [if_pos (by omega)]

theorem takeText_no {l : List UInt8} {p : Int} (h : (take l p).2.2 ≠ 0) : takeText l p = ([], p, (take l p).2.2) := by unfold takeText; rw [if_pos h]
theorem takeText_short {l : List UInt8} {p : Int} (h : (take l p).2.2 = 0) (h2 : (l.length : Int) - (take l p).2.1 < (take l p).1) : takeText l p = ([], p, 10) := by unfold takeText; rw [if_neg (by omega), if_pos h2]
theorem takeText_ok {l : List UInt8} {p : Int} (h : (take l p).2.2 = 0) (h2 : ¬ (l.length : Int) - (take l p).2.1 < (take l p).1) : takeText l p = ((l.drop (take l p).2.1.toNat).take (take l p).1, (take l p).2.1 + (take l p).1, 0) := by unfold takeText; rw [if_neg (by omega), if_neg h2]
/-- TakeText's answer as a value. -/
def textVal (r : List UInt8 × Int × Nat) : Value := .tuple #[.string (txt r.1), .int .i64 r.2.1, .int .i64 (r.2.2 : Nat)]
theorem ret_text {r : List UInt8 × Int × Nat} {s : List UInt8} {x : Int} {e : Nat} (h : r = (s, x, e)) {a : ByteArray} {b d : Int} (ha : a = txt s) (hb : b = x) (hd : d = (e : Nat)) :
    Ending.returned (.tuple #[.string a, .int .i64 b, .int .i64 d]) = .returned (textVal r) := by
  rw [h, ha, hb, hd]; rfl

set_option maxHeartbeats 1000000 in
set_option maxRecDepth 100000 in
theorem takeText_any (A : Option Addr) (c B : Nat) (l : List UInt8) (p : Int) (w : World) (hl : l.length ≤ 140737488351232) (hcap : l.length ≤ c) (hr : RdB w B A l) :
    Calls Try.prog 86 #[.slice A l.length c, .int .i64 p] w fun e w' => e = .returned (textVal (takeText l p)) ∧ w = w' := by
  have hlen : (l.length : Int) ≤ 140737488351232 := by omega
  have Hl := Lib.hid hl
  have hlt := take_lt l p
  have herr := take_err l p
  clear hl
  by_cases hok : (take l p).2.2 = 0
  · obtain ⟨hp0, _, k, hk0, hnx, hkl, _⟩ := take_ok hok
    obtain ⟨q, rfl⟩ := Int.eq_ofNat_of_zero_le hp0
    obtain ⟨ad, x0, rfl, z1, z2, z3⟩ := RdB.at_ hr (k := q) (by omega)
    clear z1 z2 z3 x0
    by_cases hsh : (l.length : Int) - (take l q).2.1 < (take l q).1
    · have hv := takeText_short hok hsh
      generalize htk : take l (q : Int) = r at *
      obtain ⟨n, f, e⟩ := r
      simp only at hok hnx hsh hlt hv herr
      subst hok
      subst hnx
      have Htk := Lib.hid htk
      have Hv := Lib.hid hv
      have hn64 : (n : Int) ≤ 18446744073709551615 := by omega
      have hfl : (q : Int) + (k : Int) ≤ (l.length : Int) := by omega
      clear htk hv herr hlt
      go_enter Try.func86, Try.ntmps86
      go_wp2_with (go_at_call 50; refine (take_any _ _ B l _ _ Hl.out hcap hr).mono ?_; rintro e w' ⟨rfl, rfl⟩; rw [Htk.out])
      go_ret3
      exact ⟨ret_text Hv.out rfl rfl rfl, rfl⟩
    · have hv := takeText_ok hok hsh
      generalize htk : take l (q : Int) = r at *
      obtain ⟨n, f, e⟩ := r
      simp only at hok hnx hsh hlt hv herr
      subst hok
      obtain ⟨F, hF⟩ : ∃ F : Nat, F = q + k := ⟨_, rfl⟩
      have hnx' : f = (F : Int) := by omega
      subst hnx'
      rw [Int.toNat_natCast] at hv
      have Htk := Lib.hid htk
      have Hv := Lib.hid hv
      have hfl : F + n ≤ l.length := by omega
      have hfl' : (F : Int) + (n : Int) ≤ (l.length : Int) := by omega
      have hsub : ¬ (l.length : Int) - (F : Int) < (n : Int) := hsh
      clear htk hv herr hlt hsh hnx hF hk0 hkl hp0
      have hsl : ((l.drop F).take n).length = n := by rw [List.length_take, List.length_drop]; omega
      have hcv := run_text_of (hr.part F n hfl) (c - F)
      rw [hsl] at hcv
      clear hsl
      by_cases hcF : c = F
      · have hn0 : n = 0 := by omega
        subst hn0
        have hz : (l.drop F).take 0 = [] := by simp
        have Hz := Lib.hid hz
        have hcv0 : (convert 27 9 (.slice (some ad) 0 0)).run Try.prog w = .ok (.string (txt [])) w := run_text_of (w := w) (B := B) (ad := ad) (l := []) Reads.none_ 0
        have hfl0 : (F : Int) ≤ (l.length : Int) := by omega
        clear hz hcv hfl'
        rw [Hz.out] at Hv
        subst hcF
        go_enter Try.func86, Try.ntmps86
        go_wp2_with (go_at_call 50; refine (take_any _ _ B l _ _ Hl.out hcap hr).mono ?_; rintro e w' ⟨rfl, rfl⟩; rw [Htk.out])
        go_ret3
        exact ⟨ret_text Hv.out rfl rfl rfl, rfl⟩
      · go_enter Try.func86, Try.ntmps86
        go_wp2_with (go_at_call 50; refine (take_any _ _ B l _ _ Hl.out hcap hr).mono ?_; rintro e w' ⟨rfl, rfl⟩; rw [Htk.out])
        go_ret3
        exact ⟨ret_text Hv.out rfl rfl rfl, rfl⟩
  · have hv := takeText_no hok
    obtain ⟨hn0, hnp⟩ := take_no hok
    generalize htk : take l p = r at *
    obtain ⟨n, f, e⟩ := r
    simp only at hok hn0 hnp hv herr
    subst hn0
    subst hnp
    have Htk := Lib.hid htk
    have Hv := Lib.hid hv
    have he : ((e : Int) != 0) = true := by rw [bne_iff_ne]; omega
    have he' : (e != 0) = true := by rw [bne_iff_ne]; omega
    clear htk hv herr hlt hok
    go_enter Try.func86, Try.ntmps86
    go_wp2_with (go_at_call 50; refine (take_any _ _ B l _ _ Hl.out hcap hr).mono ?_; rintro e w' ⟨rfl, rfl⟩; rw [Htk.out])
    go_ret3
    exact ⟨ret_text Hv.out rfl rfl rfl, rfl⟩

/-- TakeAll's answer as a value, in a world. -/
def ManyVal (B : Nat) (r : List Nat × Int × Nat) (e : Ending) (w' : World) : Prop :=
  ∃ v, e = .returned (.tuple #[v, .int .i64 r.2.1, .int .i64 (r.2.2 : Nat)]) ∧ w'.ownsRow B 22 1 v r.1.length (us r.1)
theorem many_step {l : List UInt8} {p0 p : Int} {k : Nat} {acc : List Nat} (h : (take l p).2.2 = 0) : takeMany l p0 (k + 1) p acc = takeMany l p0 k (take l p).2.1 (acc ++ [(take l p).1]) := by
  rw [takeMany, if_neg (by omega)]
theorem many_stop {l : List UInt8} {p0 p : Int} {k : Nat} {acc : List Nat} (h : (take l p).2.2 ≠ 0) : takeMany l p0 (k + 1) p acc = ([], p0, (take l p).2.2) := by
  rw [takeMany, if_pos h]

end Go.Proofs.Ytfhcpjnjemojgaa
