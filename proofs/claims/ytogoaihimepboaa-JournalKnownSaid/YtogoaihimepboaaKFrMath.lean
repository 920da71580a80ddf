/- Frames as plain lists of bytes: how one is written, how one is taken, what a row of them comes to, what one digit another does. No program in sight. Conditions: bodies of at most 65535 bytes where it is told. -/
import Derived.Test.YtogoaihimepboaaKGb
import Derived.Test.YtogoaihimepboaaKGf
namespace Go.Proofs.Ytogoaihimepboaa
open Go.RowKit

/-- One byte of a check, the least first. -/
def sbyte (c : BitVec 32) (i : Nat) : UInt8 := UInt8.ofNat (c.toNat / 256 ^ i % 256)
def sumTo (c : BitVec 32) (i : Nat) : List UInt8 := (List.range i).map (sbyte c)
/-- A check, written. -/
def sum4 (c : BitVec 32) : List UInt8 := sumTo c 4
theorem sumTo_snoc (c : BitVec 32) (i : Nat) : sumTo c (i + 1) = sumTo c i ++ [sbyte c i] := by
  unfold sumTo
  rw [List.range_succ, List.map_append]
  rfl
theorem sum4_len (c : BitVec 32) : (sum4 c).length = 4 := by simp [sum4, sumTo]
theorem sbyte_nat (c : BitVec 32) (i : Nat) : (sbyte c i).toNat = c.toNat / 256 ^ i % 256 := ofNat_toNat (by omega)
/-- What some bytes say, the least first. -/
def rdTo (l : List UInt8) : Nat → Nat
  | 0 => 0
  | i + 1 => rdTo l i + (l[i]?.getD 0).toNat * 256 ^ i
theorem rdTo_lt (l : List UInt8) : ∀ i, rdTo l i < 256 ^ i
  | 0 => by simp [rdTo]
  | i + 1 => by
    have h := rdTo_lt l i
    have hx := (l[i]?.getD 0).toNat_lt
    have h2 : (l[i]?.getD 0).toNat * 256 ^ i ≤ 255 * 256 ^ i := Nat.mul_le_mul (by omega) (Nat.le_refl _)
    rw [rdTo, Nat.pow_succ]
    omega
def rd4 (l : List UInt8) : BitVec 32 := BitVec.ofNat 32 (rdTo l 4)
theorem rd4_nat (l : List UInt8) : (rd4 l).toNat = rdTo l 4 := by
  have := rdTo_lt l 4
  unfold rd4
  rw [BitVec.toNat_ofNat]
  exact Nat.mod_eq_of_lt (by omega)
theorem four {l : List UInt8} (h : 4 ≤ l.length) : ∃ a b c d, l.take 4 = [a, b, c, d] ∧ rdTo l 4 = a.toNat + b.toNat * 256 + c.toNat * 65536 + d.toNat * 16777216 := by
  match l, h with
  | a :: b :: c :: d :: r, _ => exact ⟨a, b, c, d, rfl, by simp [rdTo]⟩
theorem rd4_eq {l : List UInt8} (h : 4 ≤ l.length) (c : BitVec 32) : (l.take 4 = sum4 c) = (c = rd4 l) := by
  obtain ⟨x, y, z, u, e, er⟩ := four h
  have hx := x.toNat_lt
  have hy := y.toNat_lt
  have hz := z.toNat_lt
  have hu := u.toNat_lt
  have hc := c.isLt
  have e4 : sum4 c = [sbyte c 0, sbyte c 1, sbyte c 2, sbyte c 3] := rfl
  have n0 := sbyte_nat c 0
  have n1 := sbyte_nat c 1
  have n2 := sbyte_nat c 2
  have n3 := sbyte_nat c 3
  simp only [Nat.pow_zero, Nat.div_one, Nat.pow_one, Nat.reducePow] at n0 n1 n2 n3
  rw [e, e4, eq_iff_iff]
  constructor
  · intro h
    simp only [List.cons.injEq, and_true] at h
    obtain ⟨h0, h1, h2, h3⟩ := h
    apply BitVec.eq_of_toNat_eq
    rw [rd4_nat, er, h0, h1, h2, h3, n0, n1, n2, n3]
    omega
  · intro h
    have hn := congrArg BitVec.toNat h
    rw [rd4_nat, er] at hn
    have h0 : x = sbyte c 0 := UInt8.toNat_inj.1 (by omega)
    have h1 : y = sbyte c 1 := UInt8.toNat_inj.1 (by omega)
    have h2 : z = sbyte c 2 := UInt8.toNat_inj.1 (by omega)
    have h3 : u = sbyte c 3 := UInt8.toNat_inj.1 (by omega)
    rw [h0, h1, h2, h3]
theorem sum4_inj {c d : BitVec 32} (h : sum4 c = sum4 d) : c = d := by
  have h1 : (sum4 d).take 4 = sum4 c := by rw [h, List.take_of_length_le (by rw [sum4_len]; omega)]
  have h2 : (sum4 d).take 4 = sum4 d := by rw [List.take_of_length_le (by rw [sum4_len]; omega)]
  rw [rd4_eq (by rw [sum4_len]; omega)] at h1 h2
  exact h1.trans h2.symm

/-- A frame ahead of its sum. -/
def fhead (k : UInt8) (l : List UInt8) : List UInt8 := k :: (enc l.length ++ l)
/-- A frame, written. -/
def encFr (k : UInt8) (l : List UInt8) : List UInt8 := fhead k l ++ sum4 (sum (fhead k l))
/-- How many bytes a frame has, by its body's. -/
def fsz (n : Nat) : Nat := 1 + sz n + n + 4
theorem fhead_len (k : UInt8) (l : List UInt8) : (fhead k l).length = 1 + sz l.length + l.length := by simp [fhead, sz]; omega
theorem encFr_len (k : UInt8) (l : List UInt8) : (encFr k l).length = fsz l.length := by
  unfold encFr fsz
  rw [List.length_append, fhead_len, sum4_len]
theorem fsz_pos (n : Nat) : 6 ≤ fsz n := by
  have := sz_pos n
  unfold fsz
  omega

/-- Frames: kinds and bodies. -/
abbrev Fk := UInt8 × List UInt8
/-- Take's answer: the frame, the place behind it, the error. -/
def takeF (b : List UInt8) (p : Int) : Fk × Int × Nat :=
  if 0 ≤ p ∧ p < b.length then
    (if (take b (p + 1)).2.2 ≠ 0 then ((0, []), p, (take b (p + 1)).2.2)
    else if 65535 < (take b (p + 1)).1 then ((0, []), p, 3)
    else if (b.length : Int) < (take b (p + 1)).2.1 + (take b (p + 1)).1 + 4 then ((0, []), p, 10)
    else if (b.drop ((take b (p + 1)).2.1.toNat + (take b (p + 1)).1)).take 4 = sum4 (sum (fhead (b[p.toNat]?.getD 0) ((b.drop (take b (p + 1)).2.1.toNat).take (take b (p + 1)).1)))
      then ((b[p.toNat]?.getD 0, (b.drop (take b (p + 1)).2.1.toNat).take (take b (p + 1)).1), (take b (p + 1)).2.1 + (take b (p + 1)).1 + 4, 0) else ((0, []), p, 30))
  else ((0, []), p, 10)
theorem takeF_out {b : List UInt8} {p : Int} (h : p < 0 ∨ (b.length : Int) ≤ p) : takeF b p = ((0, []), p, 10) := by
  unfold takeF
  rw [if_neg (by omega)]
section
variable {b : List UInt8} {q n e : Nat} {f : Int}
theorem takeF_no (hq : q < b.length) (ht : take b ((q : Int) + 1) = (n, f, e)) (he : e ≠ 0) : takeF b q = ((0, []), (q : Int), e) := by
  unfold takeF
  rw [if_pos (by omega), ht, if_pos he]
theorem takeF_big (hq : q < b.length) (ht : take b ((q : Int) + 1) = (n, f, 0)) (hn : 65535 < n) : takeF b q = ((0, []), (q : Int), 3) := by
  unfold takeF
  rw [if_pos (by omega), ht, if_neg (by simp), if_pos hn]
theorem takeF_short (hq : q < b.length) (ht : take b ((q : Int) + 1) = (n, f, 0)) (hn : ¬ 65535 < n) (hs : (b.length : Int) < f + n + 4) : takeF b q = ((0, []), (q : Int), 10) := by
  unfold takeF
  rw [if_pos (by omega), ht, if_neg (by simp), if_neg hn, if_pos hs]
/-- Where a length stands that fits: the bytes ahead of the sum. -/
theorem takeF_head (hq : q < b.length) (ht : take b ((q : Int) + 1) = (n, f, 0)) (hs : ¬ (b.length : Int) < f + n + 4) :
    ∃ F : Nat, f = (F : Int) ∧ F + n + 4 ≤ b.length ∧ q + 1 < F ∧ (b.drop q).take (F + n - q) = fhead (b[q]?.getD 0) ((b.drop F).take n) ∧ F = q + 1 + sz n := by
  have hok : (take b ((q : Int) + 1)).2.2 = 0 := by rw [ht]
  obtain ⟨_, _, k, hk0, hk, hkl, he⟩ := take_ok hok
  rw [ht] at hk he
  simp only at hk he
  refine ⟨q + 1 + k, by omega, by omega, by omega, ?_, ?_⟩
  · have hl : ((b.drop (q + 1 + k)).take n).length = n := by
      rw [List.length_take, List.length_drop]
      omega
    unfold fhead
    rw [hl, he]
    have e1 : ((q : Int) + 1).toNat = q + 1 := by omega
    rw [e1, List.drop_eq_getElem_cons hq, show q + 1 + k + n - q = (k + n) + 1 by omega, List.take_succ_cons, List.take_add, List.drop_drop, List.getElem?_eq_getElem hq]
    rfl
  · have h1 := congrArg List.length he
    have e1 : ((q : Int) + 1).toNat = q + 1 := by omega
    rw [List.length_take, e1, List.length_drop] at h1
    unfold sz
    omega
theorem takeF_odd {F : Nat} (hq : q < b.length) (ht : take b ((q : Int) + 1) = (n, (F : Int), 0)) (hn : ¬ 65535 < n) (hs : F + n + 4 ≤ b.length)
    (h : (b.drop (F + n)).take 4 ≠ sum4 (sum (fhead (b[q]?.getD 0) ((b.drop F).take n)))) : takeF b q = ((0, []), (q : Int), 30) := by
  unfold takeF
  rw [if_pos (by omega), ht, if_neg (by simp), if_neg hn, if_neg (by simp only; omega), Int.toNat_natCast, Int.toNat_natCast, if_neg h]
theorem takeF_fine {F : Nat} (hq : q < b.length) (ht : take b ((q : Int) + 1) = (n, (F : Int), 0)) (hn : ¬ 65535 < n) (hs : F + n + 4 ≤ b.length)
    (h : (b.drop (F + n)).take 4 = sum4 (sum (fhead (b[q]?.getD 0) ((b.drop F).take n)))) : takeF b q = ((b[q]?.getD 0, (b.drop F).take n), ((F + n + 4 : Nat) : Int), 0) := by
  unfold takeF
  rw [if_pos (by omega), ht, if_neg (by simp), if_neg hn, if_neg (by simp only; omega), Int.toNat_natCast, Int.toNat_natCast, if_pos h]
  simp
end
theorem takeF_err {b : List UInt8} {p : Int} (h : (takeF b p).2.2 ≠ 0) : takeF b p = ((0, []), p, (takeF b p).2.2) := by
  unfold takeF at h ⊢
  split
  · rename_i h1
    rw [if_pos h1] at h
    split
    · rfl
    · split
      · rfl
      · split
        · rfl
        · split
          · rename_i h2 h3 h4 h5
            rw [if_neg h2, if_neg h3, if_neg h4, if_pos h5] at h
            exact absurd rfl h
          · rfl
  · rfl
/-- A frame that is taken stands there. -/
theorem takeF_ok {b : List UInt8} {p : Int} (h : (takeF b p).2.2 = 0) :
    ∃ q : Nat, ∃ rest, p = (q : Int) ∧ b.drop q = encFr (takeF b p).1.1 (takeF b p).1.2 ++ rest ∧ (takeF b p).1.2.length ≤ 65535 ∧ (takeF b p).2.1 = ((q + fsz (takeF b p).1.2.length : Nat) : Int) ∧ q + fsz (takeF b p).1.2.length ≤ b.length := by
  by_cases hp : p < 0 ∨ (b.length : Int) ≤ p
  · rw [takeF_out hp] at h
    simp at h
  obtain ⟨q, rfl⟩ := Int.eq_ofNat_of_zero_le (a := p) (by omega)
  have hq : q < b.length := by omega
  obtain ⟨n, f, e, ht⟩ : ∃ n f e, take b ((q : Int) + 1) = (n, f, e) := ⟨_, _, _, rfl⟩
  by_cases he : e = 0
  · subst he
    by_cases hn : 65535 < n
    · rw [takeF_big hq ht hn] at h
      simp at h
    by_cases hs : (b.length : Int) < f + n + 4
    · rw [takeF_short hq ht hn hs] at h
      simp at h
    obtain ⟨F, rfl, hF, hqF, hhead, hsz⟩ := takeF_head hq ht hs
    by_cases hc : (b.drop (F + n)).take 4 = sum4 (sum (fhead (b[q]?.getD 0) ((b.drop F).take n)))
    · have hl : ((b.drop F).take n).length = n := by
        rw [List.length_take, List.length_drop]
        omega
      rw [takeF_fine hq ht hn hF hc]
      simp only
      refine ⟨q, b.drop (F + n + 4), rfl, ?_, by rw [hl]; omega, by rw [hl]; unfold fsz; omega, by rw [hl]; unfold fsz; omega⟩
      have e1 := List.take_append_drop 4 (b.drop (F + n))
      have e2 := List.take_append_drop (F + n - q) (b.drop q)
      rw [List.drop_drop] at e1 e2
      rw [show q + (F + n - q) = F + n by omega] at e2
      unfold encFr
      rw [← hc, ← hhead, List.append_assoc, e1, e2]
    · rw [takeF_odd hq ht hn hF hc] at h
      simp at h
  · rw [takeF_no hq ht he] at h
    exact absurd h he
/-- What is put is taken as it was. -/
theorem takeF_enc {b : List UInt8} {q : Nat} {k : UInt8} {l rest : List UInt8} (hl : l.length ≤ 65535) (h : b.drop q = encFr k l ++ rest) : takeF b q = ((k, l), ((q + fsz l.length : Nat) : Int), 0) := by
  have hlen := congrArg List.length h
  rw [List.length_drop, List.length_append, encFr_len] at hlen
  have h6 := fsz_pos l.length
  have hq : q < b.length := by omega
  have hk : b[q]?.getD 0 = k := by
    rw [List.drop_eq_getElem_cons hq] at h
    unfold encFr fhead at h
    simp only [List.cons_append, List.cons.injEq] at h
    rw [List.getElem?_eq_getElem hq, h.1]
    rfl
  have h1 : b.drop (q + 1) = enc l.length ++ (l ++ (sum4 (sum (fhead k l)) ++ rest)) := by
    rw [← List.drop_drop, h]
    unfold encFr fhead
    simp
  have ht := take_enc (l := b) (p := q + 1) (n := l.length) (by omega) h1
  have ht' : take b ((q : Int) + 1) = (l.length, ((q + 1 + sz l.length : Nat) : Int), 0) := by
    rw [show ((q : Int) + 1) = ((q + 1 : Nat) : Int) by omega, ht]
    simp
  have h2 : b.drop (q + 1 + sz l.length) = l ++ (sum4 (sum (fhead k l)) ++ rest) := by
    rw [← List.drop_drop, h1]
    exact List.drop_left
  have h3 : b.drop (q + 1 + sz l.length + l.length) = sum4 (sum (fhead k l)) ++ rest := by
    rw [← List.drop_drop, h2]
    exact List.drop_left
  have h4 : (b.drop (q + 1 + sz l.length)).take l.length = l := by
    rw [h2]
    exact List.take_left
  have hf : fsz l.length = 1 + sz l.length + l.length + 4 := rfl
  rw [takeF_fine hq ht' (by omega) (by omega) (by rw [h4, hk, h3]; have := sum4_len (sum (fhead k l)); rw [← this]; exact List.take_left), h4, hk]
  congr 2
  omega

/-! ### frames one behind the other -/
/-- After i frames from the beginning on: the frames, and the place. -/
def st (b : List UInt8) : Nat → Option (List Fk × Nat)
  | 0 => some ([], 0)
  | i + 1 => (st b i).bind fun s => if (takeF b s.2).2.2 = 0 then some (s.1 ++ [(takeF b s.2).1], (takeF b s.2).2.1.toNat) else none
theorem st_on {b : List UInt8} {i : Nat} {l : List Fk} {p : Nat} {f : Fk} {nx : Nat} (h : st b i = some (l, p)) (ht : takeF b p = (f, (nx : Int), 0)) : st b (i + 1) = some (l ++ [f], nx) := by
  simp only [st, h, Option.bind_some, ht, if_true, Int.toNat_natCast]
theorem st_stop {b : List UInt8} {i : Nat} {l : List Fk} {p : Nat} (h : st b i = some (l, p)) (ht : (takeF b p).2.2 ≠ 0) : ∀ j, i < j → st b j = none := by
  intro j
  induction j with
  | zero => intro h; omega
  | succ j ih =>
    intro hj
    by_cases e : i = j
    · subst e
      simp only [st, h, Option.bind_some, if_neg ht]
    · simp only [st, ih (by omega), Option.bind_none]
/-- All's answer. -/
def AllF (b : List UInt8) (l : List Fk) (p : Nat) : Prop := st b l.length = some (l, p) ∧ (takeF b p).2.2 ≠ 0
theorem allF_one {b : List UInt8} {l m : List Fk} {p q : Nat} (h : AllF b l p) (h' : AllF b m q) : l = m ∧ p = q := by
  have e : l.length = m.length := by
    rcases Nat.lt_trichotomy l.length m.length with h1 | h1 | h1
    · have := st_stop h.1 h.2 _ h1
      rw [h'.1] at this
      cases this
    · exact h1
    · have := st_stop h'.1 h'.2 _ h1
      rw [h.1] at this
      cases this
  have := h.1
  rw [e, h'.1] at this
  simp only [Option.some.injEq, Prod.mk.injEq] at this
  exact ⟨this.1.symm, this.2.symm⟩
/-- Frames, written. -/
def encFs (l : List Fk) : List UInt8 := l.flatMap fun f => encFr f.1 f.2
def fszs (l : List Fk) : Nat := (encFs l).length
theorem fszs_snoc (l : List Fk) (f : Fk) : fszs (l ++ [f]) = fszs l + fsz f.2.length := by
  unfold fszs encFs
  rw [List.flatMap_append, List.flatMap_singleton, List.length_append, encFr_len]
theorem encFs_snoc {l : List Fk} {k : Nat} {f : Fk} (h : Hid (l[k]? = some f)) : encFs (l.take (k + 1)) = encFs (l.take k) ++ encFr f.1 f.2 := by
  unfold encFs
  rw [List.take_add_one, h.out, Option.toList_some, List.flatMap_append, List.flatMap_singleton]
theorem encFs_split {l : List Fk} {k : Nat} {f : Fk} (h : Hid (l[k]? = some f)) : encFs l = encFs (l.take k) ++ (encFr f.1 f.2 ++ encFs (l.drop (k + 1))) := by
  obtain ⟨hk, e⟩ := List.getElem?_eq_some_iff.1 h.out
  conv => lhs; rw [← List.take_append_drop k l, List.drop_eq_getElem_cons hk, e]
  unfold encFs
  rw [List.flatMap_append, List.flatMap_cons]
/-- Frames that stand from the beginning on are taken. -/
theorem st_encs {b : List UInt8} {l : List Fk} (hl : ∀ f ∈ l, f.2.length ≤ 65535) {rest : List UInt8} (h : b = encFs l ++ rest) : ∀ k, k ≤ l.length → st b k = some (l.take k, fszs (l.take k))
  | 0, _ => by simp [st, fszs, encFs]
  | k + 1, hk => by
    have hx : Hid (l[k]? = some l[k]) := List.getElem?_eq_getElem (by omega)
    have ih := st_encs hl h k (by omega)
    have hd : b.drop (fszs (l.take k)) = encFr l[k].1 l[k].2 ++ (encFs (l.drop (k + 1)) ++ rest) := by
      rw [h, encFs_split hx, List.append_assoc, List.append_assoc]
      exact List.drop_left
    have := st_on ih (takeF_enc (hl _ (List.getElem_mem _)) hd)
    rw [this]
    have e : l.take (k + 1) = l.take k ++ [l[k]] := by rw [List.take_add_one, hx.out]; rfl
    rw [e, fszs_snoc]
/-- Whole frames, and less than one more, ahead of a cut. -/
theorem allF_cut {l : List Fk} (hl : ∀ f ∈ l, f.2.length ≤ 65535) {n m : Nat} (hm : m ≤ l.length) (hn : fszs (l.take m) ≤ n) (hn' : n ≤ (encFs l).length) (hlast : ∀ f, l[m]? = some f → n < fszs (l.take m) + fsz f.2.length) :
    AllF ((encFs l).take n) (l.take m) (fszs (l.take m)) := by
  have hcut : (encFs l).take n = encFs (l.take m) ++ ((encFs (l.drop m)).take (n - fszs (l.take m))) := by
    have e : encFs l = encFs (l.take m) ++ encFs (l.drop m) := by
      unfold encFs
      rw [← List.flatMap_append, List.take_append_drop]
    rw [e, List.take_append, List.take_of_length_le hn]
    rfl
  have hlen : (l.take m).length = m := by rw [List.length_take]; omega
  have h1 := st_encs (b := (encFs l).take n) (l := l.take m) (fun f hf => hl f (List.mem_of_mem_take hf)) hcut m (by omega)
  rw [List.take_take, Nat.min_self] at h1
  refine ⟨by rw [hlen]; exact h1, fun h0 => ?_⟩
  obtain ⟨q, rest, e1, e2, e3, e4, e5⟩ := takeF_ok h0
  have eq : q = fszs (l.take m) := by omega
  subst eq
  rw [List.length_take] at e5
  have h6 := fsz_pos (takeF ((encFs l).take n) (fszs (l.take m) : Nat)).1.2.length
  by_cases hml : m < l.length
  · have hx : Hid (l[m]? = some l[m]) := List.getElem?_eq_getElem hml
    have hlt := hlast _ hx.out
    -- the frame that would be taken is the one that stands there, uncut
    have hd : (encFs l).drop (fszs (l.take m)) = encFr l[m].1 l[m].2 ++ encFs (l.drop (m + 1)) := by
      rw [encFs_split hx]
      exact List.drop_left
    have hd2 : (encFs l).drop (fszs (l.take m)) = encFr (takeF ((encFs l).take n) (fszs (l.take m) : Nat)).1.1 (takeF ((encFs l).take n) (fszs (l.take m) : Nat)).1.2 ++ (rest ++ (encFs l).drop n) := by
      rw [← List.append_assoc, ← e2]
      rw [List.drop_take]
      have : (encFs l).drop n = ((encFs l).drop (fszs (l.take m))).drop (n - fszs (l.take m)) := by rw [List.drop_drop]; congr 1; omega
      rw [this, List.take_append_drop]
    have t1 := takeF_enc (hl _ (List.getElem_mem hml)) hd
    have t2 := takeF_enc e3 hd2
    rw [t1] at t2
    simp only [Prod.mk.injEq, and_true] at t2
    have := congrArg List.length t2.1.2
    omega
  · have : fszs (l.take m) = (encFs l).length := by rw [List.take_of_length_le (by omega)]; rfl
    omega
end Go.Proofs.Ytogoaihimepboaa
