/- The walks of varint's TakeText and TakeAll. Conditions: rows of at most 2^40 bytes. -/
import Derived.Test.YtfjgmbnnmobkbaaTakeA
import Derived.Test.YtfjgmbnnmobkbaaText
namespace Go.Proofs.Ytfjgmbnnmobkbaa
open Go.RowKit

/-- A part of a row. -/
theorem RdB.part {w : World} {B : Nat} {ad : Addr} {l : List UInt8} (hr : RdB w B (some ad) l) (k m : Nat) (hm : k + m ≤ l.length) : RdB w B (some (ad.add k)) ((l.drop k).take m) := by
  refine ⟨by rw [bs_len]; omega, fun hn => ?_⟩
  rw [List.length_take, List.length_drop] at hn
  obtain ⟨ad', e, hb, hc⟩ := hr.2 (by omega)
  injection e with e
  subst e
  refine ⟨_, rfl, by rw [block_of_add]; exact hb, fun j u hu => ?_⟩
  rw [add_of_add]
  refine hc _ u ?_
  rw [← hu]
  simp only [bs, List.getElem?_map, List.getElem?_take, List.getElem?_drop]
  have hjl : j < (bs ((l.drop k).take m)).length := (List.getElem?_eq_some_iff.1 hu).1
  rw [bs_len, List.length_take, List.length_drop] at hjl
  rw [if_pos (by omega)]

theorem takeText_no {l : List UInt8} {p : Int} (h : (take l p).2.2 ≠ 0) : takeText l p = ([], p, (take l p).2.2) := by unfold takeText; rw [if_pos h]
theorem takeText_short {l : List UInt8} {p : Int} (h : (take l p).2.2 = 0) (h2 : (l.length : Int) - (take l p).2.1 < (take l p).1) : takeText l p = ([], p, 10) := by unfold takeText; rw [if_neg (by omega), if_pos h2]
theorem takeText_ok {l : List UInt8} {p : Int} (h : (take l p).2.2 = 0) (h2 : ¬ (l.length : Int) - (take l p).2.1 < (take l p).1) : takeText l p = ((l.drop (take l p).2.1.toNat).take (take l p).1, (take l p).2.1 + (take l p).1, 0) := by unfold takeText; rw [if_neg (by omega), if_neg h2]
/-- TakeText's answer as a value. -/
def textVal (r : List UInt8 × Int × Nat) : Value := .tuple #[.string (txt r.1), .int .i64 r.2.1, .int .i64 (r.2.2 : Nat)]
theorem ret_text {r : List UInt8 × Int × Nat} {s : List UInt8} {x : Int} {e : Nat} (h : r = (s, x, e)) {a : ByteArray} {b d : Int} (ha : a = txt s) (hb : b = x) (hd : d = (e : Nat)) :
    Ending.returned (.tuple #[.string a, .int .i64 b, .int .i64 d]) = .returned (textVal r) := by
  rw [h, ha, hb, hd]; rfl

/-- TakeAll's answer as a value, in a world. -/
def ManyVal (B : Nat) (r : List Nat × Int × Nat) (e : Ending) (w' : World) : Prop :=
  ∃ v, e = .returned (.tuple #[v, .int .i64 r.2.1, .int .i64 (r.2.2 : Nat)]) ∧ w'.ownsRow B 64 1 v r.1.length (us r.1)
theorem many_step {l : List UInt8} {p0 p : Int} {k : Nat} {acc : List Nat} (h : (take l p).2.2 = 0) : takeMany l p0 (k + 1) p acc = takeMany l p0 k (take l p).2.1 (acc ++ [(take l p).1]) := by
  rw [takeMany, if_neg (by omega)]
theorem many_stop {l : List UInt8} {p0 p : Int} {k : Nat} {acc : List Nat} (h : (take l p).2.2 ≠ 0) : takeMany l p0 (k + 1) p acc = ([], p0, (take l p).2.2) := by
  rw [takeMany, if_pos h]

end Go.Proofs.Ytfjgmbnnmobkbaa
