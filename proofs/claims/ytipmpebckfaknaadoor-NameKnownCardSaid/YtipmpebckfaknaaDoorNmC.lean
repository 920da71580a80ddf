/- Decimal digits: the reference's, and what is put behind a row. Conditions: numbers below 2^64. -/
import Derived.Test.YtipmpebckfaknaaDoorNmA
import Derived.Test.YtipmpebckfaknaaDoorPush
import Derived.Test.YtipmpebckfaknaaDoorText
import Derived.Lib.ItoaLen
import Derived.Lib.Strings
import Derived.Lib.Walk
import Derived.Deep.Light
namespace Go.Proofs.YtipmpebckfaknaaDoor
open Go.RowKit Go.Lib

/-- What the reference's loop has: digits laid, digits to come. -/
def DigSt (n m : Nat) (s : List UInt8) : Prop := (s = [] ∧ m = n) ∨ (s ≠ [] ∧ decDigits n = (if m = 0 then [] else decDigits m) ++ s)
theorem DigSt.next {n m : Nat} {s : List UInt8} (h : DigSt n m s) (hg : 0 < m ∨ s = []) : DigSt n (m / 10) (UInt8.ofNat (48 + m % 10) :: s) := by
  have hd : decDigits m = (if m / 10 = 0 then [] else decDigits (m / 10)) ++ [UInt8.ofNat (48 + m % 10)] := by
    rw [decDigits]
    by_cases h10 : m < 10
    · rw [dif_pos h10, if_pos (by omega), Nat.mod_eq_of_lt h10]; rfl
    · rw [dif_neg h10, if_neg (by omega)]
  refine .inr ⟨by simp, ?_⟩
  rcases h with ⟨rfl, rfl⟩ | ⟨hs, he⟩
  · exact hd
  · have hm : m ≠ 0 := by
      rcases hg with h | h
      · omega
      · exact absurd h hs
    rw [he, if_neg hm, hd, List.append_assoc]
    rfl
theorem DigSt.done {n : Nat} {s : List UInt8} (h : DigSt n 0 s) (hs : s ≠ []) : s = decDigits n := by
  rcases h with ⟨h, _⟩ | ⟨_, h⟩
  · exact absurd h hs
  · rw [h]; rfl
theorem DigSt.len' {n m : Nat} {s : List UInt8} (h : DigSt n m s) : s.length ≤ (decDigits n).length := by
  rcases h with ⟨rfl, _⟩ | ⟨_, h⟩
  · simp
  · rw [h]; simp
theorem decDigits_le {n : Nat} (h : n < 18446744073709551616) : (decDigits n).length ≤ 20 := by
  rw [decDigits_length]
  exact nDigits_le20 n h
theorem DigSt.len {n m : Nat} {s : List UInt8} (h : DigSt n m s) (hn : n < 18446744073709551616) : s.length ≤ 20 := Nat.le_trans h.len' (decDigits_le hn)
theorem u8_toNat {x : Nat} (h : x < 256) : (UInt8.ofNat x).toNat = x := by simp [UInt8.toNat_ofNat']; omega
theorem txt_isEmpty (l : List UInt8) : (txt l).toList.isEmpty = l.isEmpty := by rw [ByteArray.toList_eq]; rfl
theorem txt_beq (l m : List UInt8) : ((txt l).toList == (txt m).toList) = decide (l = m) := by
  rw [ByteArray.toList_eq, ByteArray.toList_eq, txt_data, txt_data]
  by_cases h : l = m
  · subst h; simp
  · simp [h]
theorem txt_append (l m : List UInt8) : txt l ++ txt m = txt (l ++ m) := by
  apply ByteArray.ext
  simp [txt]
theorem txt_inj {l m : List UInt8} (h : txt l = txt m) : l = m := by
  have := congrArg (fun b => b.data.toList) h
  simpa [txt] using this
/-- string([]byte{c}). -/
theorem run_text_one (w : World) (x : Int) (c : UInt8) (hx : x = (c.toNat : Int)) : (convert 60 9 (.slice (some ⟨w.heap.size, 0, none⟩) 1 1)).run Tryd.prog (w.alloc (.cells #[.int .u8 x] 5)) = .ok (.string (txt [c])) (w.alloc (.cells #[.int .u8 x] 5)) :=
  run_text_of (B := w.heap.size + 1) (ad := ⟨w.heap.size, 0, none⟩) (l := [c]) (reads_byte w 5 x c hx) 1
def strSize : Value → Nat
  | .string b => b.size
  | _ => 0
set_option maxHeartbeats 1000000 in
set_option maxRecDepth 100000 in
theorem rdigits_any (n : Nat) (w : World) (hn : n < 18446744073709551616) :
    Calls Tryd.prog 29 #[.int .u64 (n : Int)] w fun e w' => e = .returned (.string (txt (decDigits n))) ∧ Below w.heap.size w w' := by
  have Hn := Lib.hid hn
  clear hn
  go_enter Tryd.func29, Tryd.ntmps29
  go_wp2
  go_loopw [0, 3] (fun x s wr => ∃ (m : Nat) (l : List UInt8), x = .int .u64 (m : Int) ∧ s = .string (txt l) ∧ Hid (m < 18446744073709551616) ∧ Hid (DigSt n m l) ∧ Below w.heap.size w wr)
    (fun x s _ => 2 * (Lib.intOf x).toNat + (1 - strSize s))
  case atStart => exact ⟨n, [], rfl, rfl, Hn, .inl ⟨rfl, rfl⟩, .refl _ _⟩
  case round =>
    obtain ⟨m, l, rfl, rfl, Hm, Hl, hb⟩ := hrel
    have hll : l.length ≤ 20 := Hl.out.len Hn.out
    obtain ⟨c, hc⟩ : ∃ c : UInt8, Hid (c = UInt8.ofNat (48 + m % 10)) := ⟨_, rfl⟩
    have hcn : 48 + (m : Int) % 10 = (c.toNat : Int) := by rw [hc.out, u8_toNat (by omega)]; omega
    have hcat : ¬ (9223372036854775807 < (txt [c]).size + (txt l).size) := by rw [txt_size, txt_size]; simp; omega
    clear hll
    rcases Nat.eq_zero_or_pos m with hm | hm
    · subst hm
      rcases l with _ | ⟨x, l⟩
      · have hst := run_text_one wr 48 c hcn
        clear hcn
        have he : (txt []).toList.isEmpty = true := by rw [txt_isEmpty]; rfl
        go_wp2
        go_roundw
        case rel => exact ⟨0, [c], rfl, by rw [txt_append]; rfl, Hm, by have := Hl.out.next (.inr rfl); rw [← hc.out] at this; exact this, hb.alloc hb.size _⟩
        case measure => simp [Lib.intOf, strSize, txt_append, txt_size]
      · have he : (txt (x :: l)).toList.isEmpty = false := by rw [txt_isEmpty]; rfl
        clear hcn hcat
        go_wp2
        go_ret
        exact ⟨by rw [← Hl.out.done (by simp)]; rfl, hb⟩
    · have hst := run_text_one wr (48 + (m : Int) % 10) c hcn
      clear hcn
      have hm64 : (m : Int) ≤ 18446744073709551615 := by have := Hm.out; omega
      go_wp2
      go_roundw
      case rel => exact ⟨m / 10, [c] ++ l, by go_num, by rw [txt_append], by have := Hm.out; exact (by omega : m / 10 < 18446744073709551616), by have := Hl.out.next (.inl hm); rw [← hc.out] at this; exact this, hb.alloc hb.size _⟩
      case measure =>
        have := Hm.out
        simp only [Lib.intOf, strSize, txt_append, txt_size, List.length_append, List.length_singleton]
        go_num
end Go.Proofs.YtipmpebckfaknaaDoor
