/- Texts as lists of bytes: joined, held against one another. Conditions: none. -/
import Derived.Test.YtdnbflhpgfgnnaaPush
import Derived.Test.YtdnbflhpgfgnnaaText
namespace Go.Proofs.Ytdnbflhpgfgnnaa
open Go.RowKit Go.Lib

theorem txt_isEmpty (l : List UInt8) : (txt l).toList.isEmpty = l.isEmpty := by rw [ByteArray.toList_eq]; rfl
theorem txt_beq (l m : List UInt8) : ((txt l).toList == (txt m).toList) = decide (l = m) := by
  rw [ByteArray.toList_eq, ByteArray.toList_eq, txt_data, txt_data]
  by_cases h : l = m
  · subst h; simp
  · simp [h]
theorem txt_append (l m : List UInt8) : txt l ++ txt m = txt (l ++ m) := by
  apply ByteArray.ext
  simp [txt]
theorem txt_inj {l m : List UInt8} (h : txt l = txt m) : l = m := by
  have := congrArg (fun b => b.data.toList) h
  simpa [txt] using this
theorem txt_toList (s : ByteArray) : txt s.data.toList = s := by
  obtain ⟨⟨l⟩⟩ := s
  rfl
theorem u8_toNat {x : Nat} (h : x < 256) : (UInt8.ofNat x).toNat = x := by simp [UInt8.toNat_ofNat']; omega
end Go.Proofs.Ytdnbflhpgfgnnaa
