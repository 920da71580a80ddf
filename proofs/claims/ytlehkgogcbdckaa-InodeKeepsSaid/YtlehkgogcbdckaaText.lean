/- A row of bytes, turned into a text. Conditions: none. -/
import Derived.Test.YtlehkgogcbdckaaBase
import Derived.Laws.BytesString
import Derived.Laws.BytesArg
namespace Go.Proofs.Ytlehkgogcbdckaa
open Go.RowKit

/-- A row of bytes, as a text. -/
def txt (l : List UInt8) : ByteArray := ⟨l.toArray⟩
theorem txt_data (l : List UInt8) : (txt l).data.toList = l := rfl
theorem txt_size (l : List UInt8) : (txt l).size = l.length := by simp [txt, ByteArray.size]
theorem foldl_txt (l : List UInt8) : (l.map fun c => (c.toNat : Int)).foldl (fun (r : ByteArray) n => r.push (UInt8.ofNat n.toNat)) ByteArray.empty = txt l := by
  rw [foldl_push_bytes]
  simp [txt, ByteArray.empty, ByteArray.emptyWithCapacity, List.map_map, Function.comp_def]
  rfl
theorem run_text_of {w : World} {B : Nat} {ad : Addr} {l : List UInt8} (hr : RdB w B (some ad) l) (c : Nat) : (convert 29 9 (.slice (some ad) l.length c)).run Try.prog w = .ok (.string (txt l)) w := by
  rw [run_convert_bytes_string w _ _ 5 _ _ _ Try.underlying29 Try.underlying5 Try.underlying9]
  have hl : (loadCells ad l.length).run Try.prog w = .ok ((l.map fun c => (c.toNat : Int)).map (Value.int .u8)).toArray w := by
    have h := run_loadCells_list (P := Try.prog) w ad (bs l) (fun j v hj => by
      have hjl : j < l.length := by
        have := (List.getElem?_eq_some_iff.1 hj).1
        rwa [bs_len] at this
      obtain ⟨ad', e, _, hc⟩ := hr.2 (by omega)
      injection e with e
      subst e
      exact hc j v hj)
    rw [bs_len] at h
    rw [h]
    simp [bs, List.map_map, Function.comp_def]
  rw [run_bytesToString w ad l.length c _ hl, foldl_txt]
theorem run_text_any {w : World} {B : Nat} {A : Option Addr} {l : List UInt8} (hr : RdB w B A l) (c : Nat) : (convert 29 9 (.slice A l.length c)).run Try.prog w = .ok (.string (txt l)) w := by
  cases A with
  | some ad => exact run_text_of hr c
  | none =>
    have hl : l = [] := by
      cases l with
      | nil => rfl
      | cons x l =>
        obtain ⟨ad, e, _⟩ := hr.2 (by simp)
        cases e
    subst hl
    exact run_convert_bytes_nil w 29 5 Try.underlying29 Try.underlying5 0 c 9 Try.underlying9
end Go.Proofs.Ytlehkgogcbdckaa
