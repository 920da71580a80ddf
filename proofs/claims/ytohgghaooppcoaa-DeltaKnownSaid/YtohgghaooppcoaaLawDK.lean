/- The walk of DeltaKnown: it returns true. Conditions: none. -/
import Derived.Test.YtohgghaooppcoaaLawDBk
import Derived.Test.YtohgghaooppcoaaMany
import Derived.Deep.CutRange
import Derived.StillTailTactics
namespace Go.Proofs.Ytohgghaooppcoaa
open Go.RowKit Go.Lib

/-! ### what it lays -/
def kSL : List Ed := [⟨1, 1, []⟩, ⟨1, 2, []⟩, ⟨2, 0, [120]⟩, ⟨2, 0, [121, 122]⟩, ⟨3, 1, []⟩, ⟨3, 3, []⟩, ⟨1, 0, []⟩, ⟨4, 1, []⟩, ⟨2, 1, [97]⟩, ⟨1, 1, [97]⟩, ⟨2, 0, []⟩, ⟨3, -1, []⟩, ⟨1, 2147483647, []⟩, ⟨3, 2147483648, []⟩, ⟨1, 1099511627776, []⟩]
theorem kSLC : (#[.int .u8 1, .int .i64 1, .string ⟨#[]⟩, .int .u8 1, .int .i64 2, .string ⟨#[]⟩, .int .u8 2, .int .i64 0, .string ⟨#[120]⟩, .int .u8 2, .int .i64 0, .string ⟨#[121, 122]⟩, .int .u8 3, .int .i64 1, .string ⟨#[]⟩, .int .u8 3, .int .i64 3, .string ⟨#[]⟩, .int .u8 1, .int .i64 0, .string ⟨#[]⟩, .int .u8 4, .int .i64 1, .string ⟨#[]⟩, .int .u8 2, .int .i64 1, .string ⟨#[97]⟩, .int .u8 1, .int .i64 1, .string ⟨#[97]⟩, .int .u8 2, .int .i64 0, .string ⟨#[]⟩, .int .u8 3, .int .i64 (-1), .string ⟨#[]⟩, .int .u8 1, .int .i64 2147483647, .string ⟨#[]⟩, .int .u8 3, .int .i64 2147483648, .string ⟨#[]⟩, .int .u8 1, .int .i64 1099511627776, .string ⟨#[]⟩] : Array Value) = (ecells kSL).toArray := rfl
theorem kSLn : Nums kSL := by
  unfold Nums kSL
  simp only [List.mem_cons, List.not_mem_nil, or_false]
  intro x hx
  rcases hx with rfl | rfl | rfl | rfl | rfl | rfl | rfl | rfl | rfl | rfl | rfl | rfl | rfl | rfl | rfl <;> simp
/-- Strings that stand in a row. -/
def StrAt (g n : Nat) (w : World) : Prop := ∀ k, k < n → ∃ s : ByteArray, s.size ≤ 9223372036854775807 ∧ w.cell? ⟨g, k, none⟩ = some (.string s)
theorem StrAt.below {g n B : Nat} {w w' : World} (h : StrAt g n w) (hb : Below B w w') (hg : g < B) : StrAt g n w' := fun k hk => by
  obtain ⟨s, h1, h2⟩ := h k hk
  exact ⟨s, h1, (hb.cell (p := ⟨g, k, none⟩) hg).trans h2⟩
theorem StrAt.new (w : World) (t : TypeId) {cs : Array Value} (ss : List ByteArray) (n : Nat) (hn : ss.length = n) (hc : cs = (ss.map Value.string).toArray) (hs : ∀ s ∈ ss, s.size ≤ 9223372036854775807) : StrAt w.heap.size n (w.alloc (.cells cs t)) := by
  subst hc
  intro k hk
  refine ⟨ss[k]'(by omega), hs _ (List.getElem_mem _), ?_⟩
  rw [cell_of_row (w.alloc (.cells (ss.map Value.string).toArray t)) w.heap.size k _ t (0, 0) (heap_alloc_new w _)]
  simp [show k < ss.length by omega]
def kT1 : List ByteArray := [⟨#[]⟩, ⟨#[97]⟩, ⟨#[97, 98, 99]⟩, ⟨#[97, 98, 99, 100]⟩]
def kT2 : List ByteArray := [⟨#[]⟩, ⟨#[97]⟩, ⟨#[97, 97]⟩, ⟨#[97, 98]⟩, ⟨#[97, 97, 98]⟩, ⟨#[97, 98, 97, 98]⟩, ⟨#[98, 97]⟩]
def kT3 : List ByteArray := [⟨#[]⟩, ⟨#[97]⟩, ⟨#[97, 97, 97]⟩, ⟨#[98]⟩, ⟨#[97, 98]⟩, ⟨#[97, 98, 97]⟩, ⟨#[97, 98, 98, 97]⟩]
theorem kT1C : (#[.string ⟨#[]⟩, .string ⟨#[97]⟩, .string ⟨#[97, 98, 99]⟩, .string ⟨#[97, 98, 99, 100]⟩] : Array Value) = (kT1.map Value.string).toArray := rfl
theorem kT2C : (#[.string ⟨#[]⟩, .string ⟨#[97]⟩, .string ⟨#[97, 97]⟩, .string ⟨#[97, 98]⟩, .string ⟨#[97, 97, 98]⟩, .string ⟨#[97, 98, 97, 98]⟩, .string ⟨#[98, 97]⟩] : Array Value) = (kT2.map Value.string).toArray := rfl
theorem kT3C : (#[.string ⟨#[]⟩, .string ⟨#[97]⟩, .string ⟨#[97, 97, 97]⟩, .string ⟨#[98]⟩, .string ⟨#[97, 98]⟩, .string ⟨#[97, 98, 97]⟩, .string ⟨#[97, 98, 98, 97]⟩] : Array Value) = (kT3.map Value.string).toArray := rfl
theorem kT1s : ∀ s ∈ kT1, s.size ≤ 9223372036854775807 := by
  unfold kT1
  simp only [List.mem_cons, List.not_mem_nil, or_false]
  intro s hs
  rcases hs with rfl | rfl | rfl | rfl <;> simp [ByteArray.size]
theorem kT2s : ∀ s ∈ kT2, s.size ≤ 9223372036854775807 := by
  unfold kT2
  simp only [List.mem_cons, List.not_mem_nil, or_false]
  intro s hs
  rcases hs with rfl | rfl | rfl | rfl | rfl | rfl | rfl <;> simp [ByteArray.size]
theorem kT3s : ∀ s ∈ kT3, s.size ≤ 9223372036854775807 := by
  unfold kT3
  simp only [List.mem_cons, List.not_mem_nil, or_false]
  intro s hs
  rcases hs with rfl | rfl | rfl | rfl | rfl | rfl | rfl <;> simp [ByteArray.size]
def kRowsW (w : World) : World := ((((((((((((w.alloc (.cells #[.int .u8 1] 5)).alloc (.cells #[.int .u8 2] 5)).alloc (.cells #[.int .u8 4, .int .u8 1] 5)).alloc (.cells #[.int .u8 0] 5)).alloc (.cells #[.int .u8 1, .int .u8 0] 5)).alloc (.cells #[.int .u8 2, .int .u8 0] 5)).alloc (.cells #[.int .u8 2, .int .u8 3, .int .u8 97, .int .u8 97] 5)).alloc (.cells #[.int .u8 1, .int .u8 128, .int .u8 0] 5)).alloc (.cells #[.int .u8 3, .int .u8 255, .int .u8 255, .int .u8 255, .int .u8 255, .int .u8 7] 5)).alloc (.cells #[.int .u8 3, .int .u8 128, .int .u8 128, .int .u8 128, .int .u8 128, .int .u8 8] 5)).alloc (.cells #[.int .u8 1, .int .u8 255, .int .u8 255, .int .u8 255, .int .u8 255, .int .u8 255, .int .u8 255, .int .u8 255, .int .u8 255, .int .u8 255, .int .u8 1] 5)).alloc (.cells #[.int .u8 1, .int .u8 1, .int .u8 2, .int .u8 1, .int .u8 97, .int .u8 3, .int .u8 4] 5)).alloc (.cells #[.slice none 0 0, .slice (some ⟨w.heap.size, 0, none⟩) 1 1, .slice (some ⟨w.heap.size + 1, 0, none⟩) 1 1, .slice (some ⟨w.heap.size + 1 + 1, 0, none⟩) 2 2, .slice (some ⟨w.heap.size + 1 + 1 + 1, 0, none⟩) 1 1, .slice (some ⟨w.heap.size + 1 + 1 + 1 + 1, 0, none⟩) 2 2, .slice (some ⟨w.heap.size + 1 + 1 + 1 + 1 + 1, 0, none⟩) 2 2, .slice (some ⟨w.heap.size + 1 + 1 + 1 + 1 + 1 + 1, 0, none⟩) 4 4, .slice (some ⟨w.heap.size + 1 + 1 + 1 + 1 + 1 + 1 + 1, 0, none⟩) 3 3, .slice (some ⟨w.heap.size + 1 + 1 + 1 + 1 + 1 + 1 + 1 + 1, 0, none⟩) 6 6, .slice (some ⟨w.heap.size + 1 + 1 + 1 + 1 + 1 + 1 + 1 + 1 + 1, 0, none⟩) 6 6, .slice (some ⟨w.heap.size + 1 + 1 + 1 + 1 + 1 + 1 + 1 + 1 + 1 + 1, 0, none⟩) 11 11, .slice (some ⟨w.heap.size + 1 + 1 + 1 + 1 + 1 + 1 + 1 + 1 + 1 + 1 + 1, 0, none⟩) 7 7] 38)
theorem rows_lit {w : World} {rs : List Row} (h : ∀ r ∈ rs, RdB w w.heap.size r.A r.l) (l : List UInt8) (cs : Array Value) (t : TypeId) (g : Nat) (hc : cs = (bs l).toArray) (hg : g = w.heap.size) :
    ∀ r ∈ rs ++ [⟨some ⟨g, 0, none⟩, l.length, l⟩], RdB (w.alloc (.cells cs t)) (w.alloc (.cells cs t)).heap.size r.A r.l := by
  subst hc hg
  intro r hr
  rw [List.mem_append, List.mem_singleton] at hr
  rcases hr with hr | rfl
  · exact Reads.more ((h r hr).alloc (Nat.le_refl _) _) (by simp)
  · have := reads_new w t (bs l)
    rw [bs_len] at this
    have hz : (w.alloc (.cells (bs l).toArray t)).heap.size = w.heap.size + 1 := by simp
    rw [hz]
    exact this
theorem size_alloc_ (w : World) (o : Obj) : (w.alloc o).heap.size = w.heap.size + 1 := by simp
theorem known_rows (w : World) : ∃ rows : List Row, rows.length = 13 ∧ (∀ r ∈ rows, r.l.length ≤ r.c ∧ r.l.length ≤ 20) ∧ RdR (kRowsW w) (kRowsW w).heap.size (some ⟨w.heap.size + 1 + 1 + 1 + 1 + 1 + 1 + 1 + 1 + 1 + 1 + 1 + 1, 0, none⟩) rows ∧ Below w.heap.size w (kRowsW w) := by
  have h0 : ∀ r ∈ [(⟨none, 0, []⟩ : Row)], RdB w w.heap.size r.A r.l := by
    intro r hr
    rw [List.mem_singleton] at hr
    subst hr
    exact Reads.none_
  have h1 := rows_lit h0 [1] #[.int .u8 1] 5 (w.heap.size) rfl (by simp)
  have h2 := rows_lit h1 [2] #[.int .u8 2] 5 (w.heap.size + 1) rfl (by simp)
  have h3 := rows_lit h2 [4, 1] #[.int .u8 4, .int .u8 1] 5 (w.heap.size + 1 + 1) rfl (by simp)
  have h4 := rows_lit h3 [0] #[.int .u8 0] 5 (w.heap.size + 1 + 1 + 1) rfl (by simp)
  have h5 := rows_lit h4 [1, 0] #[.int .u8 1, .int .u8 0] 5 (w.heap.size + 1 + 1 + 1 + 1) rfl (by simp)
  have h6 := rows_lit h5 [2, 0] #[.int .u8 2, .int .u8 0] 5 (w.heap.size + 1 + 1 + 1 + 1 + 1) rfl (by simp)
  have h7 := rows_lit h6 [2, 3, 97, 97] #[.int .u8 2, .int .u8 3, .int .u8 97, .int .u8 97] 5 (w.heap.size + 1 + 1 + 1 + 1 + 1 + 1) rfl (by simp)
  have h8 := rows_lit h7 [1, 128, 0] #[.int .u8 1, .int .u8 128, .int .u8 0] 5 (w.heap.size + 1 + 1 + 1 + 1 + 1 + 1 + 1) rfl (by simp)
  have h9 := rows_lit h8 [3, 255, 255, 255, 255, 7] #[.int .u8 3, .int .u8 255, .int .u8 255, .int .u8 255, .int .u8 255, .int .u8 7] 5 (w.heap.size + 1 + 1 + 1 + 1 + 1 + 1 + 1 + 1) rfl (by simp)
  have h10 := rows_lit h9 [3, 128, 128, 128, 128, 8] #[.int .u8 3, .int .u8 128, .int .u8 128, .int .u8 128, .int .u8 128, .int .u8 8] 5 (w.heap.size + 1 + 1 + 1 + 1 + 1 + 1 + 1 + 1 + 1) rfl (by simp)
  have h11 := rows_lit h10 [1, 255, 255, 255, 255, 255, 255, 255, 255, 255, 1] #[.int .u8 1, .int .u8 255, .int .u8 255, .int .u8 255, .int .u8 255, .int .u8 255, .int .u8 255, .int .u8 255, .int .u8 255, .int .u8 255, .int .u8 1] 5 (w.heap.size + 1 + 1 + 1 + 1 + 1 + 1 + 1 + 1 + 1 + 1) rfl (by simp)
  have h12 := rows_lit h11 [1, 1, 2, 1, 97, 3, 4] #[.int .u8 1, .int .u8 1, .int .u8 2, .int .u8 1, .int .u8 97, .int .u8 3, .int .u8 4] 5 (w.heap.size + 1 + 1 + 1 + 1 + 1 + 1 + 1 + 1 + 1 + 1 + 1) rfl (by simp)
  have hR := RdR.new _ _ ([⟨none, 0, []⟩, ⟨some ⟨w.heap.size, 0, none⟩, 1, [1]⟩, ⟨some ⟨w.heap.size + 1, 0, none⟩, 1, [2]⟩, ⟨some ⟨w.heap.size + 1 + 1, 0, none⟩, 2, [4, 1]⟩, ⟨some ⟨w.heap.size + 1 + 1 + 1, 0, none⟩, 1, [0]⟩, ⟨some ⟨w.heap.size + 1 + 1 + 1 + 1, 0, none⟩, 2, [1, 0]⟩, ⟨some ⟨w.heap.size + 1 + 1 + 1 + 1 + 1, 0, none⟩, 2, [2, 0]⟩, ⟨some ⟨w.heap.size + 1 + 1 + 1 + 1 + 1 + 1, 0, none⟩, 4, [2, 3, 97, 97]⟩, ⟨some ⟨w.heap.size + 1 + 1 + 1 + 1 + 1 + 1 + 1, 0, none⟩, 3, [1, 128, 0]⟩, ⟨some ⟨w.heap.size + 1 + 1 + 1 + 1 + 1 + 1 + 1 + 1, 0, none⟩, 6, [3, 255, 255, 255, 255, 7]⟩, ⟨some ⟨w.heap.size + 1 + 1 + 1 + 1 + 1 + 1 + 1 + 1 + 1, 0, none⟩, 6, [3, 128, 128, 128, 128, 8]⟩, ⟨some ⟨w.heap.size + 1 + 1 + 1 + 1 + 1 + 1 + 1 + 1 + 1 + 1, 0, none⟩, 11, [1, 255, 255, 255, 255, 255, 255, 255, 255, 255, 1]⟩, ⟨some ⟨w.heap.size + 1 + 1 + 1 + 1 + 1 + 1 + 1 + 1 + 1 + 1 + 1, 0, none⟩, 7, [1, 1, 2, 1, 97, 3, 4]⟩] : List Row) 38 (Nat.le_refl _) h12
  refine ⟨[⟨none, 0, []⟩, ⟨some ⟨w.heap.size, 0, none⟩, 1, [1]⟩, ⟨some ⟨w.heap.size + 1, 0, none⟩, 1, [2]⟩, ⟨some ⟨w.heap.size + 1 + 1, 0, none⟩, 2, [4, 1]⟩, ⟨some ⟨w.heap.size + 1 + 1 + 1, 0, none⟩, 1, [0]⟩, ⟨some ⟨w.heap.size + 1 + 1 + 1 + 1, 0, none⟩, 2, [1, 0]⟩, ⟨some ⟨w.heap.size + 1 + 1 + 1 + 1 + 1, 0, none⟩, 2, [2, 0]⟩, ⟨some ⟨w.heap.size + 1 + 1 + 1 + 1 + 1 + 1, 0, none⟩, 4, [2, 3, 97, 97]⟩, ⟨some ⟨w.heap.size + 1 + 1 + 1 + 1 + 1 + 1 + 1, 0, none⟩, 3, [1, 128, 0]⟩, ⟨some ⟨w.heap.size + 1 + 1 + 1 + 1 + 1 + 1 + 1 + 1, 0, none⟩, 6, [3, 255, 255, 255, 255, 7]⟩, ⟨some ⟨w.heap.size + 1 + 1 + 1 + 1 + 1 + 1 + 1 + 1 + 1, 0, none⟩, 6, [3, 128, 128, 128, 128, 8]⟩, ⟨some ⟨w.heap.size + 1 + 1 + 1 + 1 + 1 + 1 + 1 + 1 + 1 + 1, 0, none⟩, 11, [1, 255, 255, 255, 255, 255, 255, 255, 255, 255, 1]⟩, ⟨some ⟨w.heap.size + 1 + 1 + 1 + 1 + 1 + 1 + 1 + 1 + 1 + 1 + 1, 0, none⟩, 7, [1, 1, 2, 1, 97, 3, 4]⟩], rfl, ?h2, ?h3, ?h4⟩
  case h3 =>
    have hz : (kRowsW w).heap.size = w.heap.size + 1 + 1 + 1 + 1 + 1 + 1 + 1 + 1 + 1 + 1 + 1 + 1 + 1 := by simp [kRowsW]
    rw [hz]
    simp only [size_alloc_] at hR
    exact hR
  case h4 =>
    unfold kRowsW
    exact ((((((((((((((Below.refl _ _).alloc (Nat.le_refl _) _).alloc (by simp only [size_alloc_]; omega) _).alloc (by simp only [size_alloc_]; omega) _).alloc (by simp only [size_alloc_]; omega) _).alloc (by simp only [size_alloc_]; omega) _).alloc (by simp only [size_alloc_]; omega) _).alloc (by simp only [size_alloc_]; omega) _).alloc (by simp only [size_alloc_]; omega) _).alloc (by simp only [size_alloc_]; omega) _).alloc (by simp only [size_alloc_]; omega) _).alloc (by simp only [size_alloc_]; omega) _).alloc (by simp only [size_alloc_]; omega) _).alloc (by simp only [size_alloc_]; omega) _)
  case h2 =>
    intro r hr
    simp only [List.mem_cons, List.not_mem_nil, or_false] at hr
    rcases hr with rfl | rfl | rfl | rfl | rfl | rfl | rfl | rfl | rfl | rfl | rfl | rfl | rfl <;> simp
theorem four_rd (w : World) (a : UInt8) {k i : Nat} (hk : k < 256) (hi : i < 256) : Hid (RdB (w.alloc (.cells #[.int .u8 (a.toNat : Int), .int .u8 (k : Int), .int .u8 (i : Int), .int .u8 97] 5)) (w.alloc (.cells #[.int .u8 (a.toNat : Int), .int .u8 (k : Int), .int .u8 (i : Int), .int .u8 97] 5)).heap.size (some ⟨w.heap.size, 0, none⟩) [a, UInt8.ofNat k, UInt8.ofNat i, 97]) := by
  have e : (#[.int .u8 (a.toNat : Int), .int .u8 (k : Int), .int .u8 (i : Int), .int .u8 97] : Array Value) = (bs [a, UInt8.ofNat k, UInt8.ofNat i, 97]).toArray := by
    simp only [bs, List.map_cons, List.map_nil, u8_toNat hk, u8_toNat hi]
    rfl
  rw [e]
  have := reads_new w 5 (bs [a, UInt8.ofNat k, UInt8.ofNat i, 97])
  rw [bs_len] at this
  exact Reads.more this (by simp)
theorem below_new (w : World) (o : Obj) : Below w.heap.size w (w.alloc o) := (Below.refl _ w).alloc (Nat.le_refl _) o
theorem Reads.at_lt {w : World} {B size n : Nat} {g : Nat} {xs : List Value} (h : Reads w B size (some ⟨g, 0, none⟩) n xs) (hn : 0 < xs.length) : g < B := by
  have h1 := h.1
  obtain ⟨ad, e, hb, _⟩ := h.2 (by
    rcases Nat.eq_zero_or_pos n with h0 | h0
    · subst h0; omega
    · exact h0)
  injection e with e
  subst e
  exact hb
theorem applies_n (s : ByteArray) (A : Option Addr) (c n : Nat) (l : List Ed) (w : World) (hln : l.length = n) (hs : Hid (s.size ≤ 9223372036854775807)) (hl : n ≤ 9223372036854775807) (hcap : n ≤ c) (hn : Hid (Nums l)) (hr : Hid (RdE w w.heap.size A l)) :
    Calls Try.prog 3 #[.string s, .slice A n c] w fun e w' => e = .returned (.bool true) ∧ Below w.heap.size w w' := by
  subst hln
  exact appliesLaw_any s A c l w hs.out hl hcap hn.out hr.out
theorem back_n (s : ByteArray) (A : Option Addr) (c n : Nat) (l : List Ed) (Y : Option Addr) (cy m : Nat) (y : List UInt8) (w : World) (hln : l.length = n) (hym : y.length = m) (hs : Hid (s.size ≤ 9223372036854775807)) (hl : n ≤ 9223372036854775807) (hcap : n ≤ c) (hn : Hid (Nums l)) (hr : Hid (RdE w w.heap.size A l))
    (hy : m ≤ 9223372036854775807) (hcy : m ≤ cy) (hry : Hid (RdB w w.heap.size Y y)) :
    Calls Try.prog 6 #[.string s, .slice A n c, .slice Y m cy] w fun e w' => e = .returned (.bool true) ∧ Below w.heap.size w w' := by
  subst hln hym
  exact backLaw_any s A c l Y cy y w hs.out hl hcap hn.out hr.out hy hcy hry.out
set_option maxHeartbeats 8000000 in
set_option maxRecDepth 100000 in
theorem deltaKnown_any (w : World) : Calls Try.prog 7 #[] w fun e w' => e = .returned (.bool true) ∧ Below w.heap.size w w' := by
  have hB := Below.refl w.heap.size w
  go_enter Try.func7, Try.ntmps7
  go_upto_region 2 with (first
    | (go_at_call 28; refine (retain_lit _ _).mono ?_; rintro _ wn ⟨rfl, hbn⟩; replace hB := hB.trans (hbn.mono hB.size); clear hbn)
    | (go_at_call 30; refine (drop_lit _ _).mono ?_; rintro _ wn ⟨rfl, hbn⟩; replace hB := hB.trans (hbn.mono hB.size); clear hbn)
    | (go_at_call 29; refine (insert_lit _ _).mono ?_; rintro _ wn ⟨rfl, hbn⟩; replace hB := hB.trans (hbn.mono hB.size); clear hbn))
  rw [kSLC]
  obtain ⟨W1, hW1⟩ : ∃ W1 : World, W1 = wn.alloc (.cells (ecells kSL).toArray 47) := ⟨_, rfl⟩
  have HB1 : Hid (Below w.heap.size w W1) := by rw [hW1]; exact hB.alloc hB.size _
  have HL : Hid (RdE W1 W1.heap.size (some ⟨wn.heap.size, 0, none⟩) kSL) := by rw [hW1]; exact (RdE.new wn kSL _).more (by simp)
  rw [← hW1]
  obtain ⟨N, hN⟩ : ∃ N, N = wn.heap.size := ⟨_, rfl⟩
  rw [← hN] at HL ⊢
  obtain ⟨L, hL⟩ : ∃ L, L = kSL := ⟨_, rfl⟩
  have HLl : Hid (L.length = 15) := by rw [hL]; exact rfl
  have HLn : Hid (Nums L) := by rw [hL]; exact kSLn
  rw [← hL] at HL
  clear hL hN hW1 hB
  go_wp2
  go_loopw [2] (fun v wr => ∃ i : Nat, i ≤ 15 ∧ v = .int .i64 (i : Int) ∧ Below W1.heap.size W1 wr) (fun v _ => 15 - (Lib.intOf v).toNat)
  case atStart => exact ⟨0, Nat.zero_le _, rfl, .refl _ _⟩
  case round =>
    obtain ⟨i, hi, rfl, hbi⟩ := hrel
    by_cases hi15 : i < 15
    · have HBi := Lib.hid hbi
      have hdI : decide ((i : Int) < 15) = true := decide_eq_true (by omega)
      clear hbi
      go_wp2
      go_loopw [3] (fun v wr => ∃ k : Nat, k ≤ 15 ∧ v = .int .i64 (k : Int) ∧ Below W1.heap.size W1 wr) (fun v _ => 15 - (Lib.intOf v).toNat)
      case atStart => exact ⟨0, Nat.zero_le _, rfl, HBi.out⟩
      case round =>
        obtain ⟨k, hk, rfl, hbk⟩ := hrel
        by_cases hk15 : k < 15
        · have HBk := Lib.hid hbk
          have hdK : decide ((k : Int) < 15) = true := decide_eq_true (by omega)
          clear hbk
          go_wp2
          rw [kT1C]
          obtain ⟨W3, hW3⟩ : ∃ W3 : World, W3 = wr.alloc (.cells (kT1.map Value.string).toArray 9) := ⟨_, rfl⟩
          have HB3 : Hid (Below W1.heap.size W1 W3) := by rw [hW3]; exact HBk.out.alloc HBk.out.size _
          have HT3 : Hid (StrAt wr.heap.size 4 W3) := by rw [hW3]; exact StrAt.new wr _ kT1 4 rfl rfl kT1s
          have hg3 : wr.heap.size < W3.heap.size := by rw [hW3]; simp
          rw [← hW3]
          obtain ⟨g3, hg⟩ : ∃ g, g = wr.heap.size := ⟨_, rfl⟩
          rw [← hg] at HT3 hg3 ⊢
          have Hg3 := Lib.hid hg3
          clear hW3 hg hg3
          go_loopw [43] (fun v wz => ∃ q : Nat, q ≤ 4 ∧ v = .int .i64 (q : Int) ∧ Below W3.heap.size W3 wz) (fun v _ => 4 - (Lib.intOf v).toNat)
          case atStart => exact ⟨0, Nat.zero_le _, rfl, .refl _ _⟩
          case round =>
            obtain ⟨q, hq, rfl, hbq⟩ := hrel
            by_cases hq4 : q < 4
            · have hqI : (q : Int) < 4 := by omega
              have hiI : (i : Int) < 15 := by omega
              have hkI : (k : Int) < 15 := by omega
              obtain ⟨s, hs, hcs⟩ := HT3.out.below hbq Hg3.out q hq4
              have Hs := Lib.hid hs
              have hrL := Reads.below HL.out (HB3.out.trans (hbq.mono HB3.out.size))
              have HBq := Lib.hid hbq
              have hlL := HLl.out
              obtain ⟨p, hp⟩ : ∃ p, p = i * k := ⟨_, rfl⟩
              have hp225 : p ≤ 225 := by rw [hp]; exact Nat.le_trans (Nat.mul_le_mul hi hk) (by decide)
              have s1 : IntKind.i64.wrap ((i : Int) * (k : Int)) = (p : Int) := by
                rw [← Int.natCast_mul, ← hp]
                exact IntWalk.i64_in _ (by omega)
              obtain ⟨r, hr⟩ : ∃ r, r = p + 2 := ⟨_, rfl⟩
              have s2 : IntKind.i64.wrap ((p : Int) + 2) = (r : Int) := by rw [IntWalk.i64_in _ (by omega)]; omega
              obtain ⟨m, hm⟩ : ∃ m, m = r % 6 := ⟨_, rfl⟩
              have s3 : (r : Int).tmod 6 = (m : Int) := by rw [hm]; rfl
              have hm6 : m < 15 := by omega
              have hmI : (m : Int) < 15 := by omega
              obtain ⟨ad, x, had, _, x0, x1, x2, Hx⟩ := RdE.at_ hrL (k := i) (by omega)
              injection had with had
              subst had
              obtain ⟨ad, y, had, _, y0, y1, y2, Hy⟩ := RdE.at_ hrL (k := k) (by omega)
              injection had with had
              subst had
              obtain ⟨ad, z, had, _, z0, z1, z2, Hz⟩ := RdE.at_ hrL (k := m) (by omega)
              injection had with had
              subst had
              have hadd : ∀ m, (⟨N, 0, none⟩ : Addr).add m = ⟨N, m, none⟩ := fun m => by unfold Addr.add; split <;> simp_all
              rw [hadd] at x0 x1 x2 y0 y1 y2 z0 z1 z2
              clear hs hbq hrL hadd hp hp225 hr hm
              go_upto_region 11 with fail
              clear hcs
              go_still_tail 16, (by kernel_rfl)
              change wpList _ _ _ _ _ (wr.drewN 1)
              clear x1 x2 y0 y1 y2 z0 z1 z2 s1 s2 s3 hm6 hmI
              go_upto_region 12 with fail
              have HBd : Hid (Below W1.heap.size W1 (wr.drewN 1)) := below_drewN (HB3.out.trans (HBq.out.mono HB3.out.size)) 1
              obtain ⟨W4, hW4⟩ : ∃ W4 : World, W4 = (wr.drewN 1).alloc (.cells (ecells [x, y, z]).toArray 47) := ⟨_, rfl⟩
              change Code.wp _ _ _ _ ((wr.drewN 1).alloc (.cells (ecells [x, y, z]).toArray 47))
              have HB4 : Hid (Below W3.heap.size W3 W4) := by rw [hW4]; exact (below_drewN HBq.out 1).alloc HBq.out.size _
              have hr4 : Hid (RdE W4 W4.heap.size (some ⟨wr.heap.size, 0, none⟩) [x, y, z]) := by rw [hW4]; exact (RdE.new (wr.drewN 1) [x, y, z] _).more (by simp)
              have hr2 : Hid (RdE W4 W4.heap.size (some ⟨wr.heap.size, 0, none⟩) [x, y]) := RdE.first hr4.out 2 (by simp)
              have HN3 : Hid (Nums [x, y, z]) := by
                intro e he
                simp only [List.mem_cons, List.not_mem_nil, or_false] at he
                rcases he with rfl | rfl | rfl
                · exact HLn.out _ (mem_of_get Hx)
                · exact HLn.out _ (mem_of_get Hy)
                · exact HLn.out _ (mem_of_get Hz)
              have HN2 : Hid (Nums [x, y]) := fun e he => HN3.out e (by simp only [List.mem_cons, List.not_mem_nil, or_false] at he ⊢; rcases he with h | h; exact .inl h; exact .inr (.inl h))
              have Hx0 := Lib.hid x0
              have HNlt := Lib.hid (show N < wr.heap.size by
                have h1 := (Reads.at_lt HL.out (by rw [ecells_len, HLl.out]; decide))
                exact Nat.lt_of_lt_of_le h1 (Nat.le_trans HB3.out.size HBq.out.size))
              have x04 := (show W4.cell? ⟨N, i * 3, none⟩ = some (.int .u8 (x.k.toNat : Int)) by rw [hW4]; exact ((below_new (wr.drewN 1) _).cell (p := ⟨N, i * 3, none⟩) HNlt.out).trans Hx0.out)
              have HNlt4 := Lib.hid (show N < W4.heap.size by rw [hW4]; have := HNlt.out; simp; omega)
              have u1 : IntKind.u8.wrap (k : Int) = (k : Int) := IntWalk.u8_in _ (by omega)
              have u2 : IntKind.u8.wrap (i : Int) = (i : Int) := IntWalk.u8_in _ (by omega)
              rw [← hW4]
              obtain ⟨g4, hg⟩ : ∃ g, g = wr.heap.size := ⟨_, rfl⟩
              rw [← hg] at hr4 hr2 ⊢
              have Hx04 := Lib.hid x04
              have hB := HB4.out
              have st1 := Lib.hid (rfl : 0 = 0)
              clear hg hW4 x0 x04 HBd
              go_wp2_with (first
                | (go_at_call 3; have hst := st1; refine (applies_n s _ 3 3 [x, y, z] _ rfl Hs (by decide) (by decide) HN3 hr4).mono ?_; rintro _ wn ⟨rfl, hbn⟩; replace hB := hB.trans (hbn.mono hB.size); replace hr4 := on_ hr4 hbn; replace hr2 := on_ hr2 hbn; have Hx05 := Lib.hid ((hbn.cell (p := ⟨N, i * 3, none⟩) HNlt4.out).trans Hx04.out); have HNlt5 := Lib.hid (Nat.lt_of_lt_of_le HNlt4.out hbn.size); clear hbn hst st1)
                | (go_at_call 3; refine (applies_n s _ 3 2 [x, y] _ rfl Hs (by decide) (by decide) HN2 hr2).mono ?_; rintro _ wn ⟨rfl, hbn⟩; replace hB := hB.trans (hbn.mono hB.size); replace hr4 := on_ hr4 hbn; have x06 := ((hbn.cell (p := ⟨N, i * 3, none⟩) HNlt5.out).trans Hx05.out); clear hbn hr2)
                | (go_at_call 6; refine (back_n s _ 3 3 [x, y, z] _ 4 4 [x.k, UInt8.ofNat k, UInt8.ofNat i, 97] _ rfl rfl Hs (by decide) (by decide) HN3 (on_ hr4 (below_new _ _)) (by decide) (by decide) (four_rd _ x.k (by omega) (by omega))).mono ?_; rintro _ wn ⟨rfl, hbn⟩; replace hB := (hB.alloc hB.size _).trans (hbn.mono (Nat.le_trans hB.size (by simp))); clear hbn hr4))
              go_roundw
              case rel => exact ⟨q + 1, by omega, by go_num, hB⟩
              case measure => simp [Lib.intOf]; omega
            · obtain rfl : q = 4 := by omega
              go_wp2
              go_roundw
              case rel => exact ⟨k + 1, by omega, by go_num, HB3.out.trans (hbq.mono HB3.out.size)⟩
              case measure => simp [Lib.intOf]; omega
        · obtain rfl : k = 15 := by omega
          go_wp2
          go_roundw
          case rel => exact ⟨i + 1, by omega, by go_num, hbk⟩
          case measure => simp [Lib.intOf]; omega
    · have hiI : ¬ ((i : Int) < 15) := by omega
      have hid : decide ((i : Int) < 15) = false := decide_eq_false hiI
      clear hi15 hi
      obtain ⟨wo, rfl⟩ : ∃ wo : World, wo = wr := ⟨_, rfl⟩
      have HBo := Lib.hid (HB1.out.trans (hbi.mono HB1.out.size))
      obtain ⟨rows, hrl, hrows, hR, hbW⟩ := known_rows wo
      have Hrows := Lib.hid hrows
      have Hrl := Lib.hid hrl
      obtain ⟨W5, hW⟩ : ∃ W, W = kRowsW wo := ⟨_, rfl⟩
      rw [← hW] at hR hbW
      obtain ⟨M, hM⟩ : ∃ N, N = wo.heap.size + 1 + 1 + 1 + 1 + 1 + 1 + 1 + 1 + 1 + 1 + 1 + 1 := ⟨_, rfl⟩
      rw [← hM] at hR
      have HR : Hid (RdR W5 W5.heap.size (some ⟨M, 0, none⟩) rows) := hR
      have HB5 := Lib.hid (HBo.out.trans (hbW.mono HBo.out.size))
      have HW := Lib.hid hW
      have HM := Lib.hid hM
      clear hrows hR hbW hbi hW hM hrl HL HLn HLl
      go_wp2_with fail
      show Code.wp Try.prog _ _ _ (kRowsW wo)
      rw [← HW.out, ← HM.out]
      clear HW HM
      go_loopw [106] (fun v wx => ∃ k : Nat, k ≤ 13 ∧ v = .int .i64 (k : Int) ∧ Below W5.heap.size W5 wx) (fun v _ => 13 - (Lib.intOf v).toNat)
      case atStart => exact ⟨0, by omega, rfl, .refl _ _⟩
      case round =>
        obtain ⟨k, hk, rfl, hb⟩ := hrel
        by_cases hlt : k < 13
        · have hkI : (k : Int) < 13 := by omega
          obtain ⟨ad, r, had, _, hc, hx, _⟩ := (RdR.below HR.out hb).at_ (k := k) (by rw [Hrl.out]; exact hlt)
          injection had with had
          subst had
          have hadd : (⟨M, 0, none⟩ : Addr).add k = ⟨M, k, none⟩ := by unfold Addr.add; split <;> simp_all
          rw [hadd] at hc
          clear hadd
          have hrb : Hid (RdB wr wr.heap.size r.A r.l) := Reads.more (Reads.below (HR.out.row r (mem_of_get hx)) hb) hb.size
          obtain ⟨hcap, h20⟩ := Hrows.out r (mem_of_get hx)
          have Hcap := Lib.hid hcap
          have Hl := Lib.hid h20
          clear hcap h20
          go_wp2_with (first
            | (go_at_call 4; refine (parsesLaw_any r.A r.c r.l _ (by have := Hl.out; omega) Hcap.out hrb.out).mono ?_; rintro _ wn ⟨rfl, hbn⟩; replace hb := hb.trans (hbn.mono hb.size); replace hrb := on_ hrb hbn; clear hbn hc)
            | (go_at_call 6; refine (back_n _ none 0 0 [] r.A r.c r.l.length r.l _ rfl rfl (by show _ ≤ _; simp [ByteArray.size]) (by decide) (by decide) (fun x hx => by cases hx) Reads.none_ (by have := Hl.out; omega) Hcap.out hrb).mono ?_; rintro _ wn ⟨rfl, hbn⟩; replace hb := hb.trans (hbn.mono hb.size); clear hbn hrb))
          go_roundw
          case rel => exact ⟨k + 1, by omega, by go_num, hb⟩
          case measure => simp [Lib.intOf]; omega
        · have hkI : ¬ ((k : Int) < 13) := by omega
          have hkd : decide ((k : Int) < 13) = false := decide_eq_false hkI
          clear hk hiI hid
          obtain ⟨wo, rfl⟩ : ∃ wo : World, wo = wr := ⟨_, rfl⟩
          have HBp := Lib.hid (HB5.out.trans (hb.mono HB5.out.size))
          clear hb HR HB5 Hrows Hrl hlt
          go_wp2_with fail
          rw [kT2C]
          obtain ⟨W6, hW6⟩ : ∃ W6 : World, W6 = wo.alloc (.cells (kT2.map Value.string).toArray 9) := ⟨_, rfl⟩
          have HB6 : Hid (Below w.heap.size w W6) := by rw [hW6]; exact HBp.out.alloc HBp.out.size _
          have HT6 : Hid (StrAt wo.heap.size 7 W6) := by rw [hW6]; exact StrAt.new wo _ kT2 7 rfl rfl kT2s
          have hg6 : wo.heap.size < W6.heap.size := by rw [hW6]; simp
          rw [← hW6]
          obtain ⟨g6, hg⟩ : ∃ g, g = wo.heap.size := ⟨_, rfl⟩
          rw [← hg] at HT6 hg6 ⊢
          have Hg6 := Lib.hid hg6
          clear hW6 hg hg6
          go_loopw [121] (fun v wz => ∃ q : Nat, q ≤ 7 ∧ v = .int .i64 (q : Int) ∧ Below W6.heap.size W6 wz) (fun v _ => 7 - (Lib.intOf v).toNat)
          case atStart => exact ⟨0, Nat.zero_le _, rfl, .refl _ _⟩
          case round =>
            obtain ⟨q, hq, rfl, hbq⟩ := hrel
            by_cases hq7 : q < 7
            · have hqI : (q : Int) < 7 := by omega
              have hqd : decide ((q : Int) < 7) = true := decide_eq_true hqI
              obtain ⟨s, hs, hcs⟩ := HT6.out.below hbq Hg6.out q hq7
              have Hs := Lib.hid hs
              have HBq := Lib.hid hbq
              clear hs hbq
              go_wp2_with fail
              clear hcs
              rw [kT3C]
              obtain ⟨W7, hW7⟩ : ∃ W7 : World, W7 = wr.alloc (.cells (kT3.map Value.string).toArray 9) := ⟨_, rfl⟩
              have HB7 : Hid (Below W6.heap.size W6 W7) := by rw [hW7]; exact HBq.out.alloc HBq.out.size _
              have HT7 : Hid (StrAt wr.heap.size 7 W7) := by rw [hW7]; exact StrAt.new wr _ kT3 7 rfl rfl kT3s
              have hg7 : wr.heap.size < W7.heap.size := by rw [hW7]; simp
              rw [← hW7]
              obtain ⟨g7, hg⟩ : ∃ g, g = wr.heap.size := ⟨_, rfl⟩
              rw [← hg] at HT7 hg7 ⊢
              have Hg7 := Lib.hid hg7
              clear hW7 hg hg7 hqI hqd
              go_loopw [127] (fun v wz => ∃ p : Nat, p ≤ 7 ∧ v = .int .i64 (p : Int) ∧ Below W7.heap.size W7 wz) (fun v _ => 7 - (Lib.intOf v).toNat)
              case atStart => exact ⟨0, Nat.zero_le _, rfl, .refl _ _⟩
              case round =>
                obtain ⟨p, hp, rfl, hbp⟩ := hrel
                by_cases hp7 : p < 7
                · have hpI : (p : Int) < 7 := by omega
                  obtain ⟨t, ht, hct⟩ := HT7.out.below hbp Hg7.out p hp7
                  have Ht := Lib.hid ht
                  clear ht
                  go_wp2_with (go_at_call 5; refine (diffsLaw_any s t _ Hs.out Ht.out).mono ?_; rintro _ wn ⟨rfl, hbn⟩; replace hbp := hbp.trans (hbn.mono hbp.size); clear hbn hct)
                  go_roundw
                  case rel => exact ⟨p + 1, by omega, by go_num, hbp⟩
                  case measure => simp [Lib.intOf]; omega
                · obtain rfl : p = 7 := by omega
                  go_wp2
                  go_roundw
                  case rel => exact ⟨q + 1, by omega, by go_num, HB7.out.trans (hbp.mono HB7.out.size)⟩
                  case measure => simp [Lib.intOf]; omega
            · obtain rfl : q = 7 := by omega
              have hB := HB6.out.trans (hbq.mono HB6.out.size)
              go_wp2_with (go_at_call 9; refine (works_any _).mono ?_; rintro _ wn ⟨rfl, hbn⟩; replace hB := hB.trans (hbn.mono hB.size))
              go_ret
              exact ⟨rfl, hB⟩
end Go.Proofs.Ytohgghaooppcoaa
