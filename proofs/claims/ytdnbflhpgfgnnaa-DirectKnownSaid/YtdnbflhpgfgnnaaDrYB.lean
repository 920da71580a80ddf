/- does, whatever is called. Conditions: at most 900 operations; names of 80 bytes. -/
import Derived.Test.YtdnbflhpgfgnnaaDrY0
import Derived.Test.YtdnbflhpgfgnnaaDrY1
import Derived.Test.YtdnbflhpgfgnnaaDrY2
import Derived.Test.YtdnbflhpgfgnnaaDrY3
import Derived.Test.YtdnbflhpgfgnnaaDrY4
import Derived.Test.YtdnbflhpgfgnnaaDrY5
namespace Go.Proofs.Ytdnbflhpgfgnnaa
open Go.RowKit
section
variable {w0 w : World} {N g : Nat} {R : List Rd} {s : St} {v : Value} {K0 : List (Nat × Obj × Nat)}
theorem does_any (h : Dk w0 w N [(g, s)] R K0) (hK0 : ∀ p ∈ K0, p.2.2 ≠ 99) (hv : RvIn R v s) (hN : N ≤ 900) (a : Ac) (hok : a.Ok) (hb : a.b.length ≤ 80) :
    Calls Try.prog 10 #[.pointer (some ⟨g, 0, none⟩), v, .agg #[.int .i64 a.k, .string (txt a.b), .int .i64 a.n]] w fun e w' => DoesQ w0 N R K0 e w' := by
  by_cases h0 : a.k % 6 = 0
  · exact does0_any h hK0 hv hN a hok hb h0
  by_cases h1 : a.k % 6 = 1
  · exact does1_any h hK0 hv hN a hok hb h1
  by_cases h2 : a.k % 6 = 2
  · exact does2_any h hK0 hv hN a hok hb h2
  by_cases h3 : a.k % 6 = 3
  · exact does3_any h hK0 hv hN a hok hb h3
  by_cases h4 : a.k % 6 = 4
  · exact does4_any h hK0 hv hN a hok hb h4
  exact does5_any h hK0 hv hN a hok hb h0 h1 h2 h3 h4
theorem is_dk (h : Dk w0 w N [(g, s)] R K0) (hv : RvIn R v s) (hN : N ≤ 1000) :
    Calls Try.prog 11 #[.pointer (some ⟨g, 0, none⟩), v] w fun e w' => e = .returned (.bool true) ∧ Dk w0 w' N [(g, s)] R K0 := by
  obtain ⟨c, h'⟩ := id h
  obtain ⟨h1, h2⟩ := h'.ds.dir 0 g s rfl
  refine (is_any h1 (h'.ds.ref hv) h2 hN).mono ?_
  rintro e w' ⟨rfl, hb⟩
  exact ⟨rfl, h.below hb⟩
end
end Go.Proofs.Ytdnbflhpgfgnnaa
