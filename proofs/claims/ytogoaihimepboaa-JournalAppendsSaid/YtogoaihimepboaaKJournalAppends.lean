/- JournalAppends: for every input the law returns true, and its arguments read as they did. Conditions: none. -/
import Derived.Test.YtogoaihimepboaaKLawJA
import Derived.Test.YtogoaihimepboaaKRowJ
namespace Go.Proofs.Ytogoaihimepboaa
open Go.ChangeShapes Go.WideShapes Go.ChangeAt Go.RowKit

set_option maxRecDepth 100000 in
theorem journalAppends_lifted (os : Os) (started : os.Started) (H : Type) (enc : TypeId × Value → H) :
    ReturnsInHanded {} Try.checked os 4 .any (Rows.journalAppendsSpec.pre6 enc Try.prog Try.f4 Rows.journalAppendsRow.domain false) (Rows.journalAppendsSpec.post enc Try.prog Try.f4 false true false false) := by
  refine returnsInHanded_of_change_sized (C := Try.checked) Try.own started (by kernel_rfl) Try.func4
    (ChangeSpec.witness6 (enc := enc) (C := Try.checked) false ⟨#[], #[.slice none 0 0, .slice none 0 0, .slice none 0 0], []⟩ 8 (by kernel_rfl) (by kernel_rfl) (by kernel_rfl) (by kernel_rfl)) ?_
  intro W base args ds gs before hval0 hW _ hwt _
  have hval : ∀ (j : Nat) t v, Try.f4.params[j]? = some t → args[j]? = some v → Value.okWide Try.prog W .any base t v := hval0
  have hW' := hW
  obtain ⟨p, q, hA0, _, _, _, _⟩ := hW
  have hA : DataW.TrodAll enc Try.prog W 0 (fun _ => true) true Try.f4.params.toList args.toList ds p := hA0
  rw [Try.params4] at hA hval hwt
  obtain ⟨v0, vs0, d0, ds0, p0, q0, hargs, rfl, rfl, h0, r0⟩ := trodAll_cons hA
  obtain ⟨v1, vs1, d1, ds1, p1, q1, rfl, rfl, rfl, h1, r1⟩ := trodAll_cons r0
  obtain ⟨v2, vs2, d2, ds2, p2, q2, rfl, rfl, rfl, h2, r2⟩ := trodAll_cons r1
  obtain ⟨rfl, rfl, rfl⟩ := trodAll_nil r2
  obtain rfl : args = #[v0, v1, v2] := by cases args; simp_all
  obtain ⟨A0, c0, l0, rfl, hcap0, hmax0, hr0⟩ := open_bytes (hval 0 22 v0 rfl rfl) h0
  have hm0 : l0.length ≤ 9223372036854775807 := by unfold maxLen at hmax0; omega
  obtain ⟨A1, c1, l1, rfl, hcap1, hmax1, hr1, hbd1⟩ := open_bytesW (hval 1 22 v1 rfl rfl) h1
  have hw1 := hbd1 reachBytes fun n hn => by simpa using List.all_eq_true.1 hwt n (DataW.weights_mem_each (j := 1) rfl rfl n hn)
  obtain ⟨A2, c2, l2, rfl, hcap2, hmax2, hr2, hrow2⟩ := open_rows (hval 2 35 v2 rfl rfl) h2
  have hm2 : l2.length ≤ 9223372036854775807 := by unfold maxLen at hmax2; omega
  refine (appendsLaw_any A0 A1 A2 c0 c1 c2 l0 l1 l2 W hm0 hcap0 hr0 (Nat.le_trans hw1 (by decide)) hr1 hm2 hrow2 hr2).mono fun e W' ⟨he, hb⟩ => ⟨_, he, ?_⟩
  exact law_post Try.laidOut Try.underlying4 (by kernel_rfl) (by kernel_rfl) rfl hW' (fun gs' h => by subst h; rfl) hb

theorem journalAppends_holds : Rows.JournalAppendsSaid :=
  OpenClaim.holds_of_wide 4 Try.f4 rfl rfl rfl rfl rfl rfl rfl ⟨rfl, rfl, rfl, rfl, rfl⟩ rfl rfl rfl rfl rfl (by kernel_rfl) Try.func4 (by kernel_rfl)
    (of_decide_eq_true (by kernel_rfl)) (by unfold Func.isWrapper; first | (rw [if_pos (by decide +kernel)]; kernel_rfl) | (rw [if_neg (by decide +kernel)]; exact ⟨rfl, rfl⟩))
    (fun os started H enc _ => journalAppends_lifted os started H enc)
end Go.Proofs.Ytogoaihimepboaa
