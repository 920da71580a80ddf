/- FolderKeeps: for every input the law returns true, and its arguments read as they did. Conditions: none. -/
import Derived.Test.YtbhmnmmockmibaaGreatKkFoLK
import Derived.Test.YtbhmnmmockmibaaGreatKkRowFo
namespace Go.Proofs.YtbhmnmmockmibaaGreat
open Go.ChangeShapes Go.WideShapes Go.ChangeAt Go.RowKit
set_option maxRecDepth 100000 in
theorem folderKeeps_lifted (os : Os) (started : os.Started) (H : Type) (enc : TypeId × Value → H) :
    ReturnsInHanded {} Tryz.checked os 4 .any (Rows.folderKeepsSpec.pre6 enc Tryz.prog Tryz.f4 Rows.folderKeepsRow.domain false) (Rows.folderKeepsSpec.post enc Tryz.prog Tryz.f4 false true false false) := by
  refine returnsInHanded_of_change (C := Tryz.checked) Tryz.own started (by kernel_rfl) Tryz.func4
    (ChangeSpec.witness6 (enc := enc) (C := Tryz.checked) false ⟨#[], #[.int .i64 0, .int .i64 0, .slice none 0 0, .slice none 0 0, .int .i64 0, .slice none 0 0], []⟩ 8 (by kernel_rfl) (by kernel_rfl) (by kernel_rfl) (by kernel_rfl)) ?_
  intro W base args ds gs before hval0 hW _ _
  have hval : ∀ (j : Nat) t v, Tryz.f4.params[j]? = some t → args[j]? = some v → Value.okWide Tryz.prog W .any base t v := hval0
  have hW' := hW
  obtain ⟨p, q, hA0, _, _, _, _⟩ := hW
  have hA : DataW.TrodAll enc Tryz.prog W 0 (fun _ => true) true Tryz.f4.params.toList args.toList ds p := hA0
  rw [Tryz.params4] at hA hval
  obtain ⟨v0, vs0, d0, ds0, p0, q0, hargs, rfl, rfl, h0, r0⟩ := trodAll_cons hA
  obtain ⟨v1, vs1, d1, ds1, p1, q1, rfl, rfl, rfl, h1, r1⟩ := trodAll_cons r0
  obtain ⟨v2, vs2, d2, ds2, p2, q2, rfl, rfl, rfl, h2, r2⟩ := trodAll_cons r1
  obtain ⟨v3, vs3, d3, ds3, p3, q3, rfl, rfl, rfl, h3, r3⟩ := trodAll_cons r2
  obtain ⟨v4, vs4, d4, ds4, p4, q4, rfl, rfl, rfl, h4, r4⟩ := trodAll_cons r3
  obtain ⟨v5, vs5, d5, ds5, p5, q5, rfl, rfl, rfl, h5, r5⟩ := trodAll_cons r4
  obtain ⟨rfl, rfl, rfl⟩ := trodAll_nil r5
  obtain rfl : args = #[v0, v1, v2, v3, v4, v5] := by cases args; simp_all
  obtain ⟨a0, rfl, rfl, rfl, w0⟩ := open_int Tryz.underlying3 (hval 0 3 v0 rfl rfl) h0
  have b0 := lit_i64 w0
  obtain ⟨a1, rfl, rfl, rfl, w1⟩ := open_int Tryz.underlying3 (hval 1 3 v1 rfl rfl) h1
  have b1 := lit_i64 w1
  obtain ⟨A2, c2, l2, rfl, hcap2, hmax2, hr2⟩ := open_acts (hval 2 22 v2 rfl rfl) h2
  have hm2 : l2.length ≤ 9223372036854775807 := by unfold maxLen at hmax2; omega
  obtain ⟨A3, c3, l3, rfl, hcap3, hmax3, hr3⟩ := open_acts (hval 3 22 v3 rfl rfl) h3
  have hm3 : l3.length ≤ 9223372036854775807 := by unfold maxLen at hmax3; omega
  obtain ⟨a4, rfl, rfl, rfl, w4⟩ := open_int Tryz.underlying3 (hval 4 3 v4 rfl rfl) h4
  have b4 := lit_i64 w4
  obtain ⟨kq5, rfl, hcap5, hmax5, hr5⟩ := open_keep (hval 5 41 v5 rfl rfl) h5
  have hm5 : kq5.l.length ≤ 9223372036854775807 := by unfold maxLen at hmax5; omega
  refine (fkeeps_any (by omega) (by omega) (by omega) (by omega) (by omega) (by omega) rfl hm2 hr2 rfl hm3 hr3 rfl hm5 hcap5 hr5).mono fun e W' ⟨he, hb⟩ => ⟨_, he, ?_⟩
  exact law_post Tryz.laidOut Tryz.underlying4 (by kernel_rfl) (by kernel_rfl) rfl hW' (fun gs' h => by subst h; rfl) hb
theorem folderKeeps_holds : Rows.FolderKeepsSaid :=
  OpenClaim.holds_of_wide 4 Tryz.f4 rfl rfl rfl rfl rfl rfl rfl ⟨rfl, rfl, rfl, rfl, rfl⟩ rfl rfl rfl rfl rfl (by kernel_rfl) Tryz.func4 (by kernel_rfl)
    (of_decide_eq_true (by kernel_rfl)) (by unfold Func.isWrapper; first | (rw [if_pos (by decide +kernel)]; kernel_rfl) | (rw [if_neg (by decide +kernel)]; exact ⟨rfl, rfl⟩))
    (fun os started H enc _ => folderKeeps_lifted os started H enc)
end Go.Proofs.YtbhmnmmockmibaaGreat
