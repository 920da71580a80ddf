/- The walk of All. Conditions: at most 1000 files. -/
import Derived.Test.YtlehkgogcbdckaaInN
namespace Go.Proofs.Ytlehkgogcbdckaa
open Go.RowKit Go.Maps

theorem all_nil (w : World) : Calls Try.prog 18 #[.pointer none] w fun e w' => e = .returned (.slice none 0 0) ∧ w' = w := by
  have Hc := Lib.hid (numbers_nil w)
  go_enter Try.func18, Try.ntmps18
  go_wp2_with (go_at_call 27; refine Hc.out.mono ?_; rintro e w1 ⟨rfl, rfl⟩)
  refine wp_loop_rounds 1 ?_
  rw [rounds_succ]
  go_wp2
  go_ret
  exact ⟨rfl, rfl⟩
def manyC (fs : List Fi) : List En := fs.map fun f => (f.i, f.n)
section
variable {w : World} {Z : Nat → Prop} {t N : Nat} {T : Tb}
theorem num_ok (hok : T.Ok N) (hN : N ≤ 1000) {f : Fi} (hf : f ∈ T.fs) : -9223372036854775808 ≤ f.i ∧ f.i ≤ 9223372036854775807 := by
  have h1 := hok.num f hf
  have h2 := hok.made
  omega
set_option maxHeartbeats 2000000 in
set_option maxRecDepth 100000 in
theorem all_any (h : TabAt w Z t T) (hok : T.Ok N) (hN : N ≤ 1000) :
    Calls Try.prog 18 #[.pointer (some ⟨t, 0, none⟩)] w fun e w' => ∃ v, e = .returned v ∧ OwnEn 45 w.heap.size w' v (manyC T.fs) ∧ Below w.heap.size w w' := by
  have Hc := Lib.hid (numbers_any h hok hN)
  have H := Lib.hid h
  have Hok := Lib.hid hok
  have HN := Lib.hid hN
  obtain ⟨n, hn⟩ : ∃ n, Hid (T.fs.length = n) := ⟨_, rfl⟩
  have hnI : (n : Int) ≤ 1000 := by have := hok.len; have := hn.out; omega
  rw [hn.out] at Hc
  clear h hok hN
  go_enter Try.func18, Try.ntmps18
  go_wp2_with (go_at_call 27; refine Hc.out.mono ?_; rintro e w1 ⟨v0, rfl, ho, hb⟩; obtain ⟨A, c, rfl, hc, _, hr⟩ := own_form ho)
  have Hr := Lib.hid hr
  have Hb := Lib.hid hb
  clear hr hb ho hc
  go_loopw [3, 9] (fun v i wr => ∃ k : Nat, k ≤ n ∧ i = .int .i64 (k : Int) ∧ OwnEn 45 w1.heap.size wr v ((manyC T.fs).take k) ∧ Below w1.heap.size w1 wr) (fun _ i _ => n - (Go.Lib.intOf i).toNat)
  case atStart => exact ⟨0, by omega, rfl, by exact OwnEn.nil _ _ _, .refl _ _⟩
  case round =>
    obtain ⟨k, hk, rfl, hown, hb2⟩ := hrel
    by_cases hlt : k < n
    · have hkl : k < T.fs.length := by rw [hn.out]; exact hlt
      obtain ⟨f, hf⟩ : ∃ f, T.fs[k]? = some f := ⟨_, List.getElem?_eq_getElem hkl⟩
      have hmem := List.mem_of_getElem? hf
      obtain ⟨ad, rfl, hab, hcell⟩ := Hr.out.2 (by omega)
      have hnk : (numC T.fs)[k]? = some (.int .i64 f.i) := by unfold numC; rw [List.getElem?_map, List.getElem?_map, hf]; rfl
      have hck := (hb2.cell (p := ad.add k) (by rw [block_of_add]; exact hab)).trans (hcell k _ hnk)
      have hz := num_ok Hok.out HN.out hmem
      have hfind := findF_at Hok.out.sort hf
      have hT := (H.out.below Hb.out).below hb2
      obtain ⟨c0, c1, c2⟩ := hT.cells
      have hl := hT.look hz
      rw [hfind] at hl
      simp only [Option.map_some, ptr] at hl
      obtain ⟨A', n', c', hv, hF⟩ := hT.filed hfind
      have cn := bx_cell1 hv
      have hen : Hid ((manyC T.fs)[k]? = some (f.i, f.n)) := by show _ = _; unfold manyC; rw [List.getElem?_map, hf]; rfl
      have Hown := Lib.hid hown
      have Hb2 := Lib.hid hb2
      obtain ⟨l, hle⟩ : ∃ l, Hid ((manyC T.fs).take k = l) := ⟨_, rfl⟩
      have hll : Hid (l.length ≤ 1099511627776) := by rw [← hle.out]; show _ ≤ _; rw [List.length_take]; omega
      rw [hle.out] at Hown
      generalize T.mp = mp at *
      generalize f.g = g at *
      generalize f.i = z at *
      generalize f.n = nn at *
      clear hv hF hT hown hb2 hcell hnk hf hmem hfind hkl
      go_wp2_with (at_builtin; refine push_en enSl1 (.tmp 13) (.tmp 25) (z, nn) Hown.out Hb2.out.size hll.out rfl rfl rfl rfl rfl ?_; intro v' w3 hown' hg3 hblk3 hb3)
      go_roundw
      case rel => exact ⟨k + 1, by omega, by go_num, by rw [take_snoc hen, hle.out]; exact hown', Hb2.out.trans hb3⟩
      case measure => simp [Go.Lib.intOf]; omega
    · obtain rfl : k = n := by omega
      go_wp2
      go_ret
      refine ⟨_, rfl, ?_, Hb.out.trans (hb2.mono Hb.out.size)⟩
      have hl : (manyC T.fs).length = k := by unfold manyC; rw [List.length_map, hn.out]
      rw [← hl, List.take_length] at hown
      exact own_base hown Hb.out.size
end
end Go.Proofs.Ytlehkgogcbdckaa
