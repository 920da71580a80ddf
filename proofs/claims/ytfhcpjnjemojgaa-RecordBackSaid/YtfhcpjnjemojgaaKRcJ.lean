/- Going through a record's parts: to make them empty, to write them, to read them. Conditions: texts of at most 2^19 bytes, rows of at most 2^29. -/
import Derived.Test.YtfhcpjnjemojgaaKRcI
namespace Go.Proofs.Ytfhcpjnjemojgaa
open Go.RowKit Go.Lib

theorem RecAt.below {x : Rc} {w w' : World} {g B : Nat} (h : RecAt x w g) (hb : Below B w w') (hg : g < B) : RecAt x w' g := (hb.block g hg).trans h
theorem RecAt.but {x : Rc} {w w' : World} {g B : Nat} {S : List Nat} (h : RecAt x w g) (hb : But B S w w') (hg : g < B) (hS : g ∉ S) : RecAt x w' g := (hb.block g hg hS).trans h
theorem part_cases {k n j : Nat} (h : (allP k)[n]? = some j) : j < 9 ∨ (9 ≤ j ∧ j ≤ 10) := by
  have := allP_le (List.mem_of_getElem? h)
  omega
theorem eraP_num {s : Rc} {j : Nat} (h : j < 9) : eraP s j = (s.setN j 0, 0) := by unfold eraP; rw [if_pos h]
theorem encP_num {s : Rc} {j : Nat} (h : j < 9) : encP s j = enc (s.num j) := by unfold encP; rw [if_pos h]
theorem encP_txt {s : Rc} {j : Nat} (h : 9 ≤ j) : encP s j = encText (s.tx j) := by unfold encP; rw [if_neg (by omega)]
theorem rdP_num {b : List UInt8} {s : Rc × Int} {j : Nat} (h : j < 9) : rdP b s j = ((s.1.setN j (take b s.2).1, (take b s.2).2.1), (take b s.2).2.2) := by unfold rdP; rw [if_pos h]
theorem rdP_txt {b : List UInt8} {s : Rc × Int} {j : Nat} (h : 9 ≤ j) : rdP b s j = ((s.1.setT j (takeText b s.2).1, (takeText b s.2).2.1), (takeText b s.2).2.2) := by unfold rdP; rw [if_neg (by omega)]

theorem walkEra_any (x : Rc) (k : Nat) (g : Nat) (A : Option Addr) (c : Nat) (w : World) (hx : RecAt x w g) (hp : PartsAt w A (parts k)) :
    Calls Try.prog 32 #[.iface 89 (.agg #[]), .pointer (some ⟨g, 0, none⟩), .slice A (parts k).length c] w fun e w' =>
      e = .returned (.int .i64 ((runS eraP x (allP k)).2 : Nat)) ∧ RecAt (runS eraP x (allP k)).1 w' g ∧ But w.heap.size [g] w w' := by
  refine (walk_any eraP (fun w0 s w1 => RecAt s w1 g ∧ But w0.heap.size [g] w0 w1) g A c k x w hp ?_ ?_ ?_).mono ?_
  · intro w0 hb
    exact ⟨hx.below hb hx.lt, But.refl _ _ _⟩
  · intro w0 s w1 hb h b h1 h2
    exact h.2.block b h2 (by have := hx.lt; simp; omega)
  · intro w0 n w1 j hb hj ⟨h1, h2⟩
    obtain ⟨s, hs⟩ : ∃ s, s = (runS eraP x ((allP k).take n)).1 := ⟨_, rfl⟩
    rw [← hs] at h1 ⊢
    have h1d : RecAt s w1.drew g := h1
    rcases part_cases hj with h9 | h9
    · refine visit_num disp_en h9 g w1 ((eraNum_any s h9 g w1.drew h1d).mono ?_)
      rintro e w' ⟨rfl, h3, h4⟩
      rw [eraP_num h9]
      exact ⟨_, rfl, rfl, h3, h2.drew.trans (h4.mono h2.size (fun k hk _ => hk))⟩
    · refine visit_txt disp_et h9 g w1 ((eraTxt_any s h9 g w1.drew h1d).mono ?_)
      rintro e w' ⟨rfl, h3, h4⟩
      exact ⟨_, rfl, rfl, h3, h2.drew.trans (h4.mono h2.size (fun k hk _ => hk))⟩
  · rintro e w' ⟨w0, hb, rfl, h1, h2⟩
    exact ⟨rfl, h1, (But.of hb).trans (h2.mono hb.size (fun k hk _ => hk))⟩

theorem body_le (x : Rc) (hx : x.Ok) (hn : x.n.length ≤ 1000000) (ht : x.t.length ≤ 1000000) : ∀ ps : List Nat, (body x ps).length ≤ ps.length * 1000010
  | [] => by simp [body]
  | j :: ps => by
    have ih := body_le x hx hn ht ps
    have h1 : (encP x j).length ≤ 1000010 := by
      unfold encP
      split
      · have := sz_10 (hx.num j)
        unfold sz at this
        omega
      · have hl : (x.tx j).length ≤ 1000000 := by unfold Rc.tx; split <;> simp_all
        have := sz_10 (n := (x.tx j).length) (by omega)
        unfold sz at this
        unfold encText
        rw [List.length_append]
        omega
    unfold body at ih ⊢
    rw [List.flatMap_cons, List.length_append, List.length_cons]
    omega
theorem walkWr_any (x : Rc) (hok : x.Ok) (hn : x.n.length ≤ 1000000) (ht : x.t.length ≤ 1000000) (k : Nat) (g wb : Nat) (A : Option Addr) (c : Nat) (w : World) (hx : RecAt x w g) (hw : w.heap[wb]? = some (.cells #[.slice none 0 0] 64 (0, 0))) (hp : PartsAt w A (parts k)) :
    Calls Try.prog 32 #[.iface 66 (.pointer (some ⟨wb, 0, none⟩)), .pointer (some ⟨g, 0, none⟩), .slice A (parts k).length c] w fun e w' =>
      e = .returned (.int .i64 0) ∧ (∃ v, w'.heap[wb]? = some (.cells #[v] 64 (0, 0)) ∧ w'.ownsRow w.heap.size 5 1 v (body x (allP k)).length (bs (body x (allP k)))) ∧ But w.heap.size [wb] w w' := by
  have hwlt : wb < w.heap.size := (Array.getElem?_eq_some_iff.1 hw).1
  have hne : g ≠ wb := by
    rintro rfl
    unfold RecAt at hx
    rw [hx] at hw
    simp [Rc.cells] at hw
  refine (walk_any (wrP x) (fun w0 l w1 => (∃ v, WrAt w0.heap.size wb l w1 v) ∧ But w0.heap.size [wb] w0 w1) g A c k [] w hp ?_ ?_ ?_).mono ?_
  · intro w0 hb
    exact ⟨⟨_, (hb.block wb hwlt).trans hw, World.ownsRow_nil _ _ _ _, Nat.lt_of_lt_of_le hwlt hb.size, Nat.le_refl _⟩, But.refl _ _ _⟩
  · intro w0 s w1 hb h b h1 h2
    exact h.2.block b h2 (by simp; omega)
  · intro w0 n w1 j hb hj ⟨⟨v, h1⟩, h2⟩
    have hlen : (runS (wrP x) [] ((allP k).take n)).1.length ≤ 1000000000 := by
      rw [runS_wrP, List.nil_append]
      have h := body_le x hok hn ht ((allP k).take n)
      have h' : ((allP k).take n).length ≤ 7 := by
        have := List.length_take_le n (allP k)
        have := allP_len k
        have := parts_len k
        rw [List.length_take]
        omega
      simp only
      omega
    obtain ⟨s, hs⟩ : ∃ s, s = (runS (wrP x) [] ((allP k).take n)).1 := ⟨_, rfl⟩
    rw [← hs] at h1 hlen ⊢
    have hx1 : RecAt x w1 g := by
      have hgl := hx.lt
      exact (hx.below hb hx.lt).but h2 (Nat.lt_of_lt_of_le hgl hb.size) (by simpa using hne)
    have h1d : WrAt w0.heap.size wb s w1.drew v := ⟨h1.at_, h1.own, h1.lt, h1.le⟩
    have hgB : (⟨g, j + 1, none⟩ : Addr).block < w0.heap.size := Nat.lt_of_lt_of_le hx.lt hb.size
    rcases part_cases hj with h9 | h9
    · refine visit_num (disp_wn _) h9 g w1 ((wrNum_any h1d hlen hgB (x.num j) (hok.num j) ((hx1.cell (j + 1)).trans (cells_num x h9))).mono ?_)
      rintro e w' ⟨rfl, h3, h4⟩
      refine ⟨_, rfl, rfl, ?_, h2.drew.trans h4⟩
      show ∃ v, WrAt w0.heap.size wb (s ++ encP x j) w' v
      rw [encP_num h9]
      exact h3
    · have hl : (x.tx j).length ≤ 1000000 := by unfold Rc.tx; split <;> simp_all
      refine visit_txt (disp_wt _) h9 g w1 ((wrTxt_any h1d hlen hgB (x.tx j) hl ((hx1.cell (j + 1)).trans (cells_txt x h9))).mono ?_)
      rintro e w' ⟨rfl, h3, h4⟩
      refine ⟨_, rfl, rfl, ?_, h2.drew.trans h4⟩
      show ∃ v, WrAt w0.heap.size wb (s ++ encP x j) w' v
      rw [encP_txt h9.1]
      exact h3
  · rintro e w' ⟨w0, hb, rfl, ⟨v, h1⟩, h2⟩
    rw [runS_wrP, List.nil_append] at h1 ⊢
    exact ⟨rfl, ⟨v, h1.at_, own_mono h1.own hb.size⟩, (But.of hb).trans (h2.mono hb.size (fun k hk _ => hk))⟩

theorem walkRd_any (x : Rc) (k : Nat) (b : List UInt8) (A' : Option Addr) (c' B : Nat) (p : Int) (rb qb : Nat) (A : Option Addr) (c : Nat) (w : World) (hx : RecAt x w rb) (hq : RdrAt b A' c' B p qb w) (hB : B ≤ rb) (hl : b.length ≤ 1000000000) (hp : PartsAt w A (parts k)) :
    Calls Try.prog 32 #[.iface 76 (.pointer (some ⟨qb, 0, none⟩)), .pointer (some ⟨rb, 0, none⟩), .slice A (parts k).length c] w fun e w' =>
      e = .returned (.int .i64 ((runS (rdP b) (x, p) (allP k)).2 : Nat)) ∧ RecAt (runS (rdP b) (x, p) (allP k)).1.1 w' rb ∧ RdrAt b A' c' B (runS (rdP b) (x, p) (allP k)).1.2 qb w' ∧ But w.heap.size [rb, qb] w w' := by
  have hwlt : qb < w.heap.size := (Array.getElem?_eq_some_iff.1 hq.at_).1
  have hne : rb ≠ qb := by
    rintro rfl
    have h1 := hq.at_
    unfold RecAt at hx
    rw [hx] at h1
    simp [Rc.cells] at h1
  refine (walk_any (rdP b) (fun w0 s w1 => RecAt s.1 w1 rb ∧ RdrAt b A' c' B s.2 qb w1 ∧ But w0.heap.size [rb, qb] w0 w1) rb A c k (x, p) w hp ?_ ?_ ?_).mono ?_
  · intro w0 hb
    exact ⟨hx.below hb hx.lt, ⟨(hb.block qb hwlt).trans hq.at_, hq.cap, hq.rd.below (hb.mono (by have := hq.lt; omega)), hq.lt⟩, But.refl _ _ _⟩
  · intro w0 s w1 hb h b h1 h2
    exact h.2.2.block b h2 (by have := hx.lt; simp; omega)
  · intro w0 n w1 j hb hj ⟨h1, h2, h3⟩
    obtain ⟨s, hs⟩ : ∃ s, s = (runS (rdP b) (x, p) ((allP k).take n)).1 := ⟨_, rfl⟩
    rw [← hs] at h1 h2 ⊢
    have h1d : RecAt s.1 w1.drew rb := h1
    have h2d : RdrAt b A' c' B s.2 qb w1.drew := ⟨h2.at_, h2.cap, h2.rd, h2.lt⟩
    rcases part_cases hj with h9 | h9
    · refine visit_num (disp_rn _) h9 rb w1 ((rdNum_any h2d h1d hB hne hl h9).mono ?_)
      rintro e w' ⟨rfl, h4, h5, h6⟩
      rw [rdP_num h9]
      exact ⟨_, rfl, rfl, h4, h5, h3.drew.trans (h6.mono h3.size (fun k hk _ => hk))⟩
    · refine visit_txt (disp_rt _) h9 rb w1 ((rdTxt_any h2d h1d hB hne hl h9).mono ?_)
      rintro e w' ⟨rfl, h4, h5, h6⟩
      rw [rdP_txt h9.1]
      exact ⟨_, rfl, rfl, h4, h5, h3.drew.trans (h6.mono h3.size (fun k hk _ => hk))⟩
  · rintro e w' ⟨w0, hb, rfl, h1, h2, h3⟩
    exact ⟨rfl, h1, h2, (But.of hb).trans (h3.mono hb.size (fun k hk _ => hk))⟩
end Go.Proofs.Ytfhcpjnjemojgaa
