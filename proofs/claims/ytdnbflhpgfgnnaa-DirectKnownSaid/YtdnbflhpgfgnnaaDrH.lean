/- The walk of List. Conditions: at most 1000 operations. -/
import Derived.Test.YtdnbflhpgfgnnaaDrG
namespace Go.Proofs.Ytdnbflhpgfgnnaa
open Go.RowKit Go.Maps

/-- What has come of a map: those names that are no longer to come. -/
def CollE (m : List En) (left : Lit → Bool) (l : List En) : Prop := l.Nodup ∧ ∀ e, e ∈ l ↔ e ∈ m ∧ left (.string e.1) = false
theorem CollE.start (m : List En) : CollE m (Maps.has (mapD (H := Unit) m)) [] := by
  refine ⟨List.nodup_nil, fun e => ⟨fun h => by simp at h, fun ⟨h1, h2⟩ => ?_⟩⟩
  rw [mapD_has, hasE_iff.2 ⟨e.2, h1⟩] at h2
  cases h2
theorem CollE.step {m : List En} (hm : Srt m) {left : Lit → Bool} {l : List En} (h : CollE m left l) {x : List UInt8} {v : Int} (hx : (x, v) ∈ m) (hl : left (.string x) = true) : CollE m (fun z => left z && !z.sameKey (.string x)) (l ++ [(x, v)]) := by
  have hnew : (x, v) ∉ l := fun e => by have := ((h.2 _).1 e).2; rw [hl] at this; cases this
  refine ⟨List.nodup_append.2 ⟨h.1, by simp, fun a ha b hb => by simp at hb; subst hb; exact fun e => hnew (e ▸ ha)⟩, fun e => ?_⟩
  rw [List.mem_append, List.mem_singleton, h.2 e]
  show _ ↔ e ∈ m ∧ (left (.string e.1) && !(e.1 == x)) = false
  constructor
  · rintro (⟨h1, h2⟩ | rfl)
    · exact ⟨h1, by rw [h2]; rfl⟩
    · exact ⟨hx, by simp⟩
  · rintro ⟨h1, h2⟩
    by_cases e' : e.1 = x
    · right
      obtain ⟨a, b⟩ := e
      simp only at e'
      subst e'
      rw [srt_one hm h1 hx]
    · left
      refine ⟨h1, ?_⟩
      have : (e.1 == x) = false := by simpa using e'
      rw [this] at h2
      simpa using h2
theorem CollE.perm {m : List En} (hm : Srt m) {left : Lit → Bool} {l : List En} (h : CollE m left l) (hl : ∀ kl, left kl = false) : l.Perm m := by
  have hn : m.Nodup := hm.imp fun {a b} h => by intro e; rw [e] at h; exact (blt_ne h) rfl
  exact (List.perm_ext_iff_of_nodup h.1 hn).2 fun e => by rw [h.2 e, hl]; simp
theorem mem_at {m : List En} {x : List UInt8} {v : Int} (h : ∀ zd, (mapD (H := Unit) m).atKey (.string x) zd = .lit (.int .i64 v)) : (x, v) ∈ m := by
  cases hg : getE m x with
  | some u =>
    have := h (.lit (.int .i64 0))
    rw [mapD_at, hg] at this
    injection this with this
    injection this with _ this
    rw [← this]
    exact getE_some hg
  | none =>
    exfalso
    have h0 := h (.lit (.int .i64 0))
    have h1 := h (.lit (.int .i64 1))
    rw [mapD_at, hg] at h0 h1
    rw [← h1] at h0
    injection h0 with h0
    injection h0 with _ h0
    cases h0
theorem enc_txt (x : List UInt8) : Go.Proofs.encStr x = .string (txt x) := rfl
theorem row_iter {w : World} {base r n cnt : Nat} {e : TypeId} {v : Value} {l : List En} {b : Nat} {D : DataW Unit} {left : Lit → Bool} {k : TypeId} {R : Value → Option (DataW Unit × List MemPlace)} (h : OwnEn e base w v l) (hr : w.ranges Try.prog k R b r n D left cnt) : some r ≠ v.ownBlock := by
  intro e'
  obtain ⟨cs, t, fr, hh⟩ := own_cells h e'.symm
  obtain ⟨es, clock, since, seen, c0, _, _, _, _, hri, _⟩ := hr
  rw [hh] at hri
  cases hri
theorem row_map {w : World} {base r n cnt : Nat} {e : TypeId} {v : Value} {l : List En} {b : Nat} {D : DataW Unit} {left : Lit → Bool} {k : TypeId} {R : Value → Option (DataW Unit × List MemPlace)} (h : OwnEn e base w v l) (hr : w.ranges Try.prog k R b r n D left cnt) : some b ≠ v.ownBlock := by
  intro e'
  obtain ⟨cs, t, fr, hh⟩ := own_cells h e'.symm
  obtain ⟨es, clock, since, seen, c0, hb, _⟩ := hr
  rw [hh] at hb
  cases hb
/-- A row of entries with room, made. -/
theorem run_makeE (n : Nat) (hn : n ≤ 1000000) (z : Int) (hz : z = (n : Int)) : ∃ cur : Array Value, cur.size = n * 2 ∧ ∀ w : World, (Instr.makeSlice 38 (.int .i64 0) (.int .i64 z)).run Try.prog w = .ok (.slice (some ⟨w.heap.size, 0, none⟩) 0 n) (w.alloc (.cells cur 66)) := by
  subst hz
  obtain ⟨i0, hi0, hz0, hz1, hz2⟩ := info_parts enSl1.2
  refine ⟨madeCells (Value.agg #[.string ByteArray.empty, .int .i64 0]).cells (n * 2), size_madeCells _ _, fun w => ?_⟩
  · have h := run_make (P := Try.prog) w 38 66 i0 _ Try.underlying38 hi0 hz0 .i64 .i64 0 (n : Int) (by omega) (by omega) (by rw [hz2]; omega) (by omega)
    rw [hz1, Int.toNat_natCast] at h
    exact h
section
variable {w : World} {c : Nat → Nat} {i g N : Nat} {s : St}
set_option maxHeartbeats 1000000 in
theorem listNil_any (w : World) : Calls Try.prog 14 #[.pointer none] w fun e w' => e = .returned (.slice none 0 0) ∧ w' = w := by
  go_enter Try.func14, Try.ntmps14
  go_wp2
  go_ret
  exact ⟨rfl, rfl⟩
set_option maxHeartbeats 2000000 in
set_option maxRecDepth 100000 in
theorem list_any (h : DirAt w c i g s) (hg : Good s N) (hN : N ≤ 1000) :
    Calls Try.prog 14 #[.pointer (some ⟨g, 0, none⟩)] w fun e w' => ∃ v, e = .returned v ∧ OwnEn 66 w.heap.size w' v s.now ∧ Go.RowKit.Below w.heap.size w w' := by
  have hgl := Lib.hid h.lt
  obtain ⟨hcol, hne, mv, pv, hd, hm, hp⟩ := h
  have hcd := (two_cells hd).1
  have Hsrt := Lib.hid hg.ok.now
  have hlen : Hid (s.now.length ≤ 1000) := by have := hg.now.1; show _ ≤ _; omega
  generalize hmm : s.now = m at hm Hsrt hlen ⊢
  clear hg hN hd hp hcol hne hmm
  rcases hm with ⟨rfl, rfl⟩ | ⟨b, rfl, _, ho⟩
  · obtain ⟨cur, hcs, hmk⟩ := run_makeE 0 (by omega) 0 rfl
    have hlenN := fun ty => Maps.len_nil (P := Try.prog) (w := w) Try.underlying56 ty
    have hcd2 : (w.alloc (.cells cur 66)).cell? ⟨g, 0, none⟩ = some (.map none) := (World.cell?_alloc_lt _ _ _ hgl.out).trans hcd
    have hrg := run_range_nilMap (P := Try.prog) (w.alloc (.cells cur 66)) 56 _ _ Try.underlying56
    have hnx : ∀ ty, (Instr.next (.pointer (some ⟨w.heap.size + 1, 0, none⟩)) false ty).run Try.prog ((w.alloc (.cells cur 66)).alloc (.mapIter none 0 #[] 0)) = .ok (.tuple #[.bool false]) ((w.alloc (.cells cur 66)).alloc (.mapIter none 0 #[] 0)) := fun ty => by
      have := run_next_nilMap (P := Try.prog) (w.alloc (.cells cur 66)) ty 0 0 #[]
      rwa [World.size_alloc] at this
    go_enter Try.func14, Try.ntmps14
    go_wp2
    refine wp_loop_rounds 1 ?_
    rw [rounds_succ]
    have hrow0 : OwnEn 66 w.heap.size ((w.alloc (.cells cur 66)).alloc (.mapIter none 0 #[] 0)) (.slice (some ⟨w.heap.size, 0, none⟩) 0 0) [] := World.ownsRow.alloc (World.ownsRow_made w cur 0 (Nat.le_refl _) (Nat.zero_le _) hcs) _
    have hsort := Lib.hid (sort_en _ hrow0 (by simp; omega) (by simp) Hsrt.out (List.Perm.refl _))
    have hbb : Hid (Go.RowKit.Below w.heap.size w ((w.alloc (.cells cur 66)).alloc (.mapIter none 0 #[] 0))) := (below_new _ _).alloc (by simp) _
    clear hrow0
    go_wp2_with (go_at_call 29; refine hsort.out.mono ?_; rintro e w1 ⟨rfl, hown, hb⟩)
    go_ret
    exact ⟨_, rfl, hown, hbb.out.trans hb⟩
  · have Ho := Lib.hid ho
    obtain ⟨n, hn⟩ : ∃ n, Hid (m.length = n) := ⟨_, rfl⟩
    have hn1 : n ≤ 1000 := by rw [← hn.out]; exact hlen.out
    obtain ⟨cur, hcs, hmk⟩ := run_makeE n (by omega) n rfl
    have hrow0 := Lib.hid (World.ownsRow_made (base := w.heap.size) (e := 66) (size := 2) w cur n (Nat.le_refl _) (by simp only [maxLen]; omega) hcs)
    have hb0 : Hid (Go.RowKit.Below w.heap.size w (w.alloc (.cells cur 66))) := below_new _ _
    have hcd2 : (w.alloc (.cells cur 66)).cell? ⟨g, 0, none⟩ = some (.map (some b)) := (World.cell?_alloc_lt _ _ _ hgl.out).trans hcd
    have Ho2 := Lib.hid (World.ownsMap.alloc ho (.cells cur 66))
    have hbl : Hid (b < w.heap.size) := ho.lt
    have hlenM := fun ty => ho.len Try.underlying56 ty
    rw [mapD_size, hn.out] at hlenM
    clear ho
    go_enter Try.func14, Try.ntmps14
    go_wp2_with (at_range; refine wpList_range_own _ rfl _ 56 rfl 9 3 law Try.underlying56 _ b _ _ rfl Ho2.out ?_; intro w0 hrg0 hg0 hs0)
    clear hmk hcd2 hlenM hcd
    go_frame
    obtain ⟨r, hr⟩ : ∃ r, Hid ((w.alloc (.cells cur 66)).heap.size = r) := ⟨_, rfl⟩
    have hrw : Hid (w.heap.size ≤ r) := by rw [← hr.out]; exact hb0.out.size
    rw [hr.out] at hrg0 ⊢
    have hB0 : Hid (Go.RowKit.Below w.heap.size w w0) := hb0.out.trans (Go.RowKit.Below.grown (.refl _ _) hg0 hb0.out.size (fun j hj => by cases hj))
    have hO0 : Hid (OwnEn 66 w.heap.size w0 (.slice (some ⟨w.heap.size, 0, none⟩) 0 n) []) := own_touch hrow0.out (Touch.grown (X := fun _ => False) hg0 fun k e => by cases e) fun _ _ e => e
    clear hs0 hg0
    go_loopw [3] (fun v wr => ∃ (left : Lit → Bool) (cnt : Nat) (l : List En), wr.ranges (H := Unit) Try.prog 9 (plainElem Try.prog 3) b r m.length (mapD m) left cnt ∧ OwnEn 66 w.heap.size wr v l ∧ Hid (CollE m left l) ∧ Go.RowKit.Below w.heap.size w wr ∧ Hid (l.length + cnt ≤ n))
      (fun _ wr => wr.rangeLeft b r)
    case atStart => exact ⟨_, _, [], hrg0, hO0.out, CollE.start m, hB0.out, by show _ ≤ n; rw [mapD_size, ← hn.out]; simp⟩
    case round =>
      clear hrg0 hO0
      obtain ⟨left, cnt, l, hrg, hrow, hC, hnx, hcnt⟩ := hrel
      have Hrg := Lib.hid hrg
      have Hrow := Lib.hid hrow
      have Hnx := Lib.hid hnx
      clear hrg hrow hnx
      go_wp2_with (at_next; refine wpList_next_ranges _ rfl _ rfl 9 law (plainElem Try.prog 3) Go.Proofs.encStr (Value.int .i64) (fun key kl hk => by obtain ⟨x, hx, _⟩ := Maps.keyOf_str Try.underlying9 hk; exact ⟨x, hx⟩) (fun v y hv => by obtain ⟨c, rfl, _⟩ := plainElem_int_inv Try.underlying3 hv; exact ⟨c, rfl⟩) b r _ _ _ _ rfl Hrg.out ?_ ?_)
      · intro hc0 hl0
        have hperm := hC.out.perm Hsrt.out hl0
        have hsort := Lib.hid (sort_en _ Hrow.out Hnx.out.size (by rw [hperm.length_eq]; have := hlen.out; omega) Hsrt.out hperm)
        clear hperm hl0
        go_wp2_with (go_at_call 29; refine hsort.out.mono ?_; rintro e w1 ⟨rfl, hown, hb⟩)
        go_ret
        exact ⟨_, rfl, hown, Hnx.out.trans hb⟩
      · intro x z kl yd yp w2 cnt2 hkey hlk hv hat hrg2 hlt hg2 hs2 hen
        obtain ⟨x', ex, rfl, hxl⟩ := Maps.keyOf_str Try.underlying9 hkey
        obtain rfl : x = x' := encStr_inj ex
        obtain ⟨z', ez, hyd, _⟩ := plainElem_int_inv Try.underlying3 hv
        obtain rfl : z = z' := by injection ez
        obtain ⟨rfl, rfl⟩ : yd = .lit (.int .i64 z) ∧ yp = [] := by simpa using hyd
        have hmem := Lib.hid (mem_at hat)
        have hrow2 := Lib.hid (own_touch Hrow.out (Touch.grown (X := fun k => k = r) hg2 fun k e => by injection e with e; exact e.symm) fun k hk e => row_iter Hrow.out Hrg.out (by rw [← e]; exact hk.symm))
        have hB2 : Hid (Go.RowKit.Below w.heap.size w w2) := Hnx.out.trans (Go.RowKit.Below.grown (.refl _ _) hg2 Hnx.out.size (fun j hj => by injection hj with hj; have := hrw.out; omega))
        have Hrg2 := Lib.hid hrg2
        have Hlk := Lib.hid hlk
        have Hlt := Lib.hid hlt
        have hll : Hid (l.length ≤ 1099511627776) := by have := hcnt.out; show _ ≤ _; omega
        clear hs2 hrg2 hg2 hat hkey ex ez hyd hlk hv hlt hxl
        rw [enc_txt] at hen ⊢
        go_wp2_with (at_builtin; refine push_en enSl1 (.tmp 24) (.tmp 28) (x, z) hrow2.out hB2.out.size hll.out rfl rfl rfl rfl rfl ?_; intro v' w3 hown' hg3 hblk3 hb3; go_frame)
        have hrg3 := Hrg2.out.kept hg3 (row_map hrow2.out Hrg2.out) (row_iter hrow2.out Hrg2.out)
        go_roundw
        case rel => exact ⟨_, cnt2, l ++ [(x, z)], hrg3, hown', hC.out.step Hsrt.out hmem.out Hlk.out, hB2.out.trans hb3, by have := hcnt.out; have := Hlt.out; show _ ≤ n; rw [List.length_append, List.length_singleton]; omega⟩
        case measure => rw [hrg3.left_eq, Hrg.out.left_eq]; exact Hlt.out
end
end Go.Proofs.Ytdnbflhpgfgnnaa
