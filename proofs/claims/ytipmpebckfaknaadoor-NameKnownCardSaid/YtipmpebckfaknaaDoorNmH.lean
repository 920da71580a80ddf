/- Sort, by the code. Conditions: at most 1,000,000 texts, of at most 1,048,000 bytes. -/
import Derived.Test.YtipmpebckfaknaaDoorNmK
import Derived.Test.YtipmpebckfaknaaDoorNmU
namespace Go.Proofs.YtipmpebckfaknaaDoor
open Go.RowKit Go.Lib

theorem enter_sortFunc (w : World) (args : Array Value) : (callFunc 38 args).run Tryd.prog w = .ok (.enter 38 args) w := by kernel_rfl
/-- Those of the texts that are names. -/
def namesOf (l : List (List UInt8)) : List Nm := l.filterMap parseOf
theorem namesOf_snoc {l : List (List UInt8)} {k : Nat} {s : List UInt8} (h : l[k]? = some s) : namesOf (l.take (k + 1)) = namesOf (l.take k) ++ (parseOf s).toList := by
  have e : l.take (k + 1) = l.take k ++ [s] := by
    rw [List.take_add_one, h]
    rfl
  unfold namesOf
  rw [e, List.filterMap_append]
  cases hp : parseOf s with
  | none => simp [hp]
  | some x => simp [hp]
theorem namesOf_le (l : List (List UInt8)) (k : Nat) : (namesOf (l.take k)).length ≤ k := by
  unfold namesOf
  refine Nat.le_trans (List.length_filterMap_le _ _) ?_
  rw [List.length_take]
  omega

set_option maxHeartbeats 4000000 in
set_option maxRecDepth 100000 in
theorem sort_any (A : Option Addr) (c n : Nat) (l : List (List UInt8)) (w : World) (hn : l.length = n) (hE : Env w) (hr : RdT w w.heap.size A l) (hl : n ≤ 1000000) (hall : ∀ s ∈ l, s.length ≤ 1048000) :
    Calls Tryd.prog 24 #[.slice A n c] w fun e w' => (∃ v, e = .returned v ∧ OwnN 24 w.heap.size w' v (sortN (namesOf l))) ∧ Below w.heap.size w w' := by
  have HE := Lib.hid hE
  have HR := Lib.hid hr
  have Hn := Lib.hid hn
  have Hl := Lib.hid hl
  have Hall := Lib.hid hall
  clear hE hr hn hall
  go_enter Tryd.func24, Tryd.ntmps24
  go_wp2
  go_loopw [3, 10] (fun v i wr => ∃ (k : Nat) (own : List Nm), k ≤ n ∧ i = .int .i64 (k : Int) ∧ OwnN 24 w.heap.size wr v own ∧ Hid (own = namesOf (l.take k)) ∧ Below w.heap.size w wr) (fun _ i _ => n - (Lib.intOf i).toNat)
  case atStart => exact ⟨0, [], Nat.zero_le _, rfl, OwnN.nil _ _ _, by exact rfl, .refl _ _⟩
  case round =>
    obtain ⟨k, own, hk, rfl, hown, Hown, hb⟩ := hrel
    have HO := Lib.hid hown
    have HB := Lib.hid hb
    clear hown hb
    have Hlen : Hid (own.length ≤ 1000000) := by
      rw [Hown.out]
      exact Nat.le_trans (namesOf_le l k) (Nat.le_trans hk Hl.out)
    by_cases hlt : k < n
    · have hlt' : k < l.length := by rw [Hn.out]; exact hlt
      obtain ⟨ad, s, rfl, hab, hcell, hs⟩ := RdT.at_ HR.out hlt'
      have hcr := (HB.out.cell (p := ad.add k) (by rw [block_of_add]; exact hab)).trans hcell
      have Hs : Hid (s.length ≤ 1048000) := Hall.out s (List.mem_of_getElem? hs.out)
      have Hs' : Hid (s.length < 4294967281) := by
        have := Hs.out
        show _ < _
        omega
      have HEr : Hid (Env wr) := HE.out.on HB.out
      have hsn := namesOf_snoc hs.out
      clear hab hcell hs hlt'
      cases hp : parseOf s with
      | none =>
        have Hp := Lib.hid hp
        rw [hp, Option.toList_none, List.append_nil] at hsn
        have Hsn := Lib.hid hsn
        clear hp hsn
        go_wp2_with (go_at_call 17; refine (parse_no s Hp.out _ HEr.out Hs'.out).mono ?_; rintro e w2 ⟨rfl, hb2⟩)
        go_roundw
        case rel => exact ⟨k + 1, own, by omega, by go_num, OwnN.below HO.out (hb2.alloc hb2.size _), by rw [Hsn.out]; exact Hown, (HB.out.trans (hb2.mono HB.out.size)).alloc (Nat.le_trans HB.out.size hb2.size) _⟩
        case measure => simp [Lib.intOf]; omega
      | some x =>
        have Hp := Lib.hid hp
        rw [hp, Option.toList_some] at hsn
        have Hsn := Lib.hid hsn
        clear hp hsn
        go_upto_region 7 with (go_at_call 17; refine (parse_yes s x Hp.out _ HEr.out Hs'.out).mono ?_; rintro e w2 ⟨rfl, hb2⟩)
        obtain ⟨W, hW⟩ : ∃ W, Hid (W = w2.alloc (.cells #[.int .u8 (x.k : Int), .int .u64 (x.d : Int), .int .u64 (x.n : Int), .int .u64 (x.p : Int), .int .u64 (x.i : Int), .int .u64 (x.c : Int)] 24)) := ⟨_, rfl⟩
        rw [← hW.out]
        have h2W : Below wr.heap.size wr W := by rw [hW.out]; exact hb2.alloc hb2.size _
        have HX : Hid (BoxNm x W ⟨w2.heap.size, 0, none⟩) := by rw [hW.out]; exact boxNm_new x w2 _
        have HO2 := Lib.hid (OwnN.below HO.out h2W)
        have HB2 := Lib.hid (HB.out.trans (h2W.mono HB.out.size))
        have x0 : W.cell? ⟨w2.heap.size, 0, none⟩ = some (.int .u8 (x.k : Int)) := HX.out.c0
        have x1 : W.cell? ⟨w2.heap.size, 1, none⟩ = some (.int .u64 (x.d : Int)) := HX.out.c1
        have x2 : W.cell? ⟨w2.heap.size, 2, none⟩ = some (.int .u64 (x.n : Int)) := HX.out.c2
        have x3 : W.cell? ⟨w2.heap.size, 3, none⟩ = some (.int .u64 (x.p : Int)) := HX.out.c3
        have x4 : W.cell? ⟨w2.heap.size, 4, none⟩ = some (.int .u64 (x.i : Int)) := HX.out.c4
        have x5 : W.cell? ⟨w2.heap.size, 5, none⟩ = some (.int .u64 (x.c : Int)) := HX.out.c5
        clear h2W hb2
        go_wp2_with (at_builtin; refine push_name nmSl1 (.tmp 20) (.tmp 22) x HO2.out HB2.out.size (by have := Hlen.out; omega) rfl rfl rfl rfl rfl ?_; intro v1 w3 hown1 hb3 hbs3)
        go_roundw
        case rel => exact ⟨k + 1, own ++ [x], by omega, by go_num, hown1, by rw [Hsn.out, ← Hown.out]; exact rfl, HB2.out.trans hb3⟩
        case measure => simp [Lib.intOf]; omega
    · obtain rfl : k = n := by omega
      have Hfin : Hid (own = namesOf l) := by
        rw [Hown.out, List.take_of_length_le (by rw [Hn.out]; exact Nat.le_refl _)]
        exact rfl
      go_wp2_with (go_at_call 38; refine (sort_own _ HO.out HB.out.size (by have := Hlen.out; omega)).mono ?_; rintro e w2 ⟨rfl, hown2, hb2⟩)
      go_ret
      refine ⟨⟨_, rfl, ?_⟩, HB.out.trans hb2⟩
      rw [← Hfin.out]
      exact hown2
end Go.Proofs.YtipmpebckfaknaaDoor
