/- The document's merge: the first two that may be brought together, or changed about. Conditions: lists of at most 1000 edits. -/
import Derived.Test.YtohgghaooppcoaaDlG
import Derived.Test.YtohgghaooppcoaaTwoG
import Derived.Deep.CutRange
namespace Go.Proofs.Ytohgghaooppcoaa
open Go.RowKit Go.Lib

section
variable {b : Act} {w : World} {o : Oper}
theorem exec_atE2 {x y : Operand} {ad : Addr} {n c k : Nat} {z : Int} (ho : o.op = .indexAddr 25 x y) (h : b.eval x = .slice (some ad) n c) (h' : b.eval y = .int .i64 z) (hz : z = (k : Int)) (hk : k < n) : (execOp b.eval o).run Try.prog w = .ok (.value (.pointer (some (ad.add (k * 3))))) w := by
  subst hz
  have hk' : (k : Int) < n := by omega
  unfold execOp
  simp only [ho, h, h']
  go_simp
theorem exec_loadE2 {x : Operand} {ad : Addr} {e : Ed} (ho : o.op = .load 61 x) (h : b.eval x = .pointer (some ad)) (h0 : w.cell? ad = some (.int .u8 (e.k.toNat : Int))) (h1 : w.cell? ⟨ad.block, ad.off + 1, none⟩ = some (.int .i64 e.n)) (h2 : w.cell? ⟨ad.block, ad.off + 2, none⟩ = some (.string (txt e.s))) : (execOp b.eval o).run Try.prog w = .ok (.value e.v) w := by
  unfold execOp
  simp only [ho, h]
  go_simp
  rfl
theorem exec_addC {x : Operand} {v : Value} {i k : Int} (ho : o.op = .binOp .add 3 x (.const v) 3) (h : b.eval x = .int .i64 i) (hv : v = .int .i64 1) (hk : i + 1 = k) (hw : IntKind.i64.wrap k = k) : (execOp b.eval o).run Try.prog w = .ok (.value (.int .i64 k)) w := by
  subst hv
  unfold execOp
  simp only [ho, h]
  go_simp
def zeroE : Array Value := #[.int .u8 0, .int .i64 0, .string ByteArray.empty]
theorem exec_allocE2 (ho : o.op = .alloc 61) : (execOp b.eval o).run Try.prog w = .ok (.value (.pointer (some ⟨w.heap.size, 0, none⟩))) (w.alloc (.cells zeroE 61)) := by
  unfold execOp
  simp only [ho]
  go_simp
  rfl
end
theorem size_ed2 : (Try.prog.info? 61).map (·.size) = some 3 := by kernel_rfl
theorem ed_one (x : Ed) : x.cells.toArray.all (·.oneCell') = true := by
  rw [Array.all_eq_true_iff_forall_mem]
  intro u hu
  have : u ∈ x.cells := by simpa using hu
  simp only [Ed.cells, List.mem_cons, List.not_mem_nil, or_false] at this
  rcases this with rfl | rfl | rfl <;> rfl
/-- What the region's operations give: the two edits. -/
def MgF (ad : Addr) (n c k : Nat) (x y : Ed) : Nat → Value → World → Prop
  | 0, v, _ => v = .slice (some ad) n c
  | 1, v, _ => v = .int .i64 (k : Int)
  | 2, v, _ => v = .pointer (some (ad.add (k * 3)))
  | 3, v, _ => v = x.v
  | 4, v, _ => v = .slice (some ad) n c
  | 5, v, _ => v = .int .i64 (k : Int)
  | 6, v, _ => v = .int .i64 ((k : Int) + 1)
  | 7, v, _ => v = .pointer (some (ad.add ((k + 1) * 3)))
  | 8, v, _ => v = y.v
  | _, _, _ => True
theorem MgF.keep {ad : Addr} {n c k : Nat} {x y : Ed} (j : Nat) (u : Value) (w w' : World) (h : MgF ad n c k x y j u w) : MgF ad n c k x y j u w' :=
  match j, h with
  | 0, h => h
  | 1, h => h
  | 2, h => h
  | 3, h => h
  | 4, h => h
  | 5, h => h
  | 6, h => h
  | 7, h => h
  | 8, h => h
  | _ + 9, _ => trivial
/-- The cells of one edit of a list that reads so. -/
structure AtE (w : World) (ad : Addr) (k : Nat) (x : Ed) : Prop where
  c0 : w.cell? (ad.add (k * 3)) = some (.int .u8 (x.k.toNat : Int))
  c1 : w.cell? ⟨(ad.add (k * 3)).block, (ad.add (k * 3)).off + 1, none⟩ = some (.int .i64 x.n)
  c2 : w.cell? ⟨(ad.add (k * 3)).block, (ad.add (k * 3)).off + 2, none⟩ = some (.string (txt x.s))
theorem RdE.atE {w : World} {B : Nat} {ad : Addr} {l : List Ed} {k : Nat} {x : Ed} (h : RdE w B (some ad) l) (hx : Hid (l[k]? = some x)) : AtE w ad k x := by
  obtain ⟨hk, _⟩ := List.getElem?_eq_some_iff.1 hx.out
  obtain ⟨ad', y, e, _, h0, h1, h2, hy⟩ := RdE.at_ h hk
  injection e with e
  subst e
  have := hy.out
  rw [hx.out] at this
  injection this with this
  subst this
  exact ⟨h0, h1, h2⟩
theorem ecells_drop (l : List Ed) (k : Nat) : (ecells l).drop (k * 3) = ecells (l.drop k) := by
  by_cases hk : k ≤ l.length
  · have hl : (ecells (l.take k)).length = k * 3 := by rw [ecells_len, List.length_take]; congr 1; omega
    conv => lhs; rw [← List.take_append_drop k l, ecells_append]
    rw [← hl]
    exact List.drop_left
  · rw [List.drop_eq_nil_of_le (by rw [ecells_len]; omega), List.drop_eq_nil_of_le (by omega)]
    rfl
theorem ecells_take (l : List Ed) (k : Nat) : ecells (l.take k) = (ecells l).take (k * 3) := by
  by_cases hk : k ≤ l.length
  · have hl : (ecells (l.take k)).length = k * 3 := by rw [ecells_len, List.length_take]; congr 1; omega
    conv => rhs; rw [← List.take_append_drop k l, ecells_append]
    rw [← hl]
    exact List.take_left.symm
  · rw [List.take_of_length_le (by omega), List.take_of_length_le (by rw [ecells_len]; omega)]
theorem RdE.first {w : World} {B : Nat} {A : Option Addr} {l : List Ed} (h : RdE w B A l) (k : Nat) (hk : k ≤ l.length) : RdE w B A (l.take k) := by
  refine ⟨ecells_len _, fun hn => ?_⟩
  have hlen : (l.take k).length = k := by rw [List.length_take]; omega
  rw [hlen] at hn
  obtain ⟨ad, e, hb, hc⟩ := h.2 (by omega)
  refine ⟨ad, e, hb, fun j u hu => hc j u ?_⟩
  rw [ecells_take] at hu
  have hj := (List.getElem?_eq_some_iff.1 hu).1
  rw [List.getElem?_take] at hu
  split at hu
  · exact hu
  · cases hu
theorem RdE.cut {w : World} {B : Nat} {A : Option Addr} {l : List Ed} (h : RdE w B A l) {k cap : Nat} (hk : k ≤ l.length) (hc : l.length ≤ cap) : RdE w B (if cap = k then A else A.map (·.add (k * 3))) (l.drop k) := by
  have := Reads.cut h hk hc
  rw [ecells_drop] at this
  unfold RdE
  rw [List.length_drop]
  exact this
theorem run_backE2 (w : World) (A : Option Addr) {n m c : Nat} {z : Int} (hz : z = (m : Int)) (hm : m ≤ n) (hc : n ≤ c) :
    (Instr.slice 25 (.slice A n c) (some (.int .i64 z)) none none).run Try.prog w = .ok (.slice (if c = m then A else A.map (·.add (m * 3))) (n - m) (c - m)) w := by
  subst hz
  have hm' : (m : Int) ≤ n := by omega
  have hc' : (n : Int) ≤ c := by omega
  go_simp
theorem run_frontE2 (w : World) (A : Option Addr) {n m c : Nat} (hm : m ≤ c) :
    (Instr.slice 25 (.slice A n c) none (some (.int .i64 (m : Int))) none).run Try.prog w = .ok (.slice A m c) w := by
  have hm' : (m : Int) ≤ c := by omega
  go_simp
/-- As far as merge has come. -/
def MSt (l : List Ed) (k : Nat) : Prop := mg l = (mg (l.drop k)).map (fun r => l.take k ++ r)
theorem MSt.zero (l : List Ed) : MSt l 0 := by
  unfold MSt
  rw [List.drop_zero, List.take_zero]
  cases mg l <;> rfl
theorem drop2 {l : List Ed} {k : Nat} {x y : Ed} (hx : Hid (l[k]? = some x)) (hy : Hid (l[k + 1]? = some y)) : l.drop k = x :: y :: l.drop (k + 2) := by rw [drop_cons hx, drop_cons hy]
theorem MSt.on {l : List Ed} {k : Nat} {x y : Ed} (h : MSt l k) (hx : Hid (l[k]? = some x)) (hy : Hid (l[k + 1]? = some y)) (h1 : x.k ≠ y.k) (h2 : ¬ (x.k = 3 ∧ y.k = 2)) : MSt l (k + 1) := by
  unfold MSt at *
  rw [drop2 hx hy, mg_on h1 h2] at h
  rw [h, drop_cons hy, Option.map_map, take_snoc hx]
  congr 1
  funext r
  simp
theorem MSt.eq {l : List Ed} {k : Nat} {x y : Ed} (h : MSt l k) (hx : Hid (l[k]? = some x)) (hy : Hid (l[k + 1]? = some y)) (h1 : x.k = y.k) : mg l = some (l.take k ++ [⟨x.k, x.n + y.n, x.s ++ y.s⟩] ++ l.drop (k + 2)) := by
  unfold MSt at h
  rw [drop2 hx hy, mg_eq h1] at h
  rw [h]
  simp
theorem MSt.swap {l : List Ed} {k : Nat} {x y : Ed} (h : MSt l k) (hx : Hid (l[k]? = some x)) (hy : Hid (l[k + 1]? = some y)) (h1 : x.k = 3) (h2 : y.k = 2) : mg l = some (l.take k ++ [y, x] ++ l.drop (k + 2)) := by
  unfold MSt at h
  rw [drop2 hx hy, mg_swap h1 h2] at h
  rw [h]
  simp
theorem MSt.none_ {l : List Ed} {k : Nat} (h : MSt l k) (hk : l.length ≤ k + 1) : mg l = none := by
  unfold MSt at h
  have : mg (l.drop k) = none := by
    have hl : (l.drop k).length ≤ 1 := by rw [List.length_drop]; omega
    match l.drop k, hl with
    | [], _ => rfl
    | [_], _ => rfl
  rw [h, this]
  rfl
theorem is3 {k : UInt8} (h : k = 3) : ((k.toNat : Int) == 3) = true ∧ ((k.toNat : Int) != 3) = false ∧ decide ((k.toNat : Int) = 3) = true := by subst h; decide
theorem is2 {k : UInt8} (h : k = 2) : ((k.toNat : Int) == 2) = true ∧ ((k.toNat : Int) != 2) = false ∧ decide ((k.toNat : Int) = 2) = true := by subst h; decide
theorem is1 {k : UInt8} (h : k = 1) : ((k.toNat : Int) == 1) = true ∧ ((k.toNat : Int) != 1) = false ∧ decide ((k.toNat : Int) = 1) = true := by subst h; decide
theorem not3 {k : UInt8} (h : k ≠ 3) : ((k.toNat : Int) == 3) = false ∧ ((k.toNat : Int) != 3) = true ∧ decide ((k.toNat : Int) = 3) = false := by
  have := fun e => h ((u8_lit (k := k) (m := 3) (by omega)).1 e)
  have h' : ¬ ((k.toNat : Int) = 3) := this
  simp [h']
theorem not2 {k : UInt8} (h : k ≠ 2) : ((k.toNat : Int) == 2) = false ∧ ((k.toNat : Int) != 2) = true ∧ decide ((k.toNat : Int) = 2) = false := by
  have := fun e => h ((u8_lit (k := k) (m := 2) (by omega)).1 e)
  have h' : ¬ ((k.toNat : Int) = 2) := this
  simp [h']
theorem not1 {k : UInt8} (h : k ≠ 1) : ((k.toNat : Int) == 1) = false ∧ ((k.toNat : Int) != 1) = true ∧ decide ((k.toNat : Int) = 1) = false := by
  have := fun e => h ((u8_lit (k := k) (m := 1) (by omega)).1 e)
  have h' : ¬ ((k.toNat : Int) = 1) := this
  simp [h']
/-- merge's answer. -/
def MgVal (base : Nat) (v : Value) (l : List Ed) (e : Ending) (w' : World) : Prop :=
  (∃ l' v', mg l = some l' ∧ e = .returned (.tuple #[v', .bool true]) ∧ OwnE 61 base w' v' l') ∨ (mg l = none ∧ e = .returned (.tuple #[v, .bool false]))
set_option maxHeartbeats 4000000 in
set_option maxRecDepth 100000 in
theorem merge_any (A : Option Addr) (c B : Nat) (l : List Ed) (w : World) (hl : l.length ≤ 1000) (hcap : l.length ≤ c) (hn : ∀ x ∈ l, 0 ≤ x.n ∧ x.n ≤ 4611686018427387903) (hs : ∀ x ∈ l, x.s.length ≤ 4611686018427387903) (hB : B ≤ w.heap.size) (hr : RdE w B A l) :
    Calls Try.prog 37 #[.slice A l.length c] w fun e w' => MgVal w.heap.size (.slice A l.length c) l e w' ∧ Below w.heap.size w w' := by
  have hlen : (l.length : Int) ≤ 1000 := by omega
  have HB := Lib.hid hB
  have Hn := Lib.hid hn
  have Hs := Lib.hid hs
  have Hl := Lib.hid hl
  have Hcap := Lib.hid hcap
  have Hr : Hid (RdE w B A l) := hr
  clear hl hB hn hs hcap hr
  go_enter Try.func37, Try.ntmps37
  go_wp2
  go_loopw [4] (fun i wr => ∃ k : Nat, k ≤ l.length ∧ i = .int .i64 (k : Int) ∧ Hid (MSt l k) ∧ Below w.heap.size w wr) (fun i _ => l.length - (Lib.intOf i).toNat)
  case atStart => exact ⟨0, by omega, rfl, MSt.zero l, .refl _ _⟩
  case round =>
    obtain ⟨k, hk, rfl, hst, hb⟩ := hrel
    by_cases hlt : k + 1 < l.length
    · obtain ⟨x, hx⟩ : ∃ x, Hid (l[k]? = some x) := ⟨l[k], List.getElem?_eq_getElem (by omega)⟩
      obtain ⟨y, hy⟩ : ∃ y, Hid (l[k + 1]? = some y) := ⟨l[k + 1], List.getElem?_eq_getElem hlt⟩
      obtain ⟨ad, rfl⟩ : ∃ ad, A = some ad := by
        obtain ⟨ad, _, e, _⟩ := RdE.at_ Hr.out (k := k) (by omega)
        exact ⟨ad, e⟩
      have Hx := Lib.hid (Hn.out _ (mem_of_get hx))
      have Hy := Lib.hid (Hn.out _ (mem_of_get hy))
      have Hxs := Lib.hid (Hs.out _ (mem_of_get hx))
      have Hys := Lib.hid (Hs.out _ (mem_of_get hy))
      have Hrr : Hid (RdE wr B (some ad) l) := Reads.below Hr.out (hb.mono HB.out)
      have Hkn := Lib.hid (show k < l.length by omega)
      have Hkn1 := Lib.hid (show k + 1 < l.length by omega)
      have hw1 := Lib.hid (show IntKind.i64.wrap ((k : Int) + 1) = (k : Int) + 1 from IntWalk.i64_in _ (by omega))
      have hltI : (k : Int) + 1 < (l.length : Int) := by omega
      have HBz := Lib.hid (Nat.le_trans HB.out hb.size)
      go_upto_region 4 with fail
      go_cut [5, 6] from 15 to 23 (fun s5 s6 wx => ∃ p q, s5 = .pointer (some ⟨p, 0, none⟩) ∧ s6 = .pointer (some ⟨q, 0, none⟩) ∧ Hid (wx.heap[p]? = some (.cells x.cells.toArray 61 (0, 0))) ∧ Hid (wx.heap[q]? = some (.cells y.cells.toArray 61 (0, 0))) ∧ Hid (wr.heap.size ≤ p) ∧ Hid (wr.heap.size ≤ q) ∧ Below wr.drew.heap.size wr.drew wx)
      case first =>
        rename_i J K1 hJ hK
        have HRd : Hid (RdE wr.drew B (some ad) l) := Hrr.out
        refine wp_region_full (n := 76) (MgF ad l.length c k x y) (KnA wr.drew 61 zeroE x.cells.toArray y.cells.toArray 9 10 11 12 5 6) (by kernel_rfl) (by kernel_rfl) rfl ?_ ?_ ?_
        · exact fun L hL => KnA.start hL (Below.refl _ _)
        · skip
          refine OpsFu.cons _ _ (OpFu.readA (by decide) rfl (by decide) fun b w hs hb hg => ⟨rfl, _, exec_move rfl (hs 0 (by kernel_rfl)), rfl⟩) ?_
          refine OpsFu.cons _ _ (OpFu.readA (by decide) rfl (by decide) fun b w hs hb hg => ⟨rfl, _, exec_move rfl (hs 4 (by kernel_rfl)), rfl⟩) ?_
          refine OpsFu.cons _ _ (OpFu.readA (by decide) rfl (by decide) fun b w hs hb hg => ⟨rfl, _, exec_atE2 rfl (dep hg 0 rfl rfl rfl rfl) (dep hg 1 rfl rfl rfl rfl) rfl Hkn.out, rfl⟩) ?_
          refine OpsFu.cons _ _ (OpFu.readA (by decide) rfl (by decide) fun b w hs hb hg => (have h := RdE.atE (Reads.below HRd.out (hb.mono HBz.out)) hx; ⟨rfl, _, exec_loadE2 rfl (dep hg 0 rfl rfl rfl rfl) h.c0 h.c1 h.c2, rfl⟩)) ?_
          refine OpsFu.cons _ _ (OpFu.readA (by decide) rfl (by decide) fun b w hs hb hg => ⟨rfl, _, exec_move rfl (hs 0 (by kernel_rfl)), rfl⟩) ?_
          refine OpsFu.cons _ _ (OpFu.readA (by decide) rfl (by decide) fun b w hs hb hg => ⟨rfl, _, exec_move rfl (hs 4 (by kernel_rfl)), rfl⟩) ?_
          refine OpsFu.cons _ _ (OpFu.readA (by decide) rfl (by decide) fun b w hs hb hg => ⟨rfl, _, exec_addC rfl (dep hg 0 rfl rfl rfl rfl) rfl rfl hw1.out, rfl⟩) ?_
          refine OpsFu.cons _ _ (OpFu.readA (by decide) rfl (by decide) fun b w hs hb hg => ⟨rfl, _, exec_atE2 (k := k + 1) rfl (dep hg 0 rfl rfl rfl rfl) (dep hg 1 rfl rfl rfl rfl) (by omega) Hkn1.out, rfl⟩) ?_
          refine OpsFu.cons _ _ (OpFu.readA (by decide) rfl (by decide) fun b w hs hb hg => (have h := RdE.atE (Reads.below HRd.out (hb.mono HBz.out)) hy; ⟨rfl, _, exec_loadE2 rfl (dep hg 0 rfl rfl rfl rfl) h.c0 h.c1 h.c2, rfl⟩)) ?_
          refine OpsFu.cons _ _ (OpFu.makeA (by decide) (by decide) (by decide) rfl (by decide) (by decide) rfl (fun L hcl hn => notyet (s := 11) (k := 0) hcl rfl rfl rfl hn) (fun _ _ => trivial) (fun j u w w' h => MgF.keep j u w w' h) fun b w => exec_allocE2 rfl) ?_
          refine OpsFu.cons _ _ (OpFu.swapA (OpFu.makeA (by decide) (by decide) (by decide) rfl (by decide) (by decide) rfl (fun L hcl hn => notyet (s := 12) (k := 0) hcl rfl rfl rfl hn) (fun _ _ => trivial) (fun j u w w' h => MgF.keep j u w w' h) fun b w => exec_allocE2 rfl)) ?_
          refine OpsFu.cons _ _ (OpFu.fillA (by decide) (by decide) (by decide) rfl rfl rfl size_ed2 rfl (ed_one _) (fun j u w w' h => MgF.keep j u w w' h) (fun L hd => ⟨hd _ (List.mem_of_getElem? (i := 0) rfl) rfl, hd _ (List.mem_of_getElem? (i := 12) rfl) rfl⟩) fun b w hg => (dep hg 1 rfl rfl rfl rfl)) ?_
          refine OpsFu.cons _ _ (OpFu.swapA (OpFu.fillA (by decide) (by decide) (by decide) rfl rfl rfl size_ed2 rfl (ed_one _) (fun j u w w' h => MgF.keep j u w w' h) (fun L hd => ⟨hd _ (List.mem_of_getElem? (i := 0) rfl) rfl, hd _ (List.mem_of_getElem? (i := 12) rfl) rfl⟩) fun b w hg => (dep hg 1 rfl rfl rfl rfl))) ?_
          exact OpsFu.nil _ _
        · intro L b' w' hall hsz hd hs hC hf
          obtain ⟨p, q, ep, eq, hp, hq, bp, bq⟩ := hC.both (hall 9 (by decide)) (hall 10 (by decide)) (hall 11 (by decide)) (hall 12 (by decide))
          refine hK _ _ (Met.intro (hJ _ _ ?_))
          exact ⟨b'.tmps.getD 5 undef, b'.tmps.getD 6 undef, b'.tmps.getD 15 undef, b'.tmps.getD 16 undef, b'.tmps.getD 17 undef, b'.tmps.getD 18 undef, b'.tmps.getD 19 undef, b'.tmps.getD 20 undef, b'.tmps.getD 21 undef, b'.tmps.getD 22 undef, b'.tmps.getD 23 undef, ⟨p, q, ep, eq, hp, hq, bp, bq, hC.below⟩, (act_known hsz hd hs).trans (by kernel_rfl)⟩
      obtain ⟨p, q, rfl, rfl, hp, hq, bp, bq, hb4⟩ := hcut
      have hbb : Below w.heap.size w wc := (hb.drew).trans (hb4.mono (show w.heap.size ≤ wr.drew.heap.size from hb.size))
      have Hbbz := Lib.hid hbb.size
      have Hrc : Hid (RdE wc B (some ad) (l.take k)) := RdE.first (Reads.below Hr.out (hbb.mono HB.out)) k hk
      have hsl := run_frontE2 wc (some ad) (n := l.length) (m := k) (c := c) (by have := Hcap.out; omega)
      have Htk := Lib.hid (show (l.take k).length = k by rw [List.length_take]; omega)
      obtain ⟨T, hT⟩ : ∃ T, Hid (T = l.take k) := ⟨_, rfl⟩
      have HTl := Lib.hid (show T.length ≤ 1000 by rw [hT.out, Htk.out]; have := Hl.out; omega)
      clear hb4 Hrr HBz
      go_upto_region 7 with (at_builtin; refine push_eds edSl2 (.tmp 24) (.tmp 27) Htk.out (OwnE.nil _ _ _) Hbbz.out Hrc.out (by have := Hl.out; simp; omega) rfl rfl rfl rfl ?_; intro v1 w1 own1 hb1 hbs1 hz1 hk1; rw [List.nil_append, ← hT.out] at own1; have hp1 := (hk1 p (Array.getElem?_eq_some_iff.1 hp.out).1 (by simp [Value.ownBlock])).2.trans hp.out; have hq1 := (hk1 q (Array.getElem?_eq_some_iff.1 hq.out).1 (by simp [Value.ownBlock])).2.trans hq.out; obtain ⟨p0, p1, p2, _, _, _, hpz⟩ := box_cells hp1; obtain ⟨q0, q1, q2, _, _, _, hqz⟩ := box_cells hq1; have hbb1 := hbb.trans hb1; clear hb1 hk1 hp1 hq1 hsl)
      have Hbb1 := Lib.hid hbb1
      have Own1 := Lib.hid own1
      have Hrd : Hid (RdE w1 B (some ad) l) := Reads.below Hr.out (hbb1.mono HB.out)
      clear hbb1 own1
      by_cases hxy : x.k = y.k
      · have Hxy := Lib.hid hxy
        have g1 : ((x.k.toNat : Int) == (y.k.toNat : Int)) = true := by rw [hxy]; simp
        have g2 : (x.k.toNat == y.k.toNat) = true := by rw [hxy]; simp
        clear hxy
        have hHm := Lib.hid (hst.out.eq hx hy Hxy.out)
        obtain ⟨hxn0, hxn1⟩ := Hx.out
        obtain ⟨hyn0, hyn1⟩ := Hy.out
        have hcat : ¬ (9223372036854775807 < (txt x.s).size + (txt y.s).size) := by rw [txt_size, txt_size]; have := Hxs.out; have := Hys.out; omega
        have Hdl := Lib.hid (show (l.drop (k + 2)).length = l.length - (k + 2) by rw [List.length_drop])
        have hbk := fun W => run_backE2 W (some ad) (n := l.length) (m := k + 2) (c := c) (z := (k : Int) + 2) (by omega) (by omega) Hcap.out
        go_wp2_with (first
          | (at_builtin; refine push_ed edSl2 (.tmp 34) (.tmp 48) ⟨x.k, x.n + y.n, x.s ++ y.s⟩ rfl rfl (txt_append _ _) Own1.out (Nat.le_trans Hbbz.out hz1) (by have := HTl.out; omega) rfl rfl rfl rfl (by simp) ?_; intro v2 w2 own2 hb2 hbs2 hz2 hk2; have hbb2 := Hbb1.out.trans hb2; clear hb2 hk2 p0 p1 p2 q0 q1 q2)
          | (at_builtin; refine push_eds edSl2 (.tmp 50) (.tmp 54) Hdl.out own2 hbb2.size (RdE.cut (Reads.below Hr.out (hbb2.mono HB.out)) (k := k + 2) (cap := c) (by omega) Hcap.out) (by have := HTl.out; have := Hl.out; simp; omega) rfl rfl rfl rfl ?_; intro v3 w3 own3 hb3 hbs3 hz3 hk3; have hbb3 := hbb2.trans hb3; clear hb3 hk3))
        all_goals
          go_ret2
          refine ⟨.inl ⟨_, _, hHm.out, rfl, ?_⟩, hbb3⟩
          rw [← hT.out]
          exact own3
      · have Hxy := Lib.hid hxy
        have hne : (x.k.toNat : Int) ≠ (y.k.toNat : Int) := fun e => hxy (UInt8.toNat_inj.1 (by omega))
        have g1 : ((x.k.toNat : Int) == (y.k.toNat : Int)) = false := by simpa using hne
        have g2 : (x.k.toNat == y.k.toNat) = false := by simpa using fun e => hne (by omega)
        clear hxy hne
        by_cases hsw : x.k = 3 ∧ y.k = 2
        · have hHm := Lib.hid (hst.out.swap hx hy hsw.1 hsw.2)
          obtain ⟨g3, g4, g5⟩ := is3 hsw.1
          obtain ⟨g6, g7, g8⟩ := is2 hsw.2
          have Hdl := Lib.hid (show (l.drop (k + 2)).length = l.length - (k + 2) by rw [List.length_drop])
          have hbk := fun W => run_backE2 W (some ad) (n := l.length) (m := k + 2) (c := c) (z := (k : Int) + 2) (by omega) (by omega) Hcap.out
          clear hsw
          go_wp2_with (first
            | (at_builtin; refine push_eds edSl2 (.tmp 64) (.tmp 67) (new := [y, x]) (n := 2) rfl (Own1.out.alloc _) (by have := Nat.le_trans Hbbz.out hz1; first | omega | (simp; omega)) (RdE.new w1 [y, x] _) (by have := HTl.out; omega) rfl rfl rfl rfl ?_; intro v2 w2 own2 hb2 hbs2 hz2' hk2; have hz2 : wc.heap.size ≤ w2.heap.size := (by have h' : w1.heap.size + 1 ≤ w2.heap.size := (by simpa using hz2'); omega); have hbb2 := (Hbb1.out.alloc Hbb1.out.size (.cells (ecells [y, x]).toArray 61)).trans hb2; clear hb2 hk2 p0 p1 p2 q0 q1 q2)
            | (at_builtin; refine push_eds edSl2 (.tmp 69) (.tmp 73) Hdl.out own2 hbb2.size (RdE.cut (Reads.below Hr.out (hbb2.mono HB.out)) (k := k + 2) (cap := c) (by omega) Hcap.out) (by have := HTl.out; have := Hl.out; simp; omega) rfl rfl rfl rfl ?_; intro v3 w3 own3 hb3 hbs3 hz3 hk3; have hbb3 := hbb2.trans hb3; clear hb3 hk3))
          all_goals
            go_ret2
            refine ⟨.inl ⟨_, _, hHm.out, rfl, ?_⟩, hbb3⟩
            rw [← hT.out]
            exact own3
        · have hOn := Lib.hid (hst.out.on hx hy Hxy.out hsw)
          by_cases h3 : x.k = 3
          · obtain ⟨g3, g4, g5⟩ := is3 h3
            obtain ⟨g6, g7, g8⟩ := not2 (fun h => hsw ⟨h3, h⟩)
            clear hsw h3
            go_wp2
            go_roundw
            case rel => exact ⟨k + 1, by omega, by go_num, hOn.out, Hbb1.out⟩
            case measure => simp [Lib.intOf]; omega
          · obtain ⟨g3, g4, g5⟩ := not3 h3
            clear hsw h3
            go_wp2
            go_roundw
            case rel => exact ⟨k + 1, by omega, by go_num, hOn.out, Hbb1.out⟩
            case measure => simp [Lib.intOf]; omega
    · have Hv := Lib.hid (hst.out.none_ (by omega))
      have hltI : ¬ ((k : Int) + 1 < (l.length : Int)) := by omega
      go_wp2
      go_ret2
      exact ⟨.inr ⟨Hv.out, rfl⟩, hb⟩
end Go.Proofs.Ytohgghaooppcoaa
