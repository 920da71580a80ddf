/- A row of bytes that the call owns, and that a conversion may have marked behind its places: appends onto it; strconv.AppendUint onto it. Conditions: rows of at most 1000 bytes, numbers below 2^64. -/
import Derived.Test.YtipmpebckfaknaaDoorNmG
import Derived.Test.YtipmpebckfaknaaDoorText
import Derived.Lib.FrozenHead
import Derived.Lib.ConvBytes
import Derived.Lib.ItoaMem
import Derived.Lib.AppendIntMem
import Derived.CellFam
import Derived.Lib.Slices
namespace Go.Proofs.YtipmpebckfaknaaDoor
open Go.RowKit Go.Lib Go.Sort

structure OwnMk (w : World) (base : Nat) (l : List UInt8) (g cap : Nat) (cur : Array Value) (fz : Nat × Nat) : Prop where
  ge : base ≤ g
  blk : w.heap[g]? = some (.cells cur 5 fz)
  free : fz.2 = 0 ∨ cap ≤ fz.1
  le : l.length ≤ cap
  max : cap ≤ maxLen
  size : cur.size = cap
  take : cur.toList.take l.length = bs l
/-- A row of bytes that the call owns: none of its places is frozen. -/
def OwnM (w : World) (base : Nat) (v : Value) (l : List UInt8) : Prop := ∃ g cap cur fz, v = .slice (some ⟨g, 0, none⟩) l.length cap ∧ OwnMk w base l g cap cur fz
theorem OwnM.below {w w' : World} {base : Nat} {v : Value} {l : List UInt8} (h : OwnM w base v l) (hb : Below w.heap.size w w') : OwnM w' base v l := by
  obtain ⟨g, cap, cur, fz, e, h1, h2, h3, h4, h5, h6, h7⟩ := h
  exact ⟨g, cap, cur, fz, e, h1, (hb.block g (Array.getElem?_eq_some_iff.1 h2).1).trans h2, h3, h4, h5, h6, h7⟩
theorem OwnM.reads {w : World} {base : Nat} {v : Value} {l : List UInt8} (h : OwnM w base v l) : ∃ A c, v = .slice A l.length c ∧ RdB w w.heap.size A l := by
  obtain ⟨g, cap, cur, fz, e, h1, h2, h3, h4, h5, h6, h7⟩ := h
  refine ⟨_, cap, e, by rw [bs_len]; omega, fun _ => ⟨_, rfl, (Array.getElem?_eq_some_iff.1 h2).1, fun j u hu => ?_⟩⟩
  have hadd : (⟨g, 0, none⟩ : Addr).add j = ⟨g, j, none⟩ := by unfold Addr.add; split <;> simp_all
  rw [hadd, cell_of_row w g j cur _ fz h2, ← Array.getElem?_toList]
  rw [← h7, List.getElem?_take] at hu
  split at hu
  · exact hu
  · cases hu
/-- []byte(s). -/
theorem conv_own (w : World) (base : Nat) (l : List UInt8) (hbase : base ≤ w.heap.size) (hl : l.length ≤ 1000) :
    ∃ v w', (convert 9 60 (.string (txt l))).run Tryd.prog w = .ok v w' ∧ OwnM w' base v l ∧ Below w.heap.size w w' := by
  refine ⟨_, _, Lib.run_convert_string_bytes w 9 60 5 (txt l) Tryd.underlying9 Tryd.underlying60 Tryd.underlying5, ?_, Lib.bytesWorld_below _ _ _⟩
  have hge := grownCap_ge w (txt l).size 0 5
  have hcm : grownCap w (txt l).size 0 5 ≤ maxLen := grownCap_le_maxLen w (txt l).size 0 5 (by rw [txt_size]; unfold maxLen; omega)
  have hs : (Lib.bytesCells w 5 (txt l)).size = grownCap w (txt l).size 0 5 := by
    unfold Lib.bytesCells
    rw [Array.size_append, Array.size_map, Array.size_replicate]
    have : (txt l).data.size = (txt l).size := rfl
    omega
  refine ⟨w.heap.size, _, _, _, by rw [txt_size], hbase, Lib.bytesWorld_at_new w 5 (txt l), .inr (by show _ ≤ (Lib.bytesCells w 5 (txt l)).size; omega), by rw [txt_size] at hge; exact hge, hcm, hs, ?_⟩
  unfold Lib.bytesCells
  rw [Array.toList_append, Array.toList_map]
  have e : List.map (fun b => Value.int IntKind.u8 (b.toNat : Int)) (txt l).data.toList = bs l := rfl
  have e2 : (bs l).length = l.length := bs_len l
  rw [e, ← e2]
  exact List.take_left
theorem run_storeCells_atM (P : Program) (g o : Nat) (t : TypeId) (fz : Nat × Nat) : ∀ (vs : List Value) (i : Nat) (cur : Array Value) (w : World), w.heap[g]? = some (.cells cur t fz) → (fz.2 = 0 ∨ o + i + vs.length ≤ fz.1) → o + i + vs.length ≤ cur.size → (∀ v ∈ vs, v.oneCell' = true) →
    (storeCells ⟨g, o, none⟩ vs i).run P w = .ok () (w.setRow g (cur.toList.take (o + i) ++ vs ++ cur.toList.drop (o + i + vs.length)).toArray)
  | [], i, cur, w, hg, _, _, _ => by
    simp only [storeCells, List.append_nil, List.length_nil, Nat.add_zero, List.take_append_drop, Array.toArray_toList]
    rw [setRow_self w g cur t fz hg]
    rfl
  | v :: rest, i, cur, w, hg, hfz, hl, h1 => by
    have hi : o + i < cur.size := by simp at hl; omega
    have hadd : (⟨g, o, none⟩ : Addr).add i = ⟨g, o + i, none⟩ := by unfold Addr.add; split <;> simp_all
    have hcell : w.cell? ⟨g, o + i, none⟩ = some cur[o + i] := by simp [World.cell?, hg, hi]
    have hfro : w.frozen? ⟨g, o + i, none⟩ = false := by
      obtain ⟨lo, hi'⟩ := fz
      simp only [World.frozen?, hg, Bool.and_eq_false_iff, decide_eq_false_iff_not]
      simp only [List.length_cons] at hfz
      rcases hfz with h | h
      · right; omega
      · left; omega
    have hst : (store ((⟨g, o, none⟩ : Addr).add i) v).run P w = .ok () (w.setRow g (cur.setIfInBounds (o + i) v)) := by
      rw [hadd, run_store P w _ v _ (h1 v (by simp)), hcell]
      simp [hfro, setCell_eq_setRow w g (o + i) cur t fz v hg]
    have ih := run_storeCells_atM P g o t fz rest (i + 1) (cur.setIfInBounds (o + i) v) (w.setRow g (cur.setIfInBounds (o + i) v)) (setRow_heap w g cur _ t _ hg) (by simp only [List.length_cons] at hfz; omega) (by simp at hl ⊢; omega) (fun x hx => h1 x (by simp [hx]))
    simp only [storeCells, Sem.run_bind, hst, Result.andThen_ok, ih, setRow_setRow]
    congr 3
    have e := list_seg_step cur.toList (o + i) v rest (by simp at hl ⊢; omega)
    simpa [Array.toList_setIfInBounds, Nat.add_assoc] using e
theorem bs_one' (l : List UInt8) : ∀ u ∈ bs l, u.oneCell' = true := bs_one l
theorem below_setRow'' {w : World} {base g : Nat} {cs : Array Value} (hg : base ≤ g) : Below base w (w.setRow g cs) :=
  ⟨rfl, rfl, rfl, by rw [size_setRow]; exact Nat.le_refl _, fun k hk => setRow_other w g k cs (by omega)⟩
/-- What an append in place leaves. -/
theorem OwnMk.put {w : World} {base g cap : Nat} {l m : List UInt8} {cur : Array Value} {fz : Nat × Nat} (h : OwnMk w base l g cap cur fz) (hroom : l.length + m.length ≤ cap) :
    OwnM (w.setRow g (cur.toList.take l.length ++ bs m ++ cur.toList.drop (l.length + m.length)).toArray) base (.slice (some ⟨g, 0, none⟩) (l.length + m.length) cap) (l ++ m) := by
  obtain ⟨h1, h2, h3, h4, h5, h6, h7⟩ := h
  refine ⟨g, cap, _, fz, by rw [List.length_append], h1, setRow_heap w g cur _ _ fz h2, h3, by rw [List.length_append]; exact hroom, h5, ?_, ?_⟩
  · simp only [List.size_toArray, List.length_append, List.length_take, List.length_drop, Array.length_toList, bs_len]
    omega
  · rw [h7, ← bs_append]
    have e : (bs (l ++ m)).length = (l ++ m).length := bs_len _
    rw [← e]
    exact List.take_left
theorem OwnMk.grow {w : World} {base c : Nat} {l m : List UInt8} (hbase : base ≤ w.heap.size) (hge : l.length + m.length ≤ c) (hcm : c ≤ maxLen) :
    OwnM (w.drew.alloc (.cells ((bs l).toArray ++ (bs m).toArray ++ Builtin.zeroCells (Value.int .u8 0).cells (c - (l.length + m.length))) 5)) base (.slice (some ⟨w.heap.size, 0, none⟩) (l.length + m.length) c) (l ++ m) := by
  refine ⟨w.heap.size, c, _, (0, 0), by rw [List.length_append], hbase, heap_alloc_new w.drew _, .inl rfl, by rw [List.length_append]; exact hge, hcm, ?_, ?_⟩
  · have hz1 : (Value.int IntKind.u8 0).cells.size = 1 := rfl
    simp only [Array.size_append, List.size_toArray, size_zeroCells, hz1, bs_len]
    omega
  · simp only [Array.toList_append, List.append_assoc]
    rw [← List.append_assoc, ← bs_append]
    have e : (bs (l ++ m)).length = (l ++ m).length := bs_len _
    rw [← e]
    exact List.take_left
theorem own_cellsM {w : World} {base g cap : Nat} {l : List UInt8} {cur : Array Value} {fz : Nat × Nat} (h : OwnMk w base l g cap cur fz) : ∀ j u, (bs l)[j]? = some u → w.cell? ((⟨g, 0, none⟩ : Addr).add j) = some u := by
  intro j u hu
  obtain ⟨A, c, e, hr⟩ := OwnM.reads (v := .slice (some ⟨g, 0, none⟩) l.length cap) ⟨g, cap, cur, fz, rfl, h⟩
  injection e with e1 _ _
  subst e1
  have hj : j < l.length := by have := (List.getElem?_eq_some_iff.1 hu).1; rwa [bs_len] at this
  obtain ⟨ad, e2, _, hc⟩ := hr.2 (by omega)
  injection e2 with e2
  subst e2
  exact hc j u hu
theorem append_strM {w : World} {base : Nat} {v : Value} {l m : List UInt8} (ty : TypeId) (h : OwnM w base v l) (hbase : base ≤ w.heap.size) (hl : l.length + m.length ≤ 2000) :
    ∃ v' w', (Builtin.append_ #[60, 9] ty #[v, .string (txt m)]).run Tryd.prog w = .ok v' w' ∧ OwnM w' base v' (l ++ m) ∧ Below base w w' := by
  obtain ⟨i0, hi, hz, hz1, hz2⟩ := info_parts Tryd.info5
  obtain ⟨g, cap, cur, fz, rfl, hk⟩ := h
  have hms : (txt m).size = m.length := txt_size m
  by_cases hroom : l.length + m.length ≤ cap
  · have hf := run_firstCells_string (P := Tryd.prog) w 1 (txt m)
    have hst := run_storeCells_atM Tryd.prog g l.length 5 fz (bs m) 0 cur w hk.blk (by rw [bs_len]; rcases hk.free with h | h <;> omega) (by rw [bs_len, hk.size]; omega) (bs_one m)
    simp only [Nat.add_zero, bs_len] at hst
    refine ⟨_, _, ?_, hk.put hroom, below_setRow'' hk.ge⟩
    have hsc : strCells (txt m) = bs m := rfl
    rw [hms, hsc] at hf
    simp [Builtin.append_, run_underlying Tryd.underlying60, run_underlying Tryd.underlying9, sizeOf, typeInfo, hi, hz1, Builtin.lenOf, hroom, hf, Addr.add_lit, hms, hst]
  · have hr := run_append_grow_string (P := Tryd.prog) w 60 9 ty 5 i0 (.int .u8 0) Tryd.underlying60 Tryd.underlying9 hi hz ⟨g, 0, none⟩ l.length cap (bs l) (by rw [hz1, bs_len]; omega) (own_cellsM hk) (txt m) (by omega) (by omega) (by rw [hz2]; exact growslice_fits (by omega) (by omega))
    rw [hms] at hr
    have hge := grownCap_ge w (l.length + m.length) cap 5
    have hcm := grownCap_le_maxLen w (l.length + m.length) cap 5 (by unfold maxLen; omega)
    exact ⟨_, _, hr, OwnMk.grow hbase hge hcm, (Below.refl _ _).drew.alloc hbase _⟩
theorem append_rowM {w : World} {base : Nat} {v : Value} {l m : List UInt8} (ty : TypeId) {a : Addr} {c : Nat} (h : OwnM w base v l) (hbase : base ≤ w.heap.size) (hl : l.length + m.length ≤ 2000) (hm : ∀ j u, (bs m)[j]? = some u → w.cell? (a.add j) = some u) :
    ∃ v' w', (Builtin.append_ #[60, 60] ty #[v, .slice (some a) m.length c]).run Tryd.prog w = .ok v' w' ∧ OwnM w' base v' (l ++ m) ∧ Below base w w' := by
  obtain ⟨i0, hi, hz, hz1, hz2⟩ := info_parts Tryd.info5
  obtain ⟨g, cap, cur, fz, rfl, hk⟩ := h
  have hml : (bs m).length = m.length * i0.size := by rw [hz1, bs_len]; omega
  by_cases hroom : l.length + m.length ≤ cap
  · have hf := run_firstCells_some (P := Tryd.prog) w i0.size m.length a m.length c (bs m) hml hm
    have hst := run_storeCells_atM Tryd.prog g l.length 5 fz (bs m) 0 cur w hk.blk (by rw [bs_len]; rcases hk.free with h | h <;> omega) (by rw [bs_len, hk.size]; omega) (bs_one m)
    simp only [Nat.add_zero, bs_len] at hst
    refine ⟨_, _, ?_, hk.put hroom, below_setRow'' hk.ge⟩
    rw [hz1] at hf
    simp [Builtin.append_, run_underlying Tryd.underlying60, sizeOf, typeInfo, hi, hz1, Builtin.lenOf, hroom, hf, Addr.add_lit, hst]
  · have hr := run_append_grow (P := Tryd.prog) w 60 ty 5 i0 (.int .u8 0) Tryd.underlying60 hi hz ⟨g, 0, none⟩ l.length cap (bs l) (by rw [hz1, bs_len]; omega) (own_cellsM hk) a m.length c (bs m) hml hm (by omega) (by omega) (by rw [hz2]; exact growslice_fits (by omega) (by omega))
    have hge := grownCap_ge w (l.length + m.length) cap 5
    have hcm := grownCap_le_maxLen w (l.length + m.length) cap 5 (by unfold maxLen; omega)
    exact ⟨_, _, hr, OwnMk.grow hbase hge hcm, (Below.refl _ _).drew.alloc hbase _⟩
theorem wpList_appendM {ops : Array Oper} {rest : List Oper} {o : Oper} {a : Act} {Q : Exit → Act → World → Prop} {w : World} {base : Nat} {T : TypeId} {v news : Value} {l : List UInt8} (s x : Operand) (hgd : o.guard = none)
    (ho : o.op = .call { callee := .builtin .append, args := #[s, x], argTypes := #[60, T] }) (hs : a.eval s = v) (hx : a.eval x = news)
    (hr : ∃ v' w', (Builtin.append_ #[60, T] o.type #[v, news]).run Tryd.prog w = .ok v' w' ∧ OwnM w' base v' l ∧ Below base w w')
    (h : ∀ v' w', OwnM w' base v' l → Below base w w' → wpList Tryd.prog ops Q rest (a.put o.dst v') w') : wpList Tryd.prog ops Q (o :: rest) a w := by
  refine wpList_plain hgd fun K hK => ?_
  obtain ⟨v', w', hr, h2, h3⟩ := hr
  unfold Oper.wp execOp
  simp only [ho, resolve, invoke, builtin, Sem.run_bind, Sem.run_pure, Result.andThen_ok, List.map_toArray, List.map_cons, List.map_nil, hs, hx, hr]
  exact hK _ _ (h v' w' h2 h3)

set_option maxHeartbeats 4000000 in
set_option maxRecDepth 100000 in
theorem appendSmall (base : Nat) (v : Value) (l : List UInt8) (u : Nat) (w : World) (hu : u < 100) (hl : l.length ≤ 1000) (hbase : base ≤ w.heap.size) (hown : OwnM w base v l) :
    Calls Tryd.prog 39 #[v, .int .u64 (u : Int), .int .i64 10] w fun e w' => ∃ v', e = .returned v' ∧ OwnM w' base v' (l ++ decDigits u) ∧ Below base w w' := by
  have hlen := decDigits_le (n := u) (by omega)
  have Hlen := Lib.hid (show l.length + (decDigits u).length ≤ 2000 by omega)
  have Hown := Lib.hid hown
  have hsm : ∀ w', Calls Tryd.prog 46 #[.int .i64 (u : Int)] w' fun e w2 => e = .returned (.string (txt (decDigits u))) ∧ w2 = w' := fun w' => Tryd.internal_strconv_small u hu w'
  have Hsm := Lib.hid hsm
  clear hlen hl hown hsm
  obtain ⟨D, hD⟩ : ∃ D, Hid (decDigits u = D) := ⟨_, rfl⟩
  rw [hD.out] at Hsm Hlen ⊢
  go_enter Tryd.func39, Tryd.ntmps39
  go_wp2_with (first
    | (go_at_call 46; refine (Hsm.out _).mono ?_; rintro e w' ⟨rfl, rfl⟩)
    | (at_builtin; refine wpList_appendM (.tmp 13) (.tmp 16) rfl rfl rfl rfl (append_strM _ Hown.out hbase Hlen.out) ?_; intro v1 w1 hown1 hb1))
  go_ret
  exact ⟨v1, rfl, hown1, hb1⟩
set_option maxHeartbeats 4000000 in
set_option maxRecDepth 100000 in
theorem appendBig (base : Nat) (v : Value) (l : List UInt8) (u : Nat) (w : World) (hu : 100 ≤ u) (hu64 : u < 18446744073709551616) (hE : Env w) (hl : l.length ≤ 1000) (hbase : base ≤ w.heap.size) (hown : OwnM w base v l) :
    Calls Tryd.prog 39 #[v, .int .u64 (u : Int), .int .i64 10] w fun e w' => ∃ v', e = .returned v' ∧ OwnM w' base v' (l ++ decDigits u) ∧ Below base w w' := by
  have hnd : nDigits u ≤ 20 := nDigits_le20 u hu64
  have hdl : (decDigits u).length = nDigits u := decDigits_length u
  have hal : Tryd.prog.arrayLen 84 = 24 := by kernel_rfl
  have hel : Tryd.prog.elem 84 = 5 := by kernel_rfl
  obtain ⟨N, hN⟩ : ∃ N, Hid (N = nDigits u) := ⟨_, rfl⟩
  have hsl : ∀ W, (Instr.sliceAt 84 (.pointer (some ⟨w.heap.size, 0, none⟩)) none (some (.int .i64 (N : Int))) none).run Tryd.prog W = .ok (.slice (some ⟨w.heap.size, 0, none⟩) N 24) W := fun W => by
    have hN' := hN.out
    rw [run_sliceAt_array_h W 84 ⟨w.heap.size, 0, none⟩ (by simp [Program.arrayLen, Program.elem, Tryd.underlying84]) .i64 (N : Int) (by omega) (by rw [hal]; omega)]
    go_simp
  have hH0 := Lib.holds_zero0 w 84 N (by have := hN.out; omega)
  have hfmt := Tryd.internal_strconv_formatBase10 w.heap.size 0 24 u (Array.replicate N 0) (w.alloc (.cells Lib.zeros24 84)) hH0 (by rw [Array.size_replicate, hN.out]; exact Lib.lt_pow_nDigits u) hu64 (by rw [Array.size_replicate]; have := hN.out; omega)
  rw [Array.size_replicate] at hfmt
  have hnum : ∀ w', Env w' → Calls Tryd.prog 47 #[.int .u64 (u : Int)] w' fun e w2 => e = .returned (.int .i64 (N : Int)) ∧ w2 = w' := by
    intro w' hE'
    rw [hN.out]
    exact Tryd.internal_strconv_numDigits u (by omega) hu64 w' hE'.here.pow
  have Hnum := Lib.hid hnum
  have Hfmt := Lib.hid hfmt
  have HH0 := Lib.hid hH0
  have Hown := Lib.hid hown
  have HE1 : Hid (Env (w.alloc (.cells Lib.zeros24 84))) := hE.on (below_new _ _)
  have Hlen := Lib.hid (show l.length + (decDigits u).length ≤ 2000 by omega)
  have HdN : Hid ((decDigits u).length = N) := by rw [hN.out]; exact hdl
  have iu : (100 : Int) ≤ (u : Int) := by omega
  clear hnum hfmt hH0 hown hE hl hnd hdl hal hel hu hu64
  go_enter Tryd.func39, Tryd.ntmps39
  go_upto_region 6 with (go_at_call 47; refine (Hnum.out _ HE1.out).mono ?_; rintro e w' ⟨rfl, rfl⟩)
  go_upto_region 7 with (go_at_call 48; refine Hfmt.out.mono ?_; rintro e w' ⟨rfl, k, v', dk, rfl, hF⟩)
  have hcells : ∀ j u', (bs (decDigits u))[j]? = some u' → ((putRow (fun (b : UInt8) => Value.int .u8 (b.toNat : Int)) (w.alloc (.cells Lib.zeros24 84)) w.heap.size 0 dk).drewN k).cell? ((⟨w.heap.size, 0, none⟩ : Addr).add j) = some u' := by
    intro j u' hj
    have hjl : j < (decDigits u).length := by
      have h5 := (List.getElem?_eq_some_iff.1 hj).1
      rwa [bs_len] at h5
    have e5 : (bs (decDigits u))[j]? = some (Value.int .u8 ((decDigits u)[j].toNat : Int)) := by simp [bs, hjl]
    rw [e5] at hj
    cases hj
    have hF' := hF
    rw [hN.out] at hF'
    rw [Lib.row_is_numeral hF' j hjl, Lib.add_plain, World.cell?_drewN]
    exact cell?_putRow (fun (b : UInt8) => Value.int .u8 (b.toNat : Int)) _ w.heap.size 0 _ dk HH0.out (by rw [hF.size, Array.size_replicate]) j (by rw [hF.size, ← HdN.out]; exact hjl)
  obtain ⟨os, eo⟩ := Lib.fin_at w (.cells Lib.zeros24 84) dk k 0
  have hnx2 : Below w.heap.size w ((putRow (fun (b : UInt8) => Value.int .u8 (b.toNat : Int)) (w.alloc (.cells Lib.zeros24 84)) w.heap.size 0 dk).drewN k) := by rw [eo]; exact Lib.below_grow _ w (Nat.le_refl _) k os
  generalize (putRow (fun (b : UInt8) => Value.int .u8 (b.toNat : Int)) (w.alloc (.cells Lib.zeros24 84)) w.heap.size 0 dk).drewN k = W2 at hcells hnx2 ⊢
  have Hcells := Lib.hid hcells
  have Hnx2 := Lib.hid hnx2
  have Hown2 : Hid (OwnM W2 base v l) := Hown.out.below hnx2
  clear eo HH0 Hfmt hF hcells hnx2 Hnum HE1 Hown
  have hap : ∃ v' w', (Builtin.append_ #[60, 60] 60 #[v, .slice (some ⟨w.heap.size, 0, none⟩) N 24]).run Tryd.prog W2 = .ok v' w' ∧ OwnM w' base v' (l ++ decDigits u) ∧ Below base W2 w' := by
    have := append_rowM 60 (c := 24) Hown2.out (Nat.le_trans hbase Hnx2.out.size) Hlen.out Hcells.out
    rw [HdN.out] at this
    exact this
  have Hap := Lib.hid hap
  clear hap
  go_wp2_with (at_builtin; refine wpList_appendM (.tmp 24) (.tmp 26) rfl rfl rfl rfl Hap.out ?_; intro v1 w1 hown1 hb1)
  go_ret
  exact ⟨v1, rfl, hown1, (Hnx2.out.mono hbase).trans hb1⟩
theorem appendUint_any (base : Nat) (v : Value) (l : List UInt8) (u : Nat) (w : World) (hu : u < 18446744073709551616) (hE : Env w) (hl : l.length ≤ 1000) (hbase : base ≤ w.heap.size) (hown : OwnM w base v l) :
    Calls Tryd.prog 28 #[v, .int .u64 (u : Int), .int .i64 10] w fun e w' => ∃ v', e = .returned v' ∧ OwnM w' base v' (l ++ decDigits u) ∧ Below base w w' := by
  have hcon : Calls Tryd.prog 39 #[v, .int .u64 (u : Int), .int .i64 10] w fun e w' => ∃ v', e = .returned v' ∧ OwnM w' base v' (l ++ decDigits u) ∧ Below base w w' := by
    by_cases h : u < 100
    · exact appendSmall base v l u w h hl hbase hown
    · exact appendBig base v l u w (by omega) hu hE hl hbase hown
  have Hcon := Lib.hid hcon
  clear hcon hE hown hu
  go_enter Tryd.func28, Tryd.ntmps28
  go_wp2_with (go_at_call 39; refine Hcon.out.mono ?_; rintro e w' ⟨v', rfl, hown', hb⟩)
  go_ret
  exact ⟨v', rfl, hown', hb⟩
end Go.Proofs.YtipmpebckfaknaaDoor
