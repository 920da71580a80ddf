/- The library's contracts that the walks use, laid at this program: slices.SortFunc, stringslite.Clone. Conditions: none. The walks of Clone of a string, of adding, removing and what they make, of List's comparison. Conditions: names of at most 1000 bytes. The walks of New, Sync, Pending, Get. -/
import Derived.Shelf.SlSortCmp.NoneTotal
import Derived.Shelf.Pu.Clone
import Derived.Test.YtbhmnmmockmibaaGreatProg
import Derived.Test.YtbhmnmmockmibaaGreatKpFdA
import Derived.Shelf.SlMaps.Clone
namespace Go.Proofs
open Go.Shelf
def Tryz.laysStr_ren : Go.Shelf.Ren := ⟨fun | 25 => 162 | n => n, fun | 9 => 9 | 3 => 3 | 4 => 4 | 37 => 38 | 0 => 0 | 47 => 233 | 5 => 5 | n => n, fun | n => n⟩
theorem Tryz.laysStr : Go.Proofs.LaysPu.n25 Tryz.prog Tryz.laysStr_ren := {
  mixed := by kernel_rfl
  f25 := Tryz.func162.trans (congrArg some (by kernel_rfl))
  t0 := Tryz.underlying0
  a0 := Tryz.isAgg0
  z0 := Tryz.sizeOf0
  v0 := Tryz.zeroValue0
  i0 := by kernel_rfl
  t3 := Tryz.underlying3
  a3 := Tryz.isAgg3
  z3 := Tryz.sizeOf3
  v3 := Tryz.zeroValue3
  i3 := by kernel_rfl
  t4 := Tryz.underlying4
  a4 := Tryz.isAgg4
  z4 := Tryz.sizeOf4
  v4 := Tryz.zeroValue4
  i4 := by kernel_rfl
  t5 := Tryz.underlying5
  a5 := Tryz.isAgg5
  z5 := Tryz.sizeOf5
  v5 := Tryz.zeroValue5
  i5 := by kernel_rfl
  t9 := Tryz.underlying9
  a9 := Tryz.isAgg9
  z9 := Tryz.sizeOf9
  v9 := Tryz.zeroValue9
  i9 := by kernel_rfl
  t37 := Tryz.underlying38
  a37 := Tryz.isAgg38
  z37 := Tryz.sizeOf38
  v37 := Tryz.zeroValue38
  i37 := by kernel_rfl
  t47 := Tryz.underlying233
  a47 := Tryz.isAgg233
  z47 := Tryz.sizeOf233
  v47 := Tryz.zeroValue233
  i47 := by kernel_rfl }
def Tryz.laysSortF_ren : Go.Shelf.Ren := ⟨fun | 6 => 88 | 15 => 112 | 14 => 111 | 28 => 134 | 29 => 135 | 20 => 126 | 21 => 127 | 22 => 128 | 23 => 129 | 24 => 130 | 25 => 131 | 26 => 132 | 27 => 133 | 46 => 140 | 47 => 141 | 48 => 142 | 49 => 143 | 50 => 144 | 57 => 157 | n => n, fun | 22 => 118 | 24 => 120 | 25 => 162 | 3 => 3 | 39 => 192 | 0 => 0 | 53 => 209 | 55 => 211 | 4 => 4 | 46 => 203 | 45 => 202 | 50 => 102 | 5 => 5 | 9 => 9 | 66 => 214 | 70 => 218 | 76 => 227 | 77 => 228 | n => n, fun | n => n⟩
theorem Tryz.laysSortF : Go.Proofs.SlLaysF0.n6 Tryz.prog Tryz.laysSortF_ren := {
  mixed := by kernel_rfl
  f6 := ⟨Tryz.f88.name, by decide, Tryz.func88.trans (congrArg some (by kernel_rfl))⟩
  f14 := ⟨Tryz.f111.name, by decide, Tryz.func111.trans (congrArg some (by kernel_rfl))⟩
  f15 := Tryz.func112.trans (congrArg some (by kernel_rfl))
  f20 := ⟨Tryz.f126.name, by decide, Tryz.func126.trans (congrArg some (by kernel_rfl))⟩
  f21 := ⟨Tryz.f127.name, by decide, Tryz.func127.trans (congrArg some (by kernel_rfl))⟩
  f22 := ⟨Tryz.f128.name, by decide, Tryz.func128.trans (congrArg some (by kernel_rfl))⟩
  f23 := ⟨Tryz.f129.name, by decide, Tryz.func129.trans (congrArg some (by kernel_rfl))⟩
  f24 := ⟨Tryz.f130.name, by decide, Tryz.func130.trans (congrArg some (by kernel_rfl))⟩
  f25 := ⟨Tryz.f131.name, by decide, Tryz.func131.trans (congrArg some (by kernel_rfl))⟩
  f26 := ⟨Tryz.f132.name, by decide, Tryz.func132.trans (congrArg some (by kernel_rfl))⟩
  f27 := ⟨Tryz.f133.name, by decide, Tryz.func133.trans (congrArg some (by kernel_rfl))⟩
  f28 := Tryz.func134.trans (congrArg some (by kernel_rfl))
  f29 := Tryz.func135.trans (congrArg some (by kernel_rfl))
  f46 := ⟨Tryz.f140.name, by decide, Tryz.func140.trans (congrArg some (by kernel_rfl))⟩
  f47 := Tryz.func141.trans (congrArg some (by kernel_rfl))
  f48 := Tryz.func142.trans (congrArg some (by kernel_rfl))
  f49 := ⟨Tryz.f143.name, by decide, Tryz.func143.trans (congrArg some (by kernel_rfl))⟩
  f50 := ⟨Tryz.f144.name, by decide, Tryz.func144.trans (congrArg some (by kernel_rfl))⟩
  f57 := ⟨Tryz.f157.name, by decide, Tryz.func157.trans (congrArg some (by kernel_rfl))⟩
  t0 := Tryz.underlying0
  a0 := Tryz.isAgg0
  z0 := Tryz.sizeOf0
  v0 := Tryz.zeroValue0
  t3 := Tryz.underlying3
  a3 := Tryz.isAgg3
  z3 := Tryz.sizeOf3
  v3 := Tryz.zeroValue3
  t4 := Tryz.underlying4
  a4 := Tryz.isAgg4
  z4 := Tryz.sizeOf4
  v4 := Tryz.zeroValue4
  t5 := Tryz.underlying5
  a5 := Tryz.isAgg5
  z5 := Tryz.sizeOf5
  v5 := Tryz.zeroValue5
  t9 := Tryz.underlying9
  a9 := Tryz.isAgg9
  z9 := Tryz.sizeOf9
  v9 := Tryz.zeroValue9
  t22 := Tryz.underlying118
  a22 := Tryz.isAgg118
  z22 := Tryz.sizeOf118
  v22 := Tryz.zeroValue118
  t25 := Tryz.underlying162
  a25 := Tryz.isAgg162
  z25 := Tryz.sizeOf162
  v25 := Tryz.zeroValue162
  t39 := Tryz.underlying192
  a39 := Tryz.isAgg192
  z39 := Tryz.sizeOf192
  v39 := Tryz.zeroValue192
  t45 := Tryz.underlying202
  a45 := Tryz.isAgg202
  z45 := Tryz.sizeOf202
  v45 := Tryz.zeroValue202
  t46 := Tryz.underlying203
  a46 := Tryz.isAgg203
  z46 := Tryz.sizeOf203
  v46 := Tryz.zeroValue203
  t50 := Tryz.underlying102
  a50 := Tryz.isAgg102
  z50 := Tryz.sizeOf102
  v50 := Tryz.zeroValue102
  t53 := Tryz.underlying209
  a53 := Tryz.isAgg209
  z53 := Tryz.sizeOf209
  v53 := Tryz.zeroValue209
  t55 := Tryz.underlying211
  a55 := Tryz.isAgg211
  z55 := Tryz.sizeOf211
  v55 := Tryz.zeroValue211
  t66 := Tryz.underlying214
  a66 := Tryz.isAgg214
  z66 := Tryz.sizeOf214
  v66 := Tryz.zeroValue214
  t70 := Tryz.underlying218
  a70 := Tryz.isAgg218
  z70 := Tryz.sizeOf218
  v70 := Tryz.zeroValue218
  t76 := Tryz.underlying227
  a76 := Tryz.isAgg227
  z76 := Tryz.sizeOf227
  v76 := Tryz.zeroValue227
  t77 := Tryz.underlying228
  a77 := Tryz.isAgg228
  z77 := Tryz.sizeOf228
  v77 := Tryz.zeroValue228 }
end Go.Proofs

namespace Go.Proofs.YtbhmnmmockmibaaGreat
open Go.RowKit Go.Maps
theorem law : Keyed Tryz.prog 9 := string_keyed Tryz.underlying9
theorem key_of {k : List UInt8} (h : k.length ≤ 140737488351232) : keyOf Tryz.prog 9 (.string (txt k)) = some (.string k) := by
  have := Go.WideMaps.keyOf_string_mk (P := Tryz.prog) (k := 9) Tryz.underlying9 (s := txt k) (by rw [txt_size]; unfold maxLen; omega)
  rw [this]
  rfl
theorem hmakeFuncD (fn : Fn) (first cap : Array Value) (w : World) : (Instr.makeFunc fn first cap).run Tryz.prog w = .ok (.func fn first cap) w := rfl
def TwoTy (ty : TypeId) : Prop := ∀ (w : World) (g : Nat) (t : TypeId) (x y : Value) (fr : Nat × Nat), w.heap[g]? = some (.cells #[x, y] t fr) → (loadVar ty ⟨g, 0, none⟩).run Tryz.prog w = .ok (.agg #[x, y]) w
theorem size_op : (Tryz.prog.info? 171).map (·.size) = some 2 := by kernel_rfl
theorem size_rdir : (Tryz.prog.info? 30).map (·.size) = some 2 := by kernel_rfl
theorem twoOp : TwoTy 171 := fun w g t x y fr hg => run_loadVar_row w g t _ #[x, y] fr _ hg Tryz.underlying171 rfl size_op
theorem twoDir : TwoTy 30 := fun w g t x y fr hg => run_loadVar_row w g t _ #[x, y] fr _ hg Tryz.underlying30 rfl size_rdir
theorem below_setRow {B : Nat} {a w : World} (h : Below B a w) {g : Nat} (hg : B ≤ g) (cs : Array Value) : Below B a (w.setRow g cs) :=
  ⟨h.os, h.tape, h.output, by rw [size_setRow]; exact h.size, fun k hk => (setRow_other w g k _ (by omega)).trans (h.block k hk)⟩
theorem two_one {x y : Value} (hx : x.oneCell' = true) (hy : y.oneCell' = true) : #[x, y].all (·.oneCell') = true := by simp [hx, hy]
theorem ret_two1 {fn : Func} {R : Ending → World → Prop} {p : Tmp} {ty : TypeId} (h : fn.results = #[.cell p ty]) (hty : TwoTy ty) {a : Act} {w : World} (g : Nat) (x y : Value) (t : TypeId) (fr : Nat × Nat)
    (hp : a.tmps.getD p undef = .pointer (some ⟨g, 0, none⟩)) (hg : w.heap[g]? = some (.cells #[x, y] t fr)) (hd : a.defers = []) (hR : R (.returned (.agg #[x, y])) w) : bodyPost Tryz.prog fn R .ret a w := by
  refine bodyPost_ret (v := .agg #[x, y]) ?_ hd hR
  have hp' : a.tmps[p]?.getD undef = .pointer (some ⟨g, 0, none⟩) := by simpa using hp
  simp [results, h, hp', asAddr, hty w g t x y fr hg]
theorem ret_two2 {fn : Func} {R : Ending → World → Prop} {p u : Tmp} {ty : TypeId} (h : fn.results = #[.cell p ty, .tmp u]) (hty : TwoTy ty) {a : Act} {w : World} (g : Nat) (x y : Value) (t : TypeId) (fr : Nat × Nat)
    (hp : a.tmps.getD p undef = .pointer (some ⟨g, 0, none⟩)) (hg : w.heap[g]? = some (.cells #[x, y] t fr)) (hd : a.defers = []) (hR : R (.returned (.tuple #[.agg #[x, y], a.tmps.getD u undef])) w) : bodyPost Tryz.prog fn R .ret a w := by
  refine bodyPost_ret (v := .tuple #[.agg #[x, y], a.tmps.getD u undef]) ?_ hd hR
  have hp' : a.tmps[p]?.getD undef = .pointer (some ⟨g, 0, none⟩) := by simpa using hp
  simp [results, h, hp', asAddr, hty w g t x y fr hg]
theorem ret_two3 {fn : Func} {R : Ending → World → Prop} {p u z : Tmp} {ty : TypeId} (h : fn.results = #[.cell p ty, .tmp u, .tmp z]) (hty : TwoTy ty) {a : Act} {w : World} (g : Nat) (x y : Value) (t : TypeId) (fr : Nat × Nat)
    (hp : a.tmps.getD p undef = .pointer (some ⟨g, 0, none⟩)) (hg : w.heap[g]? = some (.cells #[x, y] t fr)) (hd : a.defers = []) (hR : R (.returned (.tuple #[.agg #[x, y], a.tmps.getD u undef, a.tmps.getD z undef])) w) : bodyPost Tryz.prog fn R .ret a w := by
  refine bodyPost_ret (v := .tuple #[.agg #[x, y], a.tmps.getD u undef, a.tmps.getD z undef]) ?_ hd hR
  have hp' : a.tmps[p]?.getD undef = .pointer (some ⟨g, 0, none⟩) := by simpa using hp
  simp [results, h, hp', asAddr, hty w g t x y fr hg]
set_option maxHeartbeats 1000000 in
theorem sclone_any (k : List UInt8) (w : World) (hk : k.length ≤ 140737488351232) : Calls Tryz.prog 154 #[.string (txt k)] w fun e w' => e = .returned (.string (txt k)) ∧ Below w.heap.size w w' := by
  have hc := AnyPu.stringslite_Clone Tryz.laysStr (txt k) w (by rw [txt_size]; omega)
  have Hc := Lib.hid hc
  clear hc
  go_enter Tryz.func154, Tryz.ntmps154
  go_wp2_with (go_at_call 162; refine Hc.out.mono ?_; rintro e w1 ⟨rfl, hb⟩)
  go_ret
  exact ⟨rfl, hb⟩
set_option maxHeartbeats 1000000 in
set_option maxRecDepth 100000 in
theorem adding_any (k : List UInt8) (v : Int) (w : World) (hk : k.length ≤ 1000) :
    Calls Tryz.prog 139 #[.string (txt k), .int .i64 v] w fun e w' => ∃ p : Pn, p.o = ⟨true, k, v⟩ ∧ e = .returned p.v ∧ PnAt w' (fun b => b < w.heap.size) p ∧ Below w.heap.size w w' := by
  obtain ⟨W, hW⟩ : ∃ W, Hid ((w.alloc (.cells #[.int .i64 v] 3)).alloc (.cells #[.nilFunc, .nilFunc] 171) = W) := ⟨_, rfl⟩
  have hi : Hid (W.heap[w.heap.size]? = some (.cells #[.int .i64 v] 3 (0, 0))) := by
    rw [← hW.out]; show _ = _
    rw [heap_alloc_old _ _ (by simp)]
    exact heap_alloc_new _ _
  have hr : Hid (W.heap[w.heap.size + 1]? = some (.cells #[.nilFunc, .nilFunc] 171 (0, 0))) := by
    rw [← hW.out]; show _ = _
    have := heap_alloc_new (w.alloc (.cells #[.int .i64 v] 3)) (.cells #[.nilFunc, .nilFunc] 171)
    simpa using this
  have hb0 : Hid (Below w.heap.size w W) := by rw [← hW.out]; exact (below_new _ _).alloc (by simp) _
  have hsW : Hid (W.heap.size = w.heap.size + 2) := by rw [← hW.out]; show _ = _; simp
  have Hc := Lib.hid (sclone_any k W (by omega))
  clear hk
  go_enter Tryz.func139, Tryz.ntmps139
  go_upto_region 1 with fail
  rw [hW.out]
  have hmf := hmakeFuncD
  go_upto_region 2 with (go_at_call 154; refine Hc.out.mono ?_; rintro e w1 ⟨rfl, hb⟩; have Hb := Lib.hid hb; clear hb)
  obtain ⟨B, hB⟩ : ∃ B, Hid (w1.heap.size = B) := ⟨_, rfl⟩
  obtain ⟨W2, hW2⟩ : ∃ W2, Hid (w1.alloc (.cells #[.string (txt k)] 9) = W2) := ⟨_, rfl⟩
  have hb2 : Hid (Below W.heap.size W W2) := by rw [← hW2.out]; exact Hb.out.alloc Hb.out.size _
  have hs2 : Hid (W2.heap[B]? = some (.cells #[.string (txt k)] 9 (0, 0))) := by rw [← hW2.out, ← hB.out]; exact heap_alloc_new _ _
  have hBl : Hid (w.heap.size + 2 ≤ B) := by rw [← hB.out, ← hsW.out]; exact Hb.out.size
  have hg' := (hb2.out.block (w.heap.size + 1) (by rw [hsW.out]; omega)).trans hr.out
  rw [hW2.out, hB.out]
  go_wp2_with (refine wpList_store_row rfl 171 (.tmp 4) (.tmp 10) rfl (w.heap.size + 1) _ rfl rfl _ _ hg' size_op rfl (two_one rfl rfl) ?_)
  refine ret_two1 rfl twoOp (w.heap.size + 1) _ _ _ (0, 0) rfl (setRow_heap _ _ _ _ _ _ hg') rfl ?_
  have ht := Touch.row1 W2 (w.heap.size + 1) #[(Pn.mk ⟨true, k, v⟩ w.heap.size B).fa, (Pn.mk ⟨true, k, v⟩ w.heap.size B).fd]
  refine ⟨⟨⟨true, k, v⟩, w.heap.size, B⟩, rfl, rfl, ⟨ht.heap (show ¬ B = w.heap.size + 1 by have := hBl.out; omega) hs2.out, ht.heap (show ¬ w.heap.size = w.heap.size + 1 by omega) ((hb2.out.block w.heap.size (by rw [hsW.out]; omega)).trans hi.out), (show ¬ B < w.heap.size by have := hBl.out; omega), Nat.lt_irrefl _⟩, ?_⟩
  exact (hb0.out.trans (hb2.out.mono hb0.out.size)).trans (ht.below (Nat.le_trans hb0.out.size hb2.out.size) fun b e => by rw [e]; omega)
set_option maxHeartbeats 1000000 in
set_option maxRecDepth 100000 in
theorem removing_any (k : List UInt8) (v : Int) (w : World) (hk : k.length ≤ 1000) :
    Calls Tryz.prog 125 #[.string (txt k), .int .i64 v] w fun e w' => ∃ p : Pn, p.o = ⟨false, k, v⟩ ∧ e = .returned p.v ∧ PnAt w' (fun b => b < w.heap.size) p ∧ Below w.heap.size w w' := by
  obtain ⟨W, hW⟩ : ∃ W, Hid (w.alloc (.cells #[.nilFunc, .nilFunc] 171) = W) := ⟨_, rfl⟩
  have hr : Hid (W.heap[w.heap.size]? = some (.cells #[.nilFunc, .nilFunc] 171 (0, 0))) := by
    rw [← hW.out]; exact heap_alloc_new _ _
  have hb0 : Hid (Below w.heap.size w W) := by rw [← hW.out]; exact below_new _ _
  have hsW : Hid (W.heap.size = w.heap.size + 1) := by rw [← hW.out]; show _ = _; simp
  have Hc := Lib.hid (adding_any k v W hk)
  clear hk
  go_enter Tryz.func125, Tryz.ntmps125
  go_upto_region 1 with fail
  rw [hW.out]
  go_upto_region 2 with (first
   | (refine wpList_store_row rfl 171 (.tmp 5) (.tmp 8) rfl w1.heap.size _ rfl rfl _ _ (heap_alloc_new _ _) size_op rfl (two_one rfl rfl) ?_)
   | (go_at_call 139
      refine Hc.out.mono ?_
      rintro e w1 ⟨p, hp, rfl, hat, hb⟩
      have Hb := Lib.hid hb
      have Hat := Lib.hid hat
      have Hp := Lib.hid hp
      have ev : p.v = .agg #[.func (.func 155) #[] #[.pointer (some ⟨p.bi, 0, none⟩), .pointer (some ⟨p.bo, 0, none⟩)], .func (.func 156) #[] #[.pointer (some ⟨p.bo, 0, none⟩)]] := by unfold Pn.v; rw [hp]; rfl
      rw [ev]
      clear hb hat hp ev))
  obtain ⟨B, hB⟩ : ∃ B, Hid (w1.heap.size = B) := ⟨_, rfl⟩
  obtain ⟨W2, hW2⟩ : ∃ W2, Hid ((w1.alloc (.cells #[.nilFunc, .nilFunc] 171)).setRow B #[p.fa, p.fd] = W2) := ⟨_, rfl⟩
  have hb2 : Hid (Below W.heap.size W W2) := by
    rw [← hW2.out]
    exact below_setRow (Hb.out.alloc Hb.out.size _) (by rw [← hB.out]; exact Hb.out.size) _
  have hs2 : Hid (W2.heap[B]? = some (.cells #[p.fa, p.fd] 171 (0, 0))) := by rw [← hW2.out, ← hB.out]; exact setRow_heap _ _ _ _ _ _ (heap_alloc_new _ _)
  have hBl : Hid (w.heap.size + 1 ≤ B) := by rw [← hB.out, ← hsW.out]; exact Hb.out.size
  have hg' := (hb2.out.block w.heap.size (by rw [hsW.out]; omega)).trans hr.out
  have hat2 : Hid (PnAt W2 (fun b => b < W.heap.size) p) := by
    rw [← hW2.out]
    refine PnAt.keep (w := w1) ?_ ?_
    · exact Hat.out
    · have h1 : Touch (fun b => b < W.heap.size) w1 (w1.alloc (.cells #[.nilFunc, .nilFunc] 171)) := .of (below_new _ _)
      exact h1.setRow (Or.inl (by rw [← hB.out]; exact Nat.le_refl _)) _
  rw [hB.out, show (w1.alloc (.cells #[.nilFunc, .nilFunc] 171)).setRow B #[.func (.func 155) #[] #[.pointer (some ⟨p.bi, 0, none⟩), .pointer (some ⟨p.bo, 0, none⟩)], .func (.func 156) #[] #[.pointer (some ⟨p.bo, 0, none⟩)]] = W2 from hW2.out]
  obtain ⟨hc0, hc1⟩ := two_cells hs2.out
  unfold Pn.fa at hc0
  unfold Pn.fd at hc1
  go_wp2_with (refine wpList_store_row rfl 171 (.tmp 4) (.tmp 13) rfl w.heap.size _ rfl rfl _ _ hg' size_op rfl (two_one rfl rfl) ?_)
  refine ret_two1 rfl twoOp w.heap.size _ _ _ (0, 0) rfl (setRow_heap _ _ _ _ _ _ hg') rfl ?_
  have ht := Touch.row1 W2 w.heap.size #[p.fd, p.fa]
  have ha := hat2.out
  refine ⟨⟨⟨false, k, v⟩, p.bi, p.bo⟩, rfl, ?_, ?_, ?_⟩
  · rfl
  · have e1 : p.o.k = k := by rw [Hp.out]
    have e2 : p.o.v = v := by rw [Hp.out]
    refine ⟨?_, ?_, fun h => ha.xo (by rw [hsW.out]; exact Nat.lt_succ_of_lt h), fun h => ha.xi (by rw [hsW.out]; exact Nat.lt_succ_of_lt h)⟩
    · have := ht.heap (fun e => ha.xo (by rw [e, hsW.out]; exact Nat.lt_succ_self _)) ha.name
      rw [e1] at this
      exact this
    · have := ht.heap (fun e => ha.xi (by rw [e, hsW.out]; exact Nat.lt_succ_self _)) ha.num
      rw [e2] at this
      exact this
  · exact (hb0.out.trans (hb2.out.mono hb0.out.size)).trans (ht.below (Nat.le_trans hb0.out.size hb2.out.size) fun b e => by rw [e]; exact Nat.le_refl _)
set_option maxHeartbeats 1000000 in
theorem fa_any {b n bi bo : Nat} {m : List EnD} {k : List UInt8} {v : Int} {w : World} (h : w.ownsMap (H := Unit) Tryz.prog 9 (plainElem Tryz.prog 3) b n (mapD m)) (hn : n ≤ 1000000) (hs : SzD (k, v))
    (ho : w.heap[bo]? = some (.cells #[.string (txt k)] 9 (0, 0))) (hi : w.heap[bi]? = some (.cells #[.int .i64 v] 3 (0, 0))) :
    Calls Tryz.prog 155 #[.map (some b), .pointer (some ⟨bi, 0, none⟩), .pointer (some ⟨bo, 0, none⟩)] w fun e w' => e = .returned (.tuple #[]) ∧ w'.ownsMap (H := Unit) Tryz.prog 9 (plainElem Tryz.prog 3) b (putE m (k, v)).length (mapD (putE m (k, v))) ∧ Touch (fun x => x = b) w w' := by
  have co := box_cell ho
  have ci := box_cell hi
  have H := Lib.hid h
  have Hs := Lib.hid hs
  have Hn := Lib.hid hn
  clear h hs hn ho hi
  go_enter Tryz.func155, Tryz.ntmps155
  go_wp2_with (at_mapUpdate; refine wpList_mapUpdate_own _ rfl _ _ _ 72 rfl 9 3 law Tryz.underlying72 _ b n _ rfl H.out (by have := Hn.out; simp only [maxLen]; omega) _ _ (.string k) rfl rfl (key_of (by have := Hs.out.k; simp only at this; omega)) _ [] (plainElem_int Tryz.underlying3 Hs.out.wf) ?_; intro w1 hown1 hg1)
  go_end0
  rw [mapD_put m (k, v)] at hown1
  exact ⟨rfl, owns_names hown1, Touch.grown hg1 fun x e => by injection e with e; exact e.symm⟩
set_option maxHeartbeats 1000000 in
theorem fd_any {b n bo : Nat} {m : List EnD} {k : List UInt8} {w : World} (h : w.ownsMap (H := Unit) Tryz.prog 9 (plainElem Tryz.prog 3) b n (mapD m)) (hk : k.length ≤ 1000)
    (ho : w.heap[bo]? = some (.cells #[.string (txt k)] 9 (0, 0))) :
    Calls Tryz.prog 156 #[.map (some b), .pointer (some ⟨bo, 0, none⟩)] w fun e w' => e = .returned (.tuple #[]) ∧ w'.ownsMap (H := Unit) Tryz.prog 9 (plainElem Tryz.prog 3) b (delE m k).length (mapD (delE m k)) ∧ Touch (fun x => x = b) w w' := by
  have co := box_cell ho
  have H := Lib.hid h
  have Hk := Lib.hid hk
  clear h hk ho
  go_enter Tryz.func156, Tryz.ntmps156
  go_wp2_with (at_delete; refine wpList_delete_own _ rfl _ _ 72 9 rfl 3 law Tryz.underlying72 _ b n _ rfl H.out _ (.string k) rfl (key_of (by have := Hk.out; omega)) ?_; intro w1 hown1 hturn1)
  go_end0
  rw [mapD_del m k] at hown1
  exact ⟨rfl, owns_names hown1, Touch.grown hturn1.grown fun x e => by injection e with e; exact e.symm⟩
end Go.Proofs.YtbhmnmmockmibaaGreat

namespace Go.Proofs.YtbhmnmmockmibaaGreat
open Go.RowKit Go.Maps
section
variable {w : World} {c : Nat → Nat} {i g : Nat} {zz : Rs} {s : St}
set_option maxHeartbeats 1000000 in
theorem sync_anyD (h : DirAt w c i g zz s) : Calls Tryz.prog 109 #[.pointer (some ⟨g, 0, none⟩)] w fun e w' => e = .returned (.tuple #[]) ∧ Touch (Ow c i) w w' ∧ DirAt w' c i g zz s.sync := by
  obtain ⟨hcol, hne, mv, pv, hg, hm, hp⟩ := h
  have hc := (d_cells hg).2
  have hf := d_frozen (i := 1) hg
  have Hg := Lib.hid hg
  have Hm := Lib.hid hm
  have Hcol := Lib.hid hcol
  clear hg hm hp hcol hne
  go_enter Tryz.func109, Tryz.ntmps109
  go_wp2
  go_end0
  have ht := Touch.cell1 w g 1 (.slice none 0 0)
  have ht2 : Touch (Ow c i) w (w.setCell ⟨g, 1, none⟩ (.slice none 0 0)) := ht.mono fun b _ e => by show c b = i; rw [e]; exact Hcol.out
  refine ⟨rfl, ht2, Hcol.out, fun _ _ => rfl, mv, .slice none 0 0, d_set1 _ Hg.out, ?_, [], rfl, World.ownsRow_nil _ _ _ _, fun r h => (by cases h), fun p h => (by simp at h)⟩
  rcases Hm.out with h | ⟨b, hv, hb, ho⟩
  · exact .inl h
  · refine .inr ⟨b, hv, hb, owns_touchD ho ht fun e => ?_⟩
    obtain ⟨es, clock, hh, _⟩ := ho
    rw [e, Hg.out] at hh
    cases hh
set_option maxHeartbeats 1000000 in
theorem pending_anyD (h : DirAt w c i g zz s) : Calls Tryz.prog 57 #[.pointer (some ⟨g, 0, none⟩)] w fun e w' => e = .returned (.int .i64 (s.ops.length : Int)) ∧ w' = w := by
  obtain ⟨hcol, hne, mv, pv, hg, hm, ps, hps, ho, hr, hp⟩ := h
  obtain ⟨A, n, rfl, _, _, _⟩ := own_form ho
  have hc := (d_cells hg).2
  have hl : ps.length = s.ops.length := by rw [← hps, List.length_map]
  rw [hl] at hc
  clear hg hm hp hcol hne hps ho hr hl
  go_enter Tryz.func57, Tryz.ntmps57
  go_wp2
  go_ret
  exact ⟨rfl, rfl⟩
set_option maxHeartbeats 1000000 in
theorem get_anyD (h : DirAt w c i g zz s) (k : List UInt8) (hk : k.length ≤ 1000) :
    Calls Tryz.prog 106 #[.pointer (some ⟨g, 0, none⟩), .string (txt k)] w fun e w' => e = .returned (.tuple #[.int .i64 ((getE s.now k).getD 0), .bool (hasE s.now k)]) ∧ w' = w := by
  obtain ⟨hcol, hne, mv, pv, hg, hm, hp⟩ := h
  have hc := (d_cells hg).1
  clear hg hp hcol hne
  rcases hm with ⟨rfl, hm⟩ | ⟨b, rfl, hb, ho⟩
  · have hl := Maps.look_nil (w := w) true law Tryz.underlying72 (Tryz.zeroValue3 w) (key_of (k := k) (by omega))
    simp only [if_true] at hl
    rw [hm]
    clear hm hk
    go_enter Tryz.func106, Tryz.ntmps106
    go_wp2
    go_ret2
    exact ⟨rfl, rfl⟩
  · have Ho := Lib.hid ho
    have Hk := Lib.hid hk
    clear ho hk hb
    go_enter Tryz.func106, Tryz.ntmps106
    go_wp2_with (at_lookup; refine wpList_lookup_own_ok_int _ rfl _ _ 72 rfl 9 3 .i64 law Tryz.underlying72 Tryz.underlying3 (Tryz.zeroValue3 _) b _ _ rfl Ho.out _ (.string k) rfl (key_of (by have := Hk.out; omega)) ?_; intro z hat hwz)
    go_ret2
    rw [mapD_at, mapD_has] at *
    have e : (getE s.now k).getD 0 = z := by injection hat with hat; injection hat
    rw [e]
    exact ⟨rfl, rfl⟩
end
end Go.Proofs.YtbhmnmmockmibaaGreat
