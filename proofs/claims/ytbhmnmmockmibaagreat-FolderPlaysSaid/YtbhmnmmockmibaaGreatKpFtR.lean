/- The walks of numbers and All. Conditions: at most 1000 files. Lists of two numbers each (a file's number, and how many names): as cells, read, and grown. Conditions: none. The walk of All. Conditions: at most 1000 files. slices.Backward over names: the iterator's contract. -/
import Derived.Test.YtbhmnmmockmibaaGreatKpFtF
import Derived.Test.YtbhmnmmockmibaaGreatKpFoShelfT
import Derived.TacticsInMore
import Derived.RangeFuncNested
import Derived.RangeFuncLeaves
import Derived.Shelf.Abstract
import Derived.Shelf.RegionOpen
import Derived.Shelf.AbstractIn
import Derived.OwnWalkIn
import Derived.LoopNIn
import Derived.LoopIn
namespace Go.Proofs.YtbhmnmmockmibaaGreat
open Go.RowKit Go.Maps Go.Sort
theorem own_base {base base' size n : Nat} {w : World} {e : TypeId} {v : Value} {xs : List Value} (h : w.ownsRow base' e size v n xs) (hb : base ≤ base') : w.ownsRow base e size v n xs := by
  refine ⟨h.1, ?_⟩
  rcases h.2 with hn | ⟨g, cap, cur, rfl, hg, rest⟩
  · exact .inl hn
  · exact .inr ⟨g, cap, cur, rfl, Nat.le_trans hb hg, rest⟩
theorem sorts_in (m : Nat) : AnyZI.SortsIn Tryz.prog Tryz.laysSorted_ren Fence.wide m :=
  ⟨fun blk off cap ss W hH hblk hsz => callsIn_wide.2 (AnyM.slices_Sort_int Tryz.laysSort blk off cap ss W hH hblk hsz),
   fun p cap W => callsIn_wide.2 (AnyM.slices_Sort_int_none Tryz.laysSort p cap W)⟩
theorem keys_in (mb : Option Nat) (W : World) : CallsIn Fence.wide 5 Tryz.prog 96 #[.map mb] W fun e w' => e = .returned (.func (.func 118) #[] #[.pointer (some ⟨W.heap.size, 0, none⟩)]) ∧ w' = W.alloc (.cells #[.map mb] 78) := AnyZI.keys_in Tryz.laysKeys Fence.wide 5 trivial rfl mb W
section
variable {w : World} {Z : Nat → Prop} {t N : Nat} {T : Tb}
def numC (fs : List Fi) : List Value := (fs.map Fi.i).map (Value.int .i64)
theorem sorted_nums {fs : List Fi} {ss : List Int} (hs : fs.Pairwise fun a b => a.i < b.i) (h : ss.Perm (fs.map Fi.i)) : (ss.mergeSort fun x y => decide (x ≤ y)) = fs.map Fi.i := by
  rw [show (fun x y : Int => decide (x ≤ y)) = leI from rfl, mergeSort_of_perm_i h]
  refine List.mergeSort_of_pairwise ?_
  rw [List.pairwise_map]
  exact hs.imp fun h => by simp only [leI, decide_eq_true_eq]; omega
set_option maxHeartbeats 2000000 in
set_option maxRecDepth 100000 in
theorem numbers_any (h : TabAt w Z t T) (hok : T.Ok N) (hN : N ≤ 1000) :
    Calls Tryz.prog 61 #[.pointer (some ⟨t, 5, none⟩)] w fun e w' => ∃ v, e = .returned v ∧ w'.ownsRow w.heap.size 3 1 v T.fs.length (numC T.fs) ∧ Below w.heap.size w w' := by
  obtain ⟨c0, c1, c2⟩ := h.cells
  have Hs := Lib.hid hok.sort
  have hlen : T.fs.length ≤ 1000 := Nat.le_trans hok.len hN
  have hfK : Fence.wide.fn 96 := trivial
  have hfS : Fence.wide.fn 95 := trivial
  refine (callsIn_wide (n := 6)).1 ?_
  obtain ⟨mp, hmp⟩ : ∃ mp, T.mp = mp := ⟨_, rfl⟩
  rw [hmp] at c2
  cases mp with
  | none =>
    have hnil : T.fs = [] := h.non hmp
    have hseq : SeqGives Fence.wide 2 Tryz.prog 118 #[.pointer (some ⟨w.heap.size, 0, none⟩)] encZ (fun ss : List Int => ss = []) 0 (w.alloc (.cells #[.map none] 78)) :=
      AnyZI.keys_gives_nil (ρ := Tryz.laysKeys_ren) { Tryz.laysKeys with } Fence.wide _ trivial rfl w.heap.size _ (by simp) (by simp)
    have cS := AnyZI.sorted_in Tryz.laysSorted Fence.wide 5 trivial trivial trivial trivial rfl (by omega) (sorts_in _) (enters_of Tryz.func117 (by kernel_rfl) rfl) 118 #[.pointer (some ⟨w.heap.size, 0, none⟩)] trivial (enters_of Tryz.func118 (by kernel_rfl) rfl) _ 0 (Nat.zero_le _) (by omega) _ hseq
    change CallsIn _ _ Tryz.prog 95 _ _ _ at cS
    have HcS := Lib.hid cS
    have Hnil := Lib.hid hnil
    clear h hok hseq cS hmp hnil
    refine callsIn_of_wp Tryz.func61 rfl trivial ?_ rfl
    simp only [Tryz.ntmps61, List.size_toArray, List.length_cons, List.length_nil, Nat.reduceAdd, Nat.reduceSub, Array.replicate_succ, Array.replicate_zero, List.push_toArray, List.append_toArray, List.nil_append, List.cons_append]
    gi_wp2_with (first
      | (gi_at_call 96; refine (keys_in _ _).mono ?_; rintro e w' ⟨rfl, rfl⟩)
      | (gi_at_call 95; refine HcS.out.mono ?_; rintro e w' ⟨v, ss, rfl, rfl, hrow, hnil, hb⟩; obtain rfl : v = .slice none 0 0 := hnil.2 rfl))
    go_ret
    refine ⟨_, rfl, ?_, (below_new _ _).trans (hb.mono (by simp))⟩
    rw [Hnil.out]
    exact World.ownsRow_nil _ _ _ _
  | some b =>
    have hown := h.map b hmp
    have hbl := hown.lt
    have hsz := datum_size T.fs
    have hseq : SeqGives Fence.wide 2 Tryz.prog 118 #[.pointer (some ⟨w.heap.size, 0, none⟩)] encZ (fun ss => ss.Perm (intKeys (datum T.fs))) (Maps.size (datum T.fs)) (w.alloc (.cells #[.map (some b)] 78)) :=
      AnyZI.keys_gives (ρ := Tryz.laysKeys_ren) { Tryz.laysKeys with } Fence.wide _ trivial rfl (by omega) w.heap.size b T.fs.length (datum T.fs) _ (by simp) (by simp) (by
        obtain ⟨es, clock, hb, Ft, hs, hD⟩ := hown
        exact ⟨es, clock, (Below.heap_alloc _ _ b hbl).trans hb, Ft, hs, hD⟩)
    have cS := AnyZI.sorted_in Tryz.laysSorted Fence.wide 5 trivial trivial trivial trivial rfl (by omega) (sorts_in _) (enters_of Tryz.func117 (by kernel_rfl) rfl) 118 #[.pointer (some ⟨w.heap.size, 0, none⟩)] trivial (enters_of Tryz.func118 (by kernel_rfl) rfl) _ _ (by rw [hsz]; simp only [maxLen]; omega) (by rw [hsz]; omega) _ hseq
    change CallsIn _ _ Tryz.prog 95 _ _ _ at cS
    have HcS := Lib.hid cS
    clear h hok hseq cS hmp hown hsz hbl
    refine callsIn_of_wp Tryz.func61 rfl trivial ?_ rfl
    simp only [Tryz.ntmps61, List.size_toArray, List.length_cons, List.length_nil, Nat.reduceAdd, Nat.reduceSub, Array.replicate_succ, Array.replicate_zero, List.push_toArray, List.append_toArray, List.nil_append, List.cons_append]
    gi_wp2_with (first
      | (gi_at_call 96; refine (keys_in _ _).mono ?_; rintro e w' ⟨rfl, rfl⟩)
      | (gi_at_call 95; refine HcS.out.mono ?_; rintro e w' ⟨v, ss, rfl, hS, hrow, hnil, hb⟩))
    go_ret
    refine ⟨_, rfl, ?_, (below_new _ _).trans (hb.mono (by simp))⟩
    rw [datum_keys] at hS
    have hl : ss.length = T.fs.length := by rw [hS.length_eq, List.length_map]
    rw [sorted_nums Hs.out hS, hl] at hrow
    exact own_base hrow (by simp)
end
end Go.Proofs.YtbhmnmmockmibaaGreat

namespace Go.Proofs.YtbhmnmmockmibaaGreat
open Go.RowKit
abbrev En := Int × Int
def enC (e : En) : List Value := [.int .i64 e.1, .int .i64 e.2]
def enV (e : En) : Value := .agg #[.int .i64 e.1, .int .i64 e.2]
def ecells (l : List En) : List Value := l.flatMap enC
theorem ecells_len (l : List En) : (ecells l).length = l.length * 2 := by
  induction l with
  | nil => rfl
  | cons f l ih =>
    unfold ecells at ih ⊢
    rw [List.flatMap_cons, List.length_append, ih, List.length_cons]
    simp [enC]
    omega
theorem ecells_append (a b : List En) : ecells (a ++ b) = ecells a ++ ecells b := by simp [ecells]
theorem ecells_split {l : List En} {k : Nat} {e : En} (h : l[k]? = some e) : ecells l = ecells (l.take k) ++ (enC e ++ ecells (l.drop (k + 1))) ∧ (ecells (l.take k)).length = k * 2 := by
  obtain ⟨hk, e'⟩ := List.getElem?_eq_some_iff.1 h
  constructor
  · conv => lhs; rw [← List.take_append_drop k l, List.drop_eq_getElem_cons hk, e']
    rw [ecells_append]
    rfl
  · rw [ecells_len, List.length_take]
    congr 1
    omega
theorem ecells_get {l : List En} {k : Nat} {e : En} (h : l[k]? = some e) : (ecells l)[k * 2]? = some (.int .i64 e.1) ∧ (ecells l)[k * 2 + 1]? = some (.int .i64 e.2) := by
  obtain ⟨hs, hl⟩ := ecells_split h
  rw [hs]
  constructor
  · rw [List.getElem?_append_right (by omega), hl, Nat.sub_self]; rfl
  · rw [List.getElem?_append_right (by omega), hl, show k * 2 + 1 - k * 2 = 1 by omega]; rfl
theorem ecells_one (l : List En) : ∀ u ∈ ecells l, u.oneCell' = true := by
  intro u hu
  unfold ecells at hu
  rw [List.mem_flatMap] at hu
  obtain ⟨p, _, hu⟩ := hu
  simp only [enC, List.mem_cons, List.not_mem_nil, or_false] at hu
  rcases hu with rfl | rfl <;> rfl
abbrev EnX (w : World) (X : Nat → Prop) (A : Option Addr) (l : List En) : Prop := RdX w X 2 A l.length (ecells l)
theorem EnX.at_ {w : World} {X : Nat → Prop} {A : Option Addr} {l : List En} {k : Nat} (h : EnX w X A l) (hk : k < l.length) :
    ∃ (ad : Addr) (e : En), A = some ad ∧ ad.block < w.heap.size ∧ ¬ X ad.block ∧ w.cell? (ad.add (k * 2)) = some (.int .i64 e.1) ∧ w.cell? ⟨(ad.add (k * 2)).block, (ad.add (k * 2)).off + 1, none⟩ = some (.int .i64 e.2) ∧ Hid (l[k]? = some e) := by
  obtain ⟨ad, e, hb, hx, hc⟩ := h.2 (by omega)
  have hr : l[k]? = some l[k] := List.getElem?_eq_getElem hk
  obtain ⟨h1, h2⟩ := ecells_get hr
  exact ⟨ad, _, e, hb, hx, hc _ _ h1, by rw [← padd_next]; exact hc _ _ h2, hr⟩
def RowEn (w : World) (g : Nat) (e : TypeId) (xs : List En) (rest : List Value) : Prop := w.heap[g]? = some (.cells (ecells xs ++ rest).toArray e (0, 0))
theorem RowEn.lt {w : World} {g : Nat} {e : TypeId} {xs : List En} {rest : List Value} (h : RowEn w g e xs rest) : g < w.heap.size := (Array.getElem?_eq_some_iff.1 h).1
abbrev OwnEn (e : TypeId) (base : Nat) (w : World) (v : Value) (xs : List En) : Prop := w.ownsRow base e 2 v xs.length (ecells xs)
theorem OwnEn.nil (e : TypeId) (base : Nat) (w : World) : OwnEn e base w (.slice none 0 0) [] := World.ownsRow_nil _ _ _ _
theorem OwnEn.form {e : TypeId} {base : Nat} {w : World} {v : Value} {xs : List En} (h : OwnEn e base w v xs) : (v = .slice none 0 0 ∧ xs = []) ∨ ∃ g cap rest, v = .slice (some ⟨g, 0, none⟩) xs.length cap ∧ base ≤ g ∧ RowEn w g e xs rest ∧ xs.length ≤ cap ∧ cap ≤ maxLen ∧ (ecells xs ++ rest).length = cap * 2 := by
  rcases h.2 with ⟨rfl, hn⟩ | ⟨g, cap, cur, rfl, hb, hg, hnc, hcm, hs, ht⟩
  · exact .inl ⟨rfl, List.eq_nil_of_length_eq_zero hn⟩
  · refine .inr ⟨g, cap, cur.toList.drop (xs.length * 2), rfl, hb, ?_, hnc, hcm, ?_⟩
    · unfold RowEn
      rw [← ht, List.take_append_drop, Array.toArray_toList]
      exact hg
    · rw [← ht, List.take_append_drop, Array.length_toList, hs]
theorem OwnEn.of {e : TypeId} {base : Nat} {w : World} {xs : List En} {g cap : Nat} {rest : List Value} (hb : base ≤ g) (h : RowEn w g e xs rest) (h1 : xs.length ≤ cap) (h2 : cap ≤ maxLen) (h3 : (ecells xs ++ rest).length = cap * 2) : OwnEn e base w (.slice (some ⟨g, 0, none⟩) xs.length cap) xs := by
  refine ⟨ecells_len xs, .inr ⟨g, cap, _, rfl, hb, h, h1, h2, by simpa using h3, ?_⟩⟩
  rw [← ecells_len]
  exact List.take_left
def EnSl (t e : TypeId) : Prop := Tryz.prog.underlying t = some (.slice e) ∧ (Tryz.prog.info? e).map (fun i => (i.zero, i.size, i.bytes)) = some (some (.agg #[.int .i64 0, .int .i64 0]), 2, 16)
theorem enSl1 : EnSl 88 91 := ⟨Tryz.underlying88, by kernel_rfl⟩
section
variable {ops : Array Oper} {rest : List Oper} {o : Oper} {a : Act} {Q : Exit → Act → World → Prop} {w : World} {base : Nat} {v : Value}
theorem push_en {t e : TypeId} (ht : EnSl t e) {N : Nat} (s x : Operand) {own : List En} (f : En) (hown : OwnEn e base w v own) (hbase : base ≤ w.heap.size) (hl : own.length ≤ 1099511627776)
    (hgd : o.guard = none) (ho : o.op = .call { callee := .builtin .append, args := #[s, x], argTypes := #[t, t] })
    (hs : a.eval s = v) (hx : a.eval x = .slice (some ⟨N, 0, none⟩) 1 1) (hN : w.heap.size = N)
    (h : ∀ v' w', OwnEn e base w' v' (own ++ [f]) → w.grownBy w' v.ownBlock → (v'.ownBlock = v.ownBlock ∨ v'.ownBlock = some (w.heap.size + 1)) → Below base w w' → wpList Tryz.prog ops Q rest (a.put o.dst v') w') :
    wpList Tryz.prog ops Q (o :: rest) a (w.alloc (.cells #[.int .i64 f.1, .int .i64 f.2] e)) := by
  subst hN
  obtain ⟨hu, hi⟩ := ht
  obtain ⟨i0, hi0, hz0, hz1, hz2⟩ := info_parts hi
  have hnew : Reads (w.alloc (.cells (ecells [f]).toArray e)) (w.heap.size + 1) 2 (some ⟨w.heap.size, 0, none⟩) 1 (ecells [f]) := by
    refine ⟨ecells_len [f], fun _ => ⟨_, rfl, by simp, fun j u hu => ?_⟩⟩
    rw [lit_add, Nat.zero_add, cell_of_row (w.alloc (.cells (ecells [f]).toArray e)) w.heap.size j (ecells [f]).toArray e (0, 0) (heap_alloc_new w _)]
    simpa using hu
  refine wpList_append_any _ hgd s x t ho base e i0 _ 2 16 hu hi0 hz0 hz1 hz2 rfl (by omega) v _ _ hs (hown.alloc _) (w.heap.size + 1) _ 1 1 (ecells [f]) hx hnew (ecells_one _) (by simp only [maxLen]; omega) (by omega) (by simp; omega) ?_
  intro v1 w1 h1 h2 h3
  have hb := ((Below.refl base w).alloc hbase _).trans (grown_below (hown.alloc (.cells (ecells [f]).toArray e)) h2 (by simp; omega))
  refine h v1 w1 ?_ ⟨h2.os, h2.tape, h2.output, Nat.le_trans (by simp) h2.size, fun k hk hne => (h2.block k (by simp; omega) hne).trans (heap_alloc_old w _ hk)⟩ (by simpa using h3) hb
  have h1' : OwnEn e base w1 v1 (own ++ [f]) := by
    unfold OwnEn
    rw [ecells_append, List.length_append]
    exact h1
  exact h1'
end
end Go.Proofs.YtbhmnmmockmibaaGreat

namespace Go.Proofs.YtbhmnmmockmibaaGreat
open Go.RowKit Go.Maps
def manyC (fs : List Fi) : List En := fs.map fun f => (f.i, f.n)
section
variable {w : World} {Z : Nat → Prop} {t N : Nat} {T : Tb}
theorem num_ok (hok : T.Ok N) (hN : N ≤ 1000) {f : Fi} (hf : f ∈ T.fs) : -9223372036854775808 ≤ f.i ∧ f.i ≤ 9223372036854775807 := by
  have h1 := hok.num f hf
  have h2 := hok.made
  omega
set_option maxHeartbeats 2000000 in
set_option maxRecDepth 100000 in
theorem all_any (h : TabAt w Z t T) (hok : T.Ok N) (hN : N ≤ 1000) :
    Calls Tryz.prog 28 #[.pointer (some ⟨t, 5, none⟩)] w fun e w' => ∃ v, e = .returned v ∧ OwnEn 91 w.heap.size w' v (manyC T.fs) ∧ Below w.heap.size w w' := by
  have Hc := Lib.hid (numbers_any h hok hN)
  have H := Lib.hid h
  have Hok := Lib.hid hok
  have HN := Lib.hid hN
  obtain ⟨n, hn⟩ : ∃ n, Hid (T.fs.length = n) := ⟨_, rfl⟩
  have hnI : (n : Int) ≤ 1000 := by have := hok.len; have := hn.out; omega
  rw [hn.out] at Hc
  clear h hok hN
  go_enter Tryz.func28, Tryz.ntmps28
  go_wp2_with (go_at_call 61; refine Hc.out.mono ?_; rintro e w1 ⟨v0, rfl, ho, hb⟩; obtain ⟨A, c, rfl, hc, _, hr⟩ := own_form ho)
  have Hr := Lib.hid hr
  have Hb := Lib.hid hb
  clear hr hb ho hc
  go_loopw [3, 9] (fun v i wr => ∃ k : Nat, k ≤ n ∧ i = .int .i64 (k : Int) ∧ OwnEn 91 w1.heap.size wr v ((manyC T.fs).take k) ∧ Below w1.heap.size w1 wr) (fun _ i _ => n - (Go.Lib.intOf i).toNat)
  case atStart => exact ⟨0, by omega, rfl, by exact OwnEn.nil _ _ _, .refl _ _⟩
  case round =>
    obtain ⟨k, hk, rfl, hown, hb2⟩ := hrel
    by_cases hlt : k < n
    · have hkl : k < T.fs.length := by rw [hn.out]; exact hlt
      obtain ⟨f, hf⟩ : ∃ f, T.fs[k]? = some f := ⟨_, List.getElem?_eq_getElem hkl⟩
      have hmem := List.mem_of_getElem? hf
      obtain ⟨ad, rfl, hab, hcell⟩ := Hr.out.2 (by omega)
      have hnk : (numC T.fs)[k]? = some (.int .i64 f.i) := by unfold numC; rw [List.getElem?_map, List.getElem?_map, hf]; rfl
      have hck := (hb2.cell (p := ad.add k) (by rw [block_of_add]; exact hab)).trans (hcell k _ hnk)
      have hz := num_ok Hok.out HN.out hmem
      have hfind := findF_at Hok.out.sort hf
      have hT := (H.out.below Hb.out).below hb2
      obtain ⟨c0, c1, c2⟩ := hT.cells
      have hl := hT.look hz
      rw [hfind] at hl
      simp only [Option.map_some, ptr] at hl
      obtain ⟨A', n', c', hv, hF⟩ := hT.filed hfind
      have cn := bx_cell1 hv
      have hen : Hid ((manyC T.fs)[k]? = some (f.i, f.n)) := by show _ = _; unfold manyC; rw [List.getElem?_map, hf]; rfl
      have Hown := Lib.hid hown
      have Hb2 := Lib.hid hb2
      obtain ⟨l, hle⟩ : ∃ l, Hid ((manyC T.fs).take k = l) := ⟨_, rfl⟩
      have hll : Hid (l.length ≤ 1099511627776) := by rw [← hle.out]; show _ ≤ _; rw [List.length_take]; omega
      rw [hle.out] at Hown
      generalize T.mp = mp at *
      generalize f.g = g at *
      generalize f.i = z at *
      generalize f.n = nn at *
      clear hv hF hT hown hb2 hcell hnk hf hmem hfind hkl
      go_wp2_with (at_builtin; refine push_en enSl1 (.tmp 13) (.tmp 25) (z, nn) Hown.out Hb2.out.size hll.out rfl rfl rfl rfl rfl ?_; intro v' w3 hown' hg3 hblk3 hb3)
      go_roundw
      case rel => exact ⟨k + 1, by omega, by go_num, by rw [take_snoc hen, hle.out]; exact hown', Hb2.out.trans hb3⟩
      case measure => simp [Go.Lib.intOf]; omega
    · obtain rfl : k = n := by omega
      go_wp2
      go_ret
      refine ⟨_, rfl, ?_, Hb.out.trans (hb2.mono Hb.out.size)⟩
      have hl : (manyC T.fs).length = k := by unfold manyC; rw [List.length_map, hn.out]
      rw [← hl, List.take_length] at hown
      exact own_base hown Hb.out.size
end
end Go.Proofs.YtbhmnmmockmibaaGreat

namespace Go.Proofs.YtbhmnmmockmibaaGreat
open Go.RowKit
attribute [local go_sem] Oper.semAt_some
abbrev Bk (qs : List En) := Int × { p : En // p ∈ qs }
def bkl (qs : List En) : List (Bk qs) := qs.attach.zipIdx.map fun t => ((t.2 : Int), t.1)
theorem bkl_len (qs : List En) : (bkl qs).length = qs.length := by simp [bkl]
theorem bkl_get {qs : List En} {k : Nat} {p : En} (h : qs[k]? = some p) : ∃ hp : p ∈ qs, (bkl qs)[k]? = some ((k : Int), ⟨p, hp⟩) := by
  refine ⟨List.mem_of_getElem? h, ?_⟩
  obtain ⟨hk, e⟩ := List.getElem?_eq_some_iff.1 h
  subst e
  simp [bkl, hk]
theorem bkl_val (qs : List En) : (bkl qs).map (fun x => x.2.1) = qs := by
  apply List.ext_getElem?
  intro k
  rw [List.getElem?_map]
  cases h : qs[k]? with
  | none =>
    have hk : qs.length ≤ k := List.getElem?_eq_none_iff.1 h
    rw [List.getElem?_eq_none (by rw [bkl_len]; exact hk)]
    rfl
  | some p =>
    obtain ⟨hp, e⟩ := bkl_get h
    rw [e]
    rfl
def bks (qs : List En) (k : Nat) : List (Bk qs) := ((bkl qs).drop k).reverse
theorem bks_len {qs : List En} {k : Nat} : (bks qs k).length = qs.length - k := by
  unfold bks
  rw [List.length_reverse, List.length_drop, bkl_len]
theorem bks_next {qs : List En} {k : Nat} {x : Bk qs} (h : (bkl qs)[k]? = some x) : bks qs k = bks qs (k + 1) ++ [x] := by
  obtain ⟨hk, e⟩ := List.getElem?_eq_some_iff.1 h
  unfold bks
  rw [List.drop_eq_getElem_cons hk, e, List.reverse_cons]
theorem bks_all (qs : List En) : (bks qs 0).map (fun x => x.2.1) = qs.reverse := by
  unfold bks
  rw [List.drop_zero, List.map_reverse, bkl_val]
theorem bks_none (qs : List En) : bks qs qs.length = [] := List.eq_nil_of_length_eq_zero (by rw [bks_len]; omega)
abbrev But (b n₀ : Nat) : Nat → Prop := fun x => x = b ∨ n₀ ≤ x
set_option maxRecDepth 100000 in
set_option maxHeartbeats 4000000 in
theorem back_stops (F : Fence) (n : Nat) (hf : F.fn 119) (hro : F.round = none) (hn : 1 ≤ n) (Bs b n₀ : Nat) (A : Option Addr) (cap : Nat) (qs : List En) (hl : qs.length ≤ 1000) (w : World)
    (hBs : ¬ But b n₀ Bs) (hc : w.cell? ⟨Bs, 0, none⟩ = some (.slice A qs.length cap)) (hBl : Bs < w.heap.size) (hr : EnX w (But b n₀) A qs) :
    SeqStopsK F n Tryz.prog 119 #[.pointer (some ⟨Bs, 0, none⟩)] (fun x : Bk qs => #[.int .i64 x.1, enV x.2.1]) (Touch (But b n₀)) (fun xs => xs.map (fun x => x.2.1) = qs.reverse) (fun _ => True) qs.length w := fun l J Jx W hW hJ hJx hY h0 => by
  have hlen : (qs.length : Int) ≤ 1000 := by omega
  have hcW := (hW.cell (p := ⟨Bs, 0, none⟩) hBl).trans hc
  have HrW : Hid (EnX W (But b n₀) A qs) := hr.keep (.of hW)
  have hBW : Hid (Bs < W.heap.size) := Nat.lt_of_lt_of_le hBl hW.size
  have HcW := Lib.hid hcW
  have HBs := Lib.hid hBs
  clear hc hr hl hBs hBl
  refine callsIn_of_wp Tryz.func119 rfl hf ?_ hro
  simp only [Tryz.ntmps119, List.size_toArray, List.length_cons, List.length_nil, Nat.reduceAdd, Nat.reduceSub, Array.replicate_succ, Array.replicate_zero, List.push_toArray, List.append_toArray, List.nil_append, List.cons_append]
  gi_wp2
  gi_loopw [3] (fun i wr => ∃ (k : Nat) (z : Int), k ≤ qs.length ∧ Hid (z = (k : Int) - 1) ∧ i = .int .i64 z ∧ Hid (J (bks qs k) wr) ∧ Hid (Touch (But b n₀) W wr)) (fun i _ => (Go.Lib.intOf i + 1).toNat)
  case atStart => exact ⟨qs.length, _, Nat.le_refl _, by exact rfl, rfl, by show J _ _; rw [bks_none]; exact h0, Touch.refl _ _⟩
  case round =>
    clear hcW
    obtain ⟨k, z, hk, hz, rfl, hJs, ht⟩ := hrel
    have hcr := (ht.out.cell (p := ⟨Bs, 0, none⟩) hBW.out HBs.out).trans HcW.out
    cases k with
    | zero =>
      have hz' : z < 0 := by have := hz.out; omega
      have hz2 : ¬ 0 ≤ z := by omega
      gi_wp2
      go_end0
      exact ⟨⟨_, rfl⟩, .inl ⟨_, bks_all qs, hJs.out⟩⟩
    | succ j =>
      obtain rfl : z = (j : Int) := by have := hz.out; omega
      obtain ⟨ad, p, rfl, _, _, h1, h2, hx⟩ := EnX.at_ (HrW.out.keep ht.out) (k := j) (by omega)
      obtain ⟨hp, hb⟩ := bkl_get hx.out
      obtain ⟨fn, tmps, assign, body, hy, hR⟩ := hY _ ((j : Int), ⟨p, hp⟩) wr hJs.out (by rw [bks_len]; omega)
      have ev : enV p = .agg #[.int .i64 p.1, .int .i64 p.2] := rfl
      obtain ⟨x, hx1⟩ : ∃ x, Hid (p.1 = x) := ⟨_, rfl⟩
      obtain ⟨y, hy1⟩ : ∃ y, Hid (p.2 = y) := ⟨_, rfl⟩
      rw [hx1.out] at h1
      rw [hy1.out] at h2
      rw [hx1.out, hy1.out] at ev
      simp only [ev] at hy
      have hlt : (j : Int) < (qs.length : Int) := by omega
      have hln : j < qs.length := by omega
      have Hb := Lib.hid hb
      clear ev hb hk
      gi_wp2
      refine hR.mono ?_
      rintro e W3 (⟨rfl, hJ3, hk3⟩ | ⟨rfl, hJx3⟩)
      · have HJ3 := Lib.hid hJ3
        have Hk3 := Lib.hid hk3
        clear hJ3 hk3
        gi_wp2
        go_roundw
        case rel => exact ⟨j, _, by omega, by exact rfl, by go_num, by show J _ _; rw [bks_next Hb.out]; exact HJ3.out, ht.out.trans Hk3.out⟩
        case measure => simp [Go.Lib.intOf]
      · gi_wp2
        refine bodyPost_ret (results_none rfl _ _ _) rfl ?_
        exact ⟨⟨_, rfl⟩, .inr ⟨_, trivial, hJx3⟩⟩
theorem hmakeFunc (fn : Fn) (first cap : Array Value) (w : World) : (Instr.makeFunc fn first cap).run Tryz.prog w = .ok (.func fn first cap) w := rfl
set_option maxHeartbeats 1000000 in
theorem back_any (A : Option Addr) (n c : Nat) (w : World) : Calls Tryz.prog 97 #[.slice A n c] w fun e w' => e = .returned (.func (.func 119) #[] #[.pointer (some ⟨w.heap.size, 0, none⟩)]) ∧ w' = w.alloc (.cells #[.slice A n c] 88) := by
  have hmf := hmakeFunc
  go_enter Tryz.func97, Tryz.ntmps97
  go_wp2
  go_ret
  exact ⟨rfl, rfl⟩
end Go.Proofs.YtbhmnmmockmibaaGreat

namespace Go.Proofs.YtbhmnmmockmibaaGreat
open Go.RowKit Go.Maps
attribute [local go_sem] Oper.semAt_some
def mapN (l : List En) : DataW Unit := l.foldl (fun D x => D.put (.int .i64 x.1) (.lit (.int .i64 x.2))) (.map [])
theorem mapN_snoc (l : List En) (x : En) : mapN (l ++ [x]) = (mapN l).put (.int .i64 x.1) (.lit (.int .i64 x.2)) := by simp [mapN, List.foldl_append]
theorem mapN_is (l : List En) : IsMap (mapN l) := by
  have : ∀ (l : List En) (D : DataW Unit), IsMap D → IsMap (l.foldl (fun D x => D.put (.int .i64 x.1) (.lit (.int .i64 x.2))) D) := by
    intro l
    induction l with
    | nil => intro D h; exact h
    | cons x l ih => intro D h; exact ih _ (h.put _ _)
  exact this l _ isMap_empty
def manyF (l : List En) (z : Int) : Int := ((l.find? fun x => decide (x.1 = z)).map Prod.snd).getD 0
theorem mapN_at (l : List En) (z : Int) : (mapN l.reverse).atKey (.int .i64 z) (.lit (.int .i64 0)) = .lit (.int .i64 (manyF l z)) := by
  induction l with
  | nil => rfl
  | cons x l ih =>
    rw [List.reverse_cons, mapN_snoc]
    unfold manyF
    rw [List.find?_cons]
    by_cases h : x.1 = z
    · subst h
      rw [atKey_put_same (mapN_is _) (by simp [WideAt.IsKeyLit])]
      simp
    · rw [atKey_put_other (fun e => by injection e with _ e; exact h e.symm), ih]
      simp only [h, decide_false]
      rfl
def FitE (l : List En) : Prop := ∀ x ∈ l, (-9223372036854775808 ≤ x.1 ∧ x.1 ≤ 9223372036854775807) ∧ (-9223372036854775808 ≤ x.2 ∧ x.2 ≤ 9223372036854775807)
theorem manyF_fit {l : List En} (h : FitE l) (z : Int) : -9223372036854775808 ≤ manyF l z ∧ manyF l z ≤ 9223372036854775807 := by
  unfold manyF
  cases hf : l.find? fun x => decide (x.1 = z) with
  | none => simp
  | some x => exact (h x (List.mem_of_find?_eq_some hf)).2
def FlI (WL : World) (bm : Nat) {qs : List En} (pre : List (Bk qs)) (W : World) : Prop :=
  Touch (But bm WL.heap.size) WL W ∧ W.ownsMap Tryz.prog 3 (plainElem Tryz.prog 3) bm pre.length (mapN (pre.map fun x => x.2.1))
def FlA (WL : World) (tm : Int → Value → Nat → Array Value) {qs : List En} (x : Bk qs) (a : Act) (W : World) : Prop :=
  ∃ bx, WL.heap.size ≤ bx ∧ W.heap[bx]? = some (.cells #[.int .i64 x.2.1.1, .int .i64 x.2.1.2] 91 (0, 0)) ∧ a = { tmps := tm x.1 (enV x.2.1) bx, defers := [] }
set_option maxHeartbeats 4000000 in
set_option maxRecDepth 100000 in
theorem first_any {A : Option Addr} {cap : Nat} {l : List En} {w : World} {X : Nat → Prop} (hr : EnX w X A l) (hl : l.length ≤ 1000) (hfit : FitE l) :
    Calls Tryz.prog 62 #[.slice A l.length cap] w fun e w' => ∃ b, e = .returned (.map (some b)) ∧ w.heap.size ≤ b ∧ Below w.heap.size w w' ∧ w'.ownsMap Tryz.prog 3 (plainElem Tryz.prog 3) b l.length (mapN l.reverse) := by
  obtain ⟨bm, hbm⟩ : ∃ bm, Hid (w.heap.size = bm) := ⟨_, rfl⟩
  obtain ⟨n, hn⟩ : ∃ n, Hid (l.length = n) := ⟨_, rfl⟩
  have Hr := Lib.hid hr
  have Hfit := Lib.hid hfit
  have hln : Hid (l.length ≤ 1000) := hl
  have hmk := fun w => run_makeMap (P := Tryz.prog) 86 w
  rw [hn.out]
  clear hr hl hfit
  refine (callsIn_wide (n := 5)).1 ?_
  refine callsIn_of_wp_marks Tryz.func62 rfl trivial (wpIn_wide.2 ?_) rfl
  simp only [Tryz.ntmps62, List.size_toArray, List.length_cons, List.length_nil, Nat.reduceAdd, Nat.reduceSub, Array.replicate_succ, Array.replicate_zero, List.push_toArray, List.append_toArray, List.nil_append, List.cons_append]
  go_upto_region 2 with fail
  clear hmk
  rw [hbm.out]
  obtain ⟨W1, hW1⟩ : ∃ W1, Hid ((w.alloc (.map #[] 0)).alloc (.cells #[.map (some bm)] 86) = W1) := ⟨_, rfl⟩
  rw [hW1.out]
  have hs1 : Hid (W1.heap.size = bm + 2) := by rw [← hW1.out, ← hbm.out]; show _ = _; simp
  have hb1 : Hid (Below w.heap.size w W1) := by rw [← hW1.out]; exact (below_new _ _).alloc (by simp) _
  have hbv1 : Hid (W1.heap[bm + 1]? = some (.cells #[.map (some bm)] 86 (0, 0))) := by
    rw [← hW1.out]
    have := heap_alloc_new (w.alloc (.map #[] 0)) (.cells #[.map (some bm)] 86)
    rw [show (w.alloc (.map #[] 0)).heap.size = bm + 1 by rw [← hbm.out]; simp] at this
    exact this
  have hmap1 : Hid (W1.ownsMap (H := Unit) Tryz.prog 3 (plainElem Tryz.prog 3) bm 0 (.map [])) := by
    rw [← hW1.out, ← hbm.out]
    exact (World.ownsMap_made w Tryz.prog 3 (plainElem Tryz.prog 3)).alloc _
  go_wp2_with (go_at_call 97; refine (back_any _ _ _ _).mono ?_; rintro e w1 ⟨rfl, rfl⟩)
  obtain ⟨WL, hWL⟩ : ∃ WL, Hid (W1.alloc (.cells #[.slice A n cap] 88) = WL) := ⟨_, rfl⟩
  rw [hWL.out, hs1.out]
  have hbWL : Hid (Below W1.heap.size W1 WL) := by rw [← hWL.out]; exact below_new _ _
  have hsWL : Hid (WL.heap.size = bm + 3) := by rw [← hWL.out]; show _ = _; simp [hs1.out]
  have hBsL : Hid (WL.heap[bm + 2]? = some (.cells #[.slice A n cap] 88 (0, 0))) := by rw [← hWL.out, ← hs1.out]; exact heap_alloc_new _ _
  have hbvL : Hid (WL.heap[bm + 1]? = some (.cells #[.map (some bm)] 86 (0, 0))) := (hbWL.out.block (bm + 1) (by rw [hs1.out]; omega)).trans hbv1.out
  have hread : Hid (EnX WL (But bm WL.heap.size) A l) := by
    have h1 := Hr.out.below (hb1.out.trans (hbWL.out.mono hb1.out.size))
    refine ⟨h1.1, fun hn => ?_⟩
    obtain ⟨ad, e, hb, _, hc⟩ := Hr.out.2 hn
    obtain ⟨ad', e', hb', _, hc'⟩ := h1.2 hn
    rw [e] at e'
    injection e' with e'
    subst e'
    refine ⟨ad, e, hb', ?_, hc'⟩
    rintro (e1 | e1)
    · have := hbm.out; omega
    · omega
  have hbox : Hid (WL.cell? ⟨bm + 2, 0, none⟩ = some (.slice A l.length cap)) := by rw [hn.out]; exact box_cell hBsL.out
  have hN1 : Hid (¬ But bm WL.heap.size (bm + 2)) := by
    rw [hsWL.out]
    rintro (e | e) <;> omega
  have hN2 : Hid (¬ But bm WL.heap.size (bm + 1)) := by
    rw [hsWL.out]
    rintro (e | e) <;> omega
  refine (wpIn_wide (n := 5)).1 ?_
  refine wpIn_rangeFunc_ownH (n := 5) rfl (by omega) (gf := 119) (lb := #[.pointer (some ⟨bm + 2, 0, none⟩)]) rfl trivial (enters_of Tryz.func119 (by kernel_rfl) rfl)
    (back_stops Fence.wide 4 trivial rfl (by omega) (bm + 2) bm WL.heap.size A cap l hln.out WL hN1.out hbox.out (by rw [hsWL.out]; omega) hread.out) (fun h k => h.trans k)
    (fun W' l o o' hl _ _ _ => Touch.grown (grownBy_putObj' W' l o') fun k e => by injection e with e; exact .inr (by omega)) (Below.refl _ _) (fun _ => rfl)
    (FlI WL bm) (fun _ _ _ => False) ?hI (fun _ _ _ _ _ hs _ _ => hs) ?h0
    (FlA WL (fun idx v bx => #[.slice A n cap, undef, .map none, .pointer (some ⟨bm + 1, 0, none⟩), undef, .pointer (some ⟨bx, 0, none⟩), .map (some bm), .slice A n cap, .func (.func 119) #[] #[.pointer (some ⟨bm + 2, 0, none⟩)], .int .i64 idx, v, undef, undef, undef, undef, undef, undef]))
    ?hAx ?assign ?body ?done ?stop
  case hI =>
    intro pre X Y row hs hgr hr
    refine ⟨hs.1.trans (Touch.grown hgr fun k e => .inr (hr k e).1), owns_touch hs.2 (Touch.grown (X := fun x => row = some x) hgr fun k e => e) fun e => ?_⟩
    obtain ⟨h1, h2⟩ := hr bm e
    have := hsWL.out
    omega
  case h0 => exact ⟨Touch.refl _ _, owns_touch hmap1.out (Touch.of (X := fun _ => False) hbWL.out) fun e => e⟩
  case hAx =>
    rintro x a' _ X Y row ⟨bx, h1, h2, h3⟩ hgr hr
    refine ⟨bx, h1, (hgr.block bx (Array.getElem?_eq_some_iff.1 h2).1 fun e => ?_).trans h2, h3⟩
    obtain ⟨_, o, ho, hcs⟩ := hr bx e.symm
    rw [h2] at ho
    injection ho with ho
    rw [← ho] at hcs
    cases hcs
  case assign =>
    intro l pre x W' K hi hK
    have hv : enV x.2.1 = .agg #[.int .i64 x.2.1.1, .int .i64 x.2.1.2] := rfl
    obtain ⟨i1, h1⟩ : ∃ u, Hid (x.2.1.1 = u) := ⟨_, rfl⟩
    obtain ⟨i2, h2⟩ : ∃ u, Hid (x.2.1.2 = u) := ⟨_, rfl⟩
    rw [h1.out, h2.out] at hv
    have HK := Lib.hid hK
    clear hK
    rw [hv]
    gi_wp2
    have ha := below_new W' (.cells #[.int .i64 i1, .int .i64 i2] 91)
    have hg2 := World.grownBy_alloc W' (.cells #[.int .i64 i1, .int .i64 i2] 91) none
    refine HK.out _ _ (.of_grownBy hg2 fun j e => by cases e) (.of ha) ⟨hi.1.trans (.of ha), owns_touch hi.2 (Touch.of (X := fun _ => False) ha) fun e => e⟩ ⟨W'.heap.size, hi.1.size, ?_, by rw [hv]⟩
    rw [h1.out, h2.out]
    exact heap_alloc_new _ _
  case body =>
    rintro l' pre x a' W' hl hrec hfl ⟨bx, hbx, hbxc, rfl⟩ hlt
    have cx0 := bx_cell hbxc
    have cx1 := bx_cell1 hbxc
    have cm := box_cell (hfl.1.heap hN2.out hbvL.out)
    have hxf := Hfit.out x.2.1 x.2.2
    obtain ⟨w3, hrun, hown3, hg3⟩ := hfl.2.update keyI Tryz.underlying86 (by simp only [maxLen]; have := hln.out; omega) (key_i hxf.1) (plainElem_int Tryz.underlying3 (a := x.2.1.2) (by simp only [Lit.wf, Bool.and_eq_true, decide_eq_true_eq]; exact hxf.2))
    have Hfl := Lib.hid hfl
    have Hown3 := Lib.hid hown3
    have ht3 : Hid (Touch (fun k => k = bm) W' w3) := Touch.grown hg3 fun k e => by injection e with e; exact e.symm
    obtain ⟨i1, h1⟩ : ∃ u, Hid (x.2.1.1 = u) := ⟨_, rfl⟩
    obtain ⟨i2, h2⟩ : ∃ u, Hid (x.2.1.2 = u) := ⟨_, rfl⟩
    rw [h1.out] at cx0 hrun
    rw [h2.out] at cx1 hrun
    have Hbm := Lib.hid hbm
    clear hfl hbxc hown3 hg3 hxf hl hrec hlt hbx
    gi_wp2
    have hT3 : Touch (But bm WL.heap.size) W' w3 := ht3.out.mono fun _ _ e => Or.inl e
    refine ⟨⟨ht3.out.size, fun k o hk ho _ => ht3.out.heap (fun e => ?_) ho⟩, hT3, Hfl.out.1.trans hT3, ?_⟩
    · have := hsWL.out; omega
    · rw [List.length_append, List.map_append, List.map_cons, List.map_nil, mapN_snoc]
      exact Hown3.out
  case done =>
    rintro D xs W' hD hS hI hK
    have cm := box_cell (hI.1.heap hN2.out hbvL.out)
    have hown := hI.2
    rw [show mapN (xs.map fun x => x.2.1) = mapN l.reverse from by rw [hS], show xs.length = n from by have h5 := congrArg List.length hS; rw [List.length_map, List.length_reverse, hn.out] at h5; exact h5] at hown
    have Hown := Lib.hid hown
    have Ht := Lib.hid hI.1
    have HK := Lib.hid hK
    have HD := Lib.hid hD
    clear hown hI hK hD hS
    gi_wp2
    go_wp2
    have hDl : Hid (bm + 3 ≤ D) := by have := HD.out; rw [hsWL.out] at this; exact this
    have htD : Touch (fun b => b = D) W' (W'.putObj D (.deferred none)) := Touch.grown (grownBy_putObj' W' D _) fun k e => by injection e with e; exact e.symm
    refine ⟨by simp, .inl ⟨_, _, rfl, run_takeDeferred HK.out, ?_⟩⟩
    refine ⟨_, results_tmp rfl _ _ _, bm, rfl, by rw [hbm.out]; exact Nat.le_refl _, ?_, owns_touch Hown.out htD fun e => ?_⟩
    · have h1 : Below w.heap.size w WL := below_then hb1.out hbWL.out (Nat.le_refl _)
      refine Touch.below (X := fun b => w.heap.size ≤ b) ((Touch.of h1).trans ((Ht.out.mono fun b hb e => ?_).trans (htD.mono fun b _ e => ?_))) (Nat.le_refl _) fun b hb => hb
      · rcases e with e | e
        · rw [e, hbm.out]; exact Nat.le_refl _
        · omega
      · rw [e, hbm.out]; have := hDl.out; omega
    · have := hDl.out; omega
  case stop =>
    rintro D cc pre W' _ _ h _
    exact h.elim
end Go.Proofs.YtbhmnmmockmibaaGreat
