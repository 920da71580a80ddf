/- Plain words for memory, of no one function: a slice that reads as a list, blocks of the call's own, appends onto them. Conditions: none. One byte, or a row of bytes, behind a row of the call's own; a new row read. Conditions: rows of at most 2^41 bytes. A row of bytes, turned into a text. -/
import Derived.Test.YtbhmnmmockmibaaGreatRows
import Derived.WalkKit
import Derived.WalkSpells
import Derived.WalkLawsBesides
import Derived.Maps.AppendAt
import Derived.Deep.AppendLies
import Derived.Deep.Draws
import Derived.Deep.QuietTactic
import Derived.BigQuiet
import Derived.Deep.DeepFit
import Derived.Lib.Hide
import Derived.IntWalk
import Derived.Handy
import Derived.OwnWalk
import Derived.Laws.BytesString
import Derived.Laws.BytesArg
namespace Go.Proofs.YtbhmnmmockmibaaGreat
open Go.RowKit
theorem ret_bool {a b : Bool} (h : a = b) : Ending.returned (.bool a) = .returned (.bool b) := by rw [h]
theorem block_of_add (a : Addr) (n : Nat) : (a.add n).block = a.block := by unfold Addr.add; split <;> rfl
theorem add_of_add (a : Addr) (i j : Nat) : (a.add i).add j = a.add (i + j) := by
  unfold Addr.add
  by_cases hi : i = 0 <;> by_cases hj : j = 0 <;> simp [hi, hj, Nat.add_assoc]
theorem below_drewN {B : Nat} {a w : World} (h : Below B a w) (n : Nat) : Below B a (w.drewN n) := ⟨h.os, h.tape, h.output, h.size, h.block⟩
def Reads (w : World) (B size : Nat) (A : Option Addr) (n : Nat) (xs : List Value) : Prop :=
  xs.length = n * size ∧ (0 < n → ∃ ad, A = some ad ∧ ad.block < B ∧ ∀ j u, xs[j]? = some u → w.cell? (ad.add j) = some u)
section
variable {w w' : World} {B B' size n : Nat} {A : Option Addr} {xs : List Value}
theorem Reads.none_ : Reads w B size A 0 [] := ⟨by simp, fun h => absurd h (by omega)⟩
theorem Reads.at_ {k : Nat} (h : Reads w B 1 A n xs) (hk : k < n) : ∃ ad u, A = some ad ∧ ad.block < B ∧ xs[k]? = some u ∧ w.cell? (ad.add k) = some u := by
  obtain ⟨ad, e, hb, hc⟩ := h.2 (by omega)
  have hl : k < xs.length := by have := h.1; omega
  exact ⟨ad, xs[k], e, hb, List.getElem?_eq_getElem hl, hc k _ (List.getElem?_eq_getElem hl)⟩
theorem Reads.keep (h : Reads w B size A n xs) (hk : ∀ p : Addr, p.block < B → w'.cell? p = w.cell? p) : Reads w' B size A n xs :=
  ⟨h.1, fun hn => by
    obtain ⟨ad, e, hb, hc⟩ := h.2 hn
    exact ⟨ad, e, hb, fun j u hu => (hk _ (by rw [block_of_add]; exact hb)).trans (hc j u hu)⟩⟩
theorem Reads.more (h : Reads w B size A n xs) (hB : B ≤ B') : Reads w B' size A n xs :=
  ⟨h.1, fun hn => by
    obtain ⟨ad, e, hb, hc⟩ := h.2 hn
    exact ⟨ad, e, by omega, hc⟩⟩
theorem Reads.below (h : Reads w B size A n xs) (hb : Below B w w') : Reads w' B size A n xs := h.keep fun _ hp => hb.cell hp
theorem Reads.drew (h : Reads w B size A n xs) : Reads w.drew B size A n xs := h
theorem Reads.drewN (h : Reads w B size A n xs) (k : Nat) : Reads (w.drewN k) B size A n xs := h
theorem Reads.alloc (h : Reads w B size A n xs) (hB : B ≤ w.heap.size) (o : Obj) : Reads (w.alloc o) B size A n xs := h.keep fun p hp => World.cell?_alloc_lt w o p (by omega)
theorem Reads.setCell (h : Reads w B size A n xs) {p : Addr} (hB : B ≤ p.block) (u : Value) : Reads (w.setCell p u) B size A n xs :=
  h.keep fun q hq => World.cell?_setCell_other w p q u (fun e => by subst e; omega)
theorem Reads.grown (h : Reads w B size A n xs) {row : Option Nat} (hg : w.grownBy w' row) (hB : B ≤ w.heap.size) (hr : ∀ g, row = some g → B ≤ g) : Reads w' B size A n xs :=
  h.keep fun p hp => World.cell?_of_block (hg.block p.block (by omega) (fun e => by have := hr _ e.symm; omega))
theorem Reads.cut (h : Reads w B size A n xs) {k cap : Nat} (hk : k ≤ n) (hc : n ≤ cap) :
    Reads w B size (if cap = k then A else A.map (·.add (k * size))) (n - k) (xs.drop (k * size)) := by
  refine ⟨by rw [List.length_drop, h.1, Nat.sub_mul], fun hn => ?_⟩
  obtain ⟨ad, rfl, hb, hcell⟩ := h.2 (by omega)
  rw [if_neg (by omega)]
  refine ⟨ad.add (k * size), rfl, by rw [block_of_add]; exact hb, fun j u hu => ?_⟩
  rw [add_of_add]
  exact hcell _ u (by rw [← hu, List.getElem?_drop])
theorem Reads.of_own {base : Nat} {e : TypeId} {c : Nat} (h : w.ownsRow base e size (.slice A n c) n xs) : Reads w w.heap.size size A n xs := by
  refine ⟨h.1, fun hn => ?_⟩
  obtain ⟨g, cap, hv, _, hlt⟩ := h.form hn
  have hA : A = some ⟨g, 0, none⟩ := by injection hv
  subst hA
  exact ⟨_, rfl, hlt, h.cells (g := g) rfl⟩
theorem own_form {base : Nat} {e : TypeId} {v : Value} (h : w.ownsRow base e size v n xs) : ∃ A c, v = .slice A n c ∧ n ≤ c ∧ c ≤ maxLen ∧ Reads w w.heap.size size A n xs := by
  rcases h.2 with ⟨rfl, rfl⟩ | ⟨g, cap, cur, rfl, hb, hg, hnc, hcm, _⟩
  · have hx : xs = [] := List.eq_nil_of_length_eq_zero (by simpa using h.1)
    subst hx
    exact ⟨none, 0, rfl, Nat.le_refl _, by simp [maxLen], .none_⟩
  · exact ⟨_, cap, rfl, hnc, hcm, .of_own h⟩
theorem own_below {base : Nat} {e : TypeId} {v : Value} (h : w.ownsRow base e size v n xs) {B : Nat} (hb : Below B w w') (hB : w.heap.size ≤ B) : w'.ownsRow base e size v n xs := by
  refine ⟨h.1, ?_⟩
  rcases h.2 with hn | ⟨g, cap, cur, rfl, hbg, hgg, rest⟩
  · exact .inl hn
  · refine .inr ⟨g, cap, cur, rfl, hbg, ?_, rest⟩
    rw [hb.block g (by have := (Array.getElem?_eq_some_iff.1 hgg).1; omega)]
    exact hgg
theorem own_mono {base base' : Nat} {e : TypeId} {v : Value} (h : w.ownsRow base e size v n xs) (hb : base' ≤ base) : w.ownsRow base' e size v n xs := by
  refine ⟨h.1, ?_⟩
  rcases h.2 with hn | ⟨g, cap, cur, rfl, hbg, rest⟩
  · exact .inl hn
  · exact .inr ⟨g, cap, cur, rfl, by omega, rest⟩
end
section
variable {P : Program} (w : World)
theorem run_append_of_nil (base : Nat) (t ty e : TypeId) (i : TypeInfo) (size : Nat) (ht : P.underlying t = some (.slice e)) (hi : P.info? e = some i)
    (v : Value) (n : Nat) (xs : List Value) (hown : w.ownsRow base e size v n xs) (c : Nat) : (Builtin.append_ #[t, t] ty #[v, .slice none 0 c]).run P w = .ok v w := by
  rcases hown.2 with ⟨rfl, rfl⟩ | ⟨g, cap, cur, rfl, _, _, hnc, _⟩
  · simp [Builtin.append_, run_underlying ht, sizeOf, typeInfo, hi, Builtin.lenOf, Builtin.firstCells]
  · simp [Builtin.append_, run_underlying ht, sizeOf, typeInfo, hi, Builtin.lenOf, Builtin.firstCells, hnc, storeCells]
theorem run_append_any (base : Nat) (t ty e : TypeId) (i : TypeInfo) (z : Value) (size bytes : Nat) (ht : P.underlying t = some (.slice e)) (hi : P.info? e = some i) (hz : i.zero = some z)
    (hsize : i.size = size) (hby : i.bytes = bytes) (hzs : z.cells.size = size) (hsz : 0 < size)
    (v : Value) (n : Nat) (xs : List Value) (hown : w.ownsRow base e size v n xs)
    (B : Nat) (A : Option Addr) (m c : Nat) (news : List Value) (hr : Reads w B size A m news) (h1 : ∀ u ∈ news, u.oneCell' = true)
    (h63 : n + m ≤ maxLen) (hbytes : (n + m) * bytes ≤ 140737488355328) (hbase : base ≤ w.heap.size) :
    ∃ v' w', (Builtin.append_ #[t, t] ty #[v, .slice A m c]).run P w = .ok v' w' ∧ w'.ownsRow base e size v' (n + m) (xs ++ news) ∧ w.grownBy w' v.ownBlock ∧
      (v'.ownBlock = v.ownBlock ∨ v'.ownBlock = some w.heap.size) := by
  rcases A with _ | ad
  · have hm : m = 0 := by
      rcases Nat.eq_zero_or_pos m with h0 | h0
      · exact h0
      · obtain ⟨ad, h, _⟩ := hr.2 h0
        cases h
    subst hm
    have hn : news = [] := List.eq_nil_of_length_eq_zero (by simpa using hr.1)
    subst hn
    exact ⟨v, w, run_append_of_nil w base t ty e i size ht hi v n xs hown c, by simpa using hown, World.grownBy.refl w _, .inl rfl⟩
  · have hcells : ∀ j u, news[j]? = some u → w.cell? (ad.add j) = some u := by
      intro j u hu
      rcases Nat.eq_zero_or_pos m with h0 | h0
      · subst h0
        have hn : news = [] := List.eq_nil_of_length_eq_zero (by simpa using hr.1)
        subst hn
        simp at hu
      · obtain ⟨ad', h, _, hc⟩ := hr.2 h0
        injection h with h
        subst h
        exact hc j u hu
    obtain ⟨v', w', hrun, h2, h3, _, h5⟩ := run_append_own_at (P := P) w base t ty e i z size bytes ht hi hz hsize hby hzs hsz v n xs hown ad m c news hr.1 hcells h1 h63 hbytes hbase
    exact ⟨v', w', hrun, h2, h3, h5⟩
theorem wp_append_any {o : Oper} {a : Act} {K : Act → World → Prop} {Q : Exit → Act → World → Prop} (s x : Operand) (t : TypeId)
    (ho : o.op = .call { callee := .builtin .append, args := #[s, x], argTypes := #[t, t] })
    (base : Nat) (e : TypeId) (i : TypeInfo) (z : Value) (size bytes : Nat) (ht : P.underlying t = some (.slice e)) (hi : P.info? e = some i) (hz : i.zero = some z)
    (hsize : i.size = size) (hby : i.bytes = bytes) (hzs : z.cells.size = size) (hsz : 0 < size)
    (v : Value) (n : Nat) (xs : List Value) (hs : a.eval s = v) (hown : w.ownsRow base e size v n xs)
    (B : Nat) (A : Option Addr) (m c : Nat) (news : List Value) (hx : a.eval x = .slice A m c) (hr : Reads w B size A m news) (h1 : ∀ u ∈ news, u.oneCell' = true)
    (h63 : n + m ≤ maxLen) (hbytes : (n + m) * bytes ≤ 140737488355328) (hbase : base ≤ w.heap.size)
    (h : ∀ v' w', w'.ownsRow base e size v' (n + m) (xs ++ news) → w.grownBy w' v.ownBlock → (v'.ownBlock = v.ownBlock ∨ v'.ownBlock = some w.heap.size) → K (a.put o.dst v') w') : o.wp P a w K Q := by
  obtain ⟨v', w', hrun, h2, h3, h4⟩ := run_append_any (P := P) w base t o.type e i z size bytes ht hi hz hsize hby hzs hsz v n xs hown B A m c news hr h1 h63 hbytes hbase
  unfold Oper.wp execOp
  simp only [ho, resolve, invoke, builtin, Sem.run_bind, Sem.run_pure, Result.andThen_ok, List.map_toArray, List.map_cons, List.map_nil, hs, hx, hrun]
  exact h v' w' h2 h3 h4
theorem wpList_append_any {ops : Array Oper} {rest : List Oper} {o : Oper} {a : Act} {Q : Exit → Act → World → Prop} (hgd : o.guard = none) (s x : Operand) (t : TypeId)
    (ho : o.op = .call { callee := .builtin .append, args := #[s, x], argTypes := #[t, t] })
    (base : Nat) (e : TypeId) (i : TypeInfo) (z : Value) (size bytes : Nat) (ht : P.underlying t = some (.slice e)) (hi : P.info? e = some i) (hz : i.zero = some z)
    (hsize : i.size = size) (hby : i.bytes = bytes) (hzs : z.cells.size = size) (hsz : 0 < size)
    (v : Value) (n : Nat) (xs : List Value) (hs : a.eval s = v) (hown : w.ownsRow base e size v n xs)
    (B : Nat) (A : Option Addr) (m c : Nat) (news : List Value) (hx : a.eval x = .slice A m c) (hr : Reads w B size A m news) (h1 : ∀ u ∈ news, u.oneCell' = true)
    (h63 : n + m ≤ maxLen) (hbytes : (n + m) * bytes ≤ 140737488355328) (hbase : base ≤ w.heap.size)
    (h : ∀ v' w', w'.ownsRow base e size v' (n + m) (xs ++ news) → w.grownBy w' v.ownBlock → (v'.ownBlock = v.ownBlock ∨ v'.ownBlock = some w.heap.size) → wpList P ops Q rest (a.put o.dst v') w') : wpList P ops Q (o :: rest) a w :=
  wpList_plain hgd fun _ hK => wp_append_any w s x t ho base e i z size bytes ht hi hz hsize hby hzs hsz v n xs hs hown B A m c news hx hr h1 h63 hbytes hbase fun v' w' h2 h3 h4 => hK _ _ (h v' w' h2 h3 h4)
end
theorem grown_below {base : Nat} {w w' : World} {e : TypeId} {size n : Nat} {v : Value} {xs : List Value} (h : w.ownsRow base e size v n xs) (hg : w.grownBy w' v.ownBlock) (hb : base ≤ w.heap.size) : Below base w w' :=
  (Below.refl base w).grown hg hb fun k hk => (h.lt k hk).1
def bs (l : List UInt8) : List Value := l.map fun c => Value.int .u8 (c.toNat : Int)
def us (l : List Nat) : List Value := l.map fun (n : Nat) => Value.int .u64 (n : Int)
theorem bs_len (l : List UInt8) : (bs l).length = l.length := by simp [bs]
theorem bs_append (a b : List UInt8) : bs (a ++ b) = bs a ++ bs b := by simp [bs]
theorem bs_one (l : List UInt8) : ∀ u ∈ bs l, u.oneCell' = true := by
  intro u hu
  simp only [bs, List.mem_map] at hu
  obtain ⟨c, _, rfl⟩ := hu
  rfl
theorem bs_get {l : List UInt8} {k : Nat} (h : k < l.length) : (bs l)[k]? = some (.int .u8 ((l[k]?.getD 0).toNat : Int)) := by
  simp [bs, List.getElem?_eq_getElem h]
theorem us_get {l : List Nat} {k : Nat} (h : k < l.length) : (us l)[k]? = some (.int .u64 ((l[k]?.getD 0 : Nat) : Int)) := by
  simp [us, List.getElem?_eq_getElem h]
abbrev RdB (w : World) (B : Nat) (A : Option Addr) (l : List UInt8) : Prop := Reads w B 1 A l.length (bs l)
abbrev RdU (w : World) (B : Nat) (A : Option Addr) (l : List Nat) : Prop := Reads w B 1 A l.length (us l)
theorem RdB.at_ {w : World} {B : Nat} {A : Option Addr} {l : List UInt8} {k : Nat} (h : RdB w B A l) (hk : k < l.length) :
    ∃ (ad : Addr) (x : UInt8), A = some ad ∧ ad.block < B ∧ w.cell? (ad.add k) = some (.int .u8 (x.toNat : Int)) ∧ Hid (l[k]? = some x) := by
  obtain ⟨ad, u, e, hb, hx, hc⟩ := Reads.at_ h hk
  rw [bs_get hk] at hx
  injection hx with hx
  subst hx
  exact ⟨ad, _, e, hb, hc, by simp [Hid, hk]⟩
theorem RdU.at_ {w : World} {B : Nat} {A : Option Addr} {l : List Nat} {k : Nat} (h : RdU w B A l) (hk : k < l.length) :
    ∃ (ad : Addr) (x : Nat), A = some ad ∧ ad.block < B ∧ w.cell? (ad.add k) = some (.int .u64 (x : Int)) ∧ Hid (l[k]? = some x) := by
  obtain ⟨ad, u, e, hb, hx, hc⟩ := Reads.at_ h hk
  rw [us_get hk] at hx
  injection hx with hx
  subst hx
  exact ⟨ad, _, e, hb, hc, by simp [Hid, hk]⟩
theorem mem_of_get {α : Type} {l : List α} {k : Nat} {x : α} (h : Hid (l[k]? = some x)) : x ∈ l := List.mem_of_getElem? h.out
theorem take_snoc {α : Type} {l : List α} {k : Nat} {x : α} (h : Hid (l[k]? = some x)) : l.take (k + 1) = l.take k ++ [x] := by
  rw [List.take_add_one, h.out]; rfl
theorem drop_cons {α : Type} {l : List α} {k : Nat} {x : α} (h : Hid (l[k]? = some x)) : l.drop k = x :: l.drop (k + 1) := by
  obtain ⟨hk, e⟩ := List.getElem?_eq_some_iff.1 h.out
  rw [List.drop_eq_getElem_cons hk, e]
end Go.Proofs.YtbhmnmmockmibaaGreat

namespace Go.Proofs.YtbhmnmmockmibaaGreat
open Go.RowKit
theorem Tryz.info5 : (Tryz.prog.info? 5).map (fun i => (i.zero, i.size, i.bytes)) = some (some (.int .u8 0), 1, 1) := by kernel_rfl
theorem reads_new (w : World) (t : TypeId) (xs : List Value) : Reads (w.alloc (.cells xs.toArray t)) (w.heap.size + 1) 1 (some ⟨w.heap.size, 0, none⟩) xs.length xs := by
  refine ⟨by omega, fun _ => ⟨_, rfl, by simp, fun j u hu => ?_⟩⟩
  have hadd : (⟨w.heap.size, 0, none⟩ : Addr).add j = ⟨w.heap.size, j, none⟩ := by unfold Addr.add; split <;> simp_all
  rw [hadd, cell_of_row (w.alloc (.cells xs.toArray t)) w.heap.size j xs.toArray t (0, 0) (heap_alloc_new w _)]
  simpa using hu
theorem reads_byte (w : World) (t : TypeId) (x : Int) (c : UInt8) (h : x = (c.toNat : Int)) : Reads (w.alloc (.cells #[.int .u8 x] t)) (w.heap.size + 1) 1 (some ⟨w.heap.size, 0, none⟩) 1 (bs [c]) := by
  subst h
  exact reads_new w t (bs [c])
theorem reads_lit (W : World) {xs : List Value} {l : List UInt8} (hx : xs = bs l) : RdB (W.alloc (.cells xs.toArray 5)) (W.heap.size + 1) (some ⟨W.heap.size, 0, none⟩) l := by
  subst hx
  have := reads_new W 5 (bs l)
  rwa [bs_len] at this
section
variable {ops : Array Oper} {rest : List Oper} {o : Oper} {a : Act} {Q : Exit → Act → World → Prop} {w : World} {base : Nat} {v : Value}
theorem push_row (s x : Operand) {l m : List UInt8} {B : Nat} {A : Option Addr} {c : Nat} (hown : w.ownsRow base 5 1 v l.length (bs l)) (hbase : base ≤ w.heap.size) (hr : RdB w B A m) (hl : l.length + m.length ≤ 140737488355327)
    (hgd : o.guard = none) (ho : o.op = .call { callee := .builtin .append, args := #[s, x], argTypes := #[38, 38] })
    (hs : a.eval s = v) (hx : a.eval x = .slice A m.length c)
    (h : ∀ v' w', w'.ownsRow base 5 1 v' (l ++ m).length (bs (l ++ m)) → Below base w w' → base ≤ w'.heap.size → w.grownBy w' v.ownBlock → wpList Tryz.prog ops Q rest (a.put o.dst v') w') :
    wpList Tryz.prog ops Q (o :: rest) a w := by
  obtain ⟨i0, hi0, hz0, hz1, hz2⟩ := info_parts Tryz.info5
  refine wpList_append_any _ hgd s x _ ho base 5 i0 _ 1 1 Tryz.underlying38 hi0 hz0 hz1 hz2 rfl (by omega) v _ _ hs hown B A m.length c (bs m) hx hr (bs_one _) (by simp only [maxLen]; omega) (by omega) hbase ?_
  intro v1 w1 h1 h2 _
  have hb := grown_below hown h2 hbase
  refine h v1 w1 ?_ hb (Nat.le_trans hbase hb.size) h2
  rw [bs_append, List.length_append]
  exact h1
end
def noughts (n : Nat) : List UInt8 := List.replicate n 0
theorem noughts_len (n : Nat) : (noughts n).length = n := by simp [noughts]
theorem made_noughts (n : Nat) : (madeCells (Value.int .u8 0).cells (n * 1)).toList = bs (noughts n) := by
  unfold madeCells bs noughts
  rw [Array.toList_map, Array.toList_range, Nat.mul_one, List.map_replicate]
  apply List.ext_getElem
  · simp
  · intro i h1 h2
    simp [Value.cells, Nat.mod_one]
theorem run_make_bytes (w : World) (n : Nat) (z : Int) (hz : z = (n : Int)) (hn : n ≤ 140737488351232) :
    (Instr.makeSlice 38 (.int .i64 z) (.int .i64 z)).run Tryz.prog w = .ok (.slice (some ⟨w.heap.size, 0, none⟩) n n) (w.alloc (.cells (bs (noughts n)).toArray 5)) := by
  subst hz
  obtain ⟨i0, hi0, hz0, hz1, hz2⟩ := info_parts Tryz.info5
  have h := run_make w 38 5 i0 _ Tryz.underlying38 hi0 hz0 .i64 .i64 (n : Int) (n : Int) (by omega) (by omega) (by rw [hz2]; omega) (by omega)
  have e : madeCells (Value.int .u8 0).cells (n * 1) = (bs (noughts n)).toArray := by rw [← made_noughts]
  rw [hz1, Int.toNat_natCast, e] at h
  exact h
end Go.Proofs.YtbhmnmmockmibaaGreat

namespace Go.Proofs.YtbhmnmmockmibaaGreat
open Go.RowKit
def txt (l : List UInt8) : ByteArray := ⟨l.toArray⟩
theorem txt_size (l : List UInt8) : (txt l).size = l.length := by simp [txt, ByteArray.size]
end Go.Proofs.YtbhmnmmockmibaaGreat

namespace Go.Proofs.YtbhmnmmockmibaaGreat
open Go.RowKit
structure Row where
  A : Option Addr
  c : Nat
  l : List UInt8
def Row.v (r : Row) : Value := .slice r.A r.l.length r.c
structure RdR (w : World) (B : Nat) (A : Option Addr) (rows : List Row) : Prop where
  top : Reads w B 1 A rows.length (rows.map Row.v)
  row : ∀ r ∈ rows, RdB w B r.A r.l
def bytes (rows : List Row) : List UInt8 := rows.flatMap (·.l)
section
variable {w w' : World} {B B' : Nat} {A : Option Addr} {rows : List Row}
theorem RdR.keep (h : RdR w B A rows) (hk : ∀ p : Addr, p.block < B → w'.cell? p = w.cell? p) : RdR w' B A rows := ⟨h.top.keep hk, fun r hr => (h.row r hr).keep hk⟩
theorem RdR.below (h : RdR w B A rows) (hb : Below B w w') : RdR w' B A rows := ⟨h.top.below hb, fun r hr => (h.row r hr).below hb⟩
theorem RdR.more (h : RdR w B A rows) (hB : B ≤ B') : RdR w B' A rows := ⟨h.top.more hB, fun r hr => (h.row r hr).more hB⟩
theorem RdR.drew (h : RdR w B A rows) : RdR w.drew B A rows := ⟨h.top.drew, fun r hr => (h.row r hr).drew⟩
theorem RdR.drewN (h : RdR w B A rows) (k : Nat) : RdR (w.drewN k) B A rows := ⟨h.top.drewN k, fun r hr => (h.row r hr).drewN k⟩
theorem RdR.alloc (h : RdR w B A rows) (hB : B ≤ w.heap.size) (o : Obj) : RdR (w.alloc o) B A rows := ⟨h.top.alloc hB o, fun r hr => (h.row r hr).alloc hB o⟩
theorem RdR.at_ {k : Nat} (h : RdR w B A rows) (hk : k < rows.length) :
    ∃ (ad : Addr) (r : Row), A = some ad ∧ ad.block < B ∧ w.cell? (ad.add k) = some (.slice r.A r.l.length r.c) ∧ Hid (rows[k]? = some r) ∧ RdB w B r.A r.l := by
  obtain ⟨ad, u, e, hb, hx, hc⟩ := Reads.at_ h.top hk
  have hr : rows[k]? = some rows[k] := List.getElem?_eq_getElem hk
  rw [List.getElem?_map, hr] at hx
  injection hx with hx
  subst hx
  exact ⟨ad, _, e, hb, hc, hr, h.row _ (List.mem_of_getElem? hr)⟩
end
theorem RdR.new (w : World) (B : Nat) (rows : List Row) (t : TypeId) (hB : B ≤ w.heap.size) (h : ∀ r ∈ rows, RdB w B r.A r.l) : RdR (w.alloc (.cells (rows.map Row.v).toArray t)) (w.heap.size + 1) (some ⟨w.heap.size, 0, none⟩) rows := by
  have := reads_new w t (rows.map Row.v)
  rw [List.length_map] at this
  exact ⟨this, fun r hr => Reads.more ((h r hr).alloc hB _) (by omega)⟩
structure Owns (base : Nat) (w : World) (v : Value) (own : List Row) : Prop where
  head : w.ownsRow base 38 1 v own.length (own.map Row.v)
  row : ∀ r ∈ own, RdB w w.heap.size r.A r.l
  apart : ∀ r ∈ own, ∀ ad, r.A = some ad → ad.block < w.heap.size ∧ v.ownBlock ≠ some ad.block
theorem Owns.nil (base : Nat) (w : World) : Owns base w (.slice none 0 0) [] := ⟨World.ownsRow_nil _ _ _ _, by simp, by simp⟩
theorem Owns.below {base : Nat} {w w' : World} {v : Value} {own : List Row} (h : Owns base w v own) (hb : Below w.heap.size w w') : Owns base w' v own :=
  ⟨own_below h.head hb (Nat.le_refl _), fun r hr => Reads.more (Reads.below (h.row r hr) hb) hb.size, fun r hr ad e => ⟨Nat.lt_of_lt_of_le (h.apart r hr ad e).1 hb.size, (h.apart r hr ad e).2⟩⟩
section
variable {b : Act} {w : World} {o : Oper}
theorem exec_make {x y : Operand} {n : Nat} (ho : o.op = .makeSlice 38 x y) (h : b.eval x = .int .i64 (n : Int)) (h' : b.eval y = .int .i64 (n : Int)) (hn : n ≤ 140737488351232) :
    (execOp b.eval o).run Tryz.prog w = .ok (.value (.slice (some ⟨w.heap.size, 0, none⟩) n n)) (w.alloc (.cells (bs (noughts n)).toArray 5)) := by
  unfold execOp
  simp only [ho, h, h', Sem.run_bind, run_make_bytes w n (n : Int) rfl hn, Result.andThen_ok]
  rfl
theorem exec_back {x y : Operand} {A : Option Addr} {n m c : Nat} (ho : o.op = .slice 38 x (some y) none none) (h : b.eval x = .slice A n c) (h' : b.eval y = .int .i64 (m : Int)) (hm : m ≤ n) (hc : n ≤ c) :
    (execOp b.eval o).run Tryz.prog w = .ok (.value (.slice (if c = m then A else A.map (·.add m)) (n - m) (c - m))) w := by
  have hm' : (m : Int) ≤ n := by omega
  have hc' : (n : Int) ≤ c := by omega
  unfold execOp
  simp only [ho, Option.map_none, Option.map_some, h, h']
  go_simp
end
def Three (w : World) (v : Value) (l : List UInt8) : Prop := ∃ N r1 r2 r3, v = .slice (some ⟨N, 0, none⟩) 3 3 ∧ bytes [r1, r2, r3] = l ∧ RdR w w.heap.size (some ⟨N, 0, none⟩) [r1, r2, r3]
theorem Three.keep {w w' : World} {v : Value} {l : List UInt8} (h : Three w v l) (hb : Below w.heap.size w w') : Three w' v l := by
  obtain ⟨N, r1, r2, r3, e, hl, hr⟩ := h
  exact ⟨N, r1, r2, r3, e, hl, (hr.below hb).more hb.size⟩
theorem Three.new (w : World) (B : Nat) (A A' A'' : Option Addr) (n c n' c' n'' c'' : Nat) (l l' l'' m : List UInt8) (hn : l.length = n) (hn' : l'.length = n') (hn'' : l''.length = n'') (hm : l ++ (l' ++ l'') = m) (hB : B ≤ w.heap.size)
    (hr : RdB w B A l) (hr' : RdB w B A' l') (hr'' : RdB w B A'' l'') :
    Three (w.alloc (.cells #[.slice A n c, .slice A' n' c', .slice A'' n'' c''] 38)) (.slice (some ⟨w.heap.size, 0, none⟩) 3 3) m := by
  subst hn hn' hn'' hm
  have := RdR.new w B [⟨A, c, l⟩, ⟨A', c', l'⟩, ⟨A'', c'', l''⟩] 38 hB (by
    intro r hr'
    simp only [List.mem_cons, List.not_mem_nil, or_false] at hr'
    rcases hr' with rfl | rfl | rfl <;> assumption)
  exact ⟨_, ⟨A, c, l⟩, ⟨A', c', l'⟩, ⟨A'', c'', l''⟩, rfl, by simp [bytes], this.more (by simp)⟩
def One (w : World) (v : Value) (l : List UInt8) : Prop := ∃ N r, v = .slice (some ⟨N, 0, none⟩) 1 1 ∧ Row.l r = l ∧ RdR w w.heap.size (some ⟨N, 0, none⟩) [r]
theorem One.keep {w w' : World} {v : Value} {l : List UInt8} (h : One w v l) (hb : Below w.heap.size w w') : One w' v l := by
  obtain ⟨N, r, e, hl, hr⟩ := h
  exact ⟨N, r, e, hl, (hr.below hb).more hb.size⟩
theorem One.new (w : World) (B : Nat) (A : Option Addr) (n c : Nat) (l : List UInt8) (hn : l.length = n) (hB : B ≤ w.heap.size) (hr : RdB w B A l) :
    One (w.alloc (.cells #[.slice A n c] 38)) (.slice (some ⟨w.heap.size, 0, none⟩) 1 1) l := by
  subst hn
  have := RdR.new w B [⟨A, c, l⟩] 38 hB (by intro r hr'; simp only [List.mem_singleton] at hr'; subst hr'; exact hr)
  exact ⟨_, ⟨A, c, l⟩, rfl, rfl, this.more (by simp)⟩
theorem RdB.back {w : World} {B : Nat} {A : Option Addr} {l : List UInt8} (h : RdB w B A l) {k c : Nat} (hk : k ≤ l.length) (hc : l.length ≤ c) : RdB w B (if c = k then A else A.map (·.add k)) (l.drop k) := by
  have := Reads.cut h hk hc
  rw [Nat.mul_one] at this
  have e : (bs l).drop k = bs (l.drop k) := by simp [bs]
  rw [e] at this
  have e2 : (l.drop k).length = l.length - k := by simp
  rw [← e2] at this
  exact this
theorem RdB.first {w : World} {B : Nat} {A : Option Addr} {l : List UInt8} (h : RdB w B A l) {n : Nat} (hn : n ≤ l.length) : RdB w B A (l.take n) := by
  have hl : (l.take n).length = n := by rw [List.length_take]; omega
  refine ⟨by rw [bs_len]; omega, fun h0 => ?_⟩
  obtain ⟨ad, e, hb, hc⟩ := h.2 (by omega)
  refine ⟨ad, e, hb, fun j u hu => hc j u ?_⟩
  unfold bs at hu ⊢
  rw [List.map_take, List.getElem?_take] at hu
  split at hu
  · exact hu
  · cases hu
end Go.Proofs.YtbhmnmmockmibaaGreat
