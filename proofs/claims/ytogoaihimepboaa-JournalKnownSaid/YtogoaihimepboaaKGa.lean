/- Plain words for memory, of no one function: a slice that reads as a list, blocks of the call's own, appends onto them. Conditions: none. -/
/- One byte, or a row of bytes, behind a row of the call's own; a new row read. Conditions: rows of at most 2^41 bytes. -/
/- A row of bytes, turned into a text. Conditions: none. -/
/- A slice of rows of bytes, as a slice value reads. Conditions: none. -/
/- A region that draws its order, by facts: each operation, in whatever world it comes up, lays what is said of it, and takes nothing away of what has been said. No order is walked. Conditions: none. -/
/- Appends that tell which blocks stay: variables of the call that lie apart from the row. Conditions: rows of at most 2^47 bytes. -/
/- From a walk that returns true and leaves old memory as it was to the row of a law: the arguments opened, and read again behind the call. Conditions: none. -/
/- A slice of rows of bytes that came in, opened. Conditions: none. -/
import Derived.Test.YtogoaihimepboaaRows
import Derived.WalkKit
import Derived.WalkSpells
import Derived.WalkLawsBesides
import Derived.Maps.AppendAt
import Derived.Deep.AppendLies
import Derived.Deep.Draws
import Derived.Deep.QuietTactic
import Derived.BigQuiet
import Derived.Deep.DeepFit
import Derived.Lib.Hide
import Derived.IntWalk
import Derived.Handy
import Derived.OwnWalk
import Derived.Laws.BytesString
import Derived.Laws.BytesArg
import Derived.Orders
import Derived.ProofKit
import Derived.OpenShut
import Derived.Deep.Matrix

namespace Go.Proofs.Ytogoaihimepboaa
open Go.RowKit

theorem ret_bool {a b : Bool} (h : a = b) : Ending.returned (.bool a) = .returned (.bool b) := by rw [h]
theorem block_of_add (a : Addr) (n : Nat) : (a.add n).block = a.block := by unfold Addr.add; split <;> rfl
theorem add_of_add (a : Addr) (i j : Nat) : (a.add i).add j = a.add (i + j) := by
  unfold Addr.add
  by_cases hi : i = 0 <;> by_cases hj : j = 0 <;> simp [hi, hj, Nat.add_assoc]
theorem below_drewN {B : Nat} {a w : World} (h : Below B a w) (n : Nat) : Below B a (w.drewN n) := ⟨h.os, h.tape, h.output, h.size, h.block⟩

/-- A slice value that reads as a list of cells, all below block B. -/
def Reads (w : World) (B size : Nat) (A : Option Addr) (n : Nat) (xs : List Value) : Prop :=
  xs.length = n * size ∧ (0 < n → ∃ ad, A = some ad ∧ ad.block < B ∧ ∀ j u, xs[j]? = some u → w.cell? (ad.add j) = some u)

section
variable {w w' : World} {B B' size n : Nat} {A : Option Addr} {xs : List Value}
theorem Reads.none_ : Reads w B size A 0 [] := ⟨by simp, fun h => absurd h (by omega)⟩
theorem Reads.at_ {k : Nat} (h : Reads w B 1 A n xs) (hk : k < n) : ∃ ad u, A = some ad ∧ ad.block < B ∧ xs[k]? = some u ∧ w.cell? (ad.add k) = some u := by
  obtain ⟨ad, e, hb, hc⟩ := h.2 (by omega)
  have hl : k < xs.length := by have := h.1; omega
  exact ⟨ad, xs[k], e, hb, List.getElem?_eq_getElem hl, hc k _ (List.getElem?_eq_getElem hl)⟩
theorem Reads.keep (h : Reads w B size A n xs) (hk : ∀ p : Addr, p.block < B → w'.cell? p = w.cell? p) : Reads w' B size A n xs :=
  ⟨h.1, fun hn => by
    obtain ⟨ad, e, hb, hc⟩ := h.2 hn
    exact ⟨ad, e, hb, fun j u hu => (hk _ (by rw [block_of_add]; exact hb)).trans (hc j u hu)⟩⟩
theorem Reads.more (h : Reads w B size A n xs) (hB : B ≤ B') : Reads w B' size A n xs :=
  ⟨h.1, fun hn => by
    obtain ⟨ad, e, hb, hc⟩ := h.2 hn
    exact ⟨ad, e, by omega, hc⟩⟩
theorem Reads.below (h : Reads w B size A n xs) (hb : Below B w w') : Reads w' B size A n xs := h.keep fun _ hp => hb.cell hp
theorem Reads.drew (h : Reads w B size A n xs) : Reads w.drew B size A n xs := h
theorem Reads.drewN (h : Reads w B size A n xs) (k : Nat) : Reads (w.drewN k) B size A n xs := h
theorem Reads.alloc (h : Reads w B size A n xs) (hB : B ≤ w.heap.size) (o : Obj) : Reads (w.alloc o) B size A n xs := h.keep fun p hp => World.cell?_alloc_lt w o p (by omega)
theorem Reads.setCell (h : Reads w B size A n xs) {p : Addr} (hB : B ≤ p.block) (u : Value) : Reads (w.setCell p u) B size A n xs :=
  h.keep fun q hq => World.cell?_setCell_other w p q u (fun e => by subst e; omega)
theorem Reads.grown (h : Reads w B size A n xs) {row : Option Nat} (hg : w.grownBy w' row) (hB : B ≤ w.heap.size) (hr : ∀ g, row = some g → B ≤ g) : Reads w' B size A n xs :=
  h.keep fun p hp => World.cell?_of_block (hg.block p.block (by omega) (fun e => by have := hr _ e.symm; omega))
theorem Reads.cut (h : Reads w B size A n xs) {k cap : Nat} (hk : k ≤ n) (hc : n ≤ cap) :
    Reads w B size (if cap = k then A else A.map (·.add (k * size))) (n - k) (xs.drop (k * size)) := by
  refine ⟨by rw [List.length_drop, h.1, Nat.sub_mul], fun hn => ?_⟩
  obtain ⟨ad, rfl, hb, hcell⟩ := h.2 (by omega)
  rw [if_neg (by omega)]
  refine ⟨ad.add (k * size), rfl, by rw [block_of_add]; exact hb, fun j u hu => ?_⟩
  rw [add_of_add]
  exact hcell _ u (by rw [← hu, List.getElem?_drop])
theorem Reads.of_own {base : Nat} {e : TypeId} {c : Nat} (h : w.ownsRow base e size (.slice A n c) n xs) : Reads w w.heap.size size A n xs := by
  refine ⟨h.1, fun hn => ?_⟩
  obtain ⟨g, cap, hv, _, hlt⟩ := h.form hn
  have hA : A = some ⟨g, 0, none⟩ := by injection hv
  subst hA
  exact ⟨_, rfl, hlt, h.cells (g := g) rfl⟩
/-- What a call owns, as a slice value that reads so. -/
theorem own_form {base : Nat} {e : TypeId} {v : Value} (h : w.ownsRow base e size v n xs) : ∃ A c, v = .slice A n c ∧ n ≤ c ∧ c ≤ maxLen ∧ Reads w w.heap.size size A n xs := by
  rcases h.2 with ⟨rfl, rfl⟩ | ⟨g, cap, cur, rfl, hb, hg, hnc, hcm, _⟩
  · have hx : xs = [] := List.eq_nil_of_length_eq_zero (by simpa using h.1)
    subst hx
    exact ⟨none, 0, rfl, Nat.le_refl _, by simp [maxLen], .none_⟩
  · exact ⟨_, cap, rfl, hnc, hcm, .of_own h⟩
/-- What is owned from base on stays so below a frame that lies above its block. -/
theorem own_below {base : Nat} {e : TypeId} {v : Value} (h : w.ownsRow base e size v n xs) {B : Nat} (hb : Below B w w') (hB : w.heap.size ≤ B) : w'.ownsRow base e size v n xs := by
  refine ⟨h.1, ?_⟩
  rcases h.2 with hn | ⟨g, cap, cur, rfl, hbg, hgg, rest⟩
  · exact .inl hn
  · refine .inr ⟨g, cap, cur, rfl, hbg, ?_, rest⟩
    rw [hb.block g (by have := (Array.getElem?_eq_some_iff.1 hgg).1; omega)]
    exact hgg
theorem own_mono {base base' : Nat} {e : TypeId} {v : Value} (h : w.ownsRow base e size v n xs) (hb : base' ≤ base) : w.ownsRow base' e size v n xs := by
  refine ⟨h.1, ?_⟩
  rcases h.2 with hn | ⟨g, cap, cur, rfl, hbg, rest⟩
  · exact .inl hn
  · exact .inr ⟨g, cap, cur, rfl, by omega, rest⟩
end

section
variable {P : Program} (w : World)

theorem run_append_of_nil (base : Nat) (t ty e : TypeId) (i : TypeInfo) (size : Nat) (ht : P.underlying t = some (.slice e)) (hi : P.info? e = some i)
    (v : Value) (n : Nat) (xs : List Value) (hown : w.ownsRow base e size v n xs) (c : Nat) : (Builtin.append_ #[t, t] ty #[v, .slice none 0 c]).run P w = .ok v w := by
  rcases hown.2 with ⟨rfl, rfl⟩ | ⟨g, cap, cur, rfl, _, _, hnc, _⟩
  · simp [Builtin.append_, run_underlying ht, sizeOf, typeInfo, hi, Builtin.lenOf, Builtin.firstCells]
  · simp [Builtin.append_, run_underlying ht, sizeOf, typeInfo, hi, Builtin.lenOf, Builtin.firstCells, hnc, storeCells]

theorem run_append_any (base : Nat) (t ty e : TypeId) (i : TypeInfo) (z : Value) (size bytes : Nat) (ht : P.underlying t = some (.slice e)) (hi : P.info? e = some i) (hz : i.zero = some z)
    (hsize : i.size = size) (hby : i.bytes = bytes) (hzs : z.cells.size = size) (hsz : 0 < size)
    (v : Value) (n : Nat) (xs : List Value) (hown : w.ownsRow base e size v n xs)
    (B : Nat) (A : Option Addr) (m c : Nat) (news : List Value) (hr : Reads w B size A m news) (h1 : ∀ u ∈ news, u.oneCell' = true)
    (h63 : n + m ≤ maxLen) (hbytes : (n + m) * bytes ≤ 140737488355328) (hbase : base ≤ w.heap.size) :
    ∃ v' w', (Builtin.append_ #[t, t] ty #[v, .slice A m c]).run P w = .ok v' w' ∧ w'.ownsRow base e size v' (n + m) (xs ++ news) ∧ w.grownBy w' v.ownBlock ∧
      (v'.ownBlock = v.ownBlock ∨ v'.ownBlock = some w.heap.size) := by
  rcases A with _ | ad
  · have hm : m = 0 := by
      rcases Nat.eq_zero_or_pos m with h0 | h0
      · exact h0
      · obtain ⟨ad, h, _⟩ := hr.2 h0
        cases h
    subst hm
    have hn : news = [] := List.eq_nil_of_length_eq_zero (by simpa using hr.1)
    subst hn
    exact ⟨v, w, run_append_of_nil w base t ty e i size ht hi v n xs hown c, by simpa using hown, World.grownBy.refl w _, .inl rfl⟩
  · have hcells : ∀ j u, news[j]? = some u → w.cell? (ad.add j) = some u := by
      intro j u hu
      rcases Nat.eq_zero_or_pos m with h0 | h0
      · subst h0
        have hn : news = [] := List.eq_nil_of_length_eq_zero (by simpa using hr.1)
        subst hn
        simp at hu
      · obtain ⟨ad', h, _, hc⟩ := hr.2 h0
        injection h with h
        subst h
        exact hc j u hu
    obtain ⟨v', w', hrun, h2, h3, _, h5⟩ := run_append_own_at (P := P) w base t ty e i z size bytes ht hi hz hsize hby hzs hsz v n xs hown ad m c news hr.1 hcells h1 h63 hbytes hbase
    exact ⟨v', w', hrun, h2, h3, h5⟩

theorem wp_append_any {o : Oper} {a : Act} {K : Act → World → Prop} {Q : Exit → Act → World → Prop} (s x : Operand) (t : TypeId)
    (ho : o.op = .call { callee := .builtin .append, args := #[s, x], argTypes := #[t, t] })
    (base : Nat) (e : TypeId) (i : TypeInfo) (z : Value) (size bytes : Nat) (ht : P.underlying t = some (.slice e)) (hi : P.info? e = some i) (hz : i.zero = some z)
    (hsize : i.size = size) (hby : i.bytes = bytes) (hzs : z.cells.size = size) (hsz : 0 < size)
    (v : Value) (n : Nat) (xs : List Value) (hs : a.eval s = v) (hown : w.ownsRow base e size v n xs)
    (B : Nat) (A : Option Addr) (m c : Nat) (news : List Value) (hx : a.eval x = .slice A m c) (hr : Reads w B size A m news) (h1 : ∀ u ∈ news, u.oneCell' = true)
    (h63 : n + m ≤ maxLen) (hbytes : (n + m) * bytes ≤ 140737488355328) (hbase : base ≤ w.heap.size)
    (h : ∀ v' w', w'.ownsRow base e size v' (n + m) (xs ++ news) → w.grownBy w' v.ownBlock → (v'.ownBlock = v.ownBlock ∨ v'.ownBlock = some w.heap.size) → K (a.put o.dst v') w') : o.wp P a w K Q := by
  obtain ⟨v', w', hrun, h2, h3, h4⟩ := run_append_any (P := P) w base t o.type e i z size bytes ht hi hz hsize hby hzs hsz v n xs hown B A m c news hr h1 h63 hbytes hbase
  unfold Oper.wp execOp
  simp only [ho, resolve, invoke, builtin, Sem.run_bind, Sem.run_pure, Result.andThen_ok, List.map_toArray, List.map_cons, List.map_nil, hs, hx, hrun]
  exact h v' w' h2 h3 h4

theorem wpList_append_any {ops : Array Oper} {rest : List Oper} {o : Oper} {a : Act} {Q : Exit → Act → World → Prop} (hgd : o.guard = none) (s x : Operand) (t : TypeId)
    (ho : o.op = .call { callee := .builtin .append, args := #[s, x], argTypes := #[t, t] })
    (base : Nat) (e : TypeId) (i : TypeInfo) (z : Value) (size bytes : Nat) (ht : P.underlying t = some (.slice e)) (hi : P.info? e = some i) (hz : i.zero = some z)
    (hsize : i.size = size) (hby : i.bytes = bytes) (hzs : z.cells.size = size) (hsz : 0 < size)
    (v : Value) (n : Nat) (xs : List Value) (hs : a.eval s = v) (hown : w.ownsRow base e size v n xs)
    (B : Nat) (A : Option Addr) (m c : Nat) (news : List Value) (hx : a.eval x = .slice A m c) (hr : Reads w B size A m news) (h1 : ∀ u ∈ news, u.oneCell' = true)
    (h63 : n + m ≤ maxLen) (hbytes : (n + m) * bytes ≤ 140737488355328) (hbase : base ≤ w.heap.size)
    (h : ∀ v' w', w'.ownsRow base e size v' (n + m) (xs ++ news) → w.grownBy w' v.ownBlock → (v'.ownBlock = v.ownBlock ∨ v'.ownBlock = some w.heap.size) → wpList P ops Q rest (a.put o.dst v') w') : wpList P ops Q (o :: rest) a w :=
  wpList_plain hgd fun _ hK => wp_append_any w s x t ho base e i z size bytes ht hi hz hsize hby hzs hsz v n xs hs hown B A m c news hx hr h1 h63 hbytes hbase fun v' w' h2 h3 h4 => hK _ _ (h v' w' h2 h3 h4)
end

/-- Behind an append onto a row owned from base on: what lies below base is as it was. -/
theorem grown_below {base : Nat} {w w' : World} {e : TypeId} {size n : Nat} {v : Value} {xs : List Value} (h : w.ownsRow base e size v n xs) (hg : w.grownBy w' v.ownBlock) (hb : base ≤ w.heap.size) : Below base w w' :=
  (Below.refl base w).grown hg hb fun k hk => (h.lt k hk).1

/-! ### bytes and words as cells -/
/-- The cells of a row of bytes. -/
def bs (l : List UInt8) : List Value := l.map fun c => Value.int .u8 (c.toNat : Int)
/-- The cells of a row of 64-bit words. -/
def us (l : List Nat) : List Value := l.map fun (n : Nat) => Value.int .u64 (n : Int)
theorem bs_len (l : List UInt8) : (bs l).length = l.length := by simp [bs]
theorem us_len (l : List Nat) : (us l).length = l.length := by simp [us]
theorem bs_append (a b : List UInt8) : bs (a ++ b) = bs a ++ bs b := by simp [bs]
theorem us_append (a b : List Nat) : us (a ++ b) = us a ++ us b := by simp [us]
theorem bs_one (l : List UInt8) : ∀ u ∈ bs l, u.oneCell' = true := by
  intro u hu
  simp only [bs, List.mem_map] at hu
  obtain ⟨c, _, rfl⟩ := hu
  rfl
theorem us_one (l : List Nat) : ∀ u ∈ us l, u.oneCell' = true := by
  intro u hu
  simp only [us, List.mem_map] at hu
  obtain ⟨c, _, rfl⟩ := hu
  rfl
theorem bs_get {l : List UInt8} {k : Nat} (h : k < l.length) : (bs l)[k]? = some (.int .u8 ((l[k]?.getD 0).toNat : Int)) := by
  simp [bs, List.getElem?_eq_getElem h]
theorem us_get {l : List Nat} {k : Nat} (h : k < l.length) : (us l)[k]? = some (.int .u64 ((l[k]?.getD 0 : Nat) : Int)) := by
  simp [us, List.getElem?_eq_getElem h]
theorem bs_inj {a b : List UInt8} (h : bs a = bs b) : a = b := by
  induction a generalizing b with
  | nil => cases b with
    | nil => rfl
    | cons y b => simp [bs] at h
  | cons x a ih => cases b with
    | nil => simp [bs] at h
    | cons y b =>
      simp only [bs, List.map_cons, List.cons.injEq, Value.int.injEq, true_and] at h
      obtain ⟨h1, h2⟩ := h
      have h3 : x.toNat = y.toNat := by omega
      rw [UInt8.toNat_inj.1 h3, ih h2]

/-- A row of bytes, as a slice value reads. -/
abbrev RdB (w : World) (B : Nat) (A : Option Addr) (l : List UInt8) : Prop := Reads w B 1 A l.length (bs l)
/-- A row of words, as a slice value reads. -/
abbrev RdU (w : World) (B : Nat) (A : Option Addr) (l : List Nat) : Prop := Reads w B 1 A l.length (us l)
theorem RdB.at_ {w : World} {B : Nat} {A : Option Addr} {l : List UInt8} {k : Nat} (h : RdB w B A l) (hk : k < l.length) :
    ∃ (ad : Addr) (x : UInt8), A = some ad ∧ ad.block < B ∧ w.cell? (ad.add k) = some (.int .u8 (x.toNat : Int)) ∧ Hid (l[k]? = some x) := by
  obtain ⟨ad, u, e, hb, hx, hc⟩ := Reads.at_ h hk
  rw [bs_get hk] at hx
  injection hx with hx
  subst hx
  exact ⟨ad, _, e, hb, hc, by simp [Hid, hk]⟩
theorem RdU.at_ {w : World} {B : Nat} {A : Option Addr} {l : List Nat} {k : Nat} (h : RdU w B A l) (hk : k < l.length) :
    ∃ (ad : Addr) (x : Nat), A = some ad ∧ ad.block < B ∧ w.cell? (ad.add k) = some (.int .u64 (x : Int)) ∧ Hid (l[k]? = some x) := by
  obtain ⟨ad, u, e, hb, hx, hc⟩ := Reads.at_ h hk
  rw [us_get hk] at hx
  injection hx with hx
  subst hx
  exact ⟨ad, _, e, hb, hc, by simp [Hid, hk]⟩
theorem mem_of_get {α : Type} {l : List α} {k : Nat} {x : α} (h : Hid (l[k]? = some x)) : x ∈ l := List.mem_of_getElem? h.out
theorem take_snoc {α : Type} {l : List α} {k : Nat} {x : α} (h : Hid (l[k]? = some x)) : l.take (k + 1) = l.take k ++ [x] := by
  rw [List.take_add_one, h.out]; rfl
theorem drop_cons {α : Type} {l : List α} {k : Nat} {x : α} (h : Hid (l[k]? = some x)) : l.drop k = x :: l.drop (k + 1) := by
  obtain ⟨hk, e⟩ := List.getElem?_eq_some_iff.1 h.out
  rw [List.drop_eq_getElem_cons hk, e]
end Go.Proofs.Ytogoaihimepboaa

namespace Go.Proofs.Ytogoaihimepboaa
open Go.RowKit

theorem Try.info5 : (Try.prog.info? 5).map (fun i => (i.zero, i.size, i.bytes)) = some (some (.int .u8 0), 1, 1) := by kernel_rfl
theorem reads_new (w : World) (t : TypeId) (xs : List Value) : Reads (w.alloc (.cells xs.toArray t)) (w.heap.size + 1) 1 (some ⟨w.heap.size, 0, none⟩) xs.length xs := by
  refine ⟨by omega, fun _ => ⟨_, rfl, by simp, fun j u hu => ?_⟩⟩
  have hadd : (⟨w.heap.size, 0, none⟩ : Addr).add j = ⟨w.heap.size, j, none⟩ := by unfold Addr.add; split <;> simp_all
  rw [hadd, cell_of_row (w.alloc (.cells xs.toArray t)) w.heap.size j xs.toArray t (0, 0) (heap_alloc_new w _)]
  simpa using hu
/-- One byte more at the end of a row. -/
theorem reads_byte (w : World) (t : TypeId) (x : Int) (c : UInt8) (h : x = (c.toNat : Int)) : Reads (w.alloc (.cells #[.int .u8 x] t)) (w.heap.size + 1) 1 (some ⟨w.heap.size, 0, none⟩) 1 (bs [c]) := by
  subst h
  exact reads_new w t (bs [c])
theorem reads_lit (W : World) {xs : List Value} {l : List UInt8} (hx : xs = bs l) : RdB (W.alloc (.cells xs.toArray 5)) (W.heap.size + 1) (some ⟨W.heap.size, 0, none⟩) l := by
  subst hx
  have := reads_new W 5 (bs l)
  rwa [bs_len] at this

section
variable {ops : Array Oper} {rest : List Oper} {o : Oper} {a : Act} {Q : Exit → Act → World → Prop} {w : World} {base : Nat} {v : Value}
theorem push_byte (s x : Operand) {l : List UInt8} (xi : Int) (c : UInt8) (hown : w.ownsRow base 5 1 v l.length (bs l)) (hbase : base ≤ w.heap.size) (hl : l.length ≤ 140737488355327) (hc : xi = (c.toNat : Int))
    (hgd : o.guard = none) (ho : o.op = .call { callee := .builtin .append, args := #[s, x], argTypes := #[22, 22] })
    (hs : a.eval s = v) (hx : a.eval x = .slice (some ⟨w.heap.size, 0, none⟩) 1 1)
    (h : ∀ v' w', w'.ownsRow base 5 1 v' (l ++ [c]).length (bs (l ++ [c])) → Below base w w' → base ≤ w'.heap.size → wpList Try.prog ops Q rest (a.put o.dst v') w') :
    wpList Try.prog ops Q (o :: rest) a (w.alloc (.cells #[.int .u8 xi] 5)) := by
  obtain ⟨i0, hi0, hz0, hz1, hz2⟩ := info_parts Try.info5
  refine wpList_append_any _ hgd s x _ ho base 5 i0 _ 1 1 Try.underlying22 hi0 hz0 hz1 hz2 rfl (by omega) v _ _ hs (hown.alloc _) (w.heap.size + 1) _ 1 1 (bs [c]) hx (reads_byte _ _ _ _ hc) (bs_one _) (by simp only [maxLen]; omega) (by omega) (by simp; omega) ?_
  intro v1 w1 h1 h2 _
  have hb := ((Below.refl base w).alloc hbase _).trans (grown_below (hown.alloc (.cells #[.int .u8 xi] 5)) h2 (by simp; omega))
  refine h v1 w1 ?_ hb (Nat.le_trans hbase hb.size)
  rw [bs_append]
  simpa using h1
/-- A row of bytes behind a row of the call's own. -/
theorem push_row (s x : Operand) {l m : List UInt8} {B : Nat} {A : Option Addr} {c : Nat} (hown : w.ownsRow base 5 1 v l.length (bs l)) (hbase : base ≤ w.heap.size) (hr : RdB w B A m) (hl : l.length + m.length ≤ 140737488355327)
    (hgd : o.guard = none) (ho : o.op = .call { callee := .builtin .append, args := #[s, x], argTypes := #[22, 22] })
    (hs : a.eval s = v) (hx : a.eval x = .slice A m.length c)
    (h : ∀ v' w', w'.ownsRow base 5 1 v' (l ++ m).length (bs (l ++ m)) → Below base w w' → base ≤ w'.heap.size → w.grownBy w' v.ownBlock → wpList Try.prog ops Q rest (a.put o.dst v') w') :
    wpList Try.prog ops Q (o :: rest) a w := by
  obtain ⟨i0, hi0, hz0, hz1, hz2⟩ := info_parts Try.info5
  refine wpList_append_any _ hgd s x _ ho base 5 i0 _ 1 1 Try.underlying22 hi0 hz0 hz1 hz2 rfl (by omega) v _ _ hs hown B A m.length c (bs m) hx hr (bs_one _) (by simp only [maxLen]; omega) (by omega) hbase ?_
  intro v1 w1 h1 h2 _
  have hb := grown_below hown h2 hbase
  refine h v1 w1 ?_ hb (Nat.le_trans hbase hb.size) h2
  rw [bs_append, List.length_append]
  exact h1
end

/-! ### a row of noughts, and one byte of a row of the call's own written over -/
def noughts (n : Nat) : List UInt8 := List.replicate n 0
theorem noughts_len (n : Nat) : (noughts n).length = n := by simp [noughts]
theorem made_noughts (n : Nat) : (madeCells (Value.int .u8 0).cells (n * 1)).toList = bs (noughts n) := by
  unfold madeCells bs noughts
  rw [Array.toList_map, Array.toList_range, Nat.mul_one, List.map_replicate]
  apply List.ext_getElem
  · simp
  · intro i h1 h2
    simp [Value.cells, Nat.mod_one]
section
variable {ops : Array Oper} {rest : List Oper} {o : Oper} {a : Act} {Q : Exit → Act → World → Prop} {w : World}
theorem make_bytes (base : Nat) (l c : Operand) (n : Nat) (L C : Int) (hn : n ≤ 140737488351232) (hbase : base ≤ w.heap.size) (hgd : o.guard = none) (ho : o.op = .makeSlice 22 l c) (hl : a.eval l = .int .i64 L) (hc : a.eval c = .int .i64 C) (hL : L = (n : Int)) (hC : C = (n : Int))
    (h : ∀ w', w'.ownsRow base 5 1 (.slice (some ⟨w.heap.size, 0, none⟩) n n) n (bs (noughts n)) → Below w.heap.size w w' → w.heap.size ≤ w'.heap.size → wpList Try.prog ops Q rest (a.put o.dst (.slice (some ⟨w.heap.size, 0, none⟩) n n)) w') :
    wpList Try.prog ops Q (o :: rest) a w := by
  obtain ⟨i0, hi0, hz0, hz1, hz2⟩ := info_parts Try.info5
  refine wpList_make_full w hgd l c _ ho base 5 i0 _ 1 Try.underlying22 hi0 hz0 hz1 .i64 .i64 L C n hl hc hL hC (by rw [hz2]; omega) (by simp only [maxLen]; omega) hbase ?_
  intro w' hown hg
  rw [made_noughts] at hown
  have hb : Below w.heap.size w w' := (Below.refl _ w).grown hg (Nat.le_refl _) (fun k hk => by cases hk)
  exact h w' hown hb hb.size
end
/-- The same, as a rule for the walk. -/
theorem run_make_bytes (w : World) (n : Nat) (z : Int) (hz : z = (n : Int)) (hn : n ≤ 140737488351232) :
    (Instr.makeSlice 22 (.int .i64 z) (.int .i64 z)).run Try.prog w = .ok (.slice (some ⟨w.heap.size, 0, none⟩) n n) (w.alloc (.cells (bs (noughts n)).toArray 5)) := by
  subst hz
  obtain ⟨i0, hi0, hz0, hz1, hz2⟩ := info_parts Try.info5
  have h := run_make w 22 5 i0 _ Try.underlying22 hi0 hz0 .i64 .i64 (n : Int) (n : Int) (by omega) (by omega) (by rw [hz2]; omega) (by omega)
  have e : madeCells (Value.int .u8 0).cells (n * 1) = (bs (noughts n)).toArray := by rw [← made_noughts]
  rw [hz1, Int.toNat_natCast, e] at h
  exact h
/-- A new row is the call's own. -/
theorem own_new (w : World) (base : Nat) (l : List UInt8) (n : Nat) (hn : l.length = n) (hl : n ≤ 140737488351232) (hbase : base ≤ w.heap.size) :
    (w.alloc (.cells (bs l).toArray 5)).ownsRow base 5 1 (.slice (some ⟨w.heap.size, 0, none⟩) n n) n (bs l) := by
  subst hn
  refine ⟨by rw [bs_len]; omega, .inr ⟨w.heap.size, l.length, (bs l).toArray, rfl, hbase, heap_alloc_new w _, Nat.le_refl _, by simp only [maxLen]; omega, by simp [bs_len], ?_⟩⟩
  rw [List.take_of_length_le (by simp [bs_len])]
theorem bs_set (l : List UInt8) (k : Nat) (x : UInt8) : (bs l).set k (.int .u8 (x.toNat : Int)) = bs (l.set k x) := by
  unfold bs
  rw [List.map_set]
theorem own_set {w : World} {base g n cap k : Nat} {l : List UInt8} {x : Int} (b : UInt8) (h : w.ownsRow base 5 1 (.slice (some ⟨g, 0, none⟩) n cap) n (bs l)) (hx : x = (b.toNat : Int)) :
    (w.setCell ⟨g, k, none⟩ (.int .u8 x)).ownsRow base 5 1 (.slice (some ⟨g, 0, none⟩) n cap) n (bs (l.set k b)) ∧ w.grownBy (w.setCell ⟨g, k, none⟩ (.int .u8 x)) (some g) := by
  subst hx
  have := h.stored k (.int .u8 (b.toNat : Int))
  rwa [bs_set] at this
theorem own_cell {w : World} {base g n cap k : Nat} {l : List UInt8} (h : w.ownsRow base 5 1 (.slice (some ⟨g, 0, none⟩) n cap) n (bs l)) (hk : k < n) : ∃ x : UInt8, w.cell? ⟨g, k, none⟩ = some (.int .u8 (x.toNat : Int)) ∧ Hid (l[k]? = some x) := by
  have hl : l.length = n := by have := h.1; rw [bs_len] at this; omega
  rw [h.cellAt k (by omega), bs_get (by omega)]
  exact ⟨_, rfl, by simp [Hid, hl, hk]⟩
theorem own_len {w : World} {base n : Nat} {e : TypeId} {v : Value} {l : List UInt8} (h : w.ownsRow base e 1 v n (bs l)) : l.length = n := by have := h.1; rw [bs_len] at this; omega
end Go.Proofs.Ytogoaihimepboaa

namespace Go.Proofs.Ytogoaihimepboaa
open Go.RowKit

/-- A row of bytes, as a text. -/
def txt (l : List UInt8) : ByteArray := ⟨l.toArray⟩
theorem txt_data (l : List UInt8) : (txt l).data.toList = l := rfl
theorem txt_size (l : List UInt8) : (txt l).size = l.length := by simp [txt, ByteArray.size]
theorem foldl_txt (l : List UInt8) : (l.map fun c => (c.toNat : Int)).foldl (fun (r : ByteArray) n => r.push (UInt8.ofNat n.toNat)) ByteArray.empty = txt l := by
  rw [foldl_push_bytes]
  simp [txt, ByteArray.empty, ByteArray.emptyWithCapacity, List.map_map, Function.comp_def]
  rfl
theorem run_text_of {w : World} {B : Nat} {ad : Addr} {l : List UInt8} (hr : RdB w B (some ad) l) (c : Nat) : (convert 22 9 (.slice (some ad) l.length c)).run Try.prog w = .ok (.string (txt l)) w := by
  rw [run_convert_bytes_string w _ _ 5 _ _ _ Try.underlying22 Try.underlying5 Try.underlying9]
  have hl : (loadCells ad l.length).run Try.prog w = .ok ((l.map fun c => (c.toNat : Int)).map (Value.int .u8)).toArray w := by
    have h := run_loadCells_list (P := Try.prog) w ad (bs l) (fun j v hj => by
      have hjl : j < l.length := by
        have := (List.getElem?_eq_some_iff.1 hj).1
        rwa [bs_len] at this
      obtain ⟨ad', e, _, hc⟩ := hr.2 (by omega)
      injection e with e
      subst e
      exact hc j v hj)
    rw [bs_len] at h
    rw [h]
    simp [bs, List.map_map, Function.comp_def]
  rw [run_bytesToString w ad l.length c _ hl, foldl_txt]
theorem run_text_any {w : World} {B : Nat} {A : Option Addr} {l : List UInt8} (hr : RdB w B A l) (c : Nat) : (convert 22 9 (.slice A l.length c)).run Try.prog w = .ok (.string (txt l)) w := by
  cases A with
  | some ad => exact run_text_of hr c
  | none =>
    have hl : l = [] := by
      cases l with
      | nil => rfl
      | cons x l =>
        obtain ⟨ad, e, _⟩ := hr.2 (by simp)
        cases e
    subst hl
    exact run_convert_bytes_nil w 22 5 Try.underlying22 Try.underlying5 0 c 9 Try.underlying9
end Go.Proofs.Ytogoaihimepboaa

namespace Go.Proofs.Ytogoaihimepboaa
open Go.RowKit

/-- A row of bytes as a slice value, and what it reads as. -/
structure Row where
  A : Option Addr
  c : Nat
  l : List UInt8
def Row.v (r : Row) : Value := .slice r.A r.l.length r.c
/-- Rows of bytes, as a slice value reads. -/
structure RdR (w : World) (B : Nat) (A : Option Addr) (rows : List Row) : Prop where
  top : Reads w B 1 A rows.length (rows.map Row.v)
  row : ∀ r ∈ rows, RdB w B r.A r.l
/-- All bytes, one row behind the other. -/
def bytes (rows : List Row) : List UInt8 := rows.flatMap (·.l)
section
variable {w w' : World} {B B' : Nat} {A : Option Addr} {rows : List Row}
theorem RdR.keep (h : RdR w B A rows) (hk : ∀ p : Addr, p.block < B → w'.cell? p = w.cell? p) : RdR w' B A rows := ⟨h.top.keep hk, fun r hr => (h.row r hr).keep hk⟩
theorem RdR.below (h : RdR w B A rows) (hb : Below B w w') : RdR w' B A rows := ⟨h.top.below hb, fun r hr => (h.row r hr).below hb⟩
theorem RdR.more (h : RdR w B A rows) (hB : B ≤ B') : RdR w B' A rows := ⟨h.top.more hB, fun r hr => (h.row r hr).more hB⟩
theorem RdR.drew (h : RdR w B A rows) : RdR w.drew B A rows := ⟨h.top.drew, fun r hr => (h.row r hr).drew⟩
theorem RdR.drewN (h : RdR w B A rows) (k : Nat) : RdR (w.drewN k) B A rows := ⟨h.top.drewN k, fun r hr => (h.row r hr).drewN k⟩
theorem RdR.alloc (h : RdR w B A rows) (hB : B ≤ w.heap.size) (o : Obj) : RdR (w.alloc o) B A rows := ⟨h.top.alloc hB o, fun r hr => (h.row r hr).alloc hB o⟩
theorem RdR.at_ {k : Nat} (h : RdR w B A rows) (hk : k < rows.length) :
    ∃ (ad : Addr) (r : Row), A = some ad ∧ ad.block < B ∧ w.cell? (ad.add k) = some (.slice r.A r.l.length r.c) ∧ Hid (rows[k]? = some r) ∧ RdB w B r.A r.l := by
  obtain ⟨ad, u, e, hb, hx, hc⟩ := Reads.at_ h.top hk
  have hr : rows[k]? = some rows[k] := List.getElem?_eq_getElem hk
  rw [List.getElem?_map, hr] at hx
  injection hx with hx
  subst hx
  exact ⟨ad, _, e, hb, hc, hr, h.row _ (List.mem_of_getElem? hr)⟩
end
theorem bytes_snoc {rows : List Row} {k : Nat} {r : Row} (h : Hid (rows[k]? = some r)) : bytes (rows.take (k + 1)) = bytes (rows.take k) ++ r.l := by
  unfold bytes
  rw [take_snoc h, List.flatMap_append, List.flatMap_singleton]

/-- Rows, listed anew: from their headers' cells. -/
theorem RdR.new (w : World) (B : Nat) (rows : List Row) (t : TypeId) (hB : B ≤ w.heap.size) (h : ∀ r ∈ rows, RdB w B r.A r.l) : RdR (w.alloc (.cells (rows.map Row.v).toArray t)) (w.heap.size + 1) (some ⟨w.heap.size, 0, none⟩) rows := by
  have := reads_new w t (rows.map Row.v)
  rw [List.length_map] at this
  exact ⟨this, fun r hr => Reads.more ((h r hr).alloc hB _) (by omega)⟩

/-! ### a list of rows of the call's own -/
theorem info_row : (Try.prog.info? 22).map (fun i => (i.zero, i.size, i.bytes)) = some (some (.slice none 0 0), 1, 24) := by kernel_rfl
/-- A list of rows that the call owns: its header's block is none of the rows'. -/
structure Owns (base : Nat) (w : World) (v : Value) (own : List Row) : Prop where
  head : w.ownsRow base 22 1 v own.length (own.map Row.v)
  row : ∀ r ∈ own, RdB w w.heap.size r.A r.l
  apart : ∀ r ∈ own, ∀ ad, r.A = some ad → ad.block < w.heap.size ∧ v.ownBlock ≠ some ad.block
theorem Owns.nil (base : Nat) (w : World) : Owns base w (.slice none 0 0) [] := ⟨World.ownsRow_nil _ _ _ _, by simp, by simp⟩
theorem Owns.below {base : Nat} {w w' : World} {v : Value} {own : List Row} (h : Owns base w v own) (hb : Below w.heap.size w w') : Owns base w' v own :=
  ⟨own_below h.head hb (Nat.le_refl _), fun r hr => Reads.more (Reads.below (h.row r hr) hb) hb.size, fun r hr ad e => ⟨Nat.lt_of_lt_of_le (h.apart r hr ad e).1 hb.size, (h.apart r hr ad e).2⟩⟩
theorem Reads.grown_apart {w w' : World} {B size n : Nat} {A : Option Addr} {xs : List Value} {row : Option Nat} (h : Reads w B size A n xs) (hg : w.grownBy w' row) (hB : B ≤ w.heap.size) (hap : ∀ ad, A = some ad → row ≠ some ad.block) : Reads w' B size A n xs := by
  refine ⟨h.1, fun hn => ?_⟩
  obtain ⟨ad, e, hb, hc⟩ := h.2 hn
  refine ⟨ad, e, hb, fun j u hu => ?_⟩
  rw [← hc j u hu]
  refine World.cell?_of_block (hg.block _ ?_ ?_)
  · rw [block_of_add]; omega
  · rw [block_of_add]
    intro e'
    exact hap ad e e'.symm
/-- A row that was made, as one of a list: where it lies. -/
theorem own_apart {base n : Nat} {w : World} {e : TypeId} {A : Option Addr} {m c : Nat} {xs : List Value} (h : w.ownsRow base e 1 (.slice A m c) n xs) : ∀ ad, A = some ad → base ≤ ad.block ∧ ad.block < w.heap.size := by
  intro ad e
  subst e
  exact h.lt ad.block rfl
section
variable {ops : Array Oper} {rest : List Oper} {o : Oper} {a : Act} {Q : Exit → Act → World → Prop} {w : World} {base : Nat} {v : Value}
/-- A row behind a list of the call's own. -/
theorem push_slice (s x : Operand) {own : List Row} {A : Option Addr} {n c : Nat} (r : Row) (hr : Value.slice A n c = r.v) (hown : Owns base w v own) (hbase : base ≤ w.heap.size) (hl : own.length ≤ 1099511627776)
    (hrow : RdB w w.heap.size r.A r.l) (hap : ∀ ad, r.A = some ad → ad.block < w.heap.size ∧ v.ownBlock ≠ some ad.block)
    (hgd : o.guard = none) (ho : o.op = .call { callee := .builtin .append, args := #[s, x], argTypes := #[35, 35] })
    (hs : a.eval s = v) (hx : a.eval x = .slice (some ⟨w.heap.size, 0, none⟩) 1 1)
    (h : ∀ v' w', Owns base w' v' (own ++ [r]) → Below base w w' → base ≤ w'.heap.size → wpList Try.prog ops Q rest (a.put o.dst v') w') :
    wpList Try.prog ops Q (o :: rest) a (w.alloc (.cells #[.slice A n c] 22)) := by
  rw [hr]
  obtain ⟨i0, hi0, hz0, hz1, hz2⟩ := info_parts info_row
  have hnew := reads_new w 22 [r.v]
  refine wpList_append_any _ hgd s x _ ho base 22 i0 _ 1 24 Try.underlying35 hi0 hz0 hz1 hz2 rfl (by omega) v _ _ hs (hown.head.alloc _) (w.heap.size + 1) _ 1 1 [r.v] hx hnew (by intro u hu; simp only [List.mem_singleton] at hu; subst hu; rfl) (by simp only [maxLen]; omega) (by omega) (by simp; omega) ?_
  intro v1 w1 h1 h2 h3
  have hb := ((Below.refl base w).alloc hbase _).trans (grown_below (hown.head.alloc (.cells #[r.v] 22)) h2 (by simp; omega))
  have hsz : w.heap.size + 1 ≤ w1.heap.size := by have := h2.size; simpa using this
  have hall : ∀ q ∈ own ++ [r], RdB w w.heap.size q.A q.l ∧ ∀ ad, q.A = some ad → ad.block < w.heap.size ∧ v.ownBlock ≠ some ad.block := by
    intro q hq
    rw [List.mem_append, List.mem_singleton] at hq
    rcases hq with hq | rfl
    · exact ⟨hown.row q hq, hown.apart q hq⟩
    · exact ⟨hrow, hap⟩
  refine h v1 w1 ⟨?_, fun q hq => ?_, fun q hq ad e => ?_⟩ hb (Nat.le_trans hbase hb.size)
  · rw [List.map_append, List.length_append]
    exact h1
  · have := (Reads.alloc (hall q hq).1 (Nat.le_refl _) (.cells #[r.v] 22)).grown_apart h2 (by simp) (fun ad e => ((hall q hq).2 ad e).2)
    exact this.more (by omega)
  · obtain ⟨hlt, hne⟩ := (hall q hq).2 ad e
    refine ⟨by omega, ?_⟩
    rcases h3 with h3 | h3
    · rw [h3]; exact hne
    · rw [h3]
      intro e'
      injection e' with e'
      simp at e'
      omega
end

/-! ### single operations of a region that draws its order -/
section
variable {b : Act} {w : World} {o : Oper}
theorem exec_list1 {x : Operand} {A : Option Addr} {n c : Nat} (ho : o.op = .buildSlice 35 1 #[(0, x)]) (h : b.eval x = .slice A n c) :
    (execOp b.eval o).run Try.prog w = .ok (.value (.slice (some ⟨w.heap.size, 0, none⟩) 1 1)) (w.alloc (.cells #[.slice A n c] 22)) := by
  unfold execOp
  simp only [ho, List.map_toArray, List.map_cons, List.map_nil, h]
  go_simp
theorem exec_front {x y : Operand} {A : Option Addr} {n m c : Nat} (ho : o.op = .slice 22 x none (some y) none) (h : b.eval x = .slice A n c) (h' : b.eval y = .int .i64 (m : Int)) (hm : m ≤ c) :
    (execOp b.eval o).run Try.prog w = .ok (.value (.slice A m c)) w := by
  have hm' : (m : Int) ≤ c := by omega
  unfold execOp
  simp only [ho, Option.map_none, Option.map_some, h, h']
  go_simp
theorem exec_make {x y : Operand} {n : Nat} (ho : o.op = .makeSlice 22 x y) (h : b.eval x = .int .i64 (n : Int)) (h' : b.eval y = .int .i64 (n : Int)) (hn : n ≤ 140737488351232) :
    (execOp b.eval o).run Try.prog w = .ok (.value (.slice (some ⟨w.heap.size, 0, none⟩) n n)) (w.alloc (.cells (bs (noughts n)).toArray 5)) := by
  unfold execOp
  simp only [ho, h, h', Sem.run_bind, run_make_bytes w n (n : Int) rfl hn, Result.andThen_ok]
  rfl
theorem exec_back {x y : Operand} {A : Option Addr} {n m c : Nat} (ho : o.op = .slice 22 x (some y) none none) (h : b.eval x = .slice A n c) (h' : b.eval y = .int .i64 (m : Int)) (hm : m ≤ n) (hc : n ≤ c) :
    (execOp b.eval o).run Try.prog w = .ok (.value (.slice (if c = m then A else A.map (·.add m)) (n - m) (c - m))) w := by
  have hm' : (m : Int) ≤ n := by omega
  have hc' : (n : Int) ≤ c := by omega
  unfold execOp
  simp only [ho, Option.map_none, Option.map_some, h, h']
  go_simp
theorem exec_mid {x y z : Operand} {A : Option Addr} {n m k c : Nat} (ho : o.op = .slice 22 x (some y) (some z) none) (h : b.eval x = .slice A n c) (h' : b.eval y = .int .i64 (m : Int)) (h'' : b.eval z = .int .i64 (k : Int)) (hm : m ≤ k) (hk : k ≤ c) :
    (execOp b.eval o).run Try.prog w = .ok (.value (.slice (if c = m then A else A.map (·.add m)) (k - m) (c - m))) w := by
  have hm' : (m : Int) ≤ k := by omega
  have hc' : (k : Int) ≤ c := by omega
  unfold execOp
  simp only [ho, Option.map_none, Option.map_some, h, h', h'']
  go_simp
theorem exec_list3 {x y z : Operand} {A A' A'' : Option Addr} {n c n' c' n'' c'' : Nat} (ho : o.op = .buildSlice 35 3 #[(0, x), (1, y), (2, z)]) (h : b.eval x = .slice A n c) (h' : b.eval y = .slice A' n' c') (h'' : b.eval z = .slice A'' n'' c'') :
    (execOp b.eval o).run Try.prog w = .ok (.value (.slice (some ⟨w.heap.size, 0, none⟩) 3 3)) (w.alloc (.cells #[.slice A n c, .slice A' n' c', .slice A'' n'' c''] 22)) := by
  unfold execOp
  simp only [ho, List.map_toArray, List.map_cons, List.map_nil, h, h', h'']
  go_simp
theorem exec_empty (ho : o.op = .buildSlice 22 0 #[]) :
    (execOp b.eval o).run Try.prog w = .ok (.value (.slice (some ⟨w.heap.size, 0, none⟩) 0 0)) (w.alloc (.cells #[] 5)) := by
  unfold execOp
  simp only [ho, List.map_toArray, List.map_nil]
  go_simp
end
/-- A new list of three rows. -/
def Three (w : World) (v : Value) (l : List UInt8) : Prop := ∃ N r1 r2 r3, v = .slice (some ⟨N, 0, none⟩) 3 3 ∧ bytes [r1, r2, r3] = l ∧ RdR w w.heap.size (some ⟨N, 0, none⟩) [r1, r2, r3]
theorem Three.keep {w w' : World} {v : Value} {l : List UInt8} (h : Three w v l) (hb : Below w.heap.size w w') : Three w' v l := by
  obtain ⟨N, r1, r2, r3, e, hl, hr⟩ := h
  exact ⟨N, r1, r2, r3, e, hl, (hr.below hb).more hb.size⟩
theorem Three.new (w : World) (B : Nat) (A A' A'' : Option Addr) (n c n' c' n'' c'' : Nat) (l l' l'' m : List UInt8) (hn : l.length = n) (hn' : l'.length = n') (hn'' : l''.length = n'') (hm : l ++ (l' ++ l'') = m) (hB : B ≤ w.heap.size)
    (hr : RdB w B A l) (hr' : RdB w B A' l') (hr'' : RdB w B A'' l'') :
    Three (w.alloc (.cells #[.slice A n c, .slice A' n' c', .slice A'' n'' c''] 22)) (.slice (some ⟨w.heap.size, 0, none⟩) 3 3) m := by
  subst hn hn' hn'' hm
  have := RdR.new w B [⟨A, c, l⟩, ⟨A', c', l'⟩, ⟨A'', c'', l''⟩] 22 hB (by
    intro r hr'
    simp only [List.mem_cons, List.not_mem_nil, or_false] at hr'
    rcases hr' with rfl | rfl | rfl <;> assumption)
  exact ⟨_, ⟨A, c, l⟩, ⟨A', c', l'⟩, ⟨A'', c'', l''⟩, rfl, by simp [bytes], this.more (by simp)⟩
/-- A new list of one row. -/
def One (w : World) (v : Value) (l : List UInt8) : Prop := ∃ N r, v = .slice (some ⟨N, 0, none⟩) 1 1 ∧ Row.l r = l ∧ RdR w w.heap.size (some ⟨N, 0, none⟩) [r]
theorem One.keep {w w' : World} {v : Value} {l : List UInt8} (h : One w v l) (hb : Below w.heap.size w w') : One w' v l := by
  obtain ⟨N, r, e, hl, hr⟩ := h
  exact ⟨N, r, e, hl, (hr.below hb).more hb.size⟩
theorem One.new (w : World) (B : Nat) (A : Option Addr) (n c : Nat) (l : List UInt8) (hn : l.length = n) (hB : B ≤ w.heap.size) (hr : RdB w B A l) :
    One (w.alloc (.cells #[.slice A n c] 22)) (.slice (some ⟨w.heap.size, 0, none⟩) 1 1) l := by
  subst hn
  have := RdR.new w B [⟨A, c, l⟩] 22 hB (by intro r hr'; simp only [List.mem_singleton] at hr'; subst hr'; exact hr)
  exact ⟨_, ⟨A, c, l⟩, rfl, rfl, this.more (by simp)⟩
/-- What is left of a row behind its first k bytes. -/
theorem RdB.back {w : World} {B : Nat} {A : Option Addr} {l : List UInt8} (h : RdB w B A l) {k c : Nat} (hk : k ≤ l.length) (hc : l.length ≤ c) : RdB w B (if c = k then A else A.map (·.add k)) (l.drop k) := by
  have := Reads.cut h hk hc
  rw [Nat.mul_one] at this
  have e : (bs l).drop k = bs (l.drop k) := by simp [bs]
  rw [e] at this
  have e2 : (l.drop k).length = l.length - k := by simp
  rw [← e2] at this
  exact this
/-- The first n bytes of a row. -/
theorem RdB.first {w : World} {B : Nat} {A : Option Addr} {l : List UInt8} (h : RdB w B A l) {n : Nat} (hn : n ≤ l.length) : RdB w B A (l.take n) := by
  have hl : (l.take n).length = n := by rw [List.length_take]; omega
  refine ⟨by rw [bs_len]; omega, fun h0 => ?_⟩
  obtain ⟨ad, e, hb, hc⟩ := h.2 (by omega)
  refine ⟨ad, e, hb, fun j u hu => hc j u ?_⟩
  unfold bs at hu ⊢
  rw [List.map_take, List.getElem?_take] at hu
  split at hu
  · exact hu
  · cases hu
end Go.Proofs.Ytogoaihimepboaa

namespace Go.Proofs.Ytogoaihimepboaa
open Go.RowKit

/-- Is t a slot that one of the operations writes? -/
def isDst (ops : List Oper) (t : Nat) : Bool := ops.any fun o => o.dst == some t
/-- The operations wait for earlier ones alone; no two write one slot; the slots are there. -/
def inOrder (ops : List Oper) (n : Nat) : Bool :=
  (ops.zipIdx.all fun (o, i) => o.after.all fun e => !Region.binds .any e || decide (e.on < i)) &&
  (ops.filterMap (·.dst)).Nodup && ((ops.filterMap (·.dst)).all fun d => decide (d < n))

section
variable {P : Program} {Q : Exit → Act → World → Prop} (F : Nat → Value → World → Prop) (C : World → Prop)

/-- What is asked of operation number i. -/
def OpOk (P : Program) (Q : Exit → Act → World → Prop) (F : Nat → Value → World → Prop) (C : World → Prop) (ops : List Oper) (a : Act) (i : Nat) (o : Oper) : Prop :=
  ∀ (b : Act) (w : World), (∀ t, isDst ops t = false → b.tmps.getD t undef = a.tmps.getD t undef) → C w →
    (∀ e ∈ o.after.toList, Region.binds .any e = true → ∀ oj d, ops[e.on]? = some oj → oj.dst = some d → F e.on (b.tmps.getD d undef) w) →
    Region.wanted o (yielded ops.toArray b.tmps) = true ∧
    o.wp P b w (fun b' w' => ∃ v, b' = b.put o.dst v ∧ C w' ∧ (o.dst.isSome = true → F i v w') ∧ ∀ j u, F j u w → F j u w') Q
def OpsOk (P : Program) (Q : Exit → Act → World → Prop) (F : Nat → Value → World → Prop) (C : World → Prop) (ops : List Oper) (a : Act) : Nat → List Oper → Prop
  | _, [] => True
  | i, o :: l => OpOk P Q F C ops a i o ∧ OpsOk P Q F C ops a (i + 1) l

theorem OpsOk.cons {ops : List Oper} {a : Act} {i : Nat} {o : Oper} {l : List Oper} (h : OpOk P Q F C ops a i o) (hl : OpsOk P Q F C ops a (i + 1) l) : OpsOk P Q F C ops a i (o :: l) := ⟨h, hl⟩
theorem OpsOk.nil {ops : List Oper} {a : Act} {i : Nat} : OpsOk P Q F C ops a i [] := trivial
theorem OpsOk.get {ops : List Oper} {a : Act} : ∀ {l : List Oper} {i j : Nat} {o : Oper}, OpsOk P Q F C ops a i l → l[j]? = some o → OpOk P Q F C ops a (i + j) o
  | [], _, _, _, _, h => by simp at h
  | x :: l, i, 0, o, h, ho => by
    simp only [List.getElem?_cons_zero, Option.some.injEq] at ho
    subst ho
    exact h.1
  | x :: l, i, j + 1, o, h, ho => by
    simp only [List.getElem?_cons_succ] at ho
    have := OpsOk.get h.2 ho
    rwa [show i + 1 + j = i + (j + 1) by omega] at this

/-- What holds when these have come up. -/
structure Upto (F : Nat → Value → World → Prop) (C : World → Prop) (ops : List Oper) (n : Nat) (a : Act) (listed : Array Bool) (b : Act) (w : World) : Prop where
  size : listed.size = ops.length
  slots : b.tmps.size = n
  defers : b.defers = a.defers
  same : ∀ t, isDst ops t = false → b.tmps.getD t undef = a.tmps.getD t undef
  common : C w
  fact : ∀ j o d, listed.getD j false = true → ops[j]? = some o → o.dst = some d → F j (b.tmps.getD d undef) w

theorem dst_mem {ops : List Oper} {j d : Nat} {o : Oper} (ho : ops[j]? = some o) (hd : o.dst = some d) : d ∈ ops.filterMap (·.dst) :=
  List.mem_filterMap.2 ⟨o, List.mem_of_getElem? ho, hd⟩
theorem isDst_of {ops : List Oper} {j d : Nat} {o : Oper} (ho : ops[j]? = some o) (hd : o.dst = some d) : isDst ops d = true := by
  unfold isDst
  rw [List.any_eq_true]
  exact ⟨o, List.mem_of_getElem? ho, by simp [hd]⟩
theorem dst_inj : ∀ {ops : List Oper} {j k d : Nat} {o p : Oper}, (ops.filterMap (·.dst)).Nodup → ops[j]? = some o → ops[k]? = some p → o.dst = some d → p.dst = some d → j = k
  | [], _, _, _, _, _, _, h, _, _, _ => by simp at h
  | x :: l, j, k, d, o, p, hn, hj, hk, ho, hp => by
    have hx : ∀ {i : Nat} {q : Oper}, l[i]? = some q → q.dst = some d → x.dst = some d → False := by
      intro i q hi hq hxd
      rw [List.filterMap_cons_some hxd, List.nodup_cons] at hn
      exact hn.1 (dst_mem hi hq)
    have hn' : (l.filterMap (·.dst)).Nodup := by
      cases hxd : x.dst with
      | none => rwa [List.filterMap_cons_none hxd] at hn
      | some y =>
        rw [List.filterMap_cons_some hxd, List.nodup_cons] at hn
        exact hn.2
    cases j with
    | zero =>
      cases k with
      | zero => rfl
      | succ k =>
        simp only [List.getElem?_cons_zero, List.getElem?_cons_succ, Option.some.injEq] at hj hk
        subst hj
        exact (hx hk hp ho).elim
    | succ j =>
      cases k with
      | zero =>
        simp only [List.getElem?_cons_zero, List.getElem?_cons_succ, Option.some.injEq] at hj hk
        subst hk
        exact (hx hj ho hp).elim
      | succ k =>
        simp only [List.getElem?_cons_succ] at hj hk
        rw [dst_inj hn' hj hk ho hp]

theorem getD_put (b : Act) (d t : Nat) (v : Value) (h : d < b.tmps.size) : (b.put (some d) v).tmps.getD t undef = if d = t then v else b.tmps.getD t undef := by
  show (b.tmps.setIfInBounds d v).getD t undef = _
  rw [Array.getD_eq_getD_getElem?, Array.getD_eq_getD_getElem?, Array.getElem?_setIfInBounds]
  by_cases hdt : d = t
  · subst hdt
    rw [if_pos rfl, if_pos rfl, if_pos h]
    rfl
  · rw [if_neg hdt, if_neg hdt]
theorem getD_set {l : Array Bool} {i j : Nat} (h : i < l.size) : (l.setIfInBounds i true).getD j false = (decide (i = j) || l.getD j false) := by
  rw [Array.getD_eq_getD_getElem?, Array.getD_eq_getD_getElem?, Array.getElem?_setIfInBounds]
  by_cases hij : i = j
  · subst hij
    rw [if_pos rfl, if_pos h]
    simp
  · rw [if_neg hij]
    simp [hij]

theorem ready_mem {ops : List Oper} {listed : Array Bool} (hs : listed.size = ops.length) {i : Nat} (h : i ∈ Region.ready .any ops.toArray listed) :
    ∃ o, ops[i]? = some o ∧ listed[i]? = some false ∧ ∀ e ∈ o.after.toList, Region.binds .any e = true → listed.getD e.on false = true := by
  unfold Region.ready at h
  simp only [List.mem_filter, List.mem_range, List.size_toArray, List.getElem?_toArray, Bool.and_eq_true, Bool.not_eq_true'] at h
  obtain ⟨hi, h1, h2⟩ := h
  have ho : ops[i]? = some ops[i] := List.getElem?_eq_getElem hi
  refine ⟨ops[i], ho, ?_, ?_⟩
  · rw [Array.getD_eq_getD_getElem?] at h1
    have hl : listed[i]? = some listed[i] := Array.getElem?_eq_getElem (by omega)
    rw [hl] at h1 ⊢
    simpa using h1
  · rw [ho] at h2
    simp only [Option.map_some, Option.getD_some, Array.all_eq_true_iff_forall_mem, Bool.or_eq_true, Bool.not_eq_true'] at h2
    intro e he hb
    rcases h2 e (by simpa using he) with h | h
    · rw [hb] at h; cases h
    · exact h
theorem ready_nil {ops : List Oper} {listed : Array Bool} (hs : listed.size = ops.length) (hord : ∀ (i : Nat) (o : Oper), ops[i]? = some o → ∀ e ∈ o.after.toList, Region.binds .any e = true → e.on < i) (h : Region.ready .any ops.toArray listed = []) :
    ∀ j, j < ops.length → listed.getD j false = true := by
  intro j
  induction j using Nat.strongRecOn with
  | _ j ih =>
    intro hj
    cases hl : listed.getD j false with
    | true => rfl
    | false =>
      exfalso
      have hmem : j ∈ Region.ready .any ops.toArray listed := by
        unfold Region.ready
        simp only [List.mem_filter, List.mem_range, List.size_toArray, List.getElem?_toArray, Bool.and_eq_true, Bool.not_eq_true']
        have hlj : listed[j]? = some listed[j] := Array.getElem?_eq_getElem (by omega)
        refine ⟨hj, ?_, ?_⟩
        · rw [Array.getD_eq_getD_getElem?, hlj] at hl ⊢
          exact hl
        · rw [List.getElem?_eq_getElem hj]
          simp only [Option.map_some, Option.getD_some, Array.all_eq_true_iff_forall_mem, Bool.or_eq_true, Bool.not_eq_true']
          intro e he
          cases hbe : Region.binds .any e with
          | false => left; rfl
          | true =>
            right
            have := hord j _ (List.getElem?_eq_getElem hj) e (by simpa using he) hbe
            exact ih e.on this (by omega)
      rw [h] at hmem
      cases hmem

theorem Upto.go {ops : List Oper} {n : Nat} {a b : Act} {listed : Array Bool} {w w' : World} {i : Nat} {o : Oper} {v : Value} (hn : (ops.filterMap (·.dst)).Nodup) (hb : ∀ d ∈ ops.filterMap (·.dst), d < n)
    (h : Upto F C ops n a listed b w) (ho : ops[i]? = some o) (hC : C w') (hF : o.dst.isSome = true → F i v w') (hK : ∀ j u, F j u w → F j u w') :
    Upto F C ops n a (listed.setIfInBounds i true) (b.put o.dst v) w' := by
  have hi : i < listed.size := by rw [h.size]; exact (List.getElem?_eq_some_iff.1 ho).1
  refine ⟨by simpa using h.size, ?_, ?_, ?_, hC, ?_⟩
  · cases hd : o.dst with
    | none => exact h.slots
    | some d => show (b.tmps.setIfInBounds d v).size = n; simpa using h.slots
  · cases hd : o.dst with
    | none => exact h.defers
    | some d => exact h.defers
  · intro t ht
    cases hd : o.dst with
    | none => exact h.same t ht
    | some d =>
      rw [getD_put b d t v (by rw [h.slots]; exact hb d (dst_mem ho hd)), if_neg, h.same t ht]
      rintro rfl
      rw [isDst_of ho hd] at ht
      cases ht
  · intro j oj d hl hoj hd
    rw [getD_set hi] at hl
    cases hod : o.dst with
    | none =>
      by_cases hij : i = j
      · subst hij
        rw [ho] at hoj
        injection hoj with hoj
        subst hoj
        rw [hod] at hd
        cases hd
      · rw [decide_eq_false hij, Bool.false_or] at hl
        exact hK _ _ (h.fact j oj d hl hoj hd)
    | some d' =>
      rw [getD_put b d' d v (by rw [h.slots]; exact hb d' (dst_mem ho hod))]
      by_cases hij : i = j
      · subst hij
        rw [ho] at hoj
        injection hoj with hoj
        subst hoj
        rw [hod] at hd
        injection hd with hd
        rw [if_pos hd]
        exact hF (by rw [hod]; rfl)
      · rw [decide_eq_false hij, Bool.false_or] at hl
        rw [if_neg]
        · exact hK _ _ (h.fact j oj d hl hoj hd)
        · rintro rfl
          exact hij (dst_inj hn ho hoj hod hd)

theorem wpAny_facts {ops : List Oper} {n : Nat} {a : Act} (hn : (ops.filterMap (·.dst)).Nodup) (hb : ∀ d ∈ ops.filterMap (·.dst), d < n) (hord : ∀ (i : Nat) (o : Oper), ops[i]? = some o → ∀ e ∈ o.after.toList, Region.binds .any e = true → e.on < i)
    (hop : OpsOk P Q F C ops a 0 ops)
    (hend : ∀ (b : Act) (w : World), b.tmps.size = n → b.defers = a.defers → (∀ t, isDst ops t = false → b.tmps.getD t undef = a.tmps.getD t undef) → C w →
      (∀ j o d, ops[j]? = some o → o.dst = some d → F j (b.tmps.getD d undef) w) → Q .normal b w) :
    ∀ (fuel : Nat) (listed : Array Bool) (b : Act) (w : World), listed.toList.count false ≤ fuel → Upto F C ops n a listed b w → wpAny P .any ops.toArray Q fuel listed b w := by
  have hfin : ∀ (listed : Array Bool) (b : Act) (w : World), Upto F C ops n a listed b w → Region.ready .any ops.toArray listed = [] → Q .normal b w := by
    intro listed b w h hr
    have hall := ready_nil h.size hord hr
    exact hend b w h.slots h.defers h.same h.common (fun j o d hj hd => h.fact j o d (hall j (List.getElem?_eq_some_iff.1 hj).1) hj hd)
  intro fuel
  induction fuel with
  | zero =>
    intro listed b w hc h
    have hr : Region.ready .any ops.toArray listed = [] := by
      rw [List.eq_nil_iff_forall_not_mem]
      intro i hi
      obtain ⟨o, _, hl, _⟩ := ready_mem h.size hi
      have : false ∈ listed.toList := List.mem_of_getElem? (i := i) (by simpa using hl)
      have := List.count_pos_iff.2 this
      omega
    exact ⟨hr, hfin listed b w h hr⟩
  | succ fuel ih =>
    intro listed b w hc h
    refine ⟨hfin listed b w h, fun i hi => ?_⟩
    obtain ⟨o, ho, hl, hdep⟩ := ready_mem h.size hi
    have hok := OpsOk.get F C hop ho
    rw [Nat.zero_add] at hok
    obtain ⟨hw, hwp⟩ := hok b w h.same h.common (fun e he hbe oj d hoj hd => h.fact e.on oj d (hdep e he hbe) hoj hd)
    unfold wpOp
    rw [List.getElem?_toArray, ho]
    simp only [hw, if_true]
    refine Or.inl (Oper.wp_mono ?_ hwp)
    rintro b' w' ⟨v, rfl, hC, hF, hK⟩
    refine ih _ _ _ ?_ (h.go F C hn hb ho hC hF hK)
    have hil : i < listed.toList.length := by
      have := (Array.getElem?_eq_some_iff.1 hl).1
      simpa using this
    have hlv : listed.toList[i] = false := by
      have := (Array.getElem?_eq_some_iff.1 hl).2
      simpa using this
    rw [Array.toList_setIfInBounds, List.count_set hil, hlv]
    have h1 : (if (false == false) = true then 1 else 0) = 1 := rfl
    have h2 : (if (true == false) = true then 1 else 0) = 0 := rfl
    rw [h1, h2]
    omega

/-- THE RULE. -/
theorem wp_region_facts {id n : Nat} {ops : List Oper} {a : Act} {w : World} (hm : P.follows .mixedOrders = true) (hin : inOrder ops n = true) (hsz : a.tmps.size = n) (hC : C w.drew)
    (hop : OpsOk P Q F C ops a 0 ops)
    (hend : ∀ (b : Act) (w : World), b.tmps.size = n → b.defers = a.defers → (∀ t, isDst ops t = false → b.tmps.getD t undef = a.tmps.getD t undef) → C w →
      (∀ j o d, ops[j]? = some o → o.dst = some d → F j (b.tmps.getD d undef) w) → Q .normal b w) :
    (Code.region id ops.toArray true).wp P Q a w := by
  unfold inOrder at hin
  simp only [Bool.and_eq_true, decide_eq_true_eq, List.all_eq_true] at hin
  obtain ⟨⟨h1, h2⟩, h3⟩ := hin
  refine wp_region_any hm ?_
  refine wpAny_facts F C h2 h3 ?_ hop hend _ _ _ _ ?_ ⟨by simp, hsz, rfl, fun _ _ => rfl, hC, ?_⟩
  · intro i o ho e he hbe
    have := h1 (o, i) (by rw [List.mem_zipIdx_iff_getElem?]; exact ho)
    simp only [Array.all_eq_true_iff_forall_mem, Bool.or_eq_true, Bool.not_eq_true', decide_eq_true_eq] at this
    rcases this e (by simpa using he) with h | h
    · rw [hbe] at h; cases h
    · exact h
  · simp
  · intro j o d hl
    rw [Array.getD_eq_getD_getElem?] at hl
    rw [Array.getElem?_replicate] at hl
    exfalso
    revert hl
    split <;> simp

/-! ### facts that stay while memory grows -/
theorem OpOk.run {ops : List Oper} {a : Act} {i : Nat} {o : Oper} (hF : ∀ j u w w', Below w.heap.size w w' → F j u w → F j u w') (hCm : ∀ w w', Below w.heap.size w w' → C w → C w')
    (h : ∀ (b : Act) (w : World), (∀ t, isDst ops t = false → b.tmps.getD t undef = a.tmps.getD t undef) → C w →
      (∀ e ∈ o.after.toList, Region.binds .any e = true → ∀ oj d, ops[e.on]? = some oj → oj.dst = some d → F e.on (b.tmps.getD d undef) w) →
      Region.wanted o (yielded ops.toArray b.tmps) = true ∧ ∃ v w', (execOp b.eval o).run P w = .ok (.value v) w' ∧ Below w.heap.size w w' ∧ F i v w') : OpOk P Q F C ops a i o := by
  intro b w hs hC hg
  obtain ⟨hw, v, w', hr, hb, hf⟩ := h b w hs hC hg
  refine ⟨hw, ?_⟩
  unfold Oper.wp
  rw [hr, Oper.upon_value]
  exact ⟨v, rfl, hCm w w' hb hC, fun _ => hf, fun j u hj => hF j u w w' hb hj⟩
theorem OpOk.call {ops : List Oper} {a : Act} {i : Nat} {o : Oper} (hF : ∀ j u w w', Below w.heap.size w w' → F j u w → F j u w') (hCm : ∀ w w', Below w.heap.size w w' → C w → C w')
    (h : ∀ (b : Act) (w : World), (∀ t, isDst ops t = false → b.tmps.getD t undef = a.tmps.getD t undef) → C w →
      (∀ e ∈ o.after.toList, Region.binds .any e = true → ∀ oj d, ops[e.on]? = some oj → oj.dst = some d → F e.on (b.tmps.getD d undef) w) →
      Region.wanted o (yielded ops.toArray b.tmps) = true ∧ ∃ f args, (execOp b.eval o).run P w = .ok (.enter f args) w ∧ Calls P f args w fun e w' => ∃ v, e = .returned v ∧ Below w.heap.size w w' ∧ F i v w') : OpOk P Q F C ops a i o := by
  intro b w hs hC hg
  obtain ⟨hw, f, args, hr, hc⟩ := h b w hs hC hg
  refine ⟨hw, ?_⟩
  unfold Oper.wp
  rw [hr, Oper.upon_enter]
  refine hc.mono ?_
  rintro e w' ⟨v, rfl, hb, hf⟩
  exact ⟨v, rfl, hCm w w' hb hC, fun _ => hf, fun j u hj => hF j u w w' hb hj⟩
end

/-- What an operation that has come up has laid: by the place of the edge. -/
theorem dep {F : Nat → Value → World → Prop} {ops : List Oper} {b : Act} {w : World} {o : Oper}
    (hg : ∀ e ∈ o.after.toList, Region.binds .any e = true → ∀ oj d, ops[e.on]? = some oj → oj.dst = some d → F e.on (b.tmps.getD d undef) w)
    (k : Nat) {e : Edge} {oj : Oper} {d : Tmp} (he : o.after.toList[k]? = some e) (hb : Region.binds .any e = true) (ho : ops[e.on]? = some oj) (hd : oj.dst = some d) : F e.on (b.tmps.getD d undef) w :=
  hg e (List.mem_of_getElem? he) hb oj d ho hd
/-- A guarded operation is wanted. -/
theorem wanted_of {ops : List Oper} {b : Act} {o oj : Oper} {j : Nat} {c : Bool} {d : Tmp} (hgd : o.guard = some (j, c)) (ho : ops[j]? = some oj) (hd : oj.dst = some d) (h : b.tmps.getD d undef = .bool c) : Region.wanted o (yielded ops.toArray b.tmps) = true := by
  have hy : yielded ops.toArray b.tmps j = some c := by
    unfold yielded
    rw [List.getElem?_toArray, ho]
    rw [Array.getD_eq_getD_getElem?] at h
    cases ht : b.tmps[d]? with
    | none =>
      rw [ht] at h
      cases h
    | some v =>
      rw [ht] at h
      simp only [Option.getD_some] at h
      subst h
      simp [hd, ht]
  unfold Region.wanted
  rw [hgd]
  simp [hy]

/-! ### single operations -/
section
variable {P : Program} {b : Act} {w : World} {o : Oper}
theorem exec_move {x : Operand} {v : Value} (ho : o.op = .move x) (h : b.eval x = v) : (execOp b.eval o).run P w = .ok (.value v) w := by
  subst h
  unfold execOp
  rw [ho]
  rfl
theorem exec_assign {x : Operand} {v : Value} (ho : o.op = .assign x) (h : b.eval x = v) : (execOp b.eval o).run P w = .ok (.value v) w := by
  subst h
  unfold execOp
  rw [ho]
  rfl
theorem exec_pick {x y z : Operand} {c : Bool} {v : Value} (ho : o.op = .pick x y z) (h : b.eval x = .bool c) (hv : (if c then b.eval y else b.eval z) = v) : (execOp b.eval o).run P w = .ok (.value v) w := by
  subst hv
  unfold execOp
  simp only [ho, h]
  cases c <;> rfl
theorem exec_call0 {f : FuncId} (hf : ∀ args, (callFunc f args).run P w = .ok (.enter f args) w) (ho : o.op = .call { callee := .value (.func f), args := #[], argTypes := #[] }) : (execOp b.eval o).run P w = .ok (.enter f #[]) w := by
  unfold execOp
  simp only [ho]
  go_simp
theorem exec_call1 {f : FuncId} {x : Operand} {t : TypeId} {v : Value} (hf : ∀ args, (callFunc f args).run P w = .ok (.enter f args) w) (ho : o.op = .call { callee := .value (.func f), args := #[x], argTypes := #[t] }) (h : b.eval x = v) : (execOp b.eval o).run P w = .ok (.enter f #[v]) w := by
  subst h
  unfold execOp
  simp only [ho]
  go_simp
theorem exec_call2 {f : FuncId} {x y : Operand} {t u : TypeId} {v v' : Value} (hf : ∀ args, (callFunc f args).run P w = .ok (.enter f args) w) (ho : o.op = .call { callee := .value (.func f), args := #[x, y], argTypes := #[t, u] }) (h : b.eval x = v) (h' : b.eval y = v') : (execOp b.eval o).run P w = .ok (.enter f #[v, v']) w := by
  subst h h'
  unfold execOp
  simp only [ho]
  go_simp
end
/-- Below a bound that is there: as below all that is there. -/
theorem below_all {B : Nat} {w w' : World} (hb : Below B w w') (hB : B = w.heap.size) : Below w.heap.size w w' := hB ▸ hb
end Go.Proofs.Ytogoaihimepboaa

namespace Go.Proofs.Ytogoaihimepboaa
open Go.RowKit

/-- What is apart from the row stays as it was, and apart from the row that comes of it. -/
def Kept (v v' : Value) (w w' : World) : Prop := ∀ M, M < w.heap.size → v.ownBlock ≠ some M → v'.ownBlock ≠ some M ∧ w'.heap[M]? = w.heap[M]?
theorem Kept.of {v v' : Value} {w w' : World} (hg : w.grownBy w' v.ownBlock) (h : v'.ownBlock = v.ownBlock ∨ v'.ownBlock = some w.heap.size) : Kept v v' w w' := by
  intro M hM hne
  refine ⟨?_, hg.block M hM (fun e => hne e.symm)⟩
  rcases h with h | h
  · rw [h]; exact hne
  · rw [h]
    intro e
    injection e with e
    omega
theorem Kept.alloc {v v' : Value} {w w' : World} {o : Obj} (h : Kept v v' (w.alloc o) w') : Kept v v' w w' := by
  intro M hM hne
  obtain ⟨h1, h2⟩ := h M (by simp; omega) hne
  exact ⟨h1, h2.trans (heap_alloc_old w o hM)⟩
theorem Kept.cell {v v' : Value} {w w' : World} (h : Kept v v' w w') {p : Addr} (hp : p.block < w.heap.size) (hne : v.ownBlock ≠ some p.block) : w'.cell? p = w.cell? p :=
  World.cell?_of_block (h p.block hp hne).2
theorem Kept.apart {v v' : Value} {w w' : World} (h : Kept v v' w w') {M : Nat} (hp : M < w.heap.size) (hne : v.ownBlock ≠ some M) : v'.ownBlock ≠ some M := (h M hp hne).1
/-- A row that was there is apart from what comes new. -/
theorem own_ne {w : World} {base n : Nat} {e : TypeId} {v : Value} {xs : List Value} {size M : Nat} (h : w.ownsRow base e size v n xs) (hM : w.heap.size ≤ M) : v.ownBlock ≠ some M := by
  intro e
  have := (h.lt M e).2
  omega

theorem own_setCell {w : World} {base n size : Nat} {e : TypeId} {v : Value} {xs : List Value} {p : Addr} (h : w.ownsRow base e size v n xs) (hg : v.ownBlock ≠ some p.block) (u : Value) : (w.setCell p u).ownsRow base e size v n xs := by
  refine ⟨h.1, ?_⟩
  rcases h.2 with hn | ⟨b, cap, cur, rfl, hb, hgg, rest⟩
  · exact .inl hn
  · refine .inr ⟨b, cap, cur, rfl, hb, ?_, rest⟩
    rw [heap_setCell_other w _ _ _ (by intro e; subst e; exact hg rfl)]
    exact hgg
theorem own_setRow {w : World} {base n g size : Nat} {e : TypeId} {v : Value} {xs : List Value} (h : w.ownsRow base e size v n xs) (hg : v.ownBlock ≠ some g) (cs : Array Value) : (w.setRow g cs).ownsRow base e size v n xs := by
  refine ⟨h.1, ?_⟩
  rcases h.2 with hn | ⟨b, cap, cur, rfl, hb, hgg, rest⟩
  · exact .inl hn
  · refine .inr ⟨b, cap, cur, rfl, hb, ?_, rest⟩
    rw [setRow_other w g b cs (by intro e; subst e; exact hg rfl)]
    exact hgg

section
variable {ops : Array Oper} {rest : List Oper} {o : Oper} {a : Act} {Q : Exit → Act → World → Prop} {w : World} {base : Nat} {v : Value}
theorem push_byteK {N : Nat} (s x : Operand) {l : List UInt8} (xi : Int) (c : UInt8) (hown : w.ownsRow base 5 1 v l.length (bs l)) (hbase : base ≤ w.heap.size) (hl : l.length ≤ 140737488355327) (hc : xi = (c.toNat : Int))
    (hgd : o.guard = none) (ho : o.op = .call { callee := .builtin .append, args := #[s, x], argTypes := #[22, 22] })
    (hs : a.eval s = v) (hx : a.eval x = .slice (some ⟨N, 0, none⟩) 1 1) (hN : w.heap.size = N)
    (h : ∀ v' w', w'.ownsRow base 5 1 v' (l ++ [c]).length (bs (l ++ [c])) → Below base w w' → base ≤ w'.heap.size → w.heap.size ≤ w'.heap.size → Kept v v' w w' → wpList Try.prog ops Q rest (a.put o.dst v') w') :
    wpList Try.prog ops Q (o :: rest) a (w.alloc (.cells #[.int .u8 xi] 5)) := by
  subst hN
  obtain ⟨i0, hi0, hz0, hz1, hz2⟩ := info_parts Try.info5
  refine wpList_append_any _ hgd s x _ ho base 5 i0 _ 1 1 Try.underlying22 hi0 hz0 hz1 hz2 rfl (by omega) v _ _ hs (hown.alloc _) (w.heap.size + 1) _ 1 1 (bs [c]) hx (reads_byte _ _ _ _ hc) (bs_one _) (by simp only [maxLen]; omega) (by omega) (by simp; omega) ?_
  intro v1 w1 h1 h2 h3
  have hb := ((Below.refl base w).alloc hbase _).trans (grown_below (hown.alloc (.cells #[.int .u8 xi] 5)) h2 (by simp; omega))
  have hsz : w.heap.size ≤ w1.heap.size := by have := h2.size; simp at this; omega
  refine h v1 w1 ?_ hb (Nat.le_trans hbase hb.size) hsz (Kept.alloc (Kept.of h2 h3))
  rw [bs_append]
  simpa using h1
theorem push_rowK (s x : Operand) {l m : List UInt8} {B : Nat} {A : Option Addr} {c : Nat} (hown : w.ownsRow base 5 1 v l.length (bs l)) (hbase : base ≤ w.heap.size) (hr : RdB w B A m) (hl : l.length + m.length ≤ 140737488355327)
    (hgd : o.guard = none) (ho : o.op = .call { callee := .builtin .append, args := #[s, x], argTypes := #[22, 22] })
    (hs : a.eval s = v) (hx : a.eval x = .slice A m.length c)
    (h : ∀ v' w', w'.ownsRow base 5 1 v' (l ++ m).length (bs (l ++ m)) → Below base w w' → base ≤ w'.heap.size → w.heap.size ≤ w'.heap.size → Kept v v' w w' → wpList Try.prog ops Q rest (a.put o.dst v') w') :
    wpList Try.prog ops Q (o :: rest) a w := by
  obtain ⟨i0, hi0, hz0, hz1, hz2⟩ := info_parts Try.info5
  refine wpList_append_any _ hgd s x _ ho base 5 i0 _ 1 1 Try.underlying22 hi0 hz0 hz1 hz2 rfl (by omega) v _ _ hs hown B A m.length c (bs m) hx hr (bs_one _) (by simp only [maxLen]; omega) (by omega) hbase ?_
  intro v1 w1 h1 h2 h3
  have hb := grown_below hown h2 hbase
  refine h v1 w1 ?_ hb (Nat.le_trans hbase hb.size) h2.size (Kept.of h2 h3)
  rw [bs_append, List.length_append]
  exact h1
theorem push_rowN {n : Nat} (s x : Operand) {l m : List UInt8} {B : Nat} {A : Option Addr} {c : Nat} (hm : m.length = n) (hown : w.ownsRow base 5 1 v l.length (bs l)) (hbase : base ≤ w.heap.size) (hr : RdB w B A m) (hl : l.length + m.length ≤ 140737488355327)
    (hgd : o.guard = none) (ho : o.op = .call { callee := .builtin .append, args := #[s, x], argTypes := #[22, 22] })
    (hs : a.eval s = v) (hx : a.eval x = .slice A n c)
    (h : ∀ v' w', w'.ownsRow base 5 1 v' (l ++ m).length (bs (l ++ m)) → Below base w w' → base ≤ w'.heap.size → w.heap.size ≤ w'.heap.size → Kept v v' w w' → wpList Try.prog ops Q rest (a.put o.dst v') w') :
    wpList Try.prog ops Q (o :: rest) a w := by
  subst hm
  exact push_rowK s x hown hbase hr hl hgd ho hs hx h
/-- The same, at a step of a region that draws its order. -/
theorem step_push {n : Nat} {K : Act → World → Prop} {E : Prop} (s x : Operand) {l m : List UInt8} {B : Nat} {A : Option Addr} {c : Nat} (hm : m.length = n) (hown : w.ownsRow base 5 1 v l.length (bs l)) (hbase : base ≤ w.heap.size) (hr : RdB w B A m) (hl : l.length + m.length ≤ 140737488355327)
    (hgd : o.guard = none) (ho : o.op = .call { callee := .builtin .append, args := #[s, x], argTypes := #[22, 22] })
    (hs : a.eval s = v) (hx : a.eval x = .slice A n c)
    (h : ∀ v' w', w'.ownsRow base 5 1 v' (l ++ m).length (bs (l ++ m)) → Below base w w' → base ≤ w'.heap.size → w.heap.size ≤ w'.heap.size → Kept v v' w w' → K (a.put o.dst v') w') :
    if Region.wanted o (yielded ops a.tmps) = true then Oper.wp Try.prog o a w K Q else E := by
  subst hm
  have hw : Region.wanted o (yielded ops a.tmps) = true := by simp [Region.wanted, hgd]
  rw [if_pos hw]
  obtain ⟨i0, hi0, hz0, hz1, hz2⟩ := info_parts Try.info5
  refine wp_append_any w s x _ ho base 5 i0 _ 1 1 Try.underlying22 hi0 hz0 hz1 hz2 rfl (by omega) v _ _ hs hown B A m.length c (bs m) hx hr (bs_one _) (by simp only [maxLen]; omega) (by omega) hbase ?_
  intro v1 w1 h1 h2 h3
  have hb := grown_below hown h2 hbase
  refine h v1 w1 ?_ hb (Nat.le_trans hbase hb.size) h2.size (Kept.of h2 h3)
  rw [bs_append, List.length_append]
  exact h1
end
/-! ### parts of a row, as rules for the walk -/
theorem run_back (w : World) (A : Option Addr) {n m c : Nat} (hm : m ≤ n) (hc : n ≤ c) :
    (Instr.slice 22 (.slice A n c) (some (.int .i64 (m : Int))) none none).run Try.prog w = .ok (.slice (if c = m then A else A.map (·.add m)) (n - m) (c - m)) w := by
  have hm' : (m : Int) ≤ n := by omega
  have hc' : (n : Int) ≤ c := by omega
  go_simp
theorem run_front (w : World) (A : Option Addr) {n m c : Nat} (hm : m ≤ c) :
    (Instr.slice 22 (.slice A n c) none (some (.int .i64 (m : Int))) none).run Try.prog w = .ok (.slice A m c) w := by
  have hm' : (m : Int) ≤ c := by omega
  go_simp
theorem run_mid (w : World) (A : Option Addr) {n m k c : Nat} (hm : m ≤ k) (hk : k ≤ c) :
    (Instr.slice 22 (.slice A n c) (some (.int .i64 (m : Int))) (some (.int .i64 (k : Int))) none).run Try.prog w = .ok (.slice (if c = m then A else A.map (·.add m)) (k - m) (c - m)) w := by
  have hm' : (m : Int) ≤ k := by omega
  have hc' : (k : Int) ≤ c := by omega
  go_simp
end Go.Proofs.Ytogoaihimepboaa

namespace Go.Proofs.Ytogoaihimepboaa
open Go.ChangeShapes Go.WideShapes Go.ChangeAt Go.RowKit

theorem Try.own : ownKnob Try.prog.godebug = none := by kernel_rfl
theorem Try.laidOut : laidOutB Try.prog = true := by kernel_rfl

section
variable {H : Type} {enc : TypeId × Value → H} {P : Program}
/-- Arguments that were read, read again behind a call that leaves old memory as it was. -/
theorem trodAll_stays (hl : laidOutB P = true) {W W' : World} {sp : Nat → Bool} (hb : Below W.heap.size W W') :
    ∀ {ts : List TypeId} {vs : List Value} {ds : List (DataW H)} {ps : List MemPlace}, (∀ t ∈ ts, P.readableRec t = true ∧ t < P.types.size) → DataW.TrodAll enc P W 0 (fun _ => true) true ts vs ds ps →
      (∀ x ∈ ps, x.block < W.heap.size) → (∀ x ∈ ps, sp x.block = true) → DataW.TrodAll enc P W' 0 sp true ts vs ds ps
  | [], vs, ds, ps, _, h, _, _ => by
    obtain ⟨rfl, rfl, rfl⟩ := trodAll_nil h
    exact rfl
  | t :: ts, vs, ds, ps, ht, h, hlt, hs => by
    obtain ⟨v0, vs0, d0, ds0, p0, q0, rfl, rfl, rfl, h0, r0⟩ := trodAll_cons h
    obtain ⟨h1, h2⟩ := ht t (by simp)
    exact ⟨p0, q0, WideElems.Trod_stays hl h1 h2 h0 (fun x hx => hb.same (hlt x (List.mem_append_left _ hx))) (fun x hx => hs x (List.mem_append_left _ hx)),
      trodAll_stays hl hb (fun t' h' => ht t' (by simp [h'])) r0 (fun x hx => hlt x (List.mem_append_right _ hx)) (fun x hx => hs x (List.mem_append_right _ hx)), rfl⟩

theorem post_of_below {f : Func} {s : ChangeSpec} {apart fresh handsOn again : Bool} {W W' : World} {args : Array Value} {v : Value} {ds gs : List (DataW H)} {before pa pv : List MemPlace}
    (hW : DataW.Whole enc P f.params.toList s.vars apart W args.toList ds gs before)
    (hres : ∀ (b : Nat) (sp : Nat → Bool) (hd : Bool), DataW.TrodAll enc P W' b sp hd f.resultTypes.toList (v.resultList f.resultTypes.size) (s.fn H (ds ++ gs)).results [])
    (hargs : ∀ sp : Nat → Bool, (∀ p ∈ before, sp p.block = true) → DataW.TrodAll enc P W' 0 sp true f.params.toList args.toList (s.fn H (ds ++ gs)).args pa)
    (hvars : ∀ sp : Nat → Bool, (∀ p ∈ before, sp p.block = true) → DataW.TrodVars enc P W' sp s.vars (s.fn H (ds ++ gs)).vars pv)
    (hps : before = pa ++ pv) (hb : Below W.heap.size W W')
    (hok : ∀ (j : Nat) (t : TypeId) (r : Value), f.resultTypes[j]? = some t → (v.resultList f.resultTypes.size)[j]? = some r → Value.okWide P W' .any 0 t r) :
    s.post enc P f apart fresh handsOn again W args v W' := by
  have hlt : ∀ p ∈ before, p.block < W.heap.size := fun p hp => hW.lt p hp
  have hold : ∀ p ∈ before, (fun b => decide (b < W.heap.size)) p.block = true := fun p hp => by simpa using hlt p hp
  refine ⟨ds, gs, before, [], pa, pv, hW, hres _ _ _, hargs _ hold, hvars _ hold, World.keptBut_mono (fun p hp => ⟨hp, ?_⟩) (hb.frame (· ∈ before)), fun _ => ?_⟩
  · rw [hps, List.mem_append] at hp
    exact Or.inr hp
  · obtain ⟨_, _, _, _, _, hz, hn⟩ := hW
    refine ⟨hok, _, _, ([] ++ pa) ++ pv, ⟨[] ++ pa, pv, trodAll_append (hargs _ (fun _ _ => rfl)) (hres _ _ _), hvars _ (fun _ _ => rfl), rfl, ?_, ?_⟩, ?_⟩
    · intro b off hp
      have hin : MemPlace.cell b off ∈ before := by rw [hps]; simpa using hp
      rw [hb.frozen (hlt _ hin)]
      exact hz b off hin
    · intro ha
      have := hn ha
      rw [hps] at this
      simpa using this
    · intro p hp _
      rw [hps]
      simpa using hp

/-- A law's post: true, the arguments as they were. -/
theorem law_post {f : Func} {s : ChangeSpec} {tb : TypeId} {apart fresh handsOn again : Bool} {W W' : World} {args : Array Value} {ds gs : List (DataW H)} {before : List MemPlace}
    (hl : laidOutB P = true) (hb4 : P.underlying tb = some .bool) (hrt : f.resultTypes = #[tb]) (hts : (f.params.toList.all fun t => P.readableRec t && decide (t < P.types.size)) = true) (hv : s.vars = [])
    (hW : DataW.Whole enc P f.params.toList s.vars apart W args.toList ds gs before)
    (hfn : ∀ gs', gs' = [] → s.fn H (ds ++ gs') = { results := [.lit (.bool true)], args := ds }) (hb : Below W.heap.size W W') : s.post enc P f apart fresh handsOn again W args (.bool true) W' := by
  have hW' := hW
  obtain ⟨p, q, hA, hV, rfl, hfz, hnd⟩ := hW
  rw [hv] at hV
  obtain ⟨rfl, rfl⟩ := trodVars_none hV
  have e := hfn [] rfl
  refine post_of_below (pa := p) (pv := []) hW' (fun _ _ _ => ?_) (fun sp hsp => ?_) (fun _ _ => ?_) rfl hb ?_
  · rw [e, hrt]
    exact trodAll_mk1 (shut_bool hb4 true)
  · rw [e]
    exact trodAll_stays hl hb (fun t ht => by have := List.all_eq_true.1 hts t ht; simpa using this) hA (fun x hx => hW'.lt x (List.mem_append_left _ hx)) (fun x hx => hsp x (List.mem_append_left _ hx))
  · rw [e, hv]
    rfl
  · exact ok_one hrt rfl (okWide_bool_mk hb4 true)
end

theorem lit_u8 {n : Int} (h : (Lit.int .u8 n).wf = true) : 0 ≤ n ∧ n ≤ 255 := by
  simpa [Lit.wf, IntKind.min, IntKind.max, IntKind.signed, IntKind.bits] using h
theorem lit_u16 {n : Int} (h : (Lit.int .u16 n).wf = true) : 0 ≤ n ∧ n ≤ 65535 := by
  simpa [Lit.wf, IntKind.min, IntKind.max, IntKind.signed, IntKind.bits] using h
theorem lit_u32 {n : Int} (h : (Lit.int .u32 n).wf = true) : 0 ≤ n ∧ n ≤ 4294967295 := by
  simpa [Lit.wf, IntKind.min, IntKind.max, IntKind.signed, IntKind.bits] using h
theorem lit_u64 {n : Int} (h : (Lit.int .u64 n).wf = true) : 0 ≤ n ∧ n ≤ 18446744073709551615 := by
  simpa [Lit.wf, IntKind.min, IntKind.max, IntKind.signed, IntKind.bits] using h
theorem lit_i64 {n : Int} (h : (Lit.int .i64 n).wf = true) : -9223372036854775808 ≤ n ∧ n ≤ 9223372036854775807 := by
  simpa [Lit.wf, IntKind.min, IntKind.max, IntKind.signed, IntKind.bits] using h

section
variable {H : Type} {enc : TypeId × Value → H}
set_option maxRecDepth 100000 in
/-- A slice of bytes that came in. -/
theorem open_bytes {W : World} {v : Value} {d : DataW H} {ps : List MemPlace} {r : Reach} {b : Nat} (hval : Value.okWide Try.prog W r b 22 v) (h : DataW.Trod enc Try.prog W 0 (fun _ => true) true 22 v d ps) :
    ∃ A c, ∃ l : List UInt8, v = .slice A l.length c ∧ l.length ≤ c ∧ c ≤ maxLen ∧ RdB W W.heap.size A l := by
  obtain ⟨a0, n0, c0, rfl⟩ := okWide_slice Try.underlying22 hval
  obtain ⟨fuel, hf⟩ := h
  rcases open_ints Try.underlying22 Try.underlying5 (by kernel_rfl) hf with ⟨hcs, _⟩ | ⟨a, len, cap, zs, hcs, _, hle, hmax, hall, _, hcell, hwf⟩
  · simp [Value.cells] at hcs
    obtain ⟨rfl, rfl, rfl⟩ := hcs
    exact ⟨none, 0, [], rfl, Nat.le_refl _, by simp [maxLen], Reads.none_⟩
  · simp [Value.cells] at hcs
    obtain ⟨rfl, rfl, rfl⟩ := hcs
    simp only [if_true] at hall
    have hlen : ((zs.take n0).map fun n => UInt8.ofNat n.toNat).length = n0 := by simp; omega
    refine ⟨some a, c0, (zs.take n0).map fun n => UInt8.ofNat n.toNat, by rw [hlen], by rw [hlen]; exact hle, hmax, by rw [bs_len, hlen]; omega, fun hn => ?_⟩
    rw [hlen] at hn
    have h0 := hcell 0 (by omega)
    refine ⟨a, rfl, by have := World.block_lt_of_cell? W _ h0; rwa [block_of_add] at this, fun j u hu => ?_⟩
    have hj : j < n0 := by
      have := (List.getElem?_eq_some_iff.1 hu).1
      rw [bs_len, hlen] at this
      exact this
    have hjz : j < zs.length := by omega
    have hb := lit_u8 (hwf (zs[j]) (List.getElem_mem hjz))
    rw [hcell j hjz, ← hu]
    have e : (UInt8.ofNat (zs[j]).toNat).toNat = (zs[j]).toNat := by simp [UInt8.toNat_ofNat']; omega
    simp only [bs, List.map_map, List.getElem?_map, List.getElem?_take, if_pos hj, List.getElem?_eq_getElem hjz, Option.map_some, Function.comp_apply, e, List.getD_eq_getElem?_getD, Option.getD_some]
    rw [Int.toNat_of_nonneg hb.1]
end
end Go.Proofs.Ytogoaihimepboaa

namespace Go.Proofs.Ytogoaihimepboaa
open Go.ChangeShapes Go.WideShapes Go.ChangeAt Go.RowKit

section
variable {H : Type} {enc : TypeId × Value → H}
theorem bytes_of {W : World} {A : Option Addr} {L C : Nat} {zs : List Int} (hL : L ≤ C) (hZ : zs.length = C) (hwf : ∀ n ∈ zs, (Lit.int .u8 n).wf = true) (h0 : A = none → C = 0)
    (hc : ∀ a', A = some a' → ∀ c, c < C → W.cell? (a'.add c) = some (.int .u8 (zs.getD c 0))) : ∃ l : List UInt8, l.length = L ∧ RdB W W.heap.size A l := by
  have hlen : ((zs.take L).map fun n => UInt8.ofNat n.toNat).length = L := by simp; omega
  refine ⟨(zs.take L).map fun n => UInt8.ofNat n.toNat, hlen, by rw [bs_len, hlen]; omega, fun hn => ?_⟩
  rw [hlen] at hn
  cases A with
  | none => have := h0 rfl; omega
  | some a =>
    have hcell := hc a rfl
    have h0 := hcell 0 (by omega)
    refine ⟨a, rfl, by have := World.block_lt_of_cell? W _ h0; rwa [block_of_add] at this, fun j u hu => ?_⟩
    have hj : j < L := by
      have := (List.getElem?_eq_some_iff.1 hu).1
      rw [bs_len, hlen] at this
      exact this
    have hjz : j < zs.length := by omega
    have hb := lit_u8 (hwf (zs[j]) (List.getElem_mem hjz))
    rw [hcell j (by omega), ← hu]
    have e : (UInt8.ofNat (zs[j]).toNat).toNat = (zs[j]).toNat := by simp [UInt8.toNat_ofNat']; omega
    simp only [bs, List.map_map, List.getElem?_map, List.getElem?_take, if_pos hj, List.getElem?_eq_getElem hjz, Option.map_some, Function.comp_apply, e, List.getD_eq_getElem?_getD, Option.getD_some]
    rw [Int.toNat_of_nonneg hb.1]
/-- A slice of rows of bytes that came in. -/
theorem open_rows {W : World} {v : Value} {d : DataW H} {ps : List MemPlace} {r : Reach} {b : Nat} (hval : Value.okWide Try.prog W r b 35 v) (h : DataW.Trod enc Try.prog W 0 (fun _ => true) true 35 v d ps) :
    ∃ A c, ∃ rows : List Row, v = .slice A rows.length c ∧ rows.length ≤ c ∧ c ≤ maxLen ∧ RdR W W.heap.size A rows ∧ ∀ r ∈ rows, r.l.length ≤ 9223372036854775807 := by
  obtain ⟨a0, n0, c0, rfl⟩ := okWide_slice Try.underlying35 hval
  obtain ⟨fuel, hf⟩ := h
  rcases Go.Deep.open_int_rows Try.underlying35 Try.underlying22 Try.underlying5 (by kernel_rfl) (by kernel_rfl) hf with ⟨hcs, _⟩ | ⟨a, len, cap, A, L, C, Z, hcs, _, hle, hmax, _, hall⟩
  · simp [Value.cells] at hcs
    obtain ⟨rfl, rfl, rfl⟩ := hcs
    exact ⟨none, 0, [], rfl, Nat.le_refl _, by simp [maxLen], ⟨Reads.none_, by simp⟩, by simp⟩
  · simp [Value.cells] at hcs
    obtain ⟨rfl, rfl, rfl⟩ := hcs
    have hex : ∀ k, ∃ l : List UInt8, k < n0 → l.length = L k ∧ RdB W W.heap.size (A k) l := by
      intro k
      by_cases hk : k < n0
      · obtain ⟨_, h1, _, h3, h4, h5, h6⟩ := hall k (by omega)
        obtain ⟨l, hl, hr⟩ := bytes_of h1 h3 h4 h5 (fun a' e => (h6 a' e).2)
        exact ⟨l, fun _ => ⟨hl, hr⟩⟩
      · exact ⟨[], fun h => absurd h hk⟩
    obtain ⟨f, hf'⟩ := Classical.axiomOfChoice hex
    have hlen : ((List.range n0).map fun k => (⟨A k, C k, f k⟩ : Row)).length = n0 := by simp
    refine ⟨some a, c0, (List.range n0).map fun k => ⟨A k, C k, f k⟩, by rw [hlen], by rw [hlen]; exact hle, hmax, ⟨?_, ?_⟩, ?_⟩
    · refine ⟨by simp, fun hn => ?_⟩
      rw [hlen] at hn
      have h0 := (hall 0 (by omega)).1
      refine ⟨a, rfl, by have := World.block_lt_of_cell? W _ h0; rwa [block_of_add] at this, fun j u hu => ?_⟩
      have hj : j < n0 := by
        have := (List.getElem?_eq_some_iff.1 hu).1
        simpa using this
      rw [List.getElem?_map, List.getElem?_map, List.getElem?_range hj] at hu
      simp only [Option.map_some, Option.some.injEq] at hu
      subst hu
      rw [(hall j (by omega)).1, ← (hf' j hj).1]
      rfl
    · intro r hr
      rw [List.mem_map] at hr
      obtain ⟨k, hk, rfl⟩ := hr
      exact (hf' k (List.mem_range.1 hk)).2
    · intro r hr
      rw [List.mem_map] at hr
      obtain ⟨k, hk, rfl⟩ := hr
      have hk := List.mem_range.1 hk
      obtain ⟨_, h1, h2, _⟩ := hall k (by omega)
      have := (hf' k hk).1
      simp only [maxLen] at h2
      simp only
      omega
end
end Go.Proofs.Ytogoaihimepboaa
