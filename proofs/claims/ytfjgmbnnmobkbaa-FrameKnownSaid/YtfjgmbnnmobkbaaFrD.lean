/- Single operations of a region that draws its order, over frames; a frame that is known by its slots. Conditions: none. -/
import Derived.Test.YtfjgmbnnmobkbaaFrW
import Derived.Test.YtfjgmbnnmobkbaaLawFP
namespace Go.Proofs.Ytfjgmbnnmobkbaa
open Go.RowKit

section
variable {P : Program} {b : Act} {w : World} {o : Oper}
theorem exec_not {x : Operand} {t : TypeId} {c : Bool} (ho : o.op = .unOp .not t x) (h : b.eval x = .bool c) : (execOp b.eval o).run P w = .ok (.value (.bool !c)) w := by
  unfold execOp
  simp only [ho, h]
  go_simp
end
section
variable {b : Act} {w : World} {o : Oper}
theorem exec_neqE {x : Operand} {i : Int} {v : Value} (ho : o.op = .binOp .neq 30 x (.const v) 30) (h : b.eval x = .int .i64 i) (hv : v = .int .i64 i) : (execOp b.eval o).run Try.prog w = .ok (.value (.bool false)) w := by
  subst hv
  unfold execOp
  simp only [ho, h]
  go_simp
theorem exec_neqI {x y : Operand} {i : Int} (ho : o.op = .binOp .neq 3 x y 3) (h : b.eval x = .int .i64 i) (h' : b.eval y = .int .i64 i) : (execOp b.eval o).run Try.prog w = .ok (.value (.bool false)) w := by
  unfold execOp
  simp only [ho, h, h']
  go_simp
theorem exec_addI {x y : Operand} {i j k : Int} (ho : o.op = .binOp .add 3 x y 3) (h : b.eval x = .int .i64 i) (h' : b.eval y = .int .i64 j) (hk : i + j = k) (hw : IntKind.i64.wrap k = k) : (execOp b.eval o).run Try.prog w = .ok (.value (.int .i64 k)) w := by
  unfold execOp
  simp only [ho, h, h']
  go_simp
theorem exec_mulI {x y : Operand} {i j k : Int} (ho : o.op = .binOp .mul 3 x y 3) (h : b.eval x = .int .i64 i) (h' : b.eval y = .int .i64 j) (hk : i * j = k) (hw : IntKind.i64.wrap k = k) : (execOp b.eval o).run Try.prog w = .ok (.value (.int .i64 k)) w := by
  unfold execOp
  simp only [ho, h, h']
  go_simp
theorem exec_atF {x y : Operand} {ad : Addr} {n c k : Nat} (ho : o.op = .indexAddr 22 x y) (h : b.eval x = .slice (some ad) n c) (h' : b.eval y = .int .i64 (k : Int)) (hk : k < n) : (execOp b.eval o).run Try.prog w = .ok (.value (.pointer (some (ad.add (k * 2))))) w := by
  have hk' : (k : Int) < n := by omega
  unfold execOp
  simp only [ho, h, h']
  go_simp
theorem exec_atR {x : Operand} {ad : Addr} {n c : Nat} {v : Value} (ho : o.op = .indexAddr 28 x (.const v)) (h : b.eval x = .slice (some ad) n c) (hv : v = .int .i64 0) (hk : 0 < n) : (execOp b.eval o).run Try.prog w = .ok (.value (.pointer (some ad))) w := by
  have hk' : (0 : Int) < n := by omega
  subst hv
  unfold execOp
  simp only [ho, h]
  go_simp
theorem exec_loadF {x : Operand} {ad : Addr} {u v : Value} (ho : o.op = .load 26 x) (h : b.eval x = .pointer (some ad)) (h1 : w.cell? ad = some u) (h2 : w.cell? ⟨ad.block, ad.off + 1, none⟩ = some v) : (execOp b.eval o).run Try.prog w = .ok (.value (.agg #[u, v])) w := by
  unfold execOp
  simp only [ho, h]
  go_simp
theorem exec_loadR {x : Operand} {ad : Addr} {u v : Value} (ho : o.op = .load 38 x) (h : b.eval x = .pointer (some ad)) (h1 : w.cell? ad = some u) (h2 : w.cell? ⟨ad.block, ad.off + 1, none⟩ = some v) : (execOp b.eval o).run Try.prog w = .ok (.value (.agg #[u, v])) w := by
  unfold execOp
  simp only [ho, h]
  go_simp
theorem exec_midF {x y z : Operand} {A : Option Addr} {n m k c : Nat} (ho : o.op = .slice 22 x (some y) (some z) none) (h : b.eval x = .slice A n c) (h' : b.eval y = .int .i64 (m : Int)) (h'' : b.eval z = .int .i64 (k : Int)) (hm : m ≤ k) (hk : k ≤ c) :
    (execOp b.eval o).run Try.prog w = .ok (.value (.slice (if c = m then A else A.map (·.add (m * 2))) (k - m) (c - m))) w := by
  have hm' : (m : Int) ≤ k := by omega
  have hc' : (k : Int) ≤ c := by omega
  unfold execOp
  simp only [ho, Option.map_none, Option.map_some, h, h', h'']
  go_simp
end
theorem enter_size (w : World) (args : Array Value) : (callFunc 17 args).run Try.prog w = .ok (.enter 17 args) w := by kernel_rfl
theorem enter_refs (w : World) (args : Array Value) : (callFunc 10 args).run Try.prog w = .ok (.enter 10 args) w := by kernel_rfl
theorem enter_same (w : World) (args : Array Value) : (callFunc 27 args).run Try.prog w = .ok (.enter 27 args) w := by kernel_rfl

/-- A frame whose slots are known: those that the operations write, and those that they leave. -/
theorem act_known {ops : List Oper} {a b : Act} {n : Nat} (hsz : b.tmps.size = n) (hd : b.defers = a.defers) (hs : ∀ t, isDst ops t = false → b.tmps.getD t undef = a.tmps.getD t undef) :
    b = ⟨((List.range n).map fun t => if isDst ops t then b.tmps.getD t undef else a.tmps.getD t undef).toArray, a.defers⟩ := by
  obtain ⟨tm, df⟩ := b
  simp only at hsz hd hs ⊢
  subst hd
  congr 1
  apply Array.ext
  · simp [hsz]
  · intro i h1 h2
    simp only [List.getElem_toArray, List.getElem_map, List.getElem_range]
    cases hi : isDst ops i with
    | true => simp [h1]
    | false =>
      rw [← hs i hi]
      simp [h1]

/-- A listed frame of the reference, that says what f says. -/
structure RefAt (f : Fr) (w : World) (ad : Addr) (g : Fr) : Prop where
  c1 : w.cell? ad = some (.int .u8 (g.k.toNat : Int))
  c2 : w.cell? ⟨ad.block, ad.off + 1, none⟩ = some (.slice g.r.A g.r.l.length g.r.c)
  lt : ad.block < w.heap.size
  eq : (f.k, f.r.l) = (g.k, g.r.l)
  rd : RdB w w.heap.size g.r.A g.r.l
theorem RefAt.keep {f : Fr} {w w' : World} {ad : Addr} {g : Fr} (h : RefAt f w ad g) (hb : Below w.heap.size w w') : RefAt f w' ad g :=
  ⟨(hb.cell h.lt).trans h.c1, (hb.cell (p := ⟨ad.block, ad.off + 1, none⟩) h.lt).trans h.c2, Nat.lt_of_lt_of_le h.lt hb.size, h.eq, Reads.more (Reads.below h.rd hb) hb.size⟩
theorem refs_one {A : Option Addr} {n c B : Nat} {fs : List Fr} {f : Fr} {w : World} (hn : fs.length = n) (hl : n ≤ 10) (hls : ∀ f ∈ fs, f.r.l.length ≤ 140737488351232) (hB : B ≤ w.heap.size) (hr : RdF w B A fs) (hk : fks fs = [(f.k, f.r.l)]) :
    Calls Try.prog 10 #[.slice A n c] w fun e w' => ∃ v, e = .returned v ∧ Below w.heap.size w w' ∧ ∃ ad c6 g, v = .slice (some ad) 1 c6 ∧ RefAt f w' ad g := by
  subst hn
  refine (refs_any A c B fs w (by omega) hls hB hr).mono ?_
  rintro e w6 ⟨⟨v6, own6, rfl, hO6, hfk6⟩, hb6⟩
  obtain ⟨A6, c6, rfl, _, hR6⟩ := hO6.reads
  rw [hk] at hfk6
  have hl6 : own6.length = 1 := by rw [← fks_len, hfk6]; rfl
  obtain ⟨ad6, g6, rfl, hlt, hd1, hd2, hy6, hrow6⟩ := hR6.at_ (k := 0) (by omega)
  simp only [Nat.zero_mul] at hd1 hd2
  rw [add_zero'] at hd1 hd2
  have h1 := fks_get hy6
  rw [hfk6] at h1
  have h2 := h1.out
  simp only [List.getElem?_cons_zero, Option.some.injEq] at h2
  exact ⟨_, rfl, hb6, ad6, c6, g6, by rw [hl6], hd1, hd2, hlt, h2, hrow6⟩
theorem same_ref {f g : Fr} {B : Nat} {w : World} (hl : f.r.l.length ≤ 140737488351232) (hB : B ≤ w.heap.size) (hr : RdB w B f.r.A f.r.l) (he : (f.k, f.r.l) = (g.k, g.r.l)) (hr' : RdB w w.heap.size g.r.A g.r.l) :
    Calls Try.prog 27 #[f.v, g.v] w fun e w' => ∃ v, e = .returned v ∧ Below w.heap.size w w' ∧ v = .bool true := by
  refine (same_any f g B w.heap.size w hl hB (Nat.le_refl _) hr hr').mono ?_
  rintro e w' ⟨rfl, hb⟩
  exact ⟨_, rfl, hb, by rw [decide_eq_true he]⟩
theorem size_ref {f : Fr} {Z : Nat} {w : World} (hl : f.r.l.length ≤ 140737488351232) (hz : fsz f.r.l.length = Z) :
    Calls Try.prog 17 #[f.v] w fun e w' => ∃ v, e = .returned v ∧ Below w.heap.size w w' ∧ v = .int .i64 (Z : Int) := by
  subst hz
  refine (frSize_any f w hl).mono ?_
  rintro e w' ⟨rfl, hb⟩
  exact ⟨_, rfl, hb, rfl⟩
end Go.Proofs.Ytfjgmbnnmobkbaa
