/- The walk of ExtentKnown: it holds. Conditions: none. -/
import Derived.Test.YtnlcohijopokjaaExV
namespace Go.Proofs.Ytnlcohijopokjaa
open Go.RowKit

theorem u8_of {z : Int} (h0 : 0 ≤ z) (h1 : z < 256) : ∃ x : UInt8, z = (x.toNat : Int) := ⟨UInt8.ofNat z.toNat, by simp [UInt8.toNat_ofNat']; omega⟩
section
variable {b : Act} {w : World} {o : Oper}
theorem exec_rem2 {x : Operand} {k r : Nat} (hr : k % 2 = r) (ho : o.op = .binOp .rem 3 x (.const (.int .i64 2)) 3) (h : b.eval x = .int .i64 (k : Int)) : (execOp b.eval o).run Try.prog w = .ok (.value (.int .i64 (r : Int))) w := by
  have hr' : Int.tmod (k : Int) 2 = (r : Int) := by rw [Int.tmod_eq_emod_of_nonneg (by omega)]; omega
  unfold execOp
  simp only [ho, h]
  go_simp
theorem exec_add1 {x : Operand} {r : Nat} (hr : r < 2) (ho : o.op = .binOp .add 3 (.const (.int .i64 1)) x 3) (h : b.eval x = .int .i64 (r : Int)) : (execOp b.eval o).run Try.prog w = .ok (.value (.int .i64 ((1 + r : Nat) : Int))) w := by
  obtain rfl | rfl : r = 0 ∨ r = 1 := by omega
  · unfold execOp
    simp only [ho, h]
    go_simp
    kernel_rfl
  · unfold execOp
    simp only [ho, h]
    go_simp
    kernel_rfl
theorem exec_shr {x y : Operand} {q k : Nat} (ho : o.op = .binOp .shr 3 x y 3) (h : b.eval x = .int .i64 (q : Int)) (h' : b.eval y = .int .i64 (k : Int)) : (execOp b.eval o).run Try.prog w = .ok (.value (.int .i64 ((q : Int) / 2 ^ min k 64))) w := by
  unfold execOp
  simp only [ho, h, h']
  go_simp
theorem exec_remZ {x : Operand} {z : Int} (ho : o.op = .binOp .rem 3 x (.const (.int .i64 2)) 3) (h : b.eval x = .int .i64 z) : (execOp b.eval o).run Try.prog w = .ok (.value (.int .i64 (z.tmod 2))) w := by
  unfold execOp
  simp only [ho, h]
  go_simp
theorem exec_eq1 {x : Operand} {z : Int} (ho : o.op = .binOp .eql 3 x (.const (.int .i64 1)) 3) (h : b.eval x = .int .i64 z) : (execOp b.eval o).run Try.prog w = .ok (.value (.bool (z == 1))) w := by
  unfold execOp
  simp only [ho, h]
  go_simp
end
def EnF (A3 : Option Addr) (n3 c3 gb i r q : Nat) (l : List UInt8) : Nat → Value → World → Prop
  | 0, v, _ => v = .slice A3 n3 c3
  | 1, v, _ => v = .slice (some ⟨gb, 0, none⟩) 2 2
  | 2, v, _ => v = .int .i64 (i : Int)
  | 3, v, _ => v = .int .i64 (r : Int)
  | 4, v, _ => v = .int .i64 ((1 + r : Nat) : Int)
  | 5, v, _ => v = .slice (some ⟨gb, 0, none⟩) (1 + r) 2
  | 6, v, _ => v = .int .i64 (q : Int)
  | 7, v, _ => v = .int .i64 (i : Int)
  | 8, v, _ => ∃ z : Int, v = .int .i64 z
  | 9, v, _ => ∃ z : Int, v = .int .i64 z
  | 10, v, _ => ∃ d : Bool, v = .bool d
  | 11, v, _ => ∃ d : Bool, v = (Pa.mk ⟨some ⟨gb, 0, none⟩, 2, l⟩ d).v
  | 12, v, w => ∃ (d : Bool) (A : Option Addr), v = .slice A 1 1 ∧ Reads w w.heap.size 2 A 1 (pcells [(Pa.mk ⟨some ⟨gb, 0, none⟩, 2, l⟩ d)])
  | _, _, _ => True
theorem EnF.keep {A3 : Option Addr} {n3 c3 gb i r q : Nat} {l : List UInt8} (j : Nat) (u : Value) (w w' : World) (hb : Below w.heap.size w w') (hfact : EnF A3 n3 c3 gb i r q l j u w) : EnF A3 n3 c3 gb i r q l j u w' :=
  match j, hfact with
  | 0, h => h
  | 1, h => h
  | 2, h => h
  | 3, h => h
  | 4, h => h
  | 5, h => h
  | 6, h => h
  | 7, h => h
  | 8, h => h
  | 9, h => h
  | 10, h => h
  | 11, h => h
  | 12, h => by obtain ⟨d, A, e, h⟩ := h; exact ⟨d, A, e, (Reads.below h hb).more hb.size⟩
  | _ + 13, h => h
theorem lit_part (wr : World) (x y : UInt8) {m : Nat} (hm : m ≤ 2) : RdX (wr.alloc (.cells #[.int .u8 (x.toNat : Int), .int .u8 (y.toNat : Int)] 5)) (fun b => b < wr.heap.size) 1 (some ⟨wr.heap.size, 0, none⟩) m (bs ([x, y].take m)) := by
  refine ⟨by rw [bs_len, List.length_take]; simp; omega, fun _ => ⟨_, rfl, by simp, fun h => by simp at h, fun j u hu => ?_⟩⟩
  have hj : (bs [x, y])[j]? = some u := by
    unfold bs at hu ⊢
    rw [List.map_take, List.getElem?_take] at hu
    split at hu
    · exact hu
    · cases hu
  rw [lit_add, Nat.zero_add, cell_of_row (wr.alloc (.cells #[.int .u8 (x.toNat : Int), .int .u8 (y.toNat : Int)] 5)) wr.heap.size j #[.int .u8 (x.toNat : Int), .int .u8 (y.toNat : Int)] 5 (0, 0) (heap_alloc_new wr _)]
  simpa [bs] using hj
theorem RdK.front {w : World} {B : Nat} {A : Option Addr} {l : List Bool} (h : RdK w B A l) (j : Nat) : RdK w B A (l.take j) := by
  refine ⟨by rw [kc_len]; omega, fun hn => ?_⟩
  rw [List.length_take] at hn
  obtain ⟨ad, e, hb, hc⟩ := h.2 (by omega)
  refine ⟨ad, e, hb, fun i u hu => hc i u ?_⟩
  unfold kc at hu ⊢
  rw [List.map_take, List.getElem?_take] at hu
  split at hu
  · exact hu
  · cases hu
theorem three_parts (w : World) : FileV ((w.alloc (.cells #[.int .u8 120] 5 (1, 2))).alloc (.cells #[.slice none 0 0, .bool false, .slice (some ⟨w.heap.size, 0, none⟩) 1 1, .bool false, .slice none 0 0, .bool true] 52)) (fun _ => False) (.slice (some ⟨w.heap.size + 1, 0, none⟩) 3 3) [([], false), ([120], false), ([], true)] := by
  have h0 := reads_marked w (l := [120]) (xs := [.int .u8 120]) rfl (1, 2)
  have h1 := PsX.new (w := w.alloc (.cells #[.int .u8 120] 5 (1, 2))) (X := fun _ => False) (ps := [⟨⟨none, 0, []⟩, false⟩, ⟨⟨some ⟨w.heap.size, 0, none⟩, 1, [120]⟩, false⟩, ⟨⟨none, 0, []⟩, true⟩]) 52 (fun _ h => h.elim) (fun p hp => by
    simp only [List.mem_cons, List.not_mem_nil, or_false] at hp
    rcases hp with rfl | rfl | rfl
    · exact RdX.none_
    · exact RdX.of h0 (by simp) (fun _ _ h => h)
    · exact RdX.none_)
  have e : (w.alloc (.cells #[.int .u8 120] 5 (1, 2))).heap.size = w.heap.size + 1 := by simp
  rw [e] at h1
  exact ⟨_, 3, _, rfl, Nat.le_refl _, h1, rfl⟩
theorem RdX.kept {w w' : World} {X : Nat → Prop} {size n : Nat} {A : Option Addr} {xs : List Value} {v v' : Value} (h : RdX w X size A n xs) (hk : Kept v v' w w') (hs : w.heap.size ≤ w'.heap.size) (hv : ∀ b, v.ownBlock = some b → X b) : RdX w' (fun _ => False) size A n xs := by
  refine ⟨h.1, fun hn => ?_⟩
  obtain ⟨ad, e, hb, hx, hc⟩ := h.2 hn
  obtain ⟨_, h2⟩ := hk ad.block hb (fun e => hx (hv _ e))
  refine ⟨ad, e, by omega, fun h => h, fun j u hu => ?_⟩
  rw [← hc j u hu]
  exact World.cell?_of_block (by rw [block_of_add]; exact h2)
/-- Calls behind which one more stands. -/
theorem K3.more {base : Nat} {w w' : World} {v3 v4 v5 v' : Value} {ps : List Pa} {ks : List Bool} {xs : List Ac} (h : K3 base w v3 v4 v5 ps ks xs) {A4 : Option Addr} {c4 : Nat} (e4 : v4 = .slice A4 ks.length c4) (h4 : ks.length ≤ c4) (h30 : ks.length ≤ 30)
    (hn : w'.ownsRow base 40 3 v' (xs ++ [(⟨3, ⟨none, 0, []⟩, ⟨A4, c4, ks⟩⟩ : Ac)]).length (acells (xs ++ [⟨3, ⟨none, 0, []⟩, ⟨A4, c4, ks⟩⟩]))) (hk : Kept v5 v' w w') (hs : w.heap.size ≤ w'.heap.size) :
    ∃ A c, v' = .slice A (xs ++ [(⟨3, ⟨none, 0, []⟩, ⟨A4, c4, ks⟩⟩ : Ac)]).length c ∧ RdAc w' w'.heap.size A (xs ++ [⟨3, ⟨none, 0, []⟩, ⟨A4, c4, ks⟩⟩]) := by
  obtain ⟨A, c, e, _, _, hr⟩ := own_form hn
  have k4 := (own_kept h.k hk h.d3).1
  obtain ⟨A', c', e', _, _, hr4⟩ := own_form k4
  rw [e4] at e'
  injection e' with e1 _ _
  subst e1
  refine ⟨A, c, e, hr, fun x hx => ?_, fun x hx => ?_, fun x hx => ?_⟩
  all_goals
    rw [List.mem_append, List.mem_singleton] at hx
    rcases hx with hx | rfl
  · exact (RdX.kept (h.ra x hx).1 hk hs (fun b e => .inr (.inr e))).reads
  · exact Reads.none_
  · rw [(h.ra x hx).2.1]; exact Reads.none_
  · exact hr4
  · exact (h.ra x hx).2.2
  · exact ⟨by simp, by simp, by simp, by simp only; omega, h4⟩
theorem three_rows (w : World) {X : Nat → Prop} (hX : ∀ b, X b → b < w.heap.size) : RdX (((w.alloc (.cells #[.int .u8 1] 5)).alloc (.cells #[.int .u8 2, .int .u8 3] 5)).alloc (.cells #[.slice (some ⟨w.heap.size, 0, none⟩) 1 1, .slice none 0 0, .slice (some ⟨w.heap.size + 1, 0, none⟩) 2 2] 26)) X 1 (some ⟨w.heap.size + 1 + 1, 0, none⟩) 3 ([(⟨some ⟨w.heap.size, 0, none⟩, 1, [1]⟩ : Row), ⟨none, 0, []⟩, ⟨some ⟨w.heap.size + 1, 0, none⟩, 2, [2, 3]⟩].map Row.v) ∧
    BsX (((w.alloc (.cells #[.int .u8 1] 5)).alloc (.cells #[.int .u8 2, .int .u8 3] 5)).alloc (.cells #[.slice (some ⟨w.heap.size, 0, none⟩) 1 1, .slice none 0 0, .slice (some ⟨w.heap.size + 1, 0, none⟩) 2 2] 26)) X (some ⟨w.heap.size, 0, none⟩) [1] ∧
    BsX (((w.alloc (.cells #[.int .u8 1] 5)).alloc (.cells #[.int .u8 2, .int .u8 3] 5)).alloc (.cells #[.slice (some ⟨w.heap.size, 0, none⟩) 1 1, .slice none 0 0, .slice (some ⟨w.heap.size + 1, 0, none⟩) 2 2] 26)) X (some ⟨w.heap.size + 1, 0, none⟩) [2, 3] := by
  have h1 := reads_new w 5 (bs [1])
  have h2 := reads_new (w.alloc (.cells (bs [1]).toArray 5)) 5 (bs [2, 3])
  have h3 := reads_new ((w.alloc (.cells (bs [1]).toArray 5)).alloc (.cells (bs [2, 3]).toArray 5)) 26 ([(⟨some ⟨w.heap.size, 0, none⟩, 1, [1]⟩ : Row), ⟨none, 0, []⟩, ⟨some ⟨w.heap.size + 1, 0, none⟩, 2, [2, 3]⟩].map Row.v)
  have e1 : (w.alloc (.cells (bs [1]).toArray 5)).heap.size = w.heap.size + 1 := by simp
  have e2 : ((w.alloc (.cells (bs [1]).toArray 5)).alloc (.cells (bs [2, 3]).toArray 5)).heap.size = w.heap.size + 1 + 1 := by simp
  rw [e1] at h2
  rw [e2] at h3
  have b2 := below_new ((w.alloc (.cells (bs [1]).toArray 5)).alloc (.cells (bs [2, 3]).toArray 5)) (.cells (([(⟨some ⟨w.heap.size, 0, none⟩, 1, [1]⟩ : Row), ⟨none, 0, []⟩, ⟨some ⟨w.heap.size + 1, 0, none⟩, 2, [2, 3]⟩].map Row.v)).toArray 26)
  have b1 := below_new (w.alloc (.cells (bs [1]).toArray 5)) (.cells (bs [2, 3]).toArray 5)
  have av : ∀ {W : World} {size n g : Nat} {xs : List Value}, Reads W (g + 1) size (some ⟨g, 0, none⟩) n xs → g + 1 ≤ W.heap.size → w.heap.size ≤ g → RdX W X size (some ⟨g, 0, none⟩) n xs := by
    intro W size n g xs h hg hw
    refine ⟨h.1, fun hn => ?_⟩
    obtain ⟨ad, e, _, hc⟩ := h.2 hn
    injection e with e
    subst e
    exact ⟨_, rfl, by show g < _; omega, fun hx => by have := hX _ hx; simp only at this; omega, hc⟩
  refine ⟨?_, ?_, ?_⟩
  · exact av h3 (by simp) (by omega)
  · exact ((av h1 (by simp) (by omega)).below b1).below b2
  · exact (av h2 (by simp) (by omega)).below b2
section
variable {ops : Array Oper} {rest : List Oper} {o : Oper} {a : Act} {Q : Exit → Act → World → Prop} {w : World} {base : Nat} {v : Value}
theorem wpList_wanted {P : Program} (hw : Region.wanted o (yielded ops a.tmps) = true) (h : ∀ K : Act → World → Prop, (∀ a w, wpList P ops Q rest a w → K a w) → o.wp P a w K Q) : wpList P ops Q (o :: rest) a w :=
  wpList_step fun K hK => by simp only [hw, if_true]; exact h K hK
theorem push_acG {N : Nat} (s x : Operand) {l : List Ac} (y : Ac) {cs : Array Value} (hcs : cs = y.cs.toArray) (hown : w.ownsRow base 40 3 v l.length (acells l)) (hbase : base ≤ w.heap.size) (hl : l.length ≤ 1099511627)
    (hw : Region.wanted o (yielded ops a.tmps) = true) (ho : o.op = .call { callee := .builtin .append, args := #[s, x], argTypes := #[23, 23] })
    (hs : a.eval s = v) (hx : a.eval x = .slice (some ⟨N, 0, none⟩) 1 1) (hN : w.heap.size = N)
    (h : ∀ v' w', w'.ownsRow base 40 3 v' (l ++ [y]).length (acells (l ++ [y])) → Below base w w' → w.heap.size ≤ w'.heap.size → Kept v v' w w' → wpList Try.prog ops Q rest (a.put o.dst v') w') :
    wpList Try.prog ops Q (o :: rest) a (w.alloc (.cells cs 40)) := by
  subst hN hcs
  obtain ⟨i0, hi0, hz0, hz1, hz2⟩ := info_parts info_act
  have hb0 := below_new w (.cells y.cs.toArray 40)
  refine wpList_wanted hw fun K hK => wp_append_any _ s x _ ho base 40 i0 _ 3 56 Try.underlying23 hi0 hz0 hz1 hz2 rfl (by omega) v _ _ hs (hown.alloc _) (w.heap.size + 1) _ 1 1 (acells [y]) hx (ac_new w _ y) (acells_one _) (by simp only [maxLen]; omega) (by omega) (Nat.le_trans hbase hb0.size) fun v1 w1 h1 h2 h3 => hK _ _ ?_
  have hb := grown_below (hown.alloc (.cells y.cs.toArray 40)) h2 (Nat.le_trans hbase hb0.size)
  refine h v1 w1 ?_ ((hb0.mono hbase).trans hb) (Nat.le_trans hb0.size h2.size) (Kept.alloc (Kept.of h2 h3))
  rw [List.length_append, acells_append]
  exact h1
end
theorem wrap_in (z : Int) : -9223372036854775808 ≤ wrap64 z ∧ wrap64 z ≤ 9223372036854775807 := by
  unfold wrap64
  omega
theorem shl_known (n : Nat) (h : n < 6) : ∃ K : Nat, wrap64 ((2 : Int) ^ (2 * n)) = (K : Int) ∧ K ≤ 1024 := by
  have : n = 0 ∨ n = 1 ∨ n = 2 ∨ n = 3 ∨ n = 4 ∨ n = 5 := by omega
  rcases this with h | h | h | h | h | h
  · subst h; exact ⟨1, by decide +kernel, by omega⟩
  · subst h; exact ⟨4, by decide +kernel, by omega⟩
  · subst h; exact ⟨16, by decide +kernel, by omega⟩
  · subst h; exact ⟨64, by decide +kernel, by omega⟩
  · subst h; exact ⟨256, by decide +kernel, by omega⟩
  · subst h; exact ⟨1024, by decide +kernel, by omega⟩
set_option maxHeartbeats 8000000 in
set_option maxRecDepth 100000 in
theorem known7_any (w : World) : Calls Try.prog 5 #[] w fun e w' => e = .returned (.bool true) ∧ Below w.heap.size w w' := by
  go_enter Try.func5, Try.ntmps5
  go_wp2
  go_loopw [1] (fun i wr => ∃ n : Nat, n ≤ 6 ∧ i = .int .i64 (n : Int) ∧ Hid (Below w.heap.size w wr)) (fun i _ => 6 - (intOf i).toNat)
  case atStart => exact ⟨0, by omega, rfl, Below.refl _ _⟩
  case round =>
    obtain ⟨n, hn, rfl, Hb0⟩ := hrel
    by_cases hlt : n < 6
    · have hltI : (n : Int) < 6 := by omega
      obtain ⟨wo, hwo⟩ : ∃ w2 : World, w2 = wr := ⟨_, rfl⟩
      subst hwo
      go_wp2
      go_loopw [2] (fun i wr => ∃ q : Nat, q ≤ 4096 ∧ i = .int .i64 (q : Int) ∧ Hid (Below w.heap.size w wr)) (fun i _ => 4096 - (intOf i).toNat)
      case atStart => exact ⟨0, by omega, rfl, Hb0⟩
      case round =>
        obtain ⟨q, hq, rfl, Hb1⟩ := hrel
        obtain ⟨K, hKe, hK⟩ := shl_known n (by omega)
        have HKe := Lib.hid hKe
        clear hKe
        obtain ⟨w1, hw1⟩ : ∃ w2 : World, w2 = wr := ⟨_, rfl⟩
        subst hw1
        by_cases hqK : q < K
        · have hqI : (q : Int) < wrap64 ((2 : Int) ^ (2 * n)) := by rw [HKe.out]; omega
          have hq24 : (q : Int) ≤ 1024 := by omega
          go_wp2
          go_loopw [3, 4, 5, 6] (fun s3 s4 s5 i wr => ∃ (v3 v4 v5 : Value) (k : Nat) (ps : List Pa) (ks : List Bool) (xs : List Ac), k ≤ n ∧ i = .int .i64 (k : Int) ∧ v3 = s3 ∧ v4 = s4 ∧ v5 = s5 ∧ Hid (K3 w.heap.size wr v3 v4 v5 ps ks xs) ∧ Hid (ps.length = k ∧ ks.length = k ∧ xs.length = k) ∧ Hid (∀ p ∈ ps, p.r.l.length ≤ 30) ∧ Hid (Below w.heap.size w wr)) (fun _ _ _ i _ => n - (intOf i).toNat)
          case atStart => exact ⟨_, _, _, 0, [], [], [], by omega, rfl, rfl, rfl, rfl, K3.nil _ _, ⟨rfl, rfl, rfl⟩, by intro p hp; simp at hp, Hb1⟩
          case round =>
            obtain ⟨v3, v4, v5, k, ps, ks, xs, hk, rfl, rfl, rfl, rfl, hst, hlen, hl30, Hb2⟩ := hrel
            by_cases hkn : k < n
            · have hkI : (k : Int) < (n : Int) := by omega
              have hk5 : (k : Int) ≤ 5 := by omega
              go_upto_region 14 with fail
              obtain ⟨x, hx⟩ := u8_of (z := 97 + (k : Int)) (by omega) (by omega)
              obtain ⟨y, hy⟩ := u8_of (z := wrap64 ((k : Int) * (q : Int)) % 256) (by omega) (by omega)
              rw [hx, hy]
              clear hx hy
              obtain ⟨gb, hgb⟩ : ∃ g, Hid (wr.heap.size = g) := ⟨_, rfl⟩
              obtain ⟨W1, hW1⟩ : ∃ W, Hid (wr.alloc (.cells #[.int .u8 (x.toNat : Int), .int .u8 (y.toNat : Int)] 5) = W) := ⟨_, rfl⟩
              have hbW : Hid (Below wr.heap.size wr W1) := by rw [← hW1.out]; exact below_new _ _
              have hgl : Hid (gb < W1.heap.size) := by rw [← hW1.out, ← hgb.out]; show _ < _; simp
              have h1 := Lib.hid (hst.out.below hbW.out)
              obtain ⟨r, hr2⟩ : ∃ r, Hid (k % 2 = r) := ⟨_, rfl⟩
              have hr1 : Hid (r < 2) := by rw [← hr2.out]; exact Nat.mod_lt _ (by omega)
              obtain ⟨l14, hl0⟩ : ∃ l, Hid ([x, y].take (1 + r) = l) := ⟨_, rfl⟩
              have hl14 : Hid (l14.length = 1 + r) := by rw [← hl0.out, List.length_take]; have := hr1.out; show min (1 + r) 2 = _; omega
              have hlow : Hid (∀ b, (v3.ownBlock = some b ∨ v4.ownBlock = some b ∨ v5.ownBlock = some b) → b < wr.heap.size) := by
                rintro b (e | e | e)
                · exact (hst.out.p.lt b e).2
                · exact (hst.out.k.lt b e).2
                · exact (hst.out.a.lt b e).2
              have hb14 : Hid (RdX W1 (fun b => v3.ownBlock = some b ∨ v4.ownBlock = some b ∨ v5.ownBlock = some b) 1 (some ⟨gb, 0, none⟩) l14.length (bs l14)) := by
                have := lit_part wr x y (m := 1 + r) (by have := hr1.out; omega)
                rw [hW1.out, hgb.out, hl0.out] at this
                rw [hl14.out]
                exact this.mono fun b _ e => by rw [← hgb.out]; exact hlow.out b e
              have hb2 : Hid (BsX W1 (fun b => v3.ownBlock = some b ∨ v4.ownBlock = some b ∨ v5.ownBlock = some b) (some ⟨gb, 0, none⟩) [x, y]) := by
                have := lit_part wr x y (m := 2) (by omega)
                rw [hW1.out, hgb.out] at this
                exact this.mono fun b _ e => by rw [← hgb.out]; exact hlow.out b e
              obtain ⟨A3, c3, rfl, _⟩ := h1.out.file
              obtain ⟨n3, hn3⟩ : ∃ n, Hid (ps.length = n) := ⟨_, rfl⟩
              have hpo : Hid (OwnP 52 w.heap.size (fun _ => False) W1 (.slice A3 n3 c3) ps) := by
                rw [← hn3.out]
                exact ⟨h1.out.p, fun q hq => (h1.out.rp q hq).mono fun b _ e => e.elim (fun e => e.elim) .inl⟩
              have hwz : Hid (w.heap.size ≤ W1.heap.size) := Nat.le_trans Hb2.out.size hbW.out.size
              rw [hW1.out, hgb.out, hn3.out]
              rw [hn3.out] at h1 hb14 hb2
              go_cut [3] from 37 to 50 (fun s wx => ∃ (p : Pa) (v3n : Value), v3n = s ∧ p.r = ⟨some ⟨gb, 0, none⟩, 2, l14⟩ ∧ K3 w.heap.size wx v3n v4 v5 (ps ++ [p]) ks xs ∧ Below w.heap.size W1 wx ∧ BsX wx (fun b => v3n.ownBlock = some b ∨ v4.ownBlock = some b ∨ v5.ownBlock = some b) (some ⟨gb, 0, none⟩) [x, y])
              case first =>
                rename_i J K1 hJ hK
                refine wp_region_tailP (n := 126) (m := 13) (EnF A3 n3 c3 gb k r q l14) (BelC W1) (by kernel_rfl) (by kernel_rfl) rfl rfl (by decide) (by kernel_rfl) (by kernel_rfl) ?_ ?_ ?_
                · exact (Below.refl _ _).drew
                rotate_left
                · intro b' w' hsz hd hs hc hall
                  obtain ⟨d, Ap, e12, hrp⟩ : EnF A3 n3 c3 gb k r q l14 12 (b'.tmps.getD 49 undef) w' := hall 12 _ _ (by decide) rfl rfl
                  have e0 : b'.tmps.getD 37 undef = .slice A3 n3 c3 := hall 0 _ _ (by decide) rfl rfl
                  refine push_ps ptSl1 (.tmp 37) (.tmp 49) (own := ps) (new := [Pa.mk ⟨some ⟨gb, 0, none⟩, 2, l14⟩ d]) rfl (hpo.out.keep hc) (Nat.le_trans hwz.out hc.size) hrp (fun q hq => by rw [List.mem_singleton] at hq; rw [hq]; exact ((hb14.out.below hc).mono fun b _ e => e.elim (fun e => e.elim) .inl)) (by simp only [List.length_cons, List.length_nil]; have := hn3.out; have := hlen.out.1; omega) rfl rfl e0 e12 ?_
                  intro v7 w7 hown7 hb7 hz7 hg7 hd7
                  refine wpList_op rfl (exec_assign (x := .tmp 50) rfl (eval_put_eq hsz (by decide))) ?_
                  refine hK _ _ (Met.intro (hJ _ _ ?_))
                  have hk7 := Kept.of hg7 hd7
                  refine ⟨_, b'.tmps.getD 37 undef, b'.tmps.getD 38 undef, b'.tmps.getD 39 undef, b'.tmps.getD 40 undef, b'.tmps.getD 41 undef, b'.tmps.getD 42 undef, b'.tmps.getD 43 undef, b'.tmps.getD 44 undef, b'.tmps.getD 45 undef, b'.tmps.getD 46 undef, b'.tmps.getD 47 undef, b'.tmps.getD 48 undef, b'.tmps.getD 49 undef, v7, ⟨_, _, rfl, rfl, (h1.out.below hc).push3 hown7.head hk7 hz7 (hb14.out.below hc), (hc.mono hwz.out).trans hb7, BsX.kept (RdX.below hb2.out hc) hk7 hz7 (fun b e => .inl e) (fun b e => by rcases e with e | e | e; exact .inl e; exact .inr (.inr (.inl e)); exact .inr (.inr (.inr e)))⟩, (congrArg (fun a : Act => (a.put (some 50) _).put (some 3) _) (act_known hsz hd hs)).trans (by kernel_rfl)⟩
                refine OpsOk.cons _ _ (OpOk.run _ _ EnF.keep BelC.keep fun b v hs hc hg => ⟨rfl, _, _, exec_move rfl (hs 3 (by kernel_rfl)), .refl _ _, rfl⟩) ?_
                refine OpsOk.cons _ _ (OpOk.run _ _ EnF.keep BelC.keep fun b v hs hc hg => ⟨rfl, _, _, exec_move rfl (hs 7 (by kernel_rfl)), .refl _ _, rfl⟩) ?_
                refine OpsOk.cons _ _ (OpOk.run _ _ EnF.keep BelC.keep fun b v hs hc hg => ⟨rfl, _, _, exec_move rfl (hs 6 (by kernel_rfl)), .refl _ _, rfl⟩) ?_
                refine OpsOk.cons _ _ (OpOk.run _ _ EnF.keep BelC.keep fun b v hs hc hg => ⟨rfl, _, _, exec_rem2 hr2.out rfl (dep hg 0 rfl rfl rfl rfl), .refl _ _, rfl⟩) ?_
                refine OpsOk.cons _ _ (OpOk.run _ _ EnF.keep BelC.keep fun b v hs hc hg => ⟨rfl, _, _, exec_add1 hr1.out rfl (dep hg 0 rfl rfl rfl rfl), .refl _ _, rfl⟩) ?_
                refine OpsOk.cons _ _ (OpOk.run _ _ EnF.keep BelC.keep fun b v hs hc hg => ⟨rfl, _, _, exec_front rfl (dep hg 0 rfl rfl rfl rfl) (dep hg 1 rfl rfl rfl rfl) (by have := hr1.out; omega), .refl _ _, rfl⟩) ?_
                refine OpsOk.cons _ _ (OpOk.run _ _ EnF.keep BelC.keep fun b v hs hc hg => ⟨rfl, _, _, exec_move rfl (hs 2 (by kernel_rfl)), .refl _ _, rfl⟩) ?_
                refine OpsOk.cons _ _ (OpOk.run _ _ EnF.keep BelC.keep fun b v hs hc hg => ⟨rfl, _, _, exec_move rfl (hs 6 (by kernel_rfl)), .refl _ _, rfl⟩) ?_
                refine OpsOk.cons _ _ (OpOk.run _ _ EnF.keep BelC.keep fun b v hs hc hg => ⟨rfl, _, _, exec_shr rfl (dep hg 0 rfl rfl rfl rfl) (dep hg 1 rfl rfl rfl rfl), .refl _ _, _, rfl⟩) ?_
                refine OpsOk.cons _ _ (OpOk.run _ _ EnF.keep BelC.keep fun b v hs hc hg => by
                    obtain ⟨z0, e0⟩ : EnF A3 n3 c3 gb k r q l14 8 (b.tmps.getD 45 undef) v := (dep hg 0 rfl rfl rfl rfl)
                    exact ⟨rfl, _, _, exec_remZ rfl e0, .refl _ _, _, rfl⟩) ?_
                refine OpsOk.cons _ _ (OpOk.run _ _ EnF.keep BelC.keep fun b v hs hc hg => by
                    obtain ⟨z0, e0⟩ : EnF A3 n3 c3 gb k r q l14 9 (b.tmps.getD 46 undef) v := (dep hg 0 rfl rfl rfl rfl)
                    exact ⟨rfl, _, _, exec_eq1 rfl e0, .refl _ _, _, rfl⟩) ?_
                refine OpsOk.cons _ _ (OpOk.run _ _ EnF.keep BelC.keep fun b v hs hc hg => by
                    obtain ⟨d, e0⟩ : EnF A3 n3 c3 gb k r q l14 10 (b.tmps.getD 47 undef) v := (dep hg 1 rfl rfl rfl rfl)
                    exact ⟨rfl, _, _, exec_buildPa hl14.out rfl (dep hg 0 rfl rfl rfl rfl) e0, .refl _ _, d, rfl⟩) ?_
                refine OpsOk.cons _ _ (OpOk.run _ _ EnF.keep BelC.keep fun b v hs hc hg => by
                    obtain ⟨d, e0⟩ : EnF A3 n3 c3 gb k r q l14 11 (b.tmps.getD 48 undef) v := (dep hg 0 rfl rfl rfl rfl)
                    exact ⟨rfl, _, _, exec_listP (p := ⟨⟨some ⟨gb, 0, none⟩, 2, l14⟩, d⟩) rfl e0, below_new _ _, d, _, rfl, psNew_reads v _ [⟨⟨some ⟨gb, 0, none⟩, 2, l14⟩, d⟩]⟩) ?_
                exact OpsOk.nil _ _
              obtain ⟨p, v3n, rfl, hp14, hk3, hb3, hx3⟩ := hcut
              obtain ⟨W2, hW2⟩ : ∃ w2 : World, w2 = wc := ⟨_, rfl⟩
              subst hW2
              have HK3 := Lib.hid hk3
              have HX3 := Lib.hid hx3
              have Hb3 := Lib.hid (Hb2.out.trans ((hbW.out.mono Hb2.out.size).trans hb3))
              have hz3 := Hb3.out.size
              clear hk3 hx3 hb3 hb14 hpo h1 hlow hb2 hwz hgl hbW
              go_upto_region 16 with (at_builtin; refine push_bool (.tmp 51) (.tmp 59) (l := ks) _ HK3.out.k hz3 (by have := hlen.out.2.1; omega) rfl rfl rfl rfl rfl ?_; intro v4n w4 h4 hb4 hz4 hk4)
              have HK4 := Lib.hid (HK3.out.push4 h4 hk4 hz4)
              have HX4 := Lib.hid (BsX.kept (Y := fun b => v3n.ownBlock = some b ∨ v4n.ownBlock = some b ∨ v5.ownBlock = some b) HX3.out hk4 hz4 (fun b e => .inr (.inl e)) (fun b e => by rcases e with e | e | e; exact .inr (.inl e); exact .inl e; exact .inr (.inr (.inr e))))
              have Hb4 := Lib.hid (Hb3.out.trans hb4)
              have hz34 := Nat.le_trans hz3 hz4
              clear h4 hk4 hb4
              go_upto_region 12 with (at_builtin; refine push_ac (.tmp 61) (.tmp 69) ⟨_, ⟨some ⟨gb, 0, none⟩, 2, [x, y]⟩, ⟨none, 0, []⟩⟩ rfl HK4.out.a hz34 (by have := hlen.out.2.2; omega) rfl rfl rfl rfl rfl ?_; intro v5n w5 h5 hb5 hz5 hk5)
              have HK5 := Lib.hid (HK4.out.push5 h5 hk5 hz5 ⟨HX4.out, rfl, ⟨(wrap_in _).1, (wrap_in _).2, by simp, by simp, by simp⟩⟩)
              have Hb5 := Lib.hid (Hb4.out.trans hb5)
              have hlen' : Hid ((ps ++ [p]).length = k + 1 ∧ (ks ++ [(((q : Int) / 2 ^ (n + k)).tmod 2 == 1)]).length = k + 1 ∧ (xs ++ [(⟨wrap64 (((q : Int) / 2 ^ k).tmod 2 * 2), ⟨some ⟨gb, 0, none⟩, 2, [x, y]⟩, ⟨none, 0, []⟩⟩ : Ac)]).length = k + 1) := by
                obtain ⟨e1, e2, e3⟩ := hlen.out
                refine ⟨?_, ?_, ?_⟩ <;> (rw [List.length_append]; simp; omega)
              have hl30' : Hid (∀ z ∈ ps ++ [p], z.r.l.length ≤ 30) := by
                intro z hz
                rw [List.mem_append, List.mem_singleton] at hz
                rcases hz with hz | rfl
                · exact hl30.out z hz
                · rw [hp14]; have := hl14.out; have := hr1.out; show l14.length ≤ 30; omega
              clear h5 hk5 hb5 hst
              go_wp2
              go_roundw
              case rel => exact ⟨v3n, v4n, v5n, k + 1, _, _, _, by omega, by go_num, rfl, rfl, rfl, HK5, hlen', hl30', Hb5⟩
              case measure => simp [intOf]; omega
            · obtain rfl : k = n := by omega
              obtain ⟨A3, c3, rfl, hf3⟩ := hst.out.file
              obtain ⟨A4, c4, rfl, hc4, hm4, hr4⟩ := hst.out.told
              obtain ⟨A5, c5, rfl, hr5⟩ := hst.out.calls
              obtain ⟨e1, e2, e3⟩ := hlen.out
              have hk6 : ks.length ≤ 30 := by omega
              have hsz : Sz (says ps) 20 := ⟨by rw [says_len]; omega, fun z hz => by
                unfold says at hz
                rw [List.mem_map] at hz
                obtain ⟨p, hp, rfl⟩ := hz
                exact hl30.out p hp⟩
              have hodd := odd7_any (a := ⟨3, ⟨none, 0, []⟩, ⟨A4, c4, ks⟩⟩) hsz hf3 (Nat.le_refl _) Reads.none_ hr4 ⟨by simp, by simp, by simp, by simp only; omega, hc4⟩ (by simp) (by simp only; omega)
              rw [e1, e2] at hodd
              have Hodd := Lib.hid hodd
              rw [e1, e2, e3]
              have Hr4 := Lib.hid hr4
              have Hr5 := Lib.hid hr5
              have He2 := Lib.hid e2
              have He3 := Lib.hid e3
              have Hst := Lib.hid hst.out
              obtain ⟨w3, hw3⟩ : ∃ w2 : World, w2 = wr := ⟨_, rfl⟩
              subst hw3
              have hk4 : (k : Int) ≤ (c4 : Int) := by rw [e2] at hc4; omega
              have hkh : (k : Int) / 2 ≤ (c4 : Int) := by omega
              clear hodd hf3 hr4 hr5 hst e1 e2 e3 hlen hl30
              go_wp2_with fail
              go_at_call 24
              refine Hodd.out.mono ?_
              rintro e w4 ⟨rfl, hb4⟩
              have Hb4 := Lib.hid hb4
              clear hb4
              have hke := Lib.hid (keeps7_any (w := w4) (c := c5) (ck := c4) (cg := c4) (n := k) (nk := k) (ng := k / 2) (ag := ks.take (k / 2)) Hb4.out.size (Hr5.out.below Hb4.out) He3.out (by omega) (Reads.below Hr4.out Hb4.out) He2.out (by omega) (by omega) (RdK.front (Reads.below Hr4.out Hb4.out) _) (by rw [List.length_take, He2.out]; omega) (by omega) (by omega))
              go_wp2_with fail
              go_at_call 4
              refine hke.out.mono ?_
              rintro e w5 ⟨rfl, hb5⟩
              have Hb5 := Lib.hid (Hb4.out.trans (hb5.mono Hb4.out.size))
              have Hst5 := Lib.hid (Hst.out.below Hb5.out)
              have hz5 := Nat.le_trans Hb2.out.size Hb5.out.size
              clear hb5 hke Hb4
              have hX5 : ∀ b, (Value.slice A5 k c5).ownBlock = some b → b < w5.heap.size := fun b e => (Hst5.out.a.lt b (by rw [He3.out]; exact e)).2
              obtain ⟨t1, t2, t3⟩ := three_rows w5 (X := fun b => (Value.slice A5 k c5).ownBlock = some b) hX5
              obtain ⟨W8, hW8⟩ : ∃ W, Hid (((w5.alloc (.cells #[.int .u8 1] 5)).alloc (.cells #[.int .u8 2, .int .u8 3] 5)).alloc (.cells #[.slice (some ⟨w5.heap.size, 0, none⟩) 1 1, .slice none 0 0, .slice (some ⟨w5.heap.size + 1, 0, none⟩) 2 2] 26) = W) := ⟨_, rfl⟩
              have hs8 : Hid (W8.heap.size = w5.heap.size + 1 + 1 + 1) := by rw [← hW8.out]; show _ = _; simp
              have hb8 : Hid (Below w5.heap.size w5 W8) := by rw [← hW8.out]; exact ((below_new _ _).alloc (by simp) _).alloc (by simp; omega) _
              rw [hW8.out] at t1 t2 t3
              have T1 := Lib.hid t1
              have T2 := Lib.hid t2
              have T3 := Lib.hid t3
              have Hst8 := Lib.hid (Hst5.out.below hb8.out)
              rw [He3.out] at Hst8
              have hz8 := Nat.le_trans hz5 hb8.out.size
              clear t1 t2 t3 hX5
              have hpl := fun (A9 : Option Addr) (c9 : Nat) (w9 : World) (hz9 : W8.heap.size ≤ w9.heap.size) (hr9 : RdAc w9 w9.heap.size A9 (xs ++ [(⟨3, ⟨none, 0, []⟩, ⟨A4, c4, ks⟩⟩ : Ac)])) (v9 : Value) (hk9 : Kept (.slice A5 k c5) v9 W8 w9) =>
                plays7_any (A := some ⟨w5.heap.size + 1 + 1, 0, none⟩) (A2 := A9) (c := 3) (c2 := c9) (n := 3) (n2 := k + 1) (w := w9) (Nat.le_refl _) ⟨(T1.out.kept hk9 hz9 (fun b e => e)).reads, fun r hr => by
                  simp only [List.mem_cons, List.not_mem_nil, or_false] at hr
                  rcases hr with rfl | rfl | rfl
                  · exact (RdX.kept T2.out hk9 hz9 (fun b e => e)).reads
                  · exact Reads.none_
                  · exact (RdX.kept T3.out hk9 hz9 (fun b e => e)).reads⟩ rfl (by omega) (fun r hr => by
                  simp only [List.mem_cons, List.not_mem_nil, or_false] at hr
                  rcases hr with rfl | rfl | rfl <;> simp) hr9 (by rw [List.length_append, He3.out]; rfl) (by omega)
              have Hpl := Lib.hid hpl
              have hcs8 : Hid ((#[.int .i64 3, .slice none 0 0, .slice A4 k c4] : Array Value) = (Ac.cs ⟨3, ⟨none, 0, []⟩, ⟨A4, c4, ks⟩⟩).toArray) := by
                have := He2.out
                show _ = _
                simp only [Ac.cs, this]
                rfl
              clear hpl
              go_wp2_with
                (at_builtin
                 rw [hW8.out]
                 refine push_acG (.tmp 91) (.tmp 94) ⟨3, ⟨none, 0, []⟩, ⟨A4, c4, ks⟩⟩ hcs8.out Hst8.out.a hz8 (by have := He3.out; omega) (by first | rfl | kernel_rfl) rfl rfl rfl hs8.out ?_
                 intro v9 w9 h9 hb9 hz9 hk9
                 have HH9 := Lib.hid (Hst8.out.more (by rw [He2.out]) (by rw [He2.out]; omega) hk6 h9 hk9 hz9)
                 obtain ⟨A9, c9, e9, hr9⟩ := HH9.out
                 rw [List.length_append, He3.out] at e9
                 subst e9
                 have hpc := Lib.hid (Hpl.out A9 c9 w9 hz9 hr9 _ hk9)
                 have Hb9 := Lib.hid hb9
                 clear h9 hb9 hk9 hr9 HH9)
              go_at_call 3
              refine hpc.out.mono ?_
              rintro e w10 ⟨rfl, hb10⟩
              have hz9' : w.heap.size ≤ w9.heap.size := Nat.le_trans hz8 hz9
              have Hacc := Lib.hid ((((Hb2.out.trans (Hb5.out.mono Hb2.out.size)).trans (hb8.out.mono hz5)).trans Hb9.out).trans (hb10.mono hz9'))
              have hk5I : (k : Int) < 6 := by omega
              have hqz : (q : Int) ≤ 1024 := by omega
              clear hb10 hpc Hb9 Hst5 Hst8 T1 T2 T3
              go_wp2
              go_roundw
              case rel => exact ⟨q + 1 + k / 4 * 5, by omega, by go_num, Hacc⟩
              case measure => simp [intOf]; omega
        · have hqI : wrap64 ((2 : Int) ^ (2 * n)) ≤ (q : Int) := by rw [HKe.out]; omega
          have hqd : decide ((q : Int) < wrap64 ((2 : Int) ^ (2 * n))) = false := by rw [decide_eq_false_iff_not, HKe.out]; omega
          go_wp2
          go_roundw
          case rel => exact ⟨n + 1, by omega, by go_num, Hb1⟩
          case measure => simp [intOf]; omega
    · obtain rfl : n = 6 := by omega
      have happ := fun (A : Option Addr) (n c : Nat) (w : World) => Lib.hid (nil_app A n c w)
      have kc := fun (W : World) (C : Array Value) (n c : Nat) => Lib.run_convert_bytes_const (P := Try.prog) W 26 5 C n c Try.underlying26 Try.underlying5
      clear happ
      obtain ⟨w1, hw1⟩ : ∃ w2 : World, w2 = wr := ⟨_, rfl⟩
      subst hw1
      go_wp2_with fail
      go_at_call 17
      refine (nil_app _ _ _ _).mono ?_
      rintro e w2 ⟨rfl, hw2⟩
      have hb2 : Hid (Below w1.heap.size w1 w2) := by rw [hw2]; exact below_new _ _
      clear hw2
      go_wp2_with fail
      go_at_call 13
      refine (nil_sync _).mono ?_
      rintro e w3 ⟨rfl, rfl⟩
      go_wp2_with fail
      go_at_call 15
      refine (nil_fail _ _ _ _).mono ?_
      rintro e w4 ⟨rfl, hw4⟩
      have hb4 : Hid (Below w1.heap.size w1 w4) := by rw [hw4]; exact hb2.out.alloc hb2.out.size _
      clear hw4
      have Hacc := Lib.hid (Hb0.out.trans (hb4.out.mono Hb0.out.size))
      have hpl := Lib.hid (plays7_any (A := none) (A2 := none) (c := 0) (c2 := 0) (B := 0) (rows := []) (l := []) (w := w4) (Nat.zero_le _) ⟨Reads.none_, by simp⟩ (n := 0) rfl (by omega) (by simp) RdAc.nil (n2 := 0) rfl (by omega))
      clear hb2 hb4 Hb0
      go_wp2_with fail
      go_at_call 3
      refine hpl.out.mono ?_
      rintro e w5 ⟨rfl, hb5⟩
      have Hacc := Lib.hid (Hacc.out.trans (hb5.mono Hacc.out.size))
      clear hb5 hpl
      obtain ⟨W6, hW6⟩ : ∃ W, Hid ((w5.alloc (.cells #[.int .u8 120] 5 (1, 2))).alloc (.cells #[.slice none 0 0, .bool false, .slice (some ⟨w5.heap.size, 0, none⟩) 1 1, .bool false, .slice none 0 0, .bool true] 52) = W) := ⟨_, rfl⟩
      have hb6 : Hid (Below w5.heap.size w5 W6) := by rw [← hW6.out]; exact (below_new _ _).alloc (by simp) _
      have hf6 := three_parts w5
      rw [hW6.out] at hf6
      have hsz6 : Sz [(([] : List UInt8), false), ([120], false), ([], true)] 20 := ⟨by decide, by decide⟩
      have Hodd := Lib.hid (odd7_any (B := 0) (a := ⟨2, ⟨none, 0, []⟩, ⟨none, 0, []⟩⟩) hsz6 hf6 (Nat.zero_le _) Reads.none_ Reads.none_ ⟨by simp, by simp, by simp, by simp, by simp⟩ (by simp) (by simp))
      clear hf6 hsz6
      have kc := fun (W : World) (C : Array Value) (n c : Nat) => Lib.run_convert_bytes_const (P := Try.prog) W 26 5 C n c Try.underlying26 Try.underlying5
      go_wp2_with fail
      rw [hW6.out]
      go_at_call 24
      refine Hodd.out.mono ?_
      rintro e w7 ⟨rfl, hb7⟩
      have Hacc := Lib.hid (Hacc.out.trans ((hb6.out.mono Hacc.out.size).trans (hb7.mono (Nat.le_trans Hacc.out.size hb6.out.size))))
      have hke := Lib.hid (keeps7_any (A := none) (Ak := none) (Ag := none) (c := 0) (ck := 0) (cg := 0) (B := 0) (n := 0) (nk := 0) (ng := 0) (l := []) (kl := []) (ag := []) (w := w7) (Nat.zero_le _) RdAc.nil rfl (by omega) Reads.none_ rfl (by omega) (by omega) Reads.none_ rfl (by omega) (by omega))
      clear hb7 Hodd hb6 hW6
      go_wp2_with fail
      go_at_call 4
      refine hke.out.mono ?_
      rintro e w8 ⟨rfl, hb8⟩
      have Hacc := Lib.hid (Hacc.out.trans (hb8.mono Hacc.out.size))
      clear hb8 hke
      go_wp2_with fail
      go_at_call 7
      refine works7a_any _ _ ?_
      rintro e w9 ⟨rfl, hbl⟩
      go_wp2
      go_ret
      exact ⟨rfl, Hacc.out.trans (hbl.mono Hacc.out.size)⟩
end Go.Proofs.Ytnlcohijopokjaa
