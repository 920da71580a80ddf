/- The walks of varint's writers: All, Put, Text. Conditions: numbers below 2^64, at most 2^36 of them; texts of at most 2^40 bytes. -/
import Derived.Test.YtohgghaooppcoaaVar2
import Derived.Laws.MakeOwn
import Derived.Lib.AppendStr
namespace Go.Proofs.Ytohgghaooppcoaa
open Go.RowKit

/-- Numbers, written one behind the other. -/
def encs (l : List Nat) : List UInt8 := l.flatMap enc
theorem encs_snoc {l : List Nat} {k x : Nat} (h : Hid (l[k]? = some x)) : encs (l.take (k + 1)) = encs (l.take k) ++ enc x := by
  rw [take_snoc h]; simp [encs]
theorem encs_le : ∀ (l : List Nat), (∀ n ∈ l, n < 18446744073709551616) → (encs l).length ≤ 10 * l.length
  | [], _ => by simp [encs]
  | n :: l, h => by
    have h1 := sz_10 (h n (by simp))
    have h2 := encs_le l (fun m hm => h m (by simp [hm]))
    unfold sz at h1
    simp only [encs, List.flatMap_cons, List.length_append, List.length_cons] at h1 h2 ⊢
    omega
theorem encs_take_le {l : List Nat} (h : ∀ n ∈ l, n < 18446744073709551616) (k : Nat) : (encs (l.take k)).length ≤ 10 * l.length := by
  have h1 := encs_le (l.take k) (fun n hn => h n (List.mem_of_mem_take hn))
  have h2 := List.length_take_le k l
  have h3 : (l.take k).length ≤ l.length := by simp; omega
  omega

theorem run_make_rowN {P : Program} (t e : TypeId) (i : TypeInfo) (z : Value) (ht : P.underlying t = some (.slice e)) (hi : P.info? e = some i) (hz : i.zero = some z)
    (kl kc : IntKind) (n c : Nat) (hnc : n ≤ c) (hbytes : i.bytes * c ≤ 281474976710656) (h63 : c ≤ 9223372036854775807) (w : World) :
    (Instr.makeSlice t (.int kl (n : Int)) (.int kc (c : Int))).run P w = .ok (.slice (some ⟨w.heap.size, 0, none⟩) n c) (w.alloc (.cells (madeCells z.cells (c * i.size)) e)) := by
  have hb : (i.bytes : Int) * (c : Int) ≤ 281474976710656 := by
    have h : ((i.bytes * c : Nat) : Int) ≤ 281474976710656 := by omega
    rwa [Int.natCast_mul] at h
  have hr := run_make (P := P) w t e i z ht hi hz kl kc n c (by omega) (by omega) hb (by omega)
  simp only [Int.toNat_natCast] at hr
  exact hr
/-- make([]byte, 0, c) -/
theorem run_make_row (c : Nat) (h : c ≤ 281474976710656) (w : World) :
    (Instr.makeSlice 38 (.int .i64 0) (.int .i64 (c : Int))).run Try.prog w = .ok (.slice (some ⟨w.heap.size, 0, none⟩) 0 c) (w.alloc (.cells (madeCells #[.int .u8 0] c) 5)) := by
  obtain ⟨i0, hi0, hz0, hz1, hz2⟩ := info_parts Try.info5
  have := run_make_rowN (P := Try.prog) 38 5 i0 _ Try.underlying38 hi0 hz0 .i64 .i64 0 c (by omega) (by rw [hz2]; omega) (by omega) w
  rw [hz1, Nat.mul_one] at this
  exact this
theorem made_size (z : Value) (n : Nat) : (madeCells #[z] n).size = n := by simp [madeCells]

set_option maxHeartbeats 1000000 in
set_option maxRecDepth 100000 in
theorem all_any (A : Option Addr) (c : Nat) (l : List Nat) (w : World) (hl : l.length ≤ 68719476736) (hr : RdU w w.heap.size A l) (hn : ∀ n ∈ l, n < 18446744073709551616) :
    Calls Try.prog 49 #[.slice A l.length c] w fun e w' => ∃ v, e = .returned v ∧ w'.ownsRow w.heap.size 5 1 v (encs l).length (bs (encs l)) ∧ Below w.heap.size w w' := by
  have hlen : (l.length : Int) ≤ 68719476736 := by omega
  have Hn := Lib.hid hn
  clear hn hl
  go_enter Try.func49, Try.ntmps49
  go_wp2
  go_loop [3, 11] (fun s i => ∃ (k T : Nat), k ≤ l.length ∧ i = .int .i64 (k : Int) ∧ s = .int .i64 (T : Int) ∧ T ≤ 10 * k) (fun _ i => l.length - (intOf i).toNat)
  case atStart => exact ⟨0, 0, by omega, rfl, rfl, by omega⟩
  case round =>
    obtain ⟨k, T, hk, rfl, rfl, hT⟩ := hrel
    by_cases hlt : k < l.length
    · obtain ⟨ad, x, rfl, _, hc, hx⟩ := RdU.at_ hr hlt
      have hx64 := Hn.out x (mem_of_get hx)
      have hx10 := sz_10 hx64
      have Hx64 := Lib.hid hx64
      clear hx64
      go_wp2_with (go_at_call 56; refine (size_any _ _ Hx64.out).mono ?_; rintro e w' ⟨rfl, rfl⟩)
      go_round
      case rel => exact ⟨k + 1, T + sz x, by omega, by go_num, by go_num, by omega⟩
      case measure => simp [intOf]; omega
    · obtain rfl : k = l.length := by omega
      have hmk := run_make_row T (by omega)
      have hown0 := World.ownsRow_made w (e := 5) (size := 1) (base := w.heap.size) (madeCells #[Value.int .u8 0] T) T (Nat.le_refl _) (by simp only [maxLen]; omega) (by rw [made_size]; omega)
      have hb0 := (Below.refl w.heap.size w).alloc (Nat.le_refl _) (.cells (madeCells #[Value.int .u8 0] T) 5)
      go_wp2
      clear hmk
      go_loopw [6, 24] (fun v i wr => ∃ k : Nat, k ≤ l.length ∧ i = .int .i64 (k : Int) ∧ wr.ownsRow w.heap.size 5 1 v (encs (l.take k)).length (bs (encs (l.take k))) ∧ Below w.heap.size w wr) (fun _ i _ => l.length - (intOf i).toNat)
      case atStart => exact ⟨0, by omega, rfl, hown0, hb0⟩
      case round =>
        obtain ⟨k, hk, rfl, hown, hb⟩ := hrel
        clear hown0 hb0
        by_cases hlt : k < l.length
        · obtain ⟨ad, x, rfl, _, hc, hx⟩ := RdU.at_ (hr.below hb) hlt
          have Hb := Lib.hid (encs_take_le Hn.out k)
          go_wp2_with (go_at_call 57; refine (appendNumber_any w.heap.size _ _ _ _ (Hn.out x (mem_of_get hx)) (by have := Hb.out; omega) hb.size hown).mono ?_; rintro e w1 ⟨v1, rfl, hown1, hb1⟩)
          go_roundw
          case rel => exact ⟨k + 1, by omega, by go_num, by rw [encs_snoc hx]; exact hown1, hb.trans hb1⟩
          case measure => simp [intOf]; omega
        · obtain rfl : k = l.length := by omega
          rw [List.take_length] at hown
          go_wp2
          go_ret
          exact ⟨_, rfl, hown, hb⟩

theorem encs_one (n : Nat) : encs [n] = enc n := by simp [encs]
theorem put_any (n : Nat) (w : World) (hn : n < 18446744073709551616) :
    Calls Try.prog 39 #[.int .u64 (n : Int)] w fun e w' => ∃ v, e = .returned v ∧ w'.ownsRow w.heap.size 5 1 v (enc n).length (bs (enc n)) ∧ Below w.heap.size w w' := by
  have hb0 := (Below.refl w.heap.size w).alloc (Nat.le_refl _) (.cells #[.int .u64 (n : Int)] 80)
  have Hn := Lib.hid hn
  clear hn
  go_enter Try.func39, Try.ntmps39
  go_wp2_with (go_at_call 49; refine (all_any _ 1 [n] _ (by simp) ((reads_word w 80 _ n rfl).more (by simp)) (by intro m hm; rw [List.mem_singleton] at hm; subst hm; exact Hn.out)).mono ?_; rintro e w1 ⟨v1, rfl, hown1, hb1⟩)
  go_ret
  rw [encs_one] at hown1
  exact ⟨_, rfl, own_mono hown1 (by simp), hb0.trans (hb1.mono (by simp))⟩

section
variable {ops : Array Oper} {rest : List Oper} {o : Oper} {a : Act} {Q : Exit → Act → World → Prop} {w : World} {base : Nat} {v : Value}
/-- A text behind a row of the call's own. -/
theorem push_str (s x : Operand) {l : List UInt8} {t : ByteArray} (hown : w.ownsRow base 5 1 v l.length (bs l)) (hbase : base ≤ w.heap.size) (hl : l.length + t.size ≤ 140737488355327)
    (hgd : o.guard = none) (ho : o.op = .call { callee := .builtin .append, args := #[s, x], argTypes := #[38, 9] })
    (hs : a.eval s = v) (hx : a.eval x = .string t)
    (h : ∀ v' w', w'.ownsRow base 5 1 v' (l ++ t.data.toList).length (bs (l ++ t.data.toList)) → Below base w w' → base ≤ w'.heap.size → w.grownBy w' v.ownBlock → wpList Try.prog ops Q rest (a.put o.dst v') w') :
    wpList Try.prog ops Q (o :: rest) a w := by
  obtain ⟨i0, hi0, hz0, hz1, hz2⟩ := info_parts Try.info5
  refine Lib.wpList_append_own_string _ hgd s x _ _ ho base 5 i0 Try.underlying38 Try.underlying9 hi0 hz0 hz1 hz2 v _ _ hs hown t hx (by simp only [maxLen]; omega) (by omega) hbase ?_
  intro v1 w1 h1 h2 _
  have hb := grown_below hown h2 hbase
  refine h v1 w1 ?_ hb (Nat.le_trans hbase hb.size) h2
  have e : t.data.toList.length = t.size := by simp
  rw [bs_append, List.length_append, e]
  exact h1
end
/-- A text, written. -/
def encText (s : List UInt8) : List UInt8 := enc s.length ++ s
set_option maxHeartbeats 400000 in
theorem text_any (s : ByteArray) (w : World) (hs : s.size ≤ 140737488351232) :
    Calls Try.prog 38 #[.string s] w fun e w' => ∃ v, e = .returned v ∧ w'.ownsRow w.heap.size 5 1 v (encText s.data.toList).length (bs (encText s.data.toList)) ∧ Below w.heap.size w w' := by
  have hsz : (s.size : Int) ≤ 140737488351232 := by omega
  have he := sz_10 (n := s.size) (by omega)
  unfold sz at he
  have Hs := Lib.hid hs
  have He := Lib.hid he
  clear hs he
  have e : s.data.toList.length = s.size := by simp
  have E := Lib.hid e
  clear e
  go_enter Try.func38, Try.ntmps38
  go_wp2_with (first
    | (go_at_call 39; refine (put_any _ _ (by have := Hs.out; omega)).mono ?_; rintro e w1 ⟨v1, rfl, hown1, hb1⟩)
    | (at_builtin; refine push_str (.tmp 6) (.tmp 7) hown1 hb1.size (by have := Hs.out; have := He.out; omega) rfl rfl rfl rfl ?_; intro v2 w2 hown2 hb2 hbs2 hg2; clear hown1))
  go_ret
  unfold encText
  rw [E.out]
  exact ⟨_, rfl, hown2, hb1.trans hb2⟩
end Go.Proofs.Ytohgghaooppcoaa
