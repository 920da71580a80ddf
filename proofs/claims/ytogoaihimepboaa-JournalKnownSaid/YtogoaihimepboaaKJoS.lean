/- Payloads one behind the other: where each stands, and what is got of a segment that is cut. Conditions: none. -/
import Derived.Test.YtogoaihimepboaaKLawJA
namespace Go.Proofs.Ytogoaihimepboaa
open Go.RowKit

/-- Where payload i stands. -/
def atJ (ms : List (List UInt8)) (i : Nat) : Nat := (encJ (ms.take i)).length
theorem atJ_zero (ms : List (List UInt8)) : atJ ms 0 = 0 := rfl
theorem atJ_all (ms : List (List UInt8)) : atJ ms ms.length = (encJ ms).length := by unfold atJ; rw [List.take_length]
theorem encJ_take {ms : List (List UInt8)} {i : Nat} {m : List UInt8} (h : ms[i]? = some m) : encJ (ms.take (i + 1)) = encJ (ms.take i) ++ encFr 9 m := by
  rw [List.take_add_one, h, Option.toList_some, encJ_append, encJ_one]
theorem atJ_succ {ms : List (List UInt8)} {i : Nat} {m : List UInt8} (h : ms[i]? = some m) : atJ ms (i + 1) = atJ ms i + fsz m.length := by
  unfold atJ
  rw [encJ_take h, List.length_append, encFr_len]
theorem atJ_step (ms : List (List UInt8)) (i : Nat) : atJ ms i ≤ atJ ms (i + 1) := by
  cases h : ms[i]? with
  | some m => rw [atJ_succ h]; omega
  | none =>
    have h1 : ms.length ≤ i := List.getElem?_eq_none_iff.1 h
    unfold atJ
    rw [List.take_of_length_le h1, List.take_of_length_le (by omega)]
    exact Nat.le_refl _
theorem atJ_mono (ms : List (List UInt8)) {i j : Nat} (h : i ≤ j) : atJ ms i ≤ atJ ms j := by
  induction j with
  | zero => obtain rfl : i = 0 := by omega
            exact Nat.le_refl _
  | succ j ih =>
    rcases Nat.lt_or_ge j i with h1 | h1
    · obtain rfl : i = j + 1 := by omega
      exact Nat.le_refl _
    · exact Nat.le_trans (ih h1) (atJ_step ms j)
theorem cutJ (ms : List (List UInt8)) (N : Nat) : ∀ k, ∃ T, T ≤ k ∧ ∀ i, i ≤ k → (atJ ms i ≤ N ↔ i ≤ T)
  | 0 => ⟨0, Nat.le_refl _, fun i hi => by
      obtain rfl : i = 0 := by omega
      rw [atJ_zero]
      omega⟩
  | k + 1 => by
    obtain ⟨T, hT, h⟩ := cutJ ms N k
    by_cases hk : atJ ms (k + 1) ≤ N
    · refine ⟨k + 1, Nat.le_refl _, fun i hi => ⟨fun _ => hi, fun _ => Nat.le_trans (atJ_mono ms hi) hk⟩⟩
    · refine ⟨T, by omega, fun i hi => ?_⟩
      rcases Nat.lt_or_ge k i with h1 | h1
      · obtain rfl : i = k + 1 := by omega
        omega
      · exact h i h1
theorem drop_at {ms : List (List UInt8)} {i : Nat} {m : List UInt8} (h : ms[i]? = some m) : (encJ ms).drop (atJ ms i) = encFr 9 m ++ encJ (ms.drop (i + 1)) := by
  have h1 : encJ ms = encJ (ms.take i) ++ (encFr 9 m ++ encJ (ms.drop (i + 1))) := by
    conv => lhs; rw [← List.take_append_drop (i + 1) ms]
    rw [encJ_append, encJ_take h, List.append_assoc]
  rw [h1]
  exact List.drop_left
theorem nxJ_in {ms : List (List UInt8)} {i N : Nat} {m : List UInt8} (hm : m.length ≤ 65535) (h : ms[i]? = some m) (hN : atJ ms (i + 1) ≤ N) : nxJ ((encJ ms).take N) (atJ ms i) = (m, ((atJ ms (i + 1) : Nat) : Int), 0) := by
  have h1 := atJ_succ h
  have hd : ((encJ ms).take N).drop (atJ ms i) = encFr 9 m ++ (encJ (ms.drop (i + 1))).take (N - atJ ms i - fsz m.length) := by
    rw [List.drop_take, drop_at h, List.take_append, encFr_len, List.take_of_length_le (by rw [encFr_len]; omega)]
  rw [nxJ_enc hm hd, h1]
theorem nxJ_out {ms : List (List UInt8)} {i N : Nat} {m : List UInt8} (hm : m.length ≤ 65535) (h : ms[i]? = some m) (hN : N < atJ ms (i + 1)) : (nxJ ((encJ ms).take N) (atJ ms i)).2.2 ≠ 0 := by
  intro h0
  obtain ⟨q, rest, e1, e2, e3, e4, e5⟩ := nxJ_ok h0
  obtain rfl : atJ ms i = q := by omega
  rw [List.length_take] at e5
  have hd2 : (encJ ms).drop (atJ ms i) = encFr 9 (nxJ ((encJ ms).take N) (atJ ms i)).1 ++ (rest ++ (encJ ms).drop N) := by
    rw [← List.append_assoc, ← e2, List.drop_take]
    have h6 := fsz_pos (nxJ ((encJ ms).take N) (atJ ms i)).1.length
    have : (encJ ms).drop N = ((encJ ms).drop (atJ ms i)).drop (N - atJ ms i) := by rw [List.drop_drop]; congr 1; omega
    rw [this, List.take_append_drop]
  have t1 := nxJ_enc hm (drop_at h)
  have t2 := nxJ_enc e3 hd2
  rw [t1] at t2
  simp only [Prod.mk.injEq, and_true] at t2
  have h7 := congrArg List.length t2.1
  have h8 := atJ_succ h
  omega
theorem getJ_in {ms : List (List UInt8)} {i N : Nat} {m : List UInt8} (hm : m.length ≤ 65535) (h : ms[i]? = some m) (hN : atJ ms (i + 1) ≤ N) : getJ ((encJ ms).take N) (atJ ms i) m.length (sum m).toNat = (m, 0) := by
  have h1 := nxJ_in hm h hN
  rw [getJ_good (by rw [h1]) (by rw [h1]) (by rw [h1]), h1]
theorem getJ_out {ms : List (List UInt8)} {i N : Nat} {m : List UInt8} (hm : m.length ≤ 65535) (h : ms[i]? = some m) (hN : N < atJ ms (i + 1)) : ∃ e, e ≠ 0 ∧ getJ ((encJ ms).take N) (atJ ms i) m.length (sum m).toNat = ([], e) :=
  ⟨_, nxJ_out hm h hN, getJ_err (nxJ_out hm h hN)⟩
/-- What is whole of a segment that is cut. -/
theorem allJ_at {ms : List (List UInt8)} (hl : ∀ m ∈ ms, m.length ≤ 65535) {N T : Nat} (hN : N ≤ (encJ ms).length) (hT : T ≤ ms.length) (h : ∀ i, i ≤ ms.length → (atJ ms i ≤ N ↔ i ≤ T)) : AllJ ((encJ ms).take N) (ms.take T) (atJ ms T) := by
  refine allJ_cut hl hT ((h T hT).2 (Nat.le_refl _)) hN fun m hm => ?_
  have hlt : T < ms.length := (List.getElem?_eq_some_iff.1 hm).1
  have h1 := atJ_succ hm
  have h2 := h (T + 1) (by omega)
  have h3 : (encJ (ms.take T)).length = atJ ms T := rfl
  omega
theorem cut_take {ms : List (List UInt8)} {N T : Nat} (h : atJ ms T ≤ N) : ((encJ ms).take N).take (atJ ms T) = encJ (ms.take T) := by
  rw [List.take_take, Nat.min_eq_left h]
  have : encJ ms = encJ (ms.take T) ++ encJ (ms.drop T) := by rw [← encJ_append, List.take_append_drop]
  rw [this]
  exact List.take_left

/-! ### rows of numbers, and of references -/
def plc (ms : List (List UInt8)) (j : Nat) : List Value := (List.range j).map fun i => Value.int .i64 (atJ ms i : Int)
def rfc (ms : List (List UInt8)) (j : Nat) : List Value := (ms.take j).flatMap fun m => [Value.int .u64 (m.length : Int), .int .u64 ((sum m).toNat : Int)]
theorem plc_snoc (ms : List (List UInt8)) (j : Nat) : plc ms (j + 1) = plc ms j ++ [.int .i64 (atJ ms j : Int)] := by
  unfold plc
  rw [List.range_succ, List.map_append]
  rfl
theorem plc_get (ms : List (List UInt8)) {i j : Nat} (h : i < j) : (plc ms j)[i]? = some (.int .i64 (atJ ms i : Int)) := by
  unfold plc
  rw [List.getElem?_map, List.getElem?_range h]
  rfl
theorem rfc_snoc {ms : List (List UInt8)} {j : Nat} {m : List UInt8} (h : ms[j]? = some m) : rfc ms (j + 1) = rfc ms j ++ [.int .u64 (m.length : Int), .int .u64 ((sum m).toNat : Int)] := by
  unfold rfc
  rw [List.take_add_one, h, Option.toList_some, List.flatMap_append, List.flatMap_singleton]
theorem rfc_len {ms : List (List UInt8)} : ∀ {j : Nat}, j ≤ ms.length → (rfc ms j).length = j * 2
  | 0, _ => rfl
  | j + 1, h => by
    obtain ⟨m, hm⟩ : ∃ m, ms[j]? = some m := ⟨_, List.getElem?_eq_getElem (by omega)⟩
    rw [rfc_snoc hm, List.length_append, rfc_len (by omega)]
    simp
    omega
theorem rfc_get {ms : List (List UInt8)} {i : Nat} {m : List UInt8} (h : ms[i]? = some m) : ∀ {j : Nat}, i < j → j ≤ ms.length → (rfc ms j)[i * 2]? = some (.int .u64 (m.length : Int)) ∧ (rfc ms j)[i * 2 + 1]? = some (.int .u64 ((sum m).toNat : Int))
  | 0, h0, _ => by omega
  | j + 1, h0, h1 => by
    obtain ⟨q, hq⟩ : ∃ m, ms[j]? = some m := ⟨_, List.getElem?_eq_getElem (by omega)⟩
    have hlen := rfc_len (ms := ms) (j := j) (by omega)
    rw [rfc_snoc hq]
    rcases Nat.lt_or_ge i j with h2 | h2
    · obtain ⟨h3, h4⟩ := rfc_get h (j := j) h2 (by omega)
      exact ⟨by rw [List.getElem?_append_left (by omega)]; exact h3, by rw [List.getElem?_append_left (by omega)]; exact h4⟩
    · obtain rfl : i = j := by omega
      rw [h] at hq
      injection hq with hq
      subst hq
      exact ⟨by rw [List.getElem?_append_right (by omega), hlen, Nat.sub_self]; rfl, by rw [List.getElem?_append_right (by omega), hlen, show i * 2 + 1 - i * 2 = 1 by omega]; rfl⟩
/-- Rows of different types lie in different blocks. -/
theorem own_apart2 {w : World} {base base' k k' s s' : Nat} {e e' : TypeId} {v v' : Value} {xs ys : List Value} (h : w.ownsRow base e s v k xs) (h' : w.ownsRow base' e' s' v' k' ys) (hne : e ≠ e') {g : Nat} (hg : v'.ownBlock = some g) : v.ownBlock ≠ some g := by
  intro e1
  rcases h'.2 with ⟨rfl, _⟩ | ⟨q', cap', cur', rfl, _, hgb', _⟩
  · simp [Value.ownBlock] at hg
  rcases h.2 with ⟨rfl, _⟩ | ⟨q, cap, cur, rfl, _, hgb, _⟩
  · simp [Value.ownBlock] at e1
  · obtain rfl : q = g := by simpa [Value.ownBlock] using e1
    obtain rfl : q' = q := by simpa [Value.ownBlock] using hg
    rw [hgb] at hgb'
    simp at hgb'
    exact hne hgb'.2
/-- A row stays while one of another type grows. -/
theorem own_beside {w w' : World} {base base' k k' s s' : Nat} {e e' : TypeId} {v v' : Value} {xs ys : List Value} {o : Obj} (h : w.ownsRow base e s v k xs) (h' : w.ownsRow base' e' s' v' k' ys) (hne : e ≠ e') (hg : (w.alloc o).grownBy w' v'.ownBlock) : w'.ownsRow base e s v k xs := by
  refine (h.alloc o).kept hg ?_
  cases hv : v'.ownBlock with
  | none =>
    cases hv2 : v.ownBlock with
    | none => exact .inl rfl
    | some b => exact .inr (by simp)
  | some g => exact .inr (own_apart2 h h' hne hv)
theorem info_int : (Try.prog.info? 3).map (fun i => (i.zero, i.size, i.bytes)) = some (some (.int .i64 0), 1, 8) := by kernel_rfl
theorem info_ref : (Try.prog.info? 25).map (fun i => (i.zero, i.size, i.bytes)) = some (some (.agg #[.int .u64 0, .int .u64 0]), 2, 16) := by kernel_rfl
section
variable {ops : Array Oper} {rest : List Oper} {o : Oper} {a : Act} {Q : Exit → Act → World → Prop} {w : World} {base : Nat} {v : Value}
theorem push_int {N : Nat} (s x : Operand) {xs : List Value} {j : Nat} (z : Int) (hown : w.ownsRow base 3 1 v j xs) (hbase : base ≤ w.heap.size) (hl : j ≤ 1099511627776)
    (hgd : o.guard = none) (ho : o.op = .call { callee := .builtin .append, args := #[s, x], argTypes := #[53, 53] })
    (hs : a.eval s = v) (hx : a.eval x = .slice (some ⟨N, 0, none⟩) 1 1) (hN : w.heap.size = N)
    (h : ∀ v' w', w'.ownsRow base 3 1 v' (j + 1) (xs ++ [.int .i64 z]) → Below base w w' → (w.alloc (.cells #[.int .i64 z] 3)).grownBy w' v.ownBlock → wpList Try.prog ops Q rest (a.put o.dst v') w') :
    wpList Try.prog ops Q (o :: rest) a (w.alloc (.cells #[.int .i64 z] 3)) := by
  subst hN
  obtain ⟨i0, hi0, hz0, hz1, hz2⟩ := info_parts info_int
  have hnew := reads_new w 3 [.int .i64 z]
  refine wpList_append_any _ hgd s x _ ho base 3 i0 _ 1 8 Try.underlying53 hi0 hz0 hz1 hz2 rfl (by omega) v _ _ hs (hown.alloc _) (w.heap.size + 1) _ 1 1 [.int .i64 z] hx hnew (by intro u hu; simp only [List.mem_singleton] at hu; subst hu; rfl) (by simp only [maxLen]; omega) (by omega) (by simp; omega) ?_
  intro v1 w1 h1 h2 _
  exact h v1 w1 h1 (((Below.refl base w).alloc hbase _).trans (grown_below (hown.alloc (.cells #[.int .i64 z] 3)) h2 (by simp; omega))) h2
theorem push_rf {N : Nat} (s x : Operand) {xs : List Value} {j : Nat} (y z : Int) (hown : w.ownsRow base 25 2 v j xs) (hbase : base ≤ w.heap.size) (hl : j ≤ 1099511627776)
    (hgd : o.guard = none) (ho : o.op = .call { callee := .builtin .append, args := #[s, x], argTypes := #[54, 54] })
    (hs : a.eval s = v) (hx : a.eval x = .slice (some ⟨N, 0, none⟩) 1 1) (hN : w.heap.size = N)
    (h : ∀ v' w', w'.ownsRow base 25 2 v' (j + 1) (xs ++ [.int .u64 y, .int .u64 z]) → Below base w w' → (w.alloc (.cells #[.int .u64 y, .int .u64 z] 25)).grownBy w' v.ownBlock → wpList Try.prog ops Q rest (a.put o.dst v') w') :
    wpList Try.prog ops Q (o :: rest) a (w.alloc (.cells #[.int .u64 y, .int .u64 z] 25)) := by
  subst hN
  obtain ⟨i0, hi0, hz0, hz1, hz2⟩ := info_parts info_ref
  have hn1 := reads_new w 25 [.int .u64 y, .int .u64 z]
  have hnew : Reads (w.alloc (.cells #[.int .u64 y, .int .u64 z] 25)) (w.heap.size + 1) 2 (some ⟨w.heap.size, 0, none⟩) 1 [.int .u64 y, .int .u64 z] := ⟨rfl, fun _ => hn1.2 (by simp)⟩
  refine wpList_append_any _ hgd s x _ ho base 25 i0 _ 2 16 Try.underlying54 hi0 hz0 hz1 hz2 rfl (by omega) v _ _ hs (hown.alloc _) (w.heap.size + 1) _ 1 1 [.int .u64 y, .int .u64 z] hx hnew (by intro u hu; simp only [List.mem_cons, List.not_mem_nil, or_false] at hu; rcases hu with rfl | rfl <;> rfl) (by simp only [maxLen]; omega) (by omega) (by simp; omega) ?_
  intro v1 w1 h1 h2 _
  exact h v1 w1 h1 (((Below.refl base w).alloc hbase _).trans (grown_below (hown.alloc (.cells #[.int .u64 y, .int .u64 z] 25)) h2 (by simp; omega))) h2
end
end Go.Proofs.Ytogoaihimepboaa
