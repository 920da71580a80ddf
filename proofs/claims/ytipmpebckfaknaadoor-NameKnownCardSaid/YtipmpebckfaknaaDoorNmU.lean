/- Lists of texts that the call owns; a text's parts, by the reference. Conditions: texts below 2^20. -/
import Derived.Test.YtipmpebckfaknaaDoorNmMath
import Derived.Test.YtipmpebckfaknaaDoorPush
import Derived.StillTailTactics
namespace Go.Proofs.YtipmpebckfaknaaDoor
open Go.RowKit Go.Lib

/-- The cells of a list of texts. -/
def ts (ps : List (List UInt8)) : List Value := ps.map fun p => Value.string (txt p)
theorem ts_len (ps : List (List UInt8)) : (ts ps).length = ps.length := by simp [ts]
theorem ts_append (a b : List (List UInt8)) : ts (a ++ b) = ts a ++ ts b := by simp [ts]
theorem ts_one (ps : List (List UInt8)) : ∀ u ∈ ts ps, u.oneCell' = true := by
  intro u hu
  obtain ⟨p, _, rfl⟩ := List.mem_map.1 hu
  rfl
theorem ts_get {ps : List (List UInt8)} {k : Nat} {p : List UInt8} (h : ps[k]? = some p) : (ts ps)[k]? = some (.string (txt p)) := by simp [ts, h]
theorem info_str : (Tryd.prog.info? 9).map (fun i => (i.zero, i.size, i.bytes)) = some (some (.string ⟨#[]⟩), 1, 16) := by kernel_rfl
/-- A slice that reads as a list of texts. -/
abbrev RdT (w : World) (B : Nat) (A : Option Addr) (ps : List (List UInt8)) : Prop := Reads w B 1 A ps.length (ts ps)
theorem RdT.at_ {w : World} {B : Nat} {A : Option Addr} {ps : List (List UInt8)} {k : Nat} (h : RdT w B A ps) (hk : k < ps.length) : ∃ (ad : Addr) (p : List UInt8), A = some ad ∧ ad.block < B ∧ w.cell? (ad.add k) = some (.string (txt p)) ∧ Hid (ps[k]? = some p) := by
  obtain ⟨ad, u, e, hb, hu, hc⟩ := Reads.at_ h hk
  have hl : ps[k]? = some ps[k] := List.getElem?_eq_getElem hk
  rw [ts_get hl] at hu
  injection hu with hu
  subst hu
  exact ⟨ad, _, e, hb, hc, hl⟩
section
variable {ops : Array Oper} {rest : List Oper} {o : Oper} {a : Act} {Q : Exit → Act → World → Prop} {w : World} {base : Nat} {v : Value}
theorem push_txt (s x : Operand) {ps : List (List UInt8)} (p : List UInt8) (b : ByteArray) (hb : b = txt p) (hown : w.ownsRow base 9 1 v ps.length (ts ps)) (hbase : base ≤ w.heap.size) (hl : ps.length ≤ 1048576)
    (hgd : o.guard = none) (ho : o.op = .call { callee := .builtin .append, args := #[s, x], argTypes := #[44, 44] })
    (hs : a.eval s = v) (hx : a.eval x = .slice (some ⟨w.heap.size, 0, none⟩) 1 1)
    (h : ∀ v' w', w'.ownsRow base 9 1 v' (ps ++ [p]).length (ts (ps ++ [p])) → Below base w w' → base ≤ w'.heap.size → wpList Tryd.prog ops Q rest (a.put o.dst v') w') :
    wpList Tryd.prog ops Q (o :: rest) a (w.alloc (.cells #[.string b] 9)) := by
  subst hb
  obtain ⟨i0, hi0, hz0, hz1, hz2⟩ := info_parts info_str
  have hr : Reads (w.alloc (.cells #[.string (txt p)] 9)) (w.heap.size + 1) 1 (some ⟨w.heap.size, 0, none⟩) 1 (ts [p]) := reads_new w 9 (ts [p])
  refine wpList_append_any _ hgd s x _ ho base 9 i0 _ 1 16 Tryd.underlying44 hi0 hz0 hz1 hz2 rfl (by omega) v _ _ hs (hown.alloc _) (w.heap.size + 1) _ 1 1 (ts [p]) hx hr (ts_one _) (by simp only [maxLen]; omega) (by omega) (by simp; omega) ?_
  intro v1 w1 h1 h2 _
  have hb := ((Below.refl base w).alloc hbase _).trans (grown_below (hown.alloc (.cells #[.string (txt p)] 9)) h2 (by simp; omega))
  refine h v1 w1 ?_ hb (Nat.le_trans hbase hb.size)
  rw [ts_append]
  simpa using h1
end
theorem own_newT (w : World) (base : Nat) (p : List UInt8) (hbase : base ≤ w.heap.size) : (w.alloc (.cells #[.string (txt p)] 9)).ownsRow base 9 1 (.slice (some ⟨w.heap.size, 0, none⟩) 1 1) 1 (ts [p]) := by
  refine ⟨rfl, .inr ⟨w.heap.size, 1, _, rfl, hbase, heap_alloc_new w _, Nat.le_refl _, by simp only [maxLen]; omega, rfl, rfl⟩⟩

/-! ### the parts, one byte further -/
/-- One byte put onto the last part. -/
def lastOn (c : UInt8) : List (List UInt8) → List (List UInt8)
  | [] => [[c]]
  | [x] => [x ++ [c]]
  | x :: y :: r => x :: lastOn c (y :: r)
theorem lastOn_snoc (c : UInt8) (p : List UInt8) : ∀ ps : List (List UInt8), lastOn c (ps ++ [p]) = ps ++ [p ++ [c]]
  | [] => rfl
  | [x] => rfl
  | x :: y :: r => by
    show x :: lastOn c ((y :: r) ++ [p]) = _
    rw [lastOn_snoc c p (y :: r)]
    rfl
theorem splitD_stroke (l : List UInt8) : splitD (l ++ [45]) = splitD l ++ [[]] := by
  induction l with
  | nil => rfl
  | cons c r ih =>
    rw [List.cons_append]
    conv => lhs; unfold splitD
    conv => rhs; unfold splitD
    rw [ih]
    split
    · rfl
    · cases h : splitD r with
      | nil => exact absurd h (splitD_ne r)
      | cons x t => rfl
theorem splitD_byte {d : UInt8} (hd : d ≠ 45) (l : List UInt8) : splitD (l ++ [d]) = lastOn d (splitD l) := by
  induction l with
  | nil =>
    show splitD [d] = [[d]]
    unfold splitD
    rw [if_neg hd]
    rfl
  | cons c r ih =>
    rw [List.cons_append]
    conv => lhs; unfold splitD
    conv => rhs; unfold splitD
    rw [ih]
    split
    · cases h : splitD r with
      | nil => exact absurd h (splitD_ne r)
      | cons x t => rfl
    · cases h : splitD r with
      | nil => exact absurd h (splitD_ne r)
      | cons x t =>
        cases t with
        | nil => rfl
        | cons y t => rfl
theorem splitD_len (l : List UInt8) : (splitD l).length ≤ l.length + 1 := by
  induction l with
  | nil => simp [splitD]
  | cons c r ih =>
    unfold splitD
    split
    · simp; omega
    · split
      · simp
      · rename_i h
        rw [h] at ih
        simp at ih ⊢
        omega
theorem splitD_part {l p : List UInt8} (h : p ∈ splitD l) : p.length ≤ l.length := by
  induction l generalizing p with
  | nil => simp [splitD] at h; subst h; simp
  | cons c r ih =>
    unfold splitD at h
    split at h
    · rcases List.mem_cons.1 h with rfl | h
      · simp
      · have := ih h; simp; omega
    · split at h
      · rename_i e; exact absurd e (splitD_ne r)
      · rename_i x t e
        rcases List.mem_cons.1 h with rfl | h
        · have := ih (p := x) (by rw [e]; simp)
          simp
          exact this
        · have := ih (p := p) (by rw [e]; simp [h])
          simp
          omega

theorem txt_sub {l : List UInt8} {k : Nat} {c : UInt8} (h : l[k]? = some c) : (txt l).extract k (k + 1) = txt [c] := by
  apply ByteArray.ext
  apply Array.ext'
  have hk := (List.getElem?_eq_some_iff.1 h).1
  have hc := (List.getElem?_eq_some_iff.1 h).2
  simp only [ByteArray.data_extract, txt, Array.toList_extract, List.extract]
  rw [show k + 1 - k = 1 by omega, List.drop_eq_getElem_cons hk, hc]
  rfl
set_option maxHeartbeats 4000000 in
set_option maxRecDepth 100000 in
theorem rsplit_any (l : List UInt8) (w : World) (hl : l.length ≤ 1048000) :
    Calls Tryd.prog 36 #[.string (txt l)] w fun e w' => (∃ v, e = .returned v ∧ w'.ownsRow w.heap.size 9 1 v (splitD l).length (ts (splitD l))) ∧ Below w.heap.size w w' := by
  have Hl := Lib.hid hl
  clear hl
  go_enter Tryd.func36, Tryd.ntmps36
  go_wp2
  go_loopw [3, 4] (fun v i wr => ∃ (k : Nat) (ps : List (List UInt8)), k ≤ l.length ∧ i = .int .i64 (k : Int) ∧ Hid (ps = splitD (l.take k)) ∧ wr.ownsRow w.heap.size 9 1 v ps.length (ts ps) ∧ Below w.heap.size w wr) (fun _ i _ => l.length - (Lib.intOf i).toNat)
  case atStart => exact ⟨0, [[]], Nat.zero_le _, rfl, rfl, own_newT w _ [] (Nat.le_refl _), below_new _ _⟩
  case round =>
    obtain ⟨k, ps, hk, rfl, Hps, hown, hb⟩ := hrel
    by_cases hlt : k < l.length
    · obtain ⟨c, hc⟩ : ∃ c, l[k]? = some c := ⟨_, List.getElem?_eq_getElem hlt⟩
      have Hc := Lib.hid hc
      clear hc
      have hks : k < (txt l).size := by rw [txt_size]; exact hlt
      have hkc : (txt l)[k] = c := by
        have := Hc.out
        rw [List.getElem?_eq_getElem hlt] at this
        injection this
      have hk63 : (k : Int) + 1 ≤ 1048001 := by have := Hl.out; omega
      have Hown := Lib.hid hown
      have Hb := Lib.hid hb
      have hpl : Hid (ps.length ≤ 1048576) := by rw [Hps.out]; have := splitD_len (l.take k); have := Hl.out; rw [List.length_take] at *; exact (by omega : (splitD (l.take k)).length ≤ 1048576)
      clear hown hb
      by_cases hs : c = 45
      · have hsb : ((c.toNat : Int) == 45) = true := by rw [hs]; rfl
        have Hnext : Hid (ps ++ [[]] = splitD (l.take (k + 1))) := by rw [take_snoc Hc, hs, splitD_stroke, ← Hps.out]; exact rfl
        clear hs
        go_wp2_with (at_builtin; refine push_txt (.tmp 16) (.tmp 17) [] _ rfl Hown.out Hb.out.size hpl.out rfl rfl rfl rfl ?_; intro v1 w1 hown1 hb1 hbs1)
        go_roundw
        case rel => exact ⟨k + 1, ps ++ [[]], by omega, by go_num, Hnext, hown1, Hb.out.trans hb1⟩
        case measure => simp [Lib.intOf]; omega
      · have hsb : ((c.toNat : Int) == 45) = false := by
          simp only [beq_eq_false_iff_ne, ne_eq]
          intro e
          apply hs
          have h1 : UInt8.ofNat c.toNat = c := UInt8.ofNat_toNat
          rw [show c.toNat = 45 by omega] at h1
          exact h1.symm
        obtain ⟨qs, p, hqp⟩ : ∃ qs p, ps = qs ++ [p] := by
          have hne : ps ≠ [] := by rw [Hps.out]; exact splitD_ne _
          obtain ⟨qs, p, h⟩ := (List.eq_nil_or_concat ps).resolve_left hne
          exact ⟨qs, p, by rw [h, List.concat_eq_append]⟩
        subst hqp
        obtain ⟨m, hm⟩ : ∃ m, Hid (qs.length = m) := ⟨_, rfl⟩
        have hown1 := Hown.out
        rw [List.length_append, hm.out, List.length_singleton] at hown1
        obtain ⟨n1, hn1⟩ : ∃ n1, Hid (m + 1 = n1) := ⟨_, rfl⟩
        rw [hn1.out] at hown1
        have hmn : m < n1 := by have := hn1.out; omega
        have Hown1 := Lib.hid hown1
        clear hown1
        have hml : Hid (m ≤ 1048576) := by have := hpl.out; rw [List.length_append, hm.out] at this; exact (by simp at this; omega : m ≤ 1048576)
        obtain ⟨g, cap, e, hge, hgl⟩ := Hown1.out.form (by omega)
        subst e
        have hcell : wr.cell? ⟨g, m, none⟩ = some (.string (txt p)) := by
          rw [Hown1.out.cellAt m (by omega)]
          rw [ts_get (p := p) (by rw [← hm.out, List.getElem?_append_right (Nat.le_refl _)]; simp)]
        have hfr : wr.frozen? ⟨g, m, none⟩ = false := Hown1.out.frozenAt m
        have hwm : IntKind.i64.wrap ((n1 : Int) - 1) = (m : Int) := by
          have := hml.out
          have := hn1.out
          rw [IntWalk.i64_in _ (by omega)]
          omega
        have hex : (txt l).extract k (k + 1) = txt [c] := txt_sub Hc.out
        have hp1 : IntKind.i64.wrap ((k : Int) + 1) = (k : Int) + 1 := IntWalk.i64_in _ (by omega)
        go_wp2_with fail
        have d1 : (0 : Int) ≤ (k : Int) + 1 := by omega
        have d2 : (k : Int) ≤ (k : Int) + 1 := by omega
        have d3 : (k : Int) + 1 ≤ ((txt l).size : Int) := by omega
        have d4 : ((k : Int) + 1).toNat = k + 1 := by omega
        have hcat : ¬ (9223372036854775807 < (txt p).size + (txt [c]).size) := by
          have h1 : p.length ≤ (l.take k).length := splitD_part (by rw [← Hps.out]; simp)
          rw [List.length_take] at h1
          rw [txt_size, txt_size]
          have := Hl.out
          simp
          omega
        go_still_tail 17, (by kernel_rfl)
        have hcell2 : (wr.drewN 1).cell? ⟨g, m, none⟩ = some (.string (txt p)) := hcell
        have hfr2 : (wr.drewN 1).frozen? ⟨g, m, none⟩ = false := hfr
        have Hst : Hid (((wr.drewN 1).setCell ⟨g, m, none⟩ (.string (txt (p ++ [c])))).ownsRow w.heap.size 9 1 (.slice (some ⟨g, 0, none⟩) n1 cap) (qs ++ [p ++ [c]]).length (ts (qs ++ [p ++ [c]]))) := by
          have h1 : (wr.drewN 1).ownsRow w.heap.size 9 1 (.slice (some ⟨g, 0, none⟩) n1 cap) n1 (ts (qs ++ [p])) := Hown1.out
          have h2 := (h1.stored m (.string (txt (p ++ [c])))).1
          have e1 : (ts (qs ++ [p])).set m (.string (txt (p ++ [c]))) = ts (qs ++ [p ++ [c]]) := by
            rw [ts_append, ts_append, ← hm.out, ← ts_len qs, List.set_append_right _ _ (Nat.le_refl _)]
            simp [ts]
          have e2 : (qs ++ [p ++ [c]]).length = n1 := by rw [List.length_append, hm.out]; exact hn1.out
          rw [e1] at h2
          rw [e2]
          exact h2
        have Hb2 : Hid (Below w.heap.size w ((wr.drewN 1).setCell ⟨g, m, none⟩ (.string (txt (p ++ [c]))))) := (below_drewN Hb.out 1).setCell hge _
        have Hnext : Hid (qs ++ [p ++ [c]] = splitD (l.take (k + 1))) := by rw [take_snoc Hc, splitD_byte hs, ← Hps.out, lastOn_snoc]; exact rfl
        change wpList _ _ _ _ _ (wr.drewN 1)
        rw [txt_append p [c]]
        clear hcell hfr hcat hex hwm hp1 d1 d2 d3 d4
        go_wp2
        go_roundw
        case rel => exact ⟨k + 1, qs ++ [p ++ [c]], by omega, by go_num, Hnext, Hst.out, Hb2.out⟩
        case measure => simp [Lib.intOf]; omega
    · obtain rfl : k = l.length := by omega
      have hno : ¬ l.length < (txt l).size := by rw [txt_size]; omega
      have hno' : (txt l).size = l.length := txt_size l
      have Hfin : Hid (ps = splitD l) := by rw [Hps.out, List.take_length]; exact rfl
      clear hlt hno
      go_wp2
      go_ret
      exact ⟨⟨_, rfl, by rw [← Hfin.out]; exact hown⟩, hb⟩
end Go.Proofs.YtipmpebckfaknaaDoor
