/- Directories as lists: names in the order of their bytes, operations, what is done and undone; a map that holds such a list. Conditions: none. Directories in memory: entries, operations, the map of names, what is pending; blocks by their owners. Conditions: none. -/
import Derived.Test.YtbhmnmmockmibaaGreatKpFoMem
import Derived.Test.YtbhmnmmockmibaaGreatKpSwap
import Derived.Maps.Ext
import Derived.Maps.RangeWalk
import Derived.Sort.KeysCollected
import Derived.Lib.Bytealg
namespace Go.Proofs.YtbhmnmmockmibaaGreat
open Go.RowKit Go.WideShapes
abbrev EnD := List UInt8 × Int
abbrev blt (a b : List UInt8) : Bool := bytesBefore a b
theorem blt_irrefl (a : List UInt8) : blt a a = false := WideAt.bytes_irrefl a
theorem blt_trans {a b c : List UInt8} (h : blt a b = true) (k : blt b c = true) : blt a c = true := WideShapes.bytes_trans a b c h k
theorem blt_total {a b : List UInt8} (h : a ≠ b) : blt a b = true ∨ blt b a = true := WideAt.bytes_total a b h
theorem blt_ne {a b : List UInt8} (h : blt a b = true) : a ≠ b := by rintro rfl; rw [blt_irrefl] at h; cases h
theorem blt_asymm {a b : List UInt8} (h : blt a b = true) : blt b a = false := by
  cases k : blt b a
  · rfl
  · have := blt_trans h k
    rw [blt_irrefl] at this
    cases this
theorem less_blt : ∀ (a b : List UInt8), Op.bytesLess a b = blt a b
  | [], [] => rfl
  | [], _ :: _ => rfl
  | _ :: _, [] => rfl
  | a :: x, b :: y => by
    unfold Op.bytesLess blt bytesBefore
    rw [less_blt x y]
theorem cmp_lt : ∀ (a b : List UInt8), decide (Lib.compareBytes a b < 0) = blt a b
  | [], [] => rfl
  | [], _ :: _ => rfl
  | _ :: _, [] => rfl
  | a :: x, b :: y => by
    unfold Lib.compareBytes blt bytesBefore
    have ih := cmp_lt x y
    by_cases h1 : a < b
    · simp [h1]
    · by_cases h2 : b < a
      · have hne : (a == b) = false := by simp; rintro rfl; exact h1 h2
        simp [h1, h2, hne]
      · have he : a = b := by
          have := UInt8.not_lt.1 h1
          have := UInt8.not_lt.1 h2
          exact UInt8.le_antisymm this (by assumption)
        subst he
        simp only [h1, if_false, decide_false, Bool.false_or, beq_self_eq_true, Bool.true_and]
        exact ih
def Srt (m : List EnD) : Prop := m.Pairwise fun a b => blt a.1 b.1 = true
def insE (x : EnD) : List EnD → List EnD
  | [] => [x]
  | y :: r => if blt x.1 y.1 = true then x :: y :: r else y :: insE x r
def delE (m : List EnD) (k : List UInt8) : List EnD := m.filter fun e => !(e.1 == k)
def putE (m : List EnD) (x : EnD) : List EnD := insE x (delE m x.1)
def getE (m : List EnD) (k : List UInt8) : Option Int := (m.find? fun e => e.1 == k).map (·.2)
def hasE (m : List EnD) (k : List UInt8) : Bool := m.any fun e => e.1 == k
theorem mem_ins {x y : EnD} : ∀ {m : List EnD}, y ∈ insE x m ↔ y = x ∨ y ∈ m
  | [] => by simp [insE]
  | z :: r => by
    unfold insE
    split
    · simp
    · rw [List.mem_cons, mem_ins (m := r), List.mem_cons]
      constructor
      · rintro (h | h | h)
        · exact .inr (.inl h)
        · exact .inl h
        · exact .inr (.inr h)
      · rintro (h | h | h)
        · exact .inr (.inl h)
        · exact .inl h
        · exact .inr (.inr h)
theorem mem_del {y : EnD} {m : List EnD} {k : List UInt8} : y ∈ delE m k ↔ y ∈ m ∧ y.1 ≠ k := by
  unfold delE
  rw [List.mem_filter]
  simp
theorem hasE_iff {m : List EnD} {k : List UInt8} : hasE m k = true ↔ ∃ v, (k, v) ∈ m := by
  unfold hasE
  rw [List.any_eq_true]
  constructor
  · rintro ⟨⟨a, v⟩, h, e⟩
    have : a = k := by simpa using e
    subst this
    exact ⟨v, h⟩
  · rintro ⟨v, h⟩
    exact ⟨_, h, by simp⟩
theorem ins_len (x : EnD) : ∀ m : List EnD, (insE x m).length = m.length + 1
  | [] => rfl
  | y :: r => by
    unfold insE
    split
    · rfl
    · rw [List.length_cons, ins_len x r, List.length_cons]
theorem del_len (m : List EnD) (k : List UInt8) : (delE m k).length ≤ m.length := List.length_filter_le _ _
theorem Srt.ins {x : EnD} : ∀ {m : List EnD}, Srt m → hasE m x.1 = false → Srt (insE x m)
  | [], _, _ => List.pairwise_singleton _ _
  | y :: r, h, hx => by
    obtain ⟨h1, h2⟩ := List.pairwise_cons.1 h
    have hx' : hasE r x.1 = false := by
      unfold hasE at hx ⊢
      rw [List.any_cons, Bool.or_eq_false_iff] at hx
      exact hx.2
    have hne : y.1 ≠ x.1 := by
      intro e
      unfold hasE at hx
      rw [List.any_cons, e] at hx
      simp at hx
    unfold insE
    split
    · rename_i hb
      refine List.pairwise_cons.2 ⟨fun q hq => ?_, h⟩
      rcases List.mem_cons.1 hq with rfl | hq
      · exact hb
      · exact blt_trans hb (h1 q hq)
    · rename_i hb
      have hyx : blt y.1 x.1 = true := by
        rcases blt_total hne with h' | h'
        · exact h'
        · exact absurd h' hb
      refine List.pairwise_cons.2 ⟨fun q hq => ?_, Srt.ins h2 hx'⟩
      rcases mem_ins.1 hq with rfl | hq
      · exact hyx
      · exact h1 q hq
theorem Srt.del {m : List EnD} (h : Srt m) (k : List UInt8) : Srt (delE m k) := h.filter _
theorem has_del (m : List EnD) (k : List UInt8) : hasE (delE m k) k = false := by
  cases h : hasE (delE m k) k
  · rfl
  · obtain ⟨v, hv⟩ := hasE_iff.1 h
    exact absurd rfl (mem_del.1 hv).2
theorem Srt.put {m : List EnD} (h : Srt m) (x : EnD) : Srt (putE m x) := (h.del x.1).ins (has_del m x.1)
theorem del_none {m : List EnD} {k : List UInt8} (h : hasE m k = false) : delE m k = m := by
  unfold delE
  rw [List.filter_eq_self]
  intro e he
  cases hk : e.1 == k
  · rfl
  · unfold hasE at h
    rw [List.any_eq_false] at h
    exact absurd hk (h e he)
theorem put_new {m : List EnD} {x : EnD} (h : hasE m x.1 = false) : putE m x = insE x m := by
  unfold putE
  rw [del_none h]
theorem srt_ext {m l : List EnD} (hm : Srt m) (hl : Srt l) (h : ∀ x, x ∈ m ↔ x ∈ l) : m = l := by
  induction m generalizing l with
  | nil =>
    cases l with
    | nil => rfl
    | cons y s => have := (h y).2 (by simp); simp at this
  | cons x r ih =>
    cases l with
    | nil => have := (h x).1 (by simp); simp at this
    | cons y s =>
      obtain ⟨a1, a2⟩ := List.pairwise_cons.1 hm
      obtain ⟨b1, b2⟩ := List.pairwise_cons.1 hl
      have hxy : x = y := by
        rcases List.mem_cons.1 ((h x).1 (by simp)) with e | hx
        · exact e
        · rcases List.mem_cons.1 ((h y).2 (by simp)) with e | hy
          · exact e.symm
          · have := blt_trans (a1 y hy) (b1 x hx)
            rw [blt_irrefl] at this
            cases this
      subst hxy
      rw [ih a2 b2 fun z => ⟨fun hz => ?_, fun hz => ?_⟩]
      · rcases List.mem_cons.1 ((h z).1 (List.mem_cons_of_mem _ hz)) with e | hz'
        · have := a1 z hz
          rw [e, blt_irrefl] at this
          cases this
        · exact hz'
      · rcases List.mem_cons.1 ((h z).2 (List.mem_cons_of_mem _ hz)) with e | hz'
        · have := b1 z hz
          rw [e, blt_irrefl] at this
          cases this
        · exact hz'
theorem srt_one {m : List EnD} (h : Srt m) {k : List UInt8} {v v' : Int} (h1 : (k, v) ∈ m) (h2 : (k, v') ∈ m) : v = v' := by
  induction m with
  | nil => simp at h1
  | cons x r ih =>
    obtain ⟨a1, a2⟩ := List.pairwise_cons.1 h
    rcases List.mem_cons.1 h1 with e1 | h1'
    · rcases List.mem_cons.1 h2 with e2 | h2'
      · rw [← e1] at e2
        injection e2 with _ e2
        exact e2.symm
      · have := a1 _ h2'
        rw [← e1, blt_irrefl] at this
        cases this
    · rcases List.mem_cons.1 h2 with e2 | h2'
      · have := a1 _ h1'
        rw [← e2, blt_irrefl] at this
        cases this
      · exact ih a2 h1' h2'
theorem getE_some {m : List EnD} {k : List UInt8} {v : Int} (h : getE m k = some v) : (k, v) ∈ m := by
  unfold getE at h
  cases hf : m.find? fun e => e.1 == k with
  | none => rw [hf] at h; cases h
  | some p =>
    rw [hf] at h
    simp only [Option.map_some, Option.some.injEq] at h
    have h1 := List.mem_of_find?_eq_some hf
    have h2 : (p.1 == k) = true := List.find?_some (p := fun e : EnD => e.1 == k) hf
    have h3 : p.1 = k := by simpa using h2
    rw [← h, ← h3]
    exact h1
theorem getE_none {m : List EnD} {k : List UInt8} (h : getE m k = none) : hasE m k = false := by
  unfold getE at h
  rw [Option.map_eq_none_iff, List.find?_eq_none] at h
  unfold hasE
  rw [List.any_eq_false]
  exact h
theorem getE_has (m : List EnD) (k : List UInt8) : (getE m k).isSome = hasE m k := by
  cases h : getE m k with
  | none => exact (getE_none h).symm
  | some v => exact (hasE_iff.2 ⟨v, getE_some h⟩).symm
theorem getE_of {m : List EnD} (hm : Srt m) {k : List UInt8} {v : Int} (h : (k, v) ∈ m) : getE m k = some v := by
  cases hg : getE m k with
  | none => have := getE_none hg; rw [hasE_iff.2 ⟨v, h⟩] at this; cases this
  | some u => rw [srt_one hm (getE_some hg) h]
structure Pr where
  add : Bool
  k : List UInt8
  v : Int
def Pr.does (o : Pr) (m : List EnD) : List EnD := if o.add then putE m (o.k, o.v) else delE m o.k
def Pr.undoes (o : Pr) (m : List EnD) : List EnD := if o.add then delE m o.k else putE m (o.k, o.v)
def Pr.ok (o : Pr) (m : List EnD) : Prop := if o.add then hasE m o.k = false else (o.k, o.v) ∈ m
theorem Pr.srt (o : Pr) {m : List EnD} (h : Srt m) : Srt (o.does m) := by
  unfold Pr.does
  split
  · exact h.put _
  · exact h.del _
theorem Pr.back {o : Pr} {m : List EnD} (hm : Srt m) (h : o.ok m) : o.undoes (o.does m) = m := by
  unfold Pr.ok at h
  unfold Pr.undoes Pr.does
  cases ha : o.add with
  | true =>
    rw [ha] at h
    simp only [if_true] at h ⊢
    rw [put_new (x := (o.k, o.v)) h]
    refine srt_ext ((hm.ins h).del _) hm fun x => ?_
    rw [mem_del, mem_ins]
    constructor
    · rintro ⟨rfl | h1, h2⟩
      · exact absurd rfl h2
      · exact h1
    · intro hx
      refine ⟨.inr hx, fun e => ?_⟩
      have := hasE_iff.2 ⟨x.2, show (o.k, x.2) ∈ m by rw [← e]; exact hx⟩
      rw [h] at this
      cases this
  | false =>
    rw [ha] at h
    simp only [Bool.false_eq_true, if_false] at h ⊢
    rw [put_new (x := (o.k, o.v)) (has_del m o.k)]
    refine srt_ext ((hm.del _).ins (x := (o.k, o.v)) (has_del m o.k)) hm fun x => ?_
    rw [mem_ins, mem_del]
    constructor
    · rintro (rfl | h1)
      · exact h
      · exact h1.1
    · intro hx
      by_cases e : x.1 = o.k
      · left
        obtain ⟨a, b⟩ := x
        simp only at e
        subst e
        rw [srt_one hm hx h]
      · exact .inr ⟨hx, e⟩
def runs (m : List EnD) (ops : List Pr) : List EnD := ops.foldl (fun m o => o.does m) m
theorem runs_snoc (m : List EnD) (ops : List Pr) (o : Pr) : runs m (ops ++ [o]) = o.does (runs m ops) := by simp [runs, List.foldl_append]
theorem runs_srt : ∀ {ops : List Pr} {m : List EnD}, Srt m → Srt (runs m ops)
  | [], _, h => h
  | o :: ops, m, h => runs_srt (ops := ops) (m := o.does m) (o.srt h)
def Oks (m : List EnD) (ops : List Pr) : Prop := ∀ (i : Nat) (o : Pr), ops[i]? = some o → o.ok (runs m (ops.take i))
theorem Oks.nil (m : List EnD) : Oks m [] := fun i o h => by simp at h
theorem Oks.snoc {m : List EnD} {ops : List Pr} {o : Pr} (h : Oks m ops) (ho : o.ok (runs m ops)) : Oks m (ops ++ [o]) := by
  intro i p hp
  by_cases hi : i < ops.length
  · rw [List.getElem?_append_left hi] at hp
    rw [List.take_append_of_le_length (by omega)]
    exact h i p hp
  · rw [List.getElem?_append_right (by omega)] at hp
    have hz : i - ops.length = 0 := by
      have := (List.getElem?_eq_some_iff.1 hp).1
      simp at this
      omega
    rw [hz] at hp
    simp only [List.getElem?_cons_zero, Option.some.injEq] at hp
    subst hp
    have hi' : i = ops.length := by omega
    subst hi'
    rw [List.take_append_of_le_length (Nat.le_refl _), List.take_length]
    exact ho
theorem Oks.take {m : List EnD} {ops : List Pr} (h : Oks m ops) (n : Nat) : Oks m (ops.take n) := by
  intro i o ho
  rw [List.getElem?_take] at ho
  split at ho
  · rw [List.take_take, Nat.min_eq_left (by omega)]
    exact h i o ho
  · cases ho
theorem runs_back {m : List EnD} {ops : List Pr} (hm : Srt m) (h : Oks m ops) {i : Nat} {o : Pr} (ho : ops[i]? = some o) : o.undoes (runs m (ops.take (i + 1))) = runs m (ops.take i) := by
  rw [List.take_add_one, ho]
  show o.undoes (runs m (ops.take i ++ [o])) = _
  rw [runs_snoc]
  exact Pr.back (runs_srt hm) (h i o ho)
structure St where
  dur : List EnD
  ops : List Pr
def St.now (s : St) : List EnD := runs s.dur s.ops
structure St.Ok (s : St) : Prop where
  srt : Srt s.dur
  oks : Oks s.dur s.ops
def St.new : St := ⟨[], []⟩
theorem St.new_ok : St.new.Ok := ⟨List.Pairwise.nil, Oks.nil _⟩
def St.addE (s : St) (k : List UInt8) (v : Int) : St := ⟨s.dur, s.ops ++ [⟨true, k, v⟩]⟩
def St.rem (s : St) (k : List UInt8) (v : Int) : St := ⟨s.dur, s.ops ++ [⟨false, k, v⟩]⟩
def St.sync (s : St) : St := ⟨s.now, []⟩
def stay (n : Nat) (keep : Int) : Nat := (min (max keep 0) (n : Int)).toNat
def St.fail (s : St) (keep : Int) : St := ⟨runs s.dur (s.ops.take (stay s.ops.length keep)), []⟩
theorem St.Ok.now {s : St} (h : s.Ok) : Srt s.now := runs_srt h.srt
theorem St.Ok.addE {s : St} (h : s.Ok) {k : List UInt8} (v : Int) (hk : hasE s.now k = false) : (s.addE k v).Ok := ⟨h.srt, h.oks.snoc (o := ⟨true, k, v⟩) hk⟩
theorem St.Ok.rem {s : St} (h : s.Ok) {k : List UInt8} {v : Int} (hk : getE s.now k = some v) : (s.rem k v).Ok := ⟨h.srt, h.oks.snoc (o := ⟨false, k, v⟩) (getE_some hk)⟩
theorem St.Ok.sync {s : St} (h : s.Ok) : s.sync.Ok := ⟨h.now, Oks.nil _⟩
theorem St.Ok.fail {s : St} (h : s.Ok) (keep : Int) : (s.fail keep).Ok := ⟨runs_srt h.srt, Oks.nil _⟩
theorem St.now_add {s : St} {k : List UInt8} {v : Int} (hk : hasE s.now k = false) : (s.addE k v).now = insE (k, v) s.now := by
  show runs s.dur (s.ops ++ [_]) = _
  rw [runs_snoc]
  show putE (runs s.dur s.ops) (k, v) = _
  exact put_new hk
theorem St.now_rem {s : St} {k : List UInt8} {v : Int} : (s.rem k v).now = delE s.now k := by
  show runs s.dur (s.ops ++ [_]) = _
  rw [runs_snoc]
  rfl
theorem St.now_sync {s : St} : s.sync.now = s.now := rfl
theorem stay_le (n : Nat) (keep : Int) : stay n keep ≤ n := by unfold stay; omega
section
variable {H : Type}
def enD (e : EnD) : Lit × DataW H := (.string e.1, .lit (.int .i64 e.2))
def mapD (m : List EnD) : DataW H := .map (m.map enD)
theorem insert_enD (x : EnD) : ∀ m : List EnD, DataW.insert (enD (H := H) x) (m.map enD) = (insE x m).map enD
  | [] => rfl
  | y :: r => by
    rw [List.map_cons]
    unfold DataW.insert insE
    have e : (enD (H := H) x).1.before (enD (H := H) y).1 = blt x.1 y.1 := rfl
    rw [e]
    cases h : blt x.1 y.1
    · simp only [Bool.false_eq_true, if_false, List.map_cons]
      rw [insert_enD x r]
    · simp only [if_true, List.map_cons]
theorem filter_enD (m : List EnD) (k : List UInt8) : ((m.map (enD (H := H))).filter fun p => !p.1.sameKey (.string k)) = (delE m k).map enD := by
  unfold delE
  rw [List.filter_map]
  congr 1
theorem mapD_put (m : List EnD) (x : EnD) : (mapD (H := H) m).put (.string x.1) (.lit (.int .i64 x.2)) = mapD (putE m x) := by
  show DataW.map (DataW.insert (enD x) ((m.map enD).filter fun p => !p.1.sameKey (.string x.1))) = _
  rw [filter_enD, insert_enD]
  rfl
theorem mapD_del (m : List EnD) (k : List UInt8) : (mapD (H := H) m).del (.string k) = mapD (delE m k) := by
  show DataW.map ((m.map enD).filter fun p => !p.1.sameKey (.string k)) = _
  rw [filter_enD]
  rfl
theorem mapD_has (m : List EnD) (k : List UInt8) : Maps.has (mapD (H := H) m) (.string k) = hasE m k := by
  show (m.map enD).any (fun p => p.1.sameKey (.string k)) = _
  rw [List.any_map]
  rfl
theorem mapD_size (m : List EnD) : Maps.size (mapD (H := H) m) = m.length := by
  show (m.map enD).length = _
  simp
theorem mapD_at (m : List EnD) (k : List UInt8) (z : Int) : (mapD (H := H) m).atKey (.string k) (.lit (.int .i64 z)) = .lit (.int .i64 ((getE m k).getD z)) := by
  unfold DataW.atKey mapD getE
  simp only [List.find?_map]
  have e : ((fun p : Lit × DataW H => p.1.sameKey (.string k)) ∘ enD) = fun e : EnD => e.1 == k := rfl
  rw [e]
  cases m.find? (fun e : EnD => e.1 == k) <;> rfl
end
end Go.Proofs.YtbhmnmmockmibaaGreat

namespace Go.Proofs.YtbhmnmmockmibaaGreat
open Go.RowKit Go.Maps
def enCD (e : EnD) : List Value := [.string (txt e.1), .int .i64 e.2]
def ecellsD (l : List EnD) : List Value := l.flatMap enCD
theorem ecells_lenD (l : List EnD) : (ecellsD l).length = l.length * 2 := by
  induction l with
  | nil => rfl
  | cons f l ih =>
    unfold ecellsD at ih ⊢
    rw [List.flatMap_cons, List.length_append, ih, List.length_cons]
    simp [enCD]
    omega
theorem ecells_appendD (a b : List EnD) : ecellsD (a ++ b) = ecellsD a ++ ecellsD b := by simp [ecellsD]
theorem ecells_splitD {l : List EnD} {k : Nat} {e : EnD} (h : l[k]? = some e) : ecellsD l = ecellsD (l.take k) ++ (enCD e ++ ecellsD (l.drop (k + 1))) ∧ (ecellsD (l.take k)).length = k * 2 := by
  obtain ⟨hk, e'⟩ := List.getElem?_eq_some_iff.1 h
  constructor
  · conv => lhs; rw [← List.take_append_drop k l, List.drop_eq_getElem_cons hk, e']
    rw [ecells_appendD]
    rfl
  · rw [ecells_lenD, List.length_take]
    congr 1
    omega
theorem ecells_getD {l : List EnD} {k : Nat} {e : EnD} (h : l[k]? = some e) : (ecellsD l)[k * 2]? = some (.string (txt e.1)) ∧ (ecellsD l)[k * 2 + 1]? = some (.int .i64 e.2) := by
  obtain ⟨hs, hl⟩ := ecells_splitD h
  rw [hs]
  constructor
  · rw [List.getElem?_append_right (by omega), hl, Nat.sub_self]; rfl
  · rw [List.getElem?_append_right (by omega), hl, show k * 2 + 1 - k * 2 = 1 by omega]; rfl
theorem ecells_oneD (l : List EnD) : ∀ u ∈ ecellsD l, u.oneCell' = true := by
  intro u hu
  unfold ecellsD at hu
  rw [List.mem_flatMap] at hu
  obtain ⟨p, _, hu⟩ := hu
  simp only [enCD, List.mem_cons, List.not_mem_nil, or_false] at hu
  rcases hu with rfl | rfl <;> rfl
abbrev EnXD (w : World) (X : Nat → Prop) (A : Option Addr) (l : List EnD) : Prop := RdX w X 2 A l.length (ecellsD l)
theorem EnXD.at_ {w : World} {X : Nat → Prop} {A : Option Addr} {l : List EnD} {k : Nat} (h : EnXD w X A l) (hk : k < l.length) :
    ∃ (ad : Addr) (e : EnD), A = some ad ∧ ad.block < w.heap.size ∧ ¬ X ad.block ∧ w.cell? (ad.add (k * 2)) = some (.string (txt e.1)) ∧ w.cell? ⟨(ad.add (k * 2)).block, (ad.add (k * 2)).off + 1, none⟩ = some (.int .i64 e.2) ∧ Hid (l[k]? = some e) := by
  obtain ⟨ad, e, hb, hx, hc⟩ := h.2 (by omega)
  have hr : l[k]? = some l[k] := List.getElem?_eq_getElem hk
  obtain ⟨h1, h2⟩ := ecells_getD hr
  exact ⟨ad, _, e, hb, hx, hc _ _ h1, by rw [← padd_next]; exact hc _ _ h2, hr⟩
def prC (o : Pr) : List Value := [.bool o.add, .string (txt o.k), .int .i64 o.v]
def prV (o : Pr) : Value := .agg #[.bool o.add, .string (txt o.k), .int .i64 o.v]
def prcells (l : List Pr) : List Value := l.flatMap prC
theorem prcells_len (l : List Pr) : (prcells l).length = l.length * 3 := by
  induction l with
  | nil => rfl
  | cons f l ih =>
    unfold prcells at ih ⊢
    rw [List.flatMap_cons, List.length_append, ih, List.length_cons]
    simp [prC]
    omega
theorem prcells_append (a b : List Pr) : prcells (a ++ b) = prcells a ++ prcells b := by simp [prcells]
theorem prcells_split {l : List Pr} {k : Nat} {e : Pr} (h : l[k]? = some e) : prcells l = prcells (l.take k) ++ (prC e ++ prcells (l.drop (k + 1))) ∧ (prcells (l.take k)).length = k * 3 := by
  obtain ⟨hk, e'⟩ := List.getElem?_eq_some_iff.1 h
  constructor
  · conv => lhs; rw [← List.take_append_drop k l, List.drop_eq_getElem_cons hk, e']
    rw [prcells_append]
    rfl
  · rw [prcells_len, List.length_take]
    congr 1
    omega
theorem prcells_get {l : List Pr} {k j : Nat} {e : Pr} (h : l[k]? = some e) (hj : j < 3) : (prcells l)[k * 3 + j]? = (prC e)[j]? := by
  obtain ⟨hs, hl⟩ := prcells_split h
  rw [hs, List.getElem?_append_right (by omega), hl, List.getElem?_append_left (by show _ < 3; omega)]
  congr 1
  omega
theorem prcells_one (l : List Pr) : ∀ u ∈ prcells l, u.oneCell' = true := by
  intro u hu
  unfold prcells at hu
  rw [List.mem_flatMap] at hu
  obtain ⟨p, _, hu⟩ := hu
  simp only [prC, List.mem_cons, List.not_mem_nil, or_false] at hu
  rcases hu with rfl | rfl | rfl <;> rfl
abbrev PrX (w : World) (X : Nat → Prop) (A : Option Addr) (l : List Pr) : Prop := RdX w X 3 A l.length (prcells l)
theorem PrX.at_ {w : World} {X : Nat → Prop} {A : Option Addr} {l : List Pr} {k : Nat} (h : PrX w X A l) (hk : k < l.length) :
    ∃ (ad : Addr) (o : Pr), A = some ad ∧ ad.block < w.heap.size ∧ ¬ X ad.block ∧ w.cell? (ad.add (k * 3)) = some (.bool o.add) ∧ w.cell? ⟨(ad.add (k * 3)).block, (ad.add (k * 3)).off + 1, none⟩ = some (.string (txt o.k)) ∧
      w.cell? ⟨(ad.add (k * 3)).block, (ad.add (k * 3)).off + 2, none⟩ = some (.int .i64 o.v) ∧ Hid (l[k]? = some o) := by
  obtain ⟨ad, e, hb, hx, hc⟩ := h.2 (by omega)
  have hr : l[k]? = some l[k] := List.getElem?_eq_getElem hk
  have h0 := prcells_get hr (j := 0) (by omega)
  have h1 := prcells_get hr (j := 1) (by omega)
  have h2 := prcells_get hr (j := 2) (by omega)
  refine ⟨ad, _, e, hb, hx, hc _ _ h0, ?_, ?_, hr⟩
  · rw [← padd_next]; exact hc _ _ h1
  · have e2 : (⟨(ad.add (k * 3)).block, (ad.add (k * 3)).off + 2, none⟩ : Addr) = ad.add (k * 3 + 2) := by
      rw [padd_next ad (k * 3 + 1), padd_next ad (k * 3)]
    rw [e2]
    exact hc _ _ h2
structure RefV (w : World) (X : Nat → Prop) (v : Value) (s : St) : Prop where
  v : ∃ A c A' c', v = .agg #[.slice A s.dur.length c, .slice A' s.ops.length c'] ∧ EnXD w X A s.dur ∧ PrX w X A' s.ops
theorem RefV.keep {w w' : World} {X : Nat → Prop} {v : Value} {s : St} (h : RefV w X v s) (ht : Touch X w w') : RefV w' X v s := by
  obtain ⟨A, c, A', c', e, h1, h2⟩ := h.v
  exact ⟨A, c, A', c', e, h1.keep ht, h2.keep ht⟩
theorem RefV.below {w w' : World} {X : Nat → Prop} {v : Value} {s : St} (h : RefV w X v s) (ht : Below w.heap.size w w') : RefV w' X v s := h.keep (.of ht)
theorem RefV.mono {w : World} {X Y : Nat → Prop} {v : Value} {s : St} (h : RefV w X v s) (hx : ∀ b, b < w.heap.size → Y b → X b) : RefV w Y v s := by
  obtain ⟨A, c, A', c', e, h1, h2⟩ := h.v
  exact ⟨A, c, A', c', e, h1.mono hx, h2.mono hx⟩
theorem RefV.new (w : World) (X : Nat → Prop) : RefV w X (.agg #[.slice none 0 0, .slice none 0 0]) St.new := ⟨none, 0, none, 0, rfl, RdX.none_, RdX.none_⟩
structure SzD (e : EnD) : Prop where
  k : e.1.length ≤ 1000
  v : -9223372036854775808 ≤ e.2 ∧ e.2 ≤ 9223372036854775807
theorem SzD.wf {e : EnD} (h : SzD e) : (Lit.int .i64 e.2).wf = true := by
  have := h.v
  simp [Lit.wf, IntKind.min, IntKind.max, IntKind.signed, IntKind.bits]
  omega
structure Good (s : St) (N : Nat) : Prop where
  ok : s.Ok
  n : s.dur.length + s.ops.length ≤ N
  d : ∀ e ∈ s.dur, SzD e
  o : ∀ o ∈ s.ops, SzD (o.k, o.v)
theorem runs_len : ∀ (ops : List Pr) (m : List EnD), (runs m ops).length ≤ m.length + ops.length
  | [], m => by simp [runs]
  | o :: ops, m => by
    have h := runs_len ops (o.does m)
    have h2 : (o.does m).length ≤ m.length + 1 := by
      unfold Pr.does putE
      split
      · rw [ins_len]
        have := del_len m o.k
        show (delE m o.k).length + 1 ≤ _
        omega
      · have := del_len m o.k
        omega
    show (runs (o.does m) ops).length ≤ _
    rw [List.length_cons]
    omega
theorem runs_mem {e : EnD} : ∀ {ops : List Pr} {m : List EnD}, e ∈ runs m ops → e ∈ m ∨ ∃ o ∈ ops, e = (o.k, o.v)
  | [], m, h => .inl h
  | o :: ops, m, h => by
    rcases runs_mem (ops := ops) (m := o.does m) h with h | ⟨p, hp, h⟩
    · unfold Pr.does putE at h
      split at h
      · rw [mem_ins, mem_del] at h
        rcases h with h | h
        · exact .inr ⟨o, by simp, h⟩
        · exact .inl h.1
      · exact .inl (mem_del.1 h).1
    · exact .inr ⟨p, by simp [hp], h⟩
theorem Good.runs {s : St} {N : Nat} (h : Good s N) (n : Nat) : (runs s.dur (s.ops.take n)).length ≤ N ∧ ∀ e ∈ runs s.dur (s.ops.take n), SzD e := by
  constructor
  · have h1 := runs_len (s.ops.take n) s.dur
    rw [List.length_take] at h1
    have := h.n
    omega
  · intro e he
    rcases runs_mem he with h' | ⟨o, ho, rfl⟩
    · exact h.d e h'
    · exact h.o o (List.mem_of_mem_take ho)
theorem Good.now {s : St} {N : Nat} (h : Good s N) : s.now.length ≤ N ∧ ∀ e ∈ s.now, SzD e := by
  have := h.runs s.ops.length
  rw [List.take_length] at this
  exact this
theorem Good.new (N : Nat) : Good St.new N := ⟨St.new_ok, by simp [St.new], by simp [St.new], by simp [St.new]⟩
theorem Good.more {s : St} {N M : Nat} (h : Good s N) (hN : N ≤ M) : Good s M := ⟨h.ok, Nat.le_trans h.n hN, h.d, h.o⟩
theorem Good.snoc {s : St} {N : Nat} {o : Pr} (h : Good s N) (ho : o.ok s.now) (hs : SzD (o.k, o.v)) : Good ⟨s.dur, s.ops ++ [o]⟩ (N + 1) := by
  refine ⟨⟨h.ok.srt, h.ok.oks.snoc ho⟩, ?_, h.d, fun p hp => ?_⟩
  · have := h.n
    show s.dur.length + (s.ops ++ [o]).length ≤ _
    rw [List.length_append, List.length_singleton]
    omega
  · rcases List.mem_append.1 hp with hp | hp
    · exact h.o p hp
    · rw [List.mem_singleton] at hp; rw [hp]; exact hs
theorem Good.sync {s : St} {N : Nat} (h : Good s N) : Good s.sync N := ⟨h.ok.sync, by show s.now.length + 0 ≤ N; exact h.now.1, h.now.2, by simp [St.sync]⟩
theorem Good.fail {s : St} {N : Nat} (h : Good s N) (keep : Int) : Good (s.fail keep) N :=
  ⟨h.ok.fail keep, by show (Proofs.YtbhmnmmockmibaaGreat.runs s.dur (s.ops.take _)).length + 0 ≤ N; exact (h.runs _).1, (h.runs _).2, by simp [St.fail]⟩
structure Pn where
  o : Pr
  bi : Nat
  bo : Nat
def Pn.fa (p : Pn) : Value := .func (.func 155) #[] #[.pointer (some ⟨p.bi, 0, none⟩), .pointer (some ⟨p.bo, 0, none⟩)]
def Pn.fd (p : Pn) : Value := .func (.func 156) #[] #[.pointer (some ⟨p.bo, 0, none⟩)]
def Pn.f (p : Pn) (b : Bool) : Value := if b then p.fa else p.fd
def Pn.cs (p : Pn) : List Value := [p.f p.o.add, p.f (!p.o.add)]
def Pn.v (p : Pn) : Value := .agg #[p.f p.o.add, p.f (!p.o.add)]
def pncells (l : List Pn) : List Value := l.flatMap Pn.cs
theorem pncells_len (l : List Pn) : (pncells l).length = l.length * 2 := by
  induction l with
  | nil => rfl
  | cons f l ih =>
    unfold pncells at ih ⊢
    rw [List.flatMap_cons, List.length_append, ih, List.length_cons]
    simp [Pn.cs]
    omega
theorem pncells_append (a b : List Pn) : pncells (a ++ b) = pncells a ++ pncells b := by simp [pncells]
theorem pncells_split {l : List Pn} {k : Nat} {e : Pn} (h : l[k]? = some e) : pncells l = pncells (l.take k) ++ (e.cs ++ pncells (l.drop (k + 1))) ∧ (pncells (l.take k)).length = k * 2 := by
  obtain ⟨hk, e'⟩ := List.getElem?_eq_some_iff.1 h
  constructor
  · conv => lhs; rw [← List.take_append_drop k l, List.drop_eq_getElem_cons hk, e']
    rw [pncells_append]
    rfl
  · rw [pncells_len, List.length_take]
    congr 1
    omega
theorem pncells_get {l : List Pn} {k : Nat} {e : Pn} (h : l[k]? = some e) : (pncells l)[k * 2]? = some (e.f e.o.add) ∧ (pncells l)[k * 2 + 1]? = some (e.f (!e.o.add)) := by
  obtain ⟨hs, hl⟩ := pncells_split h
  rw [hs]
  constructor
  · rw [List.getElem?_append_right (by omega), hl, Nat.sub_self]; rfl
  · rw [List.getElem?_append_right (by omega), hl, show k * 2 + 1 - k * 2 = 1 by omega]; rfl
theorem Pn.f_one (p : Pn) (b : Bool) : (p.f b).oneCell' = true := by cases b <;> rfl
theorem pncells_one (l : List Pn) : ∀ u ∈ pncells l, u.oneCell' = true := by
  intro u hu
  unfold pncells at hu
  rw [List.mem_flatMap] at hu
  obtain ⟨p, _, hu⟩ := hu
  simp only [Pn.cs, List.mem_cons, List.not_mem_nil, or_false] at hu
  rcases hu with rfl | rfl <;> exact p.f_one _
structure PnAt (w : World) (X : Nat → Prop) (p : Pn) : Prop where
  name : w.heap[p.bo]? = some (.cells #[.string (txt p.o.k)] 9 (0, 0))
  num : w.heap[p.bi]? = some (.cells #[.int .i64 p.o.v] 3 (0, 0))
  xo : ¬ X p.bo
  xi : ¬ X p.bi
theorem PnAt.keep {w w' : World} {X : Nat → Prop} {p : Pn} (h : PnAt w X p) (ht : Touch X w w') : PnAt w' X p := ⟨ht.heap h.xo h.name, ht.heap h.xi h.num, h.xo, h.xi⟩
theorem PnAt.mono {w : World} {X Y : Nat → Prop} {p : Pn} (h : PnAt w X p) (hx : ∀ b, b < w.heap.size → Y b → X b) : PnAt w Y p :=
  ⟨h.name, h.num, fun e => h.xo (hx _ (Array.getElem?_eq_some_iff.1 h.name).1 e), fun e => h.xi (hx _ (Array.getElem?_eq_some_iff.1 h.num).1 e)⟩
def Same (w : World) (c c' : Nat → Nat) : Prop := ∀ b, b < w.heap.size → c' b = c b
theorem Same.refl (w : World) (c : Nat → Nat) : Same w c c := fun _ _ => rfl
theorem Same.trans {w w' : World} {c c' c'' : Nat → Nat} (h : Same w c c') (k : Same w' c' c'') (hs : w.heap.size ≤ w'.heap.size) : Same w c c'' := fun b hb => (k b (by omega)).trans (h b hb)
def ext (w : World) (c : Nat → Nat) (i : Nat) : Nat → Nat := fun b => if b < w.heap.size then c b else i
theorem ext_same (w : World) (c : Nat → Nat) (i : Nat) : Same w c (ext w c i) := fun _ hb => if_pos hb
theorem ext_new (w : World) (c : Nat → Nat) (i : Nat) {b : Nat} (hb : w.heap.size ≤ b) : ext w c i b = i := if_neg (by omega)
abbrev Ow (c : Nat → Nat) (i : Nat) : Nat → Prop := fun b => c b = i
abbrev Mu (c : Nat → Nat) : Nat → Prop := fun b => c b ≠ 0
def NamesV (w : World) (c : Nat → Nat) (i : Nat) (v : Value) (m : List EnD) : Prop :=
  (v = .map none ∧ m = []) ∨ ∃ b, v = .map (some b) ∧ c b = i ∧ w.ownsMap (H := Unit) Tryz.prog 9 (plainElem Tryz.prog 3) b m.length (mapD m)
def PendV (w : World) (c : Nat → Nat) (i g : Nat) (v : Value) (ops : List Pr) : Prop :=
  ∃ ps : List Pn, ps.map Pn.o = ops ∧ w.ownsRow 0 171 2 v ps.length (pncells ps) ∧ (∀ r, v.ownBlock = some r → c r = i ∧ r ≠ g) ∧ ∀ p ∈ ps, PnAt w (Mu c) p
structure DirAt (w : World) (c : Nat → Nat) (i g : Nat) (zz : Rs) (s : St) : Prop where
  col : c g = i
  ne : ∀ pv, w.heap[g]? = some (.cells #[.map none, pv, zz.m, zz.n, zz.tk, zz.q, zz.k, zz.mp] 84 (0, 0)) → s.ops = []
  v : ∃ mv pv, w.heap[g]? = some (.cells #[mv, pv, zz.m, zz.n, zz.tk, zz.q, zz.k, zz.mp] 84 (0, 0)) ∧ NamesV w c i mv s.now ∧ PendV w c i g pv s.ops
section
variable {H : Type} {P : Program} {k : TypeId} {R : Value → Option (DataW H × List MemPlace)} {w w' : World} {b n : Nat} {D : DataW H}
theorem owns_sizeD (h : w.ownsMap P k R b n D) : w.ownsMap P k R b (Maps.size D) D := by
  obtain ⟨es, clock, hb, F, _, rfl⟩ := h
  exact ⟨es, clock, hb, F, by simp [Maps.size, length_sorted], rfl⟩
theorem owns_touchD {X : Nat → Prop} (h : w.ownsMap P k R b n D) (ht : Touch X w w') (hx : ¬ X b) : w'.ownsMap P k R b n D := by
  obtain ⟨es, clock, hb, F, hs, rfl⟩ := h
  exact ⟨es, clock, ht.heap hx hb, F, hs, rfl⟩
end
section
variable {w w' : World} {c c' : Nat → Nat} {i j g : Nat} {v : Value} {m : List EnD} {ops : List Pr} {zz : Rs} {s : St} {X : Nat → Prop}
theorem owns_names {b n : Nat} (h : w.ownsMap (H := Unit) Tryz.prog 9 (plainElem Tryz.prog 3) b n (mapD m)) : w.ownsMap (H := Unit) Tryz.prog 9 (plainElem Tryz.prog 3) b m.length (mapD m) := by
  have := owns_sizeD h
  rwa [mapD_size] at this
theorem NamesV.keep (h : NamesV w c i v m) (ht : Touch X w w') (hx : ∀ b, X b → c b ≠ i) (hs : Same w c c') : NamesV w' c' i v m := by
  rcases h with h | ⟨b, hv, hb, ho⟩
  · exact .inl h
  · exact .inr ⟨b, hv, (hs b ho.lt).trans hb, owns_touchD ho ht fun e => hx b e hb⟩
theorem PnAt.keepC {p : Pn} (h : PnAt w (Mu c) p) (ht : Touch X w w') (hx : ∀ b, X b → c b ≠ 0) (hs : Same w c c') : PnAt w' (Mu c') p := by
  obtain ⟨h1, h2, h3, h4⟩ := h
  have l1 := (Array.getElem?_eq_some_iff.1 h1).1
  have l2 := (Array.getElem?_eq_some_iff.1 h2).1
  have h3' : c p.bo = 0 := Classical.not_not.1 h3
  have h4' : c p.bi = 0 := Classical.not_not.1 h4
  refine ⟨ht.heap (fun e => (hx _ e) h3') h1, ht.heap (fun e => (hx _ e) h4') h2, fun e => e ?_, fun e => e ?_⟩
  · rw [hs _ l1]; exact h3'
  · rw [hs _ l2]; exact h4'
theorem own_cells {base : Nat} {e : TypeId} {size n r : Nat} {xs : List Value} (h : w.ownsRow base e size v n xs) (hr : v.ownBlock = some r) : ∃ cs t fr, w.heap[r]? = some (.cells cs t fr) := by
  rcases h.2 with ⟨rfl, _⟩ | ⟨r', cap, cur, rfl, _, hg, _⟩
  · cases hr
  · injection hr with hr
    subst hr
    exact ⟨_, _, _, hg⟩
theorem PendV.keep (h : PendV w c i g v ops) (ht : Touch X w w') (hx1 : ∀ r cs t fr, w.heap[r]? = some (.cells cs t fr) → c r = i → r ≠ g → ¬ X r) (hx2 : ∀ b, X b → c b ≠ 0) (hs : Same w c c') : PendV w' c' i g v ops := by
  obtain ⟨ps, e, ho, hr, hp⟩ := h
  refine ⟨ps, e, own_touch ho ht fun b hb => ?_, fun r hv => ?_, fun p hq => (hp p hq).keepC ht hx2 hs⟩
  · obtain ⟨cs, t, fr, hh⟩ := own_cells ho hb
    exact hx1 b cs t fr hh (hr b hb).1 (hr b hb).2
  · obtain ⟨h1, h2⟩ := hr r hv
    exact ⟨(hs r (ho.lt r hv).2).trans h1, h2⟩
theorem DirAt.lt (h : DirAt w c i g zz s) : g < w.heap.size := by
  obtain ⟨mv, pv, hg, _⟩ := h.v
  exact (Array.getElem?_eq_some_iff.1 hg).1
theorem DirAt.keep (h : DirAt w c i g zz s) (ht : Touch X w w') (hx : ∀ b, X b → c b ≠ i ∧ c b ≠ 0) (hs : Same w c c') : DirAt w' c' i g zz s := by
  obtain ⟨mv, pv, hg, hm, hp⟩ := h.v
  have hg' := ht.heap (fun e => (hx g e).1 h.col) hg
  refine ⟨(hs g h.lt).trans h.col, fun pv' h' => h.ne pv' ?_, mv, pv, ht.heap (fun e => (hx g e).1 h.col) hg, hm.keep ht (fun b e => (hx b e).1) hs, hp.keep ht (fun r _ _ _ _ hc _ e => (hx r e).1 hc) (fun b e => (hx b e).2) hs⟩
  rw [hg'] at h'
  rw [hg, h']
theorem DirAt.other (h : DirAt w c i g zz s) (hj : j ≠ 0) (hij : i ≠ j) (ht : Touch (Ow c j) w w') (hs : Same w c c') : DirAt w' c' i g zz s :=
  h.keep ht (fun b e => by have e' : c b = j := e; rw [e']; exact ⟨fun h => hij h.symm, hj⟩) hs
theorem DirAt.below (h : DirAt w c i g zz s) (ht : Below w.heap.size w w') : DirAt w' c i g zz s :=
  h.keep (Touch.of (X := fun _ => False) ht) (fun _ e => e.elim) (Same.refl _ _)
theorem DirAt.belowS (h : DirAt w c i g zz s) (ht : Below w.heap.size w w') (hs : Same w c c') : DirAt w' c' i g zz s :=
  h.keep (Touch.of (X := fun _ => False) ht) (fun _ e => e.elim) hs
theorem RdX.other {size n : Nat} {A : Option Addr} {xs : List Value} (h : RdX w (Mu c) size A n xs) (hj : j ≠ 0) (ht : Touch (Ow c j) w w') (hs : Same w c c') : RdX w' (Mu c') size A n xs := by
  have h2 := (h.mono (Y := Ow c j) fun b _ e => by have e' : c b = j := e; show c b ≠ 0; rw [e']; exact hj).keep ht
  refine ⟨h.1, fun hn => ?_⟩
  obtain ⟨ad, e, hb, hx, hc⟩ := h.2 hn
  obtain ⟨ad', e', hb', _, hc'⟩ := h2.2 hn
  rw [e] at e'
  injection e' with e'
  subst e'
  exact ⟨ad, e, hb', fun h' => hx (by show c ad.block ≠ 0; rw [← hs _ hb]; exact h'), hc'⟩
theorem RdX.belowS {size n : Nat} {A : Option Addr} {xs : List Value} (h : RdX w (Mu c) size A n xs) (ht : Below w.heap.size w w') (hs : Same w c c') : RdX w' (Mu c') size A n xs := by
  have h2 := h.below ht
  refine ⟨h.1, fun hn => ?_⟩
  obtain ⟨ad, e, hb, hx, hc⟩ := h.2 hn
  obtain ⟨ad', e', hb', _, hc'⟩ := h2.2 hn
  rw [e] at e'
  injection e' with e'
  subst e'
  exact ⟨ad, e, hb', fun h' => hx (by show c ad.block ≠ 0; rw [← hs _ hb]; exact h'), hc'⟩
theorem RefV.other (h : RefV w (Mu c) v s) (hj : j ≠ 0) (ht : Touch (Ow c j) w w') (hs : Same w c c') : RefV w' (Mu c') v s := by
  obtain ⟨A, n, A', n', e, h1, h2⟩ := h.v
  exact ⟨A, n, A', n', e, h1.other hj ht hs, h2.other hj ht hs⟩
theorem RefV.belowS (h : RefV w (Mu c) v s) (ht : Below w.heap.size w w') (hs : Same w c c') : RefV w' (Mu c') v s := by
  obtain ⟨A, n, A', n', e, h1, h2⟩ := h.v
  exact ⟨A, n, A', n', e, h1.belowS ht hs, h2.belowS ht hs⟩
theorem RefV.free (h : RefV w' (fun b => b < w.heap.size ∧ c b ≠ 0) v s) : RefV w' (Mu (ext w c 0)) v s := by
  refine h.mono fun b _ e => ?_
  by_cases hb : b < w.heap.size
  · exact ⟨hb, by have e' : ext w c 0 b ≠ 0 := e; rw [ext_same w c 0 b hb] at e'; exact e'⟩
  · exact absurd (ext_new w c 0 (by omega)) e
end
end Go.Proofs.YtbhmnmmockmibaaGreat
