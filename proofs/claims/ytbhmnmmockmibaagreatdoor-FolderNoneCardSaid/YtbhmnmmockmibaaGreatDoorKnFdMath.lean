/- Directories as lists: names in the order of their bytes, operations, what is done and undone; a map that holds such a list. Conditions: none. -/
import Derived.Test.YtbhmnmmockmibaaGreatDoorKnFoMem
import Derived.Test.YtbhmnmmockmibaaGreatDoorKnTail
import Derived.Maps.Ext
import Derived.Maps.RangeWalk
import Derived.Sort.KeysCollected
import Derived.Lib.Bytealg
namespace Go.Proofs.YtbhmnmmockmibaaGreatDoor
open Go.RowKit Go.WideShapes
abbrev EnD := List UInt8 × Int
abbrev blt (a b : List UInt8) : Bool := bytesBefore a b
theorem blt_irrefl (a : List UInt8) : blt a a = false := WideAt.bytes_irrefl a
theorem blt_trans {a b c : List UInt8} (h : blt a b = true) (k : blt b c = true) : blt a c = true := WideShapes.bytes_trans a b c h k
theorem blt_total {a b : List UInt8} (h : a ≠ b) : blt a b = true ∨ blt b a = true := WideAt.bytes_total a b h
theorem blt_ne {a b : List UInt8} (h : blt a b = true) : a ≠ b := by rintro rfl; rw [blt_irrefl] at h; cases h
theorem blt_asymm {a b : List UInt8} (h : blt a b = true) : blt b a = false := by
  cases k : blt b a
  · rfl
  · have := blt_trans h k
    rw [blt_irrefl] at this
    cases this
theorem less_blt : ∀ (a b : List UInt8), Op.bytesLess a b = blt a b
  | [], [] => rfl
  | [], _ :: _ => rfl
  | _ :: _, [] => rfl
  | a :: x, b :: y => by
    unfold Op.bytesLess blt bytesBefore
    rw [less_blt x y]
/-- strings.Compare, by the order. -/
theorem cmp_lt : ∀ (a b : List UInt8), decide (Lib.compareBytes a b < 0) = blt a b
  | [], [] => rfl
  | [], _ :: _ => rfl
  | _ :: _, [] => rfl
  | a :: x, b :: y => by
    unfold Lib.compareBytes blt bytesBefore
    have ih := cmp_lt x y
    by_cases h1 : a < b
    · simp [h1]
    · by_cases h2 : b < a
      · have hne : (a == b) = false := by simp; rintro rfl; exact h1 h2
        simp [h1, h2, hne]
      · have he : a = b := by
          have := UInt8.not_lt.1 h1
          have := UInt8.not_lt.1 h2
          exact UInt8.le_antisymm this (by assumption)
        subst he
        simp only [h1, if_false, decide_false, Bool.false_or, beq_self_eq_true, Bool.true_and]
        exact ih
/-- In order, no name twice. -/
def Srt (m : List EnD) : Prop := m.Pairwise fun a b => blt a.1 b.1 = true
def insE (x : EnD) : List EnD → List EnD
  | [] => [x]
  | y :: r => if blt x.1 y.1 = true then x :: y :: r else y :: insE x r
def delE (m : List EnD) (k : List UInt8) : List EnD := m.filter fun e => !(e.1 == k)
def putE (m : List EnD) (x : EnD) : List EnD := insE x (delE m x.1)
def getE (m : List EnD) (k : List UInt8) : Option Int := (m.find? fun e => e.1 == k).map (·.2)
def hasE (m : List EnD) (k : List UInt8) : Bool := m.any fun e => e.1 == k
theorem mem_ins {x y : EnD} : ∀ {m : List EnD}, y ∈ insE x m ↔ y = x ∨ y ∈ m
  | [] => by simp [insE]
  | z :: r => by
    unfold insE
    split
    · simp
    · rw [List.mem_cons, mem_ins (m := r), List.mem_cons]
      constructor
      · rintro (h | h | h)
        · exact .inr (.inl h)
        · exact .inl h
        · exact .inr (.inr h)
      · rintro (h | h | h)
        · exact .inr (.inl h)
        · exact .inl h
        · exact .inr (.inr h)
theorem mem_del {y : EnD} {m : List EnD} {k : List UInt8} : y ∈ delE m k ↔ y ∈ m ∧ y.1 ≠ k := by
  unfold delE
  rw [List.mem_filter]
  simp
theorem hasE_iff {m : List EnD} {k : List UInt8} : hasE m k = true ↔ ∃ v, (k, v) ∈ m := by
  unfold hasE
  rw [List.any_eq_true]
  constructor
  · rintro ⟨⟨a, v⟩, h, e⟩
    have : a = k := by simpa using e
    subst this
    exact ⟨v, h⟩
  · rintro ⟨v, h⟩
    exact ⟨_, h, by simp⟩
theorem ins_len (x : EnD) : ∀ m : List EnD, (insE x m).length = m.length + 1
  | [] => rfl
  | y :: r => by
    unfold insE
    split
    · rfl
    · rw [List.length_cons, ins_len x r, List.length_cons]
theorem del_len (m : List EnD) (k : List UInt8) : (delE m k).length ≤ m.length := List.length_filter_le _ _
theorem Srt.ins {x : EnD} : ∀ {m : List EnD}, Srt m → hasE m x.1 = false → Srt (insE x m)
  | [], _, _ => List.pairwise_singleton _ _
  | y :: r, h, hx => by
    obtain ⟨h1, h2⟩ := List.pairwise_cons.1 h
    have hx' : hasE r x.1 = false := by
      unfold hasE at hx ⊢
      rw [List.any_cons, Bool.or_eq_false_iff] at hx
      exact hx.2
    have hne : y.1 ≠ x.1 := by
      intro e
      unfold hasE at hx
      rw [List.any_cons, e] at hx
      simp at hx
    unfold insE
    split
    · rename_i hb
      refine List.pairwise_cons.2 ⟨fun q hq => ?_, h⟩
      rcases List.mem_cons.1 hq with rfl | hq
      · exact hb
      · exact blt_trans hb (h1 q hq)
    · rename_i hb
      have hyx : blt y.1 x.1 = true := by
        rcases blt_total hne with h' | h'
        · exact h'
        · exact absurd h' hb
      refine List.pairwise_cons.2 ⟨fun q hq => ?_, Srt.ins h2 hx'⟩
      rcases mem_ins.1 hq with rfl | hq
      · exact hyx
      · exact h1 q hq
theorem Srt.del {m : List EnD} (h : Srt m) (k : List UInt8) : Srt (delE m k) := h.filter _
theorem has_del (m : List EnD) (k : List UInt8) : hasE (delE m k) k = false := by
  cases h : hasE (delE m k) k
  · rfl
  · obtain ⟨v, hv⟩ := hasE_iff.1 h
    exact absurd rfl (mem_del.1 hv).2
theorem Srt.put {m : List EnD} (h : Srt m) (x : EnD) : Srt (putE m x) := (h.del x.1).ins (has_del m x.1)
theorem del_none {m : List EnD} {k : List UInt8} (h : hasE m k = false) : delE m k = m := by
  unfold delE
  rw [List.filter_eq_self]
  intro e he
  cases hk : e.1 == k
  · rfl
  · unfold hasE at h
    rw [List.any_eq_false] at h
    exact absurd hk (h e he)
theorem put_new {m : List EnD} {x : EnD} (h : hasE m x.1 = false) : putE m x = insE x m := by
  unfold putE
  rw [del_none h]
theorem srt_ext {m l : List EnD} (hm : Srt m) (hl : Srt l) (h : ∀ x, x ∈ m ↔ x ∈ l) : m = l := by
  induction m generalizing l with
  | nil =>
    cases l with
    | nil => rfl
    | cons y s => have := (h y).2 (by simp); simp at this
  | cons x r ih =>
    cases l with
    | nil => have := (h x).1 (by simp); simp at this
    | cons y s =>
      obtain ⟨a1, a2⟩ := List.pairwise_cons.1 hm
      obtain ⟨b1, b2⟩ := List.pairwise_cons.1 hl
      have hxy : x = y := by
        rcases List.mem_cons.1 ((h x).1 (by simp)) with e | hx
        · exact e
        · rcases List.mem_cons.1 ((h y).2 (by simp)) with e | hy
          · exact e.symm
          · have := blt_trans (a1 y hy) (b1 x hx)
            rw [blt_irrefl] at this
            cases this
      subst hxy
      rw [ih a2 b2 fun z => ⟨fun hz => ?_, fun hz => ?_⟩]
      · rcases List.mem_cons.1 ((h z).1 (List.mem_cons_of_mem _ hz)) with e | hz'
        · have := a1 z hz
          rw [e, blt_irrefl] at this
          cases this
        · exact hz'
      · rcases List.mem_cons.1 ((h z).2 (List.mem_cons_of_mem _ hz)) with e | hz'
        · have := b1 z hz
          rw [e, blt_irrefl] at this
          cases this
        · exact hz'
theorem srt_one {m : List EnD} (h : Srt m) {k : List UInt8} {v v' : Int} (h1 : (k, v) ∈ m) (h2 : (k, v') ∈ m) : v = v' := by
  induction m with
  | nil => simp at h1
  | cons x r ih =>
    obtain ⟨a1, a2⟩ := List.pairwise_cons.1 h
    rcases List.mem_cons.1 h1 with e1 | h1'
    · rcases List.mem_cons.1 h2 with e2 | h2'
      · rw [← e1] at e2
        injection e2 with _ e2
        exact e2.symm
      · have := a1 _ h2'
        rw [← e1, blt_irrefl] at this
        cases this
    · rcases List.mem_cons.1 h2 with e2 | h2'
      · have := a1 _ h1'
        rw [← e2, blt_irrefl] at this
        cases this
      · exact ih a2 h1' h2'
theorem getE_some {m : List EnD} {k : List UInt8} {v : Int} (h : getE m k = some v) : (k, v) ∈ m := by
  unfold getE at h
  cases hf : m.find? fun e => e.1 == k with
  | none => rw [hf] at h; cases h
  | some p =>
    rw [hf] at h
    simp only [Option.map_some, Option.some.injEq] at h
    have h1 := List.mem_of_find?_eq_some hf
    have h2 : (p.1 == k) = true := List.find?_some (p := fun e : EnD => e.1 == k) hf
    have h3 : p.1 = k := by simpa using h2
    rw [← h, ← h3]
    exact h1
theorem getE_none {m : List EnD} {k : List UInt8} (h : getE m k = none) : hasE m k = false := by
  unfold getE at h
  rw [Option.map_eq_none_iff, List.find?_eq_none] at h
  unfold hasE
  rw [List.any_eq_false]
  exact h
theorem getE_has (m : List EnD) (k : List UInt8) : (getE m k).isSome = hasE m k := by
  cases h : getE m k with
  | none => exact (getE_none h).symm
  | some v => exact (hasE_iff.2 ⟨v, getE_some h⟩).symm
theorem getE_of {m : List EnD} (hm : Srt m) {k : List UInt8} {v : Int} (h : (k, v) ∈ m) : getE m k = some v := by
  cases hg : getE m k with
  | none => have := getE_none hg; rw [hasE_iff.2 ⟨v, h⟩] at this; cases this
  | some u => rw [srt_one hm (getE_some hg) h]
structure Pr where
  add : Bool
  k : List UInt8
  v : Int
def Pr.does (o : Pr) (m : List EnD) : List EnD := if o.add then putE m (o.k, o.v) else delE m o.k
def Pr.undoes (o : Pr) (m : List EnD) : List EnD := if o.add then delE m o.k else putE m (o.k, o.v)
/-- May it be done there? -/
def Pr.ok (o : Pr) (m : List EnD) : Prop := if o.add then hasE m o.k = false else (o.k, o.v) ∈ m
theorem Pr.srt (o : Pr) {m : List EnD} (h : Srt m) : Srt (o.does m) := by
  unfold Pr.does
  split
  · exact h.put _
  · exact h.del _
theorem Pr.back {o : Pr} {m : List EnD} (hm : Srt m) (h : o.ok m) : o.undoes (o.does m) = m := by
  unfold Pr.ok at h
  unfold Pr.undoes Pr.does
  cases ha : o.add with
  | true =>
    rw [ha] at h
    simp only [if_true] at h ⊢
    rw [put_new (x := (o.k, o.v)) h]
    refine srt_ext ((hm.ins h).del _) hm fun x => ?_
    rw [mem_del, mem_ins]
    constructor
    · rintro ⟨rfl | h1, h2⟩
      · exact absurd rfl h2
      · exact h1
    · intro hx
      refine ⟨.inr hx, fun e => ?_⟩
      have := hasE_iff.2 ⟨x.2, show (o.k, x.2) ∈ m by rw [← e]; exact hx⟩
      rw [h] at this
      cases this
  | false =>
    rw [ha] at h
    simp only [Bool.false_eq_true, if_false] at h ⊢
    rw [put_new (x := (o.k, o.v)) (has_del m o.k)]
    refine srt_ext ((hm.del _).ins (x := (o.k, o.v)) (has_del m o.k)) hm fun x => ?_
    rw [mem_ins, mem_del]
    constructor
    · rintro (rfl | h1)
      · exact h
      · exact h1.1
    · intro hx
      by_cases e : x.1 = o.k
      · left
        obtain ⟨a, b⟩ := x
        simp only at e
        subst e
        rw [srt_one hm hx h]
      · exact .inr ⟨hx, e⟩
def runs (m : List EnD) (ops : List Pr) : List EnD := ops.foldl (fun m o => o.does m) m
theorem runs_snoc (m : List EnD) (ops : List Pr) (o : Pr) : runs m (ops ++ [o]) = o.does (runs m ops) := by simp [runs, List.foldl_append]
theorem runs_srt : ∀ {ops : List Pr} {m : List EnD}, Srt m → Srt (runs m ops)
  | [], _, h => h
  | o :: ops, m, h => runs_srt (ops := ops) (m := o.does m) (o.srt h)
/-- Each might be done where it was. -/
def Oks (m : List EnD) (ops : List Pr) : Prop := ∀ (i : Nat) (o : Pr), ops[i]? = some o → o.ok (runs m (ops.take i))
theorem Oks.nil (m : List EnD) : Oks m [] := fun i o h => by simp at h
theorem Oks.snoc {m : List EnD} {ops : List Pr} {o : Pr} (h : Oks m ops) (ho : o.ok (runs m ops)) : Oks m (ops ++ [o]) := by
  intro i p hp
  by_cases hi : i < ops.length
  · rw [List.getElem?_append_left hi] at hp
    rw [List.take_append_of_le_length (by omega)]
    exact h i p hp
  · rw [List.getElem?_append_right (by omega)] at hp
    have hz : i - ops.length = 0 := by
      have := (List.getElem?_eq_some_iff.1 hp).1
      simp at this
      omega
    rw [hz] at hp
    simp only [List.getElem?_cons_zero, Option.some.injEq] at hp
    subst hp
    have hi' : i = ops.length := by omega
    subst hi'
    rw [List.take_append_of_le_length (Nat.le_refl _), List.take_length]
    exact ho
theorem Oks.take {m : List EnD} {ops : List Pr} (h : Oks m ops) (n : Nat) : Oks m (ops.take n) := by
  intro i o ho
  rw [List.getElem?_take] at ho
  split at ho
  · rw [List.take_take, Nat.min_eq_left (by omega)]
    exact h i o ho
  · cases ho
theorem runs_back {m : List EnD} {ops : List Pr} (hm : Srt m) (h : Oks m ops) {i : Nat} {o : Pr} (ho : ops[i]? = some o) : o.undoes (runs m (ops.take (i + 1))) = runs m (ops.take i) := by
  rw [List.take_add_one, ho]
  show o.undoes (runs m (ops.take i ++ [o])) = _
  rw [runs_snoc]
  exact Pr.back (runs_srt hm) (h i o ho)
structure St where
  dur : List EnD
  ops : List Pr
def St.now (s : St) : List EnD := runs s.dur s.ops
structure St.Ok (s : St) : Prop where
  srt : Srt s.dur
  oks : Oks s.dur s.ops
def St.new : St := ⟨[], []⟩
theorem St.new_ok : St.new.Ok := ⟨List.Pairwise.nil, Oks.nil _⟩
def St.addE (s : St) (k : List UInt8) (v : Int) : St := ⟨s.dur, s.ops ++ [⟨true, k, v⟩]⟩
def St.rem (s : St) (k : List UInt8) (v : Int) : St := ⟨s.dur, s.ops ++ [⟨false, k, v⟩]⟩
def St.sync (s : St) : St := ⟨s.now, []⟩
def stay (n : Nat) (keep : Int) : Nat := (min (max keep 0) (n : Int)).toNat
def St.fail (s : St) (keep : Int) : St := ⟨runs s.dur (s.ops.take (stay s.ops.length keep)), []⟩
theorem St.Ok.now {s : St} (h : s.Ok) : Srt s.now := runs_srt h.srt
theorem St.Ok.addE {s : St} (h : s.Ok) {k : List UInt8} (v : Int) (hk : hasE s.now k = false) : (s.addE k v).Ok := ⟨h.srt, h.oks.snoc (o := ⟨true, k, v⟩) hk⟩
theorem St.Ok.rem {s : St} (h : s.Ok) {k : List UInt8} {v : Int} (hk : getE s.now k = some v) : (s.rem k v).Ok := ⟨h.srt, h.oks.snoc (o := ⟨false, k, v⟩) (getE_some hk)⟩
theorem St.Ok.sync {s : St} (h : s.Ok) : s.sync.Ok := ⟨h.now, Oks.nil _⟩
theorem St.Ok.fail {s : St} (h : s.Ok) (keep : Int) : (s.fail keep).Ok := ⟨runs_srt h.srt, Oks.nil _⟩
theorem St.now_add {s : St} {k : List UInt8} {v : Int} (hk : hasE s.now k = false) : (s.addE k v).now = insE (k, v) s.now := by
  show runs s.dur (s.ops ++ [_]) = _
  rw [runs_snoc]
  show putE (runs s.dur s.ops) (k, v) = _
  exact put_new hk
theorem St.now_rem {s : St} {k : List UInt8} {v : Int} : (s.rem k v).now = delE s.now k := by
  show runs s.dur (s.ops ++ [_]) = _
  rw [runs_snoc]
  rfl
theorem St.now_sync {s : St} : s.sync.now = s.now := rfl
theorem stay_le (n : Nat) (keep : Int) : stay n keep ≤ n := by unfold stay; omega
section
variable {H : Type}
def enD (e : EnD) : Lit × DataW H := (.string e.1, .lit (.int .i64 e.2))
/-- What a map that holds these names reads as. -/
def mapD (m : List EnD) : DataW H := .map (m.map enD)
theorem insert_enD (x : EnD) : ∀ m : List EnD, DataW.insert (enD (H := H) x) (m.map enD) = (insE x m).map enD
  | [] => rfl
  | y :: r => by
    rw [List.map_cons]
    unfold DataW.insert insE
    have e : (enD (H := H) x).1.before (enD (H := H) y).1 = blt x.1 y.1 := rfl
    rw [e]
    cases h : blt x.1 y.1
    · simp only [Bool.false_eq_true, if_false, List.map_cons]
      rw [insert_enD x r]
    · simp only [if_true, List.map_cons]
theorem filter_enD (m : List EnD) (k : List UInt8) : ((m.map (enD (H := H))).filter fun p => !p.1.sameKey (.string k)) = (delE m k).map enD := by
  unfold delE
  rw [List.filter_map]
  congr 1
theorem mapD_put (m : List EnD) (x : EnD) : (mapD (H := H) m).put (.string x.1) (.lit (.int .i64 x.2)) = mapD (putE m x) := by
  show DataW.map (DataW.insert (enD x) ((m.map enD).filter fun p => !p.1.sameKey (.string x.1))) = _
  rw [filter_enD, insert_enD]
  rfl
theorem mapD_del (m : List EnD) (k : List UInt8) : (mapD (H := H) m).del (.string k) = mapD (delE m k) := by
  show DataW.map ((m.map enD).filter fun p => !p.1.sameKey (.string k)) = _
  rw [filter_enD]
  rfl
theorem mapD_has (m : List EnD) (k : List UInt8) : Maps.has (mapD (H := H) m) (.string k) = hasE m k := by
  show (m.map enD).any (fun p => p.1.sameKey (.string k)) = _
  rw [List.any_map]
  rfl
theorem mapD_size (m : List EnD) : Maps.size (mapD (H := H) m) = m.length := by
  show (m.map enD).length = _
  simp
theorem mapD_at (m : List EnD) (k : List UInt8) (z : Int) : (mapD (H := H) m).atKey (.string k) (.lit (.int .i64 z)) = .lit (.int .i64 ((getE m k).getD z)) := by
  unfold DataW.atKey mapD getE
  simp only [List.find?_map]
  have e : ((fun p : Lit × DataW H => p.1.sameKey (.string k)) ∘ enD) = fun e : EnD => e.1 == k := rfl
  rw [e]
  cases m.find? (fun e : EnD => e.1 == k) <;> rfl
end
end Go.Proofs.YtbhmnmmockmibaaGreatDoor
