/- The walk of anew: the parts that are not empty, in new memory. Conditions: files of at most 1000 parts of 100000 bytes. The walk of Append, of a file that lies ahead of a number in one block. Conditions: files of at most 1000 parts of 100000 bytes. -/
import Derived.Test.YtbhmnmmockmibaaGreatKpExH
namespace Go.Proofs.YtbhmnmmockmibaaGreat
open Go.RowKit
structure Room (w : World) (g : Nat) (ps : List Pa) (spare : List UInt8) : Prop where
  heap : w.heap[g]? = some (.cells (bs (contM (says ps) ++ spare)).toArray 5 (0, 0))
  lies : ∀ (k : Nat) (p : Pa), ps[k]? = some p → p.r.A = some ⟨g, (contM (says (ps.take k))).length, none⟩
theorem lit_add (g o k : Nat) : (⟨g, o, none⟩ : Addr).add k = ⟨g, o + k, none⟩ := by unfold Addr.add; split <;> simp_all
theorem contM_at {ps : List Pa} {k : Nat} {p : Pa} (h : ps[k]? = some p) : contM (says ps) = contM (says (ps.take k)) ++ (p.r.l ++ contM (says (ps.drop (k + 1)))) := by
  obtain ⟨hk, e⟩ := List.getElem?_eq_some_iff.1 h
  conv => lhs; rw [← List.take_append_drop k ps, List.drop_eq_getElem_cons hk, e]
  rw [says_append, contM_append]
  rfl
theorem reads_stretch {w : World} {g : Nat} {t : TypeId} {a l z : List UInt8} (h : w.heap[g]? = some (.cells (bs (a ++ (l ++ z))).toArray t (0, 0))) (k : Nat) (hk : a.length = k) : ∀ (j : Nat) (u : Value), (bs l)[j]? = some u → w.cell? ((⟨g, k, none⟩ : Addr).add j) = some u := by
  intro j u hu
  have hj := (List.getElem?_eq_some_iff.1 hu).1
  rw [bs_len] at hj
  rw [lit_add, cell_of_row w g _ _ _ _ h]
  rw [List.getElem?_toArray, bs_append, bs_append, List.getElem?_append_right (by rw [bs_len]; omega), bs_len, List.getElem?_append_left (by rw [bs_len]; omega), show k + j - a.length = j by omega]
  exact hu
theorem Room.row {w : World} {g : Nat} {ps : List Pa} {spare : List UInt8} {k : Nat} {p : Pa} {X : Nat → Prop} (h : Room w g ps spare) (hx : ps[k]? = some p) (hX : ¬ X g) : BsX w X p.r.A p.r.l := by
  refine ⟨by rw [bs_len]; omega, fun hn => ⟨_, h.lies k p hx, (Array.getElem?_eq_some_iff.1 h.heap).1, hX, ?_⟩⟩
  have hh := h.heap
  rw [contM_at hx, List.append_assoc, List.append_assoc] at hh
  exact reads_stretch hh _ rfl
theorem Room.touch {X : Nat → Prop} {w w' : World} {g : Nat} {ps : List Pa} {spare : List UInt8} (h : Room w g ps spare) (ht : Touch X w w') (hx : ¬ X g) : Room w' g ps spare := ⟨ht.heap hx h.heap, h.lies⟩
theorem Room.below {w w' : World} {g : Nat} {ps : List Pa} {spare : List UInt8} (h : Room w g ps spare) (ht : Below w.heap.size w w') : Room w' g ps spare := h.touch (X := fun _ => False) (.of ht) (fun h => h)
structure OwnR (base : Nat) (w : World) (v : Value) (g : Nat) (ps : List Pa) : Prop where
  head : w.ownsRow base 180 2 v ps.length (pcells ps)
  room : Room w g ps []
  ne : v.ownBlock ≠ some g
  le : base ≤ g
theorem OwnR.reads {base : Nat} {w : World} {v : Value} {g : Nat} {ps : List Pa} {X : Nat → Prop} (h : OwnR base w v g ps) (hX : ∀ b, X b → b < base) : ∃ A c, v = .slice A ps.length c ∧ ps.length ≤ c ∧ PsX w X A ps := by
  obtain ⟨A, c, rfl, hc, _, hr⟩ := own_form h.head
  refine ⟨A, c, rfl, hc, own_avoid h.head hX, fun p hp => ?_⟩
  obtain ⟨k, hk⟩ := List.getElem?_of_mem hp
  exact h.room.row hk fun hx => by have := hX _ hx; have := h.le; omega
theorem OwnR.below {base : Nat} {w w' : World} {v : Value} {g : Nat} {ps : List Pa} (h : OwnR base w v g ps) (hb : Below w.heap.size w w') : OwnR base w' v g ps := ⟨own_below h.head hb (Nat.le_refl _), h.room.below hb, h.ne, h.le⟩
theorem OwnR.touch {X : Nat → Prop} {base : Nat} {w w' : World} {v : Value} {g : Nat} {ps : List Pa} (h : OwnR base w v g ps) (ht : Touch X w w') (hX : ∀ b, X b → b < base) : OwnR base w' v g ps :=
  ⟨own_touch h.head ht fun b hb hx => by have := (h.head.lt b hb).1; have := hX b hx; omega, h.room.touch ht fun hx => by have := hX _ hx; have := h.le; omega, h.ne, h.le⟩
section
variable {ops : Array Oper} {rest : List Oper} {o : Oper} {a : Act} {Q : Exit → Act → World → Prop} {w : World} {base : Nat} {v : Value}
theorem push_room (s x : Operand) {g L cap n c B : Nat} {done spare l : List UInt8} {A : Option Addr} (hg : w.heap[g]? = some (.cells (bs (done ++ spare)).toArray 5 (0, 0))) (hL : done.length = L) (hcap : L + spare.length = cap) (hr : RdB w B A l) (hn : l.length = n) (hp : 0 < n) (hfit : n ≤ spare.length)
    (hgd : o.guard = none) (ho : o.op = .call { callee := .builtin .append, args := #[s, x], argTypes := #[38, 38] })
    (hs : a.eval s = .slice (some ⟨g, 0, none⟩) L cap) (hx : a.eval x = .slice A n c)
    (h : wpList Tryz.prog ops Q rest (a.put o.dst (.slice (some ⟨g, 0, none⟩) (L + n) cap)) (w.setRow g (bs (done ++ l ++ spare.drop n)).toArray)) : wpList Tryz.prog ops Q (o :: rest) a w := by
  subst hn hL hcap
  obtain ⟨i0, hi0, hz0, hz1, hz2⟩ := info_parts Tryz.info5
  obtain ⟨ad, rfl, hb, hc⟩ := hr.2 hp
  have hrun := run_append_room (P := Tryz.prog) w 38 o.type 5 i0 Tryz.underlying38 hi0 g done.length (done.length + spare.length) _ hg ad l.length c (bs l) (by rw [bs_len, hz1]; omega) hc (bs_one _) (by omega) (by rw [hz1, bs_len]; simp [bs_len]; omega)
  have e : ((bs (done ++ spare)).toArray.toList.take (done.length * i0.size) ++ bs l ++ (bs (done ++ spare)).toArray.toList.drop (done.length * i0.size + (bs l).length)) = bs (done ++ l ++ spare.drop l.length) := by
    rw [hz1, bs_len, Nat.mul_one]
    simp only [bs_append]
    rw [List.take_left' (bs_len _), List.drop_append, List.drop_eq_nil_of_le (by rw [bs_len]; omega), bs_len, show done.length + l.length - done.length = l.length by omega, List.nil_append]
    rw [show List.drop l.length (bs spare) = bs (spare.drop l.length) by unfold bs; rw [List.map_drop]]
  rw [e] at hrun
  refine wpList_plain hgd fun K hK => ?_
  unfold Oper.wp execOp
  simp only [ho, resolve, invoke, builtin, Sem.run_bind, Sem.run_pure, Result.andThen_ok, List.map_toArray, List.map_cons, List.map_nil, hs, hx, hrun]
  exact hK _ _ h
theorem push_hd {t e : TypeId} (ht : PtSl t e) (s x : Operand) {own new : List Pa} {B n c : Nat} {A : Option Addr} (hn : new.length = n) (hown : w.ownsRow base e 2 v own.length (pcells own)) (hbase : base ≤ w.heap.size)
    (hr : Reads w B 2 A n (pcells new)) (hl : own.length + n ≤ 1099511627776)
    (hgd : o.guard = none) (ho : o.op = .call { callee := .builtin .append, args := #[s, x], argTypes := #[t, t] })
    (hs : a.eval s = v) (hx : a.eval x = .slice A n c)
    (h : ∀ v' w', w'.ownsRow base e 2 v' (own ++ new).length (pcells (own ++ new)) → Below base w w' → w.heap.size ≤ w'.heap.size → Kept v v' w w' → wpList Tryz.prog ops Q rest (a.put o.dst v') w') :
    wpList Tryz.prog ops Q (o :: rest) a w := by
  subst hn
  obtain ⟨hu, hi⟩ := ht
  obtain ⟨i0, hi0, hz0, hz1, hz2⟩ := info_parts hi
  refine wpList_append_any _ hgd s x t ho base e i0 _ 2 32 hu hi0 hz0 hz1 hz2 rfl (by omega) v _ _ hs hown B A new.length c (pcells new) hx hr (pcells_one _) (by simp only [maxLen]; omega) (by omega) hbase ?_
  intro v1 w1 h1 h2 h3
  refine h v1 w1 ?_ (grown_below hown h2 hbase) h2.size (Kept.of h2 h3)
  rw [pcells_append, List.length_append]
  exact h1
end
section
variable {b : Act} {w : World} {o : Oper}
theorem exec_backG {x y : Operand} {g L n n2 c : Nat} (ho : o.op = .slice 38 x (some y) none none) (h : b.eval x = .slice (some ⟨g, 0, none⟩) n2 c) (h' : b.eval y = .int .i64 (L : Int)) (hm : L ≤ n2) (hc : n2 ≤ c) (hl : L < c) (hn : n2 - L = n) :
    (execOp b.eval o).run Tryz.prog w = .ok (.value (.slice (some ⟨g, L, none⟩) n (c - L))) w := by
  have := exec_back (w := w) ho h h' hm hc
  rw [if_neg (by omega), Option.map_some, lit_add, Nat.zero_add, hn] at this
  exact this
theorem exec_buildPa {x y : Operand} {A : Option Addr} {n c : Nat} {l : List UInt8} {d : Bool} (hn : l.length = n) (ho : o.op = .build 180 #[(0, x), (1, y)]) (h : b.eval x = .slice A n c) (h' : b.eval y = .bool d) : (execOp b.eval o).run Tryz.prog w = .ok (.value (Pa.mk ⟨A, c, l⟩ d).v) w := by
  have := exec_buildP (w := w) ho h h'
  rw [this]
  unfold Pa.v
  rw [hn]
end
theorem enter_clipB (w : World) (args : Array Value) : (callFunc 120 args).run Tryz.prog w = .ok (.enter 120 args) w := by kernel_rfl
theorem clipX (A : Option Addr) (n c : Nat) (w : World) (hc : n ≤ c) (hl : n ≤ 9223372036854775807) : Calls Tryz.prog 120 #[.slice A n c] w fun e w' => ∃ u, e = .returned u ∧ Below w.heap.size w w' ∧ u = .slice A n n := by
  refine (clipB_any A n c w hc hl).mono ?_
  rintro e w' ⟨rfl, rfl⟩
  exact ⟨_, rfl, .refl _ _, rfl⟩
def AnF (A3 : Option Addr) (n3 c3 g L n n2 cap M : Nat) (l : List UInt8) (d : Bool) : Nat → Value → World → Prop
  | 0, v, _ => v = .slice A3 n3 c3
  | 1, v, _ => v = .slice (some ⟨g, 0, none⟩) n2 cap
  | 2, v, _ => v = .int .i64 (L : Int)
  | 3, v, _ => v = .slice (some ⟨g, L, none⟩) n (cap - L)
  | 4, v, _ => v = .slice (some ⟨g, L, none⟩) n n
  | 5, v, _ => v = .pointer (some ⟨M, 1, none⟩)
  | 6, v, _ => v = .bool d
  | 7, v, _ => v = (Pa.mk ⟨some ⟨g, L, none⟩, n, l⟩ d).v
  | 8, v, w => ∃ A, v = .slice A 1 1 ∧ Reads w w.heap.size 2 A 1 (pcells [Pa.mk ⟨some ⟨g, L, none⟩, n, l⟩ d])
  | _, _, _ => True
theorem AnF.keep {A3 : Option Addr} {n3 c3 g L n n2 cap M : Nat} {l : List UInt8} {d : Bool} (j : Nat) (u : Value) (w w' : World) (hb : Below w.heap.size w w') (hfact : AnF A3 n3 c3 g L n n2 cap M l d j u w) : AnF A3 n3 c3 g L n n2 cap M l d j u w' :=
  match j, hfact with
  | 0, h => h
  | 1, h => h
  | 2, h => h
  | 3, h => h
  | 4, h => h
  | 5, h => h
  | 6, h => h
  | 7, h => h
  | 8, h => by obtain ⟨A, e3, h2⟩ := h; exact ⟨A, e3, (Reads.below h2 hb).more hb.size⟩
  | _ + 9, h => h
structure AnSt (w wr : World) (v3 v4 : Value) (ps : List Pa) (k T g : Nat) (qs : List Pa) (spare : List UInt8) : Prop where
  own : wr.ownsRow w.heap.size 180 2 v3 qs.length (pcells qs)
  room : Room wr g qs spare
  ne : v3.ownBlock ≠ some g
  le : w.heap.size ≤ g
  v4 : v4 = .slice (some ⟨g, 0, none⟩) (contM (says qs)).length T
  say : says qs = fullM (says (ps.take k))
  all : (contM (says (ps.take k))).length + spare.length = T
  below : Below w.heap.size w wr
set_option maxHeartbeats 2000000 in
set_option maxRecDepth 100000 in
theorem anew_any {X : Nat → Prop} (A : Option Addr) (c : Nat) (ps : List Pa) (w : World) (hs : SmM (says ps)) (hr : PsX w X A ps) :
    Calls Tryz.prog 98 #[.slice A ps.length c] w fun e w' => ∃ v g qs, e = .returned v ∧ OwnR w.heap.size w' v g qs ∧ says qs = fullM (says ps) ∧ Below w.heap.size w w' := by
  have hlen : (ps.length : Int) ≤ 1000 := by have := hs.n; rw [says_len] at this; omega
  have Hs := Lib.hid hs
  have Hc := Lib.hid (size_any A c ps w hs hr)
  have Hr := Lib.hid hr
  clear hs hr
  go_enter Tryz.func98, Tryz.ntmps98
  go_wp2_with fail
  refine Hc.out.mono ?_
  rintro e w2 ⟨rfl, hb2⟩
  obtain ⟨T, hT⟩ : ∃ T, Hid ((contM (says ps)).length = T) := ⟨_, rfl⟩
  rw [hT.out]
  have hTle : T ≤ 100000000 := by rw [← hT.out]; exact contM_le' Hs.out
  have hmk := fun w => run_make0 w T T rfl (by omega)
  obtain ⟨W, hW⟩ : ∃ W, Hid (w2.alloc (.cells (bs (noughts T)).toArray 5) = W) := ⟨_, rfl⟩
  obtain ⟨g, hg⟩ : ∃ g, Hid (w2.heap.size = g) := ⟨_, rfl⟩
  have hfg : W.heap[g]? = some (.cells (bs (noughts T)).toArray 5 (0, 0)) := by rw [← hW.out, ← hg.out]; exact heap_alloc_new _ _
  have hbw : Below w.heap.size w W := by rw [← hW.out]; exact hb2.alloc hb2.size _
  have hstart : Hid (AnSt w W (.slice none 0 0) (.slice (some ⟨g, 0, none⟩) 0 T) ps 0 T g [] (noughts T)) := ⟨World.ownsRow_nil _ _ _ _, ⟨hfg, fun k p h => by simp at h⟩, by simp [Value.ownBlock], by rw [← hg.out]; exact hb2.size, rfl, rfl, by rw [noughts_len]; simp [says, contM], hbw⟩
  clear hfg hbw hb2 hTle
  go_upto_region 3 with fail
  rw [hW.out, hg.out]
  clear hmk
  go_wp2
  go_loopw [3, 4, 13] (fun v3 v4 i wr => ∃ (k : Nat) (qs : List Pa) (spare : List UInt8), k ≤ ps.length ∧ i = .int .i64 (k : Int) ∧ Hid (AnSt w wr v3 v4 ps k T g qs spare)) (fun _ _ i _ => ps.length - (intOf i).toNat)
  case atStart => exact ⟨0, [], noughts T, by omega, rfl, hstart⟩
  case round =>
    clear hstart
    obtain ⟨k, qs, spare, hk, rfl, hst⟩ := hrel
    obtain ⟨L, hL⟩ : ∃ L, Hid ((contM (says qs)).length = L) := ⟨_, rfl⟩
    have h4 := hst.out.v4
    rw [hL.out] at h4
    subst h4
    have hbr := hst.out.below
    have hLT : Hid (L + spare.length = T) := by
      have := hst.out.all
      rw [← hL.out, hst.out.say, contM_full]
      exact this
    have hLI : (L : Int) ≤ 100000000 := by have := hLT.out; have := contM_le' Hs.out; rw [hT.out] at this; omega
    by_cases hlt : k < ps.length
    · obtain ⟨ad, p, rfl, hab, _, hca, hcd, hx, hrow⟩ := (Hr.out.below hbr).at_ hlt
      have hl5 := Hs.out.at_ hx
      have hll : (p.r.l.length : Int) ≤ 100000 := by omega
      have Hl5 := Lib.hid hl5
      have Hrow := Lib.hid hrow
      have Hbr := Lib.hid hbr
      have Hx := Lib.hid hx
      clear hrow hbr hl5
      by_cases hp0 : p.r.l = []
      · have hp0' : p.r.l.length = 0 := by rw [hp0]; rfl
        have hp0I : ((p.r.l.length : Nat) : Int) = 0 := by omega
        have Hst' : Hid (says qs = fullM (says (ps.take (k + 1)))) := by
          show _ = _
          rw [says_snoc hx, fullM_append, fullM_none hp0, List.append_nil]; exact hst.out.say
        have Hal : Hid ((contM (says (ps.take (k + 1)))).length + spare.length = T) := by
          show _ = _
          rw [contM_snoc hx, hp0, List.append_nil]; exact hst.out.all
        clear hp0
        go_wp2
        go_roundw
        case rel => exact ⟨k + 1, qs, spare, by omega, by go_num, ⟨hst.out.own.alloc _, hst.out.room.below (below_new _ _), hst.out.ne, hst.out.le, by rw [hL.out], Hst'.out, Hal.out, Hbr.out.alloc Hbr.out.size _⟩⟩
        case measure => simp [intOf]; omega
      · obtain ⟨⟨pA, pc, l⟩, d⟩ := p
        simp only at hp0 hca hcd hll Hrow Hl5
        obtain ⟨n, hn⟩ : ∃ n, Hid (l.length = n) := ⟨_, rfl⟩
        have hn0 : 0 < n := by rw [← hn.out]; exact List.length_pos_iff.2 hp0
        have hnI : (0 : Int) < (n : Int) := by omega
        have hpne : ((n : Int) == 0) = false := by rw [beq_eq_false_iff_ne]; omega
        have hpne' : (n == 0) = false := by rw [beq_eq_false_iff_ne]; omega
        have Hp0 := Lib.hid hp0
        have hfit : Hid (n ≤ spare.length) := by
          have h1 := hst.out.all
          have h2 := contM_at Hx.out.out
          have h3 := congrArg List.length h2
          rw [hT.out, List.length_append, List.length_append] at h3
          show n ≤ _
          rw [← hn.out]
          simp only at h3
          omega
        rw [hn.out] at hca hll
        obtain ⟨M, hM⟩ : ∃ M, Hid (wr.heap.size = M) := ⟨_, rfl⟩
        obtain ⟨W1, hW1⟩ : ∃ W1, Hid (wr.alloc (.cells #[.slice pA n pc, .bool d] 180) = W1) := ⟨_, rfl⟩
        have hb1 : Hid (Below wr.heap.size wr W1) := by rw [← hW1.out]; exact below_new _ _
        have fM : Hid (W1.heap[M]? = some (.cells #[.slice pA n pc, .bool d] 180 (0, 0))) := by rw [← hW1.out, ← hM.out]; exact heap_alloc_new _ _
        have cM0 : W1.cell? ⟨M, 0, none⟩ = some (.slice pA n pc) := by rw [cell_of_row W1 M 0 _ _ _ fM.out]; rfl
        have hr1 := Lib.hid (hst.out.room.below hb1.out)
        have hrow1 := Lib.hid (Hrow.out.below hb1.out).reads
        have hgM : Hid (g ≠ M) := by
          intro e
          have := (Array.getElem?_eq_some_iff.1 hst.out.room.heap).1
          rw [e, ← hM.out] at this
          omega
        clear hp0
        go_upto_region 6 with fail
        rw [hW1.out, hM.out]
        go_upto_region 9 with (at_builtin; refine push_room (.tmp 23) (.tmp 25) (done := contM (says qs)) (spare := spare) hr1.out.heap hL.out hLT.out hrow1.out hn.out (by have := hn.out; have := List.length_pos_iff.2 Hp0.out; omega) hfit.out rfl rfl rfl rfl ?_)
        obtain ⟨spare', hsp⟩ : ∃ s, Hid (spare.drop n = s) := ⟨_, rfl⟩
        obtain ⟨D, hD⟩ : ∃ D, Hid (contM (says qs) ++ (l ++ spare') = D) := ⟨_, rfl⟩
        obtain ⟨W2, hW2⟩ : ∃ W2, Hid (W1.setRow g (bs D).toArray = W2) := ⟨_, rfl⟩
        rw [hsp.out, hD.out, hW2.out]
        have hDl : Hid (D.length = T) := by
          show _ = _
          rw [← hD.out, ← hsp.out, List.length_append, List.length_append, List.length_drop, hL.out, hn.out]
          have := hLT.out; have := hfit.out; omega
        have hfg : Hid (W2.heap[g]? = some (.cells (bs D).toArray 5 (0, 0))) := by
          rw [← hW2.out]
          exact setRow_heap _ _ _ _ _ _ hr1.out.heap
        have htW : Hid (Touch (fun k => k = g) W1 W2) := by rw [← hW2.out]; exact Touch.row1 _ _ _
        have fM2 : Hid (W2.heap[M]? = some (.cells #[.slice pA n pc, .bool d] 180 (0, 0))) := htW.out.heap (Ne.symm hgM.out) fM.out
        have hMl : Hid (M < W2.heap.size) := (Array.getElem?_eq_some_iff.1 fM2.out).1
        have cd : Hid (W2.cell? ⟨M, 1, none⟩ = some (.bool d)) := by show _ = _; rw [cell_of_row W2 M 1 _ _ _ fM2.out]; rfl
        have hown2 : Hid (W2.ownsRow w.heap.size 180 2 u3 qs.length (pcells qs)) := own_touch (own_below hst.out.own hb1.out (Nat.le_refl _)) htW.out (fun b hb e => by rw [e] at hb; exact hst.out.ne hb)
        have hbw2 : Hid (Below w.heap.size w W2) := (below_then Hbr.out hb1.out (Nat.le_refl _)).trans (htW.out.below (Nat.le_trans Hbr.out.size hb1.out.size) (fun b hb => by rw [hb]; exact hst.out.le))
        have hroom2 : Hid (Room W2 g (qs ++ [Pa.mk ⟨some ⟨g, L, none⟩, n, l⟩ d]) spare') := by
          refine ⟨?_, fun j q hj => ?_⟩
          · rw [says_append, contM_append, show contM (says [Pa.mk ⟨some ⟨g, L, none⟩, n, l⟩ d]) = l by simp [says, contM], List.append_assoc, hD.out]
            exact hfg.out
          · rcases Nat.lt_or_ge j qs.length with hjl | hjl
            · rw [List.getElem?_append_left hjl] at hj
              rw [List.take_append_of_le_length (by omega)]
              exact hst.out.room.lies j q hj
            · rw [List.getElem?_append_right hjl] at hj
              have hj0 : j - qs.length = 0 := by have := (List.getElem?_eq_some_iff.1 hj).1; simp at this; omega
              rw [hj0] at hj
              simp only [List.getElem?_cons_zero, Option.some.injEq] at hj
              subst hj
              have : j = qs.length := by omega
              subst this
              rw [List.take_left, hL.out]
        obtain ⟨A3, c3, rfl, _, _, _⟩ := own_form hst.out.own
        obtain ⟨n3, hn3⟩ : ∃ n, Hid (qs.length = n) := ⟨_, rfl⟩
        obtain ⟨n2, hn2⟩ : ∃ n2, Hid (L + n = n2) := ⟨_, rfl⟩
        have hn3' : Hid (n3 ≤ 1000) := by
          show _ ≤ _
          rw [← hn3.out, ← says_len, hst.out.say]
          have := Hs.out.take k
          rw [← says_take] at this
          exact this.full.n
        have hL2 : Hid (L ≤ n2) := by rw [← hn2.out]; show _ ≤ _; omega
        have hcap : Hid (n2 ≤ T) := by rw [← hn2.out]; show _ ≤ _; have := hLT.out; have := hfit.out; omega
        have hLc : Hid (L < T) := by show _ < _; have := hLT.out; have := hfit.out; omega
        have hnn : Hid (n2 - L = n) := by rw [← hn2.out]; show _ = _; omega
        have hcl : Hid (n ≤ T - L) := by show _ ≤ _; have := hLT.out; have := hfit.out; omega
        have hnl : Hid (n ≤ 9223372036854775807) := by show _ ≤ _; omega
        have Hst' : Hid (says (qs ++ [Pa.mk ⟨some ⟨g, L, none⟩, n, l⟩ d]) = fullM (says (ps.take (k + 1)))) := by
          show _ = _
          rw [says_snoc hx, fullM_append, fullM_one Hp0.out, says_append, hst.out.say]; rfl
        have Hal : Hid ((contM (says (ps.take (k + 1)))).length + spare'.length = T) := by
          show _ = _
          rw [contM_snoc hx, List.length_append, ← hsp.out, List.length_drop, hn.out]
          have := hst.out.all; have := hfit.out; omega
        have Hne := Lib.hid hst.out.ne
        have hown3 := hown2.out
        rw [hn3.out] at hown3
        have Hown := Lib.hid hown3
        have hLn : Hid ((contM (says (qs ++ [Pa.mk ⟨some ⟨g, L, none⟩, n, l⟩ d]))).length = n2) := by
          show _ = _
          rw [says_append, contM_append, List.length_append, hL.out, show contM (says [Pa.mk ⟨some ⟨g, L, none⟩, n, l⟩ d]) = l by simp [says, contM], hn.out, hn2.out]
        rw [hn3.out, hn2.out]
        clear hown3 cM0 hca hcd
        refine wp_last ?_
        go_cut [3] from 27 to 36 (fun s wx => wx.ownsRow w.heap.size 180 2 s (qs ++ [Pa.mk ⟨some ⟨g, L, none⟩, n, l⟩ d]).length (pcells (qs ++ [Pa.mk ⟨some ⟨g, L, none⟩, n, l⟩ d])) ∧ Room wx g (qs ++ [Pa.mk ⟨some ⟨g, L, none⟩, n, l⟩ d]) spare' ∧ s.ownBlock ≠ some g ∧ Below w.heap.size w wx)
        case first =>
          rename_i J K1 hJ hK
          refine wp_region_tailP (n := 39) (m := 9) (AnF A3 n3 c3 g L n n2 T M l d) (BelC W2) (by kernel_rfl) (by kernel_rfl) rfl rfl (by decide) (by kernel_rfl) (by kernel_rfl) ?_ ?_ ?_
          · exact (Below.refl _ _).drew
          rotate_left
          · intro b' w' hsz hd hs hc hall
            obtain ⟨A8, e8, hr8⟩ : AnF A3 n3 c3 g L n n2 T M l d 8 (b'.tmps.getD 35 undef) w' := hall 8 _ _ (by decide) rfl rfl
            have e0 : b'.tmps.getD 27 undef = .slice A3 n3 c3 := hall 0 _ _ (by decide) rfl rfl
            have hO : w'.ownsRow w.heap.size 180 2 (.slice A3 n3 c3) qs.length (pcells qs) := by rw [hn3.out]; exact own_below Hown.out hc (Nat.le_refl _)
            refine push_hd ptSl1 (.tmp 27) (.tmp 35) (own := qs) (new := [Pa.mk ⟨some ⟨g, L, none⟩, n, l⟩ d]) rfl hO (Nat.le_trans hbw2.out.size hc.size) hr8 (by simp only [List.length_cons, List.length_nil]; rw [hn3.out]; have := hn3'.out; omega) rfl rfl e0 e8 ?_
            intro v9 w9 hown9 hb9 hz9 hk9
            refine wpList_op rfl (exec_assign (x := .tmp 36) rfl (eval_put_eq hsz (by decide))) ?_
            refine hK _ _ (Met.intro (hJ _ _ ?_))
            have hgw : g < w'.heap.size := Nat.lt_of_lt_of_le (Array.getElem?_eq_some_iff.1 hfg.out).1 hc.size
            have hgk := hk9 g hgw (by rw [hn3.out] at Hne; exact Hne.out)
            refine ⟨v9, b'.tmps.getD 27 undef, b'.tmps.getD 28 undef, b'.tmps.getD 29 undef, b'.tmps.getD 30 undef, b'.tmps.getD 31 undef, b'.tmps.getD 32 undef, b'.tmps.getD 33 undef, b'.tmps.getD 34 undef, b'.tmps.getD 35 undef, v9, ⟨hown9, ⟨?_, hroom2.out.lies⟩, hgk.1, (hbw2.out.trans (hc.mono hbw2.out.size)).trans hb9⟩, (congrArg (fun a : Act => (a.put (some 36) v9).put (some 3) v9) (act_known hsz hd hs)).trans (by kernel_rfl)⟩
            rw [hgk.2, hc.block g (Array.getElem?_eq_some_iff.1 hfg.out).1]
            exact hroom2.out.heap
          refine OpsOk.cons _ _ (OpOk.run _ _ AnF.keep BelC.keep fun b v hs hc hg => ⟨rfl, _, _, exec_move rfl (hs 3 (by kernel_rfl)), .refl _ _, rfl⟩) ?_
          refine OpsOk.cons _ _ (OpOk.run _ _ AnF.keep BelC.keep fun b v hs hc hg => ⟨rfl, _, _, exec_move rfl (hs 4 (by kernel_rfl)), .refl _ _, rfl⟩) ?_
          refine OpsOk.cons _ _ (OpOk.run _ _ AnF.keep BelC.keep fun b v hs hc hg => ⟨rfl, _, _, exec_move rfl (hs 7 (by kernel_rfl)), .refl _ _, rfl⟩) ?_
          refine OpsOk.cons _ _ (OpOk.run _ _ AnF.keep BelC.keep fun b v hs hc hg => ⟨rfl, _, _, exec_backG rfl (dep hg 0 rfl rfl rfl rfl) (dep hg 1 rfl rfl rfl rfl) hL2.out hcap.out hLc.out hnn.out, .refl _ _, rfl⟩) ?_
          refine OpsOk.cons _ _ (OpOk.call _ _ AnF.keep BelC.keep fun b v hs hc hg => ⟨rfl, _, _, exec_call1 (enter_clipB _) rfl (dep hg 0 rfl rfl rfl rfl), (clipX _ _ _ _ hcl.out hnl.out)⟩) ?_
          refine OpsOk.cons _ _ (OpOk.run _ _ AnF.keep BelC.keep fun b v hs hc hg => ⟨rfl, _, _, exec_fieldP1 rfl (hs 6 (by kernel_rfl)), .refl _ _, rfl⟩) ?_
          refine OpsOk.cons _ _ (OpOk.run _ _ AnF.keep BelC.keep fun b v hs hc hg => ⟨rfl, _, _, exec_loadT rfl (dep hg 0 rfl rfl rfl rfl) ((hc.cell (p := ⟨M, 1, none⟩) hMl.out).trans cd.out), .refl _ _, rfl⟩) ?_
          refine OpsOk.cons _ _ (OpOk.run _ _ AnF.keep BelC.keep fun b v hs hc hg => ⟨rfl, _, _, exec_buildPa hn.out rfl (dep hg 0 rfl rfl rfl rfl) (dep hg 1 rfl rfl rfl rfl), .refl _ _, rfl⟩) ?_
          refine OpsOk.cons _ _ (OpOk.run _ _ AnF.keep BelC.keep fun b v hs hc hg => ⟨rfl, _, _, exec_listP (p := ⟨⟨some ⟨g, L, none⟩, n, l⟩, d⟩) rfl (dep hg 0 rfl rfl rfl rfl), below_new _ _, _, rfl, psNew_reads _ _ _⟩) ?_
          exact OpsOk.nil _ _

        obtain ⟨ho1, ho2, ho3, ho4⟩ := hcut
        have Ho1 := Lib.hid ho1
        have Ho2 := Lib.hid ho2
        have Ho3 := Lib.hid ho3
        have Ho4 := Lib.hid ho4
        clear ho1 ho2 ho3 ho4
        go_wp2
        go_roundw
        case rel => exact ⟨k + 1, _, spare', by omega, by go_num, ⟨Ho1.out, Ho2.out, Ho3.out, hst.out.le, by rw [hLn.out], Hst'.out, Hal.out, Ho4.out⟩⟩
        case measure => simp [intOf]; omega
    · obtain rfl : k = ps.length := by omega
      have Hst' := Lib.hid hst.out
      clear hst hbr
      go_wp2
      go_ret
      have hsp : spare = [] := by
        have h1 := Hst'.out.all
        rw [List.take_length, hT.out] at h1
        exact List.eq_nil_of_length_eq_zero (by omega)
      refine ⟨_, g, qs, rfl, ⟨Hst'.out.own, by have := Hst'.out.room; rw [hsp] at this; exact this, Hst'.out.ne, Hst'.out.le⟩, by have := Hst'.out.say; rw [List.take_length] at this; exact this, Hst'.out.below⟩
end Go.Proofs.YtbhmnmmockmibaaGreat

namespace Go.Proofs.YtbhmnmmockmibaaGreat
open Go.RowKit
section
variable {ops : Array Oper} {rest : List Oper} {o : Oper} {a : Act} {Q : Exit → Act → World → Prop} {w : World}
set_option maxRecDepth 100000 in
theorem push_full {t e : TypeId} (ht : PtSl t e) (s x : Operand) {ps : List Pa} {p : Pa} {B B' n c : Nat} {A A' : Option Addr} (hn : ps.length = n) (hr : Reads w B 2 A n (pcells ps)) (hp : Reads w B' 2 A' 1 (pcells [p])) (hl : n ≤ 1099511627) (hA : A = none → n = 0)
    (hgd : o.guard = none) (ho : o.op = .call { callee := .builtin .append, args := #[s, x], argTypes := #[t, t] })
    (hs : a.eval s = .slice A n n) (hx : a.eval x = .slice A' 1 c)
    (h : ∀ v' w', w'.ownsRow w.heap.size e 2 v' (ps ++ [p]).length (pcells (ps ++ [p])) → Below w.heap.size w w' → wpList Tryz.prog ops Q rest (a.put o.dst v') w') :
    wpList Tryz.prog ops Q (o :: rest) a w := by
  subst hn
  obtain ⟨hu, hi⟩ := ht
  obtain ⟨i0, hi0, hz0, hz1, hz2⟩ := info_parts hi
  obtain ⟨ad', rfl, _, hc'⟩ := hp.2 (by omega)
  have hlp : (pcells [p]).length = 1 * i0.size := by rw [hz1]; rfl
  have key : ∃ cap, ps.length + 1 ≤ cap ∧ cap ≤ maxLen ∧ (Builtin.append_ #[t, t] o.type #[.slice A ps.length ps.length, .slice (some ad') 1 c]).run Tryz.prog w = .ok (.slice (some ⟨w.heap.size, 0, none⟩) (ps.length + 1) cap) (w.drew.alloc (.cells ((pcells ps).toArray ++ (pcells [p]).toArray ++ Builtin.zeroCells (Value.agg #[.slice none 0 0, .bool false]).cells (cap - (ps.length + 1))) e)) := by
    cases A with
    | none =>
      have h0 := hA rfl
      have hnil : ps = [] := List.eq_nil_of_length_eq_zero h0
      subst hnil
      have := run_append_nil (P := Tryz.prog) w t o.type e i0 _ hu hi0 hz0 ad' 1 c (pcells [p]) hlp hc' (by omega) (by omega) (by rw [hz2]; omega)
      refine ⟨grownCap w 1 0 e, grownCap_ge _ _ _ _, grownCap_le_maxLen _ _ _ _ (by simp only [maxLen]; omega), ?_⟩
      simpa [pcells] using this
    | some ad =>
      have hold : ∀ j v, (pcells ps)[j]? = some v → w.cell? (ad.add j) = some v := by
        intro j v hj
        have hj' := (List.getElem?_eq_some_iff.1 hj).1
        rw [pcells_len] at hj'
        obtain ⟨ad2, e2, _, hc2⟩ := hr.2 (by omega)
        injection e2 with e2
        subst e2
        exact hc2 j v hj
      refine ⟨grownCap w (ps.length + 1) ps.length e, grownCap_ge _ _ _ _, grownCap_le_maxLen _ _ _ _ (by simp only [maxLen]; omega), ?_⟩
      exact run_append_grow (P := Tryz.prog) w t o.type e i0 _ hu hi0 hz0 ad ps.length ps.length (pcells ps) (by rw [hz1, pcells_len]) hold ad' 1 c (pcells [p]) hlp hc' (by omega) (by omega) (growslice_fits (by omega) (by rw [hz2]; omega))
  obtain ⟨cap, hc1, hc2, hrun⟩ := key
  refine wpList_plain hgd fun K hK => ?_
  unfold Oper.wp execOp
  simp only [ho, resolve, invoke, builtin, Sem.run_bind, Sem.run_pure, Result.andThen_ok, List.map_toArray, List.map_cons, List.map_nil, hs, hx, hrun]
  refine hK _ _ (h _ _ ⟨pcells_len _, .inr ⟨w.heap.size, cap, _, ?_, Nat.le_refl _, heap_alloc_new w.drew _, ?_, hc2, ?_, ?_⟩⟩ ⟨rfl, rfl, rfl, by simp, fun k hk => heap_alloc_old w.drew _ hk⟩)
  · rw [List.length_append]; rfl
  · rw [List.length_append]; exact hc1
  · simp only [Array.size_append, List.size_toArray, size_zeroCells, pcells_len, Value.cells]
    simp
    omega
  · simp only [Array.toList_append]
    rw [pcells_append, List.take_append_of_le_length (by simp [pcells_len]; omega)]
    rw [List.take_of_length_le (by simp [pcells_len]; omega)]
end
theorem reads_pa (w : World) (t : TypeId) (p : Pa) {A : Option Addr} {n c : Nat} {d : Bool} (hp : p.cs = [.slice A n c, .bool d]) : Reads (w.alloc (.cells #[.slice A n c, .bool d] t)) (w.heap.size + 1) 2 (some ⟨w.heap.size, 0, none⟩) 1 (pcells [p]) := by
  have e0 : w.alloc (.cells #[.slice A n c, .bool d] t) = w.alloc (.cells (pcells [p]).toArray t) := by
    unfold pcells
    rw [List.flatMap_cons, List.flatMap_nil, List.append_nil, hp]
  rw [e0]
  exact ps_new w t [p]
theorem OwnR.file {base : Nat} {w : World} {v : Value} {g : Nat} {ps : List Pa} {X : Nat → Prop} {m : List Pt} (h : OwnR base w v g ps) (hX : ∀ b, X b → b < base) (hm : says ps = m) : FileV w X v m := by
  obtain ⟨A, c, e, hc, hp⟩ := h.reads hX
  exact ⟨A, c, ps, e, hc, hp, hm⟩
theorem bx_set {w : World} {g : Nat} {v nm : Value} {t : TypeId} (u : Value) (h : w.heap[g]? = some (.cells #[v, nm] t (0, 0))) : (w.setCell ⟨g, 0, none⟩ u).heap[g]? = some (.cells #[u, nm] t (0, 0)) := heap_setCell_same w g 0 _ t u h
theorem bx_set1 {w : World} {g : Nat} {v nm : Value} {t : TypeId} (u : Value) (h : w.heap[g]? = some (.cells #[v, nm] t (0, 0))) : (w.setCell ⟨g, 1, none⟩ u).heap[g]? = some (.cells #[v, u] t (0, 0)) := heap_setCell_same w g 1 _ t u h
theorem bx_cell {w : World} {g : Nat} {v nm : Value} {t : TypeId} (h : w.heap[g]? = some (.cells #[v, nm] t (0, 0))) : w.cell? ⟨g, 0, none⟩ = some v := by rw [cell_of_row w g 0 _ _ _ h]; rfl
theorem bx_cell1 {w : World} {g : Nat} {v nm : Value} {t : TypeId} (h : w.heap[g]? = some (.cells #[v, nm] t (0, 0))) : w.cell? ⟨g, 1, none⟩ = some nm := by rw [cell_of_row w g 1 _ _ _ h]; rfl
theorem bx_frozen {w : World} {g : Nat} {v nm : Value} {t : TypeId} (h : w.heap[g]? = some (.cells #[v, nm] t (0, 0))) : w.frozen? ⟨g, 0, none⟩ = false := by
  unfold World.frozen?
  rw [h]
  simp
theorem bx_frozen1 {w : World} {g : Nat} {v nm : Value} {t : TypeId} (h : w.heap[g]? = some (.cells #[v, nm] t (0, 0))) : w.frozen? ⟨g, 1, none⟩ = false := by
  unfold World.frozen?
  rw [h]
  simp
variable {nm : Value}
set_option maxHeartbeats 2000000 in
set_option maxRecDepth 100000 in
theorem app_any {X : Nat → Prop} {A Ab : Option Addr} {c cb B F : Nat} {ps : List Pa} {l : List UInt8} {w : World} (hF : w.heap[F]? = some (.cells #[.slice A ps.length c, nm] 129 (0, 0))) (hc : ps.length ≤ c) (hs : SmM (says ps ++ [(l, false)])) (hr : PsX w X A ps) (hB : B ≤ w.heap.size) (hb : RdB w B Ab l) :
    Calls Tryz.prog 107 #[.pointer (some ⟨F, 0, none⟩), .slice Ab l.length cb] w fun e w' => e = .returned (.tuple #[]) ∧ Touch (fun k => k = F) w w' ∧ ∃ v, w'.heap[F]? = some (.cells #[v, nm] 129 (0, 0)) ∧ FileV w' (XW w) v (appM (says ps) l) := by
  have hlen : (ps.length : Int) ≤ 1000 := by have := hs.n; rw [List.length_append, says_len] at this; omega
  have hcF := bx_cell hF
  obtain ⟨n, hn⟩ : ∃ n, Hid (ps.length = n) := ⟨_, rfl⟩
  have hFl : Hid (F < w.heap.size) := (Array.getElem?_eq_some_iff.1 hF).1
  have HF := Lib.hid hF
  have Hs := Lib.hid hs
  have Hr := Lib.hid hr
  have HB := Lib.hid hB
  have Hb := Lib.hid hb
  have Hcc := Lib.hid (show n ≤ c by rw [← hn.out]; exact hc)
  obtain ⟨nl, hnl⟩ : ∃ nl, Hid (l.length = nl) := ⟨_, rfl⟩
  have HA : Hid (A = none → n = 0) := by
    intro hA
    rcases Nat.eq_zero_or_pos ps.length with h0 | h0
    · rw [← hn.out]; exact h0
    · obtain ⟨ad, e, _⟩ := hr.top.2 h0
      rw [hA] at e
      cases e
  rw [hn.out] at hcF hlen
  rw [hnl.out]
  have hbl : Hid (n ≤ 9223372036854775807) := by show _ ≤ _; omega
  clear hF hs hr hB hb hc
  go_enter Tryz.func107, Tryz.ntmps107
  go_wp2_with (first
    | (go_at_call 123
       refine (clipP_any A n c w Hcc.out hbl.out).mono ?_
       rintro e w0 ⟨rfl, hw0⟩
       subst hw0)
    | (at_builtin
       refine push_full ptSl1 (.tmp 11) (.tmp 14) (p := ⟨⟨Ab, cb, l⟩, false⟩) hn.out (Reads.below Hr.out.top.reads (below_new _ _) |> fun h => by rw [hn.out] at h; exact h) (reads_pa w0 _ ⟨⟨Ab, cb, l⟩, false⟩ (by unfold Pa.cs; rw [hnl.out])) (by omega) HA.out rfl rfl rfl rfl ?_
       intro v1 w1 hown1 hb1
       have hbb1 := (below_new w0 (.cells #[.slice Ab nl cb, .bool false] 180)).trans (hb1.mono (below_new w0 _).size)
       obtain ⟨A1, c1, rfl, hc1, _, hr1⟩ := own_form hown1
       have hP1 : PsX w1 (fun _ => False) A1 (ps ++ [⟨⟨Ab, cb, l⟩, false⟩]) := ⟨RdX.of hr1 (Nat.le_refl _) (fun _ _ h => h), fun q hq => by
         rw [List.mem_append, List.mem_singleton] at hq
         rcases hq with hq | rfl
         · exact ((Hr.out.row q hq).below hbb1).mono fun _ _ h => h.elim
         · exact RdX.of (Reads.below Hb.out (hbb1.mono HB.out)) (Nat.le_trans HB.out hbb1.size) (fun _ _ h => h)⟩
       have Hcall := Lib.hid (anew_any A1 c1 _ w1 (by rw [says_append]; exact Hs.out) hP1)
       obtain ⟨n1, hn1⟩ : ∃ n1, Hid ((ps ++ [Pa.mk ⟨Ab, cb, l⟩ false]).length = n1) := ⟨_, rfl⟩
       rw [hn1.out] at Hcall ⊢
       have Hb1 := Lib.hid hbb1
       have hF1 := Lib.hid ((hbb1.block F hFl.out).trans HF.out)
       clear hown1 hb1 hr1 hP1 hc1 hbb1)
    | (go_at_call 98
       refine Hcall.out.mono ?_
       rintro e w2 ⟨v2, g2, qs, rfl, hO, hsay, hb2⟩
       have hF2 := Lib.hid ((hb2.block F (Nat.lt_of_lt_of_le hFl.out Hb1.out.size)).trans hF1.out)
       have cF2 := bx_cell hF2.out
       have zF2 := bx_frozen hF2.out
       obtain ⟨A2, c2, rfl, hc2, _, _⟩ := own_form hO.head
       have HO := Lib.hid hO
       have Hsay := Lib.hid hsay
       have Hb2 := Lib.hid hb2
       clear hO hsay hb2 hc2))
  go_end0
  refine ⟨rfl, ((Touch.of Hb1.out).trans ((Touch.of Hb2.out).trans (Touch.cell1 _ _ _ _))), _, bx_set _ hF2.out, ?_⟩
  have hx : ∀ b, XW w0 b → b < w1.heap.size := fun b hb => Nat.lt_of_lt_of_le hb Hb1.out.size
  refine ((HO.out.file hx (m := appM (says ps) l) ?_).keep ((Touch.cell1 _ _ _ _).mono fun b _ e => ?_))
  · rw [Hsay.out, says_append]; rfl
  · rw [e]; exact hFl.out
end Go.Proofs.YtbhmnmmockmibaaGreat
