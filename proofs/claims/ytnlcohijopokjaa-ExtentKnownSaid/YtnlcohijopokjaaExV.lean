/- What ExtentKnown needs: three lists of the call's own, kept apart; the calls of nil. Conditions: none. -/
import Derived.Test.YtnlcohijopokjaaOd
namespace Go.Proofs.Ytnlcohijopokjaa
open Go.RowKit

theorem nil_app (A : Option Addr) (n c : Nat) (w : World) : Calls Try.prog 17 #[.pointer none, .slice A n c] w fun e w' => e = .returned (.tuple #[]) ∧ w' = w := by
  go_enter Try.func17, Try.ntmps17
  go_wp2
  exact ⟨rfl, _, results_none (by kernel_rfl) _ _ _, rfl, rfl⟩
theorem nil_sync (w : World) : Calls Try.prog 13 #[.pointer none] w fun e w' => e = .returned (.tuple #[]) ∧ w' = w := by
  go_enter Try.func13, Try.ntmps13
  go_wp2
  exact ⟨rfl, _, results_none (by kernel_rfl) _ _ _, rfl, rfl⟩
theorem nil_fail (A : Option Addr) (n c : Nat) (w : World) : Calls Try.prog 15 #[.pointer none, .slice A n c] w fun e w' => e = .returned (.tuple #[]) ∧ w' = w := by
  go_enter Try.func15, Try.ntmps15
  go_wp2
  exact ⟨rfl, _, results_none (by kernel_rfl) _ _ _, rfl, rfl⟩
theorem info_act : (Try.prog.info? 40).map (fun i => (i.zero, i.size, i.bytes)) = some (some (.agg #[.int .i64 0, .slice none 0 0, .slice none 0 0]), 3, 56) := by kernel_rfl
theorem acells_one (l : List Ac) : ∀ u ∈ acells l, u.oneCell' = true := by
  intro u hu
  unfold acells at hu
  rw [List.mem_flatMap] at hu
  obtain ⟨p, _, hu⟩ := hu
  simp only [Ac.cs, List.mem_cons, List.not_mem_nil, or_false] at hu
  rcases hu with rfl | rfl | rfl <;> rfl
theorem ac_new (w : World) (t : TypeId) (a : Ac) : Reads (w.alloc (.cells a.cs.toArray t)) (w.heap.size + 1) 3 (some ⟨w.heap.size, 0, none⟩) 1 (acells [a]) := by
  refine ⟨acells_len [a], fun _ => ⟨_, rfl, by simp, fun j u hu => ?_⟩⟩
  rw [lit_add, Nat.zero_add, cell_of_row (w.alloc (.cells a.cs.toArray t)) w.heap.size j a.cs.toArray t (0, 0) (heap_alloc_new w _)]
  simpa [acells] using hu
section
variable {ops : Array Oper} {rest : List Oper} {o : Oper} {a : Act} {Q : Exit → Act → World → Prop} {w : World} {base : Nat} {v : Value}
theorem push_ac {N : Nat} (s x : Operand) {l : List Ac} (y : Ac) {cs : Array Value} (hcs : cs = y.cs.toArray) (hown : w.ownsRow base 40 3 v l.length (acells l)) (hbase : base ≤ w.heap.size) (hl : l.length ≤ 1099511627)
    (hgd : o.guard = none) (ho : o.op = .call { callee := .builtin .append, args := #[s, x], argTypes := #[23, 23] })
    (hs : a.eval s = v) (hx : a.eval x = .slice (some ⟨N, 0, none⟩) 1 1) (hN : w.heap.size = N)
    (h : ∀ v' w', w'.ownsRow base 40 3 v' (l ++ [y]).length (acells (l ++ [y])) → Below base w w' → w.heap.size ≤ w'.heap.size → Kept v v' w w' → wpList Try.prog ops Q rest (a.put o.dst v') w') :
    wpList Try.prog ops Q (o :: rest) a (w.alloc (.cells cs 40)) := by
  subst hN hcs
  obtain ⟨i0, hi0, hz0, hz1, hz2⟩ := info_parts info_act
  have hb0 := below_new w (.cells y.cs.toArray 40)
  refine wpList_append_any _ hgd s x _ ho base 40 i0 _ 3 56 Try.underlying23 hi0 hz0 hz1 hz2 rfl (by omega) v _ _ hs (hown.alloc _) (w.heap.size + 1) _ 1 1 (acells [y]) hx (ac_new w _ y) (acells_one _) (by simp only [maxLen]; omega) (by omega) (Nat.le_trans hbase hb0.size) ?_
  intro v1 w1 h1 h2 h3
  have hb := grown_below (hown.alloc (.cells y.cs.toArray 40)) h2 (Nat.le_trans hbase hb0.size)
  refine h v1 w1 ?_ ((hb0.mono hbase).trans hb) (Nat.le_trans hb0.size h2.size) (Kept.alloc (Kept.of h2 h3))
  rw [List.length_append, acells_append]
  exact h1
end
/-- Three lists of the call's own: parts, what is told, calls. -/
structure K3 (base : Nat) (w : World) (v3 v4 v5 : Value) (ps : List Pa) (ks : List Bool) (xs : List Ac) : Prop where
  p : w.ownsRow base 52 2 v3 ps.length (pcells ps)
  k : w.ownsRow base 4 1 v4 ks.length (kc ks)
  a : w.ownsRow base 40 3 v5 xs.length (acells xs)
  rp : ∀ q ∈ ps, BsX w (fun b => v3.ownBlock = some b ∨ v4.ownBlock = some b ∨ v5.ownBlock = some b) q.r.A q.r.l
  ra : ∀ x ∈ xs, BsX w (fun b => v3.ownBlock = some b ∨ v4.ownBlock = some b ∨ v5.ownBlock = some b) x.r.A x.r.l ∧ x.q = ⟨none, 0, []⟩ ∧ x.Ok
  d1 : ∀ g, v3.ownBlock = some g → v4.ownBlock ≠ some g
  d2 : ∀ g, v3.ownBlock = some g → v5.ownBlock ≠ some g
  d3 : ∀ g, v4.ownBlock = some g → v5.ownBlock ≠ some g
section
variable {base : Nat} {w w' : World} {v3 v4 v5 v' : Value} {ps : List Pa} {ks : List Bool} {xs : List Ac}
theorem K3.nil (base : Nat) (w : World) : K3 base w (.slice none 0 0) (.slice none 0 0) (.slice none 0 0) [] [] [] :=
  ⟨World.ownsRow_nil _ _ _ _, World.ownsRow_nil _ _ _ _, World.ownsRow_nil _ _ _ _, by simp, by simp, (by intro g h; cases h), (by intro g h; cases h), (by intro g h; cases h)⟩
theorem K3.below (h : K3 base w v3 v4 v5 ps ks xs) (hb : Below w.heap.size w w') : K3 base w' v3 v4 v5 ps ks xs :=
  ⟨own_below h.p hb (Nat.le_refl _), own_below h.k hb (Nat.le_refl _), own_below h.a hb (Nat.le_refl _), fun q hq => (h.rp q hq).below hb, fun x hx => ⟨(h.ra x hx).1.below hb, (h.ra x hx).2⟩, h.d1, h.d2, h.d3⟩
/-- A reading that keeps clear of a list's blocks, behind an append. -/
theorem BsX.kept {X Y : Nat → Prop} {v : Value} {A : Option Addr} {l : List UInt8} (h : BsX w X A l) (hk : Kept v v' w w') (hs : w.heap.size ≤ w'.heap.size) (hv : ∀ b, v.ownBlock = some b → X b) (hY2 : ∀ b, Y b → (v'.ownBlock = some b ∨ X b)) : BsX w' Y A l := by
  refine ⟨h.1, fun hn => ?_⟩
  obtain ⟨ad, e, hb, hx, hc⟩ := h.2 hn
  obtain ⟨h1, h2⟩ := hk ad.block hb (fun e => hx (hv _ e))
  refine ⟨ad, e, by omega, fun hy => ?_, fun j u hu => ?_⟩
  · rcases hY2 _ hy with h3 | h3
    · exact h1 h3
    · exact hx h3
  · rw [← hc j u hu]
    exact World.cell?_of_block (by rw [block_of_add]; exact h2)
theorem K3.push3 (h : K3 base w v3 v4 v5 ps ks xs) {p : Pa} (hn : w'.ownsRow base 52 2 v' (ps ++ [p]).length (pcells (ps ++ [p]))) (hk : Kept v3 v' w w') (hs : w.heap.size ≤ w'.heap.size) (hr : BsX w (fun b => v3.ownBlock = some b ∨ v4.ownBlock = some b ∨ v5.ownBlock = some b) p.r.A p.r.l) : K3 base w' v' v4 v5 (ps ++ [p]) ks xs := by
  have hv : ∀ b, v3.ownBlock = some b → (fun b => v3.ownBlock = some b ∨ v4.ownBlock = some b ∨ v5.ownBlock = some b) b := fun b e => .inl e
  have hY : ∀ b, (fun b => v'.ownBlock = some b ∨ v4.ownBlock = some b ∨ v5.ownBlock = some b) b → (v'.ownBlock = some b ∨ (fun b => v3.ownBlock = some b ∨ v4.ownBlock = some b ∨ v5.ownBlock = some b) b) := by
    rintro b (e | e | e)
    · exact .inl e
    · exact .inr (.inr (.inl e))
    · exact .inr (.inr (.inr e))
  have k4 := own_kept h.k hk (fun g hg e => h.d1 g e hg)
  have k5 := own_kept h.a hk (fun g hg e => h.d2 g e hg)
  exact ⟨hn, k4.1, k5.1, fun q hq => by
    rw [List.mem_append, List.mem_singleton] at hq
    rcases hq with hq | rfl
    · exact (h.rp q hq).kept hk hs hv hY
    · exact hr.kept hk hs hv hY, fun x hx => ⟨(h.ra x hx).1.kept hk hs hv hY, (h.ra x hx).2⟩, fun g e hg => k4.2 g hg e, fun g e hg => k5.2 g hg e, h.d3⟩
theorem K3.push4 (h : K3 base w v3 v4 v5 ps ks xs) {b : Bool} (hn : w'.ownsRow base 4 1 v' (ks ++ [b]).length (kc (ks ++ [b]))) (hk : Kept v4 v' w w') (hs : w.heap.size ≤ w'.heap.size) : K3 base w' v3 v' v5 ps (ks ++ [b]) xs := by
  have hv : ∀ b, v4.ownBlock = some b → (fun b => v3.ownBlock = some b ∨ v4.ownBlock = some b ∨ v5.ownBlock = some b) b := fun b e => .inr (.inl e)
  have hY : ∀ b, (fun b => v3.ownBlock = some b ∨ v'.ownBlock = some b ∨ v5.ownBlock = some b) b → (v'.ownBlock = some b ∨ (fun b => v3.ownBlock = some b ∨ v4.ownBlock = some b ∨ v5.ownBlock = some b) b) := by
    rintro b (e | e | e)
    · exact .inr (.inl e)
    · exact .inl e
    · exact .inr (.inr (.inr e))
  have k3 := own_kept h.p hk (h.d1)
  have k5 := own_kept h.a hk (fun g hg e => h.d3 g e hg)
  exact ⟨k3.1, hn, k5.1, fun q hq => (h.rp q hq).kept hk hs hv hY, fun x hx => ⟨(h.ra x hx).1.kept hk hs hv hY, (h.ra x hx).2⟩, fun g e hg => k3.2 g e hg, h.d2, fun g e hg => k5.2 g hg e⟩
theorem K3.push5 (h : K3 base w v3 v4 v5 ps ks xs) {y : Ac} (hn : w'.ownsRow base 40 3 v' (xs ++ [y]).length (acells (xs ++ [y]))) (hk : Kept v5 v' w w') (hs : w.heap.size ≤ w'.heap.size) (hr : BsX w (fun b => v3.ownBlock = some b ∨ v4.ownBlock = some b ∨ v5.ownBlock = some b) y.r.A y.r.l ∧ y.q = ⟨none, 0, []⟩ ∧ y.Ok) : K3 base w' v3 v4 v' ps ks (xs ++ [y]) := by
  have hv : ∀ b, v5.ownBlock = some b → (fun b => v3.ownBlock = some b ∨ v4.ownBlock = some b ∨ v5.ownBlock = some b) b := fun b e => .inr (.inr e)
  have hY : ∀ b, (fun b => v3.ownBlock = some b ∨ v4.ownBlock = some b ∨ v'.ownBlock = some b) b → (v'.ownBlock = some b ∨ (fun b => v3.ownBlock = some b ∨ v4.ownBlock = some b ∨ v5.ownBlock = some b) b) := by
    rintro b (e | e | e)
    · exact .inr (.inl e)
    · exact .inr (.inr (.inl e))
    · exact .inl e
  have k3 := own_kept h.p hk (h.d2)
  have k4 := own_kept h.k hk (h.d3)
  exact ⟨k3.1, k4.1, hn, fun q hq => (h.rp q hq).kept hk hs hv hY, fun x hx => by
    rw [List.mem_append, List.mem_singleton] at hx
    rcases hx with hx | rfl
    · exact ⟨(h.ra x hx).1.kept hk hs hv hY, (h.ra x hx).2⟩
    · exact ⟨hr.1.kept hk hs hv hY, hr.2⟩, h.d1, fun g e hg => k3.2 g e hg, fun g e hg => k4.2 g e hg⟩
theorem K3.file (h : K3 base w v3 v4 v5 ps ks xs) : ∃ A c, v3 = .slice A ps.length c ∧ FileV w (fun _ => False) v3 (says ps) := by
  obtain ⟨A, c, e, hc, _, hr⟩ := own_form h.p
  refine ⟨A, c, e, A, c, ps, e, hc, ⟨⟨hr.1, fun hn => ?_⟩, fun p hp => (h.rp p hp).mono fun _ _ hb => hb.elim⟩, rfl⟩
  obtain ⟨ad, e', hb, hcell⟩ := hr.2 hn
  exact ⟨ad, e', hb, fun hx => hx, hcell⟩
theorem K3.told (h : K3 base w v3 v4 v5 ps ks xs) : ∃ A c, v4 = .slice A ks.length c ∧ ks.length ≤ c ∧ c ≤ maxLen ∧ RdK w w.heap.size A ks := by
  obtain ⟨A, c, e, hc, hm, hr⟩ := own_form h.k
  exact ⟨A, c, e, hc, hm, hr⟩
theorem K3.calls (h : K3 base w v3 v4 v5 ps ks xs) : ∃ A c, v5 = .slice A xs.length c ∧ RdAc w w.heap.size A xs := by
  obtain ⟨A, c, e, hc, _, hr⟩ := own_form h.a
  refine ⟨A, c, e, hr, fun x hx => (h.ra x hx).1.reads, fun x hx => ?_, fun x hx => (h.ra x hx).2.2⟩
  rw [(h.ra x hx).2.1]
  exact Reads.none_
end
end Go.Proofs.Ytnlcohijopokjaa
