/- The walk of DirectKnown. Conditions: none. -/
import Derived.Test.YtdnbflhpgfgnnaaDrZ
import Derived.Test.YtdnbflhpgfgnnaaDrN
import Derived.Deep.RegionWith
namespace Go.Proofs.Ytdnbflhpgfgnnaa
open Go.RowKit

def nameOf (r : Nat) : List UInt8 := if r = 0 then [97] else if r = 1 then [98] else if r = 2 then [] else [97, 0]
theorem nameOf_len (r : Nat) : (nameOf r).length ≤ 2 := by unfold nameOf; split <;> (try split) <;> (try split) <;> decide
theorem info_ac : (Try.prog.info? 34).map (fun i => (i.zero, i.size, i.bytes)) = some (some (.agg #[.int .i64 0, .string ByteArray.empty, .int .i64 0]), 3, 32) := by kernel_rfl
theorem acells_one (l : List Ac) : ∀ u ∈ acells l, u.oneCell' = true := by
  intro u hu
  unfold acells at hu
  rw [List.mem_flatMap] at hu
  obtain ⟨p, _, hu⟩ := hu
  simp only [Ac.cs, List.mem_cons, List.not_mem_nil, or_false] at hu
  rcases hu with rfl | rfl | rfl <;> rfl
/-- The four names. -/
def NmB (w : World) (bn : Nat) : Prop := w.heap[bn]? = some (.cells #[.string (txt [97]), .string (txt [98]), .string (txt []), .string (txt [97, 0])] 9 (0, 0))
theorem NmB.cell {w : World} {bn r : Nat} (h : NmB w bn) (hr : r < 4) : w.cell? ⟨bn, r, none⟩ = some (.string (txt (nameOf r))) := by
  rw [cell_of_row w bn r _ _ _ h]
  have : r = 0 ∨ r = 1 ∨ r = 2 ∨ r = 3 := by omega
  rcases this with rfl | rfl | rfl | rfl <;> rfl
/-- A call made here. -/
structure Sm (a : Ac) : Prop where
  ok : a.Ok
  b : a.b.length ≤ 2
section
variable {ops : Array Oper} {rest : List Oper} {o : Oper} {a : Act} {Q : Exit → Act → World → Prop} {w : World} {base : Nat} {v : Value}
theorem push_ac {N : Nat} (s x : Operand) {own : List Ac} (f : Ac) (hown : w.ownsRow base 34 3 v own.length (acells own)) (hbase : base ≤ w.heap.size) (hl : own.length ≤ 1000)
    (hgd : o.guard = none) (ho : o.op = .call { callee := .builtin .append, args := #[s, x], argTypes := #[22, 22] })
    (hs : a.eval s = v) (hx : a.eval x = .slice (some ⟨N, 0, none⟩) 1 1) (hN : w.heap.size = N)
    (h : ∀ v' w', w'.ownsRow base 34 3 v' (own ++ [f]).length (acells (own ++ [f])) → Below base w w' → wpList Try.prog ops Q rest (a.put o.dst v') w') :
    wpList Try.prog ops Q (o :: rest) a (w.alloc (.cells #[.int .i64 f.k, .string (txt f.b), .int .i64 f.n] 34)) := by
  subst hN
  obtain ⟨i0, hi0, hz0, hz1, hz2⟩ := info_parts info_ac
  have hnew : Reads (w.alloc (.cells (acells [f]).toArray 34)) (w.heap.size + 1) 3 (some ⟨w.heap.size, 0, none⟩) 1 (acells [f]) := by
    refine ⟨acells_len [f], fun _ => ⟨_, rfl, by simp, fun j u hu => ?_⟩⟩
    rw [lit_add, Nat.zero_add, cell_of_row (w.alloc (.cells (acells [f]).toArray 34)) w.heap.size j (acells [f]).toArray 34 (0, 0) (heap_alloc_new w _)]
    simpa using hu
  refine wpList_append_any _ hgd s x 22 ho base 34 i0 _ 3 32 Try.underlying22 hi0 hz0 hz1 hz2 rfl (by omega) v _ _ hs (hown.alloc _) (w.heap.size + 1) _ 1 1 (acells [f]) hx hnew (acells_one _) (by simp only [maxLen]; omega) (by omega) (by simp; omega) ?_
  intro v1 w1 h1 h2 _
  have hb := ((Below.refl base w).alloc hbase _).trans (grown_below (hown.alloc (.cells (acells [f]).toArray 34)) h2 (by simp; omega))
  refine h v1 w1 ?_ hb
  rw [acells_append, List.length_append]
  exact h1
end
/-- The calls as they stand. -/
structure KnI (W : World) (bn j : Nat) (v : Value) (xs : List Ac) (wr : World) : Prop where
  len : xs.length = j
  own : wr.ownsRow W.heap.size 34 3 v xs.length (acells xs)
  sm : ∀ x ∈ xs, Sm x
  bel : Below W.heap.size W wr
theorem run_upto3 (w : World) (B : Option Addr) {d : Nat} (hd : 6 ≤ d) : (Instr.slice 22 (.slice B 6 d) none (some (.int .i64 3)) none).run Try.prog w = .ok (.slice B 3 d) w := by
  have h : (6 : Int) ≤ d := by omega
  have h2 : (3 : Int) ≤ d := by omega
  have h3 : ¬ d = 0 := by omega
  go_simp
theorem run_from2 (w : World) (B : Option Addr) {d : Nat} (hd : 6 ≤ d) : (Instr.slice 22 (.slice B 6 d) (some (.int .i64 2)) none none).run Try.prog w = .ok (.slice (B.map (·.add 6)) 4 (d - 2)) w := by
  have h : (6 : Int) ≤ d := by omega
  have h3 : ¬ d = 2 := by omega
  go_simp
section
variable {b : Act} {w : World} {o : Oper}
theorem exec_upto3 {x : Operand} {B : Option Addr} {d : Nat} (ho : o.op = .slice 22 x none (some (.const (.int .i64 3))) none) (h : b.eval x = .slice B 6 d) (hd : 6 ≤ d) : (execOp b.eval o).run Try.prog w = .ok (.value (.slice B 3 d)) w := by
  have hs := fun w => run_upto3 w B hd
  unfold execOp
  simp only [ho, h]
  go_simp
theorem exec_from2 {x : Operand} {B : Option Addr} {d : Nat} (ho : o.op = .slice 22 x (some (.const (.int .i64 2))) none none) (h : b.eval x = .slice B 6 d) (hd : 6 ≤ d) : (execOp b.eval o).run Try.prog w = .ok (.value (.slice (B.map (·.add 6)) 4 (d - 2))) w := by
  have hs := fun w => run_from2 w B hd
  unfold execOp
  simp only [ho, h]
  go_simp
theorem exec_rem6 {x : Operand} {n : Nat} (ho : o.op = .binOp .rem 3 x (.const (.int .i64 6)) 3) (h : b.eval x = .int .i64 (n : Int)) (hn : n ≤ 5000) : (execOp b.eval o).run Try.prog w = .ok (.value (.int .i64 ((n : Int) % 6))) w := by
  have h1 : (n : Int) ≤ 5000 := by omega
  have h2 : (n : Int).tmod 6 = (n : Int) % 6 := Int.tmod_eq_emod_of_nonneg (by omega)
  unfold execOp
  simp only [ho, h]
  go_simp
theorem exec_sub1 {x : Operand} {n : Nat} (ho : o.op = .binOp .sub 3 x (.const (.int .i64 1)) 3) (h : b.eval x = .int .i64 ((n : Int) % 6)) : (execOp b.eval o).run Try.prog w = .ok (.value (.int .i64 ((n : Int) % 6 - 1))) w := by
  have h0 : 0 ≤ (n : Int) % 6 := by omega
  have h1 : (n : Int) % 6 ≤ 5 := by omega
  generalize (n : Int) % 6 = r at h h0 h1 ⊢
  have h2 : IntKind.i64.wrap (r - 1) = r - 1 := by
    rw [IntKind.wrap_i64]
    omega
  unfold execOp
  simp only [ho, h]
  go_simp
end
theorem enter_Plays (w : World) (args : Array Value) : (callFunc 3 args).run Try.prog w = .ok (.enter 3 args) w := by kernel_rfl
theorem enter_Fails (w : World) (args : Array Value) : (callFunc 4 args).run Try.prog w = .ok (.enter 4 args) w := by kernel_rfl
/-- What region 12 yields. -/
def KnF (B : Option Addr) (d n : Nat) : Nat → Value → World → Prop := fun i x _ => match i with
  | 0 => x = .slice B 6 d
  | 1 => x = .bool true
  | 2 => x = .bool false
  | 3 => x = .bool false
  | 4 => x = .slice B 6 d
  | 5 => x = .slice B 3 d
  | 6 => x = .slice B 6 d
  | 7 => x = .slice (B.map (·.add 6)) 4 (d - 2)
  | 8 => x = .int .i64 (n : Int)
  | 9 => x = .int .i64 ((n : Int) % 6)
  | 10 => x = .int .i64 ((n : Int) % 6 - 1)
  | 11 => x = .bool true
  | 12 => x = .bool false
  | 13 => x = .bool false
  | _ => True
theorem KnF.keep {B : Option Addr} {d n : Nat} (i : Nat) (x : Value) (w w' : World) (_ : Below w.heap.size w w') (h : KnF B d n i x w) : KnF B d n i x w' := h
set_option maxHeartbeats 8000000 in
set_option maxRecDepth 100000 in
theorem known_any (w : World) : Calls Try.prog 6 #[] w fun e w' => e = .returned (.bool true) ∧ Below w.heap.size w w' := by
  obtain ⟨W, hW⟩ : ∃ W, Hid (w.alloc (.cells #[.string (txt [97]), .string (txt [98]), .string (txt []), .string (txt [97, 0])] 9) = W) := ⟨_, rfl⟩
  obtain ⟨bn, hbn⟩ : ∃ b, Hid (w.heap.size = b) := ⟨_, rfl⟩
  have hb0 : Hid (Below w.heap.size w W) := by rw [← hW.out]; exact below_new _ _
  have hn0 : Hid (NmB W bn) := by rw [← hW.out, ← hbn.out]; exact heap_alloc_new _ _
  have hmix : Try.prog.follows .mixedOrders = true := by kernel_rfl
  go_enter Try.func6, Try.ntmps6
  go_upto_region 2 with fail
  change Code.wp _ _ _ _ (w.alloc (.cells #[.string (txt [97]), .string (txt [98]), .string (txt []), .string (txt [97, 0])] 9))
  rw [hW.out, hbn.out]
  go_wp2
  go_loopw [2] (fun i wr => ∃ n : Nat, n ≤ 4100 ∧ i = .int .i64 (n : Int) ∧ Hid (Below w.heap.size w wr) ∧ Hid (NmB wr bn)) (fun i _ => 4100 - (intOf i).toNat)
  case atStart => exact ⟨0, by omega, rfl, hb0, hn0⟩
  case round =>
    clear hb0 hn0
    obtain ⟨n, hn, rfl, hbr, hnm⟩ := hrel
    by_cases hlt : n < 4096
    · have hnI : (n : Int) < 4096 := by omega
      obtain ⟨wo, hwo⟩ : ∃ x, Hid (wr = x) := ⟨_, rfl⟩
      rw [hwo.out] at hbr hnm ⊢
      clear hwo
      go_wp2
      go_loopw [3, 4, 5] (fun v k i wk => ∃ (j kk : Nat) (xs : List Ac), j ≤ 6 ∧ i = .int .i64 (j : Int) ∧ k = .int .i64 (kk : Int) ∧ kk ≤ 5000 ∧ Hid (KnI wo bn j v xs wk)) (fun _ _ i _ => 6 - (intOf i).toNat)
      case atStart => exact ⟨0, n, [], by omega, rfl, rfl, by omega, ⟨rfl, World.ownsRow_nil _ _ _ _, by simp, Below.refl _ _⟩⟩
      case round =>
        obtain ⟨j, kk, xs, hj, rfl, rfl, hkk, hI⟩ := hrel
        by_cases hj6 : j < 6
        · have hjI : (j : Int) < 6 := by omega
          have hkI : (kk : Int) ≤ 5000 := by omega
          have hnk : Hid (NmB wr bn) := (hI.out.bel.block bn (Array.getElem?_eq_some_iff.1 hnm.out).1).trans hnm.out
          have hcell := hnk.out.cell (r := (kk + j) % 4) (by omega)
          have hown := Lib.hid hI.out.own
          have hll : Hid (xs.length ≤ 1000) := by rw [hI.out.len]; show _ ≤ _; omega
          obtain ⟨f, hf⟩ : ∃ f : Ac, Hid (f = ⟨(kk : Int) % 6 + (j : Int) % 2, nameOf ((kk + j) % 4), (kk : Int) % 4 - 1⟩) := ⟨_, Lib.hid rfl⟩
          have hsm : Hid (Sm f) := by
            rw [hf.out]
            have := nameOf_len ((kk + j) % 4)
            exact ⟨⟨by simp only; omega, by simp only; omega, by simp only; omega, by simp only; omega, by simp only; omega⟩, this⟩
          have hadd : ∀ v' w', w'.ownsRow wo.heap.size 34 3 v' (xs ++ [f]).length (acells (xs ++ [f])) → Below wo.heap.size wr w' → KnI wo bn (j + 1) v' (xs ++ [f]) w' := by
            intro v' w' ho hb
            refine ⟨by rw [List.length_append, hI.out.len]; rfl, ho, fun x hx => ?_, hI.out.bel.trans hb⟩
            rcases List.mem_append.1 hx with hx | hx
            · exact hI.out.sm x hx
            · rw [List.mem_singleton] at hx; rw [hx]; exact hsm.out
          have Hadd := Lib.hid hadd
          clear hadd
          go_wp2_with (at_builtin; refine push_ac (.tmp 16) (.tmp 33) ⟨(kk : Int) % 6 + (j : Int) % 2, nameOf ((kk + j) % 4), (kk : Int) % 4 - 1⟩ hown.out hI.out.bel.size hll.out rfl rfl rfl rfl rfl ?_; intro v' w3 hown' hb3; rw [← hf.out] at hown'; have hk' := Lib.hid (Hadd.out v' w3 hown' hb3); clear hown' hb3)
          go_roundw
          case rel => exact ⟨j + 1, kk / 3 + 7 * j, xs ++ [f], by omega, by go_num, congrArg (Value.int .i64) (by omega), by omega, hk'⟩
          case measure => simp [intOf]; omega
        · obtain rfl : j = 6 := by omega
          have hown := Lib.hid hI.out.own
          have hlen := Lib.hid hI.out.len
          obtain ⟨B, d, rfl, hcap, hcap2, hrd⟩ := own_form hown.out
          rw [hlen.out] at hcap ⊢
          have hno := own_avoid (X := fun _ => False) hown.out fun _ (e : False) => e.elim
          have hok : ∀ x ∈ xs, x.Ok := fun x hx => (hI.out.sm x hx).ok
          have hA : Hid (AcX wr (fun _ => False) B xs) := ⟨hno, hok⟩
          have hA3 : Hid (AcX wr (fun _ => False) B (xs.take 3)) := by
            refine ⟨⟨acells_len _, fun hn => ?_⟩, fun x hx => hok x (List.mem_of_mem_take hx)⟩
            obtain ⟨ad, e, h1, h2, h3⟩ := hno.2 (by rw [hlen.out]; omega)
            refine ⟨ad, e, h1, h2, fun q u hu => h3 q u ?_⟩
            have e2 : acells xs = acells (xs.take 3) ++ acells (xs.drop 3) := by rw [← acells_append, List.take_append_drop]
            rw [e2, List.getElem?_append_left (List.getElem?_eq_some_iff.1 hu).1]
            exact hu
          have hA2 : Hid (AcX wr (fun _ => False) (B.map (·.add 6)) (xs.drop 2)) := by
            refine ⟨⟨acells_len _, fun hn => ?_⟩, fun x hx => hok x (List.mem_of_mem_drop hx)⟩
            obtain ⟨ad, e, h1, h2, h3⟩ := hno.2 (by rw [hlen.out]; omega)
            refine ⟨ad.add 6, by rw [e]; rfl, by rw [block_of_add]; exact h1, h2, fun q u hu => ?_⟩
            rw [add_of_add]
            refine h3 _ u ?_
            have e2 : acells xs = acells (xs.take 2) ++ acells (xs.drop 2) := by rw [← acells_append, List.take_append_drop]
            have e3 : (acells (xs.take 2)).length = 6 := by rw [acells_len, List.length_take, hlen.out]; rfl
            rw [e2, List.getElem?_append_right (by omega), e3, show 6 + q - 6 = q by omega]
            exact hu
          have hl3 : (xs.take 3).length = 3 := by rw [List.length_take, hlen.out]; rfl
          have hl2 : (xs.drop 2).length = 4 := by rw [List.length_drop, hlen.out]
          have hsl1 := fun w => run_upto3 w B hcap
          have hsl2 := fun w => run_from2 w B hcap
          have hbW : Hid (Below w.heap.size w wr) := hbr.out.trans (hI.out.bel.mono hbr.out.size)
          have hnr : Hid (NmB wr bn) := (hI.out.bel.block bn (Array.getElem?_eq_some_iff.1 hnm.out).1).trans hnm.out
          have hplay : ∀ w1, Below wr.heap.size wr w1 → Calls Try.prog 3 #[.slice B 6 d] w1 fun e w' => e = .returned (.bool true) ∧ Below w1.heap.size w1 w' := by
            intro w1 hb'
            have h1 := plays_any (c := d) (hA.out.below hb') (by rw [hlen.out]; decide)
            rw [hlen.out] at h1
            exact h1
          have hplay := Lib.hid hplay
          have hfail : ∀ w1, Below wr.heap.size wr w1 → Calls Try.prog 4 #[.slice B 3 d, .slice (B.map (·.add 6)) 4 (d - 2), .int .i64 ((n : Int) % 6 - 1)] w1 fun e w' => e = .returned (.bool true) ∧ Below w1.heap.size w1 w' := by
            intro w1 hb'
            have h1 := fails_any (cA := d) (cB := d - 2) (keep := (n : Int) % 6 - 1) (hA3.out.below hb') (hA2.out.below hb') (by rw [hl3]; decide) (by rw [hl2]; decide) (by rw [hl2]; omega) ⟨by omega, by omega⟩
            rw [hl3, hl2] at h1
            exact h1
          have Hfail := Lib.hid hfail
          have hn5 : n ≤ 5000 := by omega
          clear hfail hno hok hrd
          go_upto_region 12 with fail
          go_cut [53] from 40 to 53 (fun x wy => x = .bool false ∧ Hid (Below wr.heap.size wr wy))
          case first =>
            rename_i J K2 hJ hK2
            refine wp_region_facts (n := 64) (KnF B d n) (BelC wr) (by kernel_rfl) (by kernel_rfl) rfl (Below.refl _ _).drew ?_ ?_
            rotate_left
            · intro b' w' hsz hd hs' hc hall
              have e13 : b'.tmps.getD 53 undef = .bool false := hall 13 _ _ rfl rfl
              exact hK2 _ _ (Met.intro (hJ _ _ ⟨b'.tmps.getD 40 undef, b'.tmps.getD 41 undef, b'.tmps.getD 42 undef, b'.tmps.getD 43 undef, b'.tmps.getD 44 undef, b'.tmps.getD 45 undef, b'.tmps.getD 46 undef, b'.tmps.getD 47 undef, b'.tmps.getD 48 undef, b'.tmps.getD 49 undef, b'.tmps.getD 50 undef, b'.tmps.getD 51 undef, b'.tmps.getD 52 undef, b'.tmps.getD 53 undef, ⟨e13, hc⟩, (act_known hsz hd hs').trans (by kernel_rfl)⟩))
            refine OpsOk.cons _ _ (OpOk.run _ _ KnF.keep BelC.keep fun b v hs hc hg => ⟨rfl, _, _, exec_move rfl (hs 3 (by kernel_rfl)), .refl _ _, rfl⟩) ?_
            refine OpsOk.cons _ _ (OpOk.call _ _ KnF.keep BelC.keep fun b v hs hc hg => ⟨rfl, _, _, exec_call1 (enter_Plays _) rfl (dep hg 0 rfl rfl rfl rfl), (hplay.out v hc).mono fun e w' h => ⟨_, h.1, h.2, rfl⟩⟩) ?_
            refine OpsOk.cons _ _ (OpOk.run _ _ KnF.keep BelC.keep fun b v hs hc hg => ⟨rfl, _, _, exec_not' rfl (dep hg 0 rfl rfl rfl rfl), .refl _ _, rfl⟩) ?_
            refine OpsOk.cons _ _ (OpOk.run _ _ KnF.keep BelC.keep fun b v hs hc hg => ⟨rfl, _, _, exec_move rfl (dep hg 0 rfl rfl rfl rfl), .refl _ _, rfl⟩) ?_
            refine OpsOk.cons _ _ (OpOk.run _ _ KnF.keep BelC.keep fun b v hs hc hg => ⟨wanted_of rfl rfl rfl (dep hg 0 rfl rfl rfl rfl), _, _, exec_move rfl (hs 3 (by kernel_rfl)), .refl _ _, rfl⟩) ?_
            refine OpsOk.cons _ _ (OpOk.run _ _ KnF.keep BelC.keep fun b v hs hc hg => ⟨wanted_of rfl rfl rfl (dep hg 1 rfl rfl rfl rfl), _, _, exec_upto3 rfl (dep hg 0 rfl rfl rfl rfl) hcap, .refl _ _, rfl⟩) ?_
            refine OpsOk.cons _ _ (OpOk.run _ _ KnF.keep BelC.keep fun b v hs hc hg => ⟨wanted_of rfl rfl rfl (dep hg 0 rfl rfl rfl rfl), _, _, exec_move rfl (hs 3 (by kernel_rfl)), .refl _ _, rfl⟩) ?_
            refine OpsOk.cons _ _ (OpOk.run _ _ KnF.keep BelC.keep fun b v hs hc hg => ⟨wanted_of rfl rfl rfl (dep hg 1 rfl rfl rfl rfl), _, _, exec_from2 rfl (dep hg 0 rfl rfl rfl rfl) hcap, .refl _ _, rfl⟩) ?_
            refine OpsOk.cons _ _ (OpOk.run _ _ KnF.keep BelC.keep fun b v hs hc hg => ⟨wanted_of rfl rfl rfl (dep hg 0 rfl rfl rfl rfl), _, _, exec_move rfl (hs 2 (by kernel_rfl)), .refl _ _, rfl⟩) ?_
            refine OpsOk.cons _ _ (OpOk.run _ _ KnF.keep BelC.keep fun b v hs hc hg => ⟨wanted_of rfl rfl rfl (dep hg 1 rfl rfl rfl rfl), _, _, exec_rem6 rfl (dep hg 0 rfl rfl rfl rfl) hn5, .refl _ _, rfl⟩) ?_
            refine OpsOk.cons _ _ (OpOk.run _ _ KnF.keep BelC.keep fun b v hs hc hg => ⟨wanted_of rfl rfl rfl (dep hg 1 rfl rfl rfl rfl), _, _, exec_sub1 rfl (dep hg 0 rfl rfl rfl rfl), .refl _ _, rfl⟩) ?_
            refine OpsOk.cons _ _ (OpOk.call _ _ KnF.keep BelC.keep fun b v hs hc hg => ⟨wanted_of rfl rfl rfl (dep hg 4 rfl rfl rfl rfl), _, _, exec_call3 (enter_Fails _) rfl (dep hg 0 rfl rfl rfl rfl) (dep hg 1 rfl rfl rfl rfl) (dep hg 2 rfl rfl rfl rfl), (Hfail.out v hc).mono fun e w' h => ⟨_, h.1, h.2, rfl⟩⟩) ?_
            refine OpsOk.cons _ _ (OpOk.run _ _ KnF.keep BelC.keep fun b v hs hc hg => ⟨wanted_of rfl rfl rfl (dep hg 1 rfl rfl rfl rfl), _, _, exec_not' rfl (dep hg 0 rfl rfl rfl rfl), .refl _ _, rfl⟩) ?_
            refine OpsOk.cons _ _ (OpOk.run _ _ KnF.keep BelC.keep fun b v hs hc hg => ⟨rfl, _, _, exec_pick rfl (dep hg 0 rfl rfl rfl rfl) (dep hg 1 rfl rfl rfl rfl), .refl _ _, rfl⟩) ?_
            exact OpsOk.nil _ _
          obtain ⟨hx53, hb9⟩ := hcut
          subst hx53
          have hb8 := Lib.hid (hbW.out.trans (hb9.out.mono hbW.out.size))
          have hn8 : Hid (NmB wc bn) := (hb9.out.block bn (Array.getElem?_eq_some_iff.1 hnr.out).1).trans hnr.out
          rename_i K3 hK3
          apply hK3
          clear hK3 hb9
          go_wp2
          go_roundw
          case rel => exact ⟨n + 5, by omega, by go_num, hb8, hn8⟩
          case measure => simp [intOf]; omega
    · have hnI : ¬ (n : Int) < 4096 := by omega
      have hfa : AcX wr (fun _ => False) none [] := AcX.nil
      go_wp2_with (first
        | (go_at_call 5; refine (none_any [97] 1 _).mono ?_; rintro e w1 ⟨rfl, hb1⟩)
        | (go_at_call 3; refine (plays_any (A := none) (c := 0) (l := []) AcX.nil (by decide)).mono ?_; rintro e w2 ⟨rfl, hb2⟩)
        | (go_at_call 4; refine (fails_any (A := none) (B := none) (cA := 0) (cB := 0) (a := []) (b := []) (keep := 0) AcX.nil AcX.nil (by decide) (by decide) (by decide) ⟨by decide, by decide⟩).mono ?_; rintro e w3 ⟨rfl, hb3⟩)
        | (go_at_call 8; refine (works_any _).mono ?_; rintro e w4 ⟨rfl, hb4⟩))
      go_ret
      have h1 := below_then hbr.out hb1 (Nat.le_refl _)
      have h2 := below_then h1 hb2 (Nat.le_refl _)
      have h3 := below_then h2 hb3 (Nat.le_refl _)
      exact ⟨rfl, below_then h3 hb4 (Nat.le_refl _)⟩
end Go.Proofs.Ytdnbflhpgfgnnaa
