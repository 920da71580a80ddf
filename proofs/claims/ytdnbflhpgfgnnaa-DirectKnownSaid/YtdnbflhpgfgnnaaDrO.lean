/- all: calls, done. Conditions: at most 300 calls, of names of at most 80 bytes. -/
import Derived.Test.YtdnbflhpgfgnnaaDrM
namespace Go.Proofs.Ytdnbflhpgfgnnaa
open Go.RowKit

/-- What a call does. -/
def St.does1 (s : St) (a : Ac) : St := if a.k % 6 = 0 then (s.add a.b a.n).1 else if a.k % 6 = 1 then (s.remove a.b).1 else if a.k % 6 = 3 then s.sync else s
def St.all (s : St) (l : List Ac) : St := l.foldl St.does1 s
theorem St.all_snoc (s : St) (l : List Ac) (a : Ac) : s.all (l ++ [a]) = (s.all l).does1 a := by simp [St.all, List.foldl_append]
theorem Ac.sz {a : Ac} (h : a.Ok) (hb : a.b.length ≤ 80) : Sz (a.b, a.n) := ⟨by simp only; omega, h.nlo, h.nhi⟩
theorem set_set {α : Type} (L : List α) (k : Nat) (a b : α) : (L.set k a).set k b = L.set k b := by simp
theorem set_at {L : List (Nat × St)} {k : Nat} {x y : Nat × St} (h : L[k]? = some x) : (L.set k y)[k]? = some y := by
  have := (List.getElem?_eq_some_iff.1 h).1
  rw [List.getElem?_set_self this]
section
variable {b : Act} {w : World} {o : Oper}
theorem exec_atA {x y : Operand} {ad : Addr} {n c k : Nat} (ho : o.op = .indexAddr 22 x y) (h : b.eval x = .slice (some ad) n c) (h' : b.eval y = .int .i64 (k : Int)) (hk : k < n) : (execOp b.eval o).run Try.prog w = .ok (.value (.pointer (some (ad.add (k * 3))))) w := by
  have hk' : (k : Int) < n := by omega
  unfold execOp
  simp only [ho, h, h']
  go_simp
theorem exec_fieldA1 {x : Operand} {a : Addr} (ho : o.op = .fieldAddr 34 x 1) (h : b.eval x = .pointer (some a)) : (execOp b.eval o).run Try.prog w = .ok (.value (.pointer (some ⟨a.block, a.off + 1, none⟩))) w := by
  unfold execOp
  simp only [ho, h]
  go_simp
theorem exec_fieldA2 {x : Operand} {a : Addr} (ho : o.op = .fieldAddr 34 x 2) (h : b.eval x = .pointer (some a)) : (execOp b.eval o).run Try.prog w = .ok (.value (.pointer (some ⟨a.block, a.off + 2, none⟩))) w := by
  unfold execOp
  simp only [ho, h]
  go_simp
theorem exec_loadI {x : Operand} {a : Addr} {u : Value} (ho : o.op = .load 3 x) (h : b.eval x = .pointer (some a)) (hc : w.cell? a = some u) : (execOp b.eval o).run Try.prog w = .ok (.value u) w := by
  unfold execOp
  simp only [ho, h]
  go_simp
theorem exec_loadStr {x : Operand} {a : Addr} {u : Value} (ho : o.op = .load 9 x) (h : b.eval x = .pointer (some a)) (hc : w.cell? a = some u) : (execOp b.eval o).run Try.prog w = .ok (.value u) w := by
  unfold execOp
  simp only [ho, h]
  go_simp
theorem wpList_call3 {P : Program} {ops : Array Oper} {Q : Exit → Act → World → Prop} {o : Oper} {rest : List Oper} {a : Act} {w : World} {f : FuncId} (x y z : Operand) {t t' t'' : TypeId} {v v' v'' : Value} (hgd : o.guard = none) (hf : ∀ args, (callFunc f args).run P w = .ok (.enter f args) w)
    (ho : o.op = .call { callee := .value (.func f), args := #[x, y, z], argTypes := #[t, t', t''] }) (h : a.eval x = v) (h' : a.eval y = v') (h'' : a.eval z = v'') (hc : Calls P f #[v, v', v''] w fun e w2 => ∃ u, e = .returned u ∧ wpList P ops Q rest (a.put o.dst u) w2) : wpList P ops Q (o :: rest) a w := by
  refine wpList_plain hgd fun K hK => ?_
  unfold Oper.wp
  rw [exec_call3 hf ho h h' h'', Oper.upon_enter]
  refine hc.mono ?_
  rintro e w2 ⟨u, rfl, hk⟩
  exact hK _ _ hk
end
theorem enter_Add (w : World) (args : Array Value) : (callFunc 22 args).run Try.prog w = .ok (.enter 22 args) w := by kernel_rfl
/-- What region 5 yields. -/
def AlF (g : Nat) (sl : Value) (j : Nat) (p q r : Addr) (u v : Value) : Nat → Value → World → Prop := fun i x _ => match i with
  | 0 => x = .pointer (some ⟨g, 0, none⟩)
  | 1 => x = sl
  | 2 => x = .int .i64 (j : Int)
  | 3 => x = .pointer (some p)
  | 4 => x = .pointer (some q)
  | 5 => x = u
  | 6 => x = sl
  | 7 => x = .int .i64 (j : Int)
  | 8 => x = .pointer (some p)
  | 9 => x = .pointer (some r)
  | 10 => x = v
  | _ => True
theorem AlF.keep {g : Nat} {sl : Value} {j : Nat} {p q r : Addr} {u v : Value} (i : Nat) (x : Value) (w w' : World) (_ : Below w.heap.size w w') (h : AlF g sl j p q r u v i x w) : AlF g sl j p q r u v i x w' := h
section
variable {w0 w : World} {N k g n c : Nat} {A : Option Addr} {l : List Ac} {L : List (Nat × St)} {R : List Rd} {s : St}
set_option maxHeartbeats 4000000 in
set_option maxRecDepth 100000 in
theorem all_ds (h : Ds w0 w N L R) (hk : L[k]? = some (g, s)) (hn : l.length = n) (hN : N + n ≤ 1000) (hl : ∀ a ∈ l, a.Ok ∧ a.b.length ≤ 80) (hr : (⟨3, A, n, acells l⟩ : Rd) ∈ R) :
    Calls Try.prog 12 #[.pointer (some ⟨g, 0, none⟩), .slice A n c] w fun e w' => e = .returned (.tuple #[]) ∧ Ds w0 w' (N + n) (L.set k (g, s.all l)) R := by
  have hnI : (n : Int) ≤ 1000 := by omega
  have Hk := Lib.hid hk
  have Hn := Lib.hid hn
  have HN := Lib.hid hN
  have Hl := Lib.hid hl
  have Hr := Lib.hid hr
  have hset0 : L.set k (g, s) = L := by
    apply List.ext_getElem?
    intro j
    by_cases hj : j = k
    · subst hj; rw [set_at hk, hk]
    · rw [List.getElem?_set_ne (fun e => hj e.symm)]
  have H := Lib.hid h
  have Hs := Lib.hid hset0
  clear h hk hn hl hr hset0
  go_enter Try.func12, Try.ntmps12
  go_wp2
  go_loopw [4] (fun i wr => ∃ j : Nat, j ≤ n ∧ i = .int .i64 (j : Int) ∧ Hid (Ds w0 wr (N + j) (L.set k (g, s.all (l.take j))) R)) (fun i _ => n - (intOf i).toNat)
  case atStart => exact ⟨0, by omega, rfl, by rw [List.take_zero]; show Hid (Ds w0 w N (L.set k (g, s)) R); rw [Hs.out]; exact H⟩
  case round =>
    obtain ⟨j, hj, rfl, hd⟩ := hrel
    by_cases hlt : j < n
    · have hx : AcX wr (fun _ => False) A l := ⟨by rw [Hn.out]; exact hd.out.reads Hr.out, fun a ha => (Hl.out a ha).1⟩
      obtain ⟨ad, a, rfl, hab, hc0, hc1, hc2, hxj, hok⟩ := hx.at_ (k := j) (by rw [Hn.out]; exact hlt)
      have hjn : (j : Int) < (n : Int) := by omega
      have hmem := Hl.out a (List.mem_of_getElem? hxj.out)
      obtain ⟨t, ht⟩ : ∃ t, Hid (s.all (l.take j) = t) := ⟨_, rfl⟩
      have hd' := hd
      rw [ht.out] at hd'
      have hset := Lib.hid (set_at (y := (g, t)) Hk.out)
      have hstep : Hid (∀ t' wx, t.does1 a = t' → Ds w0 wx (N + j + 1) (L.set k (g, t')) R → Hid (Ds w0 wx (N + (j + 1)) (L.set k (g, s.all (l.take (j + 1)))) R)) := by
        intro t' wx e hw
        rw [take_snoc hxj, St.all_snoc, ht.out, e]
        exact hw
      have Hsz := Lib.hid (Ac.sz hok hmem.2)
      have Hb := Lib.hid hmem.2
      have hNj : Hid (N + j ≤ 1000) := by have := HN.out; show _ ≤ _; omega
      clear hmem hok hd ht hx
      by_cases h0 : a.k % 6 = 0
      · have hdo : Hid (t.does1 a = (t.add a.b a.n).1) := by show t.does1 a = _; unfold St.does1; rw [if_pos h0]
        go_wp2_with (go_at_call 16; refine (pick6_any _ _).mono ?_; rintro e w1 ⟨rfl, rfl⟩)
        have hab2 : (ad.add (j * 3)).block < w1.heap.size := by rw [block_of_add]; exact hab
        refine wp_region_tailP (n := 44) (m := 11) (AlF g (.slice (some ad) n c) j (ad.add (j * 3)) ⟨(ad.add (j * 3)).block, (ad.add (j * 3)).off + 1, none⟩ ⟨(ad.add (j * 3)).block, (ad.add (j * 3)).off + 2, none⟩ (.string (txt a.b)) (.int .i64 a.n)) (BelC w1) (by kernel_rfl) (by kernel_rfl) rfl rfl (by decide) (by kernel_rfl) (by kernel_rfl) (Below.refl _ _).drew ?_ ?_
        rotate_left
        · intro b' w' hsz hd hs' hc hall
          have e0 : b'.tmps.getD 19 undef = .pointer (some ⟨g, 0, none⟩) := hall 0 _ _ (by decide) rfl rfl
          have e5 : b'.tmps.getD 24 undef = .string (txt a.b) := hall 5 _ _ (by decide) rfl rfl
          have e10 : b'.tmps.getD 29 undef = .int .i64 a.n := hall 10 _ _ (by decide) rfl rfl
          refine wpList_call3 (.tmp 19) (.tmp 24) (.tmp 29) rfl (enter_Add w') rfl e0 e5 e10 ((add_ds (hd'.out.below hc) hset.out hNj.out a.b a.n Hsz.out).mono ?_)
          rintro e w2 ⟨rfl, hD⟩
          rw [set_set] at hD
          refine ⟨_, rfl, ?_⟩
          have hst := hstep.out _ w2 hdo.out hD
          have hact : b'.put (some 30) (.int .i64 (t.add a.b a.n).2) = { tmps := #[.pointer (some ⟨g, 0, none⟩), .slice (some ad) n c, undef, undef, .int .i64 (j : Int), .int .i64 (j : Int), .slice (some ad) n c, .int .i64 (n : Int), .bool true, u9, u10, .slice (some ad) n c, .int .i64 (j : Int), .pointer (some (ad.add (j * 3))), .pointer (some (ad.add (j * 3))), .int .i64 a.k, .int .i64 0, .bool true, .bool true, b'.tmps.getD 19 undef, b'.tmps.getD 20 undef, b'.tmps.getD 21 undef, b'.tmps.getD 22 undef, b'.tmps.getD 23 undef, b'.tmps.getD 24 undef, b'.tmps.getD 25 undef, b'.tmps.getD 26 undef, b'.tmps.getD 27 undef, b'.tmps.getD 28 undef, b'.tmps.getD 29 undef, .int .i64 (t.add a.b a.n).2, u31, u32, u33, u34, u35, u36, u37, u38, u39, u40, u41, u42, u43], defers := [] } :=
            (congrArg (fun a : Act => a.put (some 30) _) (act_known hsz hd hs')).trans (by kernel_rfl)
          show wpList Try.prog _ _ [] (b'.put (some 30) _) w2
          rw [hact]
          generalize b'.tmps.getD 19 undef = x19
          generalize b'.tmps.getD 20 undef = x20
          generalize b'.tmps.getD 21 undef = x21
          generalize b'.tmps.getD 22 undef = x22
          generalize b'.tmps.getD 23 undef = x23
          generalize b'.tmps.getD 24 undef = x24
          generalize b'.tmps.getD 25 undef = x25
          generalize b'.tmps.getD 26 undef = x26
          generalize b'.tmps.getD 27 undef = x27
          generalize b'.tmps.getD 28 undef = x28
          generalize b'.tmps.getD 29 undef = x29
          clear hact e0 e5 e10 hall hs' hd hsz hc0 hc1 hc2
          go_wp2
          go_roundw
          case rel => exact ⟨j + 1, by omega, by go_num, hst⟩
          case measure => simp [intOf]; omega
        refine OpsOk.cons _ _ (OpOk.run _ _ AlF.keep BelC.keep fun b v hs hc hg => ⟨rfl, _, _, exec_move rfl (hs 0 (by kernel_rfl)), .refl _ _, rfl⟩) ?_
        refine OpsOk.cons _ _ (OpOk.run _ _ AlF.keep BelC.keep fun b v hs hc hg => ⟨rfl, _, _, exec_move rfl (hs 1 (by kernel_rfl)), .refl _ _, rfl⟩) ?_
        refine OpsOk.cons _ _ (OpOk.run _ _ AlF.keep BelC.keep fun b v hs hc hg => ⟨rfl, _, _, exec_move rfl (hs 4 (by kernel_rfl)), .refl _ _, rfl⟩) ?_
        refine OpsOk.cons _ _ (OpOk.run _ _ AlF.keep BelC.keep fun b v hs hc hg => ⟨rfl, _, _, exec_atA rfl (dep hg 0 rfl rfl rfl rfl) (dep hg 1 rfl rfl rfl rfl) hlt, .refl _ _, rfl⟩) ?_
        refine OpsOk.cons _ _ (OpOk.run _ _ AlF.keep BelC.keep fun b v hs hc hg => ⟨rfl, _, _, exec_fieldA1 rfl (dep hg 0 rfl rfl rfl rfl), .refl _ _, rfl⟩) ?_
        refine OpsOk.cons _ _ (OpOk.run _ _ AlF.keep BelC.keep fun b v hs hc hg => ⟨rfl, _, _, exec_loadStr rfl (dep hg 0 rfl rfl rfl rfl) ((hc.cell (p := ⟨(ad.add (j * 3)).block, (ad.add (j * 3)).off + 1, none⟩) hab2).trans hc1), .refl _ _, rfl⟩) ?_
        refine OpsOk.cons _ _ (OpOk.run _ _ AlF.keep BelC.keep fun b v hs hc hg => ⟨rfl, _, _, exec_move rfl (hs 1 (by kernel_rfl)), .refl _ _, rfl⟩) ?_
        refine OpsOk.cons _ _ (OpOk.run _ _ AlF.keep BelC.keep fun b v hs hc hg => ⟨rfl, _, _, exec_move rfl (hs 4 (by kernel_rfl)), .refl _ _, rfl⟩) ?_
        refine OpsOk.cons _ _ (OpOk.run _ _ AlF.keep BelC.keep fun b v hs hc hg => ⟨rfl, _, _, exec_atA rfl (dep hg 0 rfl rfl rfl rfl) (dep hg 1 rfl rfl rfl rfl) hlt, .refl _ _, rfl⟩) ?_
        refine OpsOk.cons _ _ (OpOk.run _ _ AlF.keep BelC.keep fun b v hs hc hg => ⟨rfl, _, _, exec_fieldA2 rfl (dep hg 0 rfl rfl rfl rfl), .refl _ _, rfl⟩) ?_
        refine OpsOk.cons _ _ (OpOk.run _ _ AlF.keep BelC.keep fun b v hs hc hg => ⟨rfl, _, _, exec_loadI rfl (dep hg 0 rfl rfl rfl rfl) ((hc.cell (p := ⟨(ad.add (j * 3)).block, (ad.add (j * 3)).off + 2, none⟩) hab2).trans hc2), .refl _ _, rfl⟩) ?_
        exact OpsOk.nil _ _
      · by_cases h1 : a.k % 6 = 1
        · have hdo : Hid (t.does1 a = (t.remove a.b).1) := by show t.does1 a = _; unfold St.does1; rw [if_neg h0, if_pos h1]
          clear h0
          go_wp2_with (first
            | (go_at_call 16; refine (pick6_any _ _).mono ?_; rintro e w1 ⟨rfl, rfl⟩; rw [h1])
            | (go_at_call 20; refine (remove_ds hd'.out hset.out hNj.out a.b (by have := Hb.out; omega)).mono ?_; rintro e w2 ⟨rfl, hD⟩; rw [set_set] at hD; have hst := hstep.out _ w2 hdo.out hD; clear hD))
          go_roundw
          case rel => exact ⟨j + 1, by omega, by go_num, hst⟩
          case measure => simp [intOf]; omega
        · by_cases h3 : a.k % 6 = 3
          · have hdo : Hid (t.does1 a = t.sync) := by show t.does1 a = _; unfold St.does1; rw [if_neg h0, if_neg h1, if_pos h3]
            clear h0 h1
            go_wp2_with (first
              | (go_at_call 16; refine (pick6_any _ _).mono ?_; rintro e w1 ⟨rfl, rfl⟩; rw [h3])
              | (go_at_call 13; refine (sync_ds hd'.out hset.out).mono ?_; rintro e w2 ⟨rfl, hD⟩; rw [set_set] at hD; have hst := hstep.out _ w2 hdo.out (hD.more (by omega)); clear hD))
            go_roundw
            case rel => exact ⟨j + 1, by omega, by go_num, hst⟩
            case measure => simp [intOf]; omega
          · have hdo : Hid (t.does1 a = t) := by show t.does1 a = _; unfold St.does1; rw [if_neg h0, if_neg h1, if_neg h3]
            have hst := hstep.out _ wr hdo.out (hd'.out.more (by omega))
            go_wp2_with (go_at_call 16; refine (pick6_any _ _).mono ?_; rintro e w1 ⟨rfl, rfl⟩)
            go_roundw
            case rel => exact ⟨j + 1, by omega, by go_num, hst⟩
            case measure => simp [intOf]; omega
    · obtain rfl : j = n := by omega
      have hd2 : decide ((j : Int) < (j : Int)) = false := by simp
      have hfin : Ds w0 wr (N + j) (L.set k (g, s.all l)) R := by
        have h1 := hd.out
        rw [← Hn.out, List.take_length] at h1
        rw [← Hn.out]
        exact h1
      go_wp2
      refine bodyPost_end (results_none rfl _ _ _) rfl ?_
      exact ⟨rfl, hfin⟩
end
end Go.Proofs.Ytdnbflhpgfgnnaa
