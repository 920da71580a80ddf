/- payloads: the iterator's contract. Conditions: bytes of at most 2^40. -/
import Derived.Test.YtogoaihimepboaaKJoD
import Derived.Test.YtogoaihimepboaaKJoR
import Derived.RangeFuncLeaves
import Derived.Shelf.Abstract
import Derived.Shelf.RegionOpen
import Derived.Shelf.AbstractIn
import Derived.OwnWalkIn
import Derived.LoopNIn
import Derived.LoopIn
namespace Go.Proofs.Ytogoaihimepboaa
open Go.RowKit

attribute [local go_sem] Oper.semAt_some

/-- A payload that is handed on: where it lies, its bytes, the place behind it. -/
structure Px where
  A : Option Addr
  c : Nat
  l : List UInt8
  nx : Nat
def Px.row (x : Px) : Row := ⟨x.A, x.c, x.l⟩
def Px.v (x : Px) : Value := .slice x.A x.l.length x.c
/-- How it lies. -/
def Px.Lies (n₀ : Nat) (pre : List Px) (x : Px) (w : World) : Prop := w.ownsRow n₀ 5 1 x.v x.l.length (bs x.l) ∧ x.l.length ≤ 65535 ∧ ∀ y ∈ pre, ∀ a b : Addr, y.A = some a → x.A = some b → a.block ≠ b.block
/-- Of what was there below n₀ block b alone has changed. -/
abbrev But (b n₀ : Nat) : Nat → Prop := fun x => x = b ∨ n₀ ≤ x
theorem hmakeFunc (fn : Fn) (first cap : Array Value) (w : World) : (Instr.makeFunc fn first cap).run Try.prog w = .ok (.func fn first cap) w := rfl
set_option maxHeartbeats 1000000 in
theorem payloads_any (A : Option Addr) (n c : Nat) (w : World) : Calls Try.prog 32 #[.slice A n c] w fun e w' => e = .returned (.func (.func 44) #[] #[.pointer (some ⟨w.heap.size, 0, none⟩)]) ∧ w' = w.alloc (.cells #[.slice A n c] 22) := by
  have hmf := hmakeFunc
  go_enter Try.func32, Try.ntmps32
  go_wp2
  go_ret
  exact ⟨rfl, rfl⟩

/-- What has been handed on: the payloads from the beginning on, and the place behind the last one. -/
def PxS (b : List UInt8) (xs : List Px) : Prop := ∃ p, sj b xs.length = some (xs.map Px.l, p) ∧ p = (xs.getLast?.map Px.nx).getD 0
theorem PxS.nil (b : List UInt8) : PxS b [] := ⟨0, rfl, rfl⟩
theorem PxS.place {b : List UInt8} {xs : List Px} (h : PxS b xs) : sj b xs.length = some (xs.map Px.l, (xs.getLast?.map Px.nx).getD 0) := by
  obtain ⟨p, h1, rfl⟩ := h
  exact h1
theorem PxS.on {b : List UInt8} {xs : List Px} {x : Px} {p : Nat} (h : PxS b xs) (hp : p = (xs.getLast?.map Px.nx).getD 0) (ht : nxJ b p = (x.l, (x.nx : Int), 0)) : PxS b (xs ++ [x]) := by
  have h1 := h.place
  rw [← hp] at h1
  refine ⟨x.nx, ?_, by simp⟩
  rw [List.length_append, List.length_singleton, List.map_append]
  exact sj_on h1 ht
def PxAll (b : List UInt8) (xs : List Px) : Prop := AllJ b (xs.map Px.l) ((xs.getLast?.map Px.nx).getD 0)
theorem PxS.all {b : List UInt8} {xs : List Px} {p : Nat} (h : PxS b xs) (hp : p = (xs.getLast?.map Px.nx).getD 0) (ht : (nxJ b p).2.2 ≠ 0) : PxAll b xs := by
  unfold PxAll AllJ
  rw [List.length_map]
  exact ⟨h.place, by rw [← hp]; exact ht⟩

theorem grown_of_below {w w' : World} (h : Below w.heap.size w w') : w.grownBy w' none := ⟨h.os, h.tape, h.output, h.size, fun k hk _ => h.block k hk⟩

set_option maxRecDepth 100000 in
set_option maxHeartbeats 4000000 in
theorem payloads_stops (n : Nat) (hn : 1 ≤ n) (Bs b n₀ : Nat) (A : Option Addr) (cap nl : Nat) (q : List UInt8) (hq : q.length = nl) (hl : nl ≤ 1099511627776) (hcap : nl ≤ cap) (w : World)
    (hBs : ¬ But b n₀ Bs) (hc : w.cell? ⟨Bs, 0, none⟩ = some (.slice A nl cap)) (hBl : Bs < w.heap.size) (hn₀ : n₀ ≤ w.heap.size) (hr : BsX w (But b n₀) A q) :
    SeqFresh Fence.wide n Try.prog 44 #[.pointer (some ⟨Bs, 0, none⟩)] (fun x : Px => #[x.v, .int .i64 (x.nx : Int)]) (Touch (But b n₀)) (Px.Lies n₀) (PxAll q) nl w := fun l J W hW hJ hY h0 => by
  have hlen : (nl : Int) ≤ 1099511627776 := by omega
  have hcW := (hW.cell (p := ⟨Bs, 0, none⟩) hBl).trans hc
  have HrW : Hid (BsX W (But b n₀) A q) := hr.keep (.of hW)
  have hBW : Hid (Bs < W.heap.size) := Nat.lt_of_lt_of_le hBl hW.size
  have HcW := Lib.hid hcW
  have HBs := Lib.hid hBs
  have Hq := Lib.hid hq
  have Hl := Lib.hid hl
  have Hcap := Lib.hid hcap
  clear hc hr hl hBs hBl hq hcap
  refine callsIn_of_wp Try.func44 rfl trivial ?_ rfl
  simp only [Try.ntmps44, List.size_toArray, List.length_cons, List.length_nil, Nat.reduceAdd, Nat.reduceSub, Array.replicate_succ, Array.replicate_zero, List.push_toArray, List.append_toArray, List.nil_append, List.cons_append]
  gi_wp2
  gi_loopw [3] (fun i wr => ∃ (pre : List Px) (p : Nat), p ≤ nl ∧ pre.length ≤ p ∧ i = .int .i64 (p : Int) ∧ Hid (PxS q pre) ∧ Hid (p = (pre.getLast?.map Px.nx).getD 0) ∧ Hid (J pre wr) ∧ Hid (∀ y ∈ pre, ∀ a : Addr, y.A = some a → a.block < wr.heap.size) ∧ Hid (Touch (But b n₀) W wr)) (fun i _ => nl - (Go.Lib.intOf i).toNat)
  case atStart => exact ⟨[], 0, Nat.zero_le _, Nat.le_refl _, rfl, by exact PxS.nil _, by exact rfl, h0, by intro y hy; simp at hy, Touch.refl _ _⟩
  case round =>
    clear hcW
    obtain ⟨pre, p, hp, hpp, rfl, hS, hpl, hJs, hlo, ht⟩ := hrel
    have hcr := (ht.out.cell (p := ⟨Bs, 0, none⟩) hBW.out HBs.out).trans HcW.out
    have hHr := HrW.out.keep ht.out
    have hrd : Hid (RdB wr wr.heap.size A q) := hHr.reads
    have hT := Lib.hid (next_any A cap wr.heap.size nl q (p : Int) wr Hq.out Hl.out Hcap.out (Nat.le_refl _) hrd.out)
    obtain ⟨M, nx, er, hnx⟩ : ∃ M nx e, nxJ q (p : Int) = (M, nx, e) := ⟨_, _, _, rfl⟩
    have Hnx := Lib.hid hnx
    have hML := Lib.hid (nxJ_len q (p : Int))
    clear hHr
    by_cases he : er = 0
    · subst he
      obtain ⟨p', rest, e1, e2, e3, e4, e5⟩ := nxJ_ok (b := q) (p := (p : Int)) (by rw [hnx])
      rw [hnx] at e2 e3 e4 e5
      simp only at e2 e3 e4 e5
      obtain rfl : p = p' := by omega
      have h6 := fsz_pos M.length
      obtain ⟨N, hN⟩ : ∃ N, N = p + fsz M.length := ⟨_, rfl⟩
      obtain rfl : nx = (N : Int) := by rw [e4, hN]
      have hNl : N ≤ nl := by have := Hq.out; omega
      have hpN : p < N := by omega
      have Hns := Lib.hid (show N ≤ nl ∧ p < N from ⟨hNl, hpN⟩)
      have hpn := Lib.hid (show pre.length < nl by omega)
      have hpN' := Lib.hid (show pre.length + 1 ≤ N by omega)
      clear hnx e1 e2 e3 e4 e5 h6 hN hNl hpN hp hpp
      gi_wp2_with (refine ⟨trivial, ?_⟩; gi_at_call 9; refine (callsIn_wide.2 hT.out).mono ?_; rintro e w2 ⟨⟨v2, rfl, hown2⟩, hb2⟩; rw [Hnx.out] at hown2 ⊢; simp only at hown2 ⊢; obtain ⟨A2, c2, rfl, _, _, hr2⟩ := own_form hown2; have hM2 := (show M.length ≤ 65535 by have := hML.out; rw [Hnx.out] at this; exact this); obtain ⟨fn, tmps, assign, body, hy, hR⟩ := hY pre ⟨A2, c2, M, N⟩ w2 (hJ pre _ _ none hJs.out (grown_of_below hb2) (by simp)) ⟨own_mono hown2 (Nat.le_trans hn₀ (Nat.le_trans hW.size ht.out.size)), hM2, fun y hy a b ea eb => by have h1 := hlo.out y hy a ea; have h2 := (own_apart hown2 b eb).1; omega⟩ hpn.out; simp only [Px.v] at hy; have Hap := Lib.hid (own_apart hown2); have Hb2 := Lib.hid hb2; clear hown2 hr2 hb2 hM2)
      refine hR.mono ?_
      rintro e W3 ⟨rfl, hJ3, hk3⟩
      have HJ3 := Lib.hid hJ3
      have Hk3 := Lib.hid hk3
      have HS3 := Lib.hid (hS.out.on (x := ⟨A2, c2, M, N⟩) hpl.out Hnx.out)
      clear hJ3 hk3 hS hpl hJs
      gi_wp2
      go_roundw
      case rel => exact ⟨pre ++ [⟨A2, c2, M, N⟩], N, Hns.out.1, by rw [List.length_append]; exact hpN'.out, rfl, HS3, by show _ = _; simp, HJ3, (by intro y hy a ea; rw [List.mem_append, List.mem_singleton] at hy; rcases hy with hy | rfl; exact Nat.lt_of_lt_of_le (hlo.out y hy a ea) (Nat.le_trans Hb2.out.size Hk3.out.size); exact Nat.lt_of_lt_of_le (Hap.out a ea).2 Hk3.out.size), (ht.out.trans (Touch.of Hb2.out)).trans Hk3.out⟩
      case measure => have := Hns.out; simp [Go.Lib.intOf]; omega
    · have heI : ((er : Int) != 0) = true := by rw [bne_iff_ne]; omega
      have heN : (er != 0) = true := by rw [bne_iff_ne]; exact he
      have Hall := Lib.hid (hS.out.all hpl.out (by rw [hnx]; exact he))
      clear hnx he
      gi_wp2_with (refine ⟨trivial, ?_⟩; gi_at_call 9; refine (callsIn_wide.2 hT.out).mono ?_; rintro e w2 ⟨⟨v2, rfl, hown2⟩, hb2⟩; rw [Hnx.out] at hown2 ⊢; simp only at hown2 ⊢; obtain ⟨A2, c2, rfl, _, _, _⟩ := own_form hown2; have Hb2 := Lib.hid hb2; clear hown2 hb2)
      refine ⟨fun _ _ => trivial, ?_⟩
      gi_wp2
      --STOP
      refine bodyPost_ret (results_none rfl _ _ _) rfl ?_
      exact ⟨⟨_, rfl⟩, pre, Hall.out, hJ pre _ _ none hJs.out (grown_of_below Hb2.out) (by simp)⟩
end Go.Proofs.Ytogoaihimepboaa
