/- NameKnown: the walk. Conditions: none. -/
import Derived.Test.YtipmpebckfaknaaDoorNmL
import Derived.Test.YtipmpebckfaknaaDoorTwoF
import Derived.Test.YtipmpebckfaknaaDoorSeq
namespace Go.Proofs.YtipmpebckfaknaaDoor
open Go.RowKit Go.Lib

def nu8 : List Nat := [0, 1, 9, 10, 9223372036854775807, 9223372036854775808, 18446744073709551614, 18446744073709551615]
def tx29 : List (List UInt8) := [[], [115], [115, 45], [115, 45, 49], [115, 45, 49, 45, 50], [115, 45, 49, 45, 50, 45, 51], [115, 45, 48, 49, 45, 50], [115, 45, 49, 45, 48, 50], [115, 45, 45, 49], [115, 45, 49, 45], [115, 45, 32, 49, 45, 50], [83, 45, 49, 45, 50], [98, 45, 48, 45, 48], [98, 45, 49, 56, 52, 52, 54, 55, 52, 52, 48, 55, 51, 55, 48, 57, 53, 53, 49, 54, 49, 53, 45, 49], [98, 45, 49, 56, 52, 52, 54, 55, 52, 52, 48, 55, 51, 55, 48, 57, 53, 53, 49, 54, 49, 54, 45, 49], [98, 45, 49, 45, 57, 57, 57, 57, 57, 57, 57, 57, 57, 57, 57, 57, 57, 57, 57, 57, 57, 57, 57, 57], [98, 45, 49, 45, 49, 48, 48, 48, 48, 48, 48, 48, 48, 48, 48, 48, 48, 48, 48, 48, 48, 48, 48, 48, 48], [116, 45, 49, 45, 50], [116, 45, 49, 45, 50, 45, 51], [116, 45, 49, 45, 50, 45, 51, 45, 52], [106, 45, 49, 45, 50, 45, 51], [106, 45, 49, 45, 50, 45, 51, 45, 52], [106, 45, 49, 45, 50, 45, 51, 45, 52, 45, 53], [120, 45, 49, 45, 50], [45, 49, 45, 50], [115, 45, 49, 45, 50, 0], [115, 45, 49, 45, 97], [115, 45, 49, 45, 50, 10], [115, 45, 43, 49, 45, 50]]
def ty6 : List (List UInt8) := [[115, 45, 50, 45, 49], [98, 45, 48, 45, 49], [115, 45, 49, 48, 45, 49], [115, 45, 50, 45, 49], [116, 45, 48, 45, 48, 45, 48], [115, 45, 50, 45, 48]]
theorem nu8_lt {j n : Nat} (h : nu8[j]? = some n) : n < 18446744073709551616 := (by decide : ∀ n ∈ nu8, n < 18446744073709551616) n (List.mem_of_getElem? h)
theorem nu8_at {j : Nat} (h : j < 8) : ∃ n, nu8[j]? = some n := ⟨_, List.getElem?_eq_getElem h⟩
theorem tx29_le {s : List UInt8} (h : s ∈ tx29) : s.length ≤ 30 := (by decide : ∀ s ∈ tx29, s.length ≤ 30) s h
theorem ty6_le {s : List UInt8} (h : s ∈ ty6) : s.length ≤ 30 := (by decide : ∀ s ∈ ty6, s.length ≤ 30) s h
def K8F (N i k na nb nc nd : Nat) : Nat → Value → World → Prop
  | 0, v, _ => v = .slice (some ⟨N, 0, none⟩) 8 8
  | 1, v, _ => v = .int .i64 (i : Int)
  | 2, v, _ => v = .pointer (some ⟨N, i, none⟩)
  | 3, v, _ => v = .int .u64 (na : Int)
  | 4, v, _ => v = .slice (some ⟨N, 0, none⟩) 8 8
  | 5, v, _ => v = .int .i64 (k : Int)
  | 6, v, _ => v = .pointer (some ⟨N, k, none⟩)
  | 7, v, _ => v = .int .u64 (nb : Int)
  | 8, v, _ => v = .slice (some ⟨N, 0, none⟩) 8 8
  | 9, v, _ => v = .int .i64 (i : Int)
  | 10, v, _ => v = .int .i64 (k : Int)
  | 11, v, _ => v = .int .i64 ((i + k : Nat) : Int)
  | 12, v, _ => v = .int .i64 (((i + k) % 8 : Nat) : Int)
  | 13, v, _ => v = .pointer (some ⟨N, (i + k) % 8, none⟩)
  | 14, v, _ => v = .int .u64 (nc : Int)
  | 15, v, _ => v = .slice (some ⟨N, 0, none⟩) 8 8
  | 16, v, _ => v = .int .i64 (i : Int)
  | 17, v, _ => v = .int .i64 (k : Int)
  | 18, v, _ => v = .int .i64 ((i * k : Nat) : Int)
  | 19, v, _ => v = .int .i64 (((i * k) % 8 : Nat) : Int)
  | 20, v, _ => v = .pointer (some ⟨N, (i * k) % 8, none⟩)
  | 21, v, _ => v = .int .u64 (nd : Int)
  | 22, v, _ => v = .bool true
  | 23, v, _ => v = .bool false
  | _, _, _ => True
theorem K8F.keep {N i k na nb nc nd : Nat} (j : Nat) (u : Value) (w w' : World) (_hb : Below w.heap.size w w') (hfact : K8F N i k na nb nc nd j u w) : K8F N i k na nb nc nd j u w' :=
  match j, hfact with
  | 0, h => h
  | 1, h => h
  | 2, h => h
  | 3, h => h
  | 4, h => h
  | 5, h => h
  | 6, h => h
  | 7, h => h
  | 8, h => h
  | 9, h => h
  | 10, h => h
  | 11, h => h
  | 12, h => h
  | 13, h => h
  | 14, h => h
  | 15, h => h
  | 16, h => h
  | 17, h => h
  | 18, h => h
  | 19, h => h
  | 20, h => h
  | 21, h => h
  | 22, h => h
  | 23, h => h
  | _ + 24, h => h
def K13V (N i k kd na nb ne : Nat) : Nat → Value → Prop
  | 0, v => v = .int .u8 (kd : Int)
  | 1, v => v = .slice (some ⟨N, 0, none⟩) 8 8
  | 2, v => v = .int .i64 (i : Int)
  | 3, v => v = .pointer (some ⟨N, i, none⟩)
  | 4, v => v = .int .u64 (na : Int)
  | 5, v => v = .slice (some ⟨N, 0, none⟩) 8 8
  | 6, v => v = .int .i64 (k : Int)
  | 7, v => v = .pointer (some ⟨N, k, none⟩)
  | 8, v => v = .int .u64 (nb : Int)
  | 9, v => v = Nm.v ⟨kd, na, nb, 0, 0, 0⟩
  | 10, v => v = .int .u8 (kd : Int)
  | 11, v => v = .slice (some ⟨N, 0, none⟩) 8 8
  | 12, v => v = .int .i64 (k : Int)
  | 13, v => v = .pointer (some ⟨N, k, none⟩)
  | 14, v => v = .int .u64 (nb : Int)
  | 15, v => v = .slice (some ⟨N, 0, none⟩) 8 8
  | 16, v => v = .int .i64 (i : Int)
  | 17, v => v = .pointer (some ⟨N, i, none⟩)
  | 18, v => v = .int .u64 (na : Int)
  | 19, v => v = .slice (some ⟨N, 0, none⟩) 8 8
  | 20, v => v = .int .i64 (i : Int)
  | 21, v => v = .int .i64 ((i + 1 : Nat) : Int)
  | 22, v => v = .int .i64 (((i + 1) % 8 : Nat) : Int)
  | 23, v => v = .pointer (some ⟨N, (i + 1) % 8, none⟩)
  | 24, v => v = .int .u64 (ne : Int)
  | 25, v => v = Nm.v ⟨kd, 0, 0, nb, na, ne⟩
  | _, _ => True
def K13F (N i k kd na nb ne : Nat) (j : Nat) (v : Value) (_ : World) : Prop := K13V N i k kd na nb ne j v
def KEF (x y z : Nm) (N i kd na : Nat) : Nat → Value → World → Prop
  | 0, v, _ => v = x.v
  | 1, v, _ => v = y.v
  | 2, v, _ => v = .bool true
  | 3, v, _ => v = .bool false
  | 4, v, _ => v = .bool false
  | 5, v, _ => v = y.v
  | 6, v, _ => v = .int .u8 (kd : Int)
  | 7, v, _ => v = .int .u8 ((6 - kd : Nat) : Int)
  | 8, v, _ => v = .slice (some ⟨N, 0, none⟩) 8 8
  | 9, v, _ => v = .int .i64 (i : Int)
  | 10, v, _ => v = .pointer (some ⟨N, i, none⟩)
  | 11, v, _ => v = .int .u64 (na : Int)
  | 12, v, _ => v = z.v
  | 13, v, _ => v = .bool true
  | 14, v, _ => v = .bool false
  | 15, v, _ => v = .bool false
  | 16, v, _ => v = .bool false
  | 17, v, _ => v = x.v
  | 18, v, _ => v = y.v
  | 19, v, _ => v = .bool true
  | 20, v, _ => v = .bool false
  | 21, v, _ => v = .bool false
  | _, _, _ => True
theorem KEF.keep {x y z : Nm} {N i kd na : Nat} (j : Nat) (u : Value) (w w' : World) (_hb : Below w.heap.size w w') (hfact : KEF x y z N i kd na j u w) : KEF x y z N i kd na j u w' :=
  match j, hfact with
  | 0, h => h
  | 1, h => h
  | 2, h => h
  | 3, h => h
  | 4, h => h
  | 5, h => h
  | 6, h => h
  | 7, h => h
  | 8, h => h
  | 9, h => h
  | 10, h => h
  | 11, h => h
  | 12, h => h
  | 13, h => h
  | 14, h => h
  | 15, h => h
  | 16, h => h
  | 17, h => h
  | 18, h => h
  | 19, h => h
  | 20, h => h
  | 21, h => h
  | _ + 22, h => h
def KTF (s : List UInt8) (M q : Nat) : Nat → Value → World → Prop
  | 0, v, _ => v = .slice (some ⟨M, 0, none⟩) 29 29
  | 1, v, _ => v = .int .i64 (q : Int)
  | 2, v, _ => v = .pointer (some ⟨M, q, none⟩)
  | 3, v, _ => v = .string (txt s)
  | 4, v, _ => v = .bool true
  | 5, v, _ => v = .bool false
  | 6, v, _ => v = .bool false
  | 7, v, _ => v = .slice (some ⟨M, 0, none⟩) 29 29
  | 8, v, _ => v = .int .i64 (q : Int)
  | 9, v, _ => v = .pointer (some ⟨M, q, none⟩)
  | 10, v, _ => v = .string (txt s)
  | 11, v, _ => v = .string (txt (s ++ [48]))
  | 12, v, _ => v = .bool true
  | 13, v, _ => v = .bool false
  | 14, v, _ => v = .bool false
  | 15, v, _ => v = .bool false
  | 16, v, _ => v = .slice (some ⟨M, 0, none⟩) 29 29
  | 17, v, _ => v = .int .i64 (q : Int)
  | 18, v, _ => v = .slice (some ⟨M, q, none⟩) (29 - q) (29 - q)
  | 19, v, _ => v = .bool true
  | 20, v, _ => v = .bool false
  | 21, v, _ => v = .bool false
  | 22, v, _ => v = .bool false
  | 23, v, _ => v = Nm.v Nm.zero
  | 24, v, _ => v = Nm.v Nm.zero
  | 25, v, _ => v = .slice (some ⟨M, 0, none⟩) 29 29
  | 26, v, _ => v = .int .i64 (q : Int)
  | 27, v, _ => v = .pointer (some ⟨M, q, none⟩)
  | 28, v, _ => v = .string (txt s)
  | 29, v, _ => v = .bool true
  | 30, v, _ => v = .bool false
  | 31, v, _ => v = .bool false
  | _, _, _ => True
theorem KTF.keep {s : List UInt8} {M q : Nat} (j : Nat) (u : Value) (w w' : World) (_hb : Below w.heap.size w w') (hfact : KTF s M q j u w) : KTF s M q j u w' :=
  match j, hfact with
  | 0, h => h
  | 1, h => h
  | 2, h => h
  | 3, h => h
  | 4, h => h
  | 5, h => h
  | 6, h => h
  | 7, h => h
  | 8, h => h
  | 9, h => h
  | 10, h => h
  | 11, h => h
  | 12, h => h
  | 13, h => h
  | 14, h => h
  | 15, h => h
  | 16, h => h
  | 17, h => h
  | 18, h => h
  | 19, h => h
  | 20, h => h
  | 21, h => h
  | 22, h => h
  | 23, h => h
  | 24, h => h
  | 25, h => h
  | 26, h => h
  | 27, h => h
  | 28, h => h
  | 29, h => h
  | 30, h => h
  | 31, h => h
  | _ + 32, h => h
def K8C (W : World) (N : Nat) (w : World) : Prop := Below W.heap.size W w ∧ NumsAt nu8 N w ∧ Env w
theorem K8C.keep {W : World} {N : Nat} (w w' : World) (hb : Below w.heap.size w w') (hc : K8C W N w) : K8C W N w' := ⟨hc.1.trans (hb.mono hc.1.size), hc.2.1.keep hb, hc.2.2.on hb⟩
def KEC (W : World) (x y : Nm) (p q N : Nat) (w : World) : Prop := Below W.heap.size W w ∧ BoxNm x w ⟨p, 0, none⟩ ∧ BoxNm y w ⟨q, 0, none⟩ ∧ NumsAt nu8 N w ∧ Env w
theorem KEC.keep {W : World} {x y : Nm} {p q N : Nat} (w w' : World) (hb : Below w.heap.size w w') (hc : KEC W x y p q N w) : KEC W x y p q N w' := ⟨hc.1.trans (hb.mono hc.1.size), hc.2.1.keep hb, hc.2.2.1.keep hb, hc.2.2.2.1.keep hb, hc.2.2.2.2.on hb⟩
def KTC (W : World) (M : Nat) (w : World) : Prop := Below W.heap.size W w ∧ TextsAt tx29 M w ∧ Env w
theorem KTC.keep {W : World} {M : Nat} (w w' : World) (hb : Below w.heap.size w w') (hc : KTC W M w) : KTC W M w' := ⟨hc.1.trans (hb.mono hc.1.size), hc.2.1.keep hb, hc.2.2.on hb⟩

set_option maxHeartbeats 1000000 in
set_option maxRecDepth 100000 in
theorem knownLaw_any (w : World) (hE : Env w) : Calls Tryd.prog 8 #[] w fun e w' => e = .returned (.bool true) ∧ Below w.heap.size w w' := by
  have HE := Lib.hid hE
  clear hE
  go_enter Tryd.func8, Tryd.ntmps8
  go_upto_region 2 with fail
  obtain ⟨W1, hW1⟩ : ∃ W, Hid (W = w.alloc (.cells #[.int .u64 0, .int .u64 1, .int .u64 9, .int .u64 10, .int .u64 9223372036854775807, .int .u64 9223372036854775808, .int .u64 18446744073709551614, .int .u64 18446744073709551615] 22)) := ⟨_, rfl⟩
  rw [← hW1.out]
  have HB1 : Hid (Below w.heap.size w W1) := by rw [hW1.out]; exact below_new _ _
  have HN1 : Hid (NumsAt nu8 w.heap.size W1) := by rw [hW1.out]; exact NumsAt.new nu8 w _
  have HE1 := Lib.hid (HE.out.on HB1.out)
  obtain ⟨N, hN⟩ : ∃ N, Hid (N = w.heap.size) := ⟨_, rfl⟩
  rw [← hN.out] at HN1 ⊢
  go_wp2
  go_loopw [2] (fun s wr => ∃ i : Nat, i ≤ 8 ∧ s = .int .i64 (i : Int) ∧ Below W1.heap.size W1 wr) (fun s _ => 8 - (Lib.intOf s).toNat)
  case atStart => exact ⟨0, Nat.zero_le _, rfl, .refl _ _⟩
  case round =>
    obtain ⟨i, hi, rfl, hb1⟩ := hrel
    have HBi := Lib.hid hb1
    clear hb1
    by_cases hi8 : i < 8
    · obtain ⟨na, ha⟩ := nu8_at hi8
      have Ha := Lib.hid ha
      have Ba := Lib.hid (nu8_lt ha)
      have Hi8 := Lib.hid hi8
      have Hi1 : Hid (i + 1 < 9223372036854775807) := (by omega : i + 1 < 9223372036854775807)
      obtain ⟨ne, he⟩ := nu8_at (Nat.mod_lt (i + 1) (show 8 > 0 by decide))
      have He := Lib.hid he
      have Be := Lib.hid (nu8_lt he)
      clear ha he
      go_wp2
      go_loopw [3] (fun s wr => ∃ k : Nat, k ≤ 8 ∧ s = .int .i64 (k : Int) ∧ Below W1.heap.size W1 wr) (fun s _ => 8 - (Lib.intOf s).toNat)
      case atStart => exact ⟨0, Nat.zero_le _, rfl, HBi.out⟩
      case round =>
        obtain ⟨k, hk, rfl, hb1⟩ := hrel
        have HBk := Lib.hid hb1
        clear hb1
        by_cases hk8 : k < 8
        · obtain ⟨nb, hb⟩ := nu8_at hk8
          have Hb := Lib.hid hb
          have Bb := Lib.hid (nu8_lt hb)
          have Hk8 := Lib.hid hk8
          obtain ⟨nc, hc⟩ := nu8_at (Nat.mod_lt (i + k) (show 8 > 0 by decide))
          have Hc := Lib.hid hc
          have Bc := Lib.hid (nu8_lt hc)
          obtain ⟨nd, hd⟩ := nu8_at (Nat.mod_lt (i * k) (show 8 > 0 by decide))
          have Hd := Lib.hid hd
          have Bd := Lib.hid (nu8_lt hd)
          have Hik : Hid (i + k < 9223372036854775807) := (by omega : i + k < 9223372036854775807)
          have Him : Hid (i * k < 9223372036854775807) := Nat.lt_of_le_of_lt (Nat.mul_le_mul hi hk) (by decide)
          clear hb hc hd
          go_upto_region 8 with fail
          go_cut [45] from 22 to 45 (fun s wx => s = .bool false ∧ Below wr.heap.size wr wx)
          case first =>
            rename_i J K1 hJ hK
            refine wp_region_facts (n := 142) (K8F N i k na nb nc nd) (K8C wr N) (by kernel_rfl) (by kernel_rfl) rfl ?_ ?_ ?_
            · exact ⟨(Below.refl _ _).drew, (HN1.out.keep HBk.out).keep (Below.refl _ _).drew, (HE1.out.on HBk.out).on (Below.refl _ _).drew⟩
            · skip
              refine OpsOk.cons _ _ (OpOk.run _ _ K8F.keep K8C.keep fun b v hs hc hg => ⟨rfl, _, _, exec_move rfl (hs 1 (by kernel_rfl)), .refl _ _, rfl⟩) ?_
              refine OpsOk.cons _ _ (OpOk.run _ _ K8F.keep K8C.keep fun b v hs hc hg => ⟨rfl, _, _, exec_move rfl (hs 2 (by kernel_rfl)), .refl _ _, rfl⟩) ?_
              refine OpsOk.cons _ _ (OpOk.run _ _ K8F.keep K8C.keep fun b v hs hc hg => ⟨rfl, _, _, exec_atU rfl (dep hg 0 rfl rfl rfl rfl) (dep hg 1 rfl rfl rfl rfl) Hi8.out, .refl _ _, rfl⟩) ?_
              refine OpsOk.cons _ _ (OpOk.run _ _ K8F.keep K8C.keep fun b v hs hc hg => ⟨rfl, _, _, exec_load64 rfl (dep hg 0 rfl rfl rfl rfl) (hc.2.1 _ _ Ha.out), .refl _ _, rfl⟩) ?_
              refine OpsOk.cons _ _ (OpOk.run _ _ K8F.keep K8C.keep fun b v hs hc hg => ⟨rfl, _, _, exec_move rfl (hs 1 (by kernel_rfl)), .refl _ _, rfl⟩) ?_
              refine OpsOk.cons _ _ (OpOk.run _ _ K8F.keep K8C.keep fun b v hs hc hg => ⟨rfl, _, _, exec_move rfl (hs 3 (by kernel_rfl)), .refl _ _, rfl⟩) ?_
              refine OpsOk.cons _ _ (OpOk.run _ _ K8F.keep K8C.keep fun b v hs hc hg => ⟨rfl, _, _, exec_atU rfl (dep hg 0 rfl rfl rfl rfl) (dep hg 1 rfl rfl rfl rfl) Hk8.out, .refl _ _, rfl⟩) ?_
              refine OpsOk.cons _ _ (OpOk.run _ _ K8F.keep K8C.keep fun b v hs hc hg => ⟨rfl, _, _, exec_load64 rfl (dep hg 0 rfl rfl rfl rfl) (hc.2.1 _ _ Hb.out), .refl _ _, rfl⟩) ?_
              refine OpsOk.cons _ _ (OpOk.run _ _ K8F.keep K8C.keep fun b v hs hc hg => ⟨rfl, _, _, exec_move rfl (hs 1 (by kernel_rfl)), .refl _ _, rfl⟩) ?_
              refine OpsOk.cons _ _ (OpOk.run _ _ K8F.keep K8C.keep fun b v hs hc hg => ⟨rfl, _, _, exec_move rfl (hs 2 (by kernel_rfl)), .refl _ _, rfl⟩) ?_
              refine OpsOk.cons _ _ (OpOk.run _ _ K8F.keep K8C.keep fun b v hs hc hg => ⟨rfl, _, _, exec_move rfl (hs 3 (by kernel_rfl)), .refl _ _, rfl⟩) ?_
              refine OpsOk.cons _ _ (OpOk.run _ _ K8F.keep K8C.keep fun b v hs hc hg => ⟨rfl, _, _, exec_addN Hik.out rfl (dep hg 0 rfl rfl rfl rfl) (dep hg 1 rfl rfl rfl rfl), .refl _ _, rfl⟩) ?_
              refine OpsOk.cons _ _ (OpOk.run _ _ K8F.keep K8C.keep fun b v hs hc hg => ⟨rfl, _, _, exec_remN rfl (dep hg 0 rfl rfl rfl rfl) rfl, .refl _ _, rfl⟩) ?_
              refine OpsOk.cons _ _ (OpOk.run _ _ K8F.keep K8C.keep fun b v hs hc hg => ⟨rfl, _, _, exec_atU rfl (dep hg 0 rfl rfl rfl rfl) (dep hg 1 rfl rfl rfl rfl) (Nat.mod_lt _ (by decide)), .refl _ _, rfl⟩) ?_
              refine OpsOk.cons _ _ (OpOk.run _ _ K8F.keep K8C.keep fun b v hs hc hg => ⟨rfl, _, _, exec_load64 rfl (dep hg 0 rfl rfl rfl rfl) (hc.2.1 _ _ Hc.out), .refl _ _, rfl⟩) ?_
              refine OpsOk.cons _ _ (OpOk.run _ _ K8F.keep K8C.keep fun b v hs hc hg => ⟨rfl, _, _, exec_move rfl (hs 1 (by kernel_rfl)), .refl _ _, rfl⟩) ?_
              refine OpsOk.cons _ _ (OpOk.run _ _ K8F.keep K8C.keep fun b v hs hc hg => ⟨rfl, _, _, exec_move rfl (hs 2 (by kernel_rfl)), .refl _ _, rfl⟩) ?_
              refine OpsOk.cons _ _ (OpOk.run _ _ K8F.keep K8C.keep fun b v hs hc hg => ⟨rfl, _, _, exec_move rfl (hs 3 (by kernel_rfl)), .refl _ _, rfl⟩) ?_
              refine OpsOk.cons _ _ (OpOk.run _ _ K8F.keep K8C.keep fun b v hs hc hg => ⟨rfl, _, _, exec_mulN Him.out rfl (dep hg 0 rfl rfl rfl rfl) (dep hg 1 rfl rfl rfl rfl), .refl _ _, rfl⟩) ?_
              refine OpsOk.cons _ _ (OpOk.run _ _ K8F.keep K8C.keep fun b v hs hc hg => ⟨rfl, _, _, exec_remN rfl (dep hg 0 rfl rfl rfl rfl) rfl, .refl _ _, rfl⟩) ?_
              refine OpsOk.cons _ _ (OpOk.run _ _ K8F.keep K8C.keep fun b v hs hc hg => ⟨rfl, _, _, exec_atU rfl (dep hg 0 rfl rfl rfl rfl) (dep hg 1 rfl rfl rfl rfl) (Nat.mod_lt _ (by decide)), .refl _ _, rfl⟩) ?_
              refine OpsOk.cons _ _ (OpOk.run _ _ K8F.keep K8C.keep fun b v hs hc hg => ⟨rfl, _, _, exec_load64 rfl (dep hg 0 rfl rfl rfl rfl) (hc.2.1 _ _ Hd.out), .refl _ _, rfl⟩) ?_
              refine OpsOk.cons _ _ (OpOk.call _ _ K8F.keep K8C.keep fun b v hs hc hg => ⟨rfl, _, _, exec_call4 (enter_nameOf _) rfl (dep hg 0 rfl rfl rfl rfl) (dep hg 1 rfl rfl rfl rfl) (dep hg 2 rfl rfl rfl rfl) (dep hg 3 rfl rfl rfl rfl), ans_q (ofLaw_any na nb nc nd Ba.out Bb.out Bc.out Bd.out v hc.2.2)⟩) ?_
              refine OpsOk.cons _ _ (OpOk.run _ _ K8F.keep K8C.keep fun b v hs hc hg => ⟨rfl, _, _, exec_not rfl (dep hg 0 rfl rfl rfl rfl), .refl _ _, rfl⟩) ?_
              exact OpsOk.nil _ _
            · intro b' w' hsz hd hs hc hall
              refine hK _ _ (Met.intro (hJ _ _ ?_))
              exact ⟨b'.tmps.getD 22 undef, b'.tmps.getD 23 undef, b'.tmps.getD 24 undef, b'.tmps.getD 25 undef, b'.tmps.getD 26 undef, b'.tmps.getD 27 undef, b'.tmps.getD 28 undef, b'.tmps.getD 29 undef, b'.tmps.getD 30 undef, b'.tmps.getD 31 undef, b'.tmps.getD 32 undef, b'.tmps.getD 33 undef, b'.tmps.getD 34 undef, b'.tmps.getD 35 undef, b'.tmps.getD 36 undef, b'.tmps.getD 37 undef, b'.tmps.getD 38 undef, b'.tmps.getD 39 undef, b'.tmps.getD 40 undef, b'.tmps.getD 41 undef, b'.tmps.getD 42 undef, b'.tmps.getD 43 undef, b'.tmps.getD 44 undef, b'.tmps.getD 45 undef, ⟨hall 23 _ _ rfl rfl, hc.1⟩, (act_known hsz hd hs).trans (by kernel_rfl)⟩
          obtain ⟨rfl, hb8⟩ := hcut
          have HB8 := Lib.hid (HBk.out.trans (hb8.mono HBk.out.size))
          clear hb8
          go_wp2
          go_loopw [4] (fun s wr => ∃ kd : Nat, kd ≤ 6 ∧ s = .int .u8 (kd : Int) ∧ Below W1.heap.size W1 wr) (fun s _ => 6 - (Lib.intOf s).toNat)
          case atStart => exact ⟨0, Nat.zero_le _, rfl, HB8.out⟩
          case round =>
            obtain ⟨kd, hkd, rfl, hb1⟩ := hrel
            have HBz := Lib.hid hb1
            clear hb1
            by_cases hk6 : kd < 6
            · have Hkd := Lib.hid hkd
              obtain ⟨x, hx⟩ : ∃ x : Nm, Hid (x = ⟨kd, na, nb, 0, 0, 0⟩) := ⟨_, rfl⟩
              obtain ⟨y, hy⟩ : ∃ y : Nm, Hid (y = ⟨kd, 0, 0, nb, na, ne⟩) := ⟨_, rfl⟩
              obtain ⟨z, Hz⟩ : ∃ z : Nm, Hid (z = ⟨6 - kd, na, 0, 1, 0, 0⟩) := ⟨_, rfl⟩
              have Ox : Hid x.Ok := by rw [hx.out]; exact ⟨by simp only; omega, Ba.out, Bb.out, by simp only; omega, by simp only; omega, by simp only; omega⟩
              have Oy : Hid y.Ok := by rw [hy.out]; exact ⟨by simp only; omega, by simp only; omega, by simp only; omega, Bb.out, Ba.out, Be.out⟩
              have Oz : Hid z.Ok := by rw [Hz.out]; exact ⟨by simp only; omega, Ba.out, by simp only; omega, by simp only; omega, by simp only; omega, by simp only; omega⟩
              go_upto_region 13 with fail
              go_cut [5, 6] from 50 to 75 (fun s5 s6 wx => ∃ p q, s5 = .pointer (some ⟨p, 0, none⟩) ∧ s6 = .pointer (some ⟨q, 0, none⟩) ∧ BoxNm x wx ⟨p, 0, none⟩ ∧ BoxNm y wx ⟨q, 0, none⟩ ∧ Below wr.drew.heap.size wr.drew wx)
              case first =>
                rename_i J K1 hJ hK
                have HNd : Hid (NumsAt nu8 N wr.drew) := (HN1.out.keep HBz.out).keep (Below.refl _ _).drew
                rw [hx.out, hy.out] at hJ
                refine wp_region_full (n := 142) (K13F N i k kd na nb ne) (KnC wr.drew 24 ⟨kd, na, nb, 0, 0, 0⟩ ⟨kd, 0, 0, nb, na, ne⟩ 26 27 28 29 5 6) (by kernel_rfl) (by kernel_rfl) rfl ?_ ?_ ?_
                · exact fun L hL => KnC.start hL (Below.refl _ _)
                · skip
                  refine OpsFu.cons _ _ (OpFu.read (by decide) rfl (by decide) fun b w hs hb hg => ⟨rfl, _, exec_move rfl (hs 4 (by kernel_rfl)), rfl⟩) ?_
                  refine OpsFu.cons _ _ (OpFu.read (by decide) rfl (by decide) fun b w hs hb hg => ⟨rfl, _, exec_move rfl (hs 1 (by kernel_rfl)), rfl⟩) ?_
                  refine OpsFu.cons _ _ (OpFu.read (by decide) rfl (by decide) fun b w hs hb hg => ⟨rfl, _, exec_move rfl (hs 2 (by kernel_rfl)), rfl⟩) ?_
                  refine OpsFu.cons _ _ (OpFu.read (by decide) rfl (by decide) fun b w hs hb hg => ⟨rfl, _, exec_atU rfl (dep hg 0 rfl rfl rfl rfl) (dep hg 1 rfl rfl rfl rfl) Hi8.out, rfl⟩) ?_
                  refine OpsFu.cons _ _ (OpFu.read (by decide) rfl (by decide) fun b w hs hb hg => ⟨rfl, _, exec_load64 rfl (dep hg 0 rfl rfl rfl rfl) (HNd.out.keep hb _ _ Ha.out), rfl⟩) ?_
                  refine OpsFu.cons _ _ (OpFu.read (by decide) rfl (by decide) fun b w hs hb hg => ⟨rfl, _, exec_move rfl (hs 1 (by kernel_rfl)), rfl⟩) ?_
                  refine OpsFu.cons _ _ (OpFu.read (by decide) rfl (by decide) fun b w hs hb hg => ⟨rfl, _, exec_move rfl (hs 3 (by kernel_rfl)), rfl⟩) ?_
                  refine OpsFu.cons _ _ (OpFu.read (by decide) rfl (by decide) fun b w hs hb hg => ⟨rfl, _, exec_atU rfl (dep hg 0 rfl rfl rfl rfl) (dep hg 1 rfl rfl rfl rfl) Hk8.out, rfl⟩) ?_
                  refine OpsFu.cons _ _ (OpFu.read (by decide) rfl (by decide) fun b w hs hb hg => ⟨rfl, _, exec_load64 rfl (dep hg 0 rfl rfl rfl rfl) (HNd.out.keep hb _ _ Hb.out), rfl⟩) ?_
                  refine OpsFu.cons _ _ (OpFu.read (by decide) rfl (by decide) fun b w hs hb hg => ⟨rfl, _, exec_bX rfl (dep hg 0 rfl rfl rfl rfl) (dep hg 1 rfl rfl rfl rfl) (dep hg 2 rfl rfl rfl rfl), rfl⟩) ?_
                  refine OpsFu.cons _ _ (OpFu.read (by decide) rfl (by decide) fun b w hs hb hg => ⟨rfl, _, exec_move rfl (hs 4 (by kernel_rfl)), rfl⟩) ?_
                  refine OpsFu.cons _ _ (OpFu.read (by decide) rfl (by decide) fun b w hs hb hg => ⟨rfl, _, exec_move rfl (hs 1 (by kernel_rfl)), rfl⟩) ?_
                  refine OpsFu.cons _ _ (OpFu.read (by decide) rfl (by decide) fun b w hs hb hg => ⟨rfl, _, exec_move rfl (hs 3 (by kernel_rfl)), rfl⟩) ?_
                  refine OpsFu.cons _ _ (OpFu.read (by decide) rfl (by decide) fun b w hs hb hg => ⟨rfl, _, exec_atU rfl (dep hg 0 rfl rfl rfl rfl) (dep hg 1 rfl rfl rfl rfl) Hk8.out, rfl⟩) ?_
                  refine OpsFu.cons _ _ (OpFu.read (by decide) rfl (by decide) fun b w hs hb hg => ⟨rfl, _, exec_load64 rfl (dep hg 0 rfl rfl rfl rfl) (HNd.out.keep hb _ _ Hb.out), rfl⟩) ?_
                  refine OpsFu.cons _ _ (OpFu.read (by decide) rfl (by decide) fun b w hs hb hg => ⟨rfl, _, exec_move rfl (hs 1 (by kernel_rfl)), rfl⟩) ?_
                  refine OpsFu.cons _ _ (OpFu.read (by decide) rfl (by decide) fun b w hs hb hg => ⟨rfl, _, exec_move rfl (hs 2 (by kernel_rfl)), rfl⟩) ?_
                  refine OpsFu.cons _ _ (OpFu.read (by decide) rfl (by decide) fun b w hs hb hg => ⟨rfl, _, exec_atU rfl (dep hg 0 rfl rfl rfl rfl) (dep hg 1 rfl rfl rfl rfl) Hi8.out, rfl⟩) ?_
                  refine OpsFu.cons _ _ (OpFu.read (by decide) rfl (by decide) fun b w hs hb hg => ⟨rfl, _, exec_load64 rfl (dep hg 0 rfl rfl rfl rfl) (HNd.out.keep hb _ _ Ha.out), rfl⟩) ?_
                  refine OpsFu.cons _ _ (OpFu.read (by decide) rfl (by decide) fun b w hs hb hg => ⟨rfl, _, exec_move rfl (hs 1 (by kernel_rfl)), rfl⟩) ?_
                  refine OpsFu.cons _ _ (OpFu.read (by decide) rfl (by decide) fun b w hs hb hg => ⟨rfl, _, exec_move rfl (hs 2 (by kernel_rfl)), rfl⟩) ?_
                  refine OpsFu.cons _ _ (OpFu.read (by decide) rfl (by decide) fun b w hs hb hg => ⟨rfl, _, exec_addN (k := 1) Hi1.out rfl (dep hg 0 rfl rfl rfl rfl) rfl, rfl⟩) ?_
                  refine OpsFu.cons _ _ (OpFu.read (by decide) rfl (by decide) fun b w hs hb hg => ⟨rfl, _, exec_remN rfl (dep hg 0 rfl rfl rfl rfl) rfl, rfl⟩) ?_
                  refine OpsFu.cons _ _ (OpFu.read (by decide) rfl (by decide) fun b w hs hb hg => ⟨rfl, _, exec_atU rfl (dep hg 0 rfl rfl rfl rfl) (dep hg 1 rfl rfl rfl rfl) (Nat.mod_lt _ (by decide)), rfl⟩) ?_
                  refine OpsFu.cons _ _ (OpFu.read (by decide) rfl (by decide) fun b w hs hb hg => ⟨rfl, _, exec_load64 rfl (dep hg 0 rfl rfl rfl rfl) (HNd.out.keep hb _ _ He.out), rfl⟩) ?_
                  refine OpsFu.cons _ _ (OpFu.read (by decide) rfl (by decide) fun b w hs hb hg => ⟨rfl, _, exec_bY rfl (dep hg 0 rfl rfl rfl rfl) (dep hg 1 rfl rfl rfl rfl) (dep hg 2 rfl rfl rfl rfl) (dep hg 3 rfl rfl rfl rfl), rfl⟩) ?_
                  refine OpsFu.cons _ _ (OpFu.make (by decide) (by decide) (by decide) rfl (by decide) (by decide) rfl (fun L hcl hn => notyet (s := 28) (k := 0) hcl rfl rfl rfl hn) (fun _ _ => trivial) (fun _ _ _ _ h => h) fun b w => exec_allocN rfl) ?_
                  refine OpsFu.cons _ _ (OpFu.swap (OpFu.make (by decide) (by decide) (by decide) rfl (by decide) (by decide) rfl (fun L hcl hn => notyet (s := 29) (k := 0) hcl rfl rfl rfl hn) (fun _ _ => trivial) (fun _ _ _ _ h => h) fun b w => exec_allocN rfl)) ?_
                  refine OpsFu.cons _ _ (OpFu.fill (by decide) (by decide) (by decide) rfl rfl rfl size_nm (fun _ _ _ _ h => h) (fun L hd => ⟨hd _ (List.mem_of_getElem? (i := 0) rfl) rfl, hd _ (List.mem_of_getElem? (i := 29) rfl) rfl⟩) fun b w hg => (dep hg 1 rfl rfl rfl rfl)) ?_
                  refine OpsFu.cons _ _ (OpFu.swap (OpFu.fill (by decide) (by decide) (by decide) rfl rfl rfl size_nm (fun _ _ _ _ h => h) (fun L hd => ⟨hd _ (List.mem_of_getElem? (i := 0) rfl) rfl, hd _ (List.mem_of_getElem? (i := 29) rfl) rfl⟩) fun b w hg => (dep hg 1 rfl rfl rfl rfl))) ?_
                  exact OpsFu.nil _ _
                · intro L b' w' hall hsz hd hs hC hf
                  obtain ⟨p, q, ep, eq, hp, hq⟩ := hC.both (hall 26 (by decide)) (hall 27 (by decide)) (hall 28 (by decide)) (hall 29 (by decide))
                  refine hK _ _ (Met.intro (hJ _ _ ?_))
                  exact ⟨b'.tmps.getD 5 undef, b'.tmps.getD 6 undef, b'.tmps.getD 50 undef, b'.tmps.getD 51 undef, b'.tmps.getD 52 undef, b'.tmps.getD 53 undef, b'.tmps.getD 54 undef, b'.tmps.getD 55 undef, b'.tmps.getD 56 undef, b'.tmps.getD 57 undef, b'.tmps.getD 58 undef, b'.tmps.getD 59 undef, b'.tmps.getD 60 undef, b'.tmps.getD 61 undef, b'.tmps.getD 62 undef, b'.tmps.getD 63 undef, b'.tmps.getD 64 undef, b'.tmps.getD 65 undef, b'.tmps.getD 66 undef, b'.tmps.getD 67 undef, b'.tmps.getD 68 undef, b'.tmps.getD 69 undef, b'.tmps.getD 70 undef, b'.tmps.getD 71 undef, b'.tmps.getD 72 undef, b'.tmps.getD 73 undef, b'.tmps.getD 74 undef, b'.tmps.getD 75 undef, ⟨p, q, ep, eq, hp, hq, hC.below⟩, (act_known hsz hd hs).trans (by kernel_rfl)⟩
              obtain ⟨p, q, rfl, rfl, hp, hq, hb13⟩ := hcut
              have HB13 : Hid (Below W1.heap.size W1 wc) := (HBz.out.drew).trans (hb13.mono (show W1.heap.size ≤ wr.drew.heap.size from HBz.out.size))
              have HP := Lib.hid hp
              have HQ := Lib.hid hq
              clear hp hq hb13
              go_upto_region 14 with fail
              obtain ⟨wy, hwy⟩ : ∃ wy, Hid (wy = wc) := ⟨_, rfl⟩
              rw [← hwy.out] at HB13 HP HQ ⊢
              go_cut [97] from 76 to 97 (fun s wx => s = .bool false ∧ Below wy.heap.size wy wx)
              case first =>
                rename_i J K1 hJ hK
                refine wp_region_skips (n := 142) (KEF x y z N i kd na) (KEC wy x y p q N) (by kernel_rfl) (by kernel_rfl) rfl ?_ ?_ ?_
                · exact ⟨(Below.refl _ _).drew, HP.out.keep (Below.refl _ _).drew, HQ.out.keep (Below.refl _ _).drew, (HN1.out.keep HB13.out).keep (Below.refl _ _).drew, (HE1.out.on HB13.out).on (Below.refl _ _).drew⟩
                · skip
                  refine OksOp.cons _ _ (OkOp.of _ _ (OpOk.run _ _ KEF.keep KEC.keep fun b v hs hc hg => ⟨rfl, _, _, exec_loadN rfl (hs 5 (by kernel_rfl)) hc.2.1, .refl _ _, rfl⟩)) ?_
                  refine OksOp.cons _ _ (OkOp.of _ _ (OpOk.run _ _ KEF.keep KEC.keep fun b v hs hc hg => ⟨rfl, _, _, exec_loadN rfl (hs 6 (by kernel_rfl)) hc.2.2.1, .refl _ _, rfl⟩)) ?_
                  refine OksOp.cons _ _ (OkOp.of _ _ (OpOk.call _ _ KEF.keep KEC.keep fun b v hs hc hg => ⟨rfl, _, _, exec_call2 (enter_namePuts _) rfl (dep hg 0 rfl rfl rfl rfl) (dep hg 1 rfl rfl rfl rfl), ans_q (putsLaw_any x y Ox.out Oy.out v hc.2.2.2.2)⟩)) ?_
                  refine OksOp.cons _ _ (OkOp.of _ _ (OpOk.run _ _ KEF.keep KEC.keep fun b v hs hc hg => ⟨rfl, _, _, exec_not rfl (dep hg 0 rfl rfl rfl rfl), .refl _ _, rfl⟩)) ?_
                  refine OksOp.cons _ _ (OkOp.of _ _ (OpOk.run _ _ KEF.keep KEC.keep fun b v hs hc hg => ⟨rfl, _, _, exec_move rfl (dep hg 0 rfl rfl rfl rfl), .refl _ _, rfl⟩)) ?_
                  refine OksOp.cons _ _ (OkOp.of _ _ (OpOk.run _ _ KEF.keep KEC.keep fun b v hs hc hg => ⟨wanted_of rfl rfl rfl (dep hg 0 rfl rfl rfl rfl), _, _, exec_loadN rfl (hs 6 (by kernel_rfl)) hc.2.2.1, .refl _ _, rfl⟩)) ?_
                  refine OksOp.cons _ _ (OkOp.of _ _ (OpOk.run _ _ KEF.keep KEC.keep fun b v hs hc hg => ⟨wanted_of rfl rfl rfl (dep hg 0 rfl rfl rfl rfl), _, _, exec_move rfl (hs 4 (by kernel_rfl)), .refl _ _, rfl⟩)) ?_
                  refine OksOp.cons _ _ (OkOp.of _ _ (OpOk.run _ _ KEF.keep KEC.keep fun b v hs hc hg => ⟨wanted_of rfl rfl rfl (dep hg 1 rfl rfl rfl rfl), _, _, exec_sub6 Hkd.out rfl rfl (dep hg 0 rfl rfl rfl rfl), .refl _ _, rfl⟩)) ?_
                  refine OksOp.cons _ _ (OkOp.of _ _ (OpOk.run _ _ KEF.keep KEC.keep fun b v hs hc hg => ⟨wanted_of rfl rfl rfl (dep hg 0 rfl rfl rfl rfl), _, _, exec_move rfl (hs 1 (by kernel_rfl)), .refl _ _, rfl⟩)) ?_
                  refine OksOp.cons _ _ (OkOp.of _ _ (OpOk.run _ _ KEF.keep KEC.keep fun b v hs hc hg => ⟨wanted_of rfl rfl rfl (dep hg 0 rfl rfl rfl rfl), _, _, exec_move rfl (hs 2 (by kernel_rfl)), .refl _ _, rfl⟩)) ?_
                  refine OksOp.cons _ _ (OkOp.of _ _ (OpOk.run _ _ KEF.keep KEC.keep fun b v hs hc hg => ⟨wanted_of rfl rfl rfl (dep hg 2 rfl rfl rfl rfl), _, _, exec_atU rfl (dep hg 0 rfl rfl rfl rfl) (dep hg 1 rfl rfl rfl rfl) Hi8.out, .refl _ _, rfl⟩)) ?_
                  refine OksOp.cons _ _ (OkOp.of _ _ (OpOk.run _ _ KEF.keep KEC.keep fun b v hs hc hg => ⟨wanted_of rfl rfl rfl (dep hg 1 rfl rfl rfl rfl), _, _, exec_load64 rfl (dep hg 0 rfl rfl rfl rfl) (hc.2.2.2.1 _ _ Ha.out), .refl _ _, rfl⟩)) ?_
                  refine OksOp.cons _ _ (OkOp.of _ _ (OpOk.run _ _ KEF.keep KEC.keep fun b v hs hc hg => ⟨wanted_of rfl rfl rfl (dep hg 2 rfl rfl rfl rfl), _, _, exec_bZ rfl (dep hg 0 rfl rfl rfl rfl) (dep hg 1 rfl rfl rfl rfl) rfl, .refl _ _, by rw [Hz.out]; rfl⟩)) ?_
                  refine OksOp.cons _ _ (OkOp.of _ _ (OpOk.call _ _ KEF.keep KEC.keep fun b v hs hc hg => ⟨wanted_of rfl rfl rfl (dep hg 2 rfl rfl rfl rfl), _, _, exec_call2 (enter_namePuts _) rfl (dep hg 0 rfl rfl rfl rfl) (dep hg 1 rfl rfl rfl rfl), ans_q (putsLaw_any y z Oy.out Oz.out v hc.2.2.2.2)⟩)) ?_
                  refine OksOp.cons _ _ (OkOp.of _ _ (OpOk.run _ _ KEF.keep KEC.keep fun b v hs hc hg => ⟨wanted_of rfl rfl rfl (dep hg 1 rfl rfl rfl rfl), _, _, exec_not rfl (dep hg 0 rfl rfl rfl rfl), .refl _ _, rfl⟩)) ?_
                  refine OksOp.cons _ _ (OkOp.of _ _ (OpOk.run _ _ KEF.keep KEC.keep fun b v hs hc hg => ⟨rfl, _, _, exec_pick rfl (dep hg 0 rfl rfl rfl rfl) (dep hg 1 rfl rfl rfl rfl), .refl _ _, rfl⟩)) ?_
                  refine OksOp.cons _ _ (OkOp.of _ _ (OpOk.run _ _ KEF.keep KEC.keep fun b v hs hc hg => ⟨rfl, _, _, exec_move rfl (dep hg 0 rfl rfl rfl rfl), .refl _ _, rfl⟩)) ?_
                  refine OksOp.cons _ _ (OkOp.of _ _ (OpOk.run _ _ KEF.keep KEC.keep fun b v hs hc hg => ⟨wanted_of rfl rfl rfl (dep hg 0 rfl rfl rfl rfl), _, _, exec_loadN rfl (hs 5 (by kernel_rfl)) hc.2.1, .refl _ _, rfl⟩)) ?_
                  refine OksOp.cons _ _ (OkOp.of _ _ (OpOk.run _ _ KEF.keep KEC.keep fun b v hs hc hg => ⟨wanted_of rfl rfl rfl (dep hg 0 rfl rfl rfl rfl), _, _, exec_loadN rfl (hs 6 (by kernel_rfl)) hc.2.2.1, .refl _ _, rfl⟩)) ?_
                  refine OksOp.cons _ _ (OkOp.of _ _ (OpOk.call _ _ KEF.keep KEC.keep fun b v hs hc hg => ⟨wanted_of rfl rfl rfl (dep hg 2 rfl rfl rfl rfl), _, _, exec_call3 (enter_nameBack _) rfl (dep hg 0 rfl rfl rfl rfl) (dep hg 1 rfl rfl rfl rfl) rfl, ans_q (backLaw_any x y Ox.out Oy.out [115, 45, 49, 45, 50] v hc.2.2.2.2 (by decide))⟩)) ?_
                  refine OksOp.cons _ _ (OkOp.of _ _ (OpOk.run _ _ KEF.keep KEC.keep fun b v hs hc hg => ⟨wanted_of rfl rfl rfl (dep hg 1 rfl rfl rfl rfl), _, _, exec_not rfl (dep hg 0 rfl rfl rfl rfl), .refl _ _, rfl⟩)) ?_
                  refine OksOp.cons _ _ (OkOp.of _ _ (OpOk.run _ _ KEF.keep KEC.keep fun b v hs hc hg => ⟨rfl, _, _, exec_pick rfl (dep hg 0 rfl rfl rfl rfl) (dep hg 1 rfl rfl rfl rfl), .refl _ _, rfl⟩)) ?_
                  exact OksOp.nil _ _
                · intro b' w' hsz hd hs hc hall
                  refine hK _ _ (Met.intro (hJ _ _ ?_))
                  exact ⟨b'.tmps.getD 76 undef, b'.tmps.getD 77 undef, b'.tmps.getD 78 undef, b'.tmps.getD 79 undef, b'.tmps.getD 80 undef, b'.tmps.getD 81 undef, b'.tmps.getD 82 undef, b'.tmps.getD 83 undef, b'.tmps.getD 84 undef, b'.tmps.getD 85 undef, b'.tmps.getD 86 undef, b'.tmps.getD 87 undef, b'.tmps.getD 88 undef, b'.tmps.getD 89 undef, b'.tmps.getD 90 undef, b'.tmps.getD 91 undef, b'.tmps.getD 92 undef, b'.tmps.getD 93 undef, b'.tmps.getD 94 undef, b'.tmps.getD 95 undef, b'.tmps.getD 96 undef, b'.tmps.getD 97 undef, ⟨hall 21 _ _ rfl rfl, hc.1⟩, (act_known hsz hd hs).trans (by kernel_rfl)⟩
              obtain ⟨rfl, hb14⟩ := hcut
              have HB14 := Lib.hid (HB13.out.trans (hb14.mono HB13.out.size))
              clear hb14
              go_wp2
              go_roundw
              case rel => exact ⟨kd + 1, by omega, by go_num, HB14.out⟩
              case measure => simp [Lib.intOf]; omega
            · go_wp2
              go_roundw
              case rel => exact ⟨k + 1, by omega, by go_num, HBz.out⟩
              case measure => simp [Lib.intOf]; omega
        · go_wp2
          go_roundw
          case rel => exact ⟨i + 1, by omega, by go_num, HBk.out⟩
          case measure => simp [Lib.intOf]; omega
    · go_upto_region 17 with fail
      obtain ⟨W2, hW2⟩ : ∃ W, Hid (W = wr.alloc (.cells #[.string { data := #[] }, .string { data := #[115] }, .string { data := #[115, 45] }, .string { data := #[115, 45, 49] }, .string { data := #[115, 45, 49, 45, 50] }, .string { data := #[115, 45, 49, 45, 50, 45, 51] }, .string { data := #[115, 45, 48, 49, 45, 50] }, .string { data := #[115, 45, 49, 45, 48, 50] }, .string { data := #[115, 45, 45, 49] }, .string { data := #[115, 45, 49, 45] }, .string { data := #[115, 45, 32, 49, 45, 50] }, .string { data := #[83, 45, 49, 45, 50] }, .string { data := #[98, 45, 48, 45, 48] }, .string { data := #[98, 45, 49, 56, 52, 52, 54, 55, 52, 52, 48, 55, 51, 55, 48, 57, 53, 53, 49, 54, 49, 53, 45, 49] }, .string { data := #[98, 45, 49, 56, 52, 52, 54, 55, 52, 52, 48, 55, 51, 55, 48, 57, 53, 53, 49, 54, 49, 54, 45, 49] }, .string { data := #[98, 45, 49, 45, 57, 57, 57, 57, 57, 57, 57, 57, 57, 57, 57, 57, 57, 57, 57, 57, 57, 57, 57, 57] }, .string { data := #[98, 45, 49, 45, 49, 48, 48, 48, 48, 48, 48, 48, 48, 48, 48, 48, 48, 48, 48, 48, 48, 48, 48, 48, 48] }, .string { data := #[116, 45, 49, 45, 50] }, .string { data := #[116, 45, 49, 45, 50, 45, 51] }, .string { data := #[116, 45, 49, 45, 50, 45, 51, 45, 52] }, .string { data := #[106, 45, 49, 45, 50, 45, 51] }, .string { data := #[106, 45, 49, 45, 50, 45, 51, 45, 52] }, .string { data := #[106, 45, 49, 45, 50, 45, 51, 45, 52, 45, 53] }, .string { data := #[120, 45, 49, 45, 50] }, .string { data := #[45, 49, 45, 50] }, .string { data := #[115, 45, 49, 45, 50, 0] }, .string { data := #[115, 45, 49, 45, 97] }, .string { data := #[115, 45, 49, 45, 50, 10] }, .string { data := #[115, 45, 43, 49, 45, 50] }] 9)) := ⟨_, rfl⟩
      rw [← hW2.out]
      have h12 : Below wr.heap.size wr W2 := by rw [hW2.out]; exact below_new _ _
      have HB2 : Hid (Below w.heap.size w W2) := (HB1.out.trans (HBi.out.mono HB1.out.size)).trans (h12.mono (Nat.le_trans HB1.out.size HBi.out.size))
      have HT2 : Hid (TextsAt tx29 wr.heap.size W2) := by rw [hW2.out]; exact TextsAt.new tx29 wr _
      have HE2 := Lib.hid (HE.out.on HB2.out)
      obtain ⟨M, hM⟩ : ∃ M, Hid (M = wr.heap.size) := ⟨_, rfl⟩
      rw [← hM.out] at HT2 ⊢
      clear h12
      go_wp2
      go_loopw [8] (fun s wr => ∃ q : Nat, q ≤ 29 ∧ s = .int .i64 (q : Int) ∧ Below W2.heap.size W2 wr) (fun s _ => 29 - (Lib.intOf s).toNat)
      case atStart => exact ⟨0, Nat.zero_le _, rfl, .refl _ _⟩
      case round =>
        obtain ⟨q, hq, rfl, hb1⟩ := hrel
        have HBq := Lib.hid hb1
        clear hb1
        by_cases hq29 : q < 29
        · obtain ⟨s, hs⟩ : ∃ s, tx29[q]? = some s := ⟨_, List.getElem?_eq_getElem hq29⟩
          have hle := tx29_le (List.mem_of_getElem? hs)
          have Hs := Lib.hid hs
          have Hq29 := Lib.hid hq29
          have Hl1 : Hid (s.length ≤ 9223372036854775807) := Nat.le_trans hle (by decide)
          have Hl2 : Hid ((s ++ [48]).length ≤ 9223372036854775807) := by
            rw [List.length_append]
            exact Nat.le_trans (Nat.add_le_add_right hle _) (by decide)
          have Hlz : Hid ((txt s).size + (txt [48]).size ≤ 9223372036854775807) := by
            rw [txt_size, txt_size]
            exact Nat.le_trans (Nat.add_le_add_right hle _) (by decide)
          have Hdl : Hid ((tx29.drop q).length = 29 - q) := by rw [List.length_drop]; exact rfl
          have Hd63 : Hid (29 - q ≤ 9223372036854775807) := Nat.le_trans (Nat.sub_le _ _) (by decide)
          have Ht63 : Hid (∀ s ∈ tx29.drop q, s.length ≤ 9223372036854775807) := fun s hs => Nat.le_trans (tx29_le (List.mem_of_mem_drop hs)) (by decide)
          clear hs hle
          go_upto_region 20 with fail
          go_cut [136] from 105 to 136 (fun s wx => s = .bool false ∧ Below wr.heap.size wr wx)
          case first =>
            rename_i J K1 hJ hK
            refine wp_region_seq (n := 142) (KTF s M q) (KTC wr M) (by kernel_rfl) rfl ?_ ?_ ?_
            · exact ⟨Below.refl _ _, HT2.out.keep HBq.out, HE2.out.on HBq.out⟩
            · skip
              refine OksOp.cons _ _ (OkOp.of _ _ (OpOk.run _ _ KTF.keep KTC.keep fun b v hs hc hg => ⟨rfl, _, _, exec_move rfl (hs 7 (by kernel_rfl)), .refl _ _, rfl⟩)) ?_
              refine OksOp.cons _ _ (OkOp.of _ _ (OpOk.run _ _ KTF.keep KTC.keep fun b v hs hc hg => ⟨rfl, _, _, exec_move rfl (hs 8 (by kernel_rfl)), .refl _ _, rfl⟩)) ?_
              refine OksOp.cons _ _ (OkOp.of _ _ (OpOk.run _ _ KTF.keep KTC.keep fun b v hs hc hg => ⟨rfl, _, _, exec_atT rfl (dep hg 0 rfl rfl rfl rfl) (dep hg 1 rfl rfl rfl rfl) Hq29.out, .refl _ _, rfl⟩)) ?_
              refine OksOp.cons _ _ (OkOp.of _ _ (OpOk.run _ _ KTF.keep KTC.keep fun b v hs hc hg => ⟨rfl, _, _, exec_loadT rfl (dep hg 0 rfl rfl rfl rfl) (hc.2.1 _ _ Hs.out), .refl _ _, rfl⟩)) ?_
              refine OksOp.cons _ _ (OkOp.of _ _ (OpOk.call _ _ KTF.keep KTC.keep fun b v hs hc hg => ⟨rfl, _, _, exec_call1 (enter_nameReads _) rfl (dep hg 0 rfl rfl rfl rfl), ans_q (readsLaw_any s v hc.2.2 Hl1.out)⟩)) ?_
              refine OksOp.cons _ _ (OkOp.of _ _ (OpOk.run _ _ KTF.keep KTC.keep fun b v hs hc hg => ⟨rfl, _, _, exec_not rfl (dep hg 0 rfl rfl rfl rfl), .refl _ _, rfl⟩)) ?_
              refine OksOp.cons _ _ (OkOp.of _ _ (OpOk.run _ _ KTF.keep KTC.keep fun b v hs hc hg => ⟨rfl, _, _, exec_move rfl (dep hg 0 rfl rfl rfl rfl), .refl _ _, rfl⟩)) ?_
              refine OksOp.cons _ _ (OkOp.of _ _ (OpOk.run _ _ KTF.keep KTC.keep fun b v hs hc hg => ⟨wanted_of rfl rfl rfl (dep hg 0 rfl rfl rfl rfl), _, _, exec_move rfl (hs 7 (by kernel_rfl)), .refl _ _, rfl⟩)) ?_
              refine OksOp.cons _ _ (OkOp.of _ _ (OpOk.run _ _ KTF.keep KTC.keep fun b v hs hc hg => ⟨wanted_of rfl rfl rfl (dep hg 0 rfl rfl rfl rfl), _, _, exec_move rfl (hs 8 (by kernel_rfl)), .refl _ _, rfl⟩)) ?_
              refine OksOp.cons _ _ (OkOp.of _ _ (OpOk.run _ _ KTF.keep KTC.keep fun b v hs hc hg => ⟨wanted_of rfl rfl rfl (dep hg 2 rfl rfl rfl rfl), _, _, exec_atT rfl (dep hg 0 rfl rfl rfl rfl) (dep hg 1 rfl rfl rfl rfl) Hq29.out, .refl _ _, rfl⟩)) ?_
              refine OksOp.cons _ _ (OkOp.of _ _ (OpOk.run _ _ KTF.keep KTC.keep fun b v hs hc hg => ⟨wanted_of rfl rfl rfl (dep hg 1 rfl rfl rfl rfl), _, _, exec_loadT rfl (dep hg 0 rfl rfl rfl rfl) (hc.2.1 _ _ Hs.out), .refl _ _, rfl⟩)) ?_
              refine OksOp.cons _ _ (OkOp.of _ _ (OpOk.run _ _ KTF.keep KTC.keep fun b v hs hc hg => ⟨wanted_of rfl rfl rfl (dep hg 1 rfl rfl rfl rfl), _, _, exec_addT Hlz.out rfl (dep hg 0 rfl rfl rfl rfl) rfl, .refl _ _, rfl⟩)) ?_
              refine OksOp.cons _ _ (OkOp.of _ _ (OpOk.call _ _ KTF.keep KTC.keep fun b v hs hc hg => ⟨wanted_of rfl rfl rfl (dep hg 1 rfl rfl rfl rfl), _, _, exec_call1 (enter_nameReads _) rfl (dep hg 0 rfl rfl rfl rfl), ans_q (readsLaw_any (s ++ [48]) v hc.2.2 Hl2.out)⟩)) ?_
              refine OksOp.cons _ _ (OkOp.of _ _ (OpOk.run _ _ KTF.keep KTC.keep fun b v hs hc hg => ⟨wanted_of rfl rfl rfl (dep hg 1 rfl rfl rfl rfl), _, _, exec_not rfl (dep hg 0 rfl rfl rfl rfl), .refl _ _, rfl⟩)) ?_
              refine OksOp.cons _ _ (OkOp.of _ _ (OpOk.run _ _ KTF.keep KTC.keep fun b v hs hc hg => ⟨rfl, _, _, exec_pick rfl (dep hg 0 rfl rfl rfl rfl) (dep hg 1 rfl rfl rfl rfl), .refl _ _, rfl⟩)) ?_
              refine OksOp.cons _ _ (OkOp.of _ _ (OpOk.run _ _ KTF.keep KTC.keep fun b v hs hc hg => ⟨rfl, _, _, exec_move rfl (dep hg 0 rfl rfl rfl rfl), .refl _ _, rfl⟩)) ?_
              refine OksOp.cons _ _ (OkOp.of _ _ (OpOk.run _ _ KTF.keep KTC.keep fun b v hs hc hg => ⟨wanted_of rfl rfl rfl (dep hg 0 rfl rfl rfl rfl), _, _, exec_move rfl (hs 7 (by kernel_rfl)), .refl _ _, rfl⟩)) ?_
              refine OksOp.cons _ _ (OkOp.of _ _ (OpOk.run _ _ KTF.keep KTC.keep fun b v hs hc hg => ⟨wanted_of rfl rfl rfl (dep hg 0 rfl rfl rfl rfl), _, _, exec_move rfl (hs 8 (by kernel_rfl)), .refl _ _, rfl⟩)) ?_
              refine OksOp.cons _ _ (OkOp.of _ _ (OpOk.run _ _ KTF.keep KTC.keep fun b v hs hc hg => ⟨wanted_of rfl rfl rfl (dep hg 2 rfl rfl rfl rfl), _, _, exec_from rfl (dep hg 0 rfl rfl rfl rfl) (dep hg 1 rfl rfl rfl rfl) Hq29.out, .refl _ _, rfl⟩)) ?_
              refine OksOp.cons _ _ (OkOp.of _ _ (OpOk.call _ _ KTF.keep KTC.keep fun b v hs hc hg => ⟨wanted_of rfl rfl rfl (dep hg 1 rfl rfl rfl rfl), _, _, exec_call1 (enter_nameSorts _) rfl (dep hg 0 rfl rfl rfl rfl), ans_q (sortsLaw_any (some ⟨M, q, none⟩) (29 - q) (29 - q) (tx29.drop q) v Hdl.out hc.2.2 (TextsAt.rd hc.2.1) Hd63.out Ht63.out)⟩)) ?_
              refine OksOp.cons _ _ (OkOp.of _ _ (OpOk.run _ _ KTF.keep KTC.keep fun b v hs hc hg => ⟨wanted_of rfl rfl rfl (dep hg 1 rfl rfl rfl rfl), _, _, exec_not rfl (dep hg 0 rfl rfl rfl rfl), .refl _ _, rfl⟩)) ?_
              refine OksOp.cons _ _ (OkOp.of _ _ (OpOk.run _ _ KTF.keep KTC.keep fun b v hs hc hg => ⟨rfl, _, _, exec_pick rfl (dep hg 0 rfl rfl rfl rfl) (dep hg 1 rfl rfl rfl rfl), .refl _ _, rfl⟩)) ?_
              refine OksOp.cons _ _ (OkOp.of _ _ (OpOk.run _ _ KTF.keep KTC.keep fun b v hs hc hg => ⟨rfl, _, _, exec_move rfl (dep hg 0 rfl rfl rfl rfl), .refl _ _, rfl⟩)) ?_
              refine OksOp.cons _ _ (OkOp.of _ _ (OpOk.run _ _ KTF.keep KTC.keep fun b v hs hc hg => ⟨wanted_of rfl rfl rfl (dep hg 0 rfl rfl rfl rfl), _, _, exec_b0 rfl, .refl _ _, rfl⟩)) ?_
              refine OksOp.cons _ _ (OkOp.of _ _ (OpOk.run _ _ KTF.keep KTC.keep fun b v hs hc hg => ⟨wanted_of rfl rfl rfl (dep hg 0 rfl rfl rfl rfl), _, _, exec_b0 rfl, .refl _ _, rfl⟩)) ?_
              refine OksOp.cons _ _ (OkOp.of _ _ (OpOk.run _ _ KTF.keep KTC.keep fun b v hs hc hg => ⟨wanted_of rfl rfl rfl (dep hg 0 rfl rfl rfl rfl), _, _, exec_move rfl (hs 7 (by kernel_rfl)), .refl _ _, rfl⟩)) ?_
              refine OksOp.cons _ _ (OkOp.of _ _ (OpOk.run _ _ KTF.keep KTC.keep fun b v hs hc hg => ⟨wanted_of rfl rfl rfl (dep hg 0 rfl rfl rfl rfl), _, _, exec_move rfl (hs 8 (by kernel_rfl)), .refl _ _, rfl⟩)) ?_
              refine OksOp.cons _ _ (OkOp.of _ _ (OpOk.run _ _ KTF.keep KTC.keep fun b v hs hc hg => ⟨wanted_of rfl rfl rfl (dep hg 2 rfl rfl rfl rfl), _, _, exec_atT rfl (dep hg 0 rfl rfl rfl rfl) (dep hg 1 rfl rfl rfl rfl) Hq29.out, .refl _ _, rfl⟩)) ?_
              refine OksOp.cons _ _ (OkOp.of _ _ (OpOk.run _ _ KTF.keep KTC.keep fun b v hs hc hg => ⟨wanted_of rfl rfl rfl (dep hg 1 rfl rfl rfl rfl), _, _, exec_loadT rfl (dep hg 0 rfl rfl rfl rfl) (hc.2.1 _ _ Hs.out), .refl _ _, rfl⟩)) ?_
              refine OksOp.cons _ _ (OkOp.of _ _ (OpOk.call _ _ KTF.keep KTC.keep fun b v hs hc hg => ⟨wanted_of rfl rfl rfl (dep hg 3 rfl rfl rfl rfl), _, _, exec_call3 (enter_nameBack _) rfl (dep hg 0 rfl rfl rfl rfl) (dep hg 1 rfl rfl rfl rfl) (dep hg 2 rfl rfl rfl rfl), ans_q (backLaw_any Nm.zero Nm.zero Nm.Ok.zero Nm.Ok.zero s v hc.2.2 Hl1.out)⟩)) ?_
              refine OksOp.cons _ _ (OkOp.of _ _ (OpOk.run _ _ KTF.keep KTC.keep fun b v hs hc hg => ⟨wanted_of rfl rfl rfl (dep hg 1 rfl rfl rfl rfl), _, _, exec_not rfl (dep hg 0 rfl rfl rfl rfl), .refl _ _, rfl⟩)) ?_
              refine OksOp.cons _ _ (OkOp.of _ _ (OpOk.run _ _ KTF.keep KTC.keep fun b v hs hc hg => ⟨rfl, _, _, exec_pick rfl (dep hg 0 rfl rfl rfl rfl) (dep hg 1 rfl rfl rfl rfl), .refl _ _, rfl⟩)) ?_
              exact OksOp.nil _ _
            · intro b' w' hsz hd hs hc hall
              refine hK _ _ (Met.intro (hJ _ _ ?_))
              exact ⟨b'.tmps.getD 105 undef, b'.tmps.getD 106 undef, b'.tmps.getD 107 undef, b'.tmps.getD 108 undef, b'.tmps.getD 109 undef, b'.tmps.getD 110 undef, b'.tmps.getD 111 undef, b'.tmps.getD 112 undef, b'.tmps.getD 113 undef, b'.tmps.getD 114 undef, b'.tmps.getD 115 undef, b'.tmps.getD 116 undef, b'.tmps.getD 117 undef, b'.tmps.getD 118 undef, b'.tmps.getD 119 undef, b'.tmps.getD 120 undef, b'.tmps.getD 121 undef, b'.tmps.getD 122 undef, b'.tmps.getD 123 undef, b'.tmps.getD 124 undef, b'.tmps.getD 125 undef, b'.tmps.getD 126 undef, b'.tmps.getD 127 undef, b'.tmps.getD 128 undef, b'.tmps.getD 129 undef, b'.tmps.getD 130 undef, b'.tmps.getD 131 undef, b'.tmps.getD 132 undef, b'.tmps.getD 133 undef, b'.tmps.getD 134 undef, b'.tmps.getD 135 undef, b'.tmps.getD 136 undef, ⟨hall 31 _ _ rfl rfl, hc.1⟩, (act_known hsz hd hs).trans (by kernel_rfl)⟩
          obtain ⟨rfl, hb20⟩ := hcut
          have HB20 := Lib.hid (HBq.out.trans (hb20.mono HBq.out.size))
          clear hb20
          go_wp2
          go_roundw
          case rel => exact ⟨q + 1, by omega, by go_num, HB20.out⟩
          case measure => simp [Lib.intOf]; omega
        · have HE3 := Lib.hid (HE2.out.on HBq.out)
          have HB3 := Lib.hid (HB2.out.trans (HBq.out.mono HB2.out.size))
          have Hsor : Hid (∀ W : World, Env W → Calls Tryd.prog 6 #[.slice (some ⟨W.heap.size, 0, none⟩) 6 6] (W.alloc (.cells #[.string { data := #[115, 45, 50, 45, 49] }, .string { data := #[98, 45, 48, 45, 49] }, .string { data := #[115, 45, 49, 48, 45, 49] }, .string { data := #[115, 45, 50, 45, 49] }, .string { data := #[116, 45, 48, 45, 48, 45, 48] }, .string { data := #[115, 45, 50, 45, 48] }] 9)) fun e w' => e = .returned (.bool true) ∧ Below W.heap.size W w') := by
            intro W hEW
            have h := sortsLaw_any (some ⟨W.heap.size, 0, none⟩) 6 6 (ty6.drop 0) (W.alloc (.cells (ts ty6).toArray 9)) (by decide) (hEW.on (below_new _ _)) (TextsAt.rd (TextsAt.new ty6 W _)) (by decide) (fun s hs => Nat.le_trans (ty6_le (List.mem_of_mem_drop hs)) (by decide))
            refine Calls.mono h ?_
            rintro e w' ⟨rfl, hb⟩
            exact ⟨rfl, (below_new W _).trans (hb.mono (by simp))⟩
          go_wp2_with (first
            | (go_at_call 6; refine (Hsor.out _ HE3.out).mono ?_; rintro e w4 ⟨rfl, hb4⟩)
            | (go_at_call 16; refine (works_any _ (HE3.out.on hb4)).mono ?_; rintro e w5 ⟨rfl, hb5⟩))
          go_ret
          exact ⟨rfl, HB3.out.trans ((hb4.trans (hb5.mono hb4.size)).mono HB3.out.size)⟩
end Go.Proofs.YtipmpebckfaknaaDoor
