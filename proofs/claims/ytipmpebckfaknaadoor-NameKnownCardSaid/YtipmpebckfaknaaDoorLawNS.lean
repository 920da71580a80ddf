/- NameSorts: the walk. Conditions: none. -/
import Derived.Test.YtipmpebckfaknaaDoorNmI
import Derived.Test.YtipmpebckfaknaaDoorLawNO
namespace Go.Proofs.YtipmpebckfaknaaDoor
open Go.RowKit Go.Lib

def NsF (x : Nm) (g h k m c c' : Nat) : Nat → Value → World → Prop
  | 0, v, _ => v = .slice (some ⟨g, 0, none⟩) m c
  | 1, v, _ => v = .int .i64 (k : Int)
  | 2, v, _ => v = .pointer (some ⟨g, k * 6, none⟩)
  | 3, v, _ => v = x.v
  | 4, v, _ => v = x.v
  | 5, v, _ => v = .slice (some ⟨h, 0, none⟩) m c'
  | 6, v, _ => v = .int .i64 (k : Int)
  | 7, v, _ => v = .pointer (some ⟨h, k * 6, none⟩)
  | 8, v, _ => v = x.v
  | 9, v, _ => v = .bool false
  | _, _, _ => True
theorem NsF.keep {x : Nm} {g h k m c c' : Nat} (j : Nat) (u : Value) (w w' : World) (_hb : Below w.heap.size w w') (hfact : NsF x g h k m c c' j u w) : NsF x g h k m c c' j u w' :=
  match j, hfact with
  | 0, h => h
  | 1, h => h
  | 2, h => h
  | 3, h => h
  | 4, h => h
  | 5, h => h
  | 6, h => h
  | 7, h => h
  | 8, h => h
  | 9, h => h
  | _ + 10, h => h
def NsC (W : World) (x : Nm) (g h k : Nat) (w : World) : Prop := Below W.heap.size W w ∧ BoxNm x w ⟨g, k * 6, none⟩ ∧ BoxNm x w ⟨h, k * 6, none⟩
theorem NsC.keep {W : World} {x : Nm} {g h k : Nat} (w w' : World) (hb : Below w.heap.size w w') (hc : NsC W x g h k w) : NsC W x g h k w' := ⟨hc.1.trans (hb.mono hc.1.size), hc.2.1.keep hb, hc.2.2.keep hb⟩
/-- A list of Names that was answered, some of whose first ones have been written over. -/
def Got (A : Option Addr) (e : TypeId) (B m : Nat) (xs : List Nm) (k : Nat) (w : World) : Prop := m = 0 ∨ ∃ g rest ys, A = some ⟨g, 0, none⟩ ∧ B ≤ g ∧ RowN w g e ys rest ∧ ys.length = m ∧ ∀ j, k ≤ j → ys[j]? = xs[j]?
theorem OwnN.got {e : TypeId} {B m : Nat} {w : World} {v : Value} {xs : List Nm} (h : OwnN e B w v xs) (hm : xs.length = m) : ∃ A c, v = .slice A m c ∧ Got A e B m xs 0 w := by
  rcases h.form with ⟨rfl, rfl⟩ | ⟨g, cap, rest, rfl, hb, hr, _⟩
  · subst hm
    exact ⟨none, 0, rfl, .inl rfl⟩
  · rw [hm]
    exact ⟨_, cap, rfl, .inr ⟨g, rest, xs, rfl, hb, hr, hm, fun _ _ => rfl⟩⟩
theorem Got.keep {A : Option Addr} {e : TypeId} {B m : Nat} {xs : List Nm} {k : Nat} {w w' : World} (h : Got A e B m xs k w) (hb : Below w.heap.size w w') : Got A e B m xs k w' := by
  rcases h with h | ⟨g, rest, ys, h1, h2, h3, h4⟩
  · exact .inl h
  · exact .inr ⟨g, rest, ys, h1, h2, h3.keep hb, h4⟩
theorem Got.mono {A : Option Addr} {e : TypeId} {B B' m : Nat} {xs : List Nm} {k : Nat} {w : World} (h : Got A e B m xs k w) (hb : B' ≤ B) : Got A e B' m xs k w := by
  rcases h with h | ⟨g, rest, ys, h1, h2, h3⟩
  · exact .inl h
  · exact .inr ⟨g, rest, ys, h1, Nat.le_trans hb h2, h3⟩
theorem got_next {g : Nat} {e : TypeId} {B m : Nat} {xs ys : List Nm} {rest : List Value} {k : Nat} {w : World} (hb : B ≤ g) (h : RowN w g e ys rest) (hl : ys.length = m) (hy : ∀ j, k ≤ j → ys[j]? = xs[j]?) :
    Got (some ⟨g, 0, none⟩) e B m xs (k + 1) (w.setRow g (ncells (ys.set k Nm.zero) ++ rest).toArray) := by
  refine .inr ⟨g, rest, ys.set k Nm.zero, rfl, hb, h.put _, by rw [List.length_set]; exact hl, fun j hj => ?_⟩
  rw [List.getElem?_set, if_neg (by omega)]
  exact hy j (by omega)
theorem wpList_storeN {ops : Array Oper} {rest : List Oper} {o : Oper} {a : Act} {w : World} {Q : Exit → Act → World → Prop} {ty e : TypeId} (x y : Operand) {g k : Nat} (n : Nm) {xs : List Nm} {tl : List Value} (hgd : o.guard = none) (hi : (Tryd.prog.info? ty).map (·.size) = some 6)
    (ho : o.op = .store ty x y) (hx : a.eval x = .pointer (some ⟨g, k * 6, none⟩)) (hy : a.eval y = n.v) (hg : RowN w g e xs tl) (hk : k < xs.length)
    (h : wpList Tryd.prog ops Q rest (a.put o.dst undef) (w.setRow g (ncells (xs.set k n) ++ tl).toArray)) : wpList Tryd.prog ops Q (o :: rest) a w :=
  wpList_plain hgd fun _ hK => wp_storeN hi ho hx hy hg hk (hK _ _ h)

set_option maxHeartbeats 4000000 in
set_option maxRecDepth 100000 in
theorem sortsLaw_any (A : Option Addr) (c n : Nat) (l : List (List UInt8)) (w : World) (hn : l.length = n) (hE : Env w) (hr : RdT w w.heap.size A l) (hn63 : n ≤ 9223372036854775807) (hl63 : ∀ s ∈ l, s.length ≤ 9223372036854775807) :
    Calls Tryd.prog 6 #[.slice A n c] w fun e w' => e = .returned (.bool true) ∧ Below w.heap.size w w' := by
  have HE := Lib.hid hE
  have HR := Lib.hid hr
  have Hn := Lib.hid hn
  have Hl63 := Lib.hid hl63
  have Hn63 := Lib.hid hn63
  clear hE hr hn hl63
  by_cases h30 : 30 < n
  · clear Hn63
    go_enter Tryd.func6, Tryd.ntmps6
    go_wp2_with (go_at_call 16; refine (works_any _ HE.out).mono ?_; rintro e w9 ⟨rfl, hb9⟩)
    go_ret
    exact ⟨rfl, hb9⟩
  · go_enter Tryd.func6, Tryd.ntmps6
    go_wp2
    go_loopw [3] (fun i wr => ∃ k : Nat, k ≤ n ∧ i = .int .i64 (k : Int) ∧ Hid (∀ s ∈ l.take k, s.length ≤ 90) ∧ Below w.heap.size w wr) (fun i _ => n - (Lib.intOf i).toNat)
    case atStart => exact ⟨0, Nat.zero_le _, rfl, (by intro s hs; simp at hs), .refl _ _⟩
    case round =>
      obtain ⟨k, hk, rfl, Hsm, hb⟩ := hrel
      have HB := Lib.hid hb
      clear hb
      by_cases hlt : k < n
      · have hlt' : k < l.length := by rw [Hn.out]; exact hlt
        obtain ⟨ad, s, rfl, hab, hcell, hs⟩ := RdT.at_ HR.out hlt'
        have hcr := (HB.out.cell (p := ad.add k) (by rw [block_of_add]; exact hab)).trans hcell
        have Hs63 : Hid (s.length ≤ 9223372036854775807) := Hl63.out s (List.mem_of_getElem? hs.out)
        have Htk : Hid (l.take (k + 1) = l.take k ++ [s]) := by
          show l.take (k + 1) = _
          rw [List.take_add_one, hs.out]
          rfl
        have HEr : Hid (Env wr) := HE.out.on HB.out
        clear hab hcell hs hlt'
        by_cases h90 : 90 < (txt s).size
        · go_wp2_with (go_at_call 16; refine (works_any _ HEr.out).mono ?_; rintro e w9 ⟨rfl, hb9⟩)
          go_ret
          exact ⟨rfl, HB.out.trans (hb9.mono HB.out.size)⟩
        · have Hnext : Hid (∀ q ∈ l.take (k + 1), q.length ≤ 90) := by
            intro q hq
            rw [Htk.out, List.mem_append, List.mem_singleton] at hq
            rcases hq with hq | rfl
            · exact Hsm.out q hq
            · rw [txt_size] at h90
              omega
          go_wp2
          go_roundw
          case rel => exact ⟨k + 1, by omega, by go_num, Hnext, HB.out⟩
          case measure => simp [Lib.intOf]; omega
      · obtain rfl : k = n := by omega
        have Hall : Hid (∀ s ∈ l, s.length ≤ 90) := by
          have h := Hsm.out
          rw [List.take_of_length_le (by rw [Hn.out]; exact Nat.le_refl _)] at h
          exact h
        have Hall2 : Hid (∀ s ∈ l, s.length ≤ 1048000) := fun s hs => Nat.le_trans (Hall.out s hs) (by decide)
        have HRr : Hid (RdT wr wr.heap.size A l) := Reads.more (Reads.below HR.out HB.out) HB.out.size
        obtain ⟨xs, hxs⟩ : ∃ xs, Hid (sortN (namesOf l) = xs) := ⟨_, rfl⟩
        obtain ⟨m, hm⟩ : ∃ m, Hid (xs.length = m) := ⟨_, rfl⟩
        have Hm30 : Hid (m ≤ 30) := by
          have h1 := namesOf_le l k
          rw [List.take_of_length_le (by rw [Hn.out]; exact Nat.le_refl _)] at h1
          rw [← hm.out, ← hxs.out, sortN_length]
          exact (by omega : (namesOf l).length ≤ 30)
        have Hk30 : Hid (k ≤ 1000000) := (by omega : k ≤ 1000000)
        go_upto_region 9 with (go_at_call 23; refine (rsort_any A c k l _ Hn.out HRr.out Hk30.out Hall2.out).mono ?_; rintro e W ⟨⟨v, rfl, hown⟩, hb⟩)
        rw [hxs.out] at hown
        obtain ⟨A2, c2, rfl, hgot⟩ := OwnN.got hown hm.out
        have Hwant := Lib.hid hgot
        have HW : Hid (Below w.heap.size w W) := HB.out.trans (hb.mono HB.out.size)
        have HRW : Hid (RdT W W.heap.size A l) := Reads.more (Reads.below HRr.out hb) hb.size
        clear hown hgot hb HR HRr
        go_wp2
        go_loopw [5] (fun i wr => ∃ q : Nat, q ≤ 2 ∧ i = .int .i64 (q : Int) ∧ Below W.heap.size W wr) (fun i _ => 2 - (Lib.intOf i).toNat)
        case atStart => exact ⟨0, Nat.zero_le _, rfl, .refl _ _⟩
        case round =>
          obtain ⟨q, hq, rfl, hbr⟩ := hrel
          have HBr := Lib.hid hbr
          clear hbr
          by_cases hq2 : q < 2
          · have HRq : Hid (RdT wr wr.heap.size A l) := Reads.more (Reads.below HRW.out HBr.out) HBr.out.size
            have HEq : Hid (Env wr) := (HE.out.on HW.out).on HBr.out
            go_upto_region 13 with (go_at_call 24; refine (sort_any A c k l _ Hn.out HEq.out HRq.out Hk30.out Hall2.out).mono ?_; rintro e W3 ⟨⟨v3, rfl, hown3⟩, hb3⟩)
            rw [hxs.out] at hown3
            obtain ⟨A3, c3, rfl, hgot3⟩ := OwnN.got hown3 hm.out
            have HG3 : Hid (Got A3 24 W.heap.size m xs 0 W3) := hgot3.mono HBr.out.size
            have HB3 : Hid (Below W.heap.size W W3) := HBr.out.trans (hb3.mono HBr.out.size)
            obtain ⟨wo, hwo⟩ : ∃ wo : World, Hid (wo = wr) := ⟨_, rfl⟩
            clear hown3 hgot3 hb3
            go_wp2
            go_loopw [7] (fun j wz => ∃ i : Nat, i ≤ m ∧ j = .int .i64 (i : Int) ∧ Hid (Got A3 24 W.heap.size m xs i wz) ∧ Below W.heap.size W wz) (fun j _ => m - (Lib.intOf j).toNat)
            case atStart => exact ⟨0, Nat.zero_le _, rfl, HG3, HB3.out⟩
            case round =>
              obtain ⟨i, hi, rfl, Hgo, hbz⟩ := hrel
              have HZ := Lib.hid hbz
              clear hbz
              by_cases him : i < m
              · obtain ⟨g, rest, ys, rfl, hgb, hrow, hyl, hys⟩ : ∃ g rest ys, A3 = some ⟨g, 0, none⟩ ∧ W.heap.size ≤ g ∧ RowN wr g 24 ys rest ∧ ys.length = m ∧ ∀ j, i ≤ j → ys[j]? = xs[j]? := by
                  rcases Hgo.out with h | h
                  · omega
                  · exact h
                obtain ⟨h, rest2, zs, rfl, hhb, hrow2, hzl, hzs⟩ : ∃ g rest ys, A2 = some ⟨g, 0, none⟩ ∧ _ ≤ g ∧ RowN W g 25 ys rest ∧ ys.length = m ∧ ∀ j, 0 ≤ j → ys[j]? = xs[j]? := by
                  rcases Hwant.out with h | h
                  · omega
                  · exact h
                obtain ⟨x, hx⟩ : ∃ x, xs[i]? = some x := ⟨_, List.getElem?_eq_getElem (by rw [hm.out]; exact him)⟩
                have Hbx := Lib.hid (hrow.box ((hys i (Nat.le_refl _)).trans hx))
                have Hbz := Lib.hid ((hrow2.box ((hzs i (Nat.zero_le _)).trans hx)).keep HZ.out)
                have Hkm : Hid (i < m) := him
                have hi31 : (i : Int) + 1 ≤ 31 := by have := Hm30.out; omega
                have Hrow := Lib.hid hrow
                have Hgb := Lib.hid hgb
                have Hyl := Lib.hid hyl
                have Hys := Lib.hid hys
                clear hrow hgb hyl hys hhb hrow2 hzl hzs hx
                go_upto_region 18 with fail
                go_cut [53] from 44 to 53 (fun s wx => s = .bool false ∧ Below wr.heap.size wr wx)
                case first =>
                  rename_i J K1 hJ hK
                  refine wp_region_facts (n := 59) (NsF x g h i m c3 c2) (NsC wr x g h i) (by kernel_rfl) (by kernel_rfl) rfl ?_ ?_ ?_
                  · exact ⟨(Below.refl _ _).drew, Hbx.out.keep (Below.refl _ _).drew, Hbz.out.keep (Below.refl _ _).drew⟩
                  · skip
                    refine OpsOk.cons _ _ (OpOk.run _ _ NsF.keep NsC.keep fun b v hs hc hg => ⟨rfl, _, _, exec_move rfl (hs 6 (by kernel_rfl)), .refl _ _, rfl⟩) ?_
                    refine OpsOk.cons _ _ (OpOk.run _ _ NsF.keep NsC.keep fun b v hs hc hg => ⟨rfl, _, _, exec_move rfl (hs 7 (by kernel_rfl)), .refl _ _, rfl⟩) ?_
                    refine OpsOk.cons _ _ (OpOk.run _ _ NsF.keep NsC.keep fun b v hs hc hg => ⟨rfl, _, _, exec_atN rfl (dep hg 0 rfl rfl rfl rfl) (dep hg 1 rfl rfl rfl rfl) Hkm.out, .refl _ _, rfl⟩) ?_
                    refine OpsOk.cons _ _ (OpOk.run _ _ NsF.keep NsC.keep fun b v hs hc hg => ⟨rfl, _, _, exec_loadN rfl (dep hg 0 rfl rfl rfl rfl) hc.2.1, .refl _ _, rfl⟩) ?_
                    refine OpsOk.cons _ _ (OpOk.call _ _ NsF.keep NsC.keep fun b v hs hc hg => ⟨rfl, _, _, exec_call1 (enter_ref _) rfl (dep hg 0 rfl rfl rfl rfl), ans_q (ref_any x v)⟩) ?_
                    refine OpsOk.cons _ _ (OpOk.run _ _ NsF.keep NsC.keep fun b v hs hc hg => ⟨rfl, _, _, exec_move rfl (hs 4 (by kernel_rfl)), .refl _ _, rfl⟩) ?_
                    refine OpsOk.cons _ _ (OpOk.run _ _ NsF.keep NsC.keep fun b v hs hc hg => ⟨rfl, _, _, exec_move rfl (hs 7 (by kernel_rfl)), .refl _ _, rfl⟩) ?_
                    refine OpsOk.cons _ _ (OpOk.run _ _ NsF.keep NsC.keep fun b v hs hc hg => ⟨rfl, _, _, exec_atR rfl (dep hg 0 rfl rfl rfl rfl) (dep hg 1 rfl rfl rfl rfl) Hkm.out, .refl _ _, rfl⟩) ?_
                    refine OpsOk.cons _ _ (OpOk.run _ _ NsF.keep NsC.keep fun b v hs hc hg => ⟨rfl, _, _, exec_loadR rfl (dep hg 0 rfl rfl rfl rfl) hc.2.2, .refl _ _, rfl⟩) ?_
                    refine OpsOk.cons _ _ (OpOk.run _ _ NsF.keep NsC.keep fun b v hs hc hg => ⟨rfl, _, _, exec_neR rfl (dep hg 0 rfl rfl rfl rfl) (dep hg 1 rfl rfl rfl rfl), .refl _ _, by rw [decide_eq_true rfl]; rfl⟩) ?_
                    exact OpsOk.nil _ _
                  · intro b' w' hsz hd hs hc hall
                    refine hK _ _ (Met.intro (hJ _ _ ?_))
                    exact ⟨b'.tmps.getD 44 undef, b'.tmps.getD 45 undef, b'.tmps.getD 46 undef, b'.tmps.getD 47 undef, b'.tmps.getD 48 undef, b'.tmps.getD 49 undef, b'.tmps.getD 50 undef, b'.tmps.getD 51 undef, b'.tmps.getD 52 undef, b'.tmps.getD 53 undef, ⟨hall 9 _ _ rfl rfl, hc.1⟩, (act_known hsz hd hs).trans (by kernel_rfl)⟩
                obtain ⟨rfl, hb8⟩ := hcut
                have HZ8 := Lib.hid (HZ.out.trans (hb8.mono HZ.out.size))
                have Hrow8 := Lib.hid (Hrow.out.keep hb8)
                have Hil : Hid (i < ys.length) := by rw [Hyl.out]; exact Hkm
                clear hb8
                go_wp2_with (refine wpList_storeN (.tmp 57) (.tmp 56) (k := i) Nm.zero rfl size_nm rfl rfl rfl Hrow8.out Hil.out ?_)
                go_roundw
                case rel => exact ⟨i + 1, by omega, by go_num, got_next Hgb.out Hrow8.out Hyl.out Hys.out, below_setRow' HZ8.out Hgb.out _⟩
                case measure => simp [Lib.intOf]; omega
              · go_wp2
                go_roundw
                case rel => exact ⟨q + 1, by omega, by go_num, HZ.out⟩
                case measure => simp [Lib.intOf]; omega
          · have HEr : Hid (Env wr) := (HE.out.on HW.out).on HBr.out
            go_wp2_with (go_at_call 16; refine (works_any _ HEr.out).mono ?_; rintro e w9 ⟨rfl, hb9⟩)
            go_ret
            exact ⟨rfl, HW.out.trans ((HBr.out.trans (hb9.mono HBr.out.size)).mono HW.out.size)⟩
end Go.Proofs.YtipmpebckfaknaaDoor
