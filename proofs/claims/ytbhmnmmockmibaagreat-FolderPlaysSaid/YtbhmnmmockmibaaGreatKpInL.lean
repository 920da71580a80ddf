/- The walks of Sync and hold. Conditions: files of at most 1000 parts of 100000 bytes. The walk of hold. Conditions: at most 1000 parts, and 1000 told. -/
import Derived.Test.YtbhmnmmockmibaaGreatKpInJ
import Derived.RegionTactic
import Derived.BigRegion
namespace Go.Proofs.YtbhmnmmockmibaaGreat
open Go.RowKit
theorem set_take {α : Type} {m : List α} {k : Nat} {x : α} (h : k < m.length) : (m.set k x).take (k + 1) = m.take k ++ [x] := by
  rw [List.set_eq_take_append_cons_drop, if_pos h, List.take_append, List.length_take, Nat.min_eq_left (Nat.le_of_lt h), List.take_of_length_le (by rw [List.length_take]; omega), show k + 1 - k = 1 by omega]
  rfl
theorem set_drop {α : Type} {m : List α} {k : Nat} {x : α} : (m.set k x).drop (k + 1) = m.drop (k + 1) := by
  rw [List.drop_set_of_lt (by omega)]
theorem says_set (ps : List Pa) (k : Nat) (p : Pa) : says (ps.set k p) = (says ps).set k (p.r.l, p.d) := by
  unfold says
  rw [List.map_set]
def rws (ps : List Pa) : List Row := ps.map fun p => p.r
theorem contM_rws (ps : List Pa) : contM (says ps) = (rws ps).flatMap fun r => r.l := by
  unfold contM says rws
  rw [List.flatMap_map, List.flatMap_map]
theorem rws_set {ps : List Pa} {k : Nat} {p : Pa} (b : Bool) (h : ps[k]? = some p) : rws (ps.set k ⟨p.r, b⟩) = rws ps := by
  unfold rws
  rw [List.map_set]
  obtain ⟨hk, e⟩ := List.getElem?_eq_some_iff.1 h
  apply List.ext_getElem?
  intro i
  rw [List.getElem?_set]
  split
  · rename_i hi
    subst hi
    rw [if_pos (by simpa using hk), List.getElem?_map, h]
    rfl
  · rfl
theorem Room.flag {w : World} {g k : Nat} {ps : List Pa} {p : Pa} {spare : List UInt8} (b : Bool) (h : Room w g ps spare) (hx : ps[k]? = some p) : Room w g (ps.set k ⟨p.r, b⟩) spare := by
  have hr := rws_set b hx
  refine ⟨by rw [contM_rws, hr, ← contM_rws]; exact h.heap, fun j q hj => ?_⟩
  have ht : ∀ n, contM (says ((ps.set k ⟨p.r, b⟩).take n)) = contM (says (ps.take n)) := by
    intro n
    rw [contM_rws, contM_rws]
    unfold rws at hr ⊢
    rw [List.map_take, hr, List.map_take]
  have hq : ∃ q', ps[j]? = some q' ∧ q'.r = q.r := by
    have h1 := congrArg (fun l => l[j]?) hr
    unfold rws at h1
    simp only [List.getElem?_map, hj, Option.map_some] at h1
    cases h2 : ps[j]? with
    | none => rw [h2] at h1; cases h1
    | some q' =>
      rw [h2] at h1
      injection h1 with h1
      exact ⟨q', rfl, h1.symm⟩
  obtain ⟨q', h1, h2⟩ := hq
  rw [ht, ← h2]
  exact h.lies j q' h1
theorem OwnR.flag {base : Nat} {w : World} {g gl k n c : Nat} {ps : List Pa} {p : Pa} (b : Bool) (h : OwnR base w (.slice (some ⟨gl, 0, none⟩) n c) g ps) (hx : ps[k]? = some p) : OwnR base (w.setCell ⟨gl, k * 2 + 1, none⟩ (.bool b)) (.slice (some ⟨gl, 0, none⟩) n c) g (ps.set k ⟨p.r, b⟩) := by
  obtain ⟨A, c', e, _, _, _⟩ := own_form h.head
  injection e with e1 e2 e3
  subst e2
  obtain ⟨h1, h2⟩ := h.head.stored (k * 2 + 1) (.bool b)
  rw [pcells_set b hx] at h1
  refine ⟨by rw [List.length_set]; exact h1, ?_, h.ne, h.le⟩
  exact (h.room.flag b hx).touch (Touch.cell1 _ _ _ _) (fun e => h.ne (by rw [← e]; rfl))
variable {nm : Value}
structure SySt (nm : Value) (w wr : World) (F g n c k : Nat) (A : Option Addr) (M : List Pt) (qs : List Pa) : Prop where
  own : OwnR w.heap.size wr (.slice A n c) g qs
  f : wr.heap[F]? = some (.cells #[.slice A n c, nm] 129 (0, 0))
  say : (says qs).take k ++ ((says qs).drop k).map (fun p => (p.1, true)) = M.map fun p => (p.1, true)
  touch : Touch (fun k => k = F) w wr
theorem SySt.step {w wr : World} {F g gl n c k : Nat} {M : List Pt} {qs : List Pa} {p : Pa} (h : SySt nm w wr F g n c k (some ⟨gl, 0, none⟩) M qs) (hx : qs[k]? = some p) (hF : F < w.heap.size) (hl : w.heap.size ≤ gl) : SySt nm w (wr.setCell ⟨gl, k * 2 + 1, none⟩ (.bool true)) F g n c (k + 1) (some ⟨gl, 0, none⟩) M (qs.set k ⟨p.r, true⟩) := by
  have hk := (List.getElem?_eq_some_iff.1 hx).1
  refine ⟨h.own.flag true hx, ?_, ?_, h.touch.setCell (p := ⟨gl, k * 2 + 1, none⟩) (Or.inl hl) _⟩
  · rw [heap_setCell_other _ _ _ _ (by show F ≠ gl; omega)]
    exact h.f
  · rw [says_set, set_take (by rw [says_len]; exact hk), set_drop, ← h.say, List.append_assoc]
    congr 1
    have hd := drop_cons (says_get (show Hid (qs[k]? = some p) from hx))
    rw [hd, List.map_cons]
    rfl
set_option maxHeartbeats 2000000 in
set_option maxRecDepth 100000 in
theorem sync_any {X : Nat → Prop} {A : Option Addr} {c F : Nat} {ps : List Pa} {w : World} (hF : w.heap[F]? = some (.cells #[.slice A ps.length c, nm] 129 (0, 0))) (hs : SmM (says ps)) (hr : PsX w X A ps) :
    Calls Tryz.prog 108 #[.pointer (some ⟨F, 0, none⟩)] w fun e w' => e = .returned (.tuple #[]) ∧ Touch (fun k => k = F) w w' ∧ ∃ v, w'.heap[F]? = some (.cells #[v, nm] 129 (0, 0)) ∧ FileV w' (XW w) v (syncM (says ps)) := by
  have hcF := bx_cell hF
  have hFl : Hid (F < w.heap.size) := (Array.getElem?_eq_some_iff.1 hF).1
  have HF := Lib.hid hF
  have Hs := Lib.hid hs
  have Hcall := Lib.hid (anew_any A c ps w hs hr)
  clear hF hs hr
  go_enter Tryz.func108, Tryz.ntmps108
  go_upto_region 2 with
    (go_at_call 98
     refine Hcall.out.mono ?_
     rintro e w2 ⟨v2, g2, qs, rfl, hO, hsay, hb2⟩
     have hF2 := Lib.hid ((hb2.block F hFl.out).trans HF.out)
     have cF2 := bx_cell hF2.out
     have zF2 := bx_frozen hF2.out
     obtain ⟨A2, c2, rfl, hc2, _, _⟩ := own_form hO.head
     have HO := Lib.hid hO
     have Hsay := Lib.hid hsay
     have Hb2 := Lib.hid hb2
     clear hO hsay hb2 hc2)
  obtain ⟨n, hn⟩ : ∃ n, Hid (qs.length = n) := ⟨_, rfl⟩
  have hnI : (n : Int) ≤ 1000 := by have := Hs.out.full.n; rw [← Hsay.out, says_len, hn.out] at this; omega
  obtain ⟨W, hW⟩ : ∃ W, Hid (w2.setCell ⟨F, 0, none⟩ (.slice A2 n c2) = W) := ⟨_, rfl⟩
  rw [hn.out, hW.out]
  have hstart : Hid (SySt nm w W F g2 n c2 0 A2 (says qs) qs) := by
    refine ⟨?_, ?_, ?_, ?_⟩
    · rw [← hW.out, ← hn.out]; exact HO.out.touch (Touch.cell1 _ _ _ _) (fun b hb => by rw [hb]; exact hFl.out)
    · rw [← hW.out]; exact bx_set _ hF2.out
    · rfl
    · rw [← hW.out]; exact (Touch.of Hb2.out).trans (Touch.cell1 _ _ _ _)
  have hcW := bx_cell hstart.out.f
  clear cF2 zF2
  go_wp2
  clear hcW
  go_loopw [18] (fun i wr => ∃ (k : Nat) (qs' : List Pa), k ≤ n ∧ i = .int .i64 (k : Int) ∧ qs'.length = n ∧ Hid (SySt nm w wr F g2 n c2 k A2 (says qs) qs')) (fun i _ => n - (intOf i).toNat)
  case atStart => exact ⟨0, qs, by omega, rfl, hn.out, hstart⟩
  case round =>
    clear hstart
    obtain ⟨k, qs', hk, rfl, hnq, hst⟩ := hrel
    have hcF := bx_cell hst.out.f
    by_cases hlt : k < n
    · have hkl : k < qs'.length := by omega
      have hx := List.getElem?_eq_getElem hkl
      obtain ⟨p, hp⟩ : ∃ p, p = qs'[k] := ⟨_, rfl⟩
      rw [← hp] at hx
      have Hx := Lib.hid hx
      have Hnq := Lib.hid hnq
      obtain ⟨gl, cap, hv, _, _⟩ := hst.out.own.head.form (by omega)
      injection hv with hv1 hv2 hv3
      subst hv1
      have hcell : wr.cell? ⟨gl, k * 2 + 1, none⟩ = some (.bool p.d) := by
        have := hst.out.own.head.cells (g := gl) rfl (k * 2 + 1) _ (pcells_get hx).2
        rwa [lit_add, Nat.zero_add] at this
      have hh := hst.out.own.head
      rw [hnq] at hh
      have hfz := hh.frozenAt (k * 2 + 1)
      clear hx hp hkl hnq hv2 hv3 hh
      go_wp2
      go_roundw
      case rel => exact ⟨k + 1, qs'.set k ⟨p.r, true⟩, by omega, by go_num, by rw [List.length_set]; exact Hnq.out, hst.out.step Hx.out hFl.out (by assumption)⟩
      case measure => simp [intOf]; omega
    · obtain rfl : k = n := by omega
      go_wp2
      go_end0
      refine ⟨rfl, hst.out.touch, _, hst.out.f, hst.out.own.file (fun b hb => hb) ?_⟩
      have h1 := hst.out.say
      rw [List.take_of_length_le (by rw [says_len]; omega), List.drop_eq_nil_of_le (by rw [says_len]; omega), List.map_nil, List.append_nil] at h1
      rw [h1, Hsay.out]
      rfl
end Go.Proofs.YtbhmnmmockmibaaGreat

namespace Go.Proofs.YtbhmnmmockmibaaGreat
open Go.RowKit
theorem add_zero' (a : Addr) : a.add 0 = a := by unfold Addr.add; simp
structure HoSt (base : Nat) (w wr : World) (v1 : Value) (A : Option Addr) (g n c k B : Nat) (M : List Pt) (keep : List Bool) (qs : List Pa) (Ak : Option Addr) (ck : Nat) (kk : List Bool) : Prop where
  own : OwnR base wr (.slice A n c) g qs
  v1 : v1 = .slice Ak kk.length ck
  kc : kk.length ≤ ck
  kl : kk.length ≤ 1000
  kr : RdK wr B Ak kk
  say : (says qs).take k ++ holdM ((says qs).drop k) kk = holdM M keep
  below : Below base w wr
theorem HoSt.told {base : Nat} {w wr : World} {v1 : Value} {g gl n c k B : Nat} {M : List Pt} {keep kk : List Bool} {qs : List Pa} {p : Pa} {Ak : Option Addr} {ck : Nat} {b : Bool} (h : HoSt base w wr v1 (some ⟨gl, 0, none⟩) g n c k B M keep qs Ak ck (b :: kk)) (hx : qs[k]? = some p) (hd : p.d = false) (hl : base ≤ gl) (hB : B ≤ base) (hb : base ≤ w.heap.size) :
    HoSt base w (wr.setCell ⟨gl, k * 2 + 1, none⟩ (.bool b)) (.slice (if ck = 1 then Ak else Ak.map (·.add 1)) kk.length (ck - 1)) (some ⟨gl, 0, none⟩) g n c (k + 1) B M keep (qs.set k ⟨p.r, b⟩) (if ck = 1 then Ak else Ak.map (·.add 1)) (ck - 1) kk := by
  have hk := (List.getElem?_eq_some_iff.1 hx).1
  have h1 := h.kc
  have h2 := h.kl
  simp only [List.length_cons] at h1 h2
  have hbs : Below base wr (wr.setCell ⟨gl, k * 2 + 1, none⟩ (.bool b)) := (Touch.cell1 wr gl (k * 2 + 1) _).below (Nat.le_trans hb h.below.size) (fun x hx => by rw [hx]; exact hl)
  refine ⟨h.own.flag b hx, rfl, by omega, by omega, ?_, ?_, h.below.trans hbs⟩
  · have := Reads.cut h.kr (k := 1) (cap := ck) (by simp) h.kc
    rw [Nat.mul_one] at this
    exact Reads.below this (hbs.mono hB)
  · rw [says_set, set_take (by rw [says_len]; exact hk), set_drop, ← h.say, List.append_assoc]
    congr 1
    have hdr := drop_cons (says_get (show Hid (qs[k]? = some p) from hx))
    rw [hdr, holdM_told (by rw [hd]; simp)]
    rfl
theorem HoSt.stays {base : Nat} {w wr : World} {v1 : Value} {A : Option Addr} {g n c k B : Nat} {M : List Pt} {keep kk : List Bool} {qs : List Pa} {p : Pa} {Ak : Option Addr} {ck : Nat} (h : HoSt base w wr v1 A g n c k B M keep qs Ak ck kk) (hx : qs[k]? = some p) (hd : p.d = true ∨ kk = []) : HoSt base w wr v1 A g n c (k + 1) B M keep qs Ak ck kk := by
  refine ⟨h.own, h.v1, h.kc, h.kl, h.kr, ?_, h.below⟩
  rw [take_snoc (says_get (show Hid (qs[k]? = some p) from hx)), ← h.say, List.append_assoc]
  congr 1
  have hdr := drop_cons (says_get (show Hid (qs[k]? = some p) from hx))
  rw [hdr]
  rcases hd with hd | hd
  · rw [holdM_d hd]; rfl
  · subst hd
    by_cases hp : p.d = true
    · rw [holdM_d hp]; rfl
    · rw [holdM_none hp]; rfl
theorem HoSt.drew {base : Nat} {w wr : World} {v1 : Value} {A : Option Addr} {g n c k B : Nat} {M : List Pt} {keep kk : List Bool} {qs : List Pa} {Ak : Option Addr} {ck : Nat} (h : HoSt base w wr v1 A g n c k B M keep qs Ak ck kk) : HoSt base w wr.drew v1 A g n c k B M keep qs Ak ck kk :=
  ⟨⟨h.own.head, ⟨h.own.room.heap, h.own.room.lies⟩, h.own.ne, h.own.le⟩, h.v1, h.kc, h.kl, h.kr, h.say, h.below.drew⟩
set_option maxHeartbeats 2000000 in
set_option maxRecDepth 100000 in
theorem hold_any {base B g n c ck : Nat} {A Ak : Option Addr} {qs : List Pa} {keep : List Bool} {w : World} (hown : OwnR base w (.slice A n c) g qs) (hn : qs.length = n) (hn1 : n ≤ 1000) (hB : B ≤ base) (hbase : base ≤ w.heap.size) (hkr : RdK w B Ak keep) (hkc : keep.length ≤ ck) (hkl : keep.length ≤ 1000) :
    Calls Tryz.prog 99 #[.slice A n c, .slice Ak keep.length ck] w fun e w' => e = .returned (.tuple #[]) ∧ Below base w w' ∧ ∃ qs', OwnR base w' (.slice A n c) g qs' ∧ qs'.length = n ∧ says qs' = holdM (says qs) keep := by
  have hnI : (n : Int) ≤ 1000 := by omega
  have hstart : Hid (HoSt base w w (.slice Ak keep.length ck) A g n c 0 B (says qs) keep qs Ak ck keep) := ⟨hown, rfl, hkc, hkl, hkr, rfl, .refl _ _⟩
  have HB := Lib.hid hB
  have Hbase := Lib.hid hbase
  clear hown hkr hkc hkl hB hbase hn1
  go_enter Tryz.func99, Tryz.ntmps99
  go_wp2
  go_loopw [1, 7] (fun v1 i wr => ∃ (k : Nat) (qs' : List Pa) (Ak' : Option Addr) (ck' : Nat) (kk : List Bool), k ≤ n ∧ i = .int .i64 (k : Int) ∧ qs'.length = n ∧ Hid (HoSt base w wr v1 A g n c k B (says qs) keep qs' Ak' ck' kk)) (fun _ i _ => n - (intOf i).toNat)
  case atStart => exact ⟨0, qs, Ak, ck, keep, by omega, rfl, hn, hstart⟩
  case round =>
    clear hstart
    obtain ⟨k, qs', Ak', ck', kk, hk, rfl, hnq, hst⟩ := hrel
    have hv1 := hst.out.v1
    subst hv1
    have hkcI : (kk.length : Int) ≤ (ck' : Int) := by have := hst.out.kc; omega
    have hklI : (kk.length : Int) ≤ 1000 := by have := hst.out.kl; omega
    by_cases hlt : k < n
    · have hkl : k < qs'.length := by omega
      have hx := List.getElem?_eq_getElem hkl
      obtain ⟨p, hp⟩ : ∃ p, p = qs'[k] := ⟨_, rfl⟩
      rw [← hp] at hx
      have Hx := Lib.hid hx
      have Hnq := Lib.hid hnq
      obtain ⟨gl, cap, hv, hgl, _⟩ := hst.out.own.head.form (by omega)
      injection hv with hv1 hv2 hv3
      subst hv1
      have Hgl := Lib.hid hgl
      have hcell : wr.cell? ⟨gl, k * 2 + 1, none⟩ = some (.bool p.d) := by
        have := hst.out.own.head.cells (g := gl) rfl (k * 2 + 1) _ (pcells_get hx).2
        rwa [lit_add, Nat.zero_add] at this
      have hh := hst.out.own.head
      rw [hnq] at hh
      have hfz := hh.frozenAt (k * 2 + 1)
      clear hx hp hkl hnq hv2 hv3 hh
      obtain ⟨pr, pd⟩ := p
      simp only at hcell
      cases pd with
      | true =>
        have Hst' := Lib.hid (hst.out.stays Hx.out (.inl rfl))
        go_wp2
        go_roundw
        case rel => exact ⟨k + 1, qs', Ak', ck', kk, by omega, by go_num, Hnq.out, Hst'.out⟩
        case measure => simp [intOf]; omega
      | false =>
        cases kk with
        | nil =>
          have Hst' := Lib.hid (hst.out.stays Hx.out (.inr rfl))
          go_wp2
          go_roundw
          case rel => exact ⟨k + 1, qs', Ak', ck', [], by omega, by go_num, Hnq.out, Hst'.out⟩
          case measure => simp [intOf]; omega
        | cons b kk =>
          obtain ⟨adk, b', rfl, habk, hck, hkx⟩ := RdK.at_ hst.out.kr (k := 0) (by simp)
          have hb' : b' = b := by have := hkx.out; simp at this; exact this.symm
          subst hb'
          rw [add_zero'] at hck
          obtain ⟨kn, hkn⟩ : ∃ kn, Hid (kk.length = kn) := ⟨_, rfl⟩
          obtain ⟨K, hK⟩ : ∃ K, Hid ((b' :: kk).length = K) := ⟨_, rfl⟩
          have hKn : Hid (K - 1 = kn) := by rw [← hK.out, ← hkn.out]; show _ = _; simp
          have Hst' := Lib.hid (hst.out.told Hx.out rfl Hgl.out HB.out Hbase.out)
          rw [hkn.out, ← hKn.out] at Hst'
          rw [hK.out] at hkcI hklI ⊢
          have hK1 : (1 : Int) ≤ (K : Int) := by rw [← hK.out, List.length_cons]; omega
          have hK0 : (0 : Int) < (K : Int) := by omega
          clear hst hkn hKn
          go_wp2
          have hK1n : 1 ≤ K := by omega
          have hc1 : (1 : Int) ≤ (ck' : Int) := by omega
          go_region
          have e1 : (if ck' = 1 then some adk else some ⟨adk.block, adk.off + 1, none⟩ : Option Addr) = (if ck' = 1 then some adk else Option.map (fun x => x.add 1) (some adk)) := by rfl
          rw [e1]
          go_wp2
          go_roundw
          case rel => exact ⟨k + 1, qs'.set k ⟨pr, b'⟩, _, _, kk, by omega, by go_num, by rw [List.length_set]; exact Hnq.out, Hst'.out.drew⟩
          case measure => simp [intOf]; omega
    · obtain rfl : k = n := by omega
      go_wp2
      go_end0
      refine ⟨rfl, hst.out.below, qs', hst.out.own, hnq, ?_⟩
      have h1 := hst.out.say
      rw [List.take_of_length_le (by rw [says_len]; omega), List.drop_eq_nil_of_le (by rw [says_len]; omega)] at h1
      rw [← h1, holdM, List.append_nil]
end Go.Proofs.YtbhmnmmockmibaaGreat
