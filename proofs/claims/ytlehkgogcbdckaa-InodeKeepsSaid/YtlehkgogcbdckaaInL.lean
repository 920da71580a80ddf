/- The walk of hold. Conditions: at most 1000 parts, and 1000 told. -/
import Derived.Test.YtlehkgogcbdckaaInK
namespace Go.Proofs.Ytlehkgogcbdckaa
open Go.RowKit

theorem add_zero' (a : Addr) : a.add 0 = a := by unfold Addr.add; simp
structure HoSt (base : Nat) (w wr : World) (v1 : Value) (A : Option Addr) (g n c k B : Nat) (M : List Pt) (keep : List Bool) (qs : List Pa) (Ak : Option Addr) (ck : Nat) (kk : List Bool) : Prop where
  own : OwnR base wr (.slice A n c) g qs
  v1 : v1 = .slice Ak kk.length ck
  kc : kk.length ≤ ck
  kl : kk.length ≤ 1000
  kr : RdK wr B Ak kk
  say : (says qs).take k ++ holdM ((says qs).drop k) kk = holdM M keep
  below : Below base w wr
theorem HoSt.told {base : Nat} {w wr : World} {v1 : Value} {g gl n c k B : Nat} {M : List Pt} {keep kk : List Bool} {qs : List Pa} {p : Pa} {Ak : Option Addr} {ck : Nat} {b : Bool} (h : HoSt base w wr v1 (some ⟨gl, 0, none⟩) g n c k B M keep qs Ak ck (b :: kk)) (hx : qs[k]? = some p) (hd : p.d = false) (hl : base ≤ gl) (hB : B ≤ base) (hb : base ≤ w.heap.size) :
    HoSt base w (wr.setCell ⟨gl, k * 2 + 1, none⟩ (.bool b)) (.slice (if ck = 1 then Ak else Ak.map (·.add 1)) kk.length (ck - 1)) (some ⟨gl, 0, none⟩) g n c (k + 1) B M keep (qs.set k ⟨p.r, b⟩) (if ck = 1 then Ak else Ak.map (·.add 1)) (ck - 1) kk := by
  have hk := (List.getElem?_eq_some_iff.1 hx).1
  have h1 := h.kc
  have h2 := h.kl
  simp only [List.length_cons] at h1 h2
  have hbs : Below base wr (wr.setCell ⟨gl, k * 2 + 1, none⟩ (.bool b)) := (Touch.cell1 wr gl (k * 2 + 1) _).below (Nat.le_trans hb h.below.size) (fun x hx => by rw [hx]; exact hl)
  refine ⟨h.own.flag b hx, rfl, by omega, by omega, ?_, ?_, h.below.trans hbs⟩
  · have := Reads.cut h.kr (k := 1) (cap := ck) (by simp) h.kc
    rw [Nat.mul_one] at this
    exact Reads.below this (hbs.mono hB)
  · rw [says_set, set_take (by rw [says_len]; exact hk), set_drop, ← h.say, List.append_assoc]
    congr 1
    have hdr := drop_cons (says_get (show Hid (qs[k]? = some p) from hx))
    rw [hdr, holdM_told (by rw [hd]; simp)]
    rfl
theorem HoSt.stays {base : Nat} {w wr : World} {v1 : Value} {A : Option Addr} {g n c k B : Nat} {M : List Pt} {keep kk : List Bool} {qs : List Pa} {p : Pa} {Ak : Option Addr} {ck : Nat} (h : HoSt base w wr v1 A g n c k B M keep qs Ak ck kk) (hx : qs[k]? = some p) (hd : p.d = true ∨ kk = []) : HoSt base w wr v1 A g n c (k + 1) B M keep qs Ak ck kk := by
  refine ⟨h.own, h.v1, h.kc, h.kl, h.kr, ?_, h.below⟩
  rw [take_snoc (says_get (show Hid (qs[k]? = some p) from hx)), ← h.say, List.append_assoc]
  congr 1
  have hdr := drop_cons (says_get (show Hid (qs[k]? = some p) from hx))
  rw [hdr]
  rcases hd with hd | hd
  · rw [holdM_d hd]; rfl
  · subst hd
    by_cases hp : p.d = true
    · rw [holdM_d hp]; rfl
    · rw [holdM_none hp]; rfl
theorem HoSt.drew {base : Nat} {w wr : World} {v1 : Value} {A : Option Addr} {g n c k B : Nat} {M : List Pt} {keep kk : List Bool} {qs : List Pa} {Ak : Option Addr} {ck : Nat} (h : HoSt base w wr v1 A g n c k B M keep qs Ak ck kk) : HoSt base w wr.drew v1 A g n c k B M keep qs Ak ck kk :=
  ⟨⟨h.own.head, ⟨h.own.room.heap, h.own.room.lies⟩, h.own.ne, h.own.le⟩, h.v1, h.kc, h.kl, h.kr, h.say, h.below.drew⟩
set_option maxHeartbeats 2000000 in
set_option maxRecDepth 100000 in
theorem hold_any {base B g n c ck : Nat} {A Ak : Option Addr} {qs : List Pa} {keep : List Bool} {w : World} (hown : OwnR base w (.slice A n c) g qs) (hn : qs.length = n) (hn1 : n ≤ 1000) (hB : B ≤ base) (hbase : base ≤ w.heap.size) (hkr : RdK w B Ak keep) (hkc : keep.length ≤ ck) (hkl : keep.length ≤ 1000) :
    Calls Try.prog 40 #[.slice A n c, .slice Ak keep.length ck] w fun e w' => e = .returned (.tuple #[]) ∧ Below base w w' ∧ ∃ qs', OwnR base w' (.slice A n c) g qs' ∧ qs'.length = n ∧ says qs' = holdM (says qs) keep := by
  have hnI : (n : Int) ≤ 1000 := by omega
  have hstart : Hid (HoSt base w w (.slice Ak keep.length ck) A g n c 0 B (says qs) keep qs Ak ck keep) := ⟨hown, rfl, hkc, hkl, hkr, rfl, .refl _ _⟩
  have HB := Lib.hid hB
  have Hbase := Lib.hid hbase
  clear hown hkr hkc hkl hB hbase hn1
  go_enter Try.func40, Try.ntmps40
  go_wp2
  go_loopw [1, 7] (fun v1 i wr => ∃ (k : Nat) (qs' : List Pa) (Ak' : Option Addr) (ck' : Nat) (kk : List Bool), k ≤ n ∧ i = .int .i64 (k : Int) ∧ qs'.length = n ∧ Hid (HoSt base w wr v1 A g n c k B (says qs) keep qs' Ak' ck' kk)) (fun _ i _ => n - (intOf i).toNat)
  case atStart => exact ⟨0, qs, Ak, ck, keep, by omega, rfl, hn, hstart⟩
  case round =>
    clear hstart
    obtain ⟨k, qs', Ak', ck', kk, hk, rfl, hnq, hst⟩ := hrel
    have hv1 := hst.out.v1
    subst hv1
    have hkcI : (kk.length : Int) ≤ (ck' : Int) := by have := hst.out.kc; omega
    have hklI : (kk.length : Int) ≤ 1000 := by have := hst.out.kl; omega
    by_cases hlt : k < n
    · have hkl : k < qs'.length := by omega
      have hx := List.getElem?_eq_getElem hkl
      obtain ⟨p, hp⟩ : ∃ p, p = qs'[k] := ⟨_, rfl⟩
      rw [← hp] at hx
      have Hx := Lib.hid hx
      have Hnq := Lib.hid hnq
      obtain ⟨gl, cap, hv, hgl, _⟩ := hst.out.own.head.form (by omega)
      injection hv with hv1 hv2 hv3
      subst hv1
      have Hgl := Lib.hid hgl
      have hcell : wr.cell? ⟨gl, k * 2 + 1, none⟩ = some (.bool p.d) := by
        have := hst.out.own.head.cells (g := gl) rfl (k * 2 + 1) _ (pcells_get hx).2
        rwa [lit_add, Nat.zero_add] at this
      have hh := hst.out.own.head
      rw [hnq] at hh
      have hfz := hh.frozenAt (k * 2 + 1)
      clear hx hp hkl hnq hv2 hv3 hh
      obtain ⟨pr, pd⟩ := p
      simp only at hcell
      cases pd with
      | true =>
        have Hst' := Lib.hid (hst.out.stays Hx.out (.inl rfl))
        go_wp2
        go_roundw
        case rel => exact ⟨k + 1, qs', Ak', ck', kk, by omega, by go_num, Hnq.out, Hst'.out⟩
        case measure => simp [intOf]; omega
      | false =>
        cases kk with
        | nil =>
          have Hst' := Lib.hid (hst.out.stays Hx.out (.inr rfl))
          go_wp2
          go_roundw
          case rel => exact ⟨k + 1, qs', Ak', ck', [], by omega, by go_num, Hnq.out, Hst'.out⟩
          case measure => simp [intOf]; omega
        | cons b kk =>
          obtain ⟨adk, b', rfl, habk, hck, hkx⟩ := RdK.at_ hst.out.kr (k := 0) (by simp)
          have hb' : b' = b := by have := hkx.out; simp at this; exact this.symm
          subst hb'
          rw [add_zero'] at hck
          obtain ⟨kn, hkn⟩ : ∃ kn, Hid (kk.length = kn) := ⟨_, rfl⟩
          obtain ⟨K, hK⟩ : ∃ K, Hid ((b' :: kk).length = K) := ⟨_, rfl⟩
          have hKn : Hid (K - 1 = kn) := by rw [← hK.out, ← hkn.out]; show _ = _; simp
          have Hst' := Lib.hid (hst.out.told Hx.out rfl Hgl.out HB.out Hbase.out)
          rw [hkn.out, ← hKn.out] at Hst'
          rw [hK.out] at hkcI hklI ⊢
          have hK1 : (1 : Int) ≤ (K : Int) := by rw [← hK.out, List.length_cons]; omega
          have hK0 : (0 : Int) < (K : Int) := by omega
          clear hst hkn hKn
          go_wp2
          have hK1n : 1 ≤ K := by omega
          have hc1 : (1 : Int) ≤ (ck' : Int) := by omega
          go_region
          have e1 : (if ck' = 1 then some adk else some ⟨adk.block, adk.off + 1, none⟩ : Option Addr) = (if ck' = 1 then some adk else Option.map (fun x => x.add 1) (some adk)) := by rfl
          rw [e1]
          go_wp2
          go_roundw
          case rel => exact ⟨k + 1, qs'.set k ⟨pr, b'⟩, _, _, kk, by omega, by go_num, by rw [List.length_set]; exact Hnq.out, Hst'.out.drew⟩
          case measure => simp [intOf]; omega
    · obtain rfl : k = n := by omega
      go_wp2
      go_end0
      refine ⟨rfl, hst.out.below, qs', hst.out.own, hnq, ?_⟩
      have h1 := hst.out.say
      rw [List.take_of_length_le (by rw [says_len]; omega), List.drop_eq_nil_of_le (by rw [says_len]; omega)] at h1
      rw [← h1, holdM, List.append_nil]
end Go.Proofs.Ytlehkgogcbdckaa
