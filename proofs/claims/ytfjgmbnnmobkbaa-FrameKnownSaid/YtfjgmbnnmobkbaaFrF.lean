/- The walk of refs: frames, as the reference has them, in new memory. Conditions: bodies of at most 2^47 - 4096 bytes; at most 2^40 frames. -/
import Derived.Test.YtfjgmbnnmobkbaaFrS
namespace Go.Proofs.Ytfjgmbnnmobkbaa
open Go.RowKit

section
variable {ops : Array Oper} {o : Oper} {a : Act} {Q : Exit → Act → World → Prop} {w : World} {base : Nat} {v : Value} {K : Act → World → Prop} {E : Prop}
/-- A frame behind a list of the call's own, at a step of a region that draws its order. -/
theorem step_push_frame {t e : TypeId} (ht : FrSl t e) {N : Nat} (s x : Operand) {own : List Fr} (f : Fr) (hown : OwnsF e base w v own) (hbase : base ≤ w.heap.size) (hl : own.length ≤ 1099511627776) (hrow : RdB w w.heap.size f.r.A f.r.l) (hap : ∀ ad, f.r.A = some ad → ad.block < w.heap.size ∧ v.ownBlock ≠ some ad.block)
    (hgd : o.guard = none) (ho : o.op = .call { callee := .builtin .append, args := #[s, x], argTypes := #[t, t] })
    (hs : a.eval s = v) (hx : a.eval x = .slice (some ⟨N, 0, none⟩) 1 1) (hN : w.heap.size = N)
    (h : ∀ v' w', OwnsF e base w' v' (own ++ [f]) → Below base w w' → base ≤ w'.heap.size → K (a.put o.dst v') w') :
    if Region.wanted o (yielded ops a.tmps) = true then Oper.wp Try.prog o a (w.alloc (.cells #[.int .u8 (f.k.toNat : Int), .slice f.r.A f.r.l.length f.r.c] e)) K Q else E := by
  subst hN
  have hw : Region.wanted o (yielded ops a.tmps) = true := by simp [Region.wanted, hgd]
  rw [if_pos hw]
  obtain ⟨hu, hi⟩ := ht
  obtain ⟨i0, hi0, hz0, hz1, hz2⟩ := info_parts hi
  have hnew := (RdF.new w w.heap.size [f] e (Nat.le_refl _) (by intro g hg; simp only [List.mem_singleton] at hg; subst hg; exact hrow)).top
  refine wp_append_any (w.alloc (.cells #[.int .u8 (f.k.toNat : Int), .slice f.r.A f.r.l.length f.r.c] e)) s x t ho base e i0 _ 2 32 hu hi0 hz0 hz1 hz2 rfl (by omega) v _ _ hs (hown.head.alloc _) (w.heap.size + 1) _ 1 1 (fcells [f]) hx hnew (fcells_one _) (by simp only [maxLen]; omega) (by omega) (by simp; omega) ?_
  intro v1 w1 h1 h2 h3
  obtain ⟨hO, hb⟩ := frames_more f hown hbase hrow hap h1 h2 h3
  exact h v1 w1 hO hb (Nat.le_trans hbase hb.size)
end

set_option maxHeartbeats 2000000 in
set_option maxRecDepth 100000 in
theorem refs_any (A : Option Addr) (c B : Nat) (fs : List Fr) (w : World) (hl : fs.length ≤ 1099511627776) (hls : ∀ f ∈ fs, f.r.l.length ≤ 140737488351232) (hB : B ≤ w.heap.size) (hr : RdF w B A fs) :
    Calls Try.prog 10 #[.slice A fs.length c] w fun e w' => (∃ v own, e = .returned v ∧ OwnsF 38 w.heap.size w' v own ∧ fks own = fks fs) ∧ Below w.heap.size w w' := by
  have hlen : (fs.length : Int) ≤ 1099511627776 := by omega
  have Hls := Lib.hid hls
  clear hl hls
  go_enter Try.func10, Try.ntmps10
  go_wp2
  go_loopw [3, 4] (fun v i wr => ∃ (k : Nat) (own : List Fr), k ≤ fs.length ∧ i = .int .i64 (k : Int) ∧ OwnsF 38 w.heap.size wr v own ∧ Hid (fks own = (fks fs).take k) ∧ Below w.heap.size w wr) (fun _ i _ => fs.length - (intOf i).toNat)
  case atStart => exact ⟨0, [], by omega, rfl, OwnsF.nil _ _ _, by exact rfl, .refl _ _⟩
  case round =>
    obtain ⟨k, own, hk, rfl, hown, hfk, hb⟩ := hrel
    by_cases hlt : k < fs.length
    · obtain ⟨ad, f, rfl, hab, hc1, hc2, hx, hrow⟩ := (hr.below (hb.mono hB)).at_ hlt
      have hS : ∀ wx, Below w.heap.size wr wx → wx.cell? (ad.add (k * 2)) = some (.int .u8 (f.k.toNat : Int)) ∧ wx.cell? ⟨(ad.add (k * 2)).block, (ad.add (k * 2)).off + 1, none⟩ = some (.slice f.r.A f.r.l.length f.r.c) := by
        intro wx hx
        have e1 : (ad.add (k * 2)).block < w.heap.size := by rw [block_of_add]; omega
        exact ⟨(hx.cell e1).trans hc1, (hx.cell (p := ⟨(ad.add (k * 2)).block, (ad.add (k * 2)).off + 1, none⟩) e1).trans hc2⟩
      have HS := Lib.hid hS
      have Hf := Lib.hid (Hls.out f (mem_of_get hx))
      have Hrow : Hid (RdB wr B f.r.A f.r.l) := hrow
      have hkI : (k : Int) < (fs.length : Int) := by omega
      have Hol := Lib.hid (show own.length ≤ 1099511627776 by
        have h1 := congrArg List.length hfk.out
        rw [fks_len, List.length_take, fks_len] at h1
        omega)
      clear hS hrow hc1 hc2 hab
      go_wp2_with fail
      go_region_held3 (fun wx => wx.cell? (ad.add (k * 2)) = some (.int .u8 (f.k.toNat : Int)) ∧ wx.cell? ⟨(ad.add (k * 2)).block, (ad.add (k * 2)).off + 1, none⟩ = some (.slice f.r.A f.r.l.length f.r.c)) (first | exact HS.out _ hb3 | exact HS.out _ (hb2.alloc (Nat.le_trans hb.size hb2.size) _) | exact HS.out _ hb2 | exact HS.out _ (Below.refl _ _).drew) (first
        | (go_at_call 20
           refine (own_any f.r.A f.r.c B f.r.l wr.drew Hf.out (Reads.drew Hrow.out)).mono ?_
           rintro e w2 ⟨v2, rfl, hown2, hb2'⟩
           obtain ⟨A2, c2, rfl, _, _, hr2⟩ := own_form hown2
           have hb2 : Below w.heap.size wr w2 := (Below.refl _ _).drew.trans (hb2'.mono hb.size)
           have hO2 := hown.below ((Below.refl _ _).drew.trans hb2')
           have hap := own_apart hown2
           have hlt2 := hown.head.lt
           have hz2 := Nat.le_trans hb.size hb2.size
           clear hown2 hb2')
        | (refine step_push_frame frSl2 (.tmp 11) (.tmp 24) ⟨f.k, ⟨A2, c2, f.r.l⟩⟩ hO2 hz2 Hol.out hr2 (fun ad e => ⟨(hap ad e).2, fun e' => by have h1 := (hlt2 _ e').2; have h2 := (hap ad e).1; simp at h2; omega⟩) rfl rfl rfl rfl rfl ?_
           intro v3 w3 hO3 hb3' hbs3
           have hb3 : Below w.heap.size wr w3 := hb2.trans hb3'
           clear hO2 hb3'))
      go_wp2
      go_roundw
      case rel =>
        refine ⟨k + 1, _, by omega, by go_num, hO3, ?_, hb.trans hb3⟩
        show fks _ = _
        rw [take_snoc (fks_get hx), ← hfk.out]
        simp [fks]
      case measure => simp [intOf]; omega
    · obtain rfl : k = fs.length := by omega
      go_wp2
      go_ret
      exact ⟨⟨_, own, rfl, hown, by rw [hfk.out, ← fks_len, List.take_length]⟩, hb⟩
end Go.Proofs.Ytfjgmbnnmobkbaa
