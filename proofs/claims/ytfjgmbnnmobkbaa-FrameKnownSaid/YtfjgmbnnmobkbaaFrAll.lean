/- A list of frames of the call's own; the walks of frame.All, and of the document's All. Conditions: bytes of at most 2^40. -/
import Derived.Test.YtfjgmbnnmobkbaaFrO
namespace Go.Proofs.Ytfjgmbnnmobkbaa
open Go.RowKit

/-- A list of frames that the call owns: its block is none of the bodies'. -/
structure OwnsF (e : TypeId) (base : Nat) (w : World) (v : Value) (own : List Fr) : Prop where
  head : w.ownsRow base e 2 v own.length (fcells own)
  row : ∀ f ∈ own, RdB w w.heap.size f.r.A f.r.l
  apart : ∀ f ∈ own, ∀ ad, f.r.A = some ad → ad.block < w.heap.size ∧ v.ownBlock ≠ some ad.block
theorem OwnsF.nil (e : TypeId) (base : Nat) (w : World) : OwnsF e base w (.slice none 0 0) [] := ⟨World.ownsRow_nil _ _ _ _, by simp, by simp⟩
theorem OwnsF.below {e : TypeId} {base : Nat} {w w' : World} {v : Value} {own : List Fr} (h : OwnsF e base w v own) (hb : Below w.heap.size w w') : OwnsF e base w' v own :=
  ⟨own_below h.head hb (Nat.le_refl _), fun r hr => Reads.more (Reads.below (h.row r hr) hb) hb.size, fun r hr ad e => ⟨Nat.lt_of_lt_of_le (h.apart r hr ad e).1 hb.size, (h.apart r hr ad e).2⟩⟩
theorem OwnsF.alloc {e : TypeId} {base : Nat} {w : World} {v : Value} {own : List Fr} (h : OwnsF e base w v own) (o : Obj) : OwnsF e base (w.alloc o) v own := h.below ((Below.refl _ _).alloc (Nat.le_refl _) o)
/-- It reads so. -/
theorem OwnsF.reads {e : TypeId} {base : Nat} {w : World} {v : Value} {own : List Fr} (h : OwnsF e base w v own) : ∃ A c, v = .slice A own.length c ∧ own.length ≤ c ∧ RdF w w.heap.size A own := by
  obtain ⟨A, c, hv, hc, _, hr⟩ := own_form h.head
  exact ⟨A, c, hv, hc, hr, h.row⟩
/-- A type of slices of frames. -/
def FrSl (t e : TypeId) : Prop := Try.prog.underlying t = some (.slice e) ∧ (Try.prog.info? e).map (fun i => (i.zero, i.size, i.bytes)) = some (some (.agg #[.int .u8 0, .slice none 0 0]), 2, 32)
theorem frSl1 : FrSl 22 26 := ⟨Try.underlying22, by kernel_rfl⟩
theorem frSl2 : FrSl 28 38 := ⟨Try.underlying28, by kernel_rfl⟩
section
variable {ops : Array Oper} {rest : List Oper} {o : Oper} {a : Act} {Q : Exit → Act → World → Prop} {w : World} {base : Nat} {v : Value}
theorem frames_more {t e : TypeId} {own : List Fr} (f : Fr) (hown : OwnsF e base w v own) (hbase : base ≤ w.heap.size) (hrow : RdB w w.heap.size f.r.A f.r.l) (hap : ∀ ad, f.r.A = some ad → ad.block < w.heap.size ∧ v.ownBlock ≠ some ad.block)
    {v1 : Value} {w1 : World} (h1 : w1.ownsRow base e 2 v1 (own.length + 1) (fcells own ++ fcells [f])) (h2 : (w.alloc (.cells (fcells [f]).toArray t)).grownBy w1 v.ownBlock) (h3 : v1.ownBlock = v.ownBlock ∨ v1.ownBlock = some (w.alloc (.cells (fcells [f]).toArray t)).heap.size) :
    OwnsF e base w1 v1 (own ++ [f]) ∧ Below base w w1 := by
  have hb := ((Below.refl base w).alloc hbase _).trans (grown_below (hown.head.alloc (.cells (fcells [f]).toArray t)) h2 (by simp; omega))
  have hsz : w.heap.size + 1 ≤ w1.heap.size := by have := h2.size; simpa using this
  have hall : ∀ q ∈ own ++ [f], RdB w w.heap.size q.r.A q.r.l ∧ ∀ ad, q.r.A = some ad → ad.block < w.heap.size ∧ v.ownBlock ≠ some ad.block := by
    intro q hq
    rw [List.mem_append, List.mem_singleton] at hq
    rcases hq with hq | rfl
    · exact ⟨hown.row q hq, hown.apart q hq⟩
    · exact ⟨hrow, hap⟩
  refine ⟨⟨?_, fun q hq => ?_, fun q hq ad e => ?_⟩, hb⟩
  · rw [fcells_append, List.length_append]
    exact h1
  · have := (Reads.alloc (hall q hq).1 (Nat.le_refl _) (.cells (fcells [f]).toArray t)).grown_apart h2 (by simp) (fun ad e => ((hall q hq).2 ad e).2)
    exact this.more (by omega)
  · obtain ⟨hlt, hne⟩ := (hall q hq).2 ad e
    refine ⟨by omega, ?_⟩
    rcases h3 with h3 | h3
    · rw [h3]; exact hne
    · rw [h3]
      intro e'
      injection e' with e'
      simp at e'
      omega
/-- A frame behind a list of the call's own. -/
theorem push_frame {t e : TypeId} (ht : FrSl t e) {N : Nat} (s x : Operand) {own : List Fr} (f : Fr) (hown : OwnsF e base w v own) (hbase : base ≤ w.heap.size) (hl : own.length ≤ 1099511627776) (hrow : RdB w w.heap.size f.r.A f.r.l) (hap : ∀ ad, f.r.A = some ad → ad.block < w.heap.size ∧ v.ownBlock ≠ some ad.block)
    (hgd : o.guard = none) (ho : o.op = .call { callee := .builtin .append, args := #[s, x], argTypes := #[t, t] })
    (hs : a.eval s = v) (hx : a.eval x = .slice (some ⟨N, 0, none⟩) 1 1) (hN : w.heap.size = N)
    (h : ∀ v' w', OwnsF e base w' v' (own ++ [f]) → Below base w w' → base ≤ w'.heap.size → wpList Try.prog ops Q rest (a.put o.dst v') w') :
    wpList Try.prog ops Q (o :: rest) a (w.alloc (.cells #[.int .u8 (f.k.toNat : Int), .slice f.r.A f.r.l.length f.r.c] e)) := by
  subst hN
  obtain ⟨hu, hi⟩ := ht
  obtain ⟨i0, hi0, hz0, hz1, hz2⟩ := info_parts hi
  have hnew := (RdF.new w w.heap.size [f] e (Nat.le_refl _) (by intro g hg; simp only [List.mem_singleton] at hg; subst hg; exact hrow)).top
  refine wpList_append_any _ hgd s x t ho base e i0 _ 2 32 hu hi0 hz0 hz1 hz2 rfl (by omega) v _ _ hs (hown.head.alloc _) (w.heap.size + 1) _ 1 1 (fcells [f]) hx hnew (fcells_one _) (by simp only [maxLen]; omega) (by omega) (by simp; omega) ?_
  intro v1 w1 h1 h2 h3
  obtain ⟨hO, hb⟩ := frames_more f hown hbase hrow hap h1 h2 h3
  exact h v1 w1 hO hb (Nat.le_trans hbase hb.size)
end

/-- All's answer as a value, in a world. -/
def AllVal (ty : TypeId) (base : Nat) (b : List UInt8) (e : Ending) (w' : World) : Prop :=
  ∃ (v : Value) (own : List Fr) (g : Nat), e = .returned (.tuple #[v, .int .i64 (g : Int)]) ∧ OwnsF ty base w' v own ∧ AllF b (fks own) g ∧ g ≤ b.length ∧ own.length ≤ b.length ∧ ∀ f ∈ own, f.r.l.length ≤ 65535

set_option maxHeartbeats 2000000 in
set_option maxRecDepth 100000 in
theorem frAll_any (A : Option Addr) (c B : Nat) (l : List UInt8) (w : World) (hl : l.length ≤ 1099511627776) (hcap : l.length ≤ c) (hB : B ≤ w.heap.size) (hr : RdB w B A l) :
    Calls Try.prog 23 #[.slice A l.length c] w fun e w' => AllVal 26 w.heap.size l e w' ∧ Below w.heap.size w w' := by
  have hlen : (l.length : Int) ≤ 1099511627776 := by omega
  have Hl := Lib.hid hl
  clear hl
  go_enter Try.func23, Try.ntmps23
  go_wp2
  go_step3
  go_wp2
  go_step3
  go_wp2
  go_loopw [2, 3] (fun v g wr => ∃ (own : List Fr) (p : Nat), g = .int .i64 (p : Int) ∧ p ≤ l.length ∧ own.length ≤ p ∧ OwnsF 26 w.heap.size wr v own ∧ Hid (st l own.length = some (fks own, p)) ∧ Hid (∀ f ∈ own, f.r.l.length ≤ 65535) ∧ Below w.heap.size w wr) (fun _ g _ => l.length - (intOf g).toNat)
  case atStart => exact ⟨[], 0, rfl, by omega, by simp, OwnsF.nil _ _ _, by exact rfl, by intro f hf; simp at hf, .refl _ _⟩
  case round =>
    obtain ⟨own, p, rfl, hp, hop, hown, hst, hsm, hb⟩ := hrel
    obtain ⟨⟨fk, fl⟩, nx, e, ht⟩ : ∃ f nx e, takeF l (p : Int) = (f, nx, e) := ⟨_, _, _, rfl⟩
    have Ht := Lib.hid ht
    have HpI := Lib.hid (show (p : Int) ≤ 1099511627776 by omega)
    by_cases he : e = 0
    · subst he
      obtain ⟨q, rest, e1, e2, e3, e4, e5⟩ := takeF_ok (b := l) (p := (p : Int)) (by rw [ht])
      rw [ht] at e2 e3 e4 e5
      simp only at e2 e3 e4 e5
      obtain rfl : p = q := by omega
      have h6 := fsz_pos fl.length
      obtain ⟨N, hN⟩ : ∃ N, N = p + fsz fl.length := ⟨_, rfl⟩
      obtain rfl : nx = (N : Int) := by rw [e4, hN]
      have hst' := Lib.hid (st_on hst.out ht)
      have hNl : N ≤ l.length := by omega
      have hpN : p < N := by omega
      have Hfl := Lib.hid e3
      clear ht e1 e2 e3 e4 e5 h6 hN hst
      go_wp2_with (first
        | (go_at_call 21
           refine (frTake_any A c B l _ _ Hl.out hcap (Nat.le_trans hB hb.size) (hr.below (hb.mono hB))).mono ?_
           rintro e' w1 ⟨⟨v1, rfl, hown1⟩, hb1⟩
           rw [Ht.out] at hown1 ⊢
           simp only at hown1 ⊢
           obtain ⟨A1, c1, rfl, _, _, hr1⟩ := own_form hown1
           have hO := (hown.below hb1).alloc (.cells #[.int .u8 (fk.toNat : Int), .slice A1 fl.length c1] 26)
           have hbb := hb.trans (hb1.mono hb.size)
           have hbb1 := hbb.alloc hbb.size (.cells #[.int .u8 (fk.toNat : Int), .slice A1 fl.length c1] 26)
           have hrow : RdB (w1.alloc (.cells #[.int .u8 (fk.toNat : Int), .slice A1 fl.length c1] 26)) (w1.alloc (.cells #[.int .u8 (fk.toNat : Int), .slice A1 fl.length c1] 26)).heap.size A1 fl := Reads.more (Reads.alloc hr1 (Nat.le_refl _) _) (by simp)
           have hap := own_apart hown1
           have hlt := hown.head.lt
           clear hown hown1 hr1)
        | (at_builtin
           refine push_frame frSl1 (.tmp 17) (.tmp 19) ⟨fk, ⟨A1, c1, fl⟩⟩ hO hbb1.size (by have := HpI.out; omega) hrow (fun ad e => ⟨by have := (hap ad e).2; simp; omega, fun e' => by have h1 := (hlt _ e').2; have h2 := (hap ad e).1; omega⟩) rfl rfl rfl rfl (by simp) ?_
           intro v2 w2 hO2 hb2 hbs2))
      go_roundw
      case rel =>
        have e1 : (own ++ [(⟨fk, ⟨A1, c1, fl⟩⟩ : Fr)]).length = own.length + 1 := by simp
        refine ⟨_, N, rfl, hNl, by rw [e1]; omega, hO2, by rw [e1, hst'.out]; simp [fks, Hid], ?_, hbb1.trans hb2⟩
        intro f hf
        rw [List.mem_append, List.mem_singleton] at hf
        rcases hf with hf | rfl
        · exact hsm.out f hf
        · exact Hfl.out
      case measure => simp [intOf]; omega
    · have hall : AllF l (fks own) p := ⟨by rw [fks_len]; exact hst.out, by rw [ht]; exact he⟩
      have Hall := Lib.hid hall
      have heI : ((e : Int) == 0) = false := by rw [beq_eq_false_iff_ne]; omega
      have heI' : (e == 0) = false := by rw [beq_eq_false_iff_ne]; exact he
      have hol : own.length ≤ l.length := by omega
      have Hol := Lib.hid hol
      clear ht he hall hst hol
      go_wp2_with (go_at_call 21
                   refine (frTake_any A c B l _ _ Hl.out hcap (Nat.le_trans hB hb.size) (hr.below (hb.mono hB))).mono ?_
                   rintro e' w1 ⟨⟨v1, rfl, hown1⟩, hb1⟩
                   rw [Ht.out] at hown1 ⊢
                   simp only at hown1 ⊢
                   obtain ⟨A1, c1, rfl, _, _, hr1⟩ := own_form hown1
                   have hO := (hown.below hb1).alloc (.cells #[.int .u8 (fk.toNat : Int), .slice A1 fl.length c1] 26)
                   have hbb := hb.trans (hb1.mono hb.size)
                   have hbb1 := hbb.alloc hbb.size (.cells #[.int .u8 (fk.toNat : Int), .slice A1 fl.length c1] 26))
      rw [Exit.noGoto_ret]
      go_ret2
      exact ⟨⟨_, own, p, rfl, hO, Hall.out, hp, Hol.out, hsm.out⟩, hbb1⟩

set_option maxHeartbeats 2000000 in
set_option maxRecDepth 100000 in
theorem refFrAll_any (A : Option Addr) (c B : Nat) (l : List UInt8) (w : World) (hl : l.length ≤ 1099511627776) (hcap : l.length ≤ c) (hB : B ≤ w.heap.size) (hr : RdB w B A l) :
    Calls Try.prog 24 #[.slice A l.length c] w fun e w' => AllVal 38 w.heap.size l e w' ∧ Below w.heap.size w w' := by
  have hlen : (l.length : Int) ≤ 1099511627776 := by omega
  have Hl := Lib.hid hl
  clear hl
  go_enter Try.func24, Try.ntmps24
  go_wp2
  go_loopw [4, 5] (fun v g wr => ∃ (own : List Fr) (p : Nat), g = .int .i64 (p : Int) ∧ p ≤ l.length ∧ own.length ≤ p ∧ OwnsF 38 w.heap.size wr v own ∧ Hid (st l own.length = some (fks own, p)) ∧ Hid (∀ f ∈ own, f.r.l.length ≤ 65535) ∧ Below w.heap.size w wr) (fun _ g _ => l.length - (intOf g).toNat)
  case atStart => exact ⟨[], 0, rfl, by omega, by simp, OwnsF.nil _ _ _, by exact rfl, by intro f hf; simp at hf, .refl _ _⟩
  case round =>
    obtain ⟨own, p, rfl, hp, hop, hown, hst, hsm, hb⟩ := hrel
    obtain ⟨⟨fk, fl⟩, nx, e, ht⟩ : ∃ f nx e, takeF l (p : Int) = (f, nx, e) := ⟨_, _, _, rfl⟩
    have Ht := Lib.hid ht
    have HpI := Lib.hid (show (p : Int) ≤ 1099511627776 by omega)
    by_cases he : e = 0
    · subst he
      obtain ⟨q, rest, e1, e2, e3, e4, e5⟩ := takeF_ok (b := l) (p := (p : Int)) (by rw [ht])
      rw [ht] at e2 e3 e4 e5
      simp only at e2 e3 e4 e5
      obtain rfl : p = q := by omega
      have h6 := fsz_pos fl.length
      obtain ⟨N, hN⟩ : ∃ N, N = p + fsz fl.length := ⟨_, rfl⟩
      obtain rfl : nx = (N : Int) := by rw [e4, hN]
      have hst' := Lib.hid (st_on hst.out ht)
      have hNl : N ≤ l.length := by omega
      have hpN : p < N := by omega
      have hpl : (p : Int) < (l.length : Int) := by omega
      have Hfl := Lib.hid e3
      clear ht e1 e2 e3 e4 e5 h6 hN hst
      go_wp2_with (first
        | (go_at_call 22
           refine (refFrTake_any A c B l _ _ Hl.out hcap (Nat.le_trans hB hb.size) (hr.below (hb.mono hB))).mono ?_
           rintro e' w1 ⟨⟨v1, rfl, hown1⟩, hb1⟩
           rw [Ht.out] at hown1 ⊢
           simp only at hown1 ⊢
           obtain ⟨A1, c1, rfl, _, _, hr1⟩ := own_form hown1
           have hO := (hown.below hb1).alloc (.cells #[.int .u8 (fk.toNat : Int), .slice A1 fl.length c1] 38)
           have hbb := hb.trans (hb1.mono hb.size)
           have hbb1 := hbb.alloc hbb.size (.cells #[.int .u8 (fk.toNat : Int), .slice A1 fl.length c1] 38)
           have hrow : RdB (w1.alloc (.cells #[.int .u8 (fk.toNat : Int), .slice A1 fl.length c1] 38)) (w1.alloc (.cells #[.int .u8 (fk.toNat : Int), .slice A1 fl.length c1] 38)).heap.size A1 fl := Reads.more (Reads.alloc hr1 (Nat.le_refl _) _) (by simp)
           have hap := own_apart hown1
           have hlt := hown.head.lt
           clear hown hown1 hr1)
        | (at_builtin
           refine push_frame frSl2 (.tmp 24) (.tmp 26) ⟨fk, ⟨A1, c1, fl⟩⟩ hO hbb1.size (by have := HpI.out; omega) hrow (fun ad e => ⟨by have := (hap ad e).2; simp; omega, fun e' => by have h1 := (hlt _ e').2; have h2 := (hap ad e).1; omega⟩) rfl rfl rfl rfl (by simp) ?_
           intro v2 w2 hO2 hb2 hbs2))
      go_roundw
      case rel =>
        have e1 : (own ++ [(⟨fk, ⟨A1, c1, fl⟩⟩ : Fr)]).length = own.length + 1 := by simp
        refine ⟨_, N, rfl, hNl, by rw [e1]; omega, hO2, by rw [e1, hst'.out]; simp [fks, Hid], ?_, hbb1.trans hb2⟩
        intro f hf
        rw [List.mem_append, List.mem_singleton] at hf
        rcases hf with hf | rfl
        · exact hsm.out f hf
        · exact Hfl.out
      case measure => simp [intOf]; omega
    · have hall : AllF l (fks own) p := ⟨by rw [fks_len]; exact hst.out, by rw [ht]; exact he⟩
      have Hall := Lib.hid hall
      have heI : ((e : Int) != 0) = true := by rw [bne_iff_ne]; omega
      have heI' : (e != 0) = true := by rw [bne_iff_ne]; exact he
      have hol : own.length ≤ l.length := by omega
      have Hol := Lib.hid hol
      clear ht he hall hst hol
      by_cases hpl : p < l.length
      · go_wp2_with (go_at_call 22
                     refine (refFrTake_any A c B l _ _ Hl.out hcap (Nat.le_trans hB hb.size) (hr.below (hb.mono hB))).mono ?_
                     rintro e' w1 ⟨⟨v1, rfl, hown1⟩, hb1⟩
                     rw [Ht.out] at hown1 ⊢
                     simp only at hown1 ⊢
                     obtain ⟨A1, c1, rfl, _, _, hr1⟩ := own_form hown1
                     have hO := (hown.below hb1).alloc (.cells #[.int .u8 (fk.toNat : Int), .slice A1 fl.length c1] 38)
                     have hbb := hb.trans (hb1.mono hb.size)
                     have hbb1 := hbb.alloc hbb.size (.cells #[.int .u8 (fk.toNat : Int), .slice A1 fl.length c1] 38))
        go_ret2
        exact ⟨⟨_, own, p, rfl, hO, Hall.out, hp, Hol.out, hsm.out⟩, hbb1⟩
      · go_wp2
        go_ret2
        exact ⟨⟨_, own, p, rfl, hown, Hall.out, hp, Hol.out, hsm.out⟩, hb⟩
end Go.Proofs.Ytfjgmbnnmobkbaa
