/- Edits taken: the program's Parse and the document's. Conditions: at most 1000000 bytes. -/
import Derived.Test.YtohgghaooppcoaaDlK
import Derived.Test.YtohgghaooppcoaaRefD
namespace Go.Proofs.Ytohgghaooppcoaa
open Go.RowKit Go.Lib

/-- Parse's answer, in a world. -/
def ParVal (ty : TypeId) (base : Nat) (b : List UInt8) (e : Ending) (w' : World) : Prop := ∃ v, e = .returned (.tuple #[v, .int .i64 (((par b).2 : Nat) : Int)]) ∧ OwnE ty base w' v (par b).1
theorem etake_fine (A : Option Addr) (c B : Nat) (l : List UInt8) (p N : Nat) (x : Ed) (ht : Hid (tkE l p = (x, (N : Int), 0))) (w : World) (hl : l.length ≤ 1099511627776) (hcap : l.length ≤ c) (hp : p < l.length) (hB : B ≤ w.heap.size) (hr : RdB w B A l) :
    Calls Try.prog 42 #[.slice A l.length c, .int .i64 (p : Int)] w fun e w' => e = .returned (.tuple #[.agg #[.int .u8 (x.k.toNat : Int), .int .i64 x.n, .string (txt x.s)], .int .i64 (N : Int), .int .i64 0]) ∧ Below w.heap.size w w' := by
  refine (etake_any A c B l p w hl hcap hp hB hr).mono ?_
  rintro e w' ⟨⟨y, nx, rfl, h⟩, hb⟩
  rw [ht.out] at h ⊢
  obtain ⟨rfl, rfl⟩ := h rfl
  exact ⟨rfl, hb⟩
theorem etake_no (A : Option Addr) (c B : Nat) (l : List UInt8) (p er : Nat) (ht : Hid ((tkE l p).2.2 = er)) (w : World) (hl : l.length ≤ 1099511627776) (hcap : l.length ≤ c) (hp : p < l.length) (hB : B ≤ w.heap.size) (hr : RdB w B A l) :
    Calls Try.prog 42 #[.slice A l.length c, .int .i64 (p : Int)] w fun e w' => ∃ (x : Ed) (nx : Int), e = .returned (.tuple #[.agg #[.int .u8 (x.k.toNat : Int), .int .i64 x.n, .string (txt x.s)], .int .i64 nx, .int .i64 (er : Int)]) ∧ Below w.heap.size w w' := by
  refine (etake_any A c B l p w hl hcap hp hB hr).mono ?_
  rintro e w' ⟨⟨y, nx, rfl, h⟩, hb⟩
  rw [ht.out]
  exact ⟨y, nx, rfl, hb⟩
set_option maxHeartbeats 2000000 in
set_option maxRecDepth 100000 in
theorem parse_any (A : Option Addr) (c B : Nat) (l : List UInt8) (w : World) (hl : l.length ≤ 1000000) (hcap : l.length ≤ c) (hB : B ≤ w.heap.size) (hr : RdB w B A l) :
    Calls Try.prog 24 #[.slice A l.length c] w fun e w' => ParVal 47 w.heap.size l e w' ∧ Below w.heap.size w w' := by
  have hlen : (l.length : Int) ≤ 1000000 := by omega
  have Hl := Lib.hid hl
  have Hcap := Lib.hid hcap
  have HB := Lib.hid hB
  have Hr : Hid (RdB w B A l) := hr
  clear hl hcap hB hr
  go_enter Try.func24, Try.ntmps24
  go_wp2
  go_loopw [4, 5] (fun v a wr => ∃ (own : List Ed) (p f : Nat), a = .int .i64 (p : Int) ∧ p ≤ l.length ∧ own.length ≤ p ∧ Hid (l.length ≤ p + f) ∧ OwnE 47 w.heap.size wr v own ∧ Hid (fin own (parF l f p) = par l) ∧ Below w.heap.size w wr) (fun _ a _ => l.length - (Lib.intOf a).toNat)
  case atStart => exact ⟨[], 0, l.length, rfl, by omega, by simp, by show _ ≤ _; omega, OwnE.nil _ _ _, fin_nil _ _ _, .refl _ _⟩
  case round =>
    obtain ⟨own, p, f, rfl, hp, hop, hf, hown, hfin, hb⟩ := hrel
    by_cases hlt : p < l.length
    · obtain ⟨g, rfl⟩ : ∃ g, f = g + 1 := ⟨f - 1, by have := hf.out; omega⟩
      have Hrr : Hid (RdB wr B A l) := Reads.below Hr.out (hb.mono HB.out)
      have HBz := Lib.hid (Nat.le_trans HB.out hb.size)
      have Hown := Lib.hid hown
      have hpI : (p : Int) < (l.length : Int) := by omega
      clear hown
      rcases zero_or (tkE l p).2.2 with he | he
      · obtain ⟨N, hN, h1, h2, h3, h4, h5⟩ := tkE_ok hlt he
        obtain ⟨x, hx⟩ : ∃ x, Hid (tkE l p = (x, (N : Int), 0)) := ⟨(tkE l p).1, by show _ = _; rw [← hN, ← he]⟩
        have Hstep := Lib.hid (fin_on (acc := own) (f := g) hlt hx.out)
        have Hpn := Lib.hid h1
        clear he hN h3 h4 h5
        go_wp2_with (first
          | (go_at_call 42; refine (etake_fine A c B l p N x hx _ (by have := Hl.out; omega) Hcap.out hlt HBz.out Hrr.out).mono ?_; rintro e w1 ⟨rfl, hb1⟩; have hown1 := own_below Hown.out hb1 (Nat.le_refl _); have hbb1 := hb.trans (hb1.mono hb.size); have hown2 := hown1.alloc (.cells #[.int .u8 (x.k.toNat : Int), .int .i64 x.n, .string (txt x.s)] 47); have hbb2 := hbb1.alloc hbb1.size (.cells #[.int .u8 (x.k.toNat : Int), .int .i64 x.n, .string (txt x.s)] 47); clear hown1 hb1)
          | (at_builtin; refine push_ed edSl1 (.tmp 23) (.tmp 25) x rfl rfl rfl hown2 hbb2.size (by omega) rfl rfl rfl rfl (by simp) ?_; intro v3 w3 own3 hb3 hbs3 hz3 hk3; have hbb3 := hbb2.trans hb3; clear hown2 hb3 hk3))
        go_roundw
        case rel => exact ⟨own ++ [x], N, g, rfl, h2, by simp; omega, by have := hf.out; have := Hpn.out; show _ ≤ _; omega, own3, Hstep.out.symm.trans hfin.out, hbb3⟩
        case measure => simp [Lib.intOf]; omega
      · obtain ⟨er, her⟩ : ∃ er, Hid ((tkE l p).2.2 = er) := ⟨_, rfl⟩
        have he' : 0 < er := by rw [← her.out]; exact he
        have heb : ((er : Int) != 0) = true := by simp; omega
        have heq : ((er : Int) == 0) = false := by simp; omega
        have Hv := Lib.hid ((fin_err (acc := own) (f := g) hlt (show tkE l p = ((tkE l p).1, (tkE l p).2.1, er) by rw [← her.out]) (by omega)).symm.trans hfin.out)
        clear he
        go_wp2_with (go_at_call 42; refine (etake_no A c B l p er her _ (by have := Hl.out; omega) Hcap.out hlt HBz.out Hrr.out).mono ?_; rintro e w1 ⟨x, nx, rfl, hb1⟩; have hbb1 := hb.trans (hb1.mono hb.size); have hbb2 := hbb1.alloc hbb1.size (.cells #[.int .u8 (x.k.toNat : Int), .int .i64 x.n, .string (txt x.s)] 47); clear hb1)
        go_ret2
        exact ⟨⟨.slice none 0 0, by rw [← Hv.out]; rfl, by rw [← Hv.out]; exact OwnE.nil _ _ _⟩, hbb2⟩
    · have Hv := Lib.hid ((fin_end (b := l) (f := f) (acc := own) (p := p) (by omega)).symm.trans hfin.out)
      go_wp2
      go_ret2
      exact ⟨⟨_, by rw [← Hv.out]; rfl, by rw [← Hv.out]; exact hown⟩, hb⟩
end Go.Proofs.Ytohgghaooppcoaa
