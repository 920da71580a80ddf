/- Lists of frames that an operation makes, and the laws' calls over them. Conditions: none. -/
import Derived.Test.YtfjgmbnnmobkbaaLawFK
import Derived.Test.YtfjgmbnnmobkbaaLawFT
import Derived.Test.YtfjgmbnnmobkbaaLawFB
import Derived.Test.YtfjgmbnnmobkbaaRow
namespace Go.Proofs.Ytfjgmbnnmobkbaa
open Go.RowKit

theorem u8_of (z : Int) : ∃ k : UInt8, IntKind.u8.wrap z = (k.toNat : Int) := by
  have h := lit_u8 (wf_wrap .u8 z)
  exact ⟨UInt8.ofNat (IntKind.u8.wrap z).toNat, by simp [UInt8.toNat_ofNat']; omega⟩
/-- A frame without a body. -/
def bare (k : UInt8) : Fr := ⟨k, ⟨none, 0, []⟩⟩
/-- A list of frames, as an operation makes it. -/
def LsF (w : World) (v : Value) (fs : List Fr) : Prop := ∃ N, v = .slice (some ⟨N, 0, none⟩) fs.length fs.length ∧ RdF w w.heap.size (some ⟨N, 0, none⟩) fs
theorem LsF.keep {w w' : World} {v : Value} {fs : List Fr} (h : LsF w v fs) (hb : Below w.heap.size w w') : LsF w' v fs := by
  obtain ⟨N, e, hr⟩ := h
  exact ⟨N, e, (hr.below hb).more hb.size⟩
theorem LsF.new (w : World) (B : Nat) (fs : List Fr) (t : TypeId) (cs : Array Value) (n : Nat) (hB : B ≤ w.heap.size) (h : ∀ f ∈ fs, RdB w B f.r.A f.r.l) (hc : cs = (fcells fs).toArray) (hn : n = fs.length) : LsF (w.alloc (.cells cs t)) (.slice (some ⟨w.heap.size, 0, none⟩) n n) fs := by
  subst hc hn
  refine ⟨_, rfl, ?_⟩
  have := RdF.new w B fs t hB h
  simpa using this
section
variable {b : Act} {w : World} {o : Oper}
theorem exec_build1 {v : Value} {i : Int} (ho : o.op = .build 26 #[(0, .const v)]) (hv : v = .int .u8 i) : (execOp b.eval o).run Try.prog w = .ok (.value (.agg #[.int .u8 i, .slice none 0 0])) w := by
  subst hv
  unfold execOp
  simp only [ho, List.map_toArray, List.map_cons, List.map_nil]
  go_simp
theorem exec_build0 (ho : o.op = .build 26 #[]) : (execOp b.eval o).run Try.prog w = .ok (.value (.agg #[.int .u8 0, .slice none 0 0])) w := by
  unfold execOp
  simp only [ho, List.map_toArray, List.map_nil]
  go_simp
theorem exec_listF1 {x : Operand} {p q : Value} (ho : o.op = .buildSlice 22 1 #[(0, x)]) (h : b.eval x = .agg #[p, q]) :
    (execOp b.eval o).run Try.prog w = .ok (.value (.slice (some ⟨w.heap.size, 0, none⟩) 1 1)) (w.alloc (.cells #[p, q] 26)) := by
  unfold execOp
  simp only [ho, List.map_toArray, List.map_cons, List.map_nil, h]
  go_simp
theorem exec_listF2 {x y : Operand} {p q p' q' : Value} (ho : o.op = .buildSlice 22 2 #[(0, x), (1, y)]) (h : b.eval x = .agg #[p, q]) (h' : b.eval y = .agg #[p', q']) :
    (execOp b.eval o).run Try.prog w = .ok (.value (.slice (some ⟨w.heap.size, 0, none⟩) 2 2)) (w.alloc (.cells #[p, q, p', q'] 26)) := by
  unfold execOp
  simp only [ho, List.map_toArray, List.map_cons, List.map_nil, h, h']
  go_simp
theorem exec_listF3 {x y z : Operand} {p q p' q' p'' q'' : Value} (ho : o.op = .buildSlice 22 3 #[(0, x), (1, y), (2, z)]) (h : b.eval x = .agg #[p, q]) (h' : b.eval y = .agg #[p', q']) (h'' : b.eval z = .agg #[p'', q'']) :
    (execOp b.eval o).run Try.prog w = .ok (.value (.slice (some ⟨w.heap.size, 0, none⟩) 3 3)) (w.alloc (.cells #[p, q, p', q', p'', q''] 26)) := by
  unfold execOp
  simp only [ho, List.map_toArray, List.map_cons, List.map_nil, h, h', h'']
  go_simp
theorem exec_field1 {x : Operand} {g : Nat} (ho : o.op = .fieldAddr 26 x 1) (h : b.eval x = .pointer (some ⟨g, 0, none⟩)) : (execOp b.eval o).run Try.prog w = .ok (.value (.pointer (some ⟨g, 1, none⟩))) w := by
  unfold execOp
  simp only [ho, h]
  go_simp
theorem exec_loadS {x : Operand} {ad : Addr} {v : Value} (ho : o.op = .load 24 x) (h : b.eval x = .pointer (some ad)) (h1 : w.cell? ad = some v) : (execOp b.eval o).run Try.prog w = .ok (.value v) w := by
  unfold execOp
  simp only [ho, h]
  go_simp
theorem exec_half {x : Operand} {n m : Nat} {v : Value} (ho : o.op = .binOp .quo 3 x (.const v) 3) (h : b.eval x = .int .i64 (n : Int)) (hv : v = .int .i64 2) (hn : n ≤ 1000) (hm : m = n / 2) : (execOp b.eval o).run Try.prog w = .ok (.value (.int .i64 (m : Int))) w := by
  subst hv
  have e : (n : Int).tdiv 2 = (m : Int) := by rw [hm]; rfl
  have hw : IntKind.i64.wrap ((n : Int) / 2) = (n : Int) / 2 := IntWalk.i64_in _ (by omega)
  unfold execOp
  simp only [ho, h]
  go_simp
end
theorem enter_puts (w : World) (args : Array Value) : (callFunc 3 args).run Try.prog w = .ok (.enter 3 args) w := by kernel_rfl
theorem enter_back (w : World) (args : Array Value) : (callFunc 5 args).run Try.prog w = .ok (.enter 5 args) w := by kernel_rfl
theorem enter_bits (w : World) (args : Array Value) : (callFunc 6 args).run Try.prog w = .ok (.enter 6 args) w := by kernel_rfl
theorem puts_ls {w : World} {v : Value} {fs : List Fr} (h : LsF w v fs) (hl : fs.length ≤ 10) (hls : ∀ f ∈ fs, f.r.l.length ≤ 100000) :
    Calls Try.prog 3 #[v] w fun e w' => ∃ u, e = .returned u ∧ Below w.heap.size w w' ∧ u = .bool true := by
  obtain ⟨N, rfl, hr⟩ := h
  refine (putsLaw_any _ _ fs w (by omega) (fun f hf => Nat.le_trans (hls f hf) (by omega)) hr).mono ?_
  rintro e w' ⟨rfl, hb⟩
  exact ⟨_, rfl, hb, rfl⟩
theorem back_ls {w : World} {v : Value} {fs : List Fr} {A : Option Addr} {c m : Nat} {l : List UInt8} {t : Int} (h : LsF w v fs) (hl : fs.length ≤ 10) (hls : ∀ f ∈ fs, f.r.l.length ≤ 100000) (hm : l.length = m) (hm' : m ≤ 100000) (ht : -9223372036854775808 ≤ t ∧ t ≤ 9223372036854775807) (hr : RdB w w.heap.size A l) :
    Calls Try.prog 5 #[v, .slice A m c, .int .i64 t] w fun e w' => ∃ u, e = .returned u ∧ Below w.heap.size w w' ∧ u = .bool true := by
  subst hm
  obtain ⟨N, rfl, hrf⟩ := h
  refine (backLaw_any _ _ _ c fs l t w (by omega) (fun f hf => Nat.le_trans (hls f hf) (by omega)) (Nat.le_refl _) (by omega) ht hrf hr).mono ?_
  rintro e w' ⟨rfl, hb⟩
  exact ⟨_, rfl, hb, rfl⟩
theorem bits_f {w : World} {f : Fr} {t : Int} (hl : f.r.l.length ≤ 100000) (ht : -9223372036854775808 ≤ t ∧ t ≤ 9223372036854775807) (hr : RdB w w.heap.size f.r.A f.r.l) :
    Calls Try.prog 6 #[f.v, .int .i64 t] w fun e w' => ∃ u, e = .returned u ∧ Below w.heap.size w w' ∧ u = .bool true := by
  refine (bitsLaw_any f t w (by omega) ht hr).mono ?_
  rintro e w' ⟨rfl, hb⟩
  exact ⟨_, rfl, hb, rfl⟩
theorem frPut_n {k : UInt8} {A : Option Addr} {n c B : Nat} {l : List UInt8} {kz : Int} {w : World} (hn : l.length = n) (hk : kz = (k.toNat : Int)) (hl : n ≤ 65535) (hB : B ≤ w.heap.size) (hr : RdB w B A l) :
    Calls Try.prog 15 #[.agg #[.int .u8 kz, .slice A n c]] w fun e w' => BytesErr w.heap.size (encFr k l, 0) e w' ∧ Below w.heap.size w w' := by
  subst hn hk
  refine (frPut_any ⟨k, ⟨A, c, l⟩⟩ B w (by simp only; omega) hB hr).mono ?_
  rintro e w' ⟨h, hb⟩
  simp only at h
  rw [joinF_ok (l := [(k, l)]) (by intro f hf; simp only [List.mem_singleton] at hf; subst hf; exact hl)] at h
  have e1 : encFs [(k, l)] = encFr k l := by unfold encFs; rw [List.flatMap_singleton]
  rw [e1] at h
  exact ⟨h, hb⟩
theorem oneF_enc {k : UInt8} {l : List UInt8} (hl : l.length ≤ 65535) : oneF (encFr k l) = ((k, l), 0) := by
  have h := takeF_enc (b := encFr k l) (q := 0) (k := k) (l := l) (rest := []) hl (by simp)
  have h' : takeF (encFr k l) 0 = ((k, l), ((0 + fsz l.length : Nat) : Int), 0) := h
  unfold oneF
  rw [h']
  simp only
  rw [if_neg (by simp), if_neg (by rw [encFr_len]; omega)]
theorem frOne_n {k : UInt8} {A : Option Addr} {n c B : Nat} {L l : List UInt8} {w : World} (hn : L.length = n) (hL : L = encFr k l) (hl : l.length ≤ 65535) (hnl : n ≤ 1099511627776) (hcap : n ≤ c) (hB : B ≤ w.heap.size) (hr : RdB w B A L) :
    Calls Try.prog 25 #[.slice A n c] w fun e w' => OneVal w.heap.size ((k, l), 0) e w' ∧ Below w.heap.size w w' := by
  subst hn
  have h := frOne_any A c B L w hnl hcap hB hr
  rw [hL, oneF_enc hl, ← hL] at h
  exact h
theorem puts_one {W : World} {k : UInt8} {A : Option Addr} {n c B N : Nat} {l : List UInt8} {kz : Int} (hN : W.heap.size = N) (hn : l.length = n) (hk : kz = (k.toNat : Int)) (hl : n ≤ 100000) (hB : B ≤ W.heap.size) (hr : RdB W B A l) :
    Calls Try.prog 3 #[.slice (some ⟨N, 0, none⟩) 1 1] (W.alloc (.cells #[.int .u8 kz, .slice A n c] 26)) fun e w' => e = .returned (.bool true) ∧ Below W.heap.size W w' := by
  subst hN hn hk
  have h := LsF.new W B [⟨k, ⟨A, c, l⟩⟩] 26 #[.int .u8 (k.toNat : Int), .slice A l.length c] 1 hB (by intro q hq; simp only [List.mem_singleton] at hq; subst hq; exact hr) rfl rfl
  refine (puts_ls h (by simp) (by intro q hq; simp only [List.mem_singleton] at hq; subst hq; exact hl)).mono ?_
  rintro e w' ⟨u, rfl, hb, rfl⟩
  exact ⟨rfl, ((Below.refl _ _).alloc (Nat.le_refl _) _).trans (hb.mono (by simp))⟩
theorem size_n {W : World} {k : UInt8} {A : Option Addr} {n c Z : Nat} {l : List UInt8} {kz : Int} (hn : l.length = n) (hk : kz = (k.toNat : Int)) (hl : n ≤ 100000) (hz : fsz n = Z) :
    Calls Try.prog 17 #[.agg #[.int .u8 kz, .slice A n c]] W fun e w' => e = .returned (.int .i64 (Z : Int)) ∧ Below W.heap.size W w' := by
  subst hn hk
  refine (size_ref (f := ⟨k, ⟨A, c, l⟩⟩) (by simp only; omega) hz).mono ?_
  rintro e w' ⟨u, rfl, hb, rfl⟩
  exact ⟨rfl, hb⟩
theorem fsz_max : fsz 65535 = 65543 := by decide +kernel
theorem fsz_over : fsz 65536 = 65544 := by decide +kernel
end Go.Proofs.Ytfjgmbnnmobkbaa
