/- The walks of Cut and Put, the project's. Conditions: bytes of at most 2^40; at most 1000 payloads. -/
import Derived.Test.YtogoaihimepboaaKJoJ
namespace Go.Proofs.Ytogoaihimepboaa
open Go.RowKit

set_option maxHeartbeats 1000000 in
set_option maxRecDepth 100000 in
theorem cut_any (A : Option Addr) (c B n : Nat) (l : List UInt8) (w : World) (hn : l.length = n) (hl : n ≤ 1099511627776) (hcap : n ≤ c) (hB : B ≤ w.heap.size) (hr : RdB w B A l) :
    Calls Try.prog 14 #[.slice A n c] w fun e w' => (∃ own p, AllJ l own p ∧ ∃ v, e = .returned v ∧ w'.ownsRow w.heap.size 5 1 v p (bs (l.take p))) ∧ Below w.heap.size w w' := by
  have hnI : (n : Int) ≤ 1099511627776 := by omega
  have HT := Lib.hid (wholeJ_any A c B n l w hn hl hcap hB hr)
  have Hn := Lib.hid hn
  have Hl := Lib.hid hl
  have Hcap := Lib.hid hcap
  have HB := Lib.hid hB
  have Hr := Lib.hid hr
  obtain ⟨own, p, hall⟩ := allJ_ex l
  obtain ⟨hp, _, _⟩ := allJ_stand hall
  rw [hn] at hp
  have hpI : (p : Int) ≤ (c : Int) := by omega
  have hpn := Lib.hid hp
  have Hall := Lib.hid hall
  clear hn hl hcap hB hr hp hall
  go_enter Try.func14, Try.ntmps14
  go_wp2_with (first
    | (go_at_call 19; refine HT.out.mono ?_; rintro e w2 ⟨⟨own2, p2, hall2, rfl⟩, hb2⟩; obtain ⟨_, rfl⟩ := allJ_one Hall.out hall2; have Hb2 := Lib.hid hb2; clear hb2 hall2)
    | (go_at_call 33; refine (clone_any A c B p (l.take p) w2 (by rw [List.length_take]; have := hpn.out; have := Hn.out; omega) (by have := hpn.out; have := Hl.out; omega) (Nat.le_trans HB.out Hb2.out.size) (RdB.first (Reads.below Hr.out (Hb2.out.mono HB.out)) (by have := hpn.out; have := Hn.out; omega))).mono ?_; rintro e w3 ⟨v3, rfl, hown3, hb3⟩; have Hown3 := Lib.hid hown3; have Hb3 := Lib.hid hb3; clear hown3 hb3))
  go_ret
  exact ⟨⟨own, p, Hall.out, _, rfl, own_mono Hown3.out Hb2.out.size⟩, Hb2.out.trans (Hb3.out.mono Hb2.out.size)⟩

def frJ (r : Row) : Fr := ⟨9, r⟩
section
variable {ops : Array Oper} {rest : List Oper} {o : Oper} {a : Act} {Q : Exit → Act → World → Prop} {w : World} {base : Nat} {v : Value}
theorem fcells_frJ (own : List Row) (r : Row) : fcells (own.map frJ) ++ fcells [frJ r] = fcells ((own ++ [r]).map frJ) := by rw [List.map_append, fcells_append]; rfl
/-- A payload's frame behind a list of the call's own: what the list's own block holds. -/
theorem push_head9 {N : Nat} (s x : Operand) {own : List Row} (r : Row) (hown : w.ownsRow base 58 2 v own.length (fcells (own.map frJ))) (hbase : base ≤ w.heap.size) (hl : own.length ≤ 1099511627776)
    (hgd : o.guard = none) (ho : o.op = .call { callee := .builtin .append, args := #[s, x], argTypes := #[68, 68] })
    (hs : a.eval s = v) (hx : a.eval x = .slice (some ⟨N, 0, none⟩) 1 1) (hN : w.heap.size = N)
    (h : ∀ v' w', w'.ownsRow base 58 2 v' (own.length + 1) (fcells ((own ++ [r]).map frJ)) → Below base w w' → wpList Try.prog ops Q rest (a.put o.dst v') w') :
    wpList Try.prog ops Q (o :: rest) a (w.alloc (.cells #[.int .u8 9, .slice r.A r.l.length r.c] 58)) := by
  subst hN
  obtain ⟨i0, hi0, hz0, hz1, hz2⟩ := info_parts frSl1.2
  have hn1 := reads_new w 58 (fcells [frJ r])
  have hnew : Reads (w.alloc (.cells #[.int .u8 9, .slice r.A r.l.length r.c] 58)) (w.heap.size + 1) 2 (some ⟨w.heap.size, 0, none⟩) 1 (fcells [frJ r]) := ⟨rfl, fun _ => hn1.2 (by rw [fcells_len]; simp)⟩
  refine wpList_append_any _ hgd s x _ ho base 58 i0 _ 2 32 Try.underlying68 hi0 hz0 hz1 hz2 rfl (by omega) v _ _ hs (hown.alloc _) (w.heap.size + 1) _ 1 1 (fcells [frJ r]) hx hnew (fcells_one _) (by simp only [maxLen]; omega) (by omega) (by simp; omega) ?_
  intro v1 w1 h1 h2 _
  rw [fcells_frJ] at h1
  exact h v1 w1 h1 (((Below.refl base w).alloc hbase _).trans (grown_below (hown.alloc (.cells #[.int .u8 9, .slice r.A r.l.length r.c] 58)) h2 (by simp; omega)))
end
theorem fks_frJ (rows : List Row) : fks (rows.map frJ) = (rows.map (·.l)).map fun m => (9, m) := by
  unfold fks frJ
  rw [List.map_map, List.map_map]
  rfl
set_option maxHeartbeats 1000000 in
set_option maxRecDepth 100000 in
theorem putJ_any (A : Option Addr) (c m B : Nat) (rows : List Row) (w : World) (hm : rows.length = m) (hml : m ≤ 1000) (hls : ∀ r ∈ rows, r.l.length ≤ 140737488351232) (hB : B ≤ w.heap.size) (hr : RdR w B A rows) :
    Calls Try.prog 24 #[.slice A m c] w fun e w' => BytesErr w.heap.size (putJ (rows.map (·.l))) e w' ∧ Below w.heap.size w w' := by
  subst hm
  have hlI : (rows.length : Int) ≤ 1000 := by omega
  have Hls := Lib.hid hls
  have HB := Lib.hid hB
  have Hml := Lib.hid hml
  obtain ⟨pb, pe, hP⟩ : ∃ pb pe, Hid (putJ (rows.map (·.l)) = (pb, pe)) := ⟨_, _, rfl⟩
  rw [hP.out]
  obtain ⟨i0, hi0, hz0, hz1, hz2⟩ := info_parts frSl1.2
  have hmk : ∀ w : World, (Instr.makeSlice 68 (.int .i64 0) (.int .i64 (rows.length : Int))).run Try.prog w = .ok (.slice (some ⟨w.heap.size, 0, none⟩) 0 rows.length) (w.alloc (.cells (madeCells (Value.agg #[.int .u8 0, .slice none 0 0]).cells (rows.length * i0.size)) 58)) := run_make_rowN (P := Try.prog) 68 58 i0 _ Try.underlying68 hi0 hz0 .i64 .i64 0 rows.length (by omega) (by rw [hz2]; omega) (by omega)
  rw [hz1] at hmk
  obtain ⟨Z, hZ⟩ : ∃ Z, madeCells (Value.agg #[.int .u8 0, .slice none 0 0]).cells (rows.length * 2) = Z := ⟨_, rfl⟩
  have hZs : Hid (Z.size = rows.length * 2) := by rw [← hZ]; show _ = _; simp [madeCells]
  rw [hZ] at hmk
  have hown0 : Hid ((w.alloc (.cells Z 58)).ownsRow w.heap.size 58 2 (.slice (some ⟨w.heap.size, 0, none⟩) 0 rows.length) 0 []) := World.ownsRow_made w (e := 58) (size := 2) (base := w.heap.size) Z rows.length (Nat.le_refl _) (by simp only [maxLen]; omega) hZs.out
  have hb0 : Hid (Below w.heap.size w (w.alloc (.cells Z 58))) := below_new _ _
  clear hls hB hml hi0 hz0 hz1 hz2 hZ hZs
  go_enter Try.func24, Try.ntmps24
  go_wp2
  clear hmk
  go_loopw [4, 12] (fun v i wr => ∃ k : Nat, k ≤ rows.length ∧ i = .int .i64 (k : Int) ∧ wr.ownsRow w.heap.size 58 2 v k (fcells ((rows.take k).map frJ)) ∧ Below w.heap.size w wr) (fun _ i _ => rows.length - (intOf i).toNat)
  case atStart => exact ⟨0, by omega, rfl, hown0.out, hb0.out⟩
  case round =>
    obtain ⟨k, hk, rfl, hown, hb⟩ := hrel
    by_cases hlt : k < rows.length
    · obtain ⟨ad, r, rfl, _, hc1, hx, hrow⟩ := (hr.below (hb.mono HB.out)).at_ hlt
      have hkI : (k : Int) < (rows.length : Int) := by omega
      have Hown := Lib.hid hown
      have Hb := Lib.hid hb
      obtain ⟨q, hq⟩ : ∃ q, Hid (rows.take k = q) := ⟨_, rfl⟩
      have hql : Hid (q.length = k) := by rw [← hq.out, List.length_take]; show _ = _; omega
      have hO1 := Hown.out
      rw [hq.out] at hO1
      have hqk : k = q.length := hql.out.symm
      have Hown' := Lib.hid (hqk ▸ hO1)
      clear hO1 hqk
      have Hlen := Lib.hid (show q.length ≤ 1099511627776 by rw [hql.out]; have := Hml.out; omega)
      have Hsn := Lib.hid (take_snoc hx)
      clear hown hb hrow
      go_wp2_with (at_builtin; refine push_head9 (.tmp 16) (.tmp 19) r Hown'.out Hb.out.size Hlen.out rfl rfl rfl rfl rfl ?_; intro v2 w2 hO2 hb2; rw [hql.out, ← hq.out] at hO2)
      go_roundw
      case rel => exact ⟨k + 1, by omega, by go_num, by rw [Hsn.out]; exact hO2, Hb.out.trans hb2⟩
      case measure => simp [intOf]; omega
    · obtain rfl : k = rows.length := by omega
      rw [List.take_length] at hown
      obtain ⟨A2, c2, rfl, _, _, hR0⟩ := own_form hown
      have hR : RdF wr wr.heap.size A2 (rows.map frJ) := ⟨by rw [List.length_map]; exact hR0, fun f hf => by
        rw [List.mem_map] at hf
        obtain ⟨r, hr', rfl⟩ := hf
        exact Reads.more (Reads.below (hr.row r hr') (hb.mono HB.out)) (Nat.le_trans HB.out hb.size)⟩
      have hj := (join_any A2 c2 (rows.map frJ) wr (by rw [List.length_map]; exact Hml.out) (by intro f hf; rw [List.mem_map] at hf; obtain ⟨r, hr', rfl⟩ := hf; exact Hls.out r hr') hR)
      rw [List.length_map, fks_frJ, show joinF ((rows.map (·.l)).map fun m => (9, m)) = (pb, pe) from hP.out] at hj
      have HJ := Lib.hid hj
      have Hb := Lib.hid hb
      clear hown hb hR hR0 hj
      go_wp2_with (go_at_call 35; refine HJ.out.mono ?_; rintro e w3 ⟨⟨v3, rfl, hown3⟩, hb3⟩; have Hown3 := Lib.hid hown3; have Hb3 := Lib.hid hb3; clear hown3 hb3)
      go_ret2
      exact ⟨⟨_, rfl, own_mono Hown3.out Hb.out.size⟩, Hb.out.trans (Hb3.out.mono Hb.out.size)⟩
end Go.Proofs.Ytogoaihimepboaa
