/- One edit taken: the program's take. Conditions: bytes of at most 2^40. -/
import Derived.Test.YtohgghaooppcoaaDlJ
import Derived.Test.YtohgghaooppcoaaTakeB
namespace Go.Proofs.Ytohgghaooppcoaa
open Go.RowKit Go.Lib

theorem ret_agg3 {fn : Func} {R : Ending → World → Prop} {p u v : Tmp} {ty : TypeId} {m : Nat} (h : fn.results = #[.cell p ty, .tmp u, .tmp v]) (hty : AggTy ty m) {a : Act} {w : World} (g : Nat) (cs : Array Value) (t : TypeId) (fr : Nat × Nat) (hm : cs.size = m)
    (hp : a.tmps.getD p undef = .pointer (some ⟨g, 0, none⟩)) (hg : w.heap[g]? = some (.cells cs t fr)) (hd : a.defers = []) (hR : R (.returned (.tuple #[.agg cs, a.tmps.getD u undef, a.tmps.getD v undef])) w) : bodyPost Try.prog fn R .ret a w := by
  refine bodyPost_ret (v := .tuple #[.agg cs, a.tmps.getD u undef, a.tmps.getD v undef]) ?_ hd hR
  have hp' : a.tmps[p]?.getD undef = .pointer (some ⟨g, 0, none⟩) := by simpa using hp
  simp [results, h, hp', asAddr, hty w g t cs fr hm hg]
/-- take's answer. -/
def TkVal (l : List UInt8) (p : Nat) (e : Ending) : Prop := ∃ (x : Ed) (nx : Int), e = .returned (.tuple #[x.v, .int .i64 nx, .int .i64 (((tkE l p).2.2 : Nat) : Int)]) ∧ ((tkE l p).2.2 = 0 → x = (tkE l p).1 ∧ nx = (tkE l p).2.1)
theorem tkE_two {l : List UInt8} {p : Nat} {k : UInt8} {s : List UInt8} {nx : Int} {e : Nat} (h : l[p]?.getD 0 = k) (h2 : k = 2) (ht : takeText l ((p : Int) + 1) = (s, nx, e)) : tkE l p = (⟨k, 0, s⟩, nx, if e = 0 ∧ rt ⟨k, 0, s⟩ = false then 2 else e) := by
  subst h2
  unfold tkE
  rw [if_pos h, ht]
theorem tkv_ok {l : List UInt8} {p : Nat} {x : Ed} {nx : Int} {e : Nat} (h : tkE l p = (x, nx, e)) {v a b : Value} (hv : v = x.v) (ha : a = .int .i64 nx) (hb : b = .int .i64 (e : Int)) : TkVal l p (.returned (.tuple #[v, a, b])) := by
  subst hv ha hb
  refine ⟨x, nx, ?_, fun _ => ?_⟩
  · rw [h]
  · rw [h]; exact ⟨rfl, rfl⟩
theorem tkv_no {l : List UInt8} {p e : Nat} (h : (tkE l p).2.2 = e) (he : e ≠ 0) (x : Ed) (n : Int) {v a b : Value} (hv : v = x.v) (ha : a = .int .i64 n) (hb : b = .int .i64 (e : Int)) : TkVal l p (.returned (.tuple #[v, a, b])) := by
  subst hv ha hb
  exact ⟨x, n, by rw [h], fun h0 => absurd (h ▸ h0) he⟩
theorem tkE_num {l : List UInt8} {p n : Nat} {nx : Int} {e : Nat} {k : UInt8} (hk : l[p]?.getD 0 = k) (h2 : k ≠ 2) (h : k = 1 ∨ k = 3) (ht : take l ((p : Int) + 1) = (n, nx, e)) : tkE l p = (⟨k, min (n : Int) 2147483648, []⟩, nx, if e = 0 ∧ rt ⟨k, min (n : Int) 2147483648, []⟩ = false then 2 else e) := by
  have hm : ((min n 2147483648 : Nat) : Int) = min (n : Int) 2147483648 := by omega
  unfold tkE
  rw [hk, if_neg h2, if_pos h, ht]
  simp only
  rw [hm]
theorem tkE_kind {l : List UInt8} {p : Nat} {k : UInt8} (hk : l[p]?.getD 0 = k) (h1 : k ≠ 1) (h2 : k ≠ 2) (h3 : k ≠ 3) : (tkE l p).2.2 = 60 := by
  unfold tkE
  rw [hk, if_neg h2, if_neg (by simp [h1, h3])]
theorem takeText_is {l : List UInt8} {A : Option Addr} {c B : Nat} {p : Int} {s : List UInt8} {nx : Int} {e : Nat} (ht : Hid (takeText l p = (s, nx, e))) (w : World) (hl : l.length ≤ 1099511627776) (hcap : l.length ≤ c) (hr : RdB w B A l) :
    Calls Try.prog 51 #[.slice A l.length c, .int .i64 p] w fun e' w' => e' = .returned (.tuple #[.string (txt s), .int .i64 nx, .int .i64 (e : Int)]) ∧ w = w' := by
  have := takeText_any A c B l p w (by omega) hcap hr
  rw [ht.out] at this
  exact this
theorem take_is {l : List UInt8} {A : Option Addr} {c B : Nat} {p : Int} {n : Nat} {nx : Int} {e : Nat} (ht : Hid (take l p = (n, nx, e))) (w : World) (hl : l.length ≤ 1099511627776) (hcap : l.length ≤ c) (hr : RdB w B A l) :
    Calls Try.prog 52 #[.slice A l.length c, .int .i64 p] w fun e' w' => e' = .returned (.tuple #[.int .u64 (n : Int), .int .i64 nx, .int .i64 (e : Int)]) ∧ w = w' := by
  have := take_any A c B l p w (by omega) hcap hr
  rw [ht.out] at this
  exact this
theorem zero_or (e : Nat) : e = 0 ∨ 0 < e := by omega
set_option maxHeartbeats 2000000 in
set_option maxRecDepth 100000 in
theorem etake_any (A : Option Addr) (c B : Nat) (l : List UInt8) (p : Nat) (w : World) (hl : l.length ≤ 1099511627776) (hcap : l.length ≤ c) (hp : p < l.length) (hB : B ≤ w.heap.size) (hr : RdB w B A l) :
    Calls Try.prog 42 #[.slice A l.length c, .int .i64 (p : Int)] w fun e w' => TkVal l p e ∧ Below w.heap.size w w' := by
  have hlen : (l.length : Int) ≤ 1099511627776 := by omega
  have Hl := Lib.hid hl
  have Hcap := Lib.hid hcap
  have HB := Lib.hid hB
  obtain ⟨ad, k, rfl, had, hc, hk⟩ := RdB.at_ hr hp
  have Hk := Lib.hid (show l[p]?.getD 0 = k by rw [hk.out]; rfl)
  have Hr : Hid (RdB w B (some ad) l) := hr
  have hpI : (p : Int) < (l.length : Int) := by omega
  have hc1 : (w.alloc (.cells #[.int .u8 0, .int .i64 0, .string ⟨#[]⟩] 47)).cell? (ad.add p) = some (.int .u8 (k.toNat : Int)) := (World.cell?_alloc_lt w _ (ad.add p) (by rw [block_of_add]; omega)).trans hc
  clear hl hcap hB hr
  by_cases h2 : k = 2
  · obtain ⟨g1, g2, g3⟩ := is2 h2
    obtain ⟨s, nx, e, ht⟩ : ∃ s nx e, Hid (takeText l ((p : Int) + 1) = (s, nx, e)) := ⟨_, _, _, rfl⟩
    have Htk := Lib.hid (tkE_two Hk.out h2 ht.out)
    clear h2
    have hbw := (Below.refl w.heap.size w).alloc (Nat.le_refl _) (.cells #[.int .u8 (k.toNat : Int), .int .i64 0, .string (txt s)] 47)
    rcases zero_or e with he | he
    · subst he
      rcases hid_bool (rt ⟨k, 0, s⟩) with hrt | hrt
      · have Hv := Lib.hid (show tkE l p = (⟨k, 0, s⟩, nx, 0) by rw [Htk.out, if_neg (by rw [hrt.out]; simp)])
        go_enter Try.func42, Try.ntmps42
        go_wp2_with (first
          | (go_at_call 51; refine (takeText_is (B := B) ht _ Hl.out Hcap.out (Reads.alloc Hr.out HB.out _)).mono ?_; rintro e' w2 ⟨rfl, rfl⟩)
          | (go_at_call 34; refine (right_is ⟨k, 0, s⟩ true hrt _).mono ?_; rintro e' w3 ⟨rfl, hb3⟩; have hbx := (hb3.block w.heap.size (by simp)).trans (heap_alloc_new w _); obtain ⟨d0, d1, d2, f0, f1, f2, hz⟩ := box_cells hbx; have hbb := hbw.trans (hb3.mono (by simp))))
        refine ret_agg3 rfl ed1Ty w.heap.size _ _ _ rfl rfl (box_set2 (box_set1 (box_set0 hbx))) rfl ⟨tkv_ok Hv.out rfl rfl rfl, ?_⟩
        exact ((hbb.setCell (p := ⟨w.heap.size, 0, none⟩) (Nat.le_refl _) _).setCell (p := ⟨w.heap.size, 1, none⟩) (Nat.le_refl _) _).setCell (p := ⟨w.heap.size, 2, none⟩) (Nat.le_refl _) _
      · have Hv := Lib.hid (show tkE l p = (⟨k, 0, s⟩, nx, 2) by rw [Htk.out, if_pos ⟨rfl, hrt.out⟩])
        go_enter Try.func42, Try.ntmps42
        go_wp2_with (first
          | (go_at_call 51; refine (takeText_is (B := B) ht _ Hl.out Hcap.out (Reads.alloc Hr.out HB.out _)).mono ?_; rintro e' w2 ⟨rfl, rfl⟩)
          | (go_at_call 34; refine (right_is ⟨k, 0, s⟩ false hrt _).mono ?_; rintro e' w3 ⟨rfl, hb3⟩; have hbx := (hb3.block w.heap.size (by simp)).trans (heap_alloc_new w _); obtain ⟨d0, d1, d2, f0, f1, f2, hz⟩ := box_cells hbx; have hbb := hbw.trans (hb3.mono (by simp))))
        refine ret_agg3 rfl ed1Ty w.heap.size _ _ _ rfl rfl (box_set2 (box_set1 (box_set0 hbx))) rfl ⟨tkv_ok Hv.out rfl rfl rfl, ?_⟩
        exact ((hbb.setCell (p := ⟨w.heap.size, 0, none⟩) (Nat.le_refl _) _).setCell (p := ⟨w.heap.size, 1, none⟩) (Nat.le_refl _) _).setCell (p := ⟨w.heap.size, 2, none⟩) (Nat.le_refl _) _
    · have Hv := Lib.hid (show tkE l p = (⟨k, 0, s⟩, nx, e) by rw [Htk.out, if_neg (by omega)])
      have he0 : ¬ ((e : Int) = 0) := by omega
      have heb : ((e : Int) == 0) = false := by simpa using he0
      have heN : ¬ e = 0 := by omega
      clear he
      go_enter Try.func42, Try.ntmps42
      go_wp2_with (go_at_call 51; refine (takeText_is (B := B) ht _ Hl.out Hcap.out (Reads.alloc Hr.out HB.out _)).mono ?_; rintro e' w2 ⟨rfl, rfl⟩)
      refine ret_agg3 rfl ed1Ty w.heap.size _ _ _ rfl rfl (heap_alloc_new w _) rfl ⟨tkv_ok Hv.out rfl rfl rfl, ?_⟩
      exact hbw
  · obtain ⟨g1, g2, g3⟩ := not2 h2
    by_cases h13 : k = 1 ∨ k = 3
    · obtain ⟨n, nx, e, ht⟩ : ∃ n nx e, Hid (take l ((p : Int) + 1) = (n, nx, e)) := ⟨_, _, _, rfl⟩
      have Htk := Lib.hid (tkE_num Hk.out h2 h13 ht.out)
      have hlt := take_lt l ((p : Int) + 1)
      rw [ht.out] at hlt
      have hnI : (n : Int) ≤ 18446744073709551615 := by simp only at hlt; omega
      clear hlt
      rcases h13 with h1 | h3
      · obtain ⟨g4, g5, g6⟩ := is1 h1
        clear h2 h1
        have hbw := (Below.refl w.heap.size w).alloc (Nat.le_refl _) (.cells #[.int .u8 (k.toNat : Int), .int .i64 (min (n : Int) 2147483648), .string ⟨#[]⟩] 47)
        rcases zero_or e with he | he
        · subst he
          rcases hid_bool (rt ⟨k, min (n : Int) 2147483648, []⟩) with hrt | hrt
          · have Hv := Lib.hid (show tkE l p = (⟨k, min (n : Int) 2147483648, []⟩, nx, 0) by rw [Htk.out, if_neg (by rw [hrt.out]; simp)])
            go_enter Try.func42, Try.ntmps42
            go_wp2_with (first
              | (go_at_call 52; refine (take_is (B := B) ht _ Hl.out Hcap.out (Reads.alloc Hr.out HB.out _)).mono ?_; rintro e' w2 ⟨rfl, rfl⟩)
              | (go_at_call 34; refine (right_is ⟨k, min (n : Int) 2147483648, []⟩ true hrt _).mono ?_; rintro e' w3 ⟨rfl, hb3⟩; have hbx := (hb3.block w.heap.size (by simp)).trans (heap_alloc_new w _); obtain ⟨d0, d1, d2, f0, f1, f2, hz⟩ := box_cells hbx; have hbb := hbw.trans (hb3.mono (by simp))))
            refine ret_agg3 rfl ed1Ty w.heap.size _ _ _ rfl rfl (box_set2 (box_set1 (box_set0 hbx))) rfl ⟨tkv_ok Hv.out rfl rfl rfl, ?_⟩
            exact ((hbb.setCell (p := ⟨w.heap.size, 0, none⟩) (Nat.le_refl _) _).setCell (p := ⟨w.heap.size, 1, none⟩) (Nat.le_refl _) _).setCell (p := ⟨w.heap.size, 2, none⟩) (Nat.le_refl _) _
          · have Hv := Lib.hid (show tkE l p = (⟨k, min (n : Int) 2147483648, []⟩, nx, 2) by rw [Htk.out, if_pos ⟨rfl, hrt.out⟩])
            go_enter Try.func42, Try.ntmps42
            go_wp2_with (first
              | (go_at_call 52; refine (take_is (B := B) ht _ Hl.out Hcap.out (Reads.alloc Hr.out HB.out _)).mono ?_; rintro e' w2 ⟨rfl, rfl⟩)
              | (go_at_call 34; refine (right_is ⟨k, min (n : Int) 2147483648, []⟩ false hrt _).mono ?_; rintro e' w3 ⟨rfl, hb3⟩; have hbx := (hb3.block w.heap.size (by simp)).trans (heap_alloc_new w _); obtain ⟨d0, d1, d2, f0, f1, f2, hz⟩ := box_cells hbx; have hbb := hbw.trans (hb3.mono (by simp))))
            refine ret_agg3 rfl ed1Ty w.heap.size _ _ _ rfl rfl (box_set2 (box_set1 (box_set0 hbx))) rfl ⟨tkv_ok Hv.out rfl rfl rfl, ?_⟩
            exact ((hbb.setCell (p := ⟨w.heap.size, 0, none⟩) (Nat.le_refl _) _).setCell (p := ⟨w.heap.size, 1, none⟩) (Nat.le_refl _) _).setCell (p := ⟨w.heap.size, 2, none⟩) (Nat.le_refl _) _
        · have Hv := Lib.hid (show tkE l p = (⟨k, min (n : Int) 2147483648, []⟩, nx, e) by rw [Htk.out, if_neg (by omega)])
          have he0 : ¬ ((e : Int) = 0) := by omega
          have heb : ((e : Int) == 0) = false := by simpa using he0
          have heN : ¬ e = 0 := by omega
          clear he
          go_enter Try.func42, Try.ntmps42
          go_wp2_with (go_at_call 52; refine (take_is (B := B) ht _ Hl.out Hcap.out (Reads.alloc Hr.out HB.out _)).mono ?_; rintro e' w2 ⟨rfl, rfl⟩)
          refine ret_agg3 rfl ed1Ty w.heap.size _ _ _ rfl rfl (heap_alloc_new w _) rfl ⟨tkv_ok Hv.out rfl rfl rfl, ?_⟩
          exact hbw
      · obtain ⟨g4, g5, g6⟩ := is3 h3
        obtain ⟨g7, g8, g9⟩ := not1 (k := k) (by rw [h3]; decide)
        clear h2 h3
        have hbw := (Below.refl w.heap.size w).alloc (Nat.le_refl _) (.cells #[.int .u8 (k.toNat : Int), .int .i64 (min (n : Int) 2147483648), .string ⟨#[]⟩] 47)
        rcases zero_or e with he | he
        · subst he
          rcases hid_bool (rt ⟨k, min (n : Int) 2147483648, []⟩) with hrt | hrt
          · have Hv := Lib.hid (show tkE l p = (⟨k, min (n : Int) 2147483648, []⟩, nx, 0) by rw [Htk.out, if_neg (by rw [hrt.out]; simp)])
            go_enter Try.func42, Try.ntmps42
            go_wp2_with (first
              | (go_at_call 52; refine (take_is (B := B) ht _ Hl.out Hcap.out (Reads.alloc Hr.out HB.out _)).mono ?_; rintro e' w2 ⟨rfl, rfl⟩)
              | (go_at_call 34; refine (right_is ⟨k, min (n : Int) 2147483648, []⟩ true hrt _).mono ?_; rintro e' w3 ⟨rfl, hb3⟩; have hbx := (hb3.block w.heap.size (by simp)).trans (heap_alloc_new w _); obtain ⟨d0, d1, d2, f0, f1, f2, hz⟩ := box_cells hbx; have hbb := hbw.trans (hb3.mono (by simp))))
            refine ret_agg3 rfl ed1Ty w.heap.size _ _ _ rfl rfl (box_set2 (box_set1 (box_set0 hbx))) rfl ⟨tkv_ok Hv.out rfl rfl rfl, ?_⟩
            exact ((hbb.setCell (p := ⟨w.heap.size, 0, none⟩) (Nat.le_refl _) _).setCell (p := ⟨w.heap.size, 1, none⟩) (Nat.le_refl _) _).setCell (p := ⟨w.heap.size, 2, none⟩) (Nat.le_refl _) _
          · have Hv := Lib.hid (show tkE l p = (⟨k, min (n : Int) 2147483648, []⟩, nx, 2) by rw [Htk.out, if_pos ⟨rfl, hrt.out⟩])
            go_enter Try.func42, Try.ntmps42
            go_wp2_with (first
              | (go_at_call 52; refine (take_is (B := B) ht _ Hl.out Hcap.out (Reads.alloc Hr.out HB.out _)).mono ?_; rintro e' w2 ⟨rfl, rfl⟩)
              | (go_at_call 34; refine (right_is ⟨k, min (n : Int) 2147483648, []⟩ false hrt _).mono ?_; rintro e' w3 ⟨rfl, hb3⟩; have hbx := (hb3.block w.heap.size (by simp)).trans (heap_alloc_new w _); obtain ⟨d0, d1, d2, f0, f1, f2, hz⟩ := box_cells hbx; have hbb := hbw.trans (hb3.mono (by simp))))
            refine ret_agg3 rfl ed1Ty w.heap.size _ _ _ rfl rfl (box_set2 (box_set1 (box_set0 hbx))) rfl ⟨tkv_ok Hv.out rfl rfl rfl, ?_⟩
            exact ((hbb.setCell (p := ⟨w.heap.size, 0, none⟩) (Nat.le_refl _) _).setCell (p := ⟨w.heap.size, 1, none⟩) (Nat.le_refl _) _).setCell (p := ⟨w.heap.size, 2, none⟩) (Nat.le_refl _) _
        · have Hv := Lib.hid (show tkE l p = (⟨k, min (n : Int) 2147483648, []⟩, nx, e) by rw [Htk.out, if_neg (by omega)])
          have he0 : ¬ ((e : Int) = 0) := by omega
          have heb : ((e : Int) == 0) = false := by simpa using he0
          have heN : ¬ e = 0 := by omega
          clear he
          go_enter Try.func42, Try.ntmps42
          go_wp2_with (go_at_call 52; refine (take_is (B := B) ht _ Hl.out Hcap.out (Reads.alloc Hr.out HB.out _)).mono ?_; rintro e' w2 ⟨rfl, rfl⟩)
          refine ret_agg3 rfl ed1Ty w.heap.size _ _ _ rfl rfl (heap_alloc_new w _) rfl ⟨tkv_ok Hv.out rfl rfl rfl, ?_⟩
          exact hbw
    · obtain ⟨g4, g5, g6⟩ := not1 (fun h => h13 (.inl h))
      obtain ⟨g7, g8, g9⟩ := not3 (fun h => h13 (.inr h))
      have Hv := Lib.hid (tkE_kind Hk.out (fun h => h13 (.inl h)) h2 (fun h => h13 (.inr h)))
      have hbw := (Below.refl w.heap.size w).alloc (Nat.le_refl _) (.cells #[.int .u8 (k.toNat : Int), .int .i64 0, .string ⟨#[]⟩] 47)
      clear h2 h13
      go_enter Try.func42, Try.ntmps42
      go_wp2
      refine ret_agg3 rfl ed1Ty w.heap.size _ _ _ rfl rfl (heap_alloc_new w _) rfl ⟨tkv_no Hv.out (by decide) ⟨k, 0, []⟩ 0 rfl rfl rfl, ?_⟩
      exact hbw
end Go.Proofs.Ytohgghaooppcoaa
