/- The walk of the chapter's examples (works): they hold. Conditions: none. -/
import Derived.Test.YtohgghaooppcoaaDlR
import Derived.Test.YtohgghaooppcoaaDlM
namespace Go.Proofs.Ytohgghaooppcoaa
open Go.RowKit Go.Lib

theorem on_ {w w' : World} {s n : Nat} {A : Option Addr} {xs : List Value} (h : Hid (Reads w w.heap.size s A n xs)) (hb : Below w.heap.size w w') : Hid (Reads w' w'.heap.size s A n xs) :=
  Reads.more (Reads.below h.out hb) hb.size
theorem lit_reads (w : World) (t : TypeId) {cs : Array Value} {l : List Ed} (h : cs = (ecells l).toArray) : RdE (w.alloc (.cells cs t)) (w.alloc (.cells cs t)).heap.size (some ⟨w.heap.size, 0, none⟩) l := by
  subst h
  exact (RdE.new w l t).more (by simp)
section
variable (w : World) {cs : Array Value} (l : List Ed) {n : Nat}
theorem up_lit (o : Obj) {w' : World} (h : Below (w.alloc o).heap.size (w.alloc o) w') : Below w.heap.size w w' := ((Below.refl _ w).alloc (Nat.le_refl _) o).trans (h.mono (by simp))
theorem apply_lit (base : List UInt8) (V : Value) (hcs : cs = (ecells l).toArray) (hn : l.length = n) (hV : appVal base l = V) (hb : base.length ≤ 70368744177664) (hl : n ≤ 16384) (hok : Oks l) :
    Calls Try.prog 11 #[.string (txt base), .slice (some ⟨w.heap.size, 0, none⟩) n n] (w.alloc (.cells cs 47)) fun e w' => e = .returned V ∧ Below w.heap.size w w' := by
  subst hn hV
  exact (apply_any base _ _ _ l _ hb hl hok (Nat.le_refl _) (lit_reads w _ hcs)).mono fun _ _ ⟨h, hb⟩ => ⟨h, up_lit w _ hb⟩
theorem normal_lit (r : List Ed) (m : Nat) (hm : r.length = m) (hcs : cs = (ecells l).toArray) (hn : l.length = n) (hE : nrmE l = 0) (hr : nrmL l = r) (hl : n ≤ 900) (hok : Oks l) :
    Calls Try.prog 15 #[.slice (some ⟨w.heap.size, 0, none⟩) n n] (w.alloc (.cells cs 47)) fun e w' => (∃ A c, e = .returned (.tuple #[.slice A m c, .int .i64 0]) ∧ Hid (RdE w' w'.heap.size A r)) ∧ Below w.heap.size w w' := by
  subst hn hr hm
  refine (normal_any _ _ _ l _ hl hok (Nat.le_refl _) (lit_reads w _ hcs)).mono ?_
  rintro _ w' ⟨⟨v, rfl, hown⟩, hb⟩
  obtain ⟨A, c, rfl, _, _, hr⟩ := hown.reads
  rw [hE]
  exact ⟨⟨A, c, rfl, hr⟩, up_lit w _ hb⟩
theorem put_lit (r : List UInt8) (m : Nat) (hm : r.length = m) (hcs : cs = (ecells l).toArray) (hn : l.length = n) (hE : putE l = 0) (hr : putB l = r) (hl : n ≤ 1000) (hok : Oks l) :
    Calls Try.prog 17 #[.slice (some ⟨w.heap.size, 0, none⟩) n n] (w.alloc (.cells cs 47)) fun e w' => (∃ A c, e = .returned (.tuple #[.slice A m c, .int .i64 0]) ∧ Hid (RdB w' w'.heap.size A r)) ∧ Below w.heap.size w w' := by
  subst hn hr hm
  refine (dput_any _ _ _ l _ hl hok (Nat.le_refl _) (lit_reads w _ hcs)).mono ?_
  rintro _ w' ⟨⟨v, rfl, hown⟩, hb⟩
  obtain ⟨A, c, rfl, _, _, hr⟩ := own_form hown
  rw [hE]
  exact ⟨⟨A, c, rfl, hr⟩, up_lit w _ hb⟩
theorem refs_lit (hcs : cs = (ecells l).toArray) (hn : l.length = n) (hl : n ≤ 1000000000) :
    Calls Try.prog 10 #[.slice (some ⟨w.heap.size, 0, none⟩) n n] (w.alloc (.cells cs 47)) fun e w' => (∃ A c, e = .returned (.slice A n c) ∧ Hid (RdE w' w'.heap.size A l)) ∧ Below w.heap.size w w' := by
  subst hn
  refine (refs_any _ _ _ l _ hl (Nat.le_refl _) (lit_reads w _ hcs)).mono ?_
  rintro _ w' ⟨⟨v, rfl, hown⟩, hb⟩
  obtain ⟨A, c, rfl, _, _, hr⟩ := hown.reads
  exact ⟨⟨A, c, rfl, hr⟩, up_lit w _ hb⟩
theorem same_lit (A A' : Option Addr) (c c' : Nat) (m : List Ed) (hn : l.length = n) (hm : m.length = n) (he : l = m) (hl : n ≤ 1099511627776) (hr : Hid (RdE w w.heap.size A l)) (hr' : Hid (RdE w w.heap.size A' m)) :
    Calls Try.prog 19 #[.slice A n c, .slice A' n c'] w fun e w' => e = .returned (.bool true) ∧ Below w.heap.size w w' := by
  subst he hn
  have h := same_any A A' c c' _ _ l l w hl hl (Nat.le_refl _) (Nat.le_refl _) hr.out hr'.out
  rw [decide_eq_true rfl] at h
  exact h
theorem diff_lit (a b : List UInt8) (hn : l.length = n) (hd : dif a b = l) (ha : a.length ≤ 1099511627776) (hb : b.length ≤ 1099511627776) :
    Calls Try.prog 26 #[.string (txt a), .string (txt b)] w fun e w' => (∃ A c, e = .returned (.slice A n c) ∧ Hid (RdE w' w'.heap.size A l)) ∧ Below w.heap.size w w' := by
  subst hd hn
  refine (diff_any a b w ha hb).mono ?_
  rintro _ w' ⟨v, rfl, hown, hb⟩
  obtain ⟨A, c, rfl, _, _, hr⟩ := hown.reads
  exact ⟨⟨A, c, rfl, hr⟩, hb⟩
theorem samebytes_lit (A : Option Addr) (c : Nat) (b : List UInt8) (hcs : cs = (bs b).toArray) (hn : b.length = n) (hl : n ≤ 140737488351232) (hr : Hid (RdB w w.heap.size A b)) :
    Calls Try.prog 20 #[.slice A n c, .slice (some ⟨w.heap.size, 0, none⟩) n n] (w.alloc (.cells cs 5)) fun e w' => e = .returned (.bool true) ∧ Below w.heap.size w w' := by
  subst hcs hn
  have h1 : RdB (w.alloc (.cells (bs b).toArray 5)) (w.heap.size + 1) (some ⟨w.heap.size, 0, none⟩) b := by
    have := reads_new w 5 (bs b)
    rw [bs_len] at this
    exact this
  refine (sameBytes_any A _ c _ w.heap.size _ b b _ hl (Reads.alloc hr.out (Nat.le_refl _) _) h1).mono ?_
  rintro _ w' ⟨rfl, k, rfl⟩
  rw [decide_eq_true rfl]
  exact ⟨rfl, below_drewN ((Below.refl _ w).alloc (Nat.le_refl _) _) k⟩
theorem retain_lit (n : Int) : Calls Try.prog 28 #[.int .i64 n] w fun e w' => e = .returned (.agg #[.int .u8 1, .int .i64 n, .string ⟨#[]⟩]) ∧ Below w.heap.size w w' := retain_any n w
theorem drop_lit (n : Int) : Calls Try.prog 30 #[.int .i64 n] w fun e w' => e = .returned (.agg #[.int .u8 3, .int .i64 n, .string ⟨#[]⟩]) ∧ Below w.heap.size w w' := drop_any n w
theorem insert_lit (s : ByteArray) : Calls Try.prog 29 #[.string s] w fun e w' => e = .returned (.agg #[.int .u8 2, .int .i64 0, .string s]) ∧ Below w.heap.size w w' := by
  have h := insert_any s.data.toList w
  rw [txt_toList] at h
  refine h.mono ?_
  rintro _ w' ⟨rfl, hb⟩
  refine ⟨?_, hb⟩
  unfold Ed.v
  rw [txt_toList]
  rfl
end
def w1L : List Ed := [⟨1, 1, []⟩, ⟨3, 3, []⟩, ⟨2, 0, [105, 112, 112]⟩, ⟨1, 1, []⟩]
def w3L : List Ed := [⟨1, 1, []⟩, ⟨3, 3, []⟩, ⟨2, 0, [105, 112, 112]⟩]
def w4L : List Ed := [⟨1, 1, []⟩, ⟨3, 1, []⟩, ⟨2, 0, [97]⟩, ⟨1, 2, []⟩, ⟨1, 1, []⟩]
def w4R : List Ed := [⟨1, 1, []⟩, ⟨2, 0, [97]⟩, ⟨3, 1, []⟩, ⟨1, 3, []⟩]
def w5L : List Ed := [⟨1, 5, []⟩, ⟨2, 0, [97, 98]⟩]
def w6L : List Ed := [⟨1, 1, []⟩, ⟨2, 0, [105, 112, 112]⟩, ⟨3, 3, []⟩, ⟨1, 1, []⟩]
def w7L : List Ed := [⟨1, 2, []⟩, ⟨2, 0, [97]⟩]
theorem w1LC : (#[.int .u8 1, .int .i64 1, .string ⟨#[]⟩, .int .u8 3, .int .i64 3, .string ⟨#[]⟩, .int .u8 2, .int .i64 0, .string ⟨#[105, 112, 112]⟩, .int .u8 1, .int .i64 1, .string ⟨#[]⟩] : Array Value) = (ecells w1L).toArray := rfl
theorem w3LC : (#[.int .u8 1, .int .i64 1, .string ⟨#[]⟩, .int .u8 3, .int .i64 3, .string ⟨#[]⟩, .int .u8 2, .int .i64 0, .string ⟨#[105, 112, 112]⟩] : Array Value) = (ecells w3L).toArray := rfl
theorem w4LC : (#[.int .u8 1, .int .i64 1, .string ⟨#[]⟩, .int .u8 3, .int .i64 1, .string ⟨#[]⟩, .int .u8 2, .int .i64 0, .string ⟨#[97]⟩, .int .u8 1, .int .i64 2, .string ⟨#[]⟩, .int .u8 1, .int .i64 1, .string ⟨#[]⟩] : Array Value) = (ecells w4L).toArray := rfl
theorem w4RC : (#[.int .u8 1, .int .i64 1, .string ⟨#[]⟩, .int .u8 2, .int .i64 0, .string ⟨#[97]⟩, .int .u8 3, .int .i64 1, .string ⟨#[]⟩, .int .u8 1, .int .i64 3, .string ⟨#[]⟩] : Array Value) = (ecells w4R).toArray := rfl
theorem w5LC : (#[.int .u8 1, .int .i64 5, .string ⟨#[]⟩, .int .u8 2, .int .i64 0, .string ⟨#[97, 98]⟩] : Array Value) = (ecells w5L).toArray := rfl
theorem w6LC : (#[.int .u8 1, .int .i64 1, .string ⟨#[]⟩, .int .u8 2, .int .i64 0, .string ⟨#[105, 112, 112]⟩, .int .u8 3, .int .i64 3, .string ⟨#[]⟩, .int .u8 1, .int .i64 1, .string ⟨#[]⟩] : Array Value) = (ecells w6L).toArray := rfl
theorem w7LC : (#[.int .u8 1, .int .i64 2, .string ⟨#[]⟩, .int .u8 2, .int .i64 0, .string ⟨#[97]⟩] : Array Value) = (ecells w7L).toArray := rfl
theorem w8C : (#[.int .u8 1, .int .u8 5, .int .u8 2, .int .u8 2, .int .u8 97, .int .u8 98] : Array Value) = (bs [1, 5, 2, 2, 97, 98]).toArray := rfl
theorem ok_of {l : List Ed} (h : (l.all fun x => decide (-9223372036854775808 ≤ x.n ∧ x.n ≤ 9223372036854775807 ∧ x.s.length ≤ 1099511627)) = true) : Oks l := fun x hx => by
  have := List.all_eq_true.1 h x hx
  simp only [decide_eq_true_eq] at this
  exact ⟨this.1, this.2.1, this.2.2⟩
theorem w1V : appVal [104, 101, 108, 108, 111] w1L = .tuple #[.string ⟨#[104, 105, 112, 112, 111]⟩, .int .i64 0] := by
  unfold appVal
  rw [show appB [104, 101, 108, 108, 111] w1L = [104, 105, 112, 112, 111] by decide +kernel, show appE [104, 101, 108, 108, 111] w1L = 0 by decide +kernel]
  rfl
theorem w2V : appVal [104, 101, 108, 108] w1L = .tuple #[.string ⟨#[]⟩, .int .i64 50] := by
  unfold appVal
  rw [show appB [104, 101, 108, 108] w1L = [] by decide +kernel, show appE [104, 101, 108, 108] w1L = 50 by decide +kernel]
  rfl
theorem w3V : appVal [104, 101, 108, 108, 111] w3L = .tuple #[.string ⟨#[]⟩, .int .i64 50] := by
  unfold appVal
  rw [show appB [104, 101, 108, 108, 111] w3L = [] by decide +kernel, show appE [104, 101, 108, 108, 111] w3L = 50 by decide +kernel]
  rfl
theorem w4E : nrmE w4L = 0 ∧ nrmL w4L = w4R := by decide +kernel
theorem w5E : putE w5L = 0 ∧ putB w5L = [1, 5, 2, 2, 97, 98] := by decide +kernel
theorem w6D : dif [104, 101, 108, 108, 111] [104, 105, 112, 112, 111] = w6L := by decide +kernel
theorem w7D : dif [97, 97] [97, 97, 97] = w7L := by decide +kernel
set_option maxHeartbeats 4000000 in
set_option maxRecDepth 100000 in
theorem works_any (w : World) : Calls Try.prog 9 #[] w fun e w' => e = .returned (.bool true) ∧ Below w.heap.size w w' := by
  have hB := Below.refl w.heap.size w
  go_enter Try.func9, Try.ntmps9
  go_upto_region 2 with (first
    | (go_at_call 28; refine (retain_lit _ _).mono ?_; rintro _ wn ⟨rfl, hbn⟩; replace hB := hB.trans (hbn.mono hB.size); clear hbn)
    | (go_at_call 30; refine (drop_lit _ _).mono ?_; rintro _ wn ⟨rfl, hbn⟩; replace hB := hB.trans (hbn.mono hB.size); clear hbn)
    | (go_at_call 29; refine (insert_lit _ _).mono ?_; rintro _ wn ⟨rfl, hbn⟩; replace hB := hB.trans (hbn.mono hB.size); clear hbn)
    | (go_at_call 11; refine (apply_lit _ w1L [104, 101, 108, 108, 111] _ w1LC rfl w1V (by decide) (by decide) (ok_of (by decide +kernel))).mono ?_; rintro _ wn ⟨rfl, hbn⟩; replace hB := hB.trans (hbn.mono hB.size); clear hbn))
  go_upto_region 3 with (first
    | (go_at_call 28; refine (retain_lit _ _).mono ?_; rintro _ wn ⟨rfl, hbn⟩; replace hB := hB.trans (hbn.mono hB.size); clear hbn)
    | (go_at_call 30; refine (drop_lit _ _).mono ?_; rintro _ wn ⟨rfl, hbn⟩; replace hB := hB.trans (hbn.mono hB.size); clear hbn)
    | (go_at_call 29; refine (insert_lit _ _).mono ?_; rintro _ wn ⟨rfl, hbn⟩; replace hB := hB.trans (hbn.mono hB.size); clear hbn)
    | (go_at_call 11; refine (apply_lit _ w1L [104, 101, 108, 108] _ w1LC rfl w2V (by decide) (by decide) (ok_of (by decide +kernel))).mono ?_; rintro _ wn ⟨rfl, hbn⟩; replace hB := hB.trans (hbn.mono hB.size); clear hbn))
  go_upto_region 4 with (first
    | (go_at_call 28; refine (retain_lit _ _).mono ?_; rintro _ wn ⟨rfl, hbn⟩; replace hB := hB.trans (hbn.mono hB.size); clear hbn)
    | (go_at_call 30; refine (drop_lit _ _).mono ?_; rintro _ wn ⟨rfl, hbn⟩; replace hB := hB.trans (hbn.mono hB.size); clear hbn)
    | (go_at_call 29; refine (insert_lit _ _).mono ?_; rintro _ wn ⟨rfl, hbn⟩; replace hB := hB.trans (hbn.mono hB.size); clear hbn)
    | (go_at_call 11; refine (apply_lit _ w3L [104, 101, 108, 108, 111] _ w3LC rfl w3V (by decide) (by decide) (ok_of (by decide +kernel))).mono ?_; rintro _ wn ⟨rfl, hbn⟩; replace hB := hB.trans (hbn.mono hB.size); clear hbn))
  go_upto_region 5 with (first
    | (go_at_call 28; refine (retain_lit _ _).mono ?_; rintro _ wn ⟨rfl, hbn⟩; replace hB := hB.trans (hbn.mono hB.size); clear hbn)
    | (go_at_call 30; refine (drop_lit _ _).mono ?_; rintro _ wn ⟨rfl, hbn⟩; replace hB := hB.trans (hbn.mono hB.size); clear hbn)
    | (go_at_call 29; refine (insert_lit _ _).mono ?_; rintro _ wn ⟨rfl, hbn⟩; replace hB := hB.trans (hbn.mono hB.size); clear hbn)
    | (go_at_call 15; refine (normal_lit _ w4L w4R 4 rfl w4LC rfl w4E.1 w4E.2 (by decide) (ok_of (by decide +kernel))).mono ?_; rintro _ wn ⟨⟨A4, c4, rfl, hr4⟩, hbn⟩; replace hB := hB.trans (hbn.mono hB.size); clear hbn))
  go_upto_region 6 with (first
    | (go_at_call 28; refine (retain_lit _ _).mono ?_; rintro _ wn ⟨rfl, hbn⟩; replace hB := hB.trans (hbn.mono hB.size); replace hr4 := on_ hr4 hbn; clear hbn)
    | (go_at_call 30; refine (drop_lit _ _).mono ?_; rintro _ wn ⟨rfl, hbn⟩; replace hB := hB.trans (hbn.mono hB.size); replace hr4 := on_ hr4 hbn; clear hbn)
    | (go_at_call 29; refine (insert_lit _ _).mono ?_; rintro _ wn ⟨rfl, hbn⟩; replace hB := hB.trans (hbn.mono hB.size); replace hr4 := on_ hr4 hbn; clear hbn)
    | (go_at_call 17; refine (put_lit _ w5L [1, 5, 2, 2, 97, 98] 6 rfl w5LC rfl w5E.1 w5E.2 (by decide) (ok_of (by decide +kernel))).mono ?_; rintro _ wn ⟨⟨A5, c5, rfl, hr5⟩, hbn⟩; replace hB := hB.trans (hbn.mono hB.size); replace hr4 := on_ hr4 hbn; clear hbn))
  have st1 := Lib.hid (rfl : 0 = 0)
  go_wp2_with (first
    | (go_at_call 28; refine (retain_lit _ _).mono ?_; rintro _ wn ⟨rfl, hbn⟩; replace hB := hB.trans (hbn.mono hB.size); (try replace hr4 := on_ hr4 hbn); (try replace hr5 := on_ hr5 hbn); (try replace hrd := on_ hrd hbn); (try replace hrr := on_ hrr hbn); clear hbn)
    | (go_at_call 30; refine (drop_lit _ _).mono ?_; rintro _ wn ⟨rfl, hbn⟩; replace hB := hB.trans (hbn.mono hB.size); (try replace hr4 := on_ hr4 hbn); (try replace hr5 := on_ hr5 hbn); (try replace hrd := on_ hrd hbn); (try replace hrr := on_ hrr hbn); clear hbn)
    | (go_at_call 29; refine (insert_lit _ _).mono ?_; rintro _ wn ⟨rfl, hbn⟩; replace hB := hB.trans (hbn.mono hB.size); (try replace hr4 := on_ hr4 hbn); (try replace hr5 := on_ hr5 hbn); (try replace hrd := on_ hrd hbn); (try replace hrr := on_ hrr hbn); clear hbn)
    | (go_at_call 10; have hst := st1; refine (refs_lit _ w4R w4RC rfl (by decide)).mono ?_; rintro _ wn ⟨⟨_, _, rfl, hrr⟩, hbn⟩; replace hB := hB.trans (hbn.mono hB.size); (try replace hr4 := on_ hr4 hbn); (try replace hr5 := on_ hr5 hbn); (try replace hrd := on_ hrd hbn); (try replace hrr := on_ hrr hbn); clear hbn hst)
    | (go_at_call 19; have hst := st1; refine (same_lit _ w4R (n := 4) _ _ _ _ w4R rfl rfl rfl (by decide) hr4 hrr).mono ?_; rintro _ wn ⟨rfl, hbn⟩; replace hB := hB.trans (hbn.mono hB.size); (try replace hr4 := on_ hr4 hbn); (try replace hr5 := on_ hr5 hbn); (try replace hrd := on_ hrd hbn); (try replace hrr := on_ hrr hbn); have st2 := hst; clear st1 hr4 hrr; clear hbn hst)
    | (go_at_call 10; have hst := st3; refine (refs_lit _ w6L w6LC rfl (by decide)).mono ?_; rintro _ wn ⟨⟨_, _, rfl, hrr⟩, hbn⟩; replace hB := hB.trans (hbn.mono hB.size); (try replace hr4 := on_ hr4 hbn); (try replace hr5 := on_ hr5 hbn); (try replace hrd := on_ hrd hbn); (try replace hrr := on_ hrr hbn); clear hbn hst)
    | (go_at_call 19; have hst := st3; refine (same_lit _ w6L (n := 4) _ _ _ _ w6L rfl rfl rfl (by decide) hrd hrr).mono ?_; rintro _ wn ⟨rfl, hbn⟩; replace hB := hB.trans (hbn.mono hB.size); (try replace hr4 := on_ hr4 hbn); (try replace hr5 := on_ hr5 hbn); (try replace hrd := on_ hrd hbn); (try replace hrr := on_ hrr hbn); have st4 := hst; clear st3 hrd hrr; clear hbn hst)
    | (go_at_call 10; have hst := st5; refine (refs_lit _ w7L w7LC rfl (by decide)).mono ?_; rintro _ wn ⟨⟨_, _, rfl, hrr⟩, hbn⟩; replace hB := hB.trans (hbn.mono hB.size); (try replace hr4 := on_ hr4 hbn); (try replace hr5 := on_ hr5 hbn); (try replace hrd := on_ hrd hbn); (try replace hrr := on_ hrr hbn); clear hbn hst)
    | (go_at_call 19; have hst := st5; refine (same_lit _ w7L (n := 2) _ _ _ _ w7L rfl rfl rfl (by decide) hrd hrr).mono ?_; rintro _ wn ⟨rfl, hbn⟩; replace hB := hB.trans (hbn.mono hB.size); (try replace hr4 := on_ hr4 hbn); (try replace hr5 := on_ hr5 hbn); (try replace hrd := on_ hrd hbn); (try replace hrr := on_ hrr hbn); have st6 := hst; clear st5 hrd hrr; clear hbn hst)
    | (go_at_call 26; have hst := st2; refine (diff_lit _ w6L (n := 4) [104, 101, 108, 108, 111] [104, 105, 112, 112, 111] rfl w6D (by decide) (by decide)).mono ?_; rintro _ wn ⟨⟨_, _, rfl, hrd⟩, hbn⟩; replace hB := hB.trans (hbn.mono hB.size); (try replace hr4 := on_ hr4 hbn); (try replace hr5 := on_ hr5 hbn); (try replace hrd := on_ hrd hbn); (try replace hrr := on_ hrr hbn); have st3 := hst; clear st2; clear hbn hst)
    | (go_at_call 26; have hst := st4; refine (diff_lit _ w7L (n := 2) [97, 97] [97, 97, 97] rfl w7D (by decide) (by decide)).mono ?_; rintro _ wn ⟨⟨_, _, rfl, hrd⟩, hbn⟩; replace hB := hB.trans (hbn.mono hB.size); (try replace hr4 := on_ hr4 hbn); (try replace hr5 := on_ hr5 hbn); (try replace hrd := on_ hrd hbn); (try replace hrr := on_ hrr hbn); have st5 := hst; clear st4; clear hbn hst)
    | (go_at_call 20; refine (samebytes_lit _ (n := 6) _ _ [1, 5, 2, 2, 97, 98] w8C rfl (by decide) hr5).mono ?_; rintro _ wn ⟨rfl, hbn⟩; replace hB := hB.trans (hbn.mono hB.size); clear hbn))
  go_ret
  exact ⟨rfl, hB⟩
end Go.Proofs.Ytohgghaooppcoaa
