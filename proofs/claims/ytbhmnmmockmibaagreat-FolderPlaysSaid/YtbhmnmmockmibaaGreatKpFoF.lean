/- What each call of the table, and of the directory, does to a folder. Conditions: at most 900 calls; names of at most 1000 bytes. The walks of put, take, settle, name. Conditions: at most 900 calls; names of at most 1000 bytes. The walk of take. -/
import Derived.Test.YtbhmnmmockmibaaGreatKpFoB
import Derived.Test.YtbhmnmmockmibaaGreatKpFoMem2
namespace Go.Proofs.YtbhmnmmockmibaaGreat
open Go.RowKit Go.Maps
theorem Fo.Ok.fs {s : Fo} {N M : Nat} {fs : List Fi} (h : s.Ok N) (hM : N ≤ M) (ht : ∀ pp mp, (⟨pp, s.q, s.made, mp, fs⟩ : Tb).Ok M) : ({ s with fs := fs } : Fo).Ok M :=
  ⟨h.d.more hM, ht, h.most, h.many, Nat.le_trans h.tk hM, h.num⟩
section
variable {w0 w w' : World} {Y Y' : Nat → Prop} {F N M : Nat} {s s' : Fo}
theorem FS.tab {c : Nat → Nat} {nm pd tk : Value} {mp : Option Nat} {fs : List Fi} (h0 : FS0 w0 Y F s w c nm pd tk mp) (ht : Touch ((s.tb nm pd tk mp).X F) w w') (hT : TabAt w' (fun k => c k ≠ 0) F { s.tb nm pd tk mp with fs := fs }) (hsub : ∀ x ∈ fs, ∃ f ∈ s.fs, x.g = f.g) (hok : ({ s with fs := fs } : Fo).Ok M) :
    FS w0 Y F { s with fs := fs } M w' ∧ Touch (Fr w0 Y) w w' := by
  obtain ⟨c', h1, h2, _⟩ := h0.tabS (q := s.q) (made := s.made) (mp' := mp) (fs := fs) ht hT fun k hk => by
    rcases hk with e | e | ⟨x, hx, e⟩
    · exact .inl (.inl e)
    · exact .inl (.inr (.inl e))
    · obtain ⟨f, hf, e'⟩ := hsub x hx
      exact .inl (.inr (.inr ⟨f, hf, by rw [e, e']⟩))
  exact ⟨⟨⟨c', nm, pd, tk, mp, h1⟩, hok⟩, h2⟩
theorem updF_sub {fs : List Fi} {z n : Int} {m : List Pt} {x : Fi} (hx : x ∈ updF fs z n m) : ∃ f ∈ fs, x.g = f.g := by
  obtain ⟨f, hf, _, hg, _⟩ := updF_mem hx
  exact ⟨f, hf, hg⟩
theorem FS.tsync (h : FS w0 Y F s N w) (hN : N ≤ 900) {z : Int} (hz : -9223372036854775808 ≤ z ∧ z ≤ 9223372036854775807) :
    Calls Tryz.prog 74 #[.pointer (some ⟨F, 5, none⟩), .int .i64 z] w fun e w' => e = .returned (.int .i64 (doSync s.fs z).2) ∧ FS w0 Y F { s with fs := (doSync s.fs z).1 } N w' ∧ Touch (Fr w0 Y) w w' := by
  obtain ⟨c, nm, pd, tk, mp, h0⟩ := h.ex
  have hok := h.ok.t ⟨nm, pd, .int .i64 s.most, .int .i64 s.many, tk⟩ mp
  unfold doSync
  cases hf : findF s.fs z with
  | none =>
    refine (sync_none h0.tab hz hf).mono ?_
    rintro e w' ⟨rfl, rfl⟩
    exact ⟨rfl, h, .refl _ _⟩
  | some f =>
    refine (sync_some h0.tab hok (by omega) (fun b hb => (h0.low b hb).2) hz hf).mono ?_
    rintro e w' ⟨rfl, ht, hT'⟩
    exact ⟨rfl, FS.tab h0 ht hT' (fun x hx => updF_sub hx) (h.ok.fs (Nat.le_refl _) fun pp mp => (h.ok.t pp mp).upd ((h.ok.t pp mp).many f (findF_mem hf).1) (((h.ok.t pp mp).size f (findF_mem hf).1).sync) (Nat.le_refl _))⟩
theorem FS.tlink (h : FS w0 Y F s N w) {z : Int} (hz : -9223372036854775808 ≤ z ∧ z ≤ 9223372036854775807) :
    Calls Tryz.prog 104 #[.pointer (some ⟨F, 5, none⟩), .int .i64 z] w fun e w' => e = .returned (.int .i64 (doLink s.fs z).2) ∧ FS w0 Y F { s with fs := (doLink s.fs z).1 } N w' ∧ Touch (Fr w0 Y) w w' := by
  obtain ⟨c, nm, pd, tk, mp, h0⟩ := h.ex
  have hok := h.ok.t ⟨nm, pd, .int .i64 s.most, .int .i64 s.many, tk⟩ mp
  unfold doLink
  cases hf : findF s.fs z with
  | none =>
    refine (link_none h0.tab hz hf).mono ?_
    rintro e w' ⟨rfl, rfl⟩
    exact ⟨rfl, h, .refl _ _⟩
  | some f =>
    refine (link_some h0.tab hok hz hf).mono ?_
    rintro e w' ⟨rfl, ht, hT'⟩
    exact ⟨rfl, FS.tab h0 ht hT' (fun x hx => updF_sub hx) (h.ok.fs (Nat.le_refl _) fun pp mp => (h.ok.t pp mp).upd (wrap_in _) ((h.ok.t pp mp).size f (findF_mem hf).1) (Nat.le_refl _))⟩
theorem FS.tdrop (h : FS w0 Y F s N w) {z : Int} (hz : -9223372036854775808 ≤ z ∧ z ≤ 9223372036854775807) :
    Calls Tryz.prog 76 #[.pointer (some ⟨F, 5, none⟩), .int .i64 z] w fun e w' => e = .returned (.int .i64 (doDrop s.fs z).2) ∧ FS w0 Y F { s with fs := (doDrop s.fs z).1 } N w' ∧ Touch (Fr w0 Y) w w' := by
  obtain ⟨c, nm, pd, tk, mp, h0⟩ := h.ex
  have hok := h.ok.t ⟨nm, pd, .int .i64 s.most, .int .i64 s.many, tk⟩ mp
  unfold doDrop
  cases hf : findF s.fs z with
  | none =>
    refine (drop_none h0.tab hz hf).mono ?_
    rintro e w' ⟨rfl, rfl⟩
    exact ⟨rfl, h, .refl _ _⟩
  | some f =>
    refine (drop_some h0.tab hok hz hf).mono ?_
    rintro e w' ⟨rfl, ht, hT'⟩
    exact ⟨rfl, FS.tab h0 ht hT' (fun x hx => updF_sub (leaveF_mem hx)) (h.ok.fs (Nat.le_refl _) fun pp mp => (h.ok.t pp mp).drop hf)⟩
theorem FS.tapp {Ab : Option Addr} {cb nl B : Nat} {l : List UInt8} (h : FS w0 Y F s N w) (hN : N ≤ 900) {z : Int} (hz : -9223372036854775808 ≤ z ∧ z ≤ 9223372036854775807) (hn : l.length = nl) (hl : nl ≤ 60) (hB : B ≤ w.heap.size) (hr : RdB w B Ab l) :
    Calls Tryz.prog 73 #[.pointer (some ⟨F, 5, none⟩), .int .i64 z, .slice Ab nl cb] w fun e w' => e = .returned (.int .i64 (doApp s.q s.fs z l).2) ∧ FS w0 Y F { s with fs := (doApp s.q s.fs z l).1 } (N + 1) w' ∧ Touch (Fr w0 Y) w w' := by
  subst hn
  obtain ⟨c, nm, pd, tk, mp, h0⟩ := h.ex
  have hok := h.ok.t ⟨nm, pd, .int .i64 s.most, .int .i64 s.many, tk⟩ mp
  unfold doApp
  cases hf : findF s.fs z with
  | none =>
    refine (append_none h0.tab hz hf).mono ?_
    rintro e w' ⟨rfl, rfl⟩
    exact ⟨rfl, h.mono (by omega), .refl _ _⟩
  | some f =>
    by_cases hq : s.q < (l.length : Int) + usedF s.fs
    · simp only
      rw [if_pos hq]
      refine (append_full h0.tab hok (by omega) hz hf hl hq).mono ?_
      rintro e w' ⟨rfl, hb⟩
      obtain ⟨h1, h2⟩ := h.quiet hb
      exact ⟨rfl, h1.mono (by omega), h2⟩
    · simp only
      rw [if_neg hq]
      refine (append_some h0.tab hok (by omega) (fun b hb => (h0.low b hb).2) hz hf hl hB hr (by show _ ≤ s.q; show (l.length : Int) + (usedF s.fs : Int) ≤ s.q; omega)).mono ?_
      rintro e w' ⟨rfl, ht, hT'⟩
      exact ⟨rfl, FS.tab h0 ht hT' (fun x hx => updF_sub hx) (h.ok.fs (by omega) fun pp mp => (h.ok.t pp mp).upd ((h.ok.t pp mp).many f (findF_mem hf).1) (((h.ok.t pp mp).size f (findF_mem hf).1).app hl) (by omega))⟩
theorem FS.tused (h : FS w0 Y F s N w) (hN : N ≤ 900) :
    Calls Tryz.prog 59 #[.pointer (some ⟨F, 5, none⟩)] w fun e w' => e = .returned (.int .i64 (usedF s.fs : Nat)) ∧ Below w.heap.size w w' := by
  obtain ⟨c, nm, pd, tk, mp, h0⟩ := h.ex
  exact tused_any h0.tab (h.ok.t ⟨nm, pd, .int .i64 s.most, .int .i64 s.many, tk⟩ mp) (by omega)
theorem FS.tvol (h : FS w0 Y F s N w) (hN : N ≤ 900) :
    Calls Tryz.prog 58 #[.pointer (some ⟨F, 5, none⟩)] w fun e w' => e = .returned (.int .i64 (volF s.fs : Nat)) ∧ Below w.heap.size w w' := by
  obtain ⟨c, nm, pd, tk, mp, h0⟩ := h.ex
  exact tvol_any h0.tab (h.ok.t ⟨nm, pd, .int .i64 s.most, .int .i64 s.many, tk⟩ mp) (by omega)
def bytesF (fs : List Fi) (z : Int) : List UInt8 × Int := match findF fs z with
  | none => ([], 80)
  | some f => (contM f.m, 0)
theorem FS.tbytes (h : FS w0 Y F s N w) (hN : N ≤ 900) {z : Int} (hz : -9223372036854775808 ≤ z ∧ z ≤ 9223372036854775807) :
    Calls Tryz.prog 56 #[.pointer (some ⟨F, 5, none⟩), .int .i64 z] w fun e w' => ∃ v, e = .returned (.tuple #[v, .int .i64 (bytesF s.fs z).2]) ∧ w'.ownsRow w.heap.size 5 1 v (bytesF s.fs z).1.length (bs (bytesF s.fs z).1) ∧ Below w.heap.size w w' := by
  obtain ⟨c, nm, pd, tk, mp, h0⟩ := h.ex
  have hok := h.ok.t ⟨nm, pd, .int .i64 s.most, .int .i64 s.many, tk⟩ mp
  unfold bytesF
  cases hf : findF s.fs z with
  | none =>
    refine (bytes_none h0.tab hz hf).mono ?_
    rintro e w' ⟨rfl, rfl⟩
    exact ⟨_, rfl, World.ownsRow_nil _ _ _ _, .refl _ _⟩
  | some f =>
    refine (bytes_some h0.tab hok (by omega) hz hf).mono ?_
    rintro e w' ⟨v, rfl, hb, ho⟩
    exact ⟨v, rfl, ho, hb⟩
theorem FS.tall (h : FS w0 Y F s N w) (hN : N ≤ 900) :
    Calls Tryz.prog 28 #[.pointer (some ⟨F, 5, none⟩)] w fun e w' => ∃ v, e = .returned v ∧ OwnEn 91 w.heap.size w' v (manyC s.fs) ∧ Below w.heap.size w w' := by
  obtain ⟨c, nm, pd, tk, mp, h0⟩ := h.ex
  exact all_any h0.tab (h.ok.t ⟨nm, pd, .int .i64 s.most, .int .i64 s.many, tk⟩ mp) (by omega)
theorem FS.tfail {A Ak : Option Addr} {cap ck nn nk : Nat} {names : List En} {keep : List Bool} {Xn : Nat → Prop} (h : FS w0 Y F s N w) (hN : N ≤ 900) (hr : EnX w Xn A names) (hnn : names.length = nn) (hl : nn ≤ 1000) (hfit : FitE names)
    (hk : KeX w (Fr w0 Y) Ak keep) (hnk : keep.length = nk) (hkc : nk ≤ ck) (hkl : nk ≤ 1000) :
    Calls Tryz.prog 29 #[.pointer (some ⟨F, 5, none⟩), .slice A nn cap, .slice Ak nk ck] w fun e w' => e = .returned (.tuple #[]) ∧ FS w0 Y F { s with fs := failT s.fs names keep } N w' ∧ Touch (Fr w0 Y) w w' := by
  subst hnn hnk
  obtain ⟨c, nm, pd, tk, mp, h0⟩ := h.ex
  have hok := h.ok.t ⟨nm, pd, .int .i64 s.most, .int .i64 s.many, tk⟩ mp
  have hX : ∀ b, (s.tb nm pd tk mp).X F b → Fr w0 Y b := fun b hb => by
    rcases h0.col b hb with h1 | h1
    · subst h1; exact ⟨(h0.low b (by rw [h0.one]; decide)).1, fun hy => by have := h0.y b hy; rw [h0.one] at this; cases this⟩
    · exact ⟨(h0.low b (by rw [h1]; decide)).1, fun hy => by have := h0.y b hy; rw [h1] at this; cases this⟩
  refine (tfail_any h0.tab hok (by omega) (fun b hb => (h0.low b hb).2) hr hl hfit (hk.mono fun b _ hb => hX b hb) hkc hkl).mono ?_
  rintro e w' ⟨rfl, ht, hT'⟩
  refine ⟨rfl, FS.tab h0 ht hT' (fun x hx => ?_) (h.ok.fs (Nat.le_refl _) fun pp mp => (h.ok.t pp mp).fail hfit)⟩
  obtain ⟨f, hf, k, rfl, _⟩ := failT_mem hx
  exact ⟨f, hf, rfl⟩
theorem FS.tmake (h : FS w0 Y F s N w) (hN : N ≤ 900) :
    Calls Tryz.prog 70 #[.pointer (some ⟨F, 5, none⟩)] w fun e w' => e = .returned (.int .i64 ((s.made : Int) + 1)) ∧ ∃ g, FS w0 Y F { s with made := s.made + 1, fs := s.fs ++ [⟨(s.made : Int) + 1, g, 0, []⟩] } (N + 1) w' ∧ Touch (Fr w0 Y) w w' := by
  obtain ⟨c, nm, pd, tk, mp, h0⟩ := h.ex
  have hok := h.ok.t ⟨nm, pd, .int .i64 s.most, .int .i64 s.many, tk⟩ mp
  refine (make_any h0.tab hok (by omega)).mono ?_
  rintro e w' ⟨rfl, T', hM⟩
  have hok' := hM.ok hok
  obtain ⟨g, hg, hfs⟩ := hM.fs
  obtain ⟨pp', q', made', mp', fs''⟩ := T'
  have e0 := hM.pp
  have e1 := hM.q
  have e2 := hM.made
  simp only [Fo.tb] at e0 e1 e2 hfs
  subst e0 e1 e2 hfs
  obtain ⟨c', h1, h2, _⟩ := h0.tabS (q := s.q) (made := s.made + 1) (mp' := mp') (fs := s.fs ++ [(⟨(s.made : Int) + 1, g, 0, []⟩ : Fi)]) hM.touch hM.tab hM.X
  exact ⟨rfl, g, ⟨⟨c', nm, pd, tk, mp', h1⟩, h.ok.d.more (by omega), fun pp mp => ⟨hok'.q, hok'.made, hok'.len, hok'.sort, hok'.num, hok'.many, hok'.size⟩, h.ok.most, h.ok.many, by have := h.ok.tk; show s.tk.length ≤ N + 1; omega, h.ok.num⟩, h2⟩
theorem FS.dlist (h : FS w0 Y F s N w) (hN : N ≤ 900) :
    Calls Tryz.prog 55 #[.pointer (some ⟨F, 0, none⟩)] w fun e w' => ∃ v, e = .returned v ∧ OwnEnD 120 w.heap.size w' v s.d.now ∧ Below w.heap.size w w' := by
  obtain ⟨c, nm, pd, tk, mp, h0⟩ := h.ex
  exact list_anyD h0.dir h.ok.d (by omega)
theorem FS.dpend (h : FS w0 Y F s N w) :
    Calls Tryz.prog 57 #[.pointer (some ⟨F, 0, none⟩)] w fun e w' => e = .returned (.int .i64 (s.d.ops.length : Int)) ∧ w' = w := by
  obtain ⟨c, nm, pd, tk, mp, h0⟩ := h.ex
  exact pending_anyD h0.dir
theorem FS.nfind (h : FS w0 Y F s N w) (k : List UInt8) (hk : k.length ≤ 1000) :
    Calls Tryz.prog 72 #[.pointer (some ⟨F, 0, none⟩), .string (txt k)] w fun e w' => e = .returned (.tuple #[.int .i64 (s.find k).1, .int .i64 (s.find k).2]) ∧ w' = w := by
  obtain ⟨c, nm, pd, tk, mp, h0⟩ := h.ex
  exact ffind_any h0 k hk
theorem FS.nmay (h : FS w0 Y F s N w) (k : List UInt8) (hk : k.length ≤ 1000) :
    Calls Tryz.prog 69 #[.pointer (some ⟨F, 0, none⟩), .string (txt k)] w fun e w' => e = .returned (.int .i64 (s.may k)) ∧ ∃ n, w' = w.drewN n := by
  obtain ⟨c, nm, pd, tk, mp, h0⟩ := h.ex
  exact fmay_any h0 k hk
end
end Go.Proofs.YtbhmnmmockmibaaGreat

namespace Go.Proofs.YtbhmnmmockmibaaGreat
open Go.RowKit Go.Maps
def OneSl (t e : TypeId) (z : Value) (by_ : Nat) : Prop := Tryz.prog.underlying t = some (.slice e) ∧ (Tryz.prog.info? e).map (fun i => (i.zero, i.size, i.bytes)) = some (some z, 1, by_)
theorem oneInt : OneSl 34 3 (.int .i64 0) 8 := ⟨Tryz.underlying34, by kernel_rfl⟩
theorem oneStr : OneSl 49 9 (.string ByteArray.empty) 16 := ⟨Tryz.underlying49, by kernel_rfl⟩
section
variable {ops : Array Oper} {rest : List Oper} {o : Oper} {a : Act} {Q : Exit → Act → World → Prop} {w : World} {base : Nat} {v : Value}
theorem push_one {t e : TypeId} {z : Value} {by_ : Nat} (ht : OneSl t e z by_) (hz1 : z.cells.size = 1) (hby : by_ ≤ 64) {N n : Nat} (s x : Operand) {own : List Value} (f : Value) (hf : f.oneCell' = true) (hown : w.ownsRow base e 1 v n own) (hbase : base ≤ w.heap.size) (hl : n ≤ 1099511627775)
    (hgd : o.guard = none) (ho : o.op = .call { callee := .builtin .append, args := #[s, x], argTypes := #[t, t] })
    (hs : a.eval s = v) (hx : a.eval x = .slice (some ⟨N, 0, none⟩) 1 1) (hN : w.heap.size = N)
    (h : ∀ v' w', w'.ownsRow base e 1 v' (n + 1) (own ++ [f]) → w.grownBy w' v.ownBlock → (v'.ownBlock = v.ownBlock ∨ v'.ownBlock = some (w.heap.size + 1)) → Below base w w' → wpList Tryz.prog ops Q rest (a.put o.dst v') w') :
    wpList Tryz.prog ops Q (o :: rest) a (w.alloc (.cells #[f] e)) := by
  subst hN
  obtain ⟨hu, hi⟩ := ht
  obtain ⟨i0, hi0, hz0, hz1', hz2⟩ := info_parts hi
  have hnew : Reads (w.alloc (.cells #[f] e)) (w.heap.size + 1) 1 (some ⟨w.heap.size, 0, none⟩) 1 [f] := by
    refine ⟨rfl, fun _ => ⟨_, rfl, by simp, fun j u hu => ?_⟩⟩
    rw [lit_add, Nat.zero_add, cell_of_row (w.alloc (.cells #[f] e)) w.heap.size j #[f] e (0, 0) (heap_alloc_new w _)]
    simpa using hu
  refine wpList_append_any _ hgd s x t ho base e i0 z 1 by_ hu hi0 hz0 hz1' hz2 hz1 (by omega) v n own hs (hown.alloc _) (w.heap.size + 1) _ 1 1 [f] hx hnew (by intro u hu; rw [List.mem_singleton] at hu; rw [hu]; exact hf) (by simp only [maxLen]; omega) (Nat.le_trans (Nat.mul_le_mul_left _ hby) (by omega)) (by simp; omega) ?_
  intro v1 w1 h1 h2 h3
  have hb := ((Below.refl base w).alloc hbase _).trans (grown_below (hown.alloc (.cells #[f] e)) h2 (by simp; omega))
  exact h v1 w1 h1 ⟨h2.os, h2.tape, h2.output, Nat.le_trans (by simp) h2.size, fun k hk hne => (h2.block k (by simp; omega) hne).trans (heap_alloc_old w _ hk)⟩ (by simpa using h3) hb
end
section
variable {w0 w w' : World} {Y Y' : Nat → Prop} {F N M : Nat} {s s' : Fo}
theorem DirAt.recol {c c' : Nat → Nat} {g : Nat} {zz : Rs} {d : St} (h : DirAt w c 1 g zz d) (h1 : ∀ b, c b = 1 → c' b = 1) (h0 : ∀ b, c b = 0 → c' b = 0) : DirAt w c' 1 g zz d := by
  obtain ⟨mv, pv, hg, hm, ps, hps, ho, hr, hp⟩ := h.v
  refine ⟨h1 _ h.col, h.ne, mv, pv, hg, ?_, ps, hps, ho, fun r hr' => ⟨h1 _ (hr r hr').1, (hr r hr').2⟩, fun p hp' => ?_⟩
  · rcases hm with h2 | ⟨b, hv, hb, ho'⟩
    · exact .inl h2
    · exact .inr ⟨b, hv, h1 _ hb, ho'⟩
  · have := hp p hp'
    refine ⟨this.name, this.num, fun e => e ?_, fun e => e ?_⟩
    · exact h0 _ (Classical.not_not.1 this.xo)
    · exact h0 _ (Classical.not_not.1 this.xi)
theorem FS0.give {c : Nat → Nat} {nm pd : Value} {mp : Option Nat} {v : Value} (h : FS0 w0 Y F { s with tk := [] } w c nm pd (.slice none 0 0) mp) (hv : ∀ r, v.ownBlock = some r → c r = 4) :
    ∃ c', FS0 w0 (fun k => Y k ∨ v.ownBlock = some k) F { s with tk := [] } w c' nm pd (.slice none 0 0) mp := by
  have hc : ∀ b, (if v.ownBlock = some b then 3 else c b) = if v.ownBlock = some b then 3 else c b := fun _ => rfl
  have k1 : ∀ b i, i ≠ 4 → c b = i → (if v.ownBlock = some b then 3 else c b) = i := fun b i hi hb => by
    rw [if_neg fun e => hi (hb ▸ hv b e)]; exact hb
  refine ⟨fun b => if v.ownBlock = some b then 3 else c b, ⟨h.dir.recol (fun b hb => k1 b 1 (by decide) hb) (fun b hb => k1 b 0 (by decide) hb), ?_, h.row, fun r hr => (by cases hr), fun k hk => ?_, fun k hk => ?_, fun k hk => ?_, h.below⟩⟩
  · refine h.tab.mono fun b _ e => ?_
    show c b ≠ 0
    intro h0
    exact e (k1 b 0 (by decide) h0)
  · rcases h.col k hk with h2 | h2
    · exact .inl h2
    · exact .inr (k1 k 2 (by decide) h2)
  · refine h.low k fun h0 => ?_
    exact hk (k1 k 0 (by decide) h0)
  · show (if v.ownBlock = some k then 3 else c k) = 3
    by_cases hb : v.ownBlock = some k
    · rw [if_pos hb]
    · rw [if_neg hb]
      exact h.y k (hk.resolve_right hb)
theorem FS.weak (h : FS w0 Y' F s N w) (hy : ∀ k, Y k → Y' k) : FS w0 Y F s N w := by
  obtain ⟨c, nm, pd, tk, mp, h0⟩ := h.ex
  exact ⟨⟨c, nm, pd, tk, mp, h0.dir, h0.tab, h0.row, h0.rowc, h0.col, h0.low, fun k hk => h0.y k (hy k hk), h0.below⟩, h.ok⟩
theorem Fr.weak {b : Nat} (hy : ∀ k, Y k → Y' k) (h : Fr w0 Y' b) : Fr w0 Y b := ⟨h.1, fun e => h.2 (hy b e)⟩
theorem St.now_addl {d : St} {k : List UInt8} {v : Int} (hk : hasE d.now k = false) : (d.addE k v).now.length = d.now.length + 1 := by rw [St.now_add hk, ins_len]
theorem Fo.Ok.addE (h : s.Ok N) {k : List UInt8} {v : Int} (hs : SzD (k, v)) (hn : hasE s.d.now k = false) : ({ s with d := s.d.addE k v, many := s.many + 1 } : Fo).Ok (N + 1) := by
  refine ⟨h.d.snoc (o := ⟨true, k, v⟩) hn hs, fun pp mp => (h.t pp mp).mono (by omega), h.most, ?_, by have := h.tk; show s.tk.length ≤ N + 1; omega, h.num⟩
  show s.many + 1 = ((s.d.addE k v).now.length : Int)
  rw [St.now_addl hn, h.many]
  omega
set_option maxHeartbeats 1000000 in
theorem FS.nput (h : FS w0 Y F s N w) (hN : N ≤ 900) (k : List UInt8) (v : Int) (hs : SzD (k, v)) (hk : k ≠ []) (hv : 0 ≤ v) (hn : hasE s.d.now k = false) :
    Calls Tryz.prog 105 #[.pointer (some ⟨F, 0, none⟩), .string (txt k), .int .i64 v] w fun e w' => e = .returned (.tuple #[]) ∧ FS w0 Y F { s with d := s.d.addE k v, many := s.many + 1 } (N + 1) w' ∧ Touch (Fr w0 Y) w w' := by
  obtain ⟨c, nm, pd, tk, mp, h0⟩ := h.ex
  have hadd := Lib.hid (add_anyD h0.dir (by decide) h.ok.d (by omega) k v hs)
  have e0 : s.d.add k v = (s.d.addE k v, 0) := by unfold St.add; rw [if_neg (by rintro (e | e); exact hk e; omega), if_neg (by rw [hn]; decide)]
  rw [e0] at hadd
  have hm := h.ok.many
  have hm2 := h.ok.d.now.1
  have hm0 : 0 ≤ s.many := by omega
  have hm1 : s.many ≤ 900 := by omega
  have Hfin : Hid (∀ w1, Did w c 1 F (s.zz tk mp) (s.d.addE k v) w1 → w1.cell? ⟨F, 3, none⟩ = some (.int .i64 s.many) ∧ w1.frozen? ⟨F, 3, none⟩ = false ∧ FS w0 Y F { s with d := s.d.addE k v, many := s.many + 1 } (N + 1) (w1.setCell ⟨F, 3, none⟩ (.int .i64 (s.many + 1))) ∧ Touch (Fr w0 Y) w (w1.setCell ⟨F, 3, none⟩ (.int .i64 (s.many + 1)))) := by
    intro w1 hd
    obtain ⟨c1, nm1, pd1, h1, ht1, _⟩ := h0.dirS hd
    have htop := h1.top
    have ht := Touch.cell1 w1 F 3 (.int .i64 (s.many + 1))
    have hnF : ∀ b, tk.ownBlock = some b → ¬ b = F := fun b hb e => by have := h1.rowc b hb; rw [e, h1.one] at this; cases this
    obtain ⟨c2, h2, ht2, _⟩ := h1.ownS (many := s.many + 1) (l := s.tk) (tk' := tk) (ht.mono fun _ _ e => .inl e) (f_set3 _ htop) (own_touch h1.row ht hnF) (.inr (.inl rfl))
    exact ⟨(f_cells htop).2.1, d_frozen htop, ⟨⟨c2, nm1, pd1, tk, mp, h2⟩, h.ok.addE hs hn⟩, ht1.trans ht2⟩
  obtain ⟨many, hmm⟩ : ∃ m, Hid (s.many = m) := ⟨_, rfl⟩
  rw [hmm.out] at Hfin hm0 hm1 ⊢
  clear h h0 hs hk hv hn e0 hm hm2
  go_enter Tryz.func105, Tryz.ntmps105
  go_wp2_with (go_at_call 122; refine hadd.out.mono ?_; rintro e w1 ⟨rfl, hd⟩; obtain ⟨c3, z3, hF⟩ := Hfin.out _ hd; clear hd)
  go_end0
  exact ⟨rfl, hF⟩
set_option maxHeartbeats 1000000 in
theorem FS.fname (h : FS w0 Y F s N w) (hN : N ≤ 900) (k : List UInt8) (v : Int) (hs : SzD (k, v)) (hk : k ≠ []) (hv : 0 ≤ v) (hn : hasE s.d.now k = false) :
    Calls Tryz.prog 71 #[.pointer (some ⟨F, 0, none⟩), .string (txt k), .int .i64 v] w fun e w' => e = .returned (.tuple #[]) ∧ FS w0 Y F { s with d := s.d.addE k v, many := s.many + 1, fs := (doLink s.fs v).1 } (N + 1) w' ∧ Touch (Fr w0 Y) w w' := by
  have hl := Lib.hid (h.tlink (z := v) hs.v)
  have hp : Hid (∀ w1, FS w0 Y F { s with fs := (doLink s.fs v).1 } N w1 → Calls Tryz.prog 105 #[.pointer (some ⟨F, 0, none⟩), .string (txt k), .int .i64 v] w1 fun e w' => e = .returned (.tuple #[]) ∧ FS w0 Y F { s with d := s.d.addE k v, many := s.many + 1, fs := (doLink s.fs v).1 } (N + 1) w' ∧ Touch (Fr w0 Y) w1 w') := fun w1 h1 => h1.nput hN k v hs hk hv hn
  clear h hs hk hv hn
  go_enter Tryz.func71, Tryz.ntmps71
  go_wp2_with (first
    | (go_at_call 104; refine hl.out.mono ?_; rintro e w1 ⟨rfl, hf1, ht1⟩; have Hf1 := Lib.hid hf1; clear hf1)
    | (go_at_call 105; refine (hp.out _ Hf1.out).mono ?_; rintro e w2 ⟨rfl, hf2, ht2⟩; have Hf2 := Lib.hid hf2; clear hf2))
  go_end0
  exact ⟨rfl, Hf2.out, ht1.trans ht2⟩
set_option maxHeartbeats 1000000 in
theorem FS.nsettle (h : FS w0 Y F s N w) :
    Calls Tryz.prog 75 #[.pointer (some ⟨F, 0, none⟩)] w fun e w' => ∃ v, e = .returned v ∧ w'.ownsRow 0 3 1 v s.tk.length (ics s.tk) ∧ FS w0 (fun k => Y k ∨ v.ownBlock = some k) F { s with d := s.d.sync, tk := [] } N w' ∧ Touch (Fr w0 Y) w w' := by
  obtain ⟨c, nm, pd, tk, mp, h0⟩ := h.ex
  have htop := h0.top
  have c4 := (f_cells htop).2.2
  have fz : ∀ i, w.frozen? ⟨F, i, none⟩ = false := fun i => d_frozen htop
  have hrow := h0.row
  obtain ⟨A, cap, rfl, _, _, _⟩ := own_form hrow
  have hnF : ∀ b, (Value.slice A s.tk.length cap).ownBlock = some b → ¬ b = F := fun b hb e => by have := h0.rowc b hb; rw [e, h0.one] at this; cases this
  have ht := Touch.cell1 w F 4 (.slice none 0 0)
  have hrowW := own_touch hrow ht hnF
  obtain ⟨c2, h2, ht2, hs2⟩ := h0.ownS (many := s.many) (l := []) (tk' := .slice none 0 0) (ht.mono fun _ _ e => .inl e) (f_set4 (.slice none 0 0) htop) (World.ownsRow_nil _ _ _ _) (.inl rfl)
  have hc4 : ∀ r, (Value.slice A s.tk.length cap).ownBlock = some r → c2 r = 4 := fun r hr => (hs2 r (hrow.lt r hr).2).trans (h0.rowc r hr)
  have hsync := Lib.hid (sync_anyD h2.dir)
  have Hfin : Hid (∀ w1, Touch (Ow c2 1) (w.setCell ⟨F, 4, none⟩ (.slice none 0 0)) w1 → DirAt w1 c2 1 F (Fo.zz { s with tk := [] } (.slice none 0 0) mp) s.d.sync → w1.ownsRow 0 3 1 (.slice A s.tk.length cap) s.tk.length (ics s.tk) ∧ FS w0 (fun k => Y k ∨ (Value.slice A s.tk.length cap).ownBlock = some k) F { s with d := s.d.sync, tk := [] } N w1 ∧ Touch (Fr w0 Y) w w1) := by
    intro w1 hT hD
    obtain ⟨c3, nm3, pd3, h3, ht3, hs3⟩ := h2.dirS ⟨c2, Same.refl _ _, hT, hD⟩
    have hc3 : ∀ r, (Value.slice A s.tk.length cap).ownBlock = some r → c3 r = 4 := fun r hr => (hs3 r (hrowW.lt r hr).2).trans (hc4 r hr)
    obtain ⟨c4', h4⟩ := FS0.give (s := { s with d := s.d.sync }) h3 hc3
    refine ⟨own_touch hrowW hT fun b hb e => ?_, ⟨⟨c4', nm3, pd3, _, mp, h4⟩, ?_⟩, ht2.trans ht3⟩
    · have e' : c2 b = 1 := e
      rw [hc4 b hb] at e'
      cases e'
    · refine ⟨h.ok.d.sync, h.ok.t, h.ok.most, ?_, Nat.zero_le _, by simp⟩
      show s.many = (s.d.sync.now.length : Int)
      rw [St.now_sync, h.ok.many]
  obtain ⟨n, hn⟩ : ∃ n, Hid (s.tk.length = n) := ⟨_, rfl⟩
  rw [hn.out] at c4 Hfin ⊢
  clear h h0 htop hrow hnF ht hrowW h2 ht2 hs2 hc4
  go_enter Tryz.func75, Tryz.ntmps75
  go_wp2_with (go_at_call 109; refine hsync.out.mono ?_; rintro e w1 ⟨rfl, hT, hD⟩; have HF := Lib.hid (Hfin.out _ hT hD); clear hT hD)
  go_ret
  exact ⟨_, rfl, HF.out⟩
end
end Go.Proofs.YtbhmnmmockmibaaGreat

namespace Go.Proofs.YtbhmnmmockmibaaGreat
open Go.RowKit Go.Maps
section
variable {w0 w w' : World} {Y Y' : Nat → Prop} {F N M : Nat} {s s' : Fo}
theorem del_len_eq {m : List EnD} (hm : Srt m) {k : List UInt8} {v : Int} (h : (k, v) ∈ m) : (delE m k).length + 1 = m.length := by
  have e : insE (k, v) (delE m k) = m := by
    refine srt_ext ((hm.del k).ins (has_del m k)) hm fun x => ?_
    rw [mem_ins, mem_del]
    constructor
    · rintro (rfl | h2)
      · exact h
      · exact h2.1
    · intro hx
      by_cases hk : x.1 = k
      · refine .inl (Prod.ext hk ?_)
        have hx' : (k, x.2) ∈ m := by rw [← hk]; exact hx
        exact srt_one hm hx' h
      · exact .inr ⟨hx, hk⟩
  rw [← ins_len (k, v) (delE m k), e]
def Fo.doTake (s : Fo) (k : List UInt8) : Fo × Int := match getE s.d.now k with
  | none => (s, 80)
  | some v => ({ s with d := s.d.rem k v, many := s.many - 1, tk := s.tk ++ [v] }, 0)
theorem Fo.Ok.rem (h : s.Ok N) {k : List UInt8} {v : Int} (hg : getE s.d.now k = some v) : ({ s with d := s.d.rem k v, many := s.many - 1, tk := s.tk ++ [v] } : Fo).Ok (N + 1) := by
  have hmem := getE_some hg
  have hsz := h.d.now.2 _ hmem
  refine ⟨h.d.snoc (o := ⟨false, k, v⟩) hmem hsz, fun pp mp => (h.t pp mp).mono (by omega), h.most, ?_, ?_, ?_⟩
  · show s.many - 1 = ((s.d.rem k v).now.length : Int)
    rw [St.now_rem, h.many]
    have := del_len_eq h.d.ok.now hmem
    omega
  · have := h.tk
    show (s.tk ++ [v]).length ≤ N + 1
    rw [List.length_append, List.length_singleton]
    omega
  · intro z hz
    rcases List.mem_append.1 hz with hz | hz
    · exact h.num z hz
    · rw [List.mem_singleton] at hz; rw [hz]; exact hsz.v
set_option maxHeartbeats 2000000 in
set_option maxRecDepth 100000 in
theorem FS.ntake (h : FS w0 Y F s N w) (hN : N ≤ 900) (k : List UInt8) (hk : k.length ≤ 1000) :
    Calls Tryz.prog 77 #[.pointer (some ⟨F, 0, none⟩), .string (txt k)] w fun e w' => e = .returned (.int .i64 (s.doTake k).2) ∧ FS w0 Y F (s.doTake k).1 (N + 1) w' ∧ Touch (Fr w0 Y) w w' := by
  obtain ⟨c, nm, pd, tk, mp, h0⟩ := h.ex
  have hrem := Lib.hid (remove_anyD h0.dir (by decide) h.ok.d (by omega) k hk)
  unfold Fo.doTake
  cases hg : getE s.d.now k with
  | none =>
    have e0 : s.d.remove k = (s.d, 0, 80) := St.remove_none (getE_none hg)
    rw [e0] at hrem
    have Hfin : Hid (∀ w1, Did w c 1 F (s.zz tk mp) s.d w1 → FS w0 Y F s (N + 1) w1 ∧ Touch (Fr w0 Y) w w1) := by
      intro w1 hd
      obtain ⟨c1, nm1, pd1, h1, ht1, _⟩ := h0.dirS hd
      exact ⟨⟨⟨c1, nm1, pd1, tk, mp, h1⟩, h.ok.mono (by omega)⟩, ht1⟩
    clear h h0 hg e0 hk
    go_enter Tryz.func77, Tryz.ntmps77
    go_wp2_with (go_at_call 110; refine hrem.out.mono ?_; rintro e w1 ⟨rfl, hd⟩; have HF := Lib.hid (Hfin.out _ hd); clear hd)
    go_ret
    exact ⟨rfl, HF.out⟩
  | some v =>
    have e0 : s.d.remove k = (s.d.rem k v, v, 0) := by unfold St.remove; rw [hg]
    rw [e0] at hrem
    have hm := h.ok.many
    have hm2 := h.ok.d.now.1
    have hm0 : 0 ≤ s.many := by omega
    have hm1 : s.many ≤ 900 := by omega
    have hl : s.tk.length ≤ 1099511627775 := by have := h.ok.tk; omega
    obtain ⟨many, hmm⟩ : ∃ m, Hid (s.many = m) := ⟨_, rfl⟩
    obtain ⟨n, hn⟩ : ∃ m, Hid (s.tk.length = m) := ⟨_, rfl⟩
    have hrow0 := h0.row
    obtain ⟨A, cap, rfl, _, _, _⟩ := own_form hrow0
    have Hpre : Hid (∀ w1, Did w c 1 F (s.zz (.slice A s.tk.length cap) mp) (s.d.rem k v) w1 → w1.cell? ⟨F, 3, none⟩ = some (.int .i64 s.many) ∧ w1.frozen? ⟨F, 3, none⟩ = false ∧
        ∀ W2, w1.setCell ⟨F, 3, none⟩ (.int .i64 (s.many - 1)) = W2 → W2.cell? ⟨F, 4, none⟩ = some (.slice A s.tk.length cap) ∧ W2.ownsRow 0 3 1 (.slice A s.tk.length cap) s.tk.length (ics s.tk) ∧
        ∀ v' w3, w3.ownsRow 0 3 1 v' (s.tk.length + 1) (ics s.tk ++ [.int .i64 v]) → W2.grownBy w3 (Value.slice A s.tk.length cap).ownBlock → (v'.ownBlock = (Value.slice A s.tk.length cap).ownBlock ∨ v'.ownBlock = some (W2.heap.size + 1)) →
          w3.cell? ⟨F, 4, none⟩ = some (.slice A s.tk.length cap) ∧ w3.frozen? ⟨F, 4, none⟩ = false ∧ FS w0 Y F { s with d := s.d.rem k v, many := s.many - 1, tk := s.tk ++ [v] } (N + 1) (w3.setCell ⟨F, 4, none⟩ v') ∧ Touch (Fr w0 Y) w (w3.setCell ⟨F, 4, none⟩ v')) := by
      intro w1 hd
      obtain ⟨c1, nm1, pd1, h1, ht1, _⟩ := h0.dirS hd
      have htop := h1.top
      refine ⟨(f_cells htop).2.1, d_frozen htop, ?_⟩
      rintro W2 rfl
      have hnF : ∀ b, (Value.slice A s.tk.length cap).ownBlock = some b → ¬ b = F := fun b hb e => by have := h1.rowc b hb; rw [e, h1.one] at this; cases this
      have ht := Touch.cell1 w1 F 3 (.int .i64 (s.many - 1))
      have htop2 := f_set3 (.int .i64 (s.many - 1)) htop
      refine ⟨(f_cells htop2).2.2, own_touch h1.row ht hnF, ?_⟩
      intro v' w3 ho hg3 hblk
      have htop3 := (hg3.block F (Array.getElem?_eq_some_iff.1 htop2).1 (fun e => hnF F e.symm rfl)).trans htop2
      have ht3 := Touch.cell1 w3 F 4 v'
      have hv'F : ∀ b, v'.ownBlock = some b → ¬ b = F := fun b hb e => by
        rcases hblk with e2 | e2
        · exact hnF b (e2 ▸ hb) e
        · rw [e2] at hb
          injection hb with hb
          have := (Array.getElem?_eq_some_iff.1 htop2).1
          omega
      have hT : Touch (fun b => b = F ∨ (Value.slice A s.tk.length cap).ownBlock = some b) w1 (w3.setCell ⟨F, 4, none⟩ v') :=
        ((ht.mono fun _ _ e => .inl e).trans (Touch.grown hg3 fun b e => .inr e)).trans (ht3.mono fun _ _ e => .inl e)
      obtain ⟨c2, h2, ht2, _⟩ := h1.ownS (many := s.many - 1) (l := s.tk ++ [v]) (tk' := v') hT (f_set4 _ htop3) (by
        have := own_touch ho ht3 hv'F
        rw [show (s.tk ++ [v]).length = s.tk.length + 1 by simp, show ics (s.tk ++ [v]) = ics s.tk ++ [.int .i64 v] by simp [ics]]
        exact this) (.inr (hblk.imp id fun e => ⟨_, e, by show w1.heap.size ≤ (w1.setCell _ _).heap.size + 1; have := ht.size; omega⟩))
      exact ⟨(f_cells htop3).2.2, d_frozen htop3, ⟨⟨c2, nm1, pd1, v', mp, h2⟩, h.ok.rem hg⟩, ht1.trans ht2⟩
    rw [hmm.out, hn.out] at Hpre
    rw [hn.out] at hrem
    rw [hn.out] at hl
    rw [hmm.out] at hm0 hm1 ⊢
    obtain ⟨cs, hcs⟩ : ∃ cs, Hid (ics s.tk = cs) := ⟨_, rfl⟩
    rw [hcs.out] at Hpre
    clear h h0 hg e0 hk hm hm2 hrow0
    go_enter Tryz.func77, Tryz.ntmps77
    go_upto_region 5 with (go_at_call 110; refine hrem.out.mono ?_; rintro e w1 ⟨rfl, hd⟩; have HP0 := Lib.hid (Hpre.out _ hd); clear hd; have c3 := HP0.out.1; have z3 := HP0.out.2.1; have Hp := Lib.hid HP0.out.2.2; clear HP0; obtain ⟨W2, hW2⟩ : ∃ W2, Hid (w1.setCell ⟨F, 3, none⟩ (.int .i64 (many - 1)) = W2) := ⟨_, rfl⟩)
    rw [hW2.out]
    obtain ⟨c4, hrow, hrest⟩ := Hp.out _ hW2.out
    have Hrow := Lib.hid hrow
    have Hrest := Lib.hid hrest
    clear hrow hrest c3 z3
    go_wp2_with (at_builtin; refine push_one oneInt rfl (by omega) (.tmp 29) (.tmp 31) (.int .i64 v) rfl Hrow.out (Nat.zero_le _) hl rfl rfl rfl rfl rfl ?_; intro v' w3 hown' hg3 hblk3 hb3; go_frame; have HR := Lib.hid (Hrest.out _ _ hown' hg3 hblk3); obtain ⟨A', cap', rfl, _, _, _⟩ := own_form hown'; clear hown' hg3 hblk3 hb3; have c4' := HR.out.1; have z4 := HR.out.2.1; have HF := Lib.hid HR.out.2.2; clear HR)
    go_ret
    exact ⟨rfl, HF.out⟩
end
end Go.Proofs.YtbhmnmmockmibaaGreat

namespace Go.Proofs.YtbhmnmmockmibaaGreat
open Go.RowKit Go.Maps
def Fo.new (bytes entries : Int) : Fo := ⟨St.new, max bytes 0, 0, [], max entries 0, 0, []⟩
set_option maxHeartbeats 1000000 in
theorem inew_any (quota : Int) (w : World) (_h1 : -9223372036854775808 ≤ quota) (_h2 : quota ≤ 9223372036854775807) :
    Calls Tryz.prog 25 #[.int .i64 quota] w fun e w' => e = .returned (.pointer (some ⟨w.heap.size, 0, none⟩)) ∧ w' = w.alloc (.cells #[.int .i64 (max quota 0), .int .i64 0, .map none] 80) := by
  go_enter Tryz.func25, Tryz.ntmps25
  go_wp2
  go_ret
  exact ⟨rfl, rfl⟩
theorem max_cell {w : World} {q : Int} : (w.alloc (.cells #[.int .i64 q, .int .i64 0, .map none] 80)).cell? ⟨w.heap.size, 0, none⟩ = some (.int .i64 q) ∧ (w.alloc (.cells #[.int .i64 q, .int .i64 0, .map none] 80)).cell? ⟨w.heap.size, 1, none⟩ = some (.int .i64 0) ∧ (w.alloc (.cells #[.int .i64 q, .int .i64 0, .map none] 80)).cell? ⟨w.heap.size, 2, none⟩ = some (.map none) := by
  have h := heap_alloc_new w (.cells #[.int .i64 q, .int .i64 0, .map none] 80)
  exact ⟨by rw [cell_of_row _ _ 0 _ _ _ h]; rfl, by rw [cell_of_row _ _ 1 _ _ _ h]; rfl, by rw [cell_of_row _ _ 2 _ _ _ h]; rfl⟩
theorem FS.made (bytes entries : Int) (h2 : bytes ≤ 9223372036854775807) (h3 : entries ≤ 9223372036854775807) {w w1 : World} (hb : Below w.heap.size w w1) :
    FS w (fun _ => False) w1.heap.size (Fo.new bytes entries) 0 (w1.alloc (.cells #[.map none, .slice none 0 0, .int .i64 (max entries 0), .int .i64 0, .slice none 0 0, .int .i64 (max bytes 0), .int .i64 0, .map none] 84)) := by
  have htop := heap_alloc_new w1 (.cells #[.map none, .slice none 0 0, .int .i64 (max entries 0), .int .i64 0, .slice none 0 0, .int .i64 (max bytes 0), .int .i64 0, .map none] 84)
  refine ⟨⟨fun b => if b = w1.heap.size then 1 else 0, .map none, .slice none 0 0, .slice none 0 0, none, ⟨?_, ?_, World.ownsRow_nil _ _ _ _, fun r h => (by cases h), fun k hk => ?_, fun k hk => ?_, fun k h => h.elim, hb.alloc hb.size _⟩⟩, ?_⟩
  · exact ⟨if_pos rfl, fun _ _ => rfl, .map none, .slice none 0 0, htop, .inl ⟨rfl, rfl⟩, [], rfl, World.ownsRow_nil _ _ _ _, fun r h => (by cases h), fun p h => (by simp at h)⟩
  · exact ⟨htop, fun b hb => (by cases hb), fun _ => rfl, fun f hf => (by cases hf), List.Pairwise.nil⟩
  · rcases hk with e | e | ⟨f, hf, _⟩
    · exact .inl e
    · cases e
    · cases hf
  · by_cases e : k = w1.heap.size
    · subst e
      exact ⟨hb.size, by simp⟩
    · exact absurd (if_neg e) hk
  · exact ⟨Good.new 0, fun pp mp => ⟨⟨by show 0 ≤ max bytes 0; omega, by show max bytes 0 ≤ _; omega⟩, Nat.le_refl _, Nat.le_refl _, List.Pairwise.nil, fun f hf => (by cases hf), fun f hf => (by cases hf), fun f hf => (by cases hf)⟩, ⟨by show 0 ≤ max entries 0; omega, by show max entries 0 ≤ _; omega⟩, rfl, Nat.le_refl _, fun z hz => (by cases hz)⟩
set_option maxHeartbeats 1000000 in
theorem fnew_any (bytes entries : Int) (w : World) (h1 : -9223372036854775808 ≤ bytes) (h2 : bytes ≤ 9223372036854775807) (_h3 : -9223372036854775808 ≤ entries) (h4 : entries ≤ 9223372036854775807) :
    Calls Tryz.prog 8 #[.int .i64 bytes, .int .i64 entries] w fun e w' => ∃ F, e = .returned (.pointer (some ⟨F, 0, none⟩)) ∧ FS w (fun _ => False) F (Fo.new bytes entries) 0 w' := by
  have hn := Lib.hid (inew_any bytes w h1 h2)
  have hm := Lib.hid (FS.made bytes entries h2 h4 (below_new w (.cells #[.int .i64 (max bytes 0), .int .i64 0, .map none] 80)))
  obtain ⟨q, hq⟩ : ∃ q, Hid (max bytes 0 = q) := ⟨_, rfl⟩
  rw [hq.out] at hn hm
  obtain ⟨c0, c1, c2⟩ := max_cell (w := w) (q := q)
  rw [World.size_alloc] at hm
  clear h1 h2
  go_enter Tryz.func8, Tryz.ntmps8
  go_wp2_with (go_at_call 25; refine hn.out.mono ?_; rintro e w1 ⟨rfl, rfl⟩)
  go_ret
  exact ⟨_, rfl, hm.out⟩
end Go.Proofs.YtbhmnmmockmibaaGreat
