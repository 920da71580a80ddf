/- The walk of the chapter's examples (works): they hold. Conditions: none. -/
import Derived.Test.YtbhmnmmockmibaaGreatKpFoAl
namespace Go.Proofs.YtbhmnmmockmibaaGreat
open Go.RowKit Go.Maps
def F7 (v0 : Value) (Lb j : Nat) (cv : Value) : Nat → Value → World → Prop
  | 0, v, _ => v = v0
  | 1, v, _ => v = .slice (some ⟨Lb, 0, none⟩) 7 7
  | 2, v, _ => v = .int .i64 (j : Int)
  | 3, v, _ => v = .pointer (some ⟨Lb, 0 + j * 4, none⟩)
  | 4, v, _ => v = cv
  | _, _, _ => True
theorem F7.keep {v0 cv : Value} {Lb j : Nat} : ∀ i u w w', F7 v0 Lb j cv i u w → F7 v0 Lb j cv i u w'
  | 0, _, _, _, h | 1, _, _, _, h | 2, _, _, _, h | 3, _, _, _, h | 4, _, _, _, h => h
  | _ + 5, _, _, _, _ => trivial
structure WkSt (w w1 W5 : World) (F R0 Lb j : Nat) (wr : World) (g : Nat) (Y : Nat → Prop) (cs : Array Value) : Prop where
  fs : FS w Y F (wkS g j) (2 * j) wr
  box : wr.heap[R0]? = some (.cells cs 36 (0, 0))
  ref : RefF wr (fun b => Fr w Y b ∨ b = R0) (.agg cs) (wkS g j)
  inv : (wkS g j).Inv
  calls : CaAt wr (fun b => Fr w Y b ∨ b = R0) Lb wkL
  y : ∀ b, w1.heap.size ≤ b → b < W5.heap.size → Y b
def zW : Sl := ⟨5, 6, 7, 8, 9, 37, 38, 31, 39, 40⟩
def dW : List Nv := [⟨10, 12, 5, 39, 36, zrf⟩, ⟨11, 13, 6, 40, 53, zres⟩]
theorem keyW : KeyS dW := by
  refine ⟨?_, ?_⟩
  · intro e he e' he' h
    simp only [dW, List.mem_cons, List.not_mem_nil, or_false] at he he'
    rcases he with rfl | rfl <;> rcases he' with rfl | rfl <;> first | rfl | (simp at h)
  · intro e he e' he'
    simp only [dW, List.mem_cons, List.not_mem_nil, or_false] at he he'
    rcases he with rfl | rfl <;> rcases he' with rfl | rfl <;> decide
theorem offW {i d : Nat} (hi : i < 10) (hd : 6 < d) : ∀ e ∈ dW, i ≠ e.i ∧ i ≠ e.s ∧ d ≠ e.d := by
  intro e he
  simp only [dW, List.mem_cons, List.not_mem_nil, or_false] at he
  rcases he with rfl | rfl <;> (refine ⟨?_, ?_, ?_⟩ <;> simp only <;> omega)
theorem srcW {i d : Nat} {ops : List Oper} (hd : d ≠ 39 ∧ d ≠ 40) : ∀ e ∈ dW, d = e.src → ∀ L : Array Bool, Closed ops L → L.getD i false = false → L.getD e.s false = false := by
  intro e he h
  simp only [dW, List.mem_cons, List.not_mem_nil, or_false] at he
  rcases he with rfl | rfl
  · exact absurd h hd.1
  · exact absurd h hd.2
theorem wkL_small : ∀ {j : Nat} {x : Cc}, wkL[j]? = some x → x.k ≤ 255 ∧ x.n.length ≤ 80 ∧ x.t.length ≤ 80 ∧ x.l.length ≤ 60
  | 0, _, h | 1, _, h | 2, _, h | 3, _, h | 4, _, h | 5, _, h | 6, _, h => by injection h with h; subst h; decide
  | j + 7, _, h => by cases h
def RErr (w : World) (g : Nat) (e : Int) : Prop := ∃ u v, w.heap[g]? = some (.cells #[.int .i64 e, u, v] 51 (0, 0))
theorem RErr.keep {w w' : World} {X : Nat → Prop} {g : Nat} {e : Int} (h : RErr w g e) (ht : Touch X w w') (hx : ¬ X g) : RErr w' g e := by
  obtain ⟨u, v, h⟩ := h
  exact ⟨u, v, ht.heap hx h⟩
theorem RErr.cell {w : World} {g : Nat} {e : Int} (h : RErr w g e) : w.cell? ⟨g, 0, none⟩ = some (.int .i64 e) := by
  obtain ⟨u, v, h⟩ := h
  exact (tri_cell h).1
theorem size_fr10 : (Tryz.prog.info? 51).map (·.size) = some 3 := by kernel_rfl
def T13 : List (Nat × Nat × Int) := [(4, 58, 0), (9, 63, 81), (12, 66, 2)]
def d13 : List Nv := [⟨13, 16, 8, 58, 51, zres⟩, ⟨14, 17, 9, 63, 51, zres⟩, ⟨15, 18, 10, 66, 51, zres⟩]
def P13 (L : Array Bool) (s : Fo) : Prop := (L.getD 4 false = true → ∃ g, s = wk1 g) ∧ (L.getD 4 false = false → s = Fo.new 10 3)
theorem P13.off {i : Nat} (hi : i ≠ 4) (L : Array Bool) (s : Fo) (h : P13 L s) : P13 (L.setIfInBounds i true) s := by
  have e : (L.setIfInBounds i true).getD 4 false = L.getD 4 false := offL (js := [4]) (by simpa using hi) 4 (by simp)
  unfold P13
  rw [e]
  exact h
theorem key13 : KeyS d13 := by
  refine ⟨?_, ?_⟩
  · intro e he e' he' h
    simp only [d13, List.mem_cons, List.not_mem_nil, or_false] at he he'
    rcases he with rfl | rfl | rfl <;> rcases he' with rfl | rfl | rfl <;> first | rfl | (simp at h)
  · intro e he e' he'
    simp only [d13, List.mem_cons, List.not_mem_nil, or_false] at he he'
    rcases he with rfl | rfl | rfl <;> rcases he' with rfl | rfl | rfl <;> decide
theorem off13 {i d : Nat} (hi : i < 13) (hd : 50 < d) : ∀ e ∈ d13, i ≠ e.i ∧ i ≠ e.s ∧ d ≠ e.d := by
  intro e he
  simp only [d13, List.mem_cons, List.not_mem_nil, or_false] at he
  rcases he with rfl | rfl | rfl <;> (refine ⟨?_, ?_, ?_⟩ <;> simp only <;> omega)
theorem src13 {i d : Nat} {ops : List Oper} (hd : d ≠ 58 ∧ d ≠ 63 ∧ d ≠ 66) : ∀ e ∈ d13, d = e.src → ∀ L : Array Bool, Closed ops L → L.getD i false = false → L.getD e.s false = false := by
  intro e he h
  simp only [d13, List.mem_cons, List.not_mem_nil, or_false] at he
  rcases he with rfl | rfl | rfl
  · exact absurd h hd.1
  · exact absurd h hd.2.1
  · exact absurd h hd.2.2
theorem srcOf {d : List Nv} {v0 : Nv} {i : Nat} {ops : List Oper} (hu : ∀ v ∈ d, v0.src = v.src → v = v0) (h0 : ∀ L : Array Bool, Closed ops L → L.getD i false = false → L.getD v0.s false = false) : ∀ v ∈ d, v0.src = v.src → ∀ L : Array Bool, Closed ops L → L.getD i false = false → L.getD v.s false = false :=
  fun v hv e L hc hn => by rw [hu v hv e]; exact h0 L hc hn
def F13 (G Lb : Nat) (cv : Value) : Nat → Value → World → Prop
  | 0, v, _ => v = .pointer (some ⟨G, 0, none⟩)
  | 1, v, _ => v = .slice (some ⟨Lb, 0, none⟩) 7 7
  | 2, v, _ => v = .pointer (some ⟨Lb, 0, none⟩)
  | 3, v, _ => v = cv
  | 5, v, _ => v = .pointer (some ⟨G, 0, none⟩)
  | 6, v, _ => v = .slice (some ⟨Lb, 0, none⟩) 7 7
  | 7, v, _ => v = .pointer (some ⟨Lb, 0, none⟩)
  | 8, v, _ => v = cv
  | 10, v, _ => v = .pointer (some ⟨G, 0, none⟩)
  | 11, v, _ => v = fcv 1 [] [] none 0 0
  | _, _, _ => True
theorem F13.keep {G Lb : Nat} {cv : Value} : ∀ i u w w', F13 G Lb cv i u w → F13 G Lb cv i u w'
  | 0, _, _, _, h | 1, _, _, _, h | 2, _, _, _, h | 3, _, _, _, h | 5, _, _, _, h | 6, _, _, _, h | 7, _, _, _, h | 8, _, _, _, h | 10, _, _, _, h | 11, _, _, _, h => h
  | 4, _, _, _, _ | 9, _, _, _, _ | _ + 12, _, _, _, _ => trivial
theorem freeze_lits {w : World} {g k : Nat} {g' : Nat} {l' : List UInt8} (h : LitG w g' l') : LitG (w.freeze ⟨g, k, none⟩ 1) g' l' := by
  obtain ⟨fr, h⟩ := h
  by_cases e : g' = g
  · subst e
    exact ⟨_, by rw [heap_freezeG h g', if_pos rfl]⟩
  · refine ⟨fr, ?_⟩
    unfold World.freeze
    rw [if_neg (by decide)]
    show (w.heap.modify g _)[g']? = _
    rw [Array.getElem?_modify, if_neg fun h => e h.symm]
    exact h
theorem convert_litH {w : World} {g : Nat} {c : UInt8} (hl : LitG w g [c]) : ∃ w', (convert 38 38 (.slice (some ⟨g, 0, none⟩) 1 1)).run Tryz.prog w = .ok (.slice (some ⟨g, 0, none⟩) 1 1) w' ∧ LitG w' g [c] ∧ Touch (fun b => b = g) w w' ∧ w'.heap.size = w.heap.size ∧ ∀ g' l', LitG w g' l' → LitG w' g' l' := by
  have hl0 := hl
  obtain ⟨fr, h⟩ := hl
  have hsh : w.shape? g = some (5, 1) := by
    unfold World.shape?
    rw [h]
    rfl
  have hsize : (w.freeze ⟨g, 1, none⟩ 1).heap.size = w.heap.size := by
    unfold World.freeze
    rw [if_neg (by decide)]
    exact Array.size_modify
  refine ⟨w.freeze ⟨g, 1, none⟩ 1, ?_, freeze_lits hl0, ⟨?_, ?_, ?_, by rw [hsize]; exact Nat.le_refl _, fun k _ hk => by rw [heap_freezeG h k, if_neg hk]⟩, hsize, fun _ _ h => freeze_lits h⟩
  · simp [convert, run_underlying Tryz.underlying38, run_underlying Tryz.underlying5, markStringish, hsh]
  · unfold World.freeze
    rw [if_neg (by decide)]
  · unfold World.freeze
    rw [if_neg (by decide)]
  · unfold World.freeze
    rw [if_neg (by decide)]
def T14 : List (Nat × Nat × Int) := [(4, 71, 80), (8, 75, 90)]
def M14 : List Mk := [⟨1, 68, [120], fun g => .slice (some ⟨g, 0, none⟩) 1 1⟩, ⟨2, 69, [120], fun g => .slice (some ⟨g, 0, none⟩) 1 1⟩, ⟨3, 70, [120], fun g => fcv 2 [99] [] (some ⟨g, 0, none⟩) 1 1⟩, ⟨6, 73, noughts 11, fun g => .slice (some ⟨g, 0, none⟩) 11 11⟩, ⟨7, 74, noughts 11, fun g => fcv 2 [97] [] (some ⟨g, 0, none⟩) 11 11⟩]
def d14 : List Nv := [⟨9, 11, 11, 71, 51, zres⟩, ⟨10, 12, 12, 75, 51, zres⟩]
theorem key14 : KeyS d14 := by
  refine ⟨?_, ?_⟩
  · intro e he e' he' h
    simp only [d14, List.mem_cons, List.not_mem_nil, or_false] at he he'
    rcases he with rfl | rfl <;> rcases he' with rfl | rfl <;> first | rfl | (simp at h)
  · intro e he e' he'
    simp only [d14, List.mem_cons, List.not_mem_nil, or_false] at he he'
    rcases he with rfl | rfl <;> rcases he' with rfl | rfl <;> decide
theorem off14 {i d : Nat} (hi : i < 9) (hd : 50 < d) : ∀ e ∈ d14, i ≠ e.i ∧ i ≠ e.s ∧ d ≠ e.d := by
  intro e he
  simp only [d14, List.mem_cons, List.not_mem_nil, or_false] at he
  rcases he with rfl | rfl <;> (refine ⟨?_, ?_, ?_⟩ <;> simp only <;> omega)
theorem src14 {i d : Nat} {ops : List Oper} (hd : d ≠ 71 ∧ d ≠ 75) : ∀ e ∈ d14, d = e.src → ∀ L : Array Bool, Closed ops L → L.getD i false = false → L.getD e.s false = false := by
  intro e he h
  simp only [d14, List.mem_cons, List.not_mem_nil, or_false] at he
  rcases he with rfl | rfl
  · exact absurd h hd.1
  · exact absurd h hd.2
theorem get14 {m m' : Mk} (h : m ∈ M14) (h' : m' ∈ M14) (e : m.i = m'.i ∨ m.d = m'.d) : m = m' := by
  simp only [M14, List.mem_cons, List.not_mem_nil, or_false] at h h'
  rcases h with rfl | rfl | rfl | rfl | rfl <;> rcases h' with rfl | rfl | rfl | rfl | rfl <;> first | rfl | (simp at e)
def F14 (G : Nat) : Nat → Value → World → Prop
  | 0, v, _ => v = .pointer (some ⟨G, 0, none⟩)
  | 5, v, _ => v = .pointer (some ⟨G, 0, none⟩)
  | _, _, _ => True
theorem F14.keep {G : Nat} : ∀ i u w w', F14 G i u w → F14 G i u w'
  | 0, _, _, _, h | 5, _, _, _, h => h
  | 1, _, _, _, _ | 2, _, _, _, _ | 3, _, _, _, _ | 4, _, _, _, _ | _ + 6, _, _, _, _ => trivial
theorem flx_one (w : World) (T : TypeId) (v : ByteArray) (hv : v = txt [98]) : FlX (w.alloc (.cells #[.string v, .slice none 0 0] T)) (fun _ => False) (some ⟨w.heap.size, 0, none⟩) [⟨[98], none, 0, []⟩] := by
  subst hv
  refine ⟨⟨rfl, fun _ => ⟨_, rfl, by simp, fun e => e, fun j u hu => ?_⟩⟩, fun e he => ?_⟩
  · rw [lit_add, Nat.zero_add, cell_of_row _ _ j _ _ _ (heap_alloc_new w _), List.getElem?_toArray]
    exact hu
  · rw [List.mem_singleton] at he
    subst he
    exact RdX.none_
theorem m14a {m : Mk} (h : m ∈ M14) : m.i ≠ 4 ∧ m.d ≠ 71 := by
  simp only [M14, List.mem_cons, List.not_mem_nil, or_false] at h
  rcases h with rfl | rfl | rfl | rfl | rfl <;> simp
theorem m14b {m : Mk} (h : m ∈ M14) : m.i ≠ 8 ∧ m.d ≠ 75 := by
  simp only [M14, List.mem_cons, List.not_mem_nil, or_false] at h
  rcases h with rfl | rfl | rfl | rfl | rfl <;> simp
theorem one_file {es : List Fv} (h : es.map Fv.say = [([98], [])]) : es.length ≤ 1000 ∧ ∀ e ∈ es, e.l.length ≤ 140737488351232 := by
  rcases es with _ | ⟨e, _ | ⟨e', r⟩⟩
  · cases h
  · refine ⟨by simp, fun x hx => ?_⟩
    rw [List.mem_singleton] at hx
    subst hx
    injection h with h
    have : x.l = [] := congrArg Prod.snd h
    rw [this]
    decide
  · simp at h
set_option maxHeartbeats 16000000 in
set_option maxRecDepth 100000 in
theorem works_any (w : World) : Calls Tryz.prog 7 #[] w fun e w' => e = .returned (.bool true) ∧ Below w.heap.size w w' := by
  have hnew := Lib.hid (fnew_any (w := w) 10 3 (by omega) (by omega) (by omega) (by omega))
  have kc := fun (W : World) (C : Array Value) (n c : Nat) => Lib.run_convert_bytes_const (P := Tryz.prog) W 38 5 C n c Tryz.underlying38 Tryz.underlying5
  go_enter Tryz.func7, Tryz.ntmps7
  go_upto_region 2 with (go_at_call 8; refine hnew.out.mono ?_; rintro e w1 ⟨F, rfl, h1⟩)
  have H1 := Lib.hid h1
  clear h1 hnew
  have hrn := Lib.hid (rnewF_any (X := fun b => b < w1.heap.size) 10 3 w1 (by omega) (by omega) (by omega) (by omega) fun _ e => e)
  go_upto_region 3 with (first
    | (go_at_call 9; refine hrn.out.mono ?_; rintro e w2 ⟨u, rfl, hb2, hu2⟩; obtain ⟨cs, rfl, hsv⟩ := hu2.agg; have Hb2 := Lib.hid hb2; have Hu2 := Lib.hid hu2; have Hsv := Lib.hid hsv; clear hb2 hu2 hsv)
    | (refine wpList_store_row rfl 36 (.tmp 2) (.tmp 14) rfl w2.heap.size _ rfl rfl _ _ (heap_alloc_new w2 _) (by rw [Hsv.out.n]; exact size_rf) (by rw [Hsv.out.n]; rfl) Hsv.out.one ?_))
  go_frame
  obtain ⟨R0, hR0⟩ : ∃ g, Hid (w2.heap.size = g) := ⟨_, rfl⟩
  obtain ⟨W3, hW3⟩ : ∃ W3, Hid ((w2.alloc (.cells #[.slice none 0 0, .slice none 0 0, .slice none 0 0, .int .i64 0, .int .i64 0, .int .i64 0, .slice none 0 0] 36)).setRow w2.heap.size cs = W3) := ⟨_, rfl⟩
  have hbox3 : Hid (W3.heap[R0]? = some (.cells cs 36 (0, 0))) := by rw [← hW3.out, ← hR0.out]; exact setRow_heap _ _ _ _ _ _ (heap_alloc_new w2 _)
  have hb3 : Hid (Below w2.heap.size w2 W3) := by rw [← hW3.out]; exact below_setRow (below_new _ _) (Nat.le_refl _) _
  have hs3 := Lib.hid (show W3.heap.size = w2.heap.size + 1 by rw [← hW3.out, size_setRow]; simp)
  rw [hW3.out, hR0.out]
  go_upto_region 5 with fail
  obtain ⟨Wb, hWb⟩ : ∃ g, Hid (W3.heap.size = g) := ⟨_, rfl⟩
  obtain ⟨Lb, hLb⟩ : ∃ g, Hid (W3.heap.size + 1 = g) := ⟨_, rfl⟩
  rw [hLb.out, hWb.out]
  obtain ⟨W5, hW5⟩ : ∃ W5, Hid ((W3.alloc (.cells #[.int .u8 120, .int .u8 121] 5 (2, 3))).alloc (.cells #[.int .u8 1, .string ⟨#[97]⟩, .string ⟨#[]⟩, .slice none 0 0, .int .u8 2, .string ⟨#[97]⟩, .string ⟨#[]⟩, .slice (some ⟨Wb, 0, none⟩) 2 2, .int .u8 5, .string ⟨#[97]⟩, .string ⟨#[98]⟩, .slice none 0 0, .int .u8 8, .string ⟨#[98]⟩, .string ⟨#[]⟩, .slice none 0 0, .int .u8 6, .string ⟨#[97]⟩, .string ⟨#[]⟩, .slice none 0 0, .int .u8 7, .string ⟨#[]⟩, .string ⟨#[]⟩, .slice none 0 0, .int .u8 4, .string ⟨#[]⟩, .string ⟨#[]⟩, .slice none 0 0] 40) = W5) := ⟨_, rfl⟩
  have hs5 := Lib.hid (show W5.heap.size = W3.heap.size + 2 by rw [← hW5.out]; simp)
  have hb5 : Hid (Below W3.heap.size W3 W5) := by rw [← hW5.out]; exact (below_new _ _).alloc (by simp) _
  have hLrow : Hid (W5.heap[Lb]? = some (.cells (wkR Wb).toArray 40 (0, 0))) := by
    rw [← hW5.out, ← hLb.out]
    have := heap_alloc_new (W3.alloc (.cells #[.int .u8 120, .int .u8 121] 5 (2, 3))) (.cells (wkR Wb).toArray 40)
    rw [World.size_alloc] at this
    exact this
  have hWrow : Hid (W5.heap[Wb]? = some (.cells #[.int .u8 120, .int .u8 121] 5 (2, 3))) := by
    rw [← hW5.out, ← hWb.out]
    rw [heap_alloc_old _ _ (by simp)]
    exact heap_alloc_new _ _
  rw [hW5.out]
  have hlt := Lib.hid (show w1.heap.size ≤ R0 ∧ R0 < Wb ∧ Wb < Lb ∧ Lb < W5.heap.size by
    have := Hb2.out.size
    have := hR0.out
    have := hs3.out
    have := hWb.out
    have := hLb.out
    have := hs5.out
    omega)
  have hst : Hid (WkSt w w1 W5 F R0 Lb 0 W5 0 (fun b => w1.heap.size ≤ b ∧ b < W5.heap.size) cs) := by
    have hb15 : Below w1.heap.size w1 W5 := (Hb2.out.trans (hb3.out.mono Hb2.out.size)).trans (hb5.out.mono (Nat.le_trans Hb2.out.size hb3.out.size))
    refine ⟨H1.out.more hb15 fun k hk => .inr hk, (hb5.out.block _ (Array.getElem?_eq_some_iff.1 hbox3.out).1).trans hbox3.out, ?_, Fo.Inv.new _ _, ?_, fun b h1 h2 => ⟨h1, h2⟩⟩
    · refine (Hu2.out.high (hb3.out.trans (hb5.out.mono hb3.out.size))).mono fun b hb e => ?_
      rcases e with e | e
      · rcases Nat.lt_or_ge b w1.heap.size with h | h
        · exact .inl h
        · exact absurd ⟨h, hb⟩ e.2
      · right; rw [e, ← hR0.out]; exact Nat.le_refl _
    · refine wk_calls hLrow.out hWrow.out ?_ ?_
      · rintro (e | e)
        · exact e.2 ⟨by have := hlt.out; omega, hlt.out.2.2.2⟩
        · have := hlt.out; omega
      · rintro (e | e)
        · exact e.2 ⟨by have := hlt.out; omega, by have := hlt.out; omega⟩
        · have := hlt.out; omega
  clear hrn
  go_loopw [4] (fun i wr => ∃ (j g : Nat) (Y : Nat → Prop) (cs : Array Value), j ≤ 7 ∧ i = .int .i64 (j : Int) ∧ Hid (WkSt w w1 W5 F R0 Lb j wr g Y cs)) (fun i _ => 7 - (intOf i).toNat)
  case atStart => exact ⟨0, 0, _, _, by omega, rfl, hst⟩
  case round =>
    obtain ⟨j, g, Y, cs, hj, rfl, hS⟩ := hrel
    by_cases hlt7 : j < 7
    · have hx : wkL[j]? = some (wkL[j]'hlt7) := List.getElem?_eq_getElem _
      obtain ⟨x, ex⟩ : ∃ x, wkL[j]'hlt7 = x := ⟨_, rfl⟩
      rw [ex] at hx
      have Hx := Lib.hid hx
      obtain ⟨Ab, cb, k0, k1, k2, k3, kb⟩ := hS.out.calls.at_ j x hx
      have Kb := Lib.hid kb
      clear hx ex kb
      have hok := Lib.hid hS.out.fs.ok
      have hwell := Lib.hid (hS.out.inv.well hok.out)
      go_upto_region 7 with fail
      obtain ⟨o, ho⟩ : ∃ o, Hid ((wkS g j).doC 0 x.k x.n x.t x.l = o) := ⟨_, rfl⟩
      go_cut [5, 6] from 31 to 40 (fun s5 s6 wx => ∃ (g5 g6 : Nat) (cs' ds : Array Value), s5 = .pointer (some ⟨g5, 0, none⟩) ∧ s6 = .pointer (some ⟨g6, 0, none⟩) ∧ Hid (wx.heap[g5]? = some (.cells cs' 36 (0, 0))) ∧ Hid (wx.heap[g6]? = some (.cells ds 53 (0, 0))) ∧ Hid (Below wr.heap.size wr wx) ∧ Hid (RefF wx (fun b => (b < wr.heap.size ∧ (Fr w Y b ∨ b = R0)) ∨ b = g5 ∨ b = g6) (.agg cs') o.1) ∧ Hid (ReR wx (fun b => (b < wr.heap.size ∧ (Fr w Y b ∨ b = R0)) ∨ b = g5 ∨ b = g6) (.agg ds) o.2.1 o.2.2.1 o.2.2.2) ∧ Hid ((wr.heap.size ≤ g5 ∧ g5 < wx.heap.size) ∧ (wr.heap.size ≤ g6 ∧ g6 < wx.heap.size) ∧ g5 ≠ g6))
      case first =>
        rename_i J K1 hJ hK
        have ho' := ho.out
        subst ho'
        refine wp_region_full (n := 106) (F7 (.agg cs) Lb j (fcv (x.k : Int) x.n x.t Ab x.l.length cb)) (KX (S7 zW wr (fun b => b < wr.heap.size ∧ (Fr w Y b ∨ b = R0)) (x.k : Int) x.n x.t x.l ((wkS g j).doC 0 x.k x.n x.t x.l)) dW) (by kernel_rfl) (by kernel_rfl) rfl ?_ ?_ ?_
        · intro L hL
          exact KX.start hL ⟨(Below.refl _ _).drew, fun _ h => h.elim, fun h => (by rw [hL] at h; cases h), fun h => (by rw [hL] at h; cases h)⟩
        rotate_left
        · intro L b' w' hall hsz hd hs hc hf
          obtain ⟨Yb, hc⟩ := hc
          obtain ⟨g5, y5, l5, e5, h5, _⟩ := hc.has ⟨10, 12, 5, 39, 36, zrf⟩ (by simp [dW]) (hall 10 (by decide))
          obtain ⟨g6, y6, l6, e6, h6, _⟩ := hc.has ⟨11, 13, 6, 40, 53, zres⟩ (by simp [dW]) (hall 11 (by decide))
          obtain ⟨cs', e39, h5⟩ := h5 (hall 12 (by decide))
          obtain ⟨ds, e40, h6⟩ := h6 (hall 13 (by decide))
          obtain ⟨u, r, _, hu, hr, _, e8, e9⟩ := hc.st.done (hall 6 (by decide))
          have eu : u = .agg cs' := (e8 (hall 8 (by decide))).symm.trans e39
          have er : r = .agg ds := (e9 (hall 9 (by decide))).symm.trans e40
          subst eu
          subst er
          have hne : g5 ≠ g6 := fun e => hc.ne ⟨10, 12, 5, 39, 36, zrf⟩ (by simp [dW]) ⟨11, 13, 6, 40, 53, zres⟩ (by simp [dW]) (by decide) (hall 10 (by decide)) (hall 11 (by decide)) (by rw [e5, e6, e])
          have hmx : ∀ b, b < w'.heap.size → ((b < wr.heap.size ∧ (Fr w Y b ∨ b = R0)) ∨ b = g5 ∨ b = g6) → ((b < wr.heap.size ∧ (Fr w Y b ∨ b = R0)) ∨ Yb b) := fun b _ e => e.imp id fun e => by
            rcases e with e | e
            · rw [e]; exact y5
            · rw [e]; exact y6
          refine hK _ _ (Met.intro (hJ _ _ ?_))
          exact ⟨b'.tmps.getD 5 undef, b'.tmps.getD 6 undef, b'.tmps.getD 31 undef, b'.tmps.getD 32 undef, b'.tmps.getD 33 undef, b'.tmps.getD 34 undef, b'.tmps.getD 35 undef, b'.tmps.getD 36 undef, b'.tmps.getD 37 undef, b'.tmps.getD 38 undef, b'.tmps.getD 39 undef, b'.tmps.getD 40 undef, ⟨g5, g6, cs', ds, e5, e6, h5, h6, hc.st.below, hu.mono hmx, hr.mono hmx, ⟨⟨(hc.st.box g5 y5).1, l5⟩, ⟨(hc.st.box g6 y6).1, l6⟩, hne⟩⟩, (act_known hsz hd hs).trans (by kernel_rfl)⟩
        have hsm := wkL_small Hx.out
        have K0 : wr.cell? ⟨Lb, 0 + j * 4, none⟩ = some (.int .u8 (x.k : Int)) := by rw [Nat.zero_add]; exact k0
        have K1 : wr.cell? ⟨Lb, 0 + j * 4 + 1, none⟩ = some (.string (txt x.n)) := by rw [Nat.zero_add]; exact k1
        have K2 : wr.cell? ⟨Lb, 0 + j * 4 + 2, none⟩ = some (.string (txt x.t)) := by rw [Nat.zero_add]; exact k2
        have K3 : wr.cell? ⟨Lb, 0 + j * 4 + 3, none⟩ = some (.slice Ab x.l.length cb) := by rw [Nat.zero_add]; exact k3
        have hLr := hS.out.calls.lt
        have hcell : ∀ w' o, Below wr.heap.size wr w' → w'.cell? ⟨Lb, o, none⟩ = wr.cell? ⟨Lb, o, none⟩ := fun w' o hb => (Touch.of (X := fun _ => False) hb).cell (p := ⟨Lb, o, none⟩) hLr fun e => e
        have hRl := (Array.getElem?_eq_some_iff.1 hS.out.box).1
        have hF : ∀ i u w w', Below w.heap.size w w' → F7 (.agg cs) Lb j (fcv (x.k : Int) x.n x.t Ab x.l.length cb) i u w → F7 (.agg cs) Lb j (fcv (x.k : Int) x.n x.t Ab x.l.length cb) i u w' := fun i u w w' _ h => F7.keep i u w w' h
        have hsv := hS.out.ref.sev rfl
        refine OpsFu.cons _ _ (OpFu.readS (d := 32) rfl (by decide) (offW (by decide) (by decide)) (srcW (by decide)) fun L b w' Y' hcl hni hlt hsz hdep hs hS' hg => ⟨rfl, _, exec_loadRow rfl (hs 2 (by kernel_rfl)) ((hS'.below.block _ hRl).trans hS.out.box) Tryz.underlying36 rfl (by rw [hsv.n]; exact size_rf), rfl, hS'.off (by decide) hsz (by decide) (by decide)⟩) ?_
        refine OpsFu.cons _ _ (OpFu.readS (d := 33) rfl (by decide) (offW (by decide) (by decide)) (srcW (by decide)) fun L b w' Y' hcl hni hlt hsz hdep hs hS' hg => ⟨rfl, _, exec_move rfl (hs 3 (by kernel_rfl)), rfl, hS'.off (by decide) hsz (by decide) (by decide)⟩) ?_
        refine OpsFu.cons _ _ (OpFu.readS (d := 34) rfl (by decide) (offW (by decide) (by decide)) (srcW (by decide)) fun L b w' Y' hcl hni hlt hsz hdep hs hS' hg => ⟨rfl, _, exec_move rfl (hs 4 (by kernel_rfl)), rfl, hS'.off (by decide) hsz (by decide) (by decide)⟩) ?_
        refine OpsFu.cons _ _ (OpFu.readS (d := 35) rfl (by decide) (offW (by decide) (by decide)) (srcW (by decide)) fun L b w' Y' hcl hni hlt hsz hdep hs hS' hg => ⟨rfl, _, exec_atCall (k := j) rfl (dep hg 0 rfl rfl rfl rfl) (dep hg 1 rfl rfl rfl rfl) hlt7, (by rw [lit_add]; rfl), hS'.off (by decide) hsz (by decide) (by decide)⟩) ?_
        refine OpsFu.cons _ _ (OpFu.readS (d := 36) rfl (by decide) (offW (by decide) (by decide)) (srcW (by decide)) fun L b w' Y' hcl hni hlt hsz hdep hs hS' hg => ⟨rfl, _, exec_loadCall rfl (dep hg 0 rfl rfl rfl rfl) ((hcell _ _ hS'.below).trans K0) ((hcell _ _ hS'.below).trans K1) ((hcell _ _ hS'.below).trans K2) ((hcell _ _ hS'.below).trans K3), rfl, hS'.off (by decide) hsz (by decide) (by decide)⟩) ?_
        refine OpsFu.cons _ _ (OpFu.copy7 (x := .tmp 36) (Ab := Ab) (cb := cb) (Bb := wr.heap.size) rfl rfl (by decide) (offW (by decide) (by decide)) (srcW (by decide)) (by decide) (by decide) rfl rfl (fun b w hg => dep hg 0 rfl rfl rfl rfl) (by omega) (Nat.le_refl _) Kb.out.reads hF (fun _ _ => trivial)) ?_
        refine OpsFu.cons _ _ (OpFu.done7 (x := .tmp 32) (v0 := .agg cs) rfl rfl (by decide) (by decide) (offW (by decide) (by decide)) (srcW (by decide)) (by decide) (by decide) rfl rfl (fun b w hg => dep hg 0 rfl rfl rfl rfl) (fun L hd => hd _ (List.mem_of_getElem? (i := 1) rfl) rfl) (fun L hcl hn => (have h7 := notyet hcl (ho := (rfl : _[7]? = _)) (he := (rfl : _[0]? = _)) rfl hn; ⟨h7, notyet hcl (ho := (rfl : _[8]? = _)) (he := (rfl : _[0]? = _)) rfl h7, notyet hcl (ho := (rfl : _[9]? = _)) (he := (rfl : _[0]? = _)) rfl h7⟩)) (fun _ h => h.1) (hS.out.ref.mono fun _ _ e => e.2) hok.out (by omega) hwell.out hsm.1 (by omega) (by omega) hsm.2.2.2 hF (fun _ _ => trivial)) ?_
        refine OpsFu.cons _ _ (OpFu.move7 rfl rfl (by decide) (offW (by decide) (by decide)) (srcW (by decide)) (by decide) (by decide) rfl rfl (fun L hcl hd => hd _ (List.mem_of_getElem? (i := 0) rfl) rfl) (fun _ _ => trivial)) ?_
        refine OpsFu.cons _ _ (OpFu.fst7 rfl rfl (by decide) (offW (by decide) (by decide)) (fun e he h L hcl hn => (by simp only [dW, List.mem_cons, List.not_mem_nil, or_false] at he; rcases he with rfl | rfl; exact notyet hcl (ho := (rfl : _[12]? = _)) (he := (rfl : _[1]? = _)) rfl hn; exact absurd h (by decide))) (by decide) (by decide) rfl rfl (fun L hcl hd => (have h7 := hd _ (List.mem_of_getElem? (i := 0) rfl) rfl; ⟨hcl 7 _ h7 rfl _ (List.mem_of_getElem? (i := 0) rfl) rfl, h7⟩)) (fun _ _ => trivial)) ?_
        refine OpsFu.cons _ _ (OpFu.snd7 rfl rfl (by decide) (offW (by decide) (by decide)) (fun e he h L hcl hn => (by simp only [dW, List.mem_cons, List.not_mem_nil, or_false] at he; rcases he with rfl | rfl; exact absurd h (by decide); exact notyet hcl (ho := (rfl : _[13]? = _)) (he := (rfl : _[1]? = _)) rfl hn)) (by decide) (by decide) rfl rfl (fun L hcl hd => (have h7 := hd _ (List.mem_of_getElem? (i := 0) rfl) rfl; ⟨hcl 7 _ h7 rfl _ (List.mem_of_getElem? (i := 0) rfl) rfl, h7⟩)) (fun _ _ => trivial)) ?_
        refine OpsFu.cons _ _ (OpFu.makeS keyW (v := ⟨10, 12, 5, 39, 36, zrf⟩) (by simp [dW]) rfl rfl (by decide) rfl (fun L hcl hn => notyet hcl (ho := (rfl : _[12]? = _)) (he := (rfl : _[0]? = _)) rfl hn) (fun _ _ => trivial) hF (fun L Y b w hsz h => (h.new _).off (by decide) hsz (by decide) (by decide)) fun b w => exec_allocRf rfl) ?_
        refine OpsFu.cons _ _ (OpFu.makeS keyW (v := ⟨11, 13, 6, 40, 53, zres⟩) (by simp [dW]) rfl rfl (by decide) rfl (fun L hcl hn => notyet hcl (ho := (rfl : _[13]? = _)) (he := (rfl : _[0]? = _)) rfl hn) (fun _ _ => trivial) hF (fun L Y b w hsz h => (h.new _).off (by decide) hsz (by decide) (by decide)) fun b w => exec_allocRr rfl) ?_
        refine OpsFu.cons _ _ (OpFu.fillS keyW (v := ⟨10, 12, 5, 39, 36, zrf⟩) (by simp [dW]) rfl rfl rfl rfl size_rf (fun i u w g xs h => F7.keep i u w _ h) (fun L hd => hd _ (List.mem_of_getElem? (i := 0) rfl) rfl) (fun L Y tm w g xs hg h => (h.fill hg xs).congr (offL (by decide)) fun _ _ => rfl) (fun L b w Y hd h _ => ?v12)) ?_
        case v12 =>
          obtain ⟨u, r, _, hu, _, _, e8, _⟩ := h.done (hd _ (List.mem_of_getElem? (i := 2) rfl) rfl)
          obtain ⟨cs', rfl, hsv'⟩ := hu.agg
          exact ⟨cs', e8 (hd _ (List.mem_of_getElem? (i := 1) rfl) rfl), hsv'.n, hsv'.one⟩
        refine OpsFu.cons _ _ (OpFu.fillS keyW (v := ⟨11, 13, 6, 40, 53, zres⟩) (by simp [dW]) rfl rfl rfl rfl size_rr (fun i u w g xs h => F7.keep i u w _ h) (fun L hd => hd _ (List.mem_of_getElem? (i := 0) rfl) rfl) (fun L Y tm w g xs hg h => (h.fill hg xs).congr (offL (by decide)) fun _ _ => rfl) (fun L b w Y hd h _ => ?v13)) (OpsFu.nil _ _)
        case v13 =>
          obtain ⟨u, r, _, _, hr, _, _, e9⟩ := h.done (hd _ (List.mem_of_getElem? (i := 9) rfl) rfl)
          obtain ⟨ds, rfl, h3, h4⟩ := hr.agg
          exact ⟨ds, e9 (hd _ (List.mem_of_getElem? (i := 1) rfl) rfl), h3, h4⟩
      obtain ⟨g5, g6, cs', ds, rfl, rfl, hg5, hg6, hbx, hux, hrx, hne⟩ := hcut
      obtain ⟨A6, n6, c6, B6, m6, d6, eds, hn6, hrd6, hm6, hbd6⟩ := hrx.out
      injection eds with eds
      subst eds
      have hrx := Lib.hid (show ReR wc _ (.agg #[.int .i64 o.2.1, .slice A6 n6 c6, .slice B6 m6 d6]) o.2.1 o.2.2.1 o.2.2.2 from ⟨A6, n6, c6, B6, m6, d6, rfl, hn6, hrd6, hm6, hbd6⟩)
      clear hn6 hrd6 hm6 hbd6
      have hsv' := Lib.hid (hux.out.sev rfl)
      have hYR : Hid (Y R0) := hS.out.y R0 hlt.out.1 (by have := hlt.out; omega)
      have hRlt := Lib.hid (Array.getElem?_eq_some_iff.1 hS.out.box).1
      obtain ⟨Y', hY'⟩ : ∃ Y' : Nat → Prop, Hid ((fun b => Y b ∨ (wr.heap.size ≤ b ∧ b < wc.heap.size)) = Y') := ⟨_, rfl⟩
      have hf8 : FS w Y' F (wkS g j) (2 * j) wc := by rw [← hY'.out]; exact hS.out.fs.more hbx.out fun k hk => hk
      have hmono : Hid (∀ b, b < wc.heap.size → (Fr w Y' b ∨ b = R0) → (b < wr.heap.size ∧ (Fr w Y b ∨ b = R0)) ∨ b = g5 ∨ b = g6) := by
        intro b hb e
        left
        rw [← hY'.out] at e
        rcases e with e | e
        · have h1 : b < wr.heap.size := by
            rcases Nat.lt_or_ge b wr.heap.size with h | h
            · exact h
            · exact absurd (.inr ⟨h, hb⟩) e.2
          exact ⟨h1, .inl ⟨e.1, fun h => e.2 (.inl h)⟩⟩
        · exact ⟨by rw [e]; exact hRlt.out, .inr e⟩
      have hu8 := hux.out.mono hmono.out
      have hr8 := hrx.out.mono hmono.out
      have hc8 := (hS.out.calls.below hbx.out).mono (Z' := fun b => Fr w Y' b ∨ b = R0) fun b hb e => by
        rcases hmono.out b hb e with h | h
        · exact h.2
        · exfalso
          rw [← hY'.out] at e
          have h5 := hne.out
          rcases e with e | e
          · rcases h with h | h
            · exact e.2 (.inr (by rw [h]; exact h5.1))
            · exact e.2 (.inr (by rw [h]; exact h5.2.1))
          · have := hRlt.out
            omega
      have hbc : Hid (wc.heap[R0]? = some (.cells cs 36 (0, 0))) := (hbx.out.block _ hRlt.out).trans hS.out.box
      obtain ⟨W8, hW8⟩ : ∃ W', Hid (wc.setRow R0 cs' = W') := ⟨_, rfl⟩
      have ht8 := Touch.row1 wc R0 cs'
      have hbox8 := setRow_heap wc R0 _ cs' _ _ hbc.out
      have hg68 := (setRow_other wc R0 g6 cs' (by have := hne.out; have := hRlt.out; omega)).trans hg6.out
      rw [hW8.out] at ht8 hbox8 hg68
      have HF8 := Lib.hid (hf8.write (ht8.mono fun b _ e => by rw [e, ← hY'.out]; exact .inl hYR.out))
      have HU8 := Lib.hid (hu8.keep (ht8.mono fun b _ e => .inr e))
      have HR8 := Lib.hid (hr8.keep (ht8.mono fun b _ e => .inr e))
      have HC8 := Lib.hid (hc8.keep (ht8.mono fun b _ e => .inr e))
      have HB8 := Lib.hid hbox8
      have HG8 := Lib.hid hg68
      clear hf8 hu8 hr8 hc8 ht8 hbox8 hg68 k0 k1 k2 k3
      obtain ⟨Ab, cb, k0, k1, k2, k3, kb⟩ := HC8.out.at_ j x Hx.out
      have Kb8 := Lib.hid kb
      clear kb
      obtain ⟨r0, r1, r2⟩ := tri_cell HG8.out
      have hsm := Lib.hid (wkL_small Hx.out)
      have hdo := Lib.hid (fun wx (hb : Below W8.heap.size W8 wx) => fdo_any (HF8.out.quiet hb).1 (by omega) hsm.out.1 (n := x.n) (t := x.t) (by have := hsm.out; omega) (by have := hsm.out; omega) (Ab := Ab) (cb := cb) (l := x.l) rfl hsm.out.2.2.2 (Nat.le_refl _) (Kb8.out.below hb).reads hwell.out.pos)
      have ho0 := Lib.hid (Fo.doC_g hok.out 0)
      have hsml := Lib.hid (fun g' => doC_small hok.out (by omega) g' x.k x.n x.t x.l)
      obtain ⟨er, her⟩ : ∃ er, Hid (o.2.1 = er) := ⟨_, rfl⟩
      rw [her.out] at r0
      go_upto_region 9 with (first
        | (refine wpList_load_row rfl 36 (.tmp 5) rfl g5 rfl _ _ _ _ hg5.out Tryz.underlying36 rfl (by rw [hsv'.out.n]; exact size_rf) ?_)
        | (refine wpList_store_row rfl 36 (.tmp 2) (.tmp 41) rfl R0 _ rfl rfl _ _ hbc.out (by rw [hsv'.out.n]; exact size_rf) (by rw [hsv'.out.n]; exact (hS.out.ref.sev rfl).n) hsv'.out.one ?_; rw [hW8.out]))
      go_frame
      have HR8 : Hid (ReR W8 (fun b => Fr w Y' b ∨ b = R0) (.agg #[.int .i64 er, .slice A6 n6 c6, .slice B6 m6 d6]) er o.2.2.1 o.2.2.2) := by rw [← her.out]; exact HR8
      have hg6Y : Hid (Y' g6) := by rw [← hY'.out]; exact .inr hne.out.2.1
      have hsml0 : Hid (o.2.2.1.length ≤ 1000 ∧ o.2.2.2.length ≤ 60000) := by rw [← ho.out]; exact hsml.out 0
      have hLc : Hid (∀ w' i, Touch (Fr w Y') W8.drew w' → w'.cell? ⟨Lb, i, none⟩ = W8.cell? ⟨Lb, i, none⟩) := fun w' i ht => ht.cell (p := ⟨Lb, i, none⟩) HC8.out.lt fun e => HC8.out.nz (.inl e)
      have hS10 : Hid (∀ wx, Touch (Fr w Y') W8.drew wx → (wx.cell? ⟨g6, 0, none⟩ = some (.int .i64 er) ∧ wx.cell? ⟨g6, 1, none⟩ = some (.slice A6 n6 c6) ∧ wx.cell? ⟨g6, 2, none⟩ = some (.slice B6 m6 d6)) ∧ wx.cell? ⟨Lb, j * 4, none⟩ = some (.int .u8 (x.k : Int)) ∧ wx.cell? ⟨Lb, j * 4 + 1, none⟩ = some (.string (txt x.n)) ∧ wx.cell? ⟨Lb, j * 4 + 2, none⟩ = some (.string (txt x.t)) ∧ wx.cell? ⟨Lb, j * 4 + 3, none⟩ = some (.slice Ab x.l.length cb)) := by
        intro wx ht
        have h6 := tri_cell (ht.heap (fun e => e.2 hg6Y.out) HG8.out)
        rw [her.out] at h6
        exact ⟨h6, (hLc.out _ _ ht).trans k0, (hLc.out _ _ ht).trans k1, (hLc.out _ _ ht).trans k2, (hLc.out _ _ ht).trans k3⟩
      have hv9e : Hid (∀ w' {v : Value} {g' : Nat}, ReV w' W8.drew.heap.size v ((wkS g j).doC g' x.k x.n x.t x.l).2.1 ((wkS g j).doC g' x.k x.n x.t x.l).2.2.1 ((wkS g j).doC g' x.k x.n x.t x.l).2.2.2 → ReR w' (fun b => b < W8.drew.heap.size) v er o.2.2.1 o.2.2.2) := by
        intro w' v g' h
        have e2 : ((wkS g j).doC g' x.k x.n x.t x.l).2 = o.2 := by rw [← ho.out]; exact (ho0.out g' x.k x.n x.t x.l).1
        have := h.rd
        rw [e2, her.out] at this
        exact this
      clear hdo
      have hdo := Lib.hid (fdo_any (HF8.out.quiet (Below.refl _ W8).drew).1 (by omega) hsm.out.1 (n := x.n) (t := x.t) (by have := hsm.out; omega) (by have := hsm.out; omega) (Ab := Ab) (cb := cb) (l := x.l) rfl hsm.out.2.2.2 (Nat.le_refl _) (Kb8.out.below (Below.refl _ _).drew).reads hwell.out.pos)
      go_region_held3 (fun wx => (wx.cell? ⟨g6, 0, none⟩ = some (.int .i64 er) ∧ wx.cell? ⟨g6, 1, none⟩ = some (.slice A6 n6 c6) ∧ wx.cell? ⟨g6, 2, none⟩ = some (.slice B6 m6 d6)) ∧ wx.cell? ⟨Lb, j * 4, none⟩ = some (.int .u8 (x.k : Int)) ∧ wx.cell? ⟨Lb, j * 4 + 1, none⟩ = some (.string (txt x.n)) ∧ wx.cell? ⟨Lb, j * 4 + 2, none⟩ = some (.string (txt x.t)) ∧ wx.cell? ⟨Lb, j * 4 + 3, none⟩ = some (.slice Ab x.l.length cb)) (first | exact ⟨⟨r0, r1, r2⟩, k0, k1, k2, k3⟩ | exact S10.out | exact S11.out) (first
        | (go_at_call 13; refine hdo.out.mono ?_; rintro e w9 ⟨g', v, rfl, hv9, hf9, ht9⟩; have Hv9 := Lib.hid hv9; have Hf9 := Lib.hid hf9; have Ht9 := Lib.hid ht9; clear hv9 hf9 ht9; have S10 := Lib.hid (hS10.out _ Ht9.out); have Hsame := Lib.hid (same_eq (hv9e.out _ Hv9.out) ((HR8.out.below (Below.refl _ _).drew).keep (Ht9.out.mono fun _ _ e => .inl e)) hsml0.out.1 hsml0.out.2))
        | (go_at_call 15; refine Hsame.out.mono ?_; rintro e w10 ⟨rfl, hb10⟩; have Hb10 := Lib.hid hb10; clear hb10; have S11 := Lib.hid (hS10.out _ (Ht9.out.trans (Touch.of Hb10.out)))))
      all_goals
        (obtain ⟨g2, e2⟩ := wkS_next (g := g) (g' := g') Hx.out
         have hst10 : Hid (WkSt w w1 W5 F R0 Lb (j + 1) w10 g2 Y' cs') := by
           obtain ⟨_, q1, q2, q3, q4, q5, q6⟩ := ho0.out g' x.k x.n x.t x.l
           have hTT := Ht9.out.trans (Touch.of (X := Fr w Y') Hb10.out)
           refine ⟨?_, hTT.heap (fun e => e.2 (by rw [← hY'.out]; exact .inl hYR.out)) HB8.out, ?_, ?_, ?_, fun b h1 h2 => by rw [← hY'.out]; exact .inl (hS.out.y b h1 h2)⟩
           · have h := (Hf9.out.quiet Hb10.out).1
             rw [e2] at h
             exact h.mono (by omega)
           · have h := ((HU8.out.below (Below.refl _ _).drew).keep (Ht9.out.mono fun _ _ e => .inl e)).below Hb10.out
             rw [← ho.out] at h
             rw [← e2]
             exact h.swap q1 q2 q3 q4 q5 q6
           · rw [← e2]
             exact hS.out.inv.doC hok.out (by omega) g' x.k x.n x.t x.l
           · exact ((HC8.out.below (Below.refl _ _).drew).keep (Ht9.out.mono fun _ _ e => .inl e)).below Hb10.out
         go_wp2
         go_roundw
         case rel => exact ⟨j + 1, g2, Y', cs', by omega, by go_num, hst10⟩
         case measure => simp [intOf]; omega)
    · obtain rfl : j = 7 := by omega
      have hP := Lib.hid (fpower_any hS.out.fs (by omega) 0 (by omega) (by omega) (Ak := none) (nk := 0) (ck := 0) (keep := []) RdX.none_ rfl (Nat.le_refl _) (by omega))
      go_upto_region 12 with (go_at_call 10; refine hP.out.mono ?_; rintro e w11 ⟨rfl, hf11, ht11⟩; have HF11 := Lib.hid hf11; have HT11 := Lib.hid ht11; clear hf11 ht11)
      have hn12 := Lib.hid (fnew_any (w := w11) 10 3 (by omega) (by omega) (by omega) (by omega))
      go_upto_region 13 with (go_at_call 8; refine hn12.out.mono ?_; rintro e w12 ⟨G, rfl, h12⟩; have H12 := Lib.hid h12; clear h12)
      have HC11 := Lib.hid (hS.out.calls.keep (HT11.out.mono fun _ _ e => .inl e))
      have hLlt := Lib.hid HC11.out.lt
      obtain ⟨La, lcb, k0, k1, k2, k3, _⟩ := (HC11.out.below H12.out.below).at_ 0 ⟨1, [97], [], []⟩ rfl
      have hcell : Hid (∀ w', Touch (Fr w11 fun _ => False) w12.drew w' → ∀ o, w'.cell? ⟨Lb, o, none⟩ = w12.cell? ⟨Lb, o, none⟩) := fun w' ht o => ht.cell (p := ⟨Lb, o, none⟩) (Nat.lt_of_lt_of_le hLlt.out H12.out.below.size) fun e => by have h1 : w11.heap.size ≤ Lb := e.1; have := hLlt.out; omega
      obtain ⟨cv, hcv⟩ : ∃ cv, Hid (fcv 1 [97] [] La 0 lcb = cv) := ⟨_, rfl⟩
      go_cut [8, 9, 10] from 54 to 66 (fun s8 s9 s10 wx => ∃ (g8 g9 g10 gg : Nat) (Y13 : Nat → Prop), s8 = .pointer (some ⟨g8, 0, none⟩) ∧ s9 = .pointer (some ⟨g9, 0, none⟩) ∧ s10 = .pointer (some ⟨g10, 0, none⟩) ∧ Hid (RErr wx g8 0) ∧ Hid (RErr wx g9 81) ∧ Hid (RErr wx g10 2) ∧ Hid (FS w11 Y13 G (wk1 gg) 2 wx) ∧ Hid (Y13 g8 ∧ Y13 g9 ∧ Y13 g10))
      case first =>
        rename_i J K1 hJ hK
        have hFS : FS w11 (fun b => False ∨ False ∨ False) G (Fo.new 10 3) 2 w12.drew := ((H12.out.mono (by omega)).quiet (Below.refl _ _).drew).1.more (Below.refl _ _) fun k hk => by simp at hk
        refine wp_region_full (n := 106) (F13 G Lb cv) (KX (SG w11 w12.drew G (fun _ => False) P13 T13 []) d13) (by kernel_rfl) (by kernel_rfl) rfl ?_ ?_ ?_
        · intro L hL
          exact KX.start hL ⟨⟨Fo.new 10 3, fun _ => False, ⟨fun h => (by rw [hL] at h; cases h), fun _ => rfl⟩, hFS, fun _ h => h.elim, fun _ h => (by simp at h)⟩, Touch.refl _ _, fun _ h => h.elim, fun _ _ h => (by rw [hL] at h; cases h)⟩
        rotate_left
        · intro L b' w' hall hsz hd hs hc hf
          obtain ⟨Yb, hc⟩ := hc
          obtain ⟨g8, y8, l8, e8, h8, _⟩ := hc.has ⟨13, 16, 8, 58, 51, zres⟩ (by simp [d13]) (hall 13 (by decide))
          obtain ⟨g9, y9, l9, e9, h9, _⟩ := hc.has ⟨14, 17, 9, 63, 51, zres⟩ (by simp [d13]) (hall 14 (by decide))
          obtain ⟨g10, y10, l10, e10, h10, _⟩ := hc.has ⟨15, 18, 10, 66, 51, zres⟩ (by simp [d13]) (hall 15 (by decide))
          obtain ⟨x8, f8, h8⟩ := h8 (hall 16 (by decide))
          obtain ⟨x9, f9, h9⟩ := h9 (hall 17 (by decide))
          obtain ⟨x10, f10, h10⟩ := h10 (hall 18 (by decide))
          obtain ⟨_, _, _, _, _, _, r8⟩ := hc.st.res (4, 58, 0) (by simp [T13]) (hall 4 (by decide))
          obtain ⟨_, _, _, _, _, _, r9⟩ := hc.st.res (9, 63, 81) (by simp [T13]) (hall 9 (by decide))
          obtain ⟨_, _, _, _, _, _, r10⟩ := hc.st.res (12, 66, 2) (by simp [T13]) (hall 12 (by decide))
          have q8 := f8.symm.trans r8
          have q9 := f9.symm.trans r9
          have q10 := f10.symm.trans r10
          injection q8 with q8
          injection q9 with q9
          injection q10 with q10
          subst q8
          subst q9
          subst q10
          obtain ⟨s, Z, hp, hfs, _, _⟩ := hc.st.ex
          obtain ⟨gg, rfl⟩ := hp.1 (hall 4 (by decide))
          refine hK _ _ (Met.intro (hJ _ _ ?_))
          exact ⟨b'.tmps.getD 8 undef, b'.tmps.getD 9 undef, b'.tmps.getD 10 undef, b'.tmps.getD 54 undef, b'.tmps.getD 55 undef, b'.tmps.getD 56 undef, b'.tmps.getD 57 undef, b'.tmps.getD 58 undef, b'.tmps.getD 59 undef, b'.tmps.getD 60 undef, b'.tmps.getD 61 undef, b'.tmps.getD 62 undef, b'.tmps.getD 63 undef, b'.tmps.getD 64 undef, b'.tmps.getD 65 undef, b'.tmps.getD 66 undef, ⟨g8, g9, g10, gg, _, e8, e9, e10, ⟨_, _, h8⟩, ⟨_, _, h9⟩, ⟨_, _, h10⟩, hfs, .inr (.inl y8), .inr (.inl y9), .inr (.inl y10)⟩, (act_known hsz hd hs).trans (by kernel_rfl)⟩
        refine OpsFu.cons _ _ (OpFu.readS (d := 54) rfl (by decide) (off13 (by decide) (by decide)) (src13 (by decide)) fun L b w' Y' hcl hni hlt hsz hdep hs hS' hg => ⟨rfl, _, exec_move rfl (hs 7 (by kernel_rfl)), rfl, hS'.off (fun s => P13.off (by decide) L s) (by decide) hsz (by decide) (by decide)⟩) ?_
        refine OpsFu.cons _ _ (OpFu.readS (d := 55) rfl (by decide) (off13 (by decide) (by decide)) (src13 (by decide)) fun L b w' Y' hcl hni hlt hsz hdep hs hS' hg => ⟨rfl, _, exec_move rfl (hs 3 (by kernel_rfl)), rfl, hS'.off (fun s => P13.off (by decide) L s) (by decide) hsz (by decide) (by decide)⟩) ?_
        refine OpsFu.cons _ _ (OpFu.readS (d := 56) rfl (by decide) (off13 (by decide) (by decide)) (src13 (by decide)) fun L b w' Y' hcl hni hlt hsz hdep hs hS' hg => ⟨rfl, _, exec_atCall (k := 0) rfl (dep hg 0 rfl rfl rfl rfl) rfl (by decide), rfl, hS'.off (fun s => P13.off (by decide) L s) (by decide) hsz (by decide) (by decide)⟩) ?_
        refine OpsFu.cons _ _ (OpFu.readS (d := 57) rfl (by decide) (off13 (by decide) (by decide)) (src13 (by decide)) fun L b w' Y' hcl hni hlt hsz hdep hs hS' hg => ⟨rfl, _, exec_loadCall rfl (dep hg 0 rfl rfl rfl rfl) ((hcell.out _ hS'.touch _).trans k0) ((hcell.out _ hS'.touch _).trans k1) ((hcell.out _ hS'.touch _).trans k2) ((hcell.out _ hS'.touch _).trans k3), hcv.out, hS'.off (fun s => P13.off (by decide) L s) (by decide) hsz (by decide) (by decide)⟩) ?_
        refine OpsFu.cons _ _ (OpFu.callG (e := (4, 58, 0)) (k := 1) (nn := [97]) (tt := []) (l := []) (by simp [T13]) rfl rfl (by decide) (by decide) (off13 (by decide) (by decide)) (srcOf (v0 := ⟨13, 16, 8, 58, 51, zres⟩) (by intro v hv h; simp only [d13, List.mem_cons, List.not_mem_nil, or_false] at hv; rcases hv with rfl | rfl | rfl <;> first | rfl | (simp at h)) fun L hcl hni => notyet hcl (ho := (rfl : _[16]? = _)) (he := (rfl : _[1]? = _)) rfl hni) (by intro v hv h; simp only [T13, List.mem_cons, List.not_mem_nil, or_false] at hv; rcases hv with rfl | rfl | rfl <;> first | rfl | (simp at h)) (fun m hm => by simp at hm) rfl rfl (fun b w hg => dep hg 0 rfl rfl rfl rfl) (fun L Y b w hdep hS hg => ⟨La, lcb, (dep hg 1 rfl rfl rfl rfl).trans hcv.out.symm, ⟨rfl, fun h => absurd h (by decide)⟩⟩) (fun L s hL hcl hdep hni hp hok => ?c4) (by decide) (by decide) (by decide) (by decide) (fun i u w w' h => F13.keep i u w w' h) (fun _ _ => trivial)) ?_
        case c4 =>
          obtain rfl := hp.2 hni
          refine ⟨fun v hv => ?_, 0, by omega, H12.out.ok, fun g' => ⟨rfl, id, fun _ => ⟨g', rfl⟩, fun h => ?_⟩⟩
          · have e : (Fo.new 10 3).d.now = [] := rfl
            rw [e] at hv
            cases hv
          · rw [onL (by rw [hL]; decide)] at h
            cases h
        refine OpsFu.cons _ _ (OpFu.readS (d := 59) rfl (by decide) (off13 (by decide) (by decide)) (src13 (by decide)) fun L b w' Y' hcl hni hlt hsz hdep hs hS' hg => ⟨rfl, _, exec_move rfl (hs 7 (by kernel_rfl)), rfl, hS'.off (fun s => P13.off (by decide) L s) (by decide) hsz (by decide) (by decide)⟩) ?_
        refine OpsFu.cons _ _ (OpFu.readS (d := 60) rfl (by decide) (off13 (by decide) (by decide)) (src13 (by decide)) fun L b w' Y' hcl hni hlt hsz hdep hs hS' hg => ⟨rfl, _, exec_move rfl (hs 3 (by kernel_rfl)), rfl, hS'.off (fun s => P13.off (by decide) L s) (by decide) hsz (by decide) (by decide)⟩) ?_
        refine OpsFu.cons _ _ (OpFu.readS (d := 61) rfl (by decide) (off13 (by decide) (by decide)) (src13 (by decide)) fun L b w' Y' hcl hni hlt hsz hdep hs hS' hg => ⟨rfl, _, exec_atCall (k := 0) rfl (dep hg 0 rfl rfl rfl rfl) rfl (by decide), rfl, hS'.off (fun s => P13.off (by decide) L s) (by decide) hsz (by decide) (by decide)⟩) ?_
        refine OpsFu.cons _ _ (OpFu.readS (d := 62) rfl (by decide) (off13 (by decide) (by decide)) (src13 (by decide)) fun L b w' Y' hcl hni hlt hsz hdep hs hS' hg => ⟨rfl, _, exec_loadCall rfl (dep hg 0 rfl rfl rfl rfl) ((hcell.out _ hS'.touch _).trans k0) ((hcell.out _ hS'.touch _).trans k1) ((hcell.out _ hS'.touch _).trans k2) ((hcell.out _ hS'.touch _).trans k3), hcv.out, hS'.off (fun s => P13.off (by decide) L s) (by decide) hsz (by decide) (by decide)⟩) ?_
        refine OpsFu.cons _ _ (OpFu.callG (e := (9, 63, 81)) (k := 1) (nn := [97]) (tt := []) (l := []) (by simp [T13]) rfl rfl (by decide) (by decide) (off13 (by decide) (by decide)) (srcOf (v0 := ⟨14, 17, 9, 63, 51, zres⟩) (by intro v hv h; simp only [d13, List.mem_cons, List.not_mem_nil, or_false] at hv; rcases hv with rfl | rfl | rfl <;> first | rfl | (simp at h)) fun L hcl hni => notyet hcl (ho := (rfl : _[17]? = _)) (he := (rfl : _[1]? = _)) rfl hni) (by intro v hv h; simp only [T13, List.mem_cons, List.not_mem_nil, or_false] at hv; rcases hv with rfl | rfl | rfl <;> first | rfl | (simp at h)) (fun m hm => by simp at hm) rfl rfl (fun b w hg => dep hg 0 rfl rfl rfl rfl) (fun L Y b w hdep hS hg => ⟨La, lcb, (dep hg 1 rfl rfl rfl rfl).trans hcv.out.symm, ⟨rfl, fun h => absurd h (by decide)⟩⟩) (fun L s hL hcl hdep hni hp hok => ?c9) (by decide) (by decide) (by decide) (by decide) (fun i u w w' h => F13.keep i u w w' h) (fun _ _ => trivial)) ?_
        case c9 =>
          have h4 := hdep _ (List.mem_of_getElem? (i := 2) rfl) rfl
          obtain ⟨g, rfl⟩ := hp.1 h4
          refine ⟨fun v hv => ?_, 2, by omega, hok, fun g' => ⟨by rw [wk_e2], fun h => hok, by rw [wk_e2]; exact P13.off (by decide) L _ hp⟩⟩
          rw [wk_now, List.mem_singleton] at hv
          subst hv
          decide
        refine OpsFu.cons _ _ (OpFu.readS (d := 64) rfl (by decide) (off13 (by decide) (by decide)) (src13 (by decide)) fun L b w' Y' hcl hni hlt hsz hdep hs hS' hg => ⟨rfl, _, exec_move rfl (hs 7 (by kernel_rfl)), rfl, hS'.off (fun s => P13.off (by decide) L s) (by decide) hsz (by decide) (by decide)⟩) ?_
        refine OpsFu.cons _ _ (OpFu.readS (d := 65) rfl (by decide) (off13 (by decide) (by decide)) (src13 (by decide)) fun L b w' Y' hcl hni hlt hsz hdep hs hS' hg => ⟨rfl, _, exec_buildC1 rfl, rfl, hS'.off (fun s => P13.off (by decide) L s) (by decide) hsz (by decide) (by decide)⟩) ?_
        refine OpsFu.cons _ _ (OpFu.callG (e := (12, 66, 2)) (k := 1) (nn := []) (tt := []) (l := []) (by simp [T13]) rfl rfl (by decide) (by decide) (off13 (by decide) (by decide)) (srcOf (v0 := ⟨15, 18, 10, 66, 51, zres⟩) (by intro v hv h; simp only [d13, List.mem_cons, List.not_mem_nil, or_false] at hv; rcases hv with rfl | rfl | rfl <;> first | rfl | (simp at h)) fun L hcl hni => notyet hcl (ho := (rfl : _[18]? = _)) (he := (rfl : _[1]? = _)) rfl hni) (by intro v hv h; simp only [T13, List.mem_cons, List.not_mem_nil, or_false] at hv; rcases hv with rfl | rfl | rfl <;> first | rfl | (simp at h)) (fun m hm => by simp at hm) rfl rfl (fun b w hg => dep hg 0 rfl rfl rfl rfl) (fun L Y b w hdep hS hg => ⟨none, 0, dep hg 1 rfl rfl rfl rfl, ⟨rfl, fun h => absurd h (by decide)⟩⟩) (fun L s hL hcl hdep hni hp hok => ?c12) (by decide) (by decide) (by decide) (by decide) (fun i u w w' h => F13.keep i u w w' h) (fun _ _ => trivial)) ?_
        case c12 =>
          have h9 := hdep _ (List.mem_of_getElem? (i := 2) rfl) rfl
          have h4 := hcl 9 _ h9 rfl _ (List.mem_of_getElem? (i := 2) rfl) rfl
          obtain ⟨g, rfl⟩ := hp.1 h4
          refine ⟨fun v hv => ?_, 2, by omega, hok, fun g' => ⟨by rw [wk_e3], fun h => hok, by rw [wk_e3]; exact P13.off (by decide) L _ hp⟩⟩
          rw [wk_now, List.mem_singleton] at hv
          subst hv
          decide
        refine OpsFu.cons _ _ (OpFu.makeS key13 (v := ⟨13, 16, 8, 58, 51, zres⟩) (by simp [d13]) rfl rfl (by decide) rfl (fun L hcl hn => notyet hcl (ho := (rfl : _[16]? = _)) (he := (rfl : _[0]? = _)) rfl hn) (fun _ _ => trivial) (fun i u w w' _ h => F13.keep i u w w' h) (fun L Y b w hsz h => (h.new _).off (fun s => P13.off (by decide) L s) (by decide) hsz (by decide) (by decide)) (fun b w => exec_allocFr rfl)) ?_
        refine OpsFu.cons _ _ (OpFu.makeS key13 (v := ⟨14, 17, 9, 63, 51, zres⟩) (by simp [d13]) rfl rfl (by decide) rfl (fun L hcl hn => notyet hcl (ho := (rfl : _[17]? = _)) (he := (rfl : _[0]? = _)) rfl hn) (fun _ _ => trivial) (fun i u w w' _ h => F13.keep i u w w' h) (fun L Y b w hsz h => (h.new _).off (fun s => P13.off (by decide) L s) (by decide) hsz (by decide) (by decide)) (fun b w => exec_allocFr rfl)) ?_
        refine OpsFu.cons _ _ (OpFu.makeS key13 (v := ⟨15, 18, 10, 66, 51, zres⟩) (by simp [d13]) rfl rfl (by decide) rfl (fun L hcl hn => notyet hcl (ho := (rfl : _[18]? = _)) (he := (rfl : _[0]? = _)) rfl hn) (fun _ _ => trivial) (fun i u w w' _ h => F13.keep i u w w' h) (fun L Y b w hsz h => (h.new _).off (fun s => P13.off (by decide) L s) (by decide) hsz (by decide) (by decide)) (fun b w => exec_allocFr rfl)) ?_
        refine OpsFu.cons _ _ (OpFu.fillS key13 (v := ⟨13, 16, 8, 58, 51, zres⟩) (by simp [d13]) rfl rfl rfl rfl size_fr10 (fun i u w g xs h => F13.keep i u w _ h) (fun L hd => hd _ (List.mem_of_getElem? (i := 0) rfl) rfl) (fun L Y tm w g xs hg h => (h.fill hg xs).congr (fun s => P13.off (by decide) L s) (offL (by decide)) fun _ _ => rfl) (fun L b w Y hd h _ => ?v16)) ?_
        case v16 =>
          obtain ⟨_, _, _, _, _, _, r⟩ := h.res (4, 58, 0) (by simp [T13]) (hd _ (List.mem_of_getElem? (i := 1) rfl) rfl)
          exact ⟨_, r, rfl, by simp [Value.oneCell']⟩
        refine OpsFu.cons _ _ (OpFu.fillS key13 (v := ⟨14, 17, 9, 63, 51, zres⟩) (by simp [d13]) rfl rfl rfl rfl size_fr10 (fun i u w g xs h => F13.keep i u w _ h) (fun L hd => hd _ (List.mem_of_getElem? (i := 0) rfl) rfl) (fun L Y tm w g xs hg h => (h.fill hg xs).congr (fun s => P13.off (by decide) L s) (offL (by decide)) fun _ _ => rfl) (fun L b w Y hd h _ => ?v17)) ?_
        case v17 =>
          obtain ⟨_, _, _, _, _, _, r⟩ := h.res (9, 63, 81) (by simp [T13]) (hd _ (List.mem_of_getElem? (i := 1) rfl) rfl)
          exact ⟨_, r, rfl, by simp [Value.oneCell']⟩
        refine OpsFu.cons _ _ (OpFu.fillS key13 (v := ⟨15, 18, 10, 66, 51, zres⟩) (by simp [d13]) rfl rfl rfl rfl size_fr10 (fun i u w g xs h => F13.keep i u w _ h) (fun L hd => hd _ (List.mem_of_getElem? (i := 0) rfl) rfl) (fun L Y tm w g xs hg h => (h.fill hg xs).congr (fun s => P13.off (by decide) L s) (offL (by decide)) fun _ _ => rfl) (fun L b w Y hd h _ => ?v18)) (OpsFu.nil _ _)
        case v18 =>
          obtain ⟨_, _, _, _, _, _, r⟩ := h.res (12, 66, 2) (by simp [T13]) (hd _ (List.mem_of_getElem? (i := 1) rfl) rfl)
          exact ⟨_, r, rfl, by simp [Value.oneCell']⟩
      obtain ⟨g8, g9, g10, gg, Y13, rfl, rfl, rfl, HE8, HE9, HE10, HF13, HY13⟩ := hcut
      obtain ⟨w13, rfl⟩ : ∃ w', w' = wc := ⟨_, rfl⟩
      clear hcell k0 k1 k2 k3
      go_upto_region 14 with fail
      go_cut [11, 12] from 67 to 75 (fun s11 s12 wx => ∃ (g11 g12 : Nat) (Y14 : Nat → Prop), s11 = .pointer (some ⟨g11, 0, none⟩) ∧ s12 = .pointer (some ⟨g12, 0, none⟩) ∧ Hid (RErr wx g11 80) ∧ Hid (RErr wx g12 90) ∧ Hid (FS w11 Y14 G (wk1 gg) 2 wx) ∧ Hid (Touch (Fr w11 Y13) w13 wx))
      case first =>
        rename_i J K1 hJ hK
        have hFS : FS w11 (fun b => Y13 b ∨ False ∨ False) G (wk1 gg) 2 w13.drew := ((HF13.out).quiet (Below.refl _ _).drew).1.more (Below.refl _ _) fun k hk => by simp at hk; exact .inl hk
        have hok := HF13.out.ok
        refine wp_region_full (n := 106) (F14 G) (KX (SG w11 w13.drew G Y13 (fun _ s => s = wk1 gg) T14 M14) d14) (by kernel_rfl) (by kernel_rfl) rfl ?_ ?_ ?_
        · intro L hL
          exact KX.start hL ⟨⟨wk1 gg, fun _ => False, rfl, hFS, fun _ h => h.elim, fun m hm h => (by rw [hL] at h; cases h)⟩, Touch.refl _ _, fun _ h => h.elim, fun _ _ h => (by rw [hL] at h; cases h)⟩
        rotate_left
        · intro L b' w' hall hsz hd hs hc hf
          obtain ⟨Yb, hc⟩ := hc
          obtain ⟨g11, y11, l11, e11, h11, _⟩ := hc.has ⟨9, 11, 11, 71, 51, zres⟩ (by simp [d14]) (hall 9 (by decide))
          obtain ⟨g12, y12, l12, e12, h12, _⟩ := hc.has ⟨10, 12, 12, 75, 51, zres⟩ (by simp [d14]) (hall 10 (by decide))
          obtain ⟨x11, f11, h11⟩ := h11 (hall 11 (by decide))
          obtain ⟨x12, f12, h12⟩ := h12 (hall 12 (by decide))
          obtain ⟨_, _, _, _, _, _, r11⟩ := hc.st.res (4, 71, 80) (by simp [T14]) (hall 4 (by decide))
          obtain ⟨_, _, _, _, _, _, r12⟩ := hc.st.res (8, 75, 90) (by simp [T14]) (hall 8 (by decide))
          have q11 := f11.symm.trans r11
          have q12 := f12.symm.trans r12
          injection q11 with q11
          injection q12 with q12
          subst q11
          subst q12
          obtain ⟨s, Z, rfl, hfs, _, _⟩ := hc.st.ex
          refine hK _ _ (Met.intro (hJ _ _ ?_))
          exact ⟨b'.tmps.getD 11 undef, b'.tmps.getD 12 undef, b'.tmps.getD 67 undef, b'.tmps.getD 68 undef, b'.tmps.getD 69 undef, b'.tmps.getD 70 undef, b'.tmps.getD 71 undef, b'.tmps.getD 72 undef, b'.tmps.getD 73 undef, b'.tmps.getD 74 undef, b'.tmps.getD 75 undef, ⟨g11, g12, _, e11, e12, ⟨_, _, h11⟩, ⟨_, _, h12⟩, hfs, (Touch.refl _ w13).drew.trans hc.st.touch⟩, (act_known hsz hd hs).trans (by kernel_rfl)⟩
        refine OpsFu.cons _ _ (OpFu.readS (d := 67) rfl (by decide) (off14 (by decide) (by decide)) (src14 (by decide)) fun L b w' Y' hcl hni hlt hsz hdep hs hS' hg => ⟨rfl, _, exec_move rfl (hs 7 (by kernel_rfl)), rfl, hS'.off (fun s h => h) (by decide) hsz (by decide) (by decide)⟩) ?_
        refine OpsFu.cons _ _ (OpFu.bytesG (m := ⟨1, 68, [120], fun g => .slice (some ⟨g, 0, none⟩) 1 1⟩) (by simp [M14]) rfl rfl (by decide) (by decide) (off14 (by decide) (by decide)) (src14 (by decide)) (fun v hv e => get14 hv (by simp [M14]) e) (by intro v hv; simp only [T14, List.mem_cons, List.not_mem_nil, or_false] at hv; rcases hv with rfl | rfl <;> decide) rfl (fun _ _ h => h) (fun b w => exec_litG rfl (by decide)) (fun i u w w' h => F14.keep i u w w' h) (fun _ _ => trivial)) ?_
        refine OpsFu.cons _ _ (OpFu.fromG (m := ⟨2, 69, [120], fun g => .slice (some ⟨g, 0, none⟩) 1 1⟩) (m0 := ⟨1, 68, [120], fun g => .slice (some ⟨g, 0, none⟩) 1 1⟩) (by simp [M14]) (by simp [M14]) rfl rfl (by decide) (by decide) (off14 (by decide) (by decide)) (src14 (by decide)) (fun v hv e => get14 hv (by simp [M14]) e) (by intro v hv; simp only [T14, List.mem_cons, List.not_mem_nil, or_false] at hv; rcases hv with rfl | rfl <;> decide) rfl (fun _ _ h => h) rfl (fun L hd => hd _ (List.mem_of_getElem? (i := 0) rfl) rfl) (fun b w g e hl => by obtain ⟨w', h1, h2, h3, h4, h5⟩ := convert_litH hl; exact ⟨w', exec_convG rfl e h1, h2, h3, h4, h5⟩) (fun i u w w' h => F14.keep i u w w' h) (fun _ _ => trivial)) ?_
        refine OpsFu.cons _ _ (OpFu.fromG (m := ⟨3, 70, [120], fun g => fcv 2 [99] [] (some ⟨g, 0, none⟩) 1 1⟩) (m0 := ⟨2, 69, [120], fun g => .slice (some ⟨g, 0, none⟩) 1 1⟩) (by simp [M14]) (by simp [M14]) rfl rfl (by decide) (by decide) (off14 (by decide) (by decide)) (src14 (by decide)) (fun v hv e => get14 hv (by simp [M14]) e) (by intro v hv; simp only [T14, List.mem_cons, List.not_mem_nil, or_false] at hv; rcases hv with rfl | rfl <;> decide) rfl (fun _ _ h => h) rfl (fun L hd => hd _ (List.mem_of_getElem? (i := 0) rfl) rfl) (fun b w g e hl => ⟨w, exec_buildC2 rfl e, hl, Touch.refl _ _, rfl, fun _ _ h => h⟩) (fun i u w w' h => F14.keep i u w w' h) (fun _ _ => trivial)) ?_
        refine OpsFu.cons _ _ (OpFu.callG (e := (4, 71, 80)) (k := 2) (nn := [99]) (tt := []) (l := [120]) (by simp [T14]) rfl rfl (by decide) (by decide) (off14 (by decide) (by decide)) (srcOf (v0 := ⟨9, 11, 11, 71, 51, zres⟩) (by intro v hv h; simp only [d14, List.mem_cons, List.not_mem_nil, or_false] at hv; rcases hv with rfl | rfl <;> first | rfl | (simp at h)) fun L hcl hni => notyet hcl (ho := (rfl : _[11]? = _)) (he := (rfl : _[1]? = _)) rfl hni) (by intro v hv h; simp only [T14, List.mem_cons, List.not_mem_nil, or_false] at hv; rcases hv with rfl | rfl <;> first | rfl | (simp at h)) (fun m hm => m14a hm) rfl rfl (fun b w hg => dep hg 0 rfl rfl rfl rfl) (fun L Y b w hdep hS hg => ?y4) (fun L s hL hcl hdep hni hp hok => ?c4) (by decide) (by decide) (by decide) (by decide) (fun i u w w' h => F14.keep i u w w' h) (fun _ _ => trivial)) ?_
        case y4 =>
          obtain ⟨_, _, _, _, _, h4⟩ := hS.ex
          obtain ⟨g, e, _, hl⟩ := h4 ⟨3, 70, [120], fun g => fcv 2 [99] [] (some ⟨g, 0, none⟩) 1 1⟩ (by simp [M14]) (hdep _ (List.mem_of_getElem? (i := 1) rfl) rfl)
          exact ⟨some ⟨g, 0, none⟩, 1, e, hl.reads⟩
        case c4 =>
          subst hp
          refine ⟨fun v hv => ?_, 2, by omega, hok, fun g' => ⟨by rw [wk_e4], fun h => hok, by rw [wk_e4]⟩⟩
          rw [wk_now, List.mem_singleton] at hv
          subst hv
          decide
        refine OpsFu.cons _ _ (OpFu.readS (d := 72) rfl (by decide) (off14 (by decide) (by decide)) (src14 (by decide)) fun L b w' Y' hcl hni hlt hsz hdep hs hS' hg => ⟨rfl, _, exec_move rfl (hs 7 (by kernel_rfl)), rfl, hS'.off (fun s h => h) (by decide) hsz (by decide) (by decide)⟩) ?_
        refine OpsFu.cons _ _ (OpFu.bytesG (m := ⟨6, 73, noughts 11, fun g => .slice (some ⟨g, 0, none⟩) 11 11⟩) (by simp [M14]) rfl rfl (by decide) (by decide) (off14 (by decide) (by decide)) (src14 (by decide)) (fun v hv e => get14 hv (by simp [M14]) e) (by intro v hv; simp only [T14, List.mem_cons, List.not_mem_nil, or_false] at hv; rcases hv with rfl | rfl <;> decide) rfl (fun _ _ h => h) (fun b w => exec_make rfl rfl rfl (by omega)) (fun i u w w' h => F14.keep i u w w' h) (fun _ _ => trivial)) ?_
        refine OpsFu.cons _ _ (OpFu.fromG (m := ⟨7, 74, noughts 11, fun g => fcv 2 [97] [] (some ⟨g, 0, none⟩) 11 11⟩) (m0 := ⟨6, 73, noughts 11, fun g => .slice (some ⟨g, 0, none⟩) 11 11⟩) (by simp [M14]) (by simp [M14]) rfl rfl (by decide) (by decide) (off14 (by decide) (by decide)) (src14 (by decide)) (fun v hv e => get14 hv (by simp [M14]) e) (by intro v hv; simp only [T14, List.mem_cons, List.not_mem_nil, or_false] at hv; rcases hv with rfl | rfl <;> decide) rfl (fun _ _ h => h) rfl (fun L hd => hd _ (List.mem_of_getElem? (i := 0) rfl) rfl) (fun b w g e hl => ⟨w, exec_buildC2 rfl e, hl, Touch.refl _ _, rfl, fun _ _ h => h⟩) (fun i u w w' h => F14.keep i u w w' h) (fun _ _ => trivial)) ?_
        refine OpsFu.cons _ _ (OpFu.callG (e := (8, 75, 90)) (k := 2) (nn := [97]) (tt := []) (l := (noughts 11)) (by simp [T14]) rfl rfl (by decide) (by decide) (off14 (by decide) (by decide)) (srcOf (v0 := ⟨10, 12, 12, 75, 51, zres⟩) (by intro v hv h; simp only [d14, List.mem_cons, List.not_mem_nil, or_false] at hv; rcases hv with rfl | rfl <;> first | rfl | (simp at h)) fun L hcl hni => notyet hcl (ho := (rfl : _[12]? = _)) (he := (rfl : _[1]? = _)) rfl hni) (by intro v hv h; simp only [T14, List.mem_cons, List.not_mem_nil, or_false] at hv; rcases hv with rfl | rfl <;> first | rfl | (simp at h)) (fun m hm => m14b hm) rfl rfl (fun b w hg => dep hg 0 rfl rfl rfl rfl) (fun L Y b w hdep hS hg => ?y8) (fun L s hL hcl hdep hni hp hok => ?c8) (by decide) (by decide) (by decide) (by decide) (fun i u w w' h => F14.keep i u w w' h) (fun _ _ => trivial)) ?_
        case y8 =>
          obtain ⟨_, _, _, _, _, h4⟩ := hS.ex
          obtain ⟨g, e, _, hl⟩ := h4 ⟨7, 74, noughts 11, fun g => fcv 2 [97] [] (some ⟨g, 0, none⟩) 11 11⟩ (by simp [M14]) (hdep _ (List.mem_of_getElem? (i := 1) rfl) rfl)
          exact ⟨some ⟨g, 0, none⟩, 11, e, hl.reads⟩
        case c8 =>
          subst hp
          refine ⟨fun v hv => ?_, 2, by omega, hok, fun g' => ⟨by rw [wk_e5], fun h => hok, by rw [wk_e5]⟩⟩
          rw [wk_now, List.mem_singleton] at hv
          subst hv
          decide
        refine OpsFu.cons _ _ (OpFu.makeS key14 (v := ⟨9, 11, 11, 71, 51, zres⟩) (by simp [d14]) rfl rfl (by decide) rfl (fun L hcl hn => notyet hcl (ho := (rfl : _[11]? = _)) (he := (rfl : _[0]? = _)) rfl hn) (fun _ _ => trivial) (fun i u w w' _ h => F14.keep i u w w' h) (fun L Y b w hsz h => (h.new _).off (fun s h => h) (by decide) hsz (by decide) (by decide)) (fun b w => exec_allocFr rfl)) ?_
        refine OpsFu.cons _ _ (OpFu.makeS key14 (v := ⟨10, 12, 12, 75, 51, zres⟩) (by simp [d14]) rfl rfl (by decide) rfl (fun L hcl hn => notyet hcl (ho := (rfl : _[12]? = _)) (he := (rfl : _[0]? = _)) rfl hn) (fun _ _ => trivial) (fun i u w w' _ h => F14.keep i u w w' h) (fun L Y b w hsz h => (h.new _).off (fun s h => h) (by decide) hsz (by decide) (by decide)) (fun b w => exec_allocFr rfl)) ?_
        refine OpsFu.cons _ _ (OpFu.fillS key14 (v := ⟨9, 11, 11, 71, 51, zres⟩) (by simp [d14]) rfl rfl rfl rfl size_fr10 (fun i u w g xs h => F14.keep i u w _ h) (fun L hd => hd _ (List.mem_of_getElem? (i := 0) rfl) rfl) (fun L Y tm w g xs hg h => (h.fill hg xs).congr (fun s h => h) (offL (by decide)) fun _ _ => rfl) (fun L b w Y hd h _ => ?v11)) ?_
        case v11 =>
          obtain ⟨_, _, _, _, _, _, r⟩ := h.res (4, 71, 80) (by simp [T14]) (hd _ (List.mem_of_getElem? (i := 1) rfl) rfl)
          exact ⟨_, r, rfl, by simp [Value.oneCell']⟩
        refine OpsFu.cons _ _ (OpFu.fillS key14 (v := ⟨10, 12, 12, 75, 51, zres⟩) (by simp [d14]) rfl rfl rfl rfl size_fr10 (fun i u w g xs h => F14.keep i u w _ h) (fun L hd => hd _ (List.mem_of_getElem? (i := 0) rfl) rfl) (fun L Y tm w g xs hg h => (h.fill hg xs).congr (fun s h => h) (offL (by decide)) fun _ _ => rfl) (fun L b w Y hd h _ => ?v12)) (OpsFu.nil _ _)
        case v12 =>
          obtain ⟨_, _, _, _, _, _, r⟩ := h.res (8, 75, 90) (by simp [T14]) (hd _ (List.mem_of_getElem? (i := 1) rfl) rfl)
          exact ⟨_, r, rfl, by simp [Value.oneCell']⟩
      obtain ⟨g11, g12, Y14, rfl, rfl, HE11, HE12, HF14, HT14⟩ := hcut
      obtain ⟨w14, rfl⟩ : ∃ w', w' = wc := ⟨_, rfl⟩
      have HFf := Lib.hid (ffiles_any (HF11.out.quiet HF14.out.below).1 (by omega))
      rw [wk_files] at HFf
      have hcl : Hid (∀ wx, Below w14.heap.size w14 wx → wx.cell? ⟨g8, 0, none⟩ = some (.int .i64 0) ∧ wx.cell? ⟨g9, 0, none⟩ = some (.int .i64 81) ∧ wx.cell? ⟨g10, 0, none⟩ = some (.int .i64 2) ∧ wx.cell? ⟨g11, 0, none⟩ = some (.int .i64 80) ∧ wx.cell? ⟨g12, 0, none⟩ = some (.int .i64 90)) := fun wx hb =>
        ⟨((HE8.out.keep HT14.out fun e => e.2 HY13.out.1).keep (Touch.of (X := fun _ => False) hb) fun e => e).cell, ((HE9.out.keep HT14.out fun e => e.2 HY13.out.2.1).keep (Touch.of (X := fun _ => False) hb) fun e => e).cell, ((HE10.out.keep HT14.out fun e => e.2 HY13.out.2.2).keep (Touch.of (X := fun _ => False) hb) fun e => e).cell, (HE11.out.keep (Touch.of (X := fun _ => False) hb) fun e => e).cell, (HE12.out.keep (Touch.of (X := fun _ => False) hb) fun e => e).cell⟩
      go_wp2_with (first
        | (go_at_call 18; refine HFf.out.mono ?_; rintro e w15 ⟨v, es, rfl, hfl, hes, hb15⟩; obtain ⟨A15, c15, rfl, _, _, _⟩ := own_form hfl.head; have Hfl := Lib.hid hfl; have Hes := Lib.hid hes; have Hb15 := Lib.hid hb15; have hbz := below_new w15 (.cells #[.string ⟨#[98]⟩, .slice none 0 0] 70); have Hb16 := Lib.hid (Hb15.out.trans (hbz.mono Hb15.out.size)); have Hft := Lib.hid (files_true (c1 := c15) (c2 := 1) ((Hfl.out.reads (X := fun _ => False) (fun _ h => h.elim)).2.below hbz) (flx_one w15 70 ⟨#[98]⟩ rfl) rfl rfl Hes.out (one_file Hes.out).1 (one_file Hes.out).2); clear hfl hes hb15 hbz)
        | (go_at_call 24; refine Hft.out.mono ?_; rintro e w17 ⟨rfl, hb17⟩; have Hb17 := Lib.hid (Hb16.out.trans (hb17.mono Hb16.out.size)); clear hb17; obtain ⟨z8, z9, z10, z11, z12⟩ := hcl.out _ Hb17.out))
      go_ret
      exact ⟨rfl, ((HF11.out.quiet HF14.out.below).1.quiet Hb17.out).1.below⟩
end Go.Proofs.YtbhmnmmockmibaaGreat
