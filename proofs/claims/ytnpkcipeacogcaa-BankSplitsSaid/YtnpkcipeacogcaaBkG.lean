/- bank: result, lack. -/
import Derived.Test.YtnpkcipeacogcaaBkF

set_option linter.unusedSimpArgs false
set_option linter.unusedVariables false
namespace Go.Proofs.Ytnpkcipeacogcaa
open Go.RowKit

theorem startOf_bd {g : Gen} {f : Int} (h : GenOk g) (h0 : 0 ≤ f) (h1 : f ≤ 5) : -1 ≤ startOf g f ∧ startOf g f ≤ 100000 := by
  have m1 : 0 ≤ (f + 1) * g.delay := Int.mul_nonneg (by omega) h.d0
  have m2 : (f + 1) * g.delay ≤ 6 * 3600 := Int.mul_le_mul (by omega) h.d1 h.d0 (by omega)
  have m3 : 0 ≤ f * g.pause := Int.mul_nonneg h0 h.q0
  have m4 : f * g.pause ≤ 5 * 3600 := Int.mul_le_mul h1 h.q1 h.q0 (by omega)
  unfold startOf
  split <;> omega
theorem engs0_mem : ∀ {gs : List Gen} {fs : List Int} {e : Eng}, e ∈ engs0 gs fs → ∃ g f, g ∈ gs ∧ f ∈ fs ∧ e = eng0 g f := by
  intro gs
  induction gs with
  | nil => intro fs e h; simp [engs0] at h
  | cons g gs ih =>
    intro fs e h
    cases fs with
    | nil => simp [engs0] at h
    | cons f fs =>
      rcases List.mem_cons.1 h with h | h
      · exact ⟨g, f, List.mem_cons_self .., List.mem_cons_self .., h⟩
      · obtain ⟨g', f', h1, h2, h3⟩ := ih h
        exact ⟨g', f', List.mem_cons_of_mem _ h1, List.mem_cons_of_mem _ h2, h3⟩
theorem ply0_ok {bs : List Bat} {gs : List Gen} {fs : List Int} (hb : ∀ b ∈ bs, BatOk b) (hg : ∀ g ∈ gs, GenOk g) (hf : ∀ f ∈ fs, 0 ≤ f ∧ f ≤ 5) : PlyOk 0 (ply0 bs gs fs) := by
  refine ⟨?_, ?_, Int.le_refl _, Int.le_refl _, Int.le_refl _, Int.le_refl _⟩
  · intro c hc
    obtain ⟨b, h1, rfl⟩ := List.mem_map.1 hc
    exact ⟨hb b h1, (hb b h1).e0, (hb b h1).ef⟩
  · intro e he
    obtain ⟨g, f, h1, h2, rfl⟩ := engs0_mem he
    obtain ⟨k1, k2⟩ := startOf_bd (hg g h1) (hf f h2).1 (hf f h2).2
    exact ⟨⟨hg g h1, k1, k2, by simp [eng0], by simp [eng0], by simp [eng0], by simp [eng0]⟩, by simp [eng0]⟩
theorem goL_ok : ∀ {l : List Int} {T t : Int} {p : Ply}, PlyOk T p → (∀ x ∈ l, 0 ≤ x ∧ x ≤ 1000000) → PlyOk (T + l.length) (goL t p l) := by
  intro l
  induction l with
  | nil => intro T t p h _; simpa [goL] using h
  | cons x l ih =>
    intro T t p h hx
    have h1 := ih (t := t + 1) (h.go (t := t) (hx x (List.mem_cons_self ..)).1 (hx x (List.mem_cons_self ..)).2) (fun y hy => hx y (List.mem_cons_of_mem _ hy))
    rw [show T + ((x :: l).length : Int) = T + 1 + (l.length : Int) by rw [List.length_cons]; omega]
    exact h1
theorem anyL_ok : ∀ {l : List Int} {T t : Int} {p : Ply}, PlyOk T p → (∀ x ∈ l, 0 ≤ x ∧ x ≤ 1000000) → PlyOk (T + l.length) (anyL t p l) := by
  intro l
  induction l with
  | nil => intro T t p h _; simpa [anyL] using h
  | cons x l ih =>
    intro T t p h hx
    have h1 := ih (t := t + 1) (h.anyway (t := t) (hx x (List.mem_cons_self ..)).1 (hx x (List.mem_cons_self ..)).2) (fun y hy => hx y (List.mem_cons_of_mem _ hy))
    rw [show T + ((x :: l).length : Int) = T + 1 + (l.length : Int) by rw [List.length_cons]; omega]
    exact h1
theorem secsL_bd {l : List Spn} (h : ∀ s ∈ l, SpnOk s) : ∀ x ∈ secsL l, 0 ≤ x ∧ x ≤ 1000000 := by
  intro x hx
  obtain ⟨s, h1, h2⟩ := List.mem_flatMap.1 hx
  rw [(List.mem_replicate.1 h2).2]
  exact ⟨(h s h1).p0, (h s h1).p1⟩
theorem secsL_bd_pre {l : List Spn} {pre : List Int} {x : Int} (h : ∀ s ∈ l, SpnOk s) (hp : pre ++ [x] <+: secsL l) : ∀ y ∈ pre, 0 ≤ y ∧ y ≤ 1000000 :=
  fun y hy => secsL_bd h y (hp.subset (List.mem_append_left _ hy))
/-- The world of a play that goes on, and of one that is dark. -/
def RunJ (a : Adr) (p0 : Ply) (pre : List Int) (W : World) : Prop := PlyIn W a (goL 0 p0 pre) ∧ okL 0 p0 pre
def RunX (a : Adr) (p0 : Ply) (pre : List Int) (W : World) : Prop := ∃ p1 x, pre = p1 ++ [x] ∧ okL 0 p0 p1 ∧ okP p1.length (goL 0 p0 p1) x = false ∧ PlyIn W a (darkP p1.length (goL 0 p0 p1))
def AnyJ (a : Adr) (p0 : Ply) (pre : List Int) (W : World) : Prop := PlyIn W a (anyL 0 p0 pre)
theorem run_thr {a : Adr} {p0 : Ply} {l : List Int} {W : World} (h : Thr (RunJ a p0) (RunX a p0) l W) : PlyIn W a (runL 0 p0 l) := by
  rcases h with ⟨h1, h2⟩ | ⟨pre, hp, p1, x, rfl, h1, h2, h3⟩
  · rw [runL_all l 0 p0 h2]; exact h1
  · obtain ⟨m, rfl⟩ := hp
    rw [List.append_assoc, show [x] ++ m = x :: m from rfl, runL_dark p1 m x 0 p0 h1 (by rwa [Int.zero_add]), Int.zero_add]
    exact h3
theorem any_thr {a : Adr} {p0 : Ply} {l : List Int} {W : World} (h : Thr (AnyJ a p0) (fun _ _ => False) l W) : PlyIn W a (anyL 0 p0 l) := by
  rcases h with h | ⟨_, _, h⟩
  · exact h
  · exact h.elim
theorem run_step {a : Adr} {p0 : Ply} {l : List Spn} (h0 : PlyOk 0 p0) (hl : ∀ s ∈ l, SpnOk s) (hlen : (secsL l).length ≤ 20000) {B : Nat} (hB : ∀ b, a.mine b → B ≤ b) (pre : List Int) (x : Int) (W : World) (hJ : RunJ a p0 pre W) (hp : pre ++ [x] <+: secsL l) (x0 : 0 ≤ x) (x1 : x ≤ 1000000) (t : Int) (ht : t = (pre.length : Int)) :
    Calls Try.prog 31 #[a.ptr, .int .i64 t, .int .i64 x] W (Stp (RunJ a p0) (RunX a p0) B (pre ++ [x]) W) := by
  subst ht
  have h1 := hp.length_le
  simp only [List.length_append, List.length_cons, List.length_nil] at h1
  have hok := goL_ok (t := 0) h0 (secsL_bd_pre hl hp)
  rw [Int.zero_add] at hok
  refine (second_any a _ _ x _ W hJ.1 hok (by omega) (by omega) (by omega) x0 x1).mono ?_
  rintro e w' ⟨h2, h3, h4⟩
  refine ⟨?_, KeepB.of_keep h4 hJ.1 hB⟩
  cases hb : okP (pre.length : Int) (goL 0 p0 pre) x with
  | true =>
    refine Or.inl ⟨by rw [h2, hb], ?_, (okL_snoc ..).2 ⟨hJ.2, by rwa [Int.zero_add]⟩⟩
    rw [secP, if_pos hb] at h3
    rw [goL_snoc, Int.zero_add]
    exact h3
  | false =>
    refine Or.inr ⟨by rw [h2, hb], pre, x, rfl, hJ.2, hb, ?_⟩
    rw [secP, if_neg (by rw [hb]; decide)] at h3
    exact h3
theorem any_step {a : Adr} {p0 : Ply} {l : List Spn} (h0 : PlyOk 0 p0) (hl : ∀ s ∈ l, SpnOk s) (hlen : (secsL l).length ≤ 20000) {B : Nat} (hB : ∀ b, a.mine b → B ≤ b) (pre : List Int) (x : Int) (W : World) (hJ : AnyJ a p0 pre W) (hp : pre ++ [x] <+: secsL l) (x0 : 0 ≤ x) (x1 : x ≤ 1000000) (t : Int) (ht : t = (pre.length : Int)) :
    Calls Try.prog 52 #[a.ptr, .int .i64 t, .int .i64 x] W (Stp (AnyJ a p0) (fun _ _ => False) B (pre ++ [x]) W) := by
  subst ht
  have h1 := hp.length_le
  simp only [List.length_append, List.length_cons, List.length_nil] at h1
  have hok := anyL_ok (t := 0) h0 (secsL_bd_pre hl hp)
  rw [Int.zero_add] at hok
  refine (anyway_any a _ _ x _ W hJ hok (by omega) (by omega) (by omega) x0 x1).mono ?_
  rintro e w' ⟨h2, h3, h4⟩
  refine ⟨Or.inl ⟨h2, ?_⟩, KeepB.of_keep h4 hJ hB⟩
  unfold AnyJ
  rw [anyL_snoc, Int.zero_add]
  exact h3
/-- Arguments of a play: where a bank, a load and fails lie, and that they are valid. -/
structure ArgsIn (w : World) (B : Nat) (bA : Option Addr) (bn : Nat) (bs : List Bat) (gA : Option Addr) (gn : Nat) (gs : List Gen) (lA : Option Addr) (ln : Nat) (l : List Spn) : Prop where
  bat : Rd w B 4 Bat.enc bA bn bs
  gen : Rd w B 5 Gen.enc gA gn gs
  load : Rd w B 2 Spn.enc lA ln l
structure ArgsOk (bs : List Bat) (gs : List Gen) (l : List Spn) : Prop where
  nb : bs.length ≤ 8
  ng : gs.length ≤ 6
  nl : l.length ≤ 64
  bat : ∀ b ∈ bs, BatOk b
  gen : ∀ g ∈ gs, GenOk g
  spn : ∀ s ∈ l, SpnOk s
  len : (secsL l).length ≤ 20000
theorem ArgsIn.next {w w' : World} {bA gA lA : Option Addr} {bn gn ln : Nat} {bs : List Bat} {gs : List Gen} {l : List Spn} (h : ArgsIn w w.heap.size bA bn bs gA gn gs lA ln l) (hb : Below w.heap.size w w') : ArgsIn w' w'.heap.size bA bn bs gA gn gs lA ln l :=
  ⟨h.bat.next hb, h.gen.next hb, h.load.next hb⟩
/-- A list of fails. -/
def FailsOk (gs : List Gen) (fs : List Int) : Prop := fs.length = gs.length ∧ ∀ (i : Nat) (g : Gen) (f : Int), gs[i]? = some g → fs[i]? = some f → 0 ≤ f ∧ f ≤ g.tries
theorem FailsOk.bd {gs : List Gen} {fs : List Int} (h : FailsOk gs fs) (hg : ∀ g ∈ gs, GenOk g) : ∀ f ∈ fs, 0 ≤ f ∧ f ≤ 5 := by
  intro f hf
  obtain ⟨i, hi, rfl⟩ := List.mem_iff_getElem.1 hf
  have hi2 : i < gs.length := by rw [← h.1]; exact hi
  have h1 := h.2 i gs[i] fs[i] (List.getElem?_eq_getElem hi2) (List.getElem?_eq_getElem hi)
  have h2 := (hg gs[i] (List.getElem_mem hi2)).t1
  omega
/-- A result in memory: two lists of its own. -/
structure ResIn (B : Nat) (W : World) (g1 g2 : Nat) (p : Ply) : Prop where
  b1 : B ≤ g1
  b2 : B ≤ g2
  e : Blk W g1 3 (intsA (energies p))
  b : Blk W g2 3 (intsA (burnts p))
def resVal (g1 g2 : Nat) (p : Ply) : Value := .agg #[.int .i64 p.dark, .slice (some ⟨g1, 0, none⟩) p.cs.length p.cs.length, .slice (some ⟨g2, 0, none⟩) p.es.length p.es.length, .int .i64 p.served]
/-- While a result is made. -/
def ResR (w W1 : World) (rb nc ne : Nat) (p : Ply) (W : World) (γ : Nat → Nat) : Prop :=
  (γ 0 = 0 ∧ Below W1.heap.size W1 W) ∨ (γ 0 = 2 ∧ ∃ g1 g2, Below w.heap.size w W ∧ ResIn W1.heap.size W g1 g2 p ∧ Blk W rb 40 #[.int .i64 p.dark, .slice (some ⟨g1, 0, none⟩) nc nc, .slice (some ⟨g2, 0, none⟩) ne ne, .int .i64 p.served])
def resPhi (W1 : World) (bp rb nc ne : Nat) (p : Ply) : Nat → Value → World → (Nat → Nat) → Prop
  | 0, v, _, _ => v = .pointer (some ⟨bp, 0, none⟩)
  | 1, v, _, _ => v = .pointer (some ⟨bp, 0, none⟩)
  | 2, v, _, _ => v = .pointer (some ⟨bp, 2, none⟩)
  | 3, v, _, _ => v = .int .i64 p.dark
  | 4, v, _, _ => v = .pointer (some ⟨bp, 0, none⟩)
  | 5, v, W, γ => ∃ g, v = .slice (some ⟨g, 0, none⟩) nc nc ∧ (γ 0 = 2 ∨ (W1.heap.size ≤ g ∧ Blk W g 3 (intsA (energies p))))
  | 6, v, _, _ => v = .pointer (some ⟨bp, 0, none⟩)
  | 7, v, W, γ => ∃ g, v = .slice (some ⟨g, 0, none⟩) ne ne ∧ (γ 0 = 2 ∨ (W1.heap.size ≤ g ∧ Blk W g 3 (intsA (burnts p))))
  | 8, v, _, _ => v = .pointer (some ⟨bp, 0, none⟩)
  | 9, v, _, _ => v = .pointer (some ⟨bp, 0, none⟩)
  | 10, v, _, _ => v = .pointer (some ⟨bp, 3, none⟩)
  | 11, v, _, _ => v = .int .i64 p.served
  | 12, v, W, γ => ∃ g1 g2, v = .agg #[.int .i64 p.dark, .slice (some ⟨g1, 0, none⟩) nc nc, .slice (some ⟨g2, 0, none⟩) ne ne, .int .i64 p.served] ∧ (γ 0 = 2 ∨ ((W1.heap.size ≤ g1 ∧ Blk W g1 3 (intsA (energies p))) ∧ (W1.heap.size ≤ g2 ∧ Blk W g2 3 (intsA (burnts p)))))
  | 13, _, _, γ => γ 0 = 2
  | _, _, _, _ => True
section
variable {w W1 W W' : World} {bp rb nc ne i : Nat} {p : Ply} {γ : Nat → Nat} {v : Value}
theorem resPhi_next (hb : Below W.heap.size W W') (h : resPhi W1 bp rb nc ne p i v W γ) : resPhi W1 bp rb nc ne p i v W' γ := by
  unfold resPhi at h ⊢
  split at h
  all_goals first | exact h | trivial | skip
  · obtain ⟨g, h1, h2⟩ := h
    exact ⟨g, h1, h2.imp id fun h => ⟨h.1, h.2.below hb h.2.lt⟩⟩
  · obtain ⟨g, h1, h2⟩ := h
    exact ⟨g, h1, h2.imp id fun h => ⟨h.1, h.2.below hb h.2.lt⟩⟩
  · obtain ⟨g1, g2, h1, h2⟩ := h
    exact ⟨g1, g2, h1, h2.imp id fun h => ⟨⟨h.1.1, h.1.2.below hb h.1.2.lt⟩, h.2.1, h.2.2.below hb h.2.2.lt⟩⟩
theorem resPhi_2 (hi : i ≠ 13) (h : resPhi W1 bp rb nc ne p i v W γ) : resPhi W1 bp rb nc ne p i v W' (fun _ => 2) := by
  unfold resPhi at h ⊢
  split at h
  all_goals first | exact h | trivial | exact absurd rfl hi | skip
  · obtain ⟨g, h1, _⟩ := h
    exact ⟨g, h1, Or.inl rfl⟩
  · obtain ⟨g, h1, _⟩ := h
    exact ⟨g, h1, Or.inl rfl⟩
  · obtain ⟨g1, g2, h1, _⟩ := h
    exact ⟨g1, g2, h1, Or.inl rfl⟩
theorem res_low (h : ResR w W1 rb nc ne p W γ) (h2 : γ 0 ≠ 2) : Below W1.heap.size W1 W := by
  rcases h with ⟨_, h⟩ | ⟨e, _⟩
  · exact h
  · exact absurd e h2
theorem res_next (h : ResR w W1 rb nc ne p W γ) (h2 : γ 0 ≠ 2) (hb : Below W.heap.size W W') : ResR w W1 rb nc ne p W' γ := by
  rcases h with ⟨e, h⟩ | ⟨e, _⟩
  · exact Or.inl ⟨e, h.trans (hb.mono h.size)⟩
  · exact absurd e h2
theorem res_end (h : ResR w W1 rb nc ne p W γ) (h2 : γ 0 = 2) : ∃ g1 g2, Below w.heap.size w W ∧ ResIn W1.heap.size W g1 g2 p ∧ Blk W rb 40 #[.int .i64 p.dark, .slice (some ⟨g1, 0, none⟩) nc nc, .slice (some ⟨g2, 0, none⟩) ne ne, .int .i64 p.served] := by
  rcases h with ⟨e, _⟩ | ⟨_, h⟩
  · omega
  · exact h
theorem res_store {g1 g2 : Nat} (h0 : Below w.heap.size w W1) (hrb : w.heap.size ≤ rb) (hL : Below W1.heap.size W1 W) (h1 : W1.heap.size ≤ g1) (k1 : Blk W g1 3 (intsA (energies p))) (h2 : W1.heap.size ≤ g2) (k2 : Blk W g2 3 (intsA (burnts p))) {z0 z1 z2 z3 : Value} (hr : Blk W rb 40 #[z0, z1, z2, z3]) :
    Below w.heap.size w ((((W.setCell ⟨rb, 0, none⟩ (.int .i64 p.dark)).setCell ⟨rb, 1, none⟩ (.slice (some ⟨g1, 0, none⟩) nc nc)).setCell ⟨rb, 2, none⟩ (.slice (some ⟨g2, 0, none⟩) ne ne)).setCell ⟨rb, 3, none⟩ (.int .i64 p.served)) ∧
    ResIn W1.heap.size ((((W.setCell ⟨rb, 0, none⟩ (.int .i64 p.dark)).setCell ⟨rb, 1, none⟩ (.slice (some ⟨g1, 0, none⟩) nc nc)).setCell ⟨rb, 2, none⟩ (.slice (some ⟨g2, 0, none⟩) ne ne)).setCell ⟨rb, 3, none⟩ (.int .i64 p.served)) g1 g2 p ∧
    Blk ((((W.setCell ⟨rb, 0, none⟩ (.int .i64 p.dark)).setCell ⟨rb, 1, none⟩ (.slice (some ⟨g1, 0, none⟩) nc nc)).setCell ⟨rb, 2, none⟩ (.slice (some ⟨g2, 0, none⟩) ne ne)).setCell ⟨rb, 3, none⟩ (.int .i64 p.served)) rb 40 #[.int .i64 p.dark, .slice (some ⟨g1, 0, none⟩) nc nc, .slice (some ⟨g2, 0, none⟩) ne ne, .int .i64 p.served] := by
  have n1 : g1 ≠ rb := blk_ne k1 hr (by decide)
  have n2 : g2 ≠ rb := blk_ne k2 hr (by decide)
  refine ⟨((((h0.trans (hL.mono h0.size)).setCell (p := ⟨rb, 0, none⟩) hrb _).setCell (p := ⟨rb, 1, none⟩) hrb _).setCell (p := ⟨rb, 2, none⟩) hrb _).setCell (p := ⟨rb, 3, none⟩) hrb _, ⟨h1, h2, (((k1.far n1 _).far n1 _).far n1 _).far n1 _, (((k2.far n2 _).far n2 _).far n2 _).far n2 _⟩, ?_⟩
  have k := (((hr.set_ 0 (.int .i64 p.dark)).set_ 1 (.slice (some ⟨g1, 0, none⟩) nc nc)).set_ 2 (.slice (some ⟨g2, 0, none⟩) ne ne)).set_ 3 (.int .i64 p.served)
  simpa only [List.setIfInBounds_toArray, List.set_cons_zero, List.set_cons_succ] using k
end
set_option maxRecDepth 100000 in
set_option maxHeartbeats 4000000 in
theorem result_any (bA gA lA fA : Option Addr) (bn bc gn gc ln lc fn fc : Nat) (bs : List Bat) (gs : List Gen) (l : List Spn) (fs : List Int) (w : World)
    (hin : ArgsIn w w.heap.size bA bn bs gA gn gs lA ln l) (hf : Rd w w.heap.size 1 encI fA fn fs) (ok : ArgsOk bs gs l) (okf : FailsOk gs fs) :
    Calls Try.prog 27 #[.agg #[.slice bA bn bc, .slice gA gn gc], .slice lA ln lc, .slice fA fn fc] w fun e w' => ∃ g1 g2, e = .returned (resVal g1 g2 (runL 0 (ply0 bs gs fs) (secsL l))) ∧ Below w.heap.size w w' ∧ ResIn w.heap.size w' g1 g2 (runL 0 (ply0 bs gs fs) (secsL l)) := by
  have HIN := Lib.hid hin
  have HF := Lib.hid hf
  have OK := Lib.hid ok
  have OKF := Lib.hid okf
  have hbn : bn ≤ 100 := by have := ok.nb; have := hin.bat.1; omega
  have hgn : gn ≤ 100 := by have := ok.ng; have := hin.gen.1; omega
  have hln : ln ≤ 100 := by have := ok.nl; have := hin.load.1; omega
  have hfn : fn = gn := by have := okf.1; have := hin.gen.1; have := hf.1; omega
  have KN := Lib.hid (fun W (hb : BankIn W W.heap.size bA bn bs gA gn gs) (hf : Rd W W.heap.size 1 encI fA fn fs) => newPlay_any bA gA fA bn bc gn gc fn fc bs gs fs W hb hf hbn hgn hfn ok.gen (okf.bd ok.gen))
  obtain ⟨p0, hp0⟩ : ∃ z, z = ply0 bs gs fs := ⟨_, rfl⟩
  have HOK0 : Hid (PlyOk 0 p0) := Lib.hid (by rw [hp0]; exact ply0_ok ok.bat ok.gen (okf.bd ok.gen))
  rw [← hp0] at KN ⊢
  obtain ⟨p, hp⟩ : ∃ z, z = runL 0 p0 (secsL l) := ⟨_, rfl⟩
  have HP0 := Lib.hid hp
  rw [← hp]
  clear hin hf ok okf hp0 hp hfn
  go_enter Try.func27, Try.ntmps27
  go_wp2_with fail
  refine (KN.out _ ⟨HIN.out.bat.next (by (repeat' (first | (with_reducible exact Below.refl _ _) | (with_reducible assumption) | (with_reducible refine below_drewN ?_ _) | (with_reducible refine below_after (by assumption) ?_ ?_) | (with_reducible refine Below.drew ?_) | (with_reducible refine Below.alloc ?_ ?_ _) | (with_reducible refine Below.setCell ?_ ?_ _) | omega | (simp; omega) | (simp; done)))), HIN.out.gen.next (by (repeat' (first | (with_reducible exact Below.refl _ _) | (with_reducible assumption) | (with_reducible refine below_drewN ?_ _) | (with_reducible refine below_after (by assumption) ?_ ?_) | (with_reducible refine Below.drew ?_) | (with_reducible refine Below.alloc ?_ ?_ _) | (with_reducible refine Below.setCell ?_ ?_ _) | omega | (simp; omega) | (simp; done))))⟩ (HF.out.next (by (repeat' (first | (with_reducible exact Below.refl _ _) | (with_reducible assumption) | (with_reducible refine below_drewN ?_ _) | (with_reducible refine below_after (by assumption) ?_ ?_) | (with_reducible refine Below.drew ?_) | (with_reducible refine Below.alloc ?_ ?_ _) | (with_reducible refine Below.setCell ?_ ?_ _) | omega | (simp; omega) | (simp; done)))))).mono ?_
  rintro e w1 ⟨a, rfl, hP1, hB1, hm1⟩
  have HLW : Hid (Below w.heap.size w w1) := Lib.hid ((((Below.refl w.heap.size w).alloc (Nat.le_refl _) _).alloc (by simp) _).trans (hB1.mono (by simp; omega)))
  have HRB0 : Hid (Blk w1 (w.heap.size + 1) 40 #[.int .i64 0, .slice none 0 0, .slice none 0 0, .int .i64 0]) := Lib.hid (by
    have h := heap_alloc_new (w.alloc (.cells #[.slice bA bn bc, .slice gA gn gc] 26)) (.cells #[.int .i64 0, .slice none 0 0, .slice none 0 0, .int .i64 0] 40)
    rw [World.size_alloc] at h
    exact Blk.below h hB1 (by simp))
  have HP1 := Lib.hid hP1
  have HM1 : Hid (∀ b, a.mine b → w.heap.size + 1 < b) := Lib.hid (fun b hb => by have := hm1 b hb; simp at this; omega)
  have HML : Hid (∀ b, a.mine b → b < w1.heap.size) := Lib.hid (fun b hb => hP1.mine_lt hb)
  clear hP1 hm1 hB1
  unfold Adr.ptr
  have KT := Lib.hid (through_any 31 (enters_of Try.func31 (by kernel_rfl) rfl) #[a.ptr] #[] lA ln lc l (w.heap.size + 2) (RunJ a p0) (RunX a p0) w1 ((HIN.out.load.below HLW.out).more (by omega)) hln OK.out.spn OK.out.len (by have := HRB0.out.lt; omega) ⟨HP1.out, trivial⟩ (fun pre W o h => ⟨h.1.alloc o, h.2⟩) (fun pre x W hJ hp x0 x1 t ht => run_step HOK0.out OK.out.spn OK.out.len HM1.out pre x W hJ hp x0 x1 t ht))
  unfold Adr.ptr at KT
  go_wp2_with fail
  refine KT.out.mono ?_
  rintro e W1 ⟨rfl, hT, hK⟩
  have HP2 := run_thr hT
  rw [← HP0.out] at HP2
  have HP := Lib.hid HP2
  have hlr := HRB0.out.lt
  have hBl := hK.below (by omega)
  have HRB := Lib.hid (HRB0.out.below hBl (by omega))
  have HLW2 : Hid (Below w.heap.size w W1) := Lib.hid (HLW.out.trans (hBl.mono (by omega)))
  have zp := HP2.head.1
  have c2 := HP2.head.2.2.2.1
  have c3 := HP2.head.2.2.2.2.1
  have hnc := HP2.nc
  have hne := HP2.ne
  clear hT hK HP2 KT KN hBl hlr
  have HLW := HLW2
  have KE := Lib.hid (fun W (h : PlyIn W a p) => energies_any a p W h)
  have KB := Lib.hid (fun W (h : PlyIn W a p) => burnt_any a p W h)
  unfold Adr.ptr at KE KB
  have HNC := Lib.hid hnc
  have HNE := Lib.hid hne
  obtain ⟨rb, hrb0⟩ : ∃ z, z = w.heap.size + 1 := ⟨_, rfl⟩
  have hrb : w.heap.size ≤ rb := by omega
  rw [← hrb0] at HRB
  have HR0 := Lib.hid hrb0
  obtain ⟨z0, hz0⟩ : ∃ z, z = Value.int .i64 0 := ⟨_, rfl⟩
  obtain ⟨z1, hz1⟩ : ∃ z, z = Value.slice none 0 0 := ⟨_, rfl⟩
  obtain ⟨z2, hz2⟩ : ∃ z, z = Value.slice none 0 0 := ⟨_, rfl⟩
  obtain ⟨z3, hz3⟩ : ∃ z, z = Value.int .i64 0 := ⟨_, rfl⟩
  have HRB : Hid (Blk W1 rb 40 #[z0, z1, z2, z3]) := Lib.hid (by rw [hz0, hz1, hz2, hz3]; exact HRB.out)
  clear hz0 hz1 hz2 hz3 hnc hne
  go_wp2
  rw [← hrb0]
  clear hrb0
  refine wp_region_free10 13 (by kernel_rfl) [some 15, some 16, some 17, some 18, some 19, some 20, some 21, some 22, some 23, some 24, some 25, some 26, some 27, none] [[], [0], [1], [2], [], [4], [], [6, 5], [], [8], [9], [10], [3, 5, 7, 11], [12, 7, 0, 1, 2, 3, 4, 5, 6, 7, 8, 9, 10, 11, 12]] [(6, .pointer (some ⟨rb, 0, none⟩)), (7, .pointer (some ⟨a.bp, 0, none⟩))] (ResR w W1 rb a.nc a.ne p) (resPhi W1 a.bp rb a.nc a.ne p) (fun _ _ γ => γ 0 ≠ 2) (by kernel_rfl) (by kernel_rfl) rfl (by kernel_rfl) ?_ ?_ ⟨fun _ => 0, Or.inl ⟨rfl, (Below.refl _ _).drew⟩, fun i _ => by decide⟩ ?_ ?_
  · intro z hz
    simp only [List.mem_cons, List.mem_nil_iff, or_false] at hz
    rcases hz with rfl | rfl
    all_goals exact ⟨by kernel_rfl, rfl⟩
  · intro i v W γ hi h
    rcases i with _ | _ | _ | _ | _ | _ | _ | _ | _ | _ | _ | _ | _ | _ | i
    all_goals first | exact h | (simp at hi)
  · refine ⟨?_, ?_, ?_, ?_, ?_, ?_, ?_, ?_, ?_, ?_, ?_, ?_, ?_, ?_, trivial⟩
    all_goals
      intro aa W γ evv hcc hff hfx hR hψ hpre
      simp only [List.mem_cons, List.mem_nil_iff, or_false, forall_eq, forall_eq_or_imp] at hfx
      obtain ⟨f0, f1⟩ := hfx
      have HR := Lib.hid hR
      clear hR
      refine ⟨fun _ K hK => ?_, trivial⟩

    · clear hpre hψ
      go_simp
      exact hK _ _ γ HR.out (fun _ _ _ _ h => h) (fun _ _ _ h => h) rfl
    · have q0 : evv (.tmp 15) = _ := hpre 0 (by decide)
      clear hpre hψ
      go_simp
      exact hK _ _ γ HR.out (fun _ _ _ _ h => h) (fun _ _ _ h => h) rfl
    · have q0 : evv (.tmp 16) = _ := hpre 1 (by decide)
      clear hpre hψ
      go_simp
      exact hK _ _ γ HR.out (fun _ _ _ _ h => h) (fun _ _ _ h => h) rfl
    · have q0 : evv (.tmp 17) = _ := hpre 2 (by decide)
      have hL := res_low HR.out hψ
      have hc : W.cell? ⟨a.bp, 2, none⟩ = some (.int .i64 p.dark) := (hL.cell (p := ⟨a.bp, 2, none⟩) zp).trans c2
      clear hpre hψ
      go_simp
      exact hK _ _ γ HR.out (fun _ _ _ _ h => h) (fun _ _ _ h => h) rfl
    · clear hpre hψ
      go_simp
      exact hK _ _ γ HR.out (fun _ _ _ _ h => h) (fun _ _ _ h => h) rfl
    · have q0 : evv (.tmp 19) = _ := hpre 4 (by decide)
      have hL := res_low HR.out hψ
      have C := Lib.hid (KE.out W (HP.out.next hL))
      clear hpre
      go_simp
      refine C.out.mono ?_
      rintro e w5 ⟨g, rfl, hB5, hg, hN⟩
      exact hK _ w5 γ (res_next HR.out hψ hB5) (fun j u _ _ h => resPhi_next hB5 h) (fun _ _ _ h => h) ⟨g, rfl, Or.inr ⟨Nat.le_trans hL.size hg, hN⟩⟩
    · clear hpre hψ
      go_simp
      exact hK _ _ γ HR.out (fun _ _ _ _ h => h) (fun _ _ _ h => h) rfl
    · have q0 : evv (.tmp 21) = _ := hpre 6 (by decide)
      have hL := res_low HR.out hψ
      have C := Lib.hid (KB.out W (HP.out.next hL))
      clear hpre
      go_simp
      refine C.out.mono ?_
      rintro e w5 ⟨g, rfl, hB5, hg, hN⟩
      exact hK _ w5 γ (res_next HR.out hψ hB5) (fun j u _ _ h => resPhi_next hB5 h) (fun _ _ _ h => h) ⟨g, rfl, Or.inr ⟨Nat.le_trans hL.size hg, hN⟩⟩
    · clear hpre hψ
      go_simp
      exact hK _ _ γ HR.out (fun _ _ _ _ h => h) (fun _ _ _ h => h) rfl
    · have q0 : evv (.tmp 23) = _ := hpre 8 (by decide)
      clear hpre hψ
      go_simp
      exact hK _ _ γ HR.out (fun _ _ _ _ h => h) (fun _ _ _ h => h) rfl
    · have q0 : evv (.tmp 24) = _ := hpre 9 (by decide)
      clear hpre hψ
      go_simp
      exact hK _ _ γ HR.out (fun _ _ _ _ h => h) (fun _ _ _ h => h) rfl
    · have q0 : evv (.tmp 25) = _ := hpre 10 (by decide)
      have hL := res_low HR.out hψ
      have hc : W.cell? ⟨a.bp, 3, none⟩ = some (.int .i64 p.served) := (hL.cell (p := ⟨a.bp, 3, none⟩) zp).trans c3
      clear hpre hψ
      go_simp
      exact hK _ _ γ HR.out (fun _ _ _ _ h => h) (fun _ _ _ h => h) rfl
    · have q0 : evv (.tmp 18) = _ := hpre 3 (by decide)
      have q1 : evv (.tmp 26) = _ := hpre 11 (by decide)
      obtain ⟨g1, q5, h5⟩ := hpre 5 (by decide)
      obtain ⟨g2, q7, h7⟩ := hpre 7 (by decide)
      replace q5 : evv (.tmp 20) = _ := q5
      replace q7 : evv (.tmp 22) = _ := q7
      clear hpre
      go_simp
      exact hK _ _ γ HR.out (fun _ _ _ _ h => h) (fun _ _ _ h => h) ⟨g1, g2, rfl, h5.elim Or.inl fun h5 => h7.elim Or.inl fun h7 => Or.inr ⟨h5, h7⟩⟩
    · obtain ⟨g1, g2, q0, h1⟩ := hpre 12 (by decide)
      replace q0 : evv (.tmp 27) = _ := q0
      have hL := res_low HR.out hψ
      have hne : γ 0 ≠ 2 := hψ
      rcases h1 with h1 | ⟨⟨h1, h2⟩, h3, h4⟩
      · exact absurd h1 hne
      have hr := HRB.out.below hL HRB.out.lt
      have d0 : W.cell? ⟨rb, 0, none⟩ = some z0 := hr.cell 0
      have d1 : W.cell? ⟨rb, 1, none⟩ = some z1 := hr.cell 1
      have d2 : W.cell? ⟨rb, 2, none⟩ = some z2 := hr.cell 2
      have d3 : W.cell? ⟨rb, 3, none⟩ = some z3 := hr.cell 3
      have f0 := hr.frozen
      have zr := hr.lt
      have hfin := res_store (nc := a.nc) (ne := a.ne) HLW.out hrb hL h1 h2 h3 h4 hr
      clear hr
      go_simp
      refine hK undef _ (fun _ => 2) (Or.inr ⟨rfl, g1, g2, hfin⟩) (fun j u h1 h2 h3 => resPhi_2 h2 h3) (fun h => absurd rfl h) rfl
  · intro vs w' γ hvl hR hφ
    have qe : γ 0 = 2 := hφ 13 (by decide)
    have HR := Lib.hid hR
    clear hφ hR
    match vs, hvl with
    | [y0, y1, y2, y3, y4, y5, y6, y7, y8, y9, y10, y11, y12, y13], _ =>
    obtain ⟨g1, g2, h1, h2, h3⟩ := res_end HR.out qe
    have q0 := h3.cell 0
    have q1 := h3.cell 1
    have q2 := h3.cell 2
    have q3 := h3.cell 3
    have H1 := Lib.hid h1
    have H2 := Lib.hid h2
    have zr := h3.lt
    clear h1 h2 h3 qe HR
    simp at q0 q1 q2 q3
    simp [putAll]
    go_wp2
    refine bodyPost_ret (v := resVal g1 g2 p) ?_ rfl ⟨g1, g2, rfl, H1.out, ⟨Nat.le_trans HLW.out.size H2.out.b1, Nat.le_trans HLW.out.size H2.out.b2, H2.out.e, H2.out.b⟩⟩
    simp [results, Try.results27, go_sem, q0, q1, q2, q3, resVal, HNC.out, HNE.out]
end Go.Proofs.Ytnpkcipeacogcaa
