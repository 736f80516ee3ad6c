/- law07: a hall made of numbers. -/
import Derived.Test.YtldbciflpnhfpaaHtS

set_option linter.unusedSimpArgs false
set_option linter.unusedVariables false
namespace Go.Proofs.Ytldbciflpnhfpaa
open Go.RowKit

/-- While a number of the slopes grows by a cell of a box. -/
def slPhi (lb xb n u f0 f1 : Nat) (a o : Int) : Nat → Value → World → (Nat → Nat) → Prop
  | 0, v, _, _ => v = .slice (some ⟨lb, 0, none⟩) n n
  | 1, v, _, _ => v = .pointer (some ⟨xb, f0, none⟩)
  | 2, v, _, _ => v = .int .i64 (u : Int)
  | 3, v, _, _ => v = .pointer (some ⟨lb, u, none⟩)
  | 4, v, _, _ => v = .int .i64 a
  | 5, v, _, _ => v = .pointer (some ⟨xb, f1, none⟩)
  | 6, v, _, _ => v = .int .i64 o
  | 7, v, _, _ => v = .int .i64 (a + o)
  | 8, v, _, _ => v = .pointer (some ⟨lb, u, none⟩)
  | 9, _, _, γ => γ 0 ≠ 0
  | _, _, _, _ => True
theorem slPhi_w {lb xb n u f0 f1 : Nat} {a o : Int} {j : Nat} {v : Value} {W W' : World} {γ γ' : Nat → Nat} (h9 : j ≠ 9) (h : slPhi lb xb n u f0 f1 a o j v W γ) : slPhi lb xb n u f0 f1 a o j v W' γ' := by
  unfold slPhi at h ⊢
  split at h <;> first | exact h | exact absurd rfl h9 | trivial
def ClrOk (n nb : Nat) (x : Clr) : Prop := (0 ≤ x.rm ∧ x.rm < n) ∧ (0 ≤ x.br ∧ x.br < nb) ∧ (0 ≤ x.gn ∧ x.gn ≤ 59) ∧ (0 ≤ x.cr ∧ x.cr ≤ 199) ∧ 10000 ≤ x.sp ∧ x.sp ≤ 20200
/-- While a cooler is made. -/
def clPhi (X : World) (dB pb n nb : Nat) (vb : Value) : Nat → Value → World → (Nat → Nat) → Prop
  | 0, v, _, _ => v = .pointer (some ⟨dB, 0, none⟩)
  | 1, v, _, _ => v = .int .i64 (n : Int)
  | 2, v, _, _ => ∃ r : Int, v = .int .i64 r ∧ 0 ≤ r ∧ r < n
  | 3, v, _, _ => v = .pointer (some ⟨dB, 0, none⟩)
  | 4, v, _, _ => v = .pointer (some ⟨pb, 2, none⟩)
  | 5, v, _, _ => v = vb
  | 6, v, _, _ => v = .int .i64 (nb : Int)
  | 7, v, _, _ => ∃ r : Int, v = .int .i64 r ∧ 0 ≤ r ∧ r < nb
  | 8, v, _, _ => v = .pointer (some ⟨dB, 0, none⟩)
  | 9, v, _, _ => ∃ r : Int, v = .int .i64 r ∧ 0 ≤ r ∧ r < 60
  | 10, v, _, _ => v = .pointer (some ⟨dB, 0, none⟩)
  | 11, v, _, _ => ∃ r : Int, v = .int .i64 r ∧ 0 ≤ r ∧ r < 200
  | 12, v, _, _ => v = .pointer (some ⟨dB, 0, none⟩)
  | 13, v, _, _ => ∃ r : Int, v = .int .i64 r ∧ 0 ≤ r ∧ r < 256
  | 14, v, _, _ => ∃ r : Int, v = .int .i64 r ∧ 0 ≤ r ∧ r ≤ 10200
  | 15, v, _, _ => ∃ r : Int, v = .int .i64 r ∧ 10000 ≤ r ∧ r ≤ 20200
  | 16, v, _, _ => ∃ (x : Clr), v = .agg #[.int .i64 x.rm, .int .i64 x.br, .int .i64 x.gn, .int .i64 x.cr, .int .i64 x.sp] ∧ ClrOk n nb x
  | 17, v, W, γ => v = .pointer (some ⟨γ 30, 0, none⟩) ∧ X.heap.size ≤ γ 30 ∧ (γ 20 = 0 → Blk W (γ 30) 77 #[.int .i64 0, .int .i64 0, .int .i64 0, .int .i64 0, .int .i64 0])
  | 18, _, W, γ => ∃ (x : Clr), Blk W (γ 30) 77 #[.int .i64 x.rm, .int .i64 x.br, .int .i64 x.gn, .int .i64 x.cr, .int .i64 x.sp] ∧ ClrOk n nb x
  | _, _, _, _ => True
def clPsi (i : Nat) (_ : World) (γ : Nat → Nat) : Prop := (i = 2 → γ 10 = 0) ∧ (i = 7 → γ 11 = 0) ∧ (i = 9 → γ 12 = 0) ∧ (i = 11 → γ 13 = 0) ∧ (i = 13 → γ 14 = 0) ∧ (i = 18 → γ 20 = 0)
theorem clPhi_w {X : World} {dB pb n nb : Nat} {vb : Value} {j : Nat} {v : Value} {W W' : World} {γ γ' : Nat → Nat} (h17 : j = 17 → γ' 30 = γ 30 ∧ (γ' 20 = 0 → γ 20 = 0 ∧ ∀ b cs, Blk W b 77 cs → Blk W' b 77 cs)) (h18 : j = 18 → γ' 30 = γ 30 ∧ ∀ b cs, Blk W b 77 cs → Blk W' b 77 cs) (h : clPhi X dB pb n nb vb j v W γ) : clPhi X dB pb n nb vb j v W' γ' := by
  unfold clPhi at h ⊢
  split at h
  all_goals first | exact h | trivial | skip
  · obtain ⟨e, h1, h2⟩ := h
    obtain ⟨e1, e2⟩ := h17 rfl
    rw [e1]
    exact ⟨e, h1, fun g => (e2 g).2 _ _ (h2 (e2 g).1)⟩
  · obtain ⟨x, h1, h2⟩ := h
    obtain ⟨e1, e2⟩ := h18 rfl
    rw [e1]
    exact ⟨x, e2 _ _ h1, h2⟩
/-- While a room is made. -/
def rmAll (γ : Nat → Nat) : Prop := γ 2 = 1 ∧ γ 3 = 1 ∧ γ 10 = 1 ∧ γ 11 = 1 ∧ γ 12 = 1 ∧ γ 13 = 1
def RomOk (s : Int) (x : Rom) : Prop := (s + 1 ≤ x.st ∧ x.st ≤ s + 511) ∧ 20000 ≤ x.lim ∧ x.lim ≤ 40400
def rmPhi (w : World) (dB pb rb sb k n I : Nat) (dv vr vw vb vc : Value) (h : Hl) (sl : List Int) (s : Int) : Nat → Value → World → (Nat → Nat) → Prop
  | 0, v, _, _ => v = .pointer (some ⟨pb, 0, none⟩)
  | 1, v, _, γ => v = vr ∧ γ 2 = 1
  | 2, v, _, _ => v = .slice (some ⟨sb, 0, none⟩) n n
  | 3, v, _, _ => v = .int .i64 (k : Int)
  | 4, v, _, _ => v = .pointer (some ⟨sb, k, none⟩)
  | 5, v, _, γ => v = .int .i64 s ∧ γ 3 = 1
  | 6, v, _, γ => v = .int .i64 (s + 1) ∧ γ 3 = 1
  | 7, v, _, _ => v = .pointer (some ⟨dB, 0, none⟩)
  | 8, v, _, γ => ∃ r : Int, v = .int .i64 r ∧ (0 ≤ r ∧ r < 256) ∧ γ 10 = 1
  | 9, v, _, _ => v = .pointer (some ⟨dB, 0, none⟩)
  | 10, v, _, γ => ∃ r : Int, v = .int .i64 r ∧ (0 ≤ r ∧ r < 3) ∧ γ 11 = 1
  | 11, v, _, γ => ∃ r : Int, v = .int .i64 r ∧ (0 ≤ r ∧ r ≤ 510) ∧ γ 10 = 1 ∧ γ 11 = 1
  | 12, v, _, γ => ∃ r : Int, v = .int .i64 r ∧ (s + 1 ≤ r ∧ r ≤ s + 511) ∧ γ 3 = 1 ∧ γ 10 = 1 ∧ γ 11 = 1
  | 13, v, _, _ => v = .pointer (some ⟨dB, 0, none⟩)
  | 14, v, _, γ => ∃ r : Int, v = .int .i64 r ∧ (0 ≤ r ∧ r < 256) ∧ γ 12 = 1
  | 15, v, _, γ => ∃ r : Int, v = .int .i64 r ∧ (0 ≤ r ∧ r ≤ 20400) ∧ γ 12 = 1
  | 16, v, _, γ => ∃ r : Int, v = .int .i64 r ∧ (20000 ≤ r ∧ r ≤ 40400) ∧ γ 12 = 1
  | 17, v, _, γ => ∃ x : Rom, v = .agg #[.int .i64 x.st, .int .i64 x.lim] ∧ RomOk s x ∧ γ 3 = 1 ∧ γ 10 = 1 ∧ γ 11 = 1 ∧ γ 12 = 1
  | 18, v, W, γ => ∃ (b1 : Nat) (x : Rom), v = .slice (some ⟨b1, 0, none⟩) 1 1 ∧ RomOk s x ∧ (γ 3 = 1 ∧ γ 10 = 1 ∧ γ 11 = 1 ∧ γ 12 = 1 ∧ γ 13 = 1) ∧ (γ 1 = 0 → Blk W b1 61 #[.int .i64 x.st, .int .i64 x.lim])
  | 19, v, W, γ => ∃ (A : Option Addr) (c : Nat) (x : Rom), v = .slice A (k + 1) c ∧ RomOk s x ∧ rmAll γ ∧ (γ 20 = 0 → ∃ (W0 : World) (i : Nat), i ≤ I + 3 ∧ MhS w dB pb rb sb dv vr vw vb vc h sl i W0 ∧ W0.grownBy W vr.ownBlock ∧ W.ownsRow w.heap.size 61 2 (.slice A (k + 1) c) (k + 1) (h.rooms.flatMap Rom.enc ++ x.enc))
  | 20, v, _, _ => v = .pointer (some ⟨pb, 0, none⟩)
  | 21, _, W, _ => ∃ (A : Option Addr) (c : Nat) (x : Rom) (i : Nat), RomOk s x ∧ i ≤ I + 3 ∧ MhS w dB pb rb sb dv (.slice A (k + 1) c) vw vb vc (h.addR x) sl i W
  | _, _, _, _ => True
def rmPsi (i : Nat) (_ : World) (γ : Nat → Nat) : Prop := (i = 1 → γ 2 = 0) ∧ (i = 5 → γ 3 = 0) ∧ (i = 8 → γ 10 = 0) ∧ (i = 10 → γ 11 = 0) ∧ (i = 14 → γ 12 = 0) ∧ (i = 18 → γ 13 = 0) ∧ (i = 19 → γ 1 = 0) ∧ (i = 21 → γ 20 = 0)
def rmR (w : World) (dB pb rb sb I : Nat) (dv vr vw vb vc : Value) (h : Hl) (sl : List Int) (W : World) (γ : Nat → Nat) : Prop :=
  (γ 1 = 0 → ∃ i, i ≤ I + γ 10 + γ 11 + γ 12 ∧ MhS w dB pb rb sb dv vr vw vb vc h sl i W) ∧ (γ 1 = 0 ∨ rmAll γ) ∧ γ 10 ≤ 1 ∧ γ 11 ≤ 1 ∧ γ 12 ≤ 1
section
variable {w : World} {dB pb rb sb k n I : Nat} {dv vr vw vb vc : Value} {h : Hl} {sl : List Int} {s : Int} {j : Nat} {v : Value} {W W' : World} {γ γ' : Nat → Nat}
/-- Flags rise, the world stays or changes apart from rooms; what reads the world from op 19 on is another case. -/
theorem rmPhi_up (hf : ∀ z, z = 2 ∨ z = 3 ∨ z = 10 ∨ z = 11 ∨ z = 12 ∨ z = 13 → γ z = 1 → γ' z = 1) (h18 : j = 18 → (γ' 1 = 0 → γ 1 = 0 ∧ ∀ b cs, Blk W b 61 cs → Blk W' b 61 cs)) (h19 : j = 19 → γ' 20 = 0 → γ 20 = 0 ∧ (¬ rmAll γ ∨ W' = W)) (h21 : j = 21 → W' = W) (g : rmPhi w dB pb rb sb k n I dv vr vw vb vc h sl s j v W γ) : rmPhi w dB pb rb sb k n I dv vr vw vb vc h sl s j v W' γ' := by
  have f2 := hf 2 (by simp)
  have f3 := hf 3 (by simp)
  have f10 := hf 10 (by simp)
  have f11 := hf 11 (by simp)
  have f12 := hf 12 (by simp)
  have f13 := hf 13 (by simp)
  unfold rmPhi at g ⊢
  split at g
  all_goals first | exact g | trivial | skip
  · exact ⟨g.1, f2 g.2⟩
  · exact ⟨g.1, f3 g.2⟩
  · exact ⟨g.1, f3 g.2⟩
  · obtain ⟨r, e, h1, h2⟩ := g; exact ⟨r, e, h1, f10 h2⟩
  · obtain ⟨r, e, h1, h2⟩ := g; exact ⟨r, e, h1, f11 h2⟩
  · obtain ⟨r, e, h1, h2, h3⟩ := g; exact ⟨r, e, h1, f10 h2, f11 h3⟩
  · obtain ⟨r, e, h1, h2, h3, h4⟩ := g; exact ⟨r, e, h1, f3 h2, f10 h3, f11 h4⟩
  · obtain ⟨r, e, h1, h2⟩ := g; exact ⟨r, e, h1, f12 h2⟩
  · obtain ⟨r, e, h1, h2⟩ := g; exact ⟨r, e, h1, f12 h2⟩
  · obtain ⟨r, e, h1, h2⟩ := g; exact ⟨r, e, h1, f12 h2⟩
  · obtain ⟨x, e, h1, h2, h3, h4, h5⟩ := g; exact ⟨x, e, h1, f3 h2, f10 h3, f11 h4, f12 h5⟩
  · obtain ⟨b1, x, e, h1, ⟨h2, h3, h4, h5, h7⟩, h6⟩ := g; exact ⟨b1, x, e, h1, ⟨f3 h2, f10 h3, f11 h4, f12 h5, f13 h7⟩, fun z => (h18 rfl z).2 _ _ (h6 (h18 rfl z).1)⟩
  · obtain ⟨A, c, x, e, h1, h2, h3⟩ := g
    refine ⟨A, c, x, e, h1, ⟨f2 h2.1, f3 h2.2.1, f10 h2.2.2.1, f11 h2.2.2.2.1, f12 h2.2.2.2.2.1, f13 h2.2.2.2.2.2⟩, fun z => ?_⟩
    obtain ⟨z1, h⟩ := h19 rfl z
    rcases h with h | rfl
    · exact absurd h2 h
    · exact h3 z1
  · obtain rfl := h21 rfl; exact g
end
set_option maxRecDepth 100000 in
set_option maxHeartbeats 4000000 in
theorem Made_any (A : Option Addr) (n c : Nat) (l : List Int) (w : World) (hl : Rd w w.heap.size 1 encU A n l) (hu : U8s l) :
    Calls Try.prog 8 #[.slice A n c] w fun e w' => ∃ (rA wA bA cA : Option Addr) (rc wc bc cc : Nat) (h : Hl), e = .returned (.agg #[.slice rA h.rooms.length rc, .slice wA h.walls.length wc, .slice bA h.brs.length bc, .slice cA h.crs.length cc]) ∧ MadeI w w' rA wA bA cA rc wc bc cc h := by
  have H2 := Lib.hid hl
  have U2 := Lib.hid hu
  obtain ⟨iR, x0, x1, x2, x3⟩ := info_parts roomInfo
  have hR := Lib.hid (And.intro x0 (And.intro x1 (And.intro x2 x3)))
  clear x0 x1 x2 x3
  obtain ⟨iW, x0, x1, x2, x3⟩ := info_parts wallInfo
  have hW := Lib.hid (And.intro x0 (And.intro x1 (And.intro x2 x3)))
  clear x0 x1 x2 x3
  obtain ⟨iB, x0, x1, x2, x3⟩ := info_parts branchInfo
  have hB := Lib.hid (And.intro x0 (And.intro x1 (And.intro x2 x3)))
  clear x0 x1 x2 x3
  obtain ⟨iC, x0, x1, x2, x3⟩ := info_parts coolerInfo
  have hC := Lib.hid (And.intro x0 (And.intro x1 (And.intro x2 x3)))
  clear x0 x1 x2 x3
  have g1 : w.heap.size < w.heap.size + 1 := by omega
  have g2 : w.heap.size < w.heap.size + 1 + 1 := by omega
  have g3 : w.heap.size < w.heap.size + 1 + 1 + 1 := by omega
  clear hl hu
  go_enter Try.func8, Try.ntmps8
  go_wp2_with fail
  obtain ⟨rb, hrb⟩ : ∃ z, z = w.heap.size := ⟨_, rfl⟩
  obtain ⟨w1, hw1⟩ : ∃ z, z = w.alloc (.cells #[.slice none 0 0, .slice none 0 0, .slice none 0 0, .slice none 0 0] 28) := ⟨_, rfl⟩
  have RB : Hid (Blk w1 rb 28 #[.slice none 0 0, .slice none 0 0, .slice none 0 0, .slice none 0 0]) := Lib.hid (by rw [hw1, hrb]; exact heap_alloc_new w _)
  have Sw1 : Hid (w1.heap.size = rb + 1) := Lib.hid (by rw [hw1, hrb, World.size_alloc])
  have Zrb : Hid (w.heap.size ≤ rb) := Lib.hid (by rw [hrb]; exact Nat.le_refl _)
  have hBn : Below w.heap.size w w1 := by rw [hw1]; exact (Below.refl _ _).alloc (Nat.le_refl _) _
  rw [← hw1, ← hrb]
  have B0 : Hid (Below w.heap.size w w1) := Lib.hid hBn
  clear hw1 hrb hBn
  obtain ⟨dB, hdB⟩ : ∃ z, z = rb + 1 := ⟨_, rfl⟩
  obtain ⟨w2, hw2⟩ : ∃ z, z = w1.alloc (.cells #[.slice A n c, .int .i64 0] 81) := ⟨_, rfl⟩
  have DB : Hid (Blk w2 dB 81 #[.slice A n c, .int .i64 0]) := Lib.hid (by have e2 := heap_alloc_new w1 (.cells #[.slice A n c, .int .i64 0] 81); rw [Sw1.out] at e2; rw [hw2, hdB]; exact e2)
  have Sw2 : Hid (w2.heap.size = dB + 1) := Lib.hid (by rw [hw2, hdB, World.size_alloc, Sw1.out])
  have ZdB : Hid (w1.heap.size = dB) := Lib.hid (by rw [Sw1.out, hdB])
  have hBn : Below w1.heap.size w1 w2 := by rw [hw2]; exact (Below.refl _ _).alloc (Nat.le_refl _) _
  rw [← hw2, ← hdB]
  have B1 : Hid (Below w1.heap.size w1 w2) := Lib.hid hBn
  clear hw2 hdB hBn
  obtain ⟨pb, hpb⟩ : ∃ z, z = dB + 1 := ⟨_, rfl⟩
  obtain ⟨w3, hw3⟩ : ∃ z, z = w2.alloc (.cells #[.slice none 0 0, .slice none 0 0, .slice none 0 0, .slice none 0 0] 28) := ⟨_, rfl⟩
  have PB : Hid (Blk w3 pb 28 #[.slice none 0 0, .slice none 0 0, .slice none 0 0, .slice none 0 0]) := Lib.hid (by have e2 := heap_alloc_new w2 (.cells #[.slice none 0 0, .slice none 0 0, .slice none 0 0, .slice none 0 0] 28); rw [Sw2.out] at e2; rw [hw3, hpb]; exact e2)
  have Sw3 : Hid (w3.heap.size = pb + 1) := Lib.hid (by rw [hw3, hpb, World.size_alloc, Sw2.out])
  have Zpb : Hid (w2.heap.size = pb) := Lib.hid (by rw [Sw2.out, hpb])
  have hBn : Below w2.heap.size w2 w3 := by rw [hw3]; exact (Below.refl _ _).alloc (Nat.le_refl _) _
  rw [← hw3, ← hpb]
  have B2 : Hid (Below w2.heap.size w2 w3) := Lib.hid hBn
  clear hw3 hpb hBn
  clear g1 g2 g3
  have HDB : Hid (w.heap.size ≤ dB) := Lib.hid (by have := Zrb.out; have := Sw1.out; have := ZdB.out; omega)
  have HPB : Hid (w.heap.size ≤ pb) := Lib.hid (by have := Zrb.out; have := Sw1.out; have := ZdB.out; have := Zpb.out; have := Sw2.out; omega)
  have HRP : Hid (rb ≠ pb) := Lib.hid (by have := Sw1.out; have := ZdB.out; have := Zpb.out; have := Sw2.out; omega)
  have KN : Hid (∀ (m : Int), 1 ≤ m ∧ m ≤ 1000 → ∀ (W : World) (i : Nat), Blk W dB 81 #[.slice A n c, .int .i64 (i : Int)] → Below w.heap.size w W → i ≤ 1000000 → Calls Try.prog 29 #[.pointer (some ⟨dB, 0, none⟩), .int .i64 m] W fun e w' => ∃ r : Int, e = .returned (.int .i64 r) ∧ (0 ≤ r ∧ r < m) ∧ Keep (fun b => b = dB) W w' ∧ Blk w' dB 81 #[.slice A n c, .int .i64 ((i + 1 : Nat) : Int)]) := Lib.hid (fun m hm W i hd hW hi => next_int dB n c w.heap.size i m A l W hd (H2.out.below hW) HDB.out U2.out hi hm)
  have HM3 : Hid (MhI w dB pb rb (.slice A n c) (.slice none 0 0) (.slice none 0 0) (.slice none 0 0) (.slice none 0 0) ⟨[], [], [], []⟩ w3) := Lib.hid ⟨(below3 (below3 B0.out B1.out (Nat.le_refl _)) B2.out (Nat.le_refl _)), RB.out.below (below3 B1.out B2.out (Nat.le_refl _)) RB.out.lt, PB.out, World.ownsRow_nil _ _ _ _, World.ownsRow_nil _ _ _ _, World.ownsRow_nil _ _ _ _, World.ownsRow_nil _ _ _ _⟩
  have HD3 : Hid (Blk w3 dB 81 #[.slice A n c, .int .i64 ((0 : Nat) : Int)]) := Lib.hid (DB.out.below B2.out DB.out.lt)
  refine (KN.out 4 (by omega) w3 0 HD3.out HM3.out.low (by omega)).mono ?_
  rintro e w4 ⟨a, rfl, ha, hk4, hd4⟩
  have HM4 := Lib.hid (HM3.out.other hk4 HD3.out HDB.out (by decide))
  have HD4 := Lib.hid hd4
  obtain ⟨p, hp⟩ : ∃ p : Nat, (p : Int) = 1 + a := ⟨(1 + a).toNat, by omega⟩
  have HP : Hid (1 ≤ p ∧ p ≤ 4) := Lib.hid (by omega)
  have wa : IntKind.i64.wrap (1 + a) = (p : Int) := by rw [← hp]; exact IntWalk.i64_in _ (by have := HP.out; omega)
  have hmk := run_makeInts p (by have := HP.out; omega)
  have hp0 : (0 : Int) ≤ (p : Int) := by omega
  clear ha hk4 hd4 hp HM3 HD3
  go_wp2_with fail
  obtain ⟨sb, hsb⟩ : ∃ z, z = w4.heap.size := ⟨_, rfl⟩
  obtain ⟨w5, hw5⟩ : ∃ z, z = w4.alloc (.cells (intsA (List.replicate p 0)) 3) := ⟨_, rfl⟩
  have hB5 : Below w4.heap.size w4 w5 := by rw [hw5]; exact (Below.refl _ _).alloc (Nat.le_refl _) _
  have HSBW : Hid (w.heap.size ≤ sb) := Lib.hid (by rw [hsb]; exact HM4.out.low.size)
  have HS5 : Hid (MhS w dB pb rb sb (.slice A n c) (.slice none 0 0) (.slice none 0 0) (.slice none 0 0) (.slice none 0 0) ⟨[], [], [], []⟩ (slL p ⟨[], [], [], []⟩) 1 w5) := Lib.hid ⟨HM4.out.next hB5, HD4.out.below hB5 HD4.out.lt, by rw [slL_none, hw5, hsb]; exact heap_alloc_new w4 _⟩
  rw [← hw5, ← hsb]
  clear hw5 hsb hB5 hmk wa
  refine (KN.out 7 (by omega) w5 1 HS5.out.dig HS5.out.m.low (by omega)).mono ?_
  rintro e w6 ⟨m, rfl, hm, hk6, hd6⟩
  have HS6 := Lib.hid (HS5.out.turn HDB.out hk6 hd6)
  obtain ⟨m, rfl⟩ : ∃ z : Nat, m = (z : Int) := ⟨m.toNat, by omega⟩
  have HM6 : Hid (m ≤ 6) := Lib.hid (by omega)
  have KP := Lib.hid (KN.out (p : Int) (by have := HP.out; omega))
  have KP1 := Lib.hid (KN.out ((p + 1 : Nat) : Int) (by have := HP.out; omega))
  have wp1 : IntKind.i64.wrap ((p : Int) + 1) = ((p + 1 : Nat) : Int) := by rw [IntWalk.i64_in _ (by have := HP.out; omega)]; push_cast; rfl
  clear hm hk6 hd6 HS5
  go_wp2
  go_loopw [22] (fun i wr => ∃ k : Nat, k ≤ m ∧ i = .int .i64 ((k : Nat) : Int) ∧ ∃ (vw : Value) (h : Hl) (j : Nat), Hid (MhS w dB pb rb sb (.slice A n c) (.slice none 0 0) vw (.slice none 0 0) (.slice none 0 0) h (slL p h) j wr ∧ MdH p h ∧ h.walls.length = k ∧ (h.rooms = [] ∧ h.brs = [] ∧ h.crs = []) ∧ j ≤ 2 + 3 * k)) (fun i _ => m - (intOf i).toNat)
  case atStart => exact ⟨0, by omega, rfl, _, ⟨[], [], [], []⟩, 2, Lib.hid ⟨HS6.out, ⟨fun x h => (by simp at h), fun i h => (by simp at h), fun x h => (by simp at h)⟩, rfl, ⟨rfl, rfl, rfl⟩, by omega⟩⟩
  case round =>
    obtain ⟨k, hk, rfl, vw, h, j, HS⟩ := hrel
    by_cases hlt : k < m
    · have hk1 : ((k : Nat) : Int) < ((m : Nat) : Int) := by omega
      have hk0 : (0 : Int) ≤ ((k : Nat) : Int) := by omega
      have HJ : Hid (j ≤ 1000) := Lib.hid (by have := HS.out.2.2.2.2; have := HM6.out; omega)
      have hk4 : k ≤ 400 := by have := HM6.out; omega
      go_wp2_with fail
      refine (KP.out _ j HS.out.1.dig HS.out.1.m.low (by have := HJ.out; omega)).mono ?_
      rintro e y1 ⟨u, rfl, hu, hy1, hz1⟩
      have HY1 := Lib.hid (HS.out.1.turn HDB.out hy1 hz1)
      obtain ⟨u, rfl⟩ : ∃ z : Nat, u = (z : Int) := ⟨u.toNat, by omega⟩
      have HU : Hid (u < p) := Lib.hid (by omega)
      clear hu hy1 hz1
      go_wp2_with fail
      refine (KP1.out y1 (j + 1) HY1.out.dig HY1.out.m.low (by have := HJ.out; omega)).mono ?_
      rintro e y2 ⟨b9, rfl, hb9, hy2, hz2⟩
      have HY2 := Lib.hid (HY1.out.turn HDB.out hy2 hz2)
      obtain ⟨bq, hbq⟩ : ∃ z, z = b9 - 1 := ⟨_, rfl⟩
      have wb : IntKind.i64.wrap (b9 - 1) = bq := by rw [hbq]; exact IntWalk.i64_in _ (by have := HP.out; omega)
      have HBQ : Hid (-1 ≤ bq ∧ bq < (p : Int)) := Lib.hid (by omega)
      clear hb9 hy2 hz2 HY1 hbq
      go_wp2_with fail
      refine (KN.out 40 (by omega) y2 (j + 1 + 1) HY2.out.dig HY2.out.m.low (by have := HJ.out; omega)).mono ?_
      rintro e y3 ⟨q, rfl, hq, hy3, hz3⟩
      have HY3 := Lib.hid (HY2.out.turn HDB.out hy3 hz3)
      have HQ : Hid (0 ≤ q ∧ q ≤ 39) := Lib.hid (by omega)
      have zy : y3.heap.size < y3.heap.size + 1 := by omega
      clear hq hy3 hz3 HY2
      have HK6 : Hid (k ≤ 5) := Lib.hid (by have := HM6.out; omega)
      have HLEN : Hid (h.walls.length = k) := Lib.hid HS.out.2.2.1
      have HSLB : Hid (∀ i : Int, 0 ≤ slopeF h i ∧ slopeF h i ≤ 600) := Lib.hid (HS.out.2.1.slope (by rw [HLEN.out]; have := HK6.out; omega) (by rw [HS.out.2.2.2.1.2.2]; simp))
      by_cases hab : bq = (u : Int)
      · obtain rfl : bq = (u : Int) := hab
        go_wp2_with fail
        obtain ⟨xb, hxb⟩ : ∃ z, z = y3.heap.size := ⟨_, rfl⟩
        obtain ⟨wx, hwx⟩ : ∃ z, z = y3.alloc (.cells #[.int .i64 (u : Int), .int .i64 (-1), .int .i64 q] 75) := ⟨_, rfl⟩
        have hBa : Below y3.heap.size y3 wx := by rw [hwx]; exact (Below.refl _ _).alloc (Nat.le_refl _) _
        have HXB : Hid (Blk wx xb 75 #[.int .i64 (u : Int), .int .i64 (-1), .int .i64 q]) := Lib.hid (by rw [hwx, hxb]; exact heap_alloc_new y3 _)
        have HMS := Lib.hid (HY3.out.next hBa)
        rw [← hwx, ← hxb]
        clear hBa hwx hxb zy HY3 wb
        obtain ⟨a, ha⟩ : ∃ z, z = slopeF h (u : Int) := ⟨_, rfl⟩
        have HA9 : Hid ((slL p h)[u]? = some a) := Lib.hid (by rw [ha]; exact slL_get HU.out)
        have HWR : Hid (IntKind.i64.wrap (a + q) = a + q) := Lib.hid (IntWalk.i64_in _ (by have := HSLB.out (u : Int); have := HQ.out; omega))
        have hu0 : (0 : Int) ≤ (u : Int) := by omega
        have hun : (u : Int) < (p : Int) := by have := HU.out; omega
        have HSL0 : Hid (a = slopeF h (u : Int)) := Lib.hid ha
        clear ha
        refine wp_region_free10 9 (by kernel_rfl) [some 41, some 42, some 43, some 44, some 45, some 46, some 47, some 48, some 49, none] [[], [], [1], [0, 2], [3], [], [5], [4, 6], [0, 2, 0, 1, 2, 3, 4, 5, 6, 7], [8, 7, 0, 1, 2, 3, 4, 5, 6, 7]] [(6, .slice (some ⟨sb, 0, none⟩) p p), (7, .pointer (some ⟨xb, 0, none⟩))] (fun W γ => Blk W xb 75 #[.int .i64 (u : Int), .int .i64 (-1), .int .i64 q] ∧ (γ 0 = 0 → MhS w dB pb rb sb (.slice A n c) (.slice none 0 0) (vw) (.slice none 0 0) (.slice none 0 0) h (slL p h) (j + 1 + 1 + 1) W) ∧ (γ 0 ≠ 0 → MhS w dB pb rb sb (.slice A n c) (.slice none 0 0) (vw) (.slice none 0 0) (.slice none 0 0) h ((slL p h).set u (a + q)) (j + 1 + 1 + 1) W)) (slPhi sb xb p u 0 2 a (q)) (fun _ _ γ => γ 0 = 0) (by kernel_rfl) (by kernel_rfl) rfl (by kernel_rfl) ?_ ?_ ⟨fun _ => 0, ⟨HXB.out.below (Below.refl _ _).drew HXB.out.lt, fun _ => HMS.out.next (Below.refl _ _).drew, fun e => absurd rfl e⟩, fun i _ => rfl⟩ ?_ ?_
        · intro z hz
          simp only [List.mem_cons, List.mem_nil_iff, or_false] at hz
          rcases hz with rfl | rfl
          all_goals exact ⟨by kernel_rfl, rfl⟩
        · intro i v W γ hi h
          rcases i with _ | _ | _ | _ | _ | _ | _ | _ | _ | _ | i
          all_goals first | exact h | (simp at hi)
        · refine ⟨?_, ?_, ?_, ?_, ?_, ?_, ?_, ?_, ?_, ?_, trivial⟩
          all_goals
            intro a9 W γ ev hcc hff hfx hR hψ hpre
            simp only [List.mem_cons, List.mem_nil_iff, or_false, forall_eq, forall_eq_or_imp] at hfx
            obtain ⟨f0, f1⟩ := hfx
            have HR := Lib.hid hR
            clear hR
          · refine ⟨fun hg K hK => ?_, trivial⟩
            clear hg
            clear hpre hψ
            go_simp
            exact hK _ _ γ HR.out (fun _ _ _ _ h => h) (fun _ _ _ h => h) rfl
          · refine ⟨fun hg K hK => ?_, trivial⟩
            clear hg
            clear hpre hψ
            go_simp
            exact hK _ _ γ HR.out (fun _ _ _ _ h => h) (fun _ _ _ h => h) rfl
          · refine ⟨fun hg K hK => ?_, trivial⟩
            clear hg
            have q0 : ev (.tmp 42) = _ := hpre 1 (by decide)
            have hbk := HR.out.1
            have hzg := hbk.lt
            have e0 := hbk.cell 0
            simp only [List.getElem?_toArray, List.getElem?_cons_zero, List.getElem?_cons_succ] at e0
            clear hbk
            clear hpre hψ
            go_simp
            exact hK _ _ γ HR.out (fun _ _ _ _ h => h) (fun _ _ _ h => h) rfl
          · refine ⟨fun hg K hK => ?_, trivial⟩
            clear hg
            have q0 : ev (.tmp 41) = _ := hpre 0 (by decide)
            have q1 : ev (.tmp 43) = _ := hpre 2 (by decide)
            clear hpre hψ
            go_simp
            exact hK _ _ γ HR.out (fun _ _ _ _ h => h) (fun _ _ _ h => h) rfl
          · refine ⟨fun hg K hK => ?_, trivial⟩
            clear hg
            have q0 : ev (.tmp 44) = _ := hpre 3 (by decide)
            have hlb := (HR.out.2.1 hψ).slo
            have hzg := hlb.lt
            have ca := hlb.intAt HA9.out
            clear hlb
            clear hpre hψ
            go_simp
            exact hK _ _ γ HR.out (fun _ _ _ _ h => h) (fun _ _ _ h => h) rfl
          · refine ⟨fun hg K hK => ?_, trivial⟩
            clear hg
            clear hpre hψ
            go_simp
            exact hK _ _ γ HR.out (fun _ _ _ _ h => h) (fun _ _ _ h => h) rfl
          · refine ⟨fun hg K hK => ?_, trivial⟩
            clear hg
            have q0 : ev (.tmp 46) = _ := hpre 5 (by decide)
            have hbk := HR.out.1
            have hzg := hbk.lt
            have e2 := hbk.cell 2
            simp only [List.getElem?_toArray, List.getElem?_cons_zero, List.getElem?_cons_succ] at e2
            clear hbk
            clear hpre hψ
            go_simp
            exact hK _ _ γ HR.out (fun _ _ _ _ h => h) (fun _ _ _ h => h) rfl
          · refine ⟨fun hg K hK => ?_, trivial⟩
            clear hg
            have q0 : ev (.tmp 45) = _ := hpre 4 (by decide)
            have q1 : ev (.tmp 47) = _ := hpre 6 (by decide)
            have wa : IntKind.i64.wrap (a + q) = a + q := HWR.out
            clear hpre hψ
            go_simp
            exact hK _ _ γ HR.out (fun _ _ _ _ h => h) (fun _ _ _ h => h) rfl
          · refine ⟨fun hg K hK => ?_, trivial⟩
            clear hg
            have q0 : ev (.tmp 41) = _ := hpre 0 (by decide)
            have q1 : ev (.tmp 43) = _ := hpre 2 (by decide)
            clear hpre hψ
            go_simp
            exact hK _ _ γ HR.out (fun _ _ _ _ h => h) (fun _ _ _ h => h) rfl
          · refine ⟨fun hg K hK => ?_, trivial⟩
            clear hg
            have q0 : ev (.tmp 48) = _ := hpre 7 (by decide)
            have q1 : ev (.tmp 49) = _ := hpre 8 (by decide)
            have hS9 := HR.out.2.1 hψ
            have hlb := hS9.slo
            have zl := hlb.lt
            have fl9 := hlb.frozen
            have ca := hlb.intAt HA9.out
            have HR9 := Lib.hid (And.intro HR.out.1 hS9)
            clear hpre hψ hlb hS9
            go_simp
            exact hK undef _ (fun _ => 1) ⟨HR9.out.1.far (fun e => blk_ne HR9.out.1 HR9.out.2.slo (by decide) e) _, fun e => by simp at e, fun _ => HR9.out.2.slope HSBW.out⟩ (fun j u _ hne h => slPhi_w hne h) (fun h => absurd rfl h) (by simp [slPhi])
        · intro vs wy γ hvl hR hφ
          have q9 := hφ 9 (by decide)
          have HR := Lib.hid hR
          clear hφ hR
          match vs, hvl with
          | [y0, y1, y2, y3, y4, y5, y6, y7, y8, y9], _ =>
          simp only [List.getD_cons_zero, List.getD_cons_succ] at q9
          have HXN : Hid (Blk wy xb 75 #[.int .i64 (u : Int), .int .i64 (-1), .int .i64 q]) := Lib.hid HR.out.1
          have HMN := Lib.hid (HR.out.2.2 (by simpa [slPhi] using q9))
          clear HR q9
          simp [putAll]
          have hbk := HXN.out
          have e0 := hbk.cell 0
          have e1 := hbk.cell 1
          have e2 := hbk.cell 2
          have zx := hbk.lt
          simp only [List.getElem?_toArray, List.getElem?_cons_zero, List.getElem?_cons_succ] at e0 e1 e2
          clear hbk
          have HSL : Hid ((slL p h).set u (a + q) = slL p (h.addW ⟨(u : Int), -1, q⟩)) := Lib.hid (by rw [HSL0.out]; exact slL_wall1 HU.out)
          have HRO : Hid (wy.ownsRow w.heap.size 75 3 vw k (h.walls.flatMap Wal.enc)) := Lib.hid (by have hr := HMN.out.m.wR; rw [HLEN.out] at hr; exact hr)
          have hbx := HMN.out.m.box
          have b0 := hbx.cell 1
          have zb := hbx.lt
          simp only [List.getElem?_toArray, List.getElem?_cons_zero, List.getElem?_cons_succ] at b0
          have zw := HMN.out.m.low.size
          clear hbx
          go_wp2_with (at_builtin; refine wpList_append_own_at _ rfl (.tmp 63) (.tmp 65) 24 rfl w.heap.size 75 iW (.agg #[.int .i64 0, .int .i64 0, .int .i64 0]) 3 24 Try.underlying24 hW.out.1 hW.out.2.1 hW.out.2.2.1 hW.out.2.2.2 rfl (by decide) vw k (h.walls.flatMap Wal.enc) rfl (HRO.out.alloc _) ⟨wy.heap.size, 0, none⟩ 1 1 [.int .i64 (u : Int), .int .i64 (-1), .int .i64 q] rfl rfl ?_ ?_ ?_ ?_ ?_ ?_)
          case _ =>
            intro i z hz
            rcases i with _ | _ | _ | i
            all_goals first | (simp only [List.getElem?_cons_succ, List.getElem?_cons_zero, Option.some.injEq] at hz; subst hz; simp [Addr.add, go_sem]) | (simp at hz)
          case _ =>
            intro z hz
            simp only [List.mem_cons, List.mem_nil_iff, or_false] at hz
            rcases hz with rfl | rfl | rfl <;> rfl
          case _ => simp only [maxLen]; have := HK6.out; omega
          case _ => have := HK6.out; omega
          case _ => exact Nat.le_trans HMN.out.m.low.size (by simp only [World.size_alloc]; omega)
          intro v' w8 hown hg8 _ _
          obtain ⟨A', c', rfl⟩ := row_slice hown
          have hM7 := HMN.out.next (W' := wy.alloc (.cells #[.int .i64 (u : Int), .int .i64 (-1), .int .i64 q] 75)) ((Below.refl _ _).alloc (Nat.le_refl _) _)
          rw [HSL.out] at hM7
          have hb8 := hM7.m.box.kept hg8 (own_ne hM7.m.wR hM7.m.box (by decide))
          have c1 := hb8.cell 1
          have zb8 := hb8.lt
          have fb8 := hb8.frozen
          simp only [List.getElem?_toArray, List.getElem?_cons_zero, List.getElem?_cons_succ] at c1
          have HM8 := Lib.hid (hM7.pushW (x := ⟨(u : Int), (-1), q⟩) hg8 hown (by have := HLEN.out; omega) HPB.out HRP.out)
          clear hown hg8 hM7 hb8 b0 zb zw HRO HMN
          go_wp2
          go_roundw
          case rel => exact ⟨k + 1, by omega, by go_num, _, _, _, Lib.hid ⟨HM8.out, HS.out.2.1.addW ⟨⟨by omega, by have := HU.out; show (u : Int) < (p : Int); omega⟩, Or.inl rfl, HQ.out⟩, by show (h.walls ++ [_]).length = k + 1; rw [List.length_append, HLEN.out]; rfl, HS.out.2.2.2.1, by have := HS.out.2.2.2.2; omega⟩⟩
          case measure => simp [intOf]; omega
      · by_cases hm1 : bq = -1
        · obtain rfl : bq = -1 := hm1
          have d1 : ((u : Int) == (-1 : Int)) = false := beq_eq_false_iff_ne.2 (by omega)
          have d2 : ¬ ((u : Int) = -1) := by omega
          go_wp2_with fail
          obtain ⟨xb, hxb⟩ : ∃ z, z = y3.heap.size := ⟨_, rfl⟩
          obtain ⟨wx, hwx⟩ : ∃ z, z = y3.alloc (.cells #[.int .i64 (u : Int), .int .i64 (-1), .int .i64 q] 75) := ⟨_, rfl⟩
          have hBa : Below y3.heap.size y3 wx := by rw [hwx]; exact (Below.refl _ _).alloc (Nat.le_refl _) _
          have HXB : Hid (Blk wx xb 75 #[.int .i64 (u : Int), .int .i64 (-1), .int .i64 q]) := Lib.hid (by rw [hwx, hxb]; exact heap_alloc_new y3 _)
          have HMS := Lib.hid (HY3.out.next hBa)
          rw [← hwx, ← hxb]
          clear hBa hwx hxb zy HY3 wb
          obtain ⟨a, ha⟩ : ∃ z, z = slopeF h (u : Int) := ⟨_, rfl⟩
          have HA9 : Hid ((slL p h)[u]? = some a) := Lib.hid (by rw [ha]; exact slL_get HU.out)
          have HWR : Hid (IntKind.i64.wrap (a + q) = a + q) := Lib.hid (IntWalk.i64_in _ (by have := HSLB.out (u : Int); have := HQ.out; omega))
          have hu0 : (0 : Int) ≤ (u : Int) := by omega
          have hun : (u : Int) < (p : Int) := by have := HU.out; omega
          have HSL0 : Hid (a = slopeF h (u : Int)) := Lib.hid ha
          clear ha
          refine wp_region_free10 9 (by kernel_rfl) [some 41, some 42, some 43, some 44, some 45, some 46, some 47, some 48, some 49, none] [[], [], [1], [0, 2], [3], [], [5], [4, 6], [0, 2, 0, 1, 2, 3, 4, 5, 6, 7], [8, 7, 0, 1, 2, 3, 4, 5, 6, 7]] [(6, .slice (some ⟨sb, 0, none⟩) p p), (7, .pointer (some ⟨xb, 0, none⟩))] (fun W γ => Blk W xb 75 #[.int .i64 (u : Int), .int .i64 (-1), .int .i64 q] ∧ (γ 0 = 0 → MhS w dB pb rb sb (.slice A n c) (.slice none 0 0) (vw) (.slice none 0 0) (.slice none 0 0) h (slL p h) (j + 1 + 1 + 1) W) ∧ (γ 0 ≠ 0 → MhS w dB pb rb sb (.slice A n c) (.slice none 0 0) (vw) (.slice none 0 0) (.slice none 0 0) h ((slL p h).set u (a + q)) (j + 1 + 1 + 1) W)) (slPhi sb xb p u 0 2 a (q)) (fun _ _ γ => γ 0 = 0) (by kernel_rfl) (by kernel_rfl) rfl (by kernel_rfl) ?_ ?_ ⟨fun _ => 0, ⟨HXB.out.below (Below.refl _ _).drew HXB.out.lt, fun _ => HMS.out.next (Below.refl _ _).drew, fun e => absurd rfl e⟩, fun i _ => rfl⟩ ?_ ?_
          · intro z hz
            simp only [List.mem_cons, List.mem_nil_iff, or_false] at hz
            rcases hz with rfl | rfl
            all_goals exact ⟨by kernel_rfl, rfl⟩
          · intro i v W γ hi h
            rcases i with _ | _ | _ | _ | _ | _ | _ | _ | _ | _ | i
            all_goals first | exact h | (simp at hi)
          · refine ⟨?_, ?_, ?_, ?_, ?_, ?_, ?_, ?_, ?_, ?_, trivial⟩
            all_goals
              intro a9 W γ ev hcc hff hfx hR hψ hpre
              simp only [List.mem_cons, List.mem_nil_iff, or_false, forall_eq, forall_eq_or_imp] at hfx
              obtain ⟨f0, f1⟩ := hfx
              have HR := Lib.hid hR
              clear hR
            · refine ⟨fun hg K hK => ?_, trivial⟩
              clear hg
              clear hpre hψ
              go_simp
              exact hK _ _ γ HR.out (fun _ _ _ _ h => h) (fun _ _ _ h => h) rfl
            · refine ⟨fun hg K hK => ?_, trivial⟩
              clear hg
              clear hpre hψ
              go_simp
              exact hK _ _ γ HR.out (fun _ _ _ _ h => h) (fun _ _ _ h => h) rfl
            · refine ⟨fun hg K hK => ?_, trivial⟩
              clear hg
              have q0 : ev (.tmp 42) = _ := hpre 1 (by decide)
              have hbk := HR.out.1
              have hzg := hbk.lt
              have e0 := hbk.cell 0
              simp only [List.getElem?_toArray, List.getElem?_cons_zero, List.getElem?_cons_succ] at e0
              clear hbk
              clear hpre hψ
              go_simp
              exact hK _ _ γ HR.out (fun _ _ _ _ h => h) (fun _ _ _ h => h) rfl
            · refine ⟨fun hg K hK => ?_, trivial⟩
              clear hg
              have q0 : ev (.tmp 41) = _ := hpre 0 (by decide)
              have q1 : ev (.tmp 43) = _ := hpre 2 (by decide)
              clear hpre hψ
              go_simp
              exact hK _ _ γ HR.out (fun _ _ _ _ h => h) (fun _ _ _ h => h) rfl
            · refine ⟨fun hg K hK => ?_, trivial⟩
              clear hg
              have q0 : ev (.tmp 44) = _ := hpre 3 (by decide)
              have hlb := (HR.out.2.1 hψ).slo
              have hzg := hlb.lt
              have ca := hlb.intAt HA9.out
              clear hlb
              clear hpre hψ
              go_simp
              exact hK _ _ γ HR.out (fun _ _ _ _ h => h) (fun _ _ _ h => h) rfl
            · refine ⟨fun hg K hK => ?_, trivial⟩
              clear hg
              clear hpre hψ
              go_simp
              exact hK _ _ γ HR.out (fun _ _ _ _ h => h) (fun _ _ _ h => h) rfl
            · refine ⟨fun hg K hK => ?_, trivial⟩
              clear hg
              have q0 : ev (.tmp 46) = _ := hpre 5 (by decide)
              have hbk := HR.out.1
              have hzg := hbk.lt
              have e2 := hbk.cell 2
              simp only [List.getElem?_toArray, List.getElem?_cons_zero, List.getElem?_cons_succ] at e2
              clear hbk
              clear hpre hψ
              go_simp
              exact hK _ _ γ HR.out (fun _ _ _ _ h => h) (fun _ _ _ h => h) rfl
            · refine ⟨fun hg K hK => ?_, trivial⟩
              clear hg
              have q0 : ev (.tmp 45) = _ := hpre 4 (by decide)
              have q1 : ev (.tmp 47) = _ := hpre 6 (by decide)
              have wa : IntKind.i64.wrap (a + q) = a + q := HWR.out
              clear hpre hψ
              go_simp
              exact hK _ _ γ HR.out (fun _ _ _ _ h => h) (fun _ _ _ h => h) rfl
            · refine ⟨fun hg K hK => ?_, trivial⟩
              clear hg
              have q0 : ev (.tmp 41) = _ := hpre 0 (by decide)
              have q1 : ev (.tmp 43) = _ := hpre 2 (by decide)
              clear hpre hψ
              go_simp
              exact hK _ _ γ HR.out (fun _ _ _ _ h => h) (fun _ _ _ h => h) rfl
            · refine ⟨fun hg K hK => ?_, trivial⟩
              clear hg
              have q0 : ev (.tmp 48) = _ := hpre 7 (by decide)
              have q1 : ev (.tmp 49) = _ := hpre 8 (by decide)
              have hS9 := HR.out.2.1 hψ
              have hlb := hS9.slo
              have zl := hlb.lt
              have fl9 := hlb.frozen
              have ca := hlb.intAt HA9.out
              have HR9 := Lib.hid (And.intro HR.out.1 hS9)
              clear hpre hψ hlb hS9
              go_simp
              exact hK undef _ (fun _ => 1) ⟨HR9.out.1.far (fun e => blk_ne HR9.out.1 HR9.out.2.slo (by decide) e) _, fun e => by simp at e, fun _ => HR9.out.2.slope HSBW.out⟩ (fun j u _ hne h => slPhi_w hne h) (fun h => absurd rfl h) (by simp [slPhi])
          · intro vs wy γ hvl hR hφ
            have q9 := hφ 9 (by decide)
            have HR := Lib.hid hR
            clear hφ hR
            match vs, hvl with
            | [y0, y1, y2, y3, y4, y5, y6, y7, y8, y9], _ =>
            simp only [List.getD_cons_zero, List.getD_cons_succ] at q9
            have HXN : Hid (Blk wy xb 75 #[.int .i64 (u : Int), .int .i64 (-1), .int .i64 q]) := Lib.hid HR.out.1
            have HMN := Lib.hid (HR.out.2.2 (by simpa [slPhi] using q9))
            clear HR q9
            simp [putAll]
            have hbk := HXN.out
            have e0 := hbk.cell 0
            have e1 := hbk.cell 1
            have e2 := hbk.cell 2
            have zx := hbk.lt
            simp only [List.getElem?_toArray, List.getElem?_cons_zero, List.getElem?_cons_succ] at e0 e1 e2
            clear hbk
            have HSL : Hid ((slL p h).set u (a + q) = slL p (h.addW ⟨(u : Int), -1, q⟩)) := Lib.hid (by rw [HSL0.out]; exact slL_wall1 HU.out)
            have HRO : Hid (wy.ownsRow w.heap.size 75 3 vw k (h.walls.flatMap Wal.enc)) := Lib.hid (by have hr := HMN.out.m.wR; rw [HLEN.out] at hr; exact hr)
            have hbx := HMN.out.m.box
            have b0 := hbx.cell 1
            have zb := hbx.lt
            simp only [List.getElem?_toArray, List.getElem?_cons_zero, List.getElem?_cons_succ] at b0
            have zw := HMN.out.m.low.size
            clear hbx
            go_wp2_with (at_builtin; refine wpList_append_own_at _ rfl (.tmp 63) (.tmp 65) 24 rfl w.heap.size 75 iW (.agg #[.int .i64 0, .int .i64 0, .int .i64 0]) 3 24 Try.underlying24 hW.out.1 hW.out.2.1 hW.out.2.2.1 hW.out.2.2.2 rfl (by decide) vw k (h.walls.flatMap Wal.enc) rfl (HRO.out.alloc _) ⟨wy.heap.size, 0, none⟩ 1 1 [.int .i64 (u : Int), .int .i64 (-1), .int .i64 q] rfl rfl ?_ ?_ ?_ ?_ ?_ ?_)
            case _ =>
              intro i z hz
              rcases i with _ | _ | _ | i
              all_goals first | (simp only [List.getElem?_cons_succ, List.getElem?_cons_zero, Option.some.injEq] at hz; subst hz; simp [Addr.add, go_sem]) | (simp at hz)
            case _ =>
              intro z hz
              simp only [List.mem_cons, List.mem_nil_iff, or_false] at hz
              rcases hz with rfl | rfl | rfl <;> rfl
            case _ => simp only [maxLen]; have := HK6.out; omega
            case _ => have := HK6.out; omega
            case _ => exact Nat.le_trans HMN.out.m.low.size (by simp only [World.size_alloc]; omega)
            intro v' w8 hown hg8 _ _
            obtain ⟨A', c', rfl⟩ := row_slice hown
            have hM7 := HMN.out.next (W' := wy.alloc (.cells #[.int .i64 (u : Int), .int .i64 (-1), .int .i64 q] 75)) ((Below.refl _ _).alloc (Nat.le_refl _) _)
            rw [HSL.out] at hM7
            have hb8 := hM7.m.box.kept hg8 (own_ne hM7.m.wR hM7.m.box (by decide))
            have c1 := hb8.cell 1
            have zb8 := hb8.lt
            have fb8 := hb8.frozen
            simp only [List.getElem?_toArray, List.getElem?_cons_zero, List.getElem?_cons_succ] at c1
            have HM8 := Lib.hid (hM7.pushW (x := ⟨(u : Int), (-1), q⟩) hg8 hown (by have := HLEN.out; omega) HPB.out HRP.out)
            clear hown hg8 hM7 hb8 b0 zb zw HRO HMN
            go_wp2
            go_roundw
            case rel => exact ⟨k + 1, by omega, by go_num, _, _, _, Lib.hid ⟨HM8.out, HS.out.2.1.addW ⟨⟨by omega, by have := HU.out; show (u : Int) < (p : Int); omega⟩, Or.inl rfl, HQ.out⟩, by show (h.walls ++ [_]).length = k + 1; rw [List.length_append, HLEN.out]; rfl, HS.out.2.2.2.1, by have := HS.out.2.2.2.2; omega⟩⟩
            case measure => simp [intOf]; omega
        · obtain ⟨b, rfl⟩ : ∃ z : Nat, bq = (z : Int) := ⟨bq.toNat, by have := HBQ.out; omega⟩
          have d1 : ((u : Int) == (b : Int)) = false := beq_eq_false_iff_ne.2 (by omega)
          have d2 : ¬ ((u : Int) = (b : Int)) := by omega
          have d3 : ¬ (u = b) := by omega
          have HUB : Hid (b < p ∧ b ≠ u) := Lib.hid (by have := HBQ.out; omega)
          go_wp2_with fail
          obtain ⟨xb, hxb⟩ : ∃ z, z = y3.heap.size := ⟨_, rfl⟩
          obtain ⟨wx, hwx⟩ : ∃ z, z = y3.alloc (.cells #[.int .i64 (u : Int), .int .i64 (b : Int), .int .i64 q] 75) := ⟨_, rfl⟩
          have hBa : Below y3.heap.size y3 wx := by rw [hwx]; exact (Below.refl _ _).alloc (Nat.le_refl _) _
          have HXB : Hid (Blk wx xb 75 #[.int .i64 (u : Int), .int .i64 (b : Int), .int .i64 q]) := Lib.hid (by rw [hwx, hxb]; exact heap_alloc_new y3 _)
          have HMS := Lib.hid (HY3.out.next hBa)
          rw [← hwx, ← hxb]
          clear hBa hwx hxb zy HY3 wb
          obtain ⟨a, ha⟩ : ∃ z, z = slopeF h (u : Int) := ⟨_, rfl⟩
          have HA9 : Hid ((slL p h)[u]? = some a) := Lib.hid (by rw [ha]; exact slL_get HU.out)
          have HWR : Hid (IntKind.i64.wrap (a + q) = a + q) := Lib.hid (IntWalk.i64_in _ (by have := HSLB.out (u : Int); have := HQ.out; omega))
          have hu0 : (0 : Int) ≤ (u : Int) := by omega
          have hun : (u : Int) < (p : Int) := by have := HU.out; omega
          have HSL0 : Hid (a = slopeF h (u : Int)) := Lib.hid ha
          clear ha
          refine wp_region_free10 9 (by kernel_rfl) [some 41, some 42, some 43, some 44, some 45, some 46, some 47, some 48, some 49, none] [[], [], [1], [0, 2], [3], [], [5], [4, 6], [0, 2, 0, 1, 2, 3, 4, 5, 6, 7], [8, 7, 0, 1, 2, 3, 4, 5, 6, 7]] [(6, .slice (some ⟨sb, 0, none⟩) p p), (7, .pointer (some ⟨xb, 0, none⟩))] (fun W γ => Blk W xb 75 #[.int .i64 (u : Int), .int .i64 (b : Int), .int .i64 q] ∧ (γ 0 = 0 → MhS w dB pb rb sb (.slice A n c) (.slice none 0 0) (vw) (.slice none 0 0) (.slice none 0 0) h (slL p h) (j + 1 + 1 + 1) W) ∧ (γ 0 ≠ 0 → MhS w dB pb rb sb (.slice A n c) (.slice none 0 0) (vw) (.slice none 0 0) (.slice none 0 0) h ((slL p h).set u (a + q)) (j + 1 + 1 + 1) W)) (slPhi sb xb p u 0 2 a (q)) (fun _ _ γ => γ 0 = 0) (by kernel_rfl) (by kernel_rfl) rfl (by kernel_rfl) ?_ ?_ ⟨fun _ => 0, ⟨HXB.out.below (Below.refl _ _).drew HXB.out.lt, fun _ => HMS.out.next (Below.refl _ _).drew, fun e => absurd rfl e⟩, fun i _ => rfl⟩ ?_ ?_
          · intro z hz
            simp only [List.mem_cons, List.mem_nil_iff, or_false] at hz
            rcases hz with rfl | rfl
            all_goals exact ⟨by kernel_rfl, rfl⟩
          · intro i v W γ hi h
            rcases i with _ | _ | _ | _ | _ | _ | _ | _ | _ | _ | i
            all_goals first | exact h | (simp at hi)
          · refine ⟨?_, ?_, ?_, ?_, ?_, ?_, ?_, ?_, ?_, ?_, trivial⟩
            all_goals
              intro a9 W γ ev hcc hff hfx hR hψ hpre
              simp only [List.mem_cons, List.mem_nil_iff, or_false, forall_eq, forall_eq_or_imp] at hfx
              obtain ⟨f0, f1⟩ := hfx
              have HR := Lib.hid hR
              clear hR
            · refine ⟨fun hg K hK => ?_, trivial⟩
              clear hg
              clear hpre hψ
              go_simp
              exact hK _ _ γ HR.out (fun _ _ _ _ h => h) (fun _ _ _ h => h) rfl
            · refine ⟨fun hg K hK => ?_, trivial⟩
              clear hg
              clear hpre hψ
              go_simp
              exact hK _ _ γ HR.out (fun _ _ _ _ h => h) (fun _ _ _ h => h) rfl
            · refine ⟨fun hg K hK => ?_, trivial⟩
              clear hg
              have q0 : ev (.tmp 42) = _ := hpre 1 (by decide)
              have hbk := HR.out.1
              have hzg := hbk.lt
              have e0 := hbk.cell 0
              simp only [List.getElem?_toArray, List.getElem?_cons_zero, List.getElem?_cons_succ] at e0
              clear hbk
              clear hpre hψ
              go_simp
              exact hK _ _ γ HR.out (fun _ _ _ _ h => h) (fun _ _ _ h => h) rfl
            · refine ⟨fun hg K hK => ?_, trivial⟩
              clear hg
              have q0 : ev (.tmp 41) = _ := hpre 0 (by decide)
              have q1 : ev (.tmp 43) = _ := hpre 2 (by decide)
              clear hpre hψ
              go_simp
              exact hK _ _ γ HR.out (fun _ _ _ _ h => h) (fun _ _ _ h => h) rfl
            · refine ⟨fun hg K hK => ?_, trivial⟩
              clear hg
              have q0 : ev (.tmp 44) = _ := hpre 3 (by decide)
              have hlb := (HR.out.2.1 hψ).slo
              have hzg := hlb.lt
              have ca := hlb.intAt HA9.out
              clear hlb
              clear hpre hψ
              go_simp
              exact hK _ _ γ HR.out (fun _ _ _ _ h => h) (fun _ _ _ h => h) rfl
            · refine ⟨fun hg K hK => ?_, trivial⟩
              clear hg
              clear hpre hψ
              go_simp
              exact hK _ _ γ HR.out (fun _ _ _ _ h => h) (fun _ _ _ h => h) rfl
            · refine ⟨fun hg K hK => ?_, trivial⟩
              clear hg
              have q0 : ev (.tmp 46) = _ := hpre 5 (by decide)
              have hbk := HR.out.1
              have hzg := hbk.lt
              have e2 := hbk.cell 2
              simp only [List.getElem?_toArray, List.getElem?_cons_zero, List.getElem?_cons_succ] at e2
              clear hbk
              clear hpre hψ
              go_simp
              exact hK _ _ γ HR.out (fun _ _ _ _ h => h) (fun _ _ _ h => h) rfl
            · refine ⟨fun hg K hK => ?_, trivial⟩
              clear hg
              have q0 : ev (.tmp 45) = _ := hpre 4 (by decide)
              have q1 : ev (.tmp 47) = _ := hpre 6 (by decide)
              have wa : IntKind.i64.wrap (a + q) = a + q := HWR.out
              clear hpre hψ
              go_simp
              exact hK _ _ γ HR.out (fun _ _ _ _ h => h) (fun _ _ _ h => h) rfl
            · refine ⟨fun hg K hK => ?_, trivial⟩
              clear hg
              have q0 : ev (.tmp 41) = _ := hpre 0 (by decide)
              have q1 : ev (.tmp 43) = _ := hpre 2 (by decide)
              clear hpre hψ
              go_simp
              exact hK _ _ γ HR.out (fun _ _ _ _ h => h) (fun _ _ _ h => h) rfl
            · refine ⟨fun hg K hK => ?_, trivial⟩
              clear hg
              have q0 : ev (.tmp 48) = _ := hpre 7 (by decide)
              have q1 : ev (.tmp 49) = _ := hpre 8 (by decide)
              have hS9 := HR.out.2.1 hψ
              have hlb := hS9.slo
              have zl := hlb.lt
              have fl9 := hlb.frozen
              have ca := hlb.intAt HA9.out
              have HR9 := Lib.hid (And.intro HR.out.1 hS9)
              clear hpre hψ hlb hS9
              go_simp
              exact hK undef _ (fun _ => 1) ⟨HR9.out.1.far (fun e => blk_ne HR9.out.1 HR9.out.2.slo (by decide) e) _, fun e => by simp at e, fun _ => HR9.out.2.slope HSBW.out⟩ (fun j u _ hne h => slPhi_w hne h) (fun h => absurd rfl h) (by simp [slPhi])
          · intro vs wy γ hvl hR hφ
            have q9 := hφ 9 (by decide)
            have HR := Lib.hid hR
            clear hφ hR
            match vs, hvl with
            | [y0, y1, y2, y3, y4, y5, y6, y7, y8, y9], _ =>
            simp only [List.getD_cons_zero, List.getD_cons_succ] at q9
            have HXN : Hid (Blk wy xb 75 #[.int .i64 (u : Int), .int .i64 (b : Int), .int .i64 q]) := Lib.hid HR.out.1
            have HMN := Lib.hid (HR.out.2.2 (by simpa [slPhi] using q9))
            clear HR q9
            simp [putAll]
            have hbk := HXN.out
            have e0 := hbk.cell 0
            have e1 := hbk.cell 1
            have e2 := hbk.cell 2
            have zx := hbk.lt
            simp only [List.getElem?_toArray, List.getElem?_cons_zero, List.getElem?_cons_succ] at e0 e1 e2
            have hb0 : (0 : Int) ≤ (b : Int) := by omega
            have hbn : (b : Int) < (p : Int) := by have := HUB.out; omega
            clear hbk
            go_wp2_with fail
            clear e0 e1 e2 zx
            have HXB := HXN
            have HMS := HMN
            clear HXN HMN HA9 HWR
            obtain ⟨a2, ha2⟩ : ∃ z, z = slopeF h (b : Int) := ⟨_, rfl⟩
            have HA9 : Hid (((slL p h).set u (a + q))[b]? = some a2) := Lib.hid (by rw [ha2, HSL0.out]; exact slL_mid HUB.out.1 HUB.out.2)
            have HWR : Hid (IntKind.i64.wrap (a2 + q) = a2 + q) := Lib.hid (IntWalk.i64_in _ (by have := HSLB.out (b : Int); have := HQ.out; omega))
            have HSL1 : Hid (a2 = slopeF h (b : Int)) := Lib.hid ha2
            clear ha2
            refine wp_region_free10 9 (by kernel_rfl) [some 53, some 54, some 55, some 56, some 57, some 58, some 59, some 60, some 61, none] [[], [], [1], [0, 2], [3], [], [5], [4, 6], [0, 2, 0, 1, 2, 3, 4, 5, 6, 7], [8, 7, 0, 1, 2, 3, 4, 5, 6, 7]] [(6, .slice (some ⟨sb, 0, none⟩) p p), (7, .pointer (some ⟨xb, 0, none⟩))] (fun W γ => Blk W xb 75 #[.int .i64 (u : Int), .int .i64 (b : Int), .int .i64 q] ∧ (γ 0 = 0 → MhS w dB pb rb sb (.slice A n c) (.slice none 0 0) (vw) (.slice none 0 0) (.slice none 0 0) h ((slL p h).set u (a + q)) (j + 1 + 1 + 1) W) ∧ (γ 0 ≠ 0 → MhS w dB pb rb sb (.slice A n c) (.slice none 0 0) (vw) (.slice none 0 0) (.slice none 0 0) h (((slL p h).set u (a + q)).set b (a2 + q)) (j + 1 + 1 + 1) W)) (slPhi sb xb p b 1 2 a2 (q)) (fun _ _ γ => γ 0 = 0) (by kernel_rfl) (by kernel_rfl) rfl (by kernel_rfl) ?_ ?_ ⟨fun _ => 0, ⟨HXB.out.below (Below.refl _ _).drew HXB.out.lt, fun _ => HMS.out.next (Below.refl _ _).drew, fun e => absurd rfl e⟩, fun i _ => rfl⟩ ?_ ?_
            · intro z hz
              simp only [List.mem_cons, List.mem_nil_iff, or_false] at hz
              rcases hz with rfl | rfl
              all_goals exact ⟨by kernel_rfl, rfl⟩
            · intro i v W γ hi h
              rcases i with _ | _ | _ | _ | _ | _ | _ | _ | _ | _ | i
              all_goals first | exact h | (simp at hi)
            · refine ⟨?_, ?_, ?_, ?_, ?_, ?_, ?_, ?_, ?_, ?_, trivial⟩
              all_goals
                intro a9 W γ ev hcc hff hfx hR hψ hpre
                simp only [List.mem_cons, List.mem_nil_iff, or_false, forall_eq, forall_eq_or_imp] at hfx
                obtain ⟨f0, f1⟩ := hfx
                have HR := Lib.hid hR
                clear hR
              · refine ⟨fun hg K hK => ?_, trivial⟩
                clear hg
                clear hpre hψ
                go_simp
                exact hK _ _ γ HR.out (fun _ _ _ _ h => h) (fun _ _ _ h => h) rfl
              · refine ⟨fun hg K hK => ?_, trivial⟩
                clear hg
                clear hpre hψ
                go_simp
                exact hK _ _ γ HR.out (fun _ _ _ _ h => h) (fun _ _ _ h => h) rfl
              · refine ⟨fun hg K hK => ?_, trivial⟩
                clear hg
                have q0 : ev (.tmp 54) = _ := hpre 1 (by decide)
                have hbk := HR.out.1
                have hzg := hbk.lt
                have e1 := hbk.cell 1
                simp only [List.getElem?_toArray, List.getElem?_cons_zero, List.getElem?_cons_succ] at e1
                clear hbk
                clear hpre hψ
                go_simp
                exact hK _ _ γ HR.out (fun _ _ _ _ h => h) (fun _ _ _ h => h) rfl
              · refine ⟨fun hg K hK => ?_, trivial⟩
                clear hg
                have q0 : ev (.tmp 53) = _ := hpre 0 (by decide)
                have q1 : ev (.tmp 55) = _ := hpre 2 (by decide)
                clear hpre hψ
                go_simp
                exact hK _ _ γ HR.out (fun _ _ _ _ h => h) (fun _ _ _ h => h) rfl
              · refine ⟨fun hg K hK => ?_, trivial⟩
                clear hg
                have q0 : ev (.tmp 56) = _ := hpre 3 (by decide)
                have hlb := (HR.out.2.1 hψ).slo
                have hzg := hlb.lt
                have ca := hlb.intAt HA9.out
                clear hlb
                clear hpre hψ
                go_simp
                exact hK _ _ γ HR.out (fun _ _ _ _ h => h) (fun _ _ _ h => h) rfl
              · refine ⟨fun hg K hK => ?_, trivial⟩
                clear hg
                clear hpre hψ
                go_simp
                exact hK _ _ γ HR.out (fun _ _ _ _ h => h) (fun _ _ _ h => h) rfl
              · refine ⟨fun hg K hK => ?_, trivial⟩
                clear hg
                have q0 : ev (.tmp 58) = _ := hpre 5 (by decide)
                have hbk := HR.out.1
                have hzg := hbk.lt
                have e2 := hbk.cell 2
                simp only [List.getElem?_toArray, List.getElem?_cons_zero, List.getElem?_cons_succ] at e2
                clear hbk
                clear hpre hψ
                go_simp
                exact hK _ _ γ HR.out (fun _ _ _ _ h => h) (fun _ _ _ h => h) rfl
              · refine ⟨fun hg K hK => ?_, trivial⟩
                clear hg
                have q0 : ev (.tmp 57) = _ := hpre 4 (by decide)
                have q1 : ev (.tmp 59) = _ := hpre 6 (by decide)
                have wa : IntKind.i64.wrap (a2 + q) = a2 + q := HWR.out
                clear hpre hψ
                go_simp
                exact hK _ _ γ HR.out (fun _ _ _ _ h => h) (fun _ _ _ h => h) rfl
              · refine ⟨fun hg K hK => ?_, trivial⟩
                clear hg
                have q0 : ev (.tmp 53) = _ := hpre 0 (by decide)
                have q1 : ev (.tmp 55) = _ := hpre 2 (by decide)
                clear hpre hψ
                go_simp
                exact hK _ _ γ HR.out (fun _ _ _ _ h => h) (fun _ _ _ h => h) rfl
              · refine ⟨fun hg K hK => ?_, trivial⟩
                clear hg
                have q0 : ev (.tmp 60) = _ := hpre 7 (by decide)
                have q1 : ev (.tmp 61) = _ := hpre 8 (by decide)
                have hS9 := HR.out.2.1 hψ
                have hlb := hS9.slo
                have zl := hlb.lt
                have fl9 := hlb.frozen
                have ca := hlb.intAt HA9.out
                have HR9 := Lib.hid (And.intro HR.out.1 hS9)
                clear hpre hψ hlb hS9
                go_simp
                exact hK undef _ (fun _ => 1) ⟨HR9.out.1.far (fun e => blk_ne HR9.out.1 HR9.out.2.slo (by decide) e) _, fun e => by simp at e, fun _ => HR9.out.2.slope HSBW.out⟩ (fun j u _ hne h => slPhi_w hne h) (fun h => absurd rfl h) (by simp [slPhi])
            · intro vs wz γ hvl hR hφ
              have q9 := hφ 9 (by decide)
              have HR := Lib.hid hR
              clear hφ hR
              match vs, hvl with
              | [y0, y1, y2, y3, y4, y5, y6, y7, y8, y9], _ =>
              simp only [List.getD_cons_zero, List.getD_cons_succ] at q9
              have HXN : Hid (Blk wz xb 75 #[.int .i64 (u : Int), .int .i64 (b : Int), .int .i64 q]) := Lib.hid HR.out.1
              have HMN := Lib.hid (HR.out.2.2 (by simpa [slPhi] using q9))
              clear HR q9
              simp [putAll]
              have hbk := HXN.out
              have e0 := hbk.cell 0
              have e1 := hbk.cell 1
              have e2 := hbk.cell 2
              have zx := hbk.lt
              simp only [List.getElem?_toArray, List.getElem?_cons_zero, List.getElem?_cons_succ] at e0 e1 e2
              clear hbk
              have HSL : Hid (((slL p h).set u (a + q)).set b (a2 + q) = slL p (h.addW ⟨(u : Int), (b : Int), q⟩)) := Lib.hid (by rw [HSL0.out, HSL1.out]; exact slL_wall2 HU.out HUB.out.1 HUB.out.2)
              have HRO : Hid (wz.ownsRow w.heap.size 75 3 vw k (h.walls.flatMap Wal.enc)) := Lib.hid (by have hr := HMN.out.m.wR; rw [HLEN.out] at hr; exact hr)
              have hbx := HMN.out.m.box
              have b0 := hbx.cell 1
              have zb := hbx.lt
              simp only [List.getElem?_toArray, List.getElem?_cons_zero, List.getElem?_cons_succ] at b0
              have zw := HMN.out.m.low.size
              clear hbx
              go_wp2_with (at_builtin; refine wpList_append_own_at _ rfl (.tmp 63) (.tmp 65) 24 rfl w.heap.size 75 iW (.agg #[.int .i64 0, .int .i64 0, .int .i64 0]) 3 24 Try.underlying24 hW.out.1 hW.out.2.1 hW.out.2.2.1 hW.out.2.2.2 rfl (by decide) vw k (h.walls.flatMap Wal.enc) rfl (HRO.out.alloc _) ⟨wz.heap.size, 0, none⟩ 1 1 [.int .i64 (u : Int), .int .i64 (b : Int), .int .i64 q] rfl rfl ?_ ?_ ?_ ?_ ?_ ?_)
              case _ =>
                intro i z hz
                rcases i with _ | _ | _ | i
                all_goals first | (simp only [List.getElem?_cons_succ, List.getElem?_cons_zero, Option.some.injEq] at hz; subst hz; simp [Addr.add, go_sem]) | (simp at hz)
              case _ =>
                intro z hz
                simp only [List.mem_cons, List.mem_nil_iff, or_false] at hz
                rcases hz with rfl | rfl | rfl <;> rfl
              case _ => simp only [maxLen]; have := HK6.out; omega
              case _ => have := HK6.out; omega
              case _ => exact Nat.le_trans HMN.out.m.low.size (by simp only [World.size_alloc]; omega)
              intro v' w8 hown hg8 _ _
              obtain ⟨A', c', rfl⟩ := row_slice hown
              have hM7 := HMN.out.next (W' := wz.alloc (.cells #[.int .i64 (u : Int), .int .i64 (b : Int), .int .i64 q] 75)) ((Below.refl _ _).alloc (Nat.le_refl _) _)
              rw [HSL.out] at hM7
              have hb8 := hM7.m.box.kept hg8 (own_ne hM7.m.wR hM7.m.box (by decide))
              have c1 := hb8.cell 1
              have zb8 := hb8.lt
              have fb8 := hb8.frozen
              simp only [List.getElem?_toArray, List.getElem?_cons_zero, List.getElem?_cons_succ] at c1
              have HM8 := Lib.hid (hM7.pushW (x := ⟨(u : Int), (b : Int), q⟩) hg8 hown (by have := HLEN.out; omega) HPB.out HRP.out)
              clear hown hg8 hM7 hb8 b0 zb zw HRO HMN
              go_wp2
              go_roundw
              case rel => exact ⟨k + 1, by omega, by go_num, _, _, _, Lib.hid ⟨HM8.out, HS.out.2.1.addW ⟨⟨by omega, by have := HU.out; show (u : Int) < (p : Int); omega⟩, Or.inr ⟨⟨by omega, by have := HUB.out; show (b : Int) < (p : Int); omega⟩, by have := HUB.out; show (b : Int) ≠ (u : Int); omega⟩, HQ.out⟩, by show (h.walls ++ [_]).length = k + 1; rw [List.length_append, HLEN.out]; rfl, HS.out.2.2.2.1, by have := HS.out.2.2.2.2; omega⟩⟩
              case measure => simp [intOf]; omega
    · obtain rfl : m = k := by omega
      have HS0 := Lib.hid (And.intro HS.out.1 (And.intro HS.out.2.1 (And.intro (show h.walls.length ≤ 6 by have := HS.out.2.2.1; have := HM6.out; omega) (And.intro HS.out.2.2.2.1 (show j ≤ 20 by have := HS.out.2.2.2.2; have := HM6.out; omega)))))
      clear HS HS6 hlt hk
      go_wp2_with fail
      refine (KN.out 7 (by omega) _ j HS0.out.1.dig HS0.out.1.m.low (by have := HS0.out.2.2.2.2; omega)).mono ?_
      rintro e w7 ⟨m2, rfl, hm2, hk7, hd7⟩
      have HS7 := Lib.hid (HS0.out.1.turn HDB.out hk7 hd7)
      obtain ⟨m2, rfl⟩ : ∃ z : Nat, m2 = (z : Int) := ⟨m2.toNat, by omega⟩
      have HM2 : Hid (m2 ≤ 6) := Lib.hid (by omega)
      clear hm2 hk7 hd7
      go_wp2
      go_loopw [71] (fun i wr => ∃ k : Nat, k ≤ m2 ∧ i = .int .i64 ((k : Nat) : Int) ∧ ∃ (vb : Value) (h : Hl) (j : Nat), Hid (MhS w dB pb rb sb (.slice A n c) (.slice none 0 0) vw vb (.slice none 0 0) h (slL p h) j wr ∧ MdH p h ∧ h.brs.length = k ∧ (h.rooms = [] ∧ h.crs = [] ∧ h.walls.length ≤ 6) ∧ j ≤ 30 + 5 * k)) (fun i _ => m2 - (intOf i).toNat)
      case atStart => exact ⟨0, by omega, rfl, _, h, j + 1, Lib.hid ⟨HS7.out, HS0.out.2.1, by rw [HS0.out.2.2.2.1.2.1]; rfl, ⟨HS0.out.2.2.2.1.1, HS0.out.2.2.2.1.2.2, HS0.out.2.2.1⟩, by have := HS0.out.2.2.2.2; omega⟩⟩
      clear HS0 HS7
      case round =>
        clear h j
        obtain ⟨k, hk, rfl, vb, h, j, HS⟩ := hrel
        by_cases hlt : k < m2
        · have hk1 : ((k : Nat) : Int) < ((m2 : Nat) : Int) := by omega
          have hk0 : (0 : Int) ≤ ((k : Nat) : Int) := by omega
          have HJ : Hid (j ≤ 1000) := Lib.hid (by have := HS.out.2.2.2.2; have := HM2.out; omega)
          have hk4 : k ≤ 400 := by have := HM2.out; omega
          have HK6 : Hid (k ≤ 5) := Lib.hid (by have := HM2.out; omega)
          have HLEN : Hid (h.brs.length = k) := Lib.hid HS.out.2.2.1
          go_wp2_with fail
          refine (KN.out 101 (by omega) _ j HS.out.1.dig HS.out.1.m.low (by have := HJ.out; omega)).mono ?_
          rintro e y1 ⟨op, rfl, hop, hy1, hz1⟩
          have HY1 := Lib.hid (HS.out.1.turn HDB.out hy1 hz1)
          have HOP := Lib.hid hop
          clear hop hy1 hz1
          go_wp2_with fail
          refine (KN.out 30 (by omega) y1 (j + 1) HY1.out.dig HY1.out.m.low (by have := HJ.out; omega)).mono ?_
          rintro e y2 ⟨l1, rfl, hl1, hy2, hz2⟩
          have HY2 := Lib.hid (HY1.out.turn HDB.out hy2 hz2)
          have HL1 := Lib.hid hl1
          clear hl1 hy2 hz2 HY1
          go_wp2_with fail
          refine (KN.out 2 (by omega) y2 (j + 1 + 1) HY2.out.dig HY2.out.m.low (by have := HJ.out; omega)).mono ?_
          rintro e y3 ⟨l2, rfl, hl2, hy3, hz3⟩
          have HY3 := Lib.hid (HY2.out.turn HDB.out hy3 hz3)
          obtain ⟨lk, hlk⟩ : ∃ z, z = l1 * l2 := ⟨_, rfl⟩
          have HLK : Hid (0 ≤ lk ∧ lk ≤ 29) := Lib.hid (by
            have h1 := HL1.out
            rcases (show l2 = 0 ∨ l2 = 1 by omega) with h2 | h2
            · rw [hlk, h2]; omega
            · rw [hlk, h2]; omega)
          have wl : IntKind.i64.wrap (l1 * l2) = lk := by rw [← hlk]; exact IntWalk.i64_in _ (by have := HLK.out; omega)
          have zy : y3.heap.size < y3.heap.size + 1 := by omega
          clear hl2 hy3 hz3 HY2 HL1 hlk
          by_cases hz : k = 0
          · have d1 : ¬ ((0 : Int) < (k : Int)) := by omega
            have d2 : ¬ (0 < k) := by omega
            have d3 : decide (0 < k) = false := decide_eq_false d2
            have d4 : decide ((0 : Int) < (k : Int)) = false := decide_eq_false d1
            have HMN := Lib.hid (HY3.out.next (W' := (y3.alloc (.cells #[.int .i64 (-1), .int .i64 op, .int .i64 lk] 71))) ((Below.refl _ _).alloc (Nat.le_refl _) _))
            have zy2 : y3.heap.size < y3.heap.size + 1 + 1 := by omega
            clear HY3
            have HSL : Hid (slL p h = slL p (h.addB ⟨(-1), op, lk⟩)) := Lib.hid rfl
            have HRO : Hid ((y3.alloc (.cells #[.int .i64 (-1), .int .i64 op, .int .i64 lk] 71)).ownsRow w.heap.size 71 3 vb k (h.brs.flatMap Brn.enc)) := Lib.hid (by have hr := HMN.out.m.bR; rw [HLEN.out] at hr; exact hr)
            have hbx := HMN.out.m.box
            have b0 := hbx.cell 2
            have zb := hbx.lt
            simp only [List.getElem?_toArray, List.getElem?_cons_zero, List.getElem?_cons_succ] at b0
            have zw := HMN.out.m.low.size
            clear hbx
            go_wp2_with (at_builtin; refine wpList_append_own_at _ rfl (.tmp 89) (.tmp 91) 25 rfl w.heap.size 71 iB (.agg #[.int .i64 0, .int .i64 0, .int .i64 0]) 3 24 Try.underlying25 hB.out.1 hB.out.2.1 hB.out.2.2.1 hB.out.2.2.2 rfl (by decide) vb k (h.brs.flatMap Brn.enc) rfl (HRO.out.alloc _) ⟨y3.heap.size + 1, 0, none⟩ 1 1 [.int .i64 (-1), .int .i64 op, .int .i64 lk] rfl rfl ?_ ?_ ?_ ?_ ?_ ?_)
            case _ =>
              intro i z hz
              rcases i with _ | _ | _ | i
              all_goals first | (simp only [List.getElem?_cons_succ, List.getElem?_cons_zero, Option.some.injEq] at hz; subst hz; simp [Addr.add, go_sem]) | (simp at hz)
            case _ =>
              intro z hz
              simp only [List.mem_cons, List.mem_nil_iff, or_false] at hz
              rcases hz with rfl | rfl | rfl <;> rfl
            case _ => simp only [maxLen]; have := HK6.out; omega
            case _ => have := HK6.out; omega
            case _ => exact Nat.le_trans HMN.out.m.low.size (by simp only [World.size_alloc]; omega)
            intro v' w8 hown hg8 _ _
            obtain ⟨A', c', rfl⟩ := row_slice hown
            have hM7 := HMN.out.next (W' := (y3.alloc (.cells #[.int .i64 (-1), .int .i64 op, .int .i64 lk] 71)).alloc (.cells #[.int .i64 (-1), .int .i64 op, .int .i64 lk] 71)) ((Below.refl _ _).alloc (Nat.le_refl _) _)
            rw [HSL.out] at hM7
            have hb8 := hM7.m.box.kept hg8 (own_ne hM7.m.bR hM7.m.box (by decide))
            have c1 := hb8.cell 2
            have zb8 := hb8.lt
            have fb8 := hb8.frozen
            simp only [List.getElem?_toArray, List.getElem?_cons_zero, List.getElem?_cons_succ] at c1
            have HM8 := Lib.hid (hM7.pushB (x := ⟨(-1), op, lk⟩) hg8 hown (by have := HLEN.out; omega) HPB.out HRP.out)
            clear hown hg8 hM7 hb8 b0 zb zw HRO HMN
            go_wp2
            go_roundw
            case rel => exact ⟨k + 1, by omega, by go_num, _, _, _, Lib.hid ⟨HM8.out, HS.out.2.1.addB HS.out.2.2.2.1.2.1 ⟨Or.inl ⟨by rw [HLEN.out]; exact hz, rfl⟩, by have := HOP.out; show (0 : Int) ≤ op ∧ op ≤ 100; omega, HLK.out⟩, by show (h.brs ++ [_]).length = k + 1; rw [List.length_append, HLEN.out]; rfl, HS.out.2.2.2.1, by have := HS.out.2.2.2.2; omega⟩⟩
            case measure => simp [intOf]; omega
          · have d1 : ((0 : Int) < (k : Int)) := by omega
            have d2 : (0 < k) := by omega
            have d3 : decide (0 < k) = true := decide_eq_true d2
            have d4 : decide ((0 : Int) < (k : Int)) = true := decide_eq_true d1
            have KK := Lib.hid (KN.out (k : Int) (by omega))
            go_wp2_with fail
            obtain ⟨xb, hxb⟩ : ∃ z, z = y3.heap.size := ⟨_, rfl⟩
            obtain ⟨wx, hwx⟩ : ∃ z, z = y3.alloc (.cells #[.int .i64 (-1), .int .i64 op, .int .i64 lk] 71) := ⟨_, rfl⟩
            have hBa : Below y3.heap.size y3 wx := by rw [hwx]; exact (Below.refl _ _).alloc (Nat.le_refl _) _
            have HXB : Hid (Blk wx xb 71 #[.int .i64 (-1), .int .i64 op, .int .i64 lk]) := Lib.hid (by rw [hwx, hxb]; exact heap_alloc_new y3 _)
            have HXW : Hid (y3.heap.size ≤ xb) := Lib.hid (Nat.le_of_eq hxb.symm)
            have HMS := Lib.hid (HY3.out.next hBa)
            have HBA := Lib.hid hBa
            rw [← hwx, ← hxb]
            clear hwx hxb zy hBa
            refine (KK.out wx (j + 1 + 1 + 1) HMS.out.dig HMS.out.m.low (by have := HJ.out; omega)).mono ?_
            rintro e y4 ⟨up, rfl, hup, hy4, hz4⟩
            have HMT := Lib.hid (HMS.out.turn HDB.out hy4 hz4)
            have HXT := Lib.hid (hy4.blk HXB.out (fun e => blk_ne HXB.out HMS.out.dig (by decide) e))
            have HUP := Lib.hid hup
            clear hup hy4 hz4
            have hbk := HXT.out
            have e0 := hbk.cell 0
            have e1 := hbk.cell 1
            have e2 := hbk.cell 2
            have zx := hbk.lt
            have fx := hbk.frozen
            simp only [List.getElem?_toArray, List.getElem?_cons_zero, List.getElem?_cons_succ] at e0 e1 e2
            have hne : pb ≠ xb := blk_ne HMT.out.m.box HXT.out (by decide)
            have hne2 : xb ≠ pb := fun e => hne e.symm
            have HMN := Lib.hid (HMT.out.newer HY3.out (W' := (y4.setCell ⟨xb, 0, none⟩ (.int .i64 up))) ((Keep.refl (fun z => z = xb) y4).setCell rfl _) HXW.out)
            have HB4 := Lib.hid HMT.out.m.box
            have q0 := HB4.out.cell 2
            have zq := HB4.out.lt
            simp only [List.getElem?_toArray, List.getElem?_cons_zero, List.getElem?_cons_succ] at q0
            clear hbk HMT HXT HXB HMS HY3 HBA HXW
            have HSL : Hid (slL p h = slL p (h.addB ⟨up, op, lk⟩)) := Lib.hid rfl
            have HRO : Hid ((y4.setCell ⟨xb, 0, none⟩ (.int .i64 up)).ownsRow w.heap.size 71 3 vb k (h.brs.flatMap Brn.enc)) := Lib.hid (by have hr := HMN.out.m.bR; rw [HLEN.out] at hr; exact hr)
            have hbx := HMN.out.m.box
            have b0 := hbx.cell 2
            have zb := hbx.lt
            simp only [List.getElem?_toArray, List.getElem?_cons_zero, List.getElem?_cons_succ] at b0
            have zw := HMN.out.m.low.size
            clear hbx
            go_wp2_with (at_builtin; refine wpList_append_own_at _ rfl (.tmp 89) (.tmp 91) 25 rfl w.heap.size 71 iB (.agg #[.int .i64 0, .int .i64 0, .int .i64 0]) 3 24 Try.underlying25 hB.out.1 hB.out.2.1 hB.out.2.2.1 hB.out.2.2.2 rfl (by decide) vb k (h.brs.flatMap Brn.enc) rfl (HRO.out.alloc _) ⟨y4.heap.size, 0, none⟩ 1 1 [.int .i64 up, .int .i64 op, .int .i64 lk] rfl rfl ?_ ?_ ?_ ?_ ?_ ?_)
            case _ =>
              intro i z hz
              rcases i with _ | _ | _ | i
              all_goals first | (simp only [List.getElem?_cons_succ, List.getElem?_cons_zero, Option.some.injEq] at hz; subst hz; simp [Addr.add, go_sem]) | (simp at hz)
            case _ =>
              intro z hz
              simp only [List.mem_cons, List.mem_nil_iff, or_false] at hz
              rcases hz with rfl | rfl | rfl <;> rfl
            case _ => simp only [maxLen]; have := HK6.out; omega
            case _ => have := HK6.out; omega
            case _ => exact Nat.le_trans HMN.out.m.low.size (by simp only [World.size_alloc]; omega)
            intro v' w8 hown hg8 _ _
            obtain ⟨A', c', rfl⟩ := row_slice hown
            have hM7 := HMN.out.next (W' := (y4.setCell ⟨xb, 0, none⟩ (.int .i64 up)).alloc (.cells #[.int .i64 up, .int .i64 op, .int .i64 lk] 71)) ((Below.refl _ _).alloc (Nat.le_refl _) _)
            rw [HSL.out] at hM7
            have hb8 := hM7.m.box.kept hg8 (own_ne hM7.m.bR hM7.m.box (by decide))
            have c1 := hb8.cell 2
            have zb8 := hb8.lt
            have fb8 := hb8.frozen
            simp only [List.getElem?_toArray, List.getElem?_cons_zero, List.getElem?_cons_succ] at c1
            have HM8 := Lib.hid (hM7.pushB (x := ⟨up, op, lk⟩) hg8 hown (by have := HLEN.out; omega) HPB.out HRP.out)
            clear hown hg8 hM7 hb8 b0 zb zw HRO HMN
            go_wp2
            go_roundw
            case rel => exact ⟨k + 1, by omega, by go_num, _, _, _, Lib.hid ⟨HM8.out, HS.out.2.1.addB HS.out.2.2.2.1.2.1 ⟨Or.inr (by rw [HLEN.out]; exact HUP.out), by have := HOP.out; show (0 : Int) ≤ op ∧ op ≤ 100; omega, HLK.out⟩, by show (h.brs ++ [_]).length = k + 1; rw [List.length_append, HLEN.out]; rfl, HS.out.2.2.2.1, by have := HS.out.2.2.2.2; omega⟩⟩
            case measure => simp [intOf]; omega
        · obtain rfl : m2 = k := by omega
          obtain ⟨bA, bc, hvb⟩ := row_slice HS.out.1.m.bR
          obtain ⟨nb, hnb⟩ : ∃ z, z = h.brs.length := ⟨_, rfl⟩
          rw [← hnb] at hvb
          obtain rfl : nb = m2 := by rw [hnb]; exact HS.out.2.2.1
          subst hvb
          have HS1 := Lib.hid (And.intro HS.out.1 (And.intro HS.out.2.1 (And.intro hnb.symm (And.intro HS.out.2.2.2.1 (show j ≤ 60 by have := HS.out.2.2.2.2; have := HM2.out; omega)))))
          have hbk := HS1.out.1.m.box
          have b2 := hbk.cell 2
          have zb := hbk.lt
          simp only [List.getElem?_toArray, List.getElem?_cons_zero, List.getElem?_cons_succ] at b2
          clear HS hlt hk hbk hnb
          by_cases hz : nb = 0
          · have d1 : ¬ ((0 : Int) < (nb : Int)) := by omega
            have d2 : ¬ (0 < nb) := by omega
            have d3 : decide (0 < nb) = false := decide_eq_false d2
            have d4 : decide ((0 : Int) < (nb : Int)) = false := decide_eq_false d1
            have HC6 : Hid (h.crs.length ≤ 6) := Lib.hid (by rw [HS1.out.2.2.2.1.2.1]; simp)
            have HRM : Hid (h.rooms = []) := Lib.hid HS1.out.2.2.2.1.1
            have HWL : Hid (h.walls.length ≤ 6) := Lib.hid HS1.out.2.2.2.1.2.2
            have HBL : Hid (h.brs.length ≤ 6) := Lib.hid (by rw [HS1.out.2.2.1]; exact HM2.out)
            have HMD : Hid (MdH p h) := Lib.hid HS1.out.2.1
            have HSX : Hid (MhS w dB pb rb sb (.slice A n c) (.slice none 0 0) vw (.slice bA nb bc) (.slice none 0 0) h (slL p h) j wr ∧ j ≤ 120) := Lib.hid ⟨HS1.out.1, by have := HS1.out.2.2.2.2; omega⟩
            clear HS1
            go_wp2
            clear d1 d2 d3 d4 b2 zb hz
            go_loopw [137] (fun i wr => ∃ k : Nat, k ≤ p ∧ i = .int .i64 ((k : Nat) : Int) ∧ ∃ (vr : Value) (h : Hl) (j : Nat), Hid (MhS w dB pb rb sb (.slice A n c) vr vw (.slice bA nb bc) (.slice none 0 0) h (slL p h) j wr ∧ MdH p h ∧ RmOk h ∧ h.rooms.length = k ∧ (h.walls.length ≤ 6 ∧ h.brs.length ≤ 6 ∧ h.crs.length ≤ 6) ∧ j ≤ 120 + 3 * k)) (fun i _ => p - (intOf i).toNat)
            case atStart => exact ⟨0, by omega, rfl, _, h, j, Lib.hid ⟨HSX.out.1, HMD.out, (fun i hi => by rw [HRM.out] at hi; simp at hi), by rw [HRM.out]; rfl, ⟨HWL.out, HBL.out, HC6.out⟩, by have := HSX.out.2; omega⟩⟩
            clear HSX HMD HRM HWL HBL HC6
            case round =>
              clear h j
              obtain ⟨k, hk, rfl, vr, h, j, HS⟩ := hrel
              by_cases hlt : k < p
              · have hk1 : ((k : Nat) : Int) < ((p : Nat) : Int) := by omega
                have hk0 : (0 : Int) ≤ ((k : Nat) : Int) := by omega
                have HJ : Hid (j ≤ 1000) := Lib.hid (by have := HS.out.2.2.2.2.2; have := HP.out; omega)
                have hk4 : k ≤ 400 := by have := HP.out; omega
                have HK6 : Hid (k ≤ 5) := Lib.hid (by have := HP.out; omega)
                have HLEN : Hid (h.rooms.length = k) := Lib.hid HS.out.2.2.2.1
                obtain ⟨s, hs⟩ : ∃ z, z = slopeF h (k : Int) := ⟨_, rfl⟩
                have HSV : Hid (0 ≤ s ∧ s ≤ 600) := Lib.hid (by rw [hs]; exact HS.out.2.1.slope HS.out.2.2.2.2.1.1 HS.out.2.2.2.2.1.2.2 _)
                have HA9 : Hid ((slL p h)[k]? = some s) := Lib.hid (by rw [hs]; exact slL_get hlt)
                have HSE := Lib.hid hs
                clear hs
                go_wp2_with fail
                refine wp_region_free10 21 (by kernel_rfl) [some 140, some 141, some 142, some 143, some 144, some 145, some 146, some 147, some 148, some 149, some 150, some 151, some 152, some 153, some 154, some 155, some 156, some 157, some 158, some 159, some 160, none] [[], [0], [], [], [2, 3], [4], [5], [], [7], [], [9, 8], [8, 10], [6, 11], [], [13, 10], [14], [15], [12, 16], [17], [1, 18, 14], [0, 1, 2, 3, 4, 5, 6, 7, 8, 9, 10, 11, 12, 13, 14, 15, 16, 17, 18, 19], [20, 19, 19, 0, 1, 2, 3, 4, 5, 6, 7, 8, 9, 10, 11, 12, 13, 14, 15, 16, 17, 18, 19]] [(4, .pointer (some ⟨pb, 0, none⟩)), (6, .slice (some ⟨sb, 0, none⟩) p p), (11, .int .i64 (k : Int)), (3, .pointer (some ⟨dB, 0, none⟩))] (rmR w dB pb rb sb j (.slice A n c) vr vw (.slice bA nb bc) (.slice none 0 0) h (slL p h)) (rmPhi w dB pb rb sb k p j (.slice A n c) vr vw (.slice bA nb bc) (.slice none 0 0) h (slL p h) s) (rmPsi) (by kernel_rfl) (by kernel_rfl) rfl (by kernel_rfl) ?_ ?_ ⟨fun _ => 0, ⟨fun _ => ⟨j, by simp, HS.out.1.next (Below.refl _ _).drew⟩, Or.inl rfl, by simp⟩, fun i _ => by simp [rmPsi]⟩ ?_ ?_
                · intro z hz
                  simp only [List.mem_cons, List.mem_nil_iff, or_false] at hz
                  rcases hz with rfl | rfl | rfl | rfl
                  all_goals exact ⟨by kernel_rfl, rfl⟩
                · intro i v W γ hi h
                  rcases i with _ | _ | _ | _ | _ | _ | _ | _ | _ | _ | _ | _ | _ | _ | _ | _ | _ | _ | _ | _ | _ | _ | i
                  all_goals first | exact h | (simp at hi)
                · refine ⟨?_, ?_, ?_, ?_, ?_, ?_, ?_, ?_, ?_, ?_, ?_, ?_, ?_, ?_, ?_, ?_, ?_, ?_, ?_, ?_, ?_, ?_, trivial⟩
                  all_goals
                    intro a9 W γ ev hcc hff hfx hR hψ hpre
                    simp only [List.mem_cons, List.mem_nil_iff, or_false, forall_eq, forall_eq_or_imp] at hfx
                    obtain ⟨f0, f1, f2, f3⟩ := hfx
                    have HR := Lib.hid hR
                    clear hR
                  · refine ⟨fun hg K hK => ?_, trivial⟩
                    clear hg
                    clear hpre hψ
                    go_simp
                    exact hK _ _ γ HR.out (fun _ _ _ _ h => h) (fun _ _ _ h => h) rfl
                  · refine ⟨fun hg K hK => ?_, trivial⟩
                    clear hg
                    have q0 : ev (.tmp 140) = _ := hpre 0 (by decide)
                    have h20 : γ 2 = 0 := hψ.1 rfl
                    have hγ1 : γ 1 = 0 := HR.out.2.1.elim id (fun z => absurd h20 (by rw [z.1]; decide))
                    have hbk := ((HR.out.1 hγ1).elim (fun _ z => z.2.m.box))
                    have hzg := hbk.lt
                    have e2 := hbk.cell 0
                    simp only [List.getElem?_toArray, List.getElem?_cons_zero, List.getElem?_cons_succ] at e2
                    clear hbk
                    have HR9 := HR
                    have HP9 := Lib.hid hψ
                    have HG1 := Lib.hid hγ1
                    have H20 := Lib.hid h20
                    clear hpre hψ hγ1 h20
                    go_simp
                    refine hK _ _ (fun i => if i = 2 then 1 else γ i) ⟨fun z => by simpa using HR9.out.1 (by simpa using z), Or.inl (by simpa using HG1.out), by simpa using HR9.out.2.2⟩ (fun j u hj hne h => rmPhi_up (fun z hz e => by split <;> first | rfl | exact e) (fun _ z => ⟨by simpa using z, fun b cs hc => hc⟩) (fun _ z => ⟨by simpa using z, Or.inr rfl⟩) (fun _ => rfl) h) (fun _ j h1 h2 => ?_) ⟨rfl, by simp⟩
                    refine ⟨fun e => ?_, fun e => ?_, fun e => ?_, fun e => ?_, fun e => ?_, fun e => ?_, fun e => ?_, fun e => ?_⟩
                    all_goals first | (exact absurd e h1) | (simpa using h2.1 e) | (simpa using h2.2.1 e) | (simpa using h2.2.2.1 e) | (simpa using h2.2.2.2.1 e) | (simpa using h2.2.2.2.2.1 e) | (simpa using h2.2.2.2.2.2.1 e) | (simpa using h2.2.2.2.2.2.2.1 e) | (simpa using h2.2.2.2.2.2.2.2 e)
                  · refine ⟨fun hg K hK => ?_, trivial⟩
                    clear hg
                    clear hpre hψ
                    go_simp
                    exact hK _ _ γ HR.out (fun _ _ _ _ h => h) (fun _ _ _ h => h) rfl
                  · refine ⟨fun hg K hK => ?_, trivial⟩
                    clear hg
                    clear hpre hψ
                    go_simp
                    exact hK _ _ γ HR.out (fun _ _ _ _ h => h) (fun _ _ _ h => h) rfl
                  · refine ⟨fun hg K hK => ?_, trivial⟩
                    clear hg
                    have q0 : ev (.tmp 142) = _ := hpre 2 (by decide)
                    have q1 : ev (.tmp 143) = _ := hpre 3 (by decide)
                    clear hpre hψ
                    go_simp
                    exact hK _ _ γ HR.out (fun _ _ _ _ h => h) (fun _ _ _ h => h) rfl
                  · refine ⟨fun hg K hK => ?_, trivial⟩
                    clear hg
                    have q0 : ev (.tmp 144) = _ := hpre 4 (by decide)
                    have h20 : γ 3 = 0 := hψ.2.1 rfl
                    have hγ1 : γ 1 = 0 := HR.out.2.1.elim id (fun z => absurd h20 (by rw [z.2.1]; decide))
                    have hlb := ((HR.out.1 hγ1).elim (fun _ z => z.2.slo))
                    have hzg := hlb.lt
                    have ca := hlb.intAt HA9.out
                    clear hlb
                    have HR9 := HR
                    have HP9 := Lib.hid hψ
                    have HG1 := Lib.hid hγ1
                    have H20 := Lib.hid h20
                    clear hpre hψ hγ1 h20
                    go_simp
                    refine hK _ _ (fun i => if i = 3 then 1 else γ i) ⟨fun z => by simpa using HR9.out.1 (by simpa using z), Or.inl (by simpa using HG1.out), by simpa using HR9.out.2.2⟩ (fun j u hj hne h => rmPhi_up (fun z hz e => by split <;> first | rfl | exact e) (fun _ z => ⟨by simpa using z, fun b cs hc => hc⟩) (fun _ z => ⟨by simpa using z, Or.inr rfl⟩) (fun _ => rfl) h) (fun _ j h1 h2 => ?_) ⟨rfl, by simp⟩
                    refine ⟨fun e => ?_, fun e => ?_, fun e => ?_, fun e => ?_, fun e => ?_, fun e => ?_, fun e => ?_, fun e => ?_⟩
                    all_goals first | (exact absurd e h1) | (simpa using h2.1 e) | (simpa using h2.2.1 e) | (simpa using h2.2.2.1 e) | (simpa using h2.2.2.2.1 e) | (simpa using h2.2.2.2.2.1 e) | (simpa using h2.2.2.2.2.2.1 e) | (simpa using h2.2.2.2.2.2.2.1 e) | (simpa using h2.2.2.2.2.2.2.2 e)
                  · refine ⟨fun hg K hK => ?_, trivial⟩
                    clear hg
                    obtain ⟨q0, hf⟩ := hpre 5 (by decide)
                    replace q0 : ev (.tmp 145) = _ := q0
                    have wa : IntKind.i64.wrap (s + 1) = s + 1 := IntWalk.i64_in _ (by have := HSV.out; omega)
                    have HF := Lib.hid hf
                    clear hpre hψ hf
                    go_simp
                    exact hK _ _ γ HR.out (fun _ _ _ _ h => h) (fun _ _ _ h => h) ⟨rfl, HF.out⟩
                  · refine ⟨fun hg K hK => ?_, trivial⟩
                    clear hg
                    clear hpre hψ
                    go_simp
                    exact hK _ _ γ HR.out (fun _ _ _ _ h => h) (fun _ _ _ h => h) rfl
                  · refine ⟨fun hg K hK => ?_, trivial⟩
                    clear hg
                    have q0 : ev (.tmp 147) = _ := hpre 7 (by decide)
                    have h20 : γ 10 = 0 := hψ.2.2.1 rfl
                    have hγ1 : γ 1 = 0 := HR.out.2.1.elim id (fun z => absurd h20 (by rw [z.2.2.1]; decide))
                    obtain ⟨i9, hi9, hS9⟩ := HR.out.1 hγ1
                    have C := Lib.hid (KN.out 256 (by omega) W i9 hS9.dig hS9.m.low (by have := HJ.out; have := HR.out.2.2; omega))
                    have HX := Lib.hid (And.intro hi9 (And.intro hS9 (And.intro HR.out.2.2 (And.intro hγ1 h20))))
                    clear hi9 hS9 hγ1 h20 hpre
                    have HP9 := Lib.hid hψ
                    clear hψ
                    go_simp
                    refine C.out.mono ?_
                    rintro e w7 ⟨x, rfl, hr, hk7, hb7⟩
                    obtain ⟨hi9, hS9, hfl, hγ1, h20⟩ := HX.out
                    refine hK _ w7 (fun i => if i = 10 then 1 else γ i) ⟨fun _ => ⟨i9 + 1, by simp; omega, hS9.turn HDB.out hk7 hb7⟩, Or.inl (by simpa using hγ1), by simp; omega⟩ (fun j u hj hne h => rmPhi_up (fun z hz e => by split <;> first | rfl | exact e) (fun _ z => ⟨by simpa using z, fun b cs hc => hk7.blk hc (fun e => blk_ne hc hS9.dig (by decide) e)⟩) (fun _ z => ⟨by simpa using z, Or.inl (fun z => by have := z.2.2.1; omega)⟩) (fun e => by subst e; exact absurd (by decide) hj) h) (fun _ j h1 h2 => ?_) ⟨x, rfl, hr, by simp⟩
                    refine ⟨fun e => ?_, fun e => ?_, fun e => ?_, fun e => ?_, fun e => ?_, fun e => ?_, fun e => ?_, fun e => ?_⟩
                    all_goals first | (exact absurd e h1) | (simpa using h2.1 e) | (simpa using h2.2.1 e) | (simpa using h2.2.2.1 e) | (simpa using h2.2.2.2.1 e) | (simpa using h2.2.2.2.2.1 e) | (simpa using h2.2.2.2.2.2.1 e) | (simpa using h2.2.2.2.2.2.2.1 e) | (simpa using h2.2.2.2.2.2.2.2 e)
                  · refine ⟨fun hg K hK => ?_, trivial⟩
                    clear hg
                    clear hpre hψ
                    go_simp
                    exact hK _ _ γ HR.out (fun _ _ _ _ h => h) (fun _ _ _ h => h) rfl
                  · refine ⟨fun hg K hK => ?_, trivial⟩
                    clear hg
                    have q0 : ev (.tmp 149) = _ := hpre 9 (by decide)
                    have h20 : γ 11 = 0 := hψ.2.2.2.1 rfl
                    have hγ1 : γ 1 = 0 := HR.out.2.1.elim id (fun z => absurd h20 (by rw [z.2.2.2.1]; decide))
                    obtain ⟨i9, hi9, hS9⟩ := HR.out.1 hγ1
                    have C := Lib.hid (KN.out 3 (by omega) W i9 hS9.dig hS9.m.low (by have := HJ.out; have := HR.out.2.2; omega))
                    have HX := Lib.hid (And.intro hi9 (And.intro hS9 (And.intro HR.out.2.2 (And.intro hγ1 h20))))
                    clear hi9 hS9 hγ1 h20 hpre
                    have HP9 := Lib.hid hψ
                    clear hψ
                    go_simp
                    refine C.out.mono ?_
                    rintro e w7 ⟨x, rfl, hr, hk7, hb7⟩
                    obtain ⟨hi9, hS9, hfl, hγ1, h20⟩ := HX.out
                    refine hK _ w7 (fun i => if i = 11 then 1 else γ i) ⟨fun _ => ⟨i9 + 1, by simp; omega, hS9.turn HDB.out hk7 hb7⟩, Or.inl (by simpa using hγ1), by simp; omega⟩ (fun j u hj hne h => rmPhi_up (fun z hz e => by split <;> first | rfl | exact e) (fun _ z => ⟨by simpa using z, fun b cs hc => hk7.blk hc (fun e => blk_ne hc hS9.dig (by decide) e)⟩) (fun _ z => ⟨by simpa using z, Or.inl (fun z => by have := z.2.2.2.1; omega)⟩) (fun e => by subst e; exact absurd (by decide) hj) h) (fun _ j h1 h2 => ?_) ⟨x, rfl, hr, by simp⟩
                    refine ⟨fun e => ?_, fun e => ?_, fun e => ?_, fun e => ?_, fun e => ?_, fun e => ?_, fun e => ?_, fun e => ?_⟩
                    all_goals first | (exact absurd e h1) | (simpa using h2.1 e) | (simpa using h2.2.1 e) | (simpa using h2.2.2.1 e) | (simpa using h2.2.2.2.1 e) | (simpa using h2.2.2.2.2.1 e) | (simpa using h2.2.2.2.2.2.1 e) | (simpa using h2.2.2.2.2.2.2.1 e) | (simpa using h2.2.2.2.2.2.2.2 e)
                  · refine ⟨fun hg K hK => ?_, trivial⟩
                    clear hg
                    obtain ⟨r0, q0, a0, f0⟩ := hpre 8 (by decide)
                    obtain ⟨r1, q1, a1, f1⟩ := hpre 10 (by decide)
                    replace q0 : ev (.tmp 148) = _ := q0
                    replace q1 : ev (.tmp 150) = _ := q1
                    have hb0 : 0 ≤ r0 * r1 := Int.mul_nonneg a0.1 a1.1
                    have hb1 : r0 * r1 ≤ 255 * 2 := Int.mul_le_mul (by omega) (by omega) a1.1 (by omega)
                    have wa : IntKind.i64.wrap (r0 * r1) = r0 * r1 := IntWalk.i64_in _ (by omega)
                    have HF : Hid ((0 ≤ r0 * r1 ∧ r0 * r1 ≤ 510) ∧ γ 10 = 1 ∧ γ 11 = 1) := Lib.hid ⟨⟨hb0, by omega⟩, f0, f1⟩
                    clear hpre hψ a0 f0 a1 f1 hb0 hb1
                    go_simp
                    exact hK _ _ γ HR.out (fun _ _ _ _ h => h) (fun _ _ _ h => h) ⟨_, rfl, HF.out⟩
                  · refine ⟨fun hg K hK => ?_, trivial⟩
                    clear hg
                    obtain ⟨q0, f0⟩ := hpre 6 (by decide)
                    obtain ⟨r1, q1, a1, f1⟩ := hpre 11 (by decide)
                    replace q0 : ev (.tmp 146) = _ := q0
                    replace q1 : ev (.tmp 151) = _ := q1
                    have wa : IntKind.i64.wrap (s + 1 + r1) = s + 1 + r1 := IntWalk.i64_in _ (by have := HSV.out; omega)
                    have HF : Hid ((s + 1 ≤ s + 1 + r1 ∧ s + 1 + r1 ≤ s + 511) ∧ γ 3 = 1 ∧ γ 10 = 1 ∧ γ 11 = 1) := Lib.hid ⟨by omega, f0, f1⟩
                    clear hpre hψ f0 a1 f1
                    go_simp
                    exact hK _ _ γ HR.out (fun _ _ _ _ h => h) (fun _ _ _ h => h) ⟨_, rfl, HF.out⟩
                  · refine ⟨fun hg K hK => ?_, trivial⟩
                    clear hg
                    clear hpre hψ
                    go_simp
                    exact hK _ _ γ HR.out (fun _ _ _ _ h => h) (fun _ _ _ h => h) rfl
                  · refine ⟨fun hg K hK => ?_, trivial⟩
                    clear hg
                    have q0 : ev (.tmp 153) = _ := hpre 13 (by decide)
                    have h20 : γ 12 = 0 := hψ.2.2.2.2.1 rfl
                    have hγ1 : γ 1 = 0 := HR.out.2.1.elim id (fun z => absurd h20 (by rw [z.2.2.2.2.1]; decide))
                    obtain ⟨i9, hi9, hS9⟩ := HR.out.1 hγ1
                    have C := Lib.hid (KN.out 256 (by omega) W i9 hS9.dig hS9.m.low (by have := HJ.out; have := HR.out.2.2; omega))
                    have HX := Lib.hid (And.intro hi9 (And.intro hS9 (And.intro HR.out.2.2 (And.intro hγ1 h20))))
                    clear hi9 hS9 hγ1 h20 hpre
                    have HP9 := Lib.hid hψ
                    clear hψ
                    go_simp
                    refine C.out.mono ?_
                    rintro e w7 ⟨x, rfl, hr, hk7, hb7⟩
                    obtain ⟨hi9, hS9, hfl, hγ1, h20⟩ := HX.out
                    refine hK _ w7 (fun i => if i = 12 then 1 else γ i) ⟨fun _ => ⟨i9 + 1, by simp; omega, hS9.turn HDB.out hk7 hb7⟩, Or.inl (by simpa using hγ1), by simp; omega⟩ (fun j u hj hne h => rmPhi_up (fun z hz e => by split <;> first | rfl | exact e) (fun _ z => ⟨by simpa using z, fun b cs hc => hk7.blk hc (fun e => blk_ne hc hS9.dig (by decide) e)⟩) (fun _ z => ⟨by simpa using z, Or.inl (fun z => by have := z.2.2.2.2.1; omega)⟩) (fun e => by subst e; exact absurd (by decide) hj) h) (fun _ j h1 h2 => ?_) ⟨x, rfl, hr, by simp⟩
                    refine ⟨fun e => ?_, fun e => ?_, fun e => ?_, fun e => ?_, fun e => ?_, fun e => ?_, fun e => ?_, fun e => ?_⟩
                    all_goals first | (exact absurd e h1) | (simpa using h2.1 e) | (simpa using h2.2.1 e) | (simpa using h2.2.2.1 e) | (simpa using h2.2.2.2.1 e) | (simpa using h2.2.2.2.2.1 e) | (simpa using h2.2.2.2.2.2.1 e) | (simpa using h2.2.2.2.2.2.2.1 e) | (simpa using h2.2.2.2.2.2.2.2 e)
                  · refine ⟨fun hg K hK => ?_, trivial⟩
                    clear hg
                    obtain ⟨r, q0, a0, f0⟩ := hpre 14 (by decide)
                    replace q0 : ev (.tmp 154) = _ := q0
                    have wa : IntKind.i64.wrap (80 * r) = 80 * r := IntWalk.i64_in _ (by omega)
                    have HF : Hid ((0 ≤ 80 * r ∧ 80 * r ≤ 20400) ∧ γ 12 = 1) := Lib.hid ⟨by omega, f0⟩
                    clear hpre hψ a0 f0
                    go_simp
                    exact hK _ _ γ HR.out (fun _ _ _ _ h => h) (fun _ _ _ h => h) ⟨_, rfl, HF.out⟩
                  · refine ⟨fun hg K hK => ?_, trivial⟩
                    clear hg
                    obtain ⟨r, q0, a0, f0⟩ := hpre 15 (by decide)
                    replace q0 : ev (.tmp 155) = _ := q0
                    have wa : IntKind.i64.wrap (20000 + r) = 20000 + r := IntWalk.i64_in _ (by omega)
                    have HF : Hid ((20000 ≤ 20000 + r ∧ 20000 + r ≤ 40400) ∧ γ 12 = 1) := Lib.hid ⟨by omega, f0⟩
                    clear hpre hψ a0 f0
                    go_simp
                    exact hK _ _ γ HR.out (fun _ _ _ _ h => h) (fun _ _ _ h => h) ⟨_, rfl, HF.out⟩
                  · refine ⟨fun hg K hK => ?_, trivial⟩
                    clear hg
                    obtain ⟨r0, q0, a0, f0⟩ := hpre 12 (by decide)
                    obtain ⟨r1, q1, a1, f1⟩ := hpre 16 (by decide)
                    replace q0 : ev (.tmp 152) = _ := q0
                    replace q1 : ev (.tmp 156) = _ := q1
                    have HF : Hid (RomOk s ⟨r0, r1⟩ ∧ γ 3 = 1 ∧ γ 10 = 1 ∧ γ 11 = 1 ∧ γ 12 = 1) := Lib.hid ⟨⟨a0, a1⟩, f0.1, f0.2.1, f0.2.2, f1⟩
                    clear hpre hψ a0 f0 a1 f1
                    go_simp
                    exact hK _ _ γ HR.out (fun _ _ _ _ h => h) (fun _ _ _ h => h) ⟨⟨r0, r1⟩, rfl, HF.out⟩
                  · refine ⟨fun hg K hK => ?_, trivial⟩
                    clear hg
                    have h20 : γ 13 = 0 := hψ.2.2.2.2.2.1 rfl
                    have hγ1 : γ 1 = 0 := HR.out.2.1.elim id (fun z => absurd h20 (by rw [z.2.2.2.2.2]; decide))
                    obtain ⟨x, q0, hx, hf⟩ := hpre 17 (by decide)
                    replace q0 : ev (.tmp 157) = _ := q0
                    have HRW9 := HR
                    have HF := Lib.hid (And.intro hx (And.intro hf hγ1))
                    have HP9 := Lib.hid hψ
                    clear hpre hψ hx hf h20 hγ1
                    go_simp
                    obtain ⟨hx, hf, hγ1⟩ := HF.out
                    obtain ⟨i9, hi9, hS9⟩ := HRW9.out.1 hγ1
                    have hB5 : Below W.heap.size W (W.alloc (.cells #[.int .i64 x.st, .int .i64 x.lim] 61)) := (Below.refl _ _).alloc (Nat.le_refl _) _
                    refine hK _ _ (fun i => if i = 13 then 1 else γ i) ⟨fun _ => ⟨i9, by simpa using hi9, hS9.next hB5⟩, Or.inl (by simpa using hγ1), by simpa using HRW9.out.2.2⟩ (fun j u hj hne h => rmPhi_up (fun z hz e => by split <;> first | rfl | exact e) (fun e => absurd e hne) (fun e => by subst e; exact absurd (by decide) hj) (fun e => by subst e; exact absurd (by decide) hj) h) (fun _ j h1 h2 => ?_) ⟨W.heap.size, x, rfl, hx, ⟨hf.1, hf.2.1, hf.2.2.1, hf.2.2.2, rfl⟩, fun _ => heap_alloc_new W _⟩
                    refine ⟨fun e => ?_, fun e => ?_, fun e => ?_, fun e => ?_, fun e => ?_, fun e => ?_, fun e => ?_, fun e => ?_⟩
                    all_goals first | (exact absurd e h1) | (simpa using h2.1 e) | (simpa using h2.2.1 e) | (simpa using h2.2.2.1 e) | (simpa using h2.2.2.2.1 e) | (simpa using h2.2.2.2.2.1 e) | (simpa using h2.2.2.2.2.2.1 e) | (simpa using h2.2.2.2.2.2.2.1 e) | (simpa using h2.2.2.2.2.2.2.2 e)
                  · refine ⟨fun hg K hK => ?_, trivial⟩
                    clear hg
                    have hγ1 : γ 1 = 0 := hψ.2.2.2.2.2.2.1 rfl
                    obtain ⟨q5, f2⟩ := hpre 1 (by decide)
                    obtain ⟨b1, x, q6, hx, hf, hb1⟩ := hpre 18 (by decide)
                    replace q5 : ev (.tmp 141) = _ := q5
                    replace q6 : ev (.tmp 158) = _ := q6
                    have hb1 := hb1 hγ1
                    obtain ⟨i9, hi9, hS9⟩ := HR.out.1 hγ1
                    have hrow := hS9.m.rR
                    rw [HLEN.out] at hrow
                    obtain ⟨v', W', hr, h2, h3, _, _⟩ := run_append_own_at (P := Try.prog) W w.heap.size 23 23 61 iR (.agg #[.int .i64 0, .int .i64 0]) 2 16 Try.underlying23 hR.out.1 hR.out.2.1 hR.out.2.2.1 hR.out.2.2.2 rfl (by decide) vr k (h.rooms.flatMap Rom.enc) hrow ⟨b1, 0, none⟩ 1 1 [.int .i64 x.st, .int .i64 x.lim] rfl (fun j u hj => by
                      rw [add0, Blk.cell hb1]
                      simpa using hj) (by intro u hu; simp only [List.mem_cons, List.mem_nil_iff, or_false] at hu; rcases hu with rfl | rfl <;> rfl) (by have := HK6.out; simp only [maxLen]; omega) (by have := HK6.out; omega) hS9.m.low.size
                    unfold execOp
                    simp only [resolve, invoke, builtin, Sem.run_bind, Sem.run_pure, Result.andThen_ok, List.map_toArray, List.map_cons, List.map_nil, q5, q6, hr]
                    obtain ⟨A', c', e'⟩ := row_slice h2
                    subst e'
                    have hall : rmAll γ := ⟨f2, hf⟩
                    refine hK _ W' (fun i => if i = 1 then 1 else γ i) ⟨fun e => by simp at e, Or.inr (by simpa [rmAll] using hall), by simpa using HR.out.2.2⟩ (fun j u hj hne h => rmPhi_up (fun z hz e => by split <;> first | rfl | exact e) (fun _ z => by simp at z) (fun e => absurd e hne) (fun e => by subst e; exact absurd (by decide) hj) h) (fun _ j h1 h2 => ?_) ⟨A', c', x, rfl, hx, by simpa [rmAll] using hall, fun _ => ⟨W, i9, by have := HR.out.2.2; omega, hS9, h3, h2⟩⟩
                    refine ⟨fun e => ?_, fun e => ?_, fun e => ?_, fun e => ?_, fun e => ?_, fun e => ?_, fun e => ?_, fun e => ?_⟩
                    all_goals first | (exact absurd e h1) | (simpa using h2.1 e) | (simpa using h2.2.1 e) | (simpa using h2.2.2.1 e) | (simpa using h2.2.2.2.1 e) | (simpa using h2.2.2.2.2.1 e) | (simpa using h2.2.2.2.2.2.1 e) | (simpa using h2.2.2.2.2.2.2.1 e) | (simpa using h2.2.2.2.2.2.2.2 e)
                  · refine ⟨fun hg K hK => ?_, trivial⟩
                    clear hg
                    clear hpre hψ
                    go_simp
                    exact hK _ _ γ HR.out (fun _ _ _ _ h => h) (fun _ _ _ h => h) rfl
                  · refine ⟨fun hg K hK => ?_, trivial⟩
                    clear hg
                    have q0 : ev (.tmp 160) = _ := hpre 20 (by decide)
                    obtain ⟨A9, c8, x, q7, hx, hall, hg⟩ := hpre 19 (by decide)
                    obtain ⟨W0, i9, hi9, hS9, hg9, hrow⟩ := hg (hψ.2.2.2.2.2.2.2 rfl)
                    replace q7 : ev (.tmp 159) = _ := q7
                    have hbx := hS9.m.box.kept hg9 (own_ne hS9.m.rR hS9.m.box (by decide))
                    have hzx := hbx.lt
                    have fz := hbx.frozen
                    have c4 := hbx.cell 0
                    simp only [List.getElem?_toArray, List.getElem?_cons_zero, List.getElem?_cons_succ] at c4
                    have HX := Lib.hid (And.intro hx (And.intro hi9 (And.intro hS9 (And.intro hg9 (And.intro hrow hall)))))
                    have HFL := Lib.hid HR.out.2.2
                    clear hpre hbx hrow hx hi9 hS9 hg9 hall hψ HR
                    go_simp
                    obtain ⟨hx, hi9, hS9, hg9, hrow, hall⟩ := HX.out
                    refine hK undef _ (fun i => if i = 1 ∨ i = 20 then 1 else γ i) ⟨fun e => by simp at e, Or.inr (by simpa [rmAll] using hall), by simpa using HFL.out⟩ (fun j u h1 h2 h3 => rmPhi_up (fun z hz e => by split <;> first | rfl | exact e) (fun _ z => by simp at z) (fun _ z => by simp at z) (fun e => absurd e h2) h3) (fun h => absurd rfl h) ⟨A9, c8, x, i9, hx, hi9, hS9.pushR hg9 hrow (by rw [HLEN.out]) HPB.out HRP.out⟩
                · intro vs wy γ hvl hR hφ
                  have q21 := hφ 21 (by decide)
                  have HR := Lib.hid hR
                  clear hφ hR
                  match vs, hvl with
                  | [y0, y1, y2, y3, y4, y5, y6, y7, y8, y9, y10, y11, y12, y13, y14, y15, y16, y17, y18, y19, y20, y21], _ =>
                  simp only [List.getD_cons_zero, List.getD_cons_succ] at q21
                  obtain ⟨A9, c9, x, i9, hx, hi9, hS9⟩ := q21
                  have HN : Hid (MhS w dB pb rb sb (.slice A n c) (.slice A9 (k + 1) c9) vw (.slice bA nb bc) (.slice none 0 0) (h.addR x) (slL p (h.addR x)) i9 wy) := Lib.hid hS9
                  have HX := Lib.hid (And.intro hx hi9)
                  clear HR hx hi9 hS9
                  simp [putAll]
                  go_wp2
                  go_roundw
                  case rel => exact ⟨k + 1, by omega, by go_num, _, _, _, Lib.hid ⟨HN.out, HS.out.2.1.addR, HS.out.2.2.1.addR (by rw [HLEN.out, ← HSE.out]; exact HX.out.1), by show (h.rooms ++ [_]).length = k + 1; rw [List.length_append, HLEN.out]; rfl, HS.out.2.2.2.2.1, by have := HS.out.2.2.2.2.2; have := HX.out.2; omega⟩⟩
                  case measure => simp [intOf]; omega
              · obtain rfl : p = k := by omega
                obtain ⟨rA, rc, hvr⟩ := row_slice HS.out.1.m.rR
                obtain ⟨wA, wc, hvw⟩ := row_slice HS.out.1.m.wR
                obtain ⟨bA2, bc2, hvb⟩ := row_slice HS.out.1.m.bR
                obtain ⟨cA, cc, hvc⟩ := row_slice HS.out.1.m.cR
                obtain ⟨wn, hwn⟩ : ∃ z, z = h.walls.length := ⟨_, rfl⟩
                obtain ⟨cn, hcn⟩ : ∃ z, z = h.crs.length := ⟨_, rfl⟩
                have hrn := HS.out.2.2.2.1
                rw [hrn] at hvr
                rw [← hwn] at hvw
                rw [← hcn] at hvc
                have HBN : Hid (h.brs.length = nb) := Lib.hid (by injection hvb with e1 e2 e3; exact e2.symm)
                clear hvb
                have HVC := Lib.hid hvc
                clear hvc
                subst hvr
                subst hvw
                have hbk := HS.out.1.m.box
                have c0 := hbk.cell 0
                have c1 := hbk.cell 1
                have c2 := hbk.cell 2
                have c3 := hbk.cell 3
                simp only [List.getElem?_toArray, List.getElem?_cons_zero, List.getElem?_cons_succ] at c0 c1 c2 c3
                have zb := hbk.lt
                have hres := HS.out.1.m.res
                have d0 := hres.cell 0
                have d1 := hres.cell 1
                have d2 := hres.cell 2
                have d3 := hres.cell 3
                simp only [List.getElem?_toArray, List.getElem?_cons_zero, List.getElem?_cons_succ] at d0 d1 d2 d3
                have zr := hres.lt
                have fr := hres.frozen
                obtain ⟨W', hW'⟩ : ∃ z, z = ((((wr.setCell ⟨rb, 0, none⟩ (.slice rA p rc)).setCell ⟨rb, 1, none⟩ (.slice wA wn wc)).setCell ⟨rb, 2, none⟩ (.slice bA nb bc)).setCell ⟨rb, 3, none⟩ (.slice none 0 0)) := ⟨_, rfl⟩
                have hkk : Keep (fun b => b = rb) wr W' := by rw [hW']; exact (((((Keep.refl (fun b => b = rb) wr).setCell rfl _).setCell rfl _).setCell rfl _).setCell rfl _)
                have hrow : Blk W' rb 28 #[.slice rA p rc, .slice wA wn wc, .slice bA nb bc, .slice none 0 0] := by
                  have h := ((((hres.set_ 0 (.slice rA p rc)).set_ 1 (.slice wA wn wc)).set_ 2 (.slice bA nb bc)).set_ 3 (.slice none 0 0))
                  rw [hW']
                  simpa using h
                have HWN := Lib.hid hwn.symm
                have HCN := Lib.hid hcn.symm
                have HRN := Lib.hid hrn
                have HFIN : Hid (MadeI w W' rA wA bA none rc wc bc 0 h) := Lib.hid (by
                  have hm := HS.out.1.m
                  have hlow : Below w.heap.size w W' := hm.low.trans (hkk.below hm.low.size (fun b e => by rw [e]; have := Zrb.out; omega))
                  have h4 : p ≤ 4 := HP.out.2
                  refine ⟨made_ok HS.out.2.1 HS.out.2.2.1 HRN.out HP.out.1 HP.out.2 HS.out.2.2.2.2.1.1 HS.out.2.2.2.2.1.2.1 HS.out.2.2.2.2.1.2.2, by rw [HRN.out]; exact HS.out.2.1, HS.out.2.2.1, by rw [HRN.out]; exact h4, HS.out.2.2.2.2.1.1, HS.out.2.2.2.2.1.2.1, HS.out.2.2.2.2.1.2.2, ?_, ?_, ?_, ?_, hlow⟩
                  · have h9 := hm.rR.kept (keep_grown hkk) (Or.inr (own_ne hm.rR hm.res (by decide)).symm)
                    simpa only [HRN.out] using h9
                  · have h9 := hm.wR.kept (keep_grown hkk) (Or.inr (own_ne hm.wR hm.res (by decide)).symm)
                    simpa only [HWN.out] using h9
                  · have h9 := hm.bR.kept (keep_grown hkk) (Or.inr (own_ne hm.bR hm.res (by decide)).symm)
                    simpa only [HBN.out] using h9
                  · have h9 := hm.cR.kept (keep_grown hkk) (Or.inr (own_ne hm.cR hm.res (by decide)).symm)
                    injection HVC.out with e1 e2 e3
                    simpa only [HCN.out, ← e2] using h9)
                have HROW := Lib.hid hrow
                clear hbk hres hkk hrow hwn hcn hrn
                go_wp2
                rw [← hW']
                refine bodyPost_ret (results_cell_row rfl _ _ rb 28 _ _ _ rfl HROW.out Try.underlying28 rfl (by kernel_rfl)) rfl ?_
                exact ⟨rA, wA, bA, none, rc, wc, bc, 0, h, by injection HVC.out with e1 e2 e3; rw [HRN.out, HWN.out, HBN.out, HCN.out, ← e2], HFIN.out⟩
          · have d1 : ((0 : Int) < (nb : Int)) := by omega
            have d2 : (0 < nb) := by omega
            have d3 : decide (0 < nb) = true := decide_eq_true d2
            have d4 : decide ((0 : Int) < (nb : Int)) = true := decide_eq_true d1
            have HNB : Hid (1 ≤ nb ∧ nb ≤ 6) := Lib.hid (by have := HM2.out; omega)
            go_wp2_with fail
            refine (KN.out 7 (by omega) _ j HS1.out.1.dig HS1.out.1.m.low (by have := HS1.out.2.2.2.2; omega)).mono ?_
            rintro e w8 ⟨m3, rfl, hm3, hk8, hd8⟩
            have HS8 := Lib.hid (HS1.out.1.turn HDB.out hk8 hd8)
            obtain ⟨m3, rfl⟩ : ∃ z : Nat, m3 = (z : Int) := ⟨m3.toNat, by omega⟩
            have HM3 : Hid (m3 ≤ 6) := Lib.hid (by omega)
            have KB := Lib.hid (KN.out (nb : Int) (by have := HNB.out; omega))
            clear hm3 hk8 hd8 b2 zb d1 d2 d3 d4
            go_wp2
            go_loopw [101] (fun i wr => ∃ k : Nat, k ≤ m3 ∧ i = .int .i64 ((k : Nat) : Int) ∧ ∃ (vc : Value) (h : Hl) (j : Nat), Hid (MhS w dB pb rb sb (.slice A n c) (.slice none 0 0) vw (.slice bA nb bc) vc h (slL p h) j wr ∧ MdH p h ∧ h.crs.length = k ∧ (h.rooms = [] ∧ h.brs.length = nb ∧ h.walls.length ≤ 6) ∧ j ≤ 70 + 6 * k)) (fun i _ => m3 - (intOf i).toNat)
            case atStart => exact ⟨0, by omega, rfl, _, h, j + 1, Lib.hid ⟨HS8.out, HS1.out.2.1, by rw [HS1.out.2.2.2.1.2.1]; rfl, ⟨HS1.out.2.2.2.1.1, HS1.out.2.2.1, HS1.out.2.2.2.1.2.2⟩, by have := HS1.out.2.2.2.2; omega⟩⟩
            clear HS1 HS8
            case round =>
              clear h j
              obtain ⟨k, hk, rfl, vc, h, j, HS⟩ := hrel
              by_cases hlt : k < m3
              · have hk1 : ((k : Nat) : Int) < ((m3 : Nat) : Int) := by omega
                have hk0 : (0 : Int) ≤ ((k : Nat) : Int) := by omega
                have HJ : Hid (j ≤ 1000) := Lib.hid (by have := HS.out.2.2.2.2; have := HM3.out; omega)
                have hk4 : k ≤ 400 := by have := HM3.out; omega
                have HK6 : Hid (k ≤ 5) := Lib.hid (by have := HM3.out; omega)
                have HLEN : Hid (h.crs.length = k) := Lib.hid HS.out.2.2.1
                have HSLB : Hid (∀ i : Int, 0 ≤ slopeF h i ∧ slopeF h i ≤ 600) := Lib.hid (HS.out.2.1.slope HS.out.2.2.2.1.2.2 (by rw [HLEN.out]; have := HK6.out; omega))
                go_wp2_with fail
                have HMX := Lib.hid HS.out.1
                refine wp_region_free10 18 (by kernel_rfl) [some 103, some 104, some 105, some 106, some 107, some 108, some 109, some 110, some 111, some 112, some 113, some 114, some 115, some 116, some 117, some 118, some 119, some 10, none] [[], [], [0, 1], [], [], [4], [5], [3, 6, 2], [], [8, 7], [], [10, 9], [], [12, 11], [13], [14], [2, 7, 9, 11, 15], [], [17, 16, 13, 0, 1, 2, 3, 4, 5, 6, 7, 8, 9, 10, 11, 12, 13, 14, 15, 16, 17]] [(3, .pointer (some ⟨dB, 0, none⟩)), (5, .int .i64 (p : Int)), (4, .pointer (some ⟨pb, 0, none⟩))] (fun W γ => wr.heap.size ≤ W.heap.size ∧ (∃ i, i ≤ j + γ 10 + γ 11 + γ 12 + γ 13 + γ 14 ∧ MhS w dB pb rb sb (.slice A n c) (.slice none 0 0) vw (.slice bA nb bc) vc h (slL p h) i W) ∧ γ 10 ≤ 1 ∧ γ 11 ≤ 1 ∧ γ 12 ≤ 1 ∧ γ 13 ≤ 1 ∧ γ 14 ≤ 1) (clPhi wr dB pb p nb (.slice bA nb bc)) (clPsi) (by kernel_rfl) (by kernel_rfl) rfl (by kernel_rfl) ?_ ?_ ⟨fun _ => 0, ⟨Nat.le_of_eq rfl, ⟨j, by simp, HS.out.1.next (Below.refl _ _).drew⟩, by simp⟩, fun i _ => by simp [clPsi]⟩ ?_ ?_
                · intro z hz
                  simp only [List.mem_cons, List.mem_nil_iff, or_false] at hz
                  rcases hz with rfl | rfl | rfl
                  all_goals exact ⟨by kernel_rfl, rfl⟩
                · intro i v W γ hi h
                  rcases i with _ | _ | _ | _ | _ | _ | _ | _ | _ | _ | _ | _ | _ | _ | _ | _ | _ | _ | _ | i
                  all_goals first | exact h | (simp at hi)
                · refine ⟨?_, ?_, ?_, ?_, ?_, ?_, ?_, ?_, ?_, ?_, ?_, ?_, ?_, ?_, ?_, ?_, ?_, ?_, ?_, trivial⟩
                  all_goals
                    intro a9 W γ ev hcc hff hfx hR hψ hpre
                    simp only [List.mem_cons, List.mem_nil_iff, or_false, forall_eq, forall_eq_or_imp] at hfx
                    obtain ⟨f0, f1, f2⟩ := hfx
                    have HR := Lib.hid hR
                    clear hR
                  · refine ⟨fun hg K hK => ?_, trivial⟩
                    clear hg
                    clear hpre hψ
                    go_simp
                    exact hK _ _ γ HR.out (fun _ _ _ _ h => h) (fun _ _ _ h => h) rfl
                  · refine ⟨fun hg K hK => ?_, trivial⟩
                    clear hg
                    clear hpre hψ
                    go_simp
                    exact hK _ _ γ HR.out (fun _ _ _ _ h => h) (fun _ _ _ h => h) rfl
                  · refine ⟨fun hg K hK => ?_, trivial⟩
                    clear hg
                    have q0 : ev (.tmp 103) = _ := hpre 0 (by decide)
                    have q1 : ev (.tmp 104) = _ := hpre 1 (by decide)
                    have h20 : γ 10 = 0 := hψ.1 rfl
                    obtain ⟨r0, ⟨i9, hi9, hS9⟩, hfl⟩ := HR.out
                    have C := Lib.hid (KP.out W i9 hS9.dig hS9.m.low (by have := HJ.out; omega))
                    have HX := Lib.hid (And.intro r0 (And.intro hi9 (And.intro hS9 hfl)))
                    clear r0 hi9 hS9 hfl hpre
                    have HP := Lib.hid hψ
                    clear hψ
                    go_simp
                    refine C.out.mono ?_
                    rintro e w7 ⟨x, rfl, hr, hk7, hb7⟩
                    obtain ⟨r0, hi9, hS9, hfl⟩ := HX.out
                    refine hK _ w7 (fun i => if i = 10 then 1 else γ i) ⟨Nat.le_trans r0 hk7.size, ⟨i9 + 1, by simp; omega, hS9.turn HDB.out hk7 hb7⟩, by simp; omega⟩ (fun j u hj hne h => clPhi_w (fun e => ⟨rfl, fun z => ⟨z, fun b cs hc => hk7.blk hc (fun e => blk_ne hc hS9.dig (by decide) e)⟩⟩) (fun e => by subst e; exact absurd (by decide) hj) h) (fun _ j h1 h2 => ?_) ⟨x, rfl, hr.1, hr.2⟩
                    refine ⟨fun e => ?_, fun e => ?_, fun e => ?_, fun e => ?_, fun e => ?_, fun e => ?_⟩
                    all_goals first | (exact absurd e h1) | (simpa using h2.1 e) | (simpa using h2.2.1 e) | (simpa using h2.2.2.1 e) | (simpa using h2.2.2.2.1 e) | (simpa using h2.2.2.2.2.1 e) | (simpa using h2.2.2.2.2.2 e)
                  · refine ⟨fun hg K hK => ?_, trivial⟩
                    clear hg
                    clear hpre hψ
                    go_simp
                    exact hK _ _ γ HR.out (fun _ _ _ _ h => h) (fun _ _ _ h => h) rfl
                  · refine ⟨fun hg K hK => ?_, trivial⟩
                    clear hg
                    clear hpre hψ
                    go_simp
                    exact hK _ _ γ HR.out (fun _ _ _ _ h => h) (fun _ _ _ h => h) rfl
                  · refine ⟨fun hg K hK => ?_, trivial⟩
                    clear hg
                    have q0 : ev (.tmp 107) = _ := hpre 4 (by decide)
                    have hbk := (HR.out.2.1).elim (fun _ z => z.2.m.box)
                    have hzg := hbk.lt
                    have e2 := hbk.cell 2
                    simp only [List.getElem?_toArray, List.getElem?_cons_zero, List.getElem?_cons_succ] at e2
                    clear hbk
                    clear hpre hψ
                    go_simp
                    exact hK _ _ γ HR.out (fun _ _ _ _ h => h) (fun _ _ _ h => h) rfl
                  · refine ⟨fun hg K hK => ?_, trivial⟩
                    clear hg
                    have q0 : ev (.tmp 108) = _ := hpre 5 (by decide)
                    clear hpre hψ
                    go_simp
                    exact hK _ _ γ HR.out (fun _ _ _ _ h => h) (fun _ _ _ h => h) rfl
                  · refine ⟨fun hg K hK => ?_, trivial⟩
                    clear hg
                    have q0 : ev (.tmp 106) = _ := hpre 3 (by decide)
                    have q1 : ev (.tmp 109) = _ := hpre 6 (by decide)
                    have h20 : γ 11 = 0 := hψ.2.1 rfl
                    obtain ⟨r0, ⟨i9, hi9, hS9⟩, hfl⟩ := HR.out
                    have C := Lib.hid (KB.out W i9 hS9.dig hS9.m.low (by have := HJ.out; omega))
                    have HX := Lib.hid (And.intro r0 (And.intro hi9 (And.intro hS9 hfl)))
                    clear r0 hi9 hS9 hfl hpre
                    have HP := Lib.hid hψ
                    clear hψ
                    go_simp
                    refine C.out.mono ?_
                    rintro e w7 ⟨x, rfl, hr, hk7, hb7⟩
                    obtain ⟨r0, hi9, hS9, hfl⟩ := HX.out
                    refine hK _ w7 (fun i => if i = 11 then 1 else γ i) ⟨Nat.le_trans r0 hk7.size, ⟨i9 + 1, by simp; omega, hS9.turn HDB.out hk7 hb7⟩, by simp; omega⟩ (fun j u hj hne h => clPhi_w (fun e => ⟨rfl, fun z => ⟨z, fun b cs hc => hk7.blk hc (fun e => blk_ne hc hS9.dig (by decide) e)⟩⟩) (fun e => by subst e; exact absurd (by decide) hj) h) (fun _ j h1 h2 => ?_) ⟨x, rfl, hr.1, hr.2⟩
                    refine ⟨fun e => ?_, fun e => ?_, fun e => ?_, fun e => ?_, fun e => ?_, fun e => ?_⟩
                    all_goals first | (exact absurd e h1) | (simpa using h2.1 e) | (simpa using h2.2.1 e) | (simpa using h2.2.2.1 e) | (simpa using h2.2.2.2.1 e) | (simpa using h2.2.2.2.2.1 e) | (simpa using h2.2.2.2.2.2 e)
                  · refine ⟨fun hg K hK => ?_, trivial⟩
                    clear hg
                    clear hpre hψ
                    go_simp
                    exact hK _ _ γ HR.out (fun _ _ _ _ h => h) (fun _ _ _ h => h) rfl
                  · refine ⟨fun hg K hK => ?_, trivial⟩
                    clear hg
                    have q0 : ev (.tmp 111) = _ := hpre 8 (by decide)
                    have h20 : γ 12 = 0 := hψ.2.2.1 rfl
                    obtain ⟨r0, ⟨i9, hi9, hS9⟩, hfl⟩ := HR.out
                    have C := Lib.hid (KN.out 60 (by omega) W i9 hS9.dig hS9.m.low (by have := HJ.out; omega))
                    have HX := Lib.hid (And.intro r0 (And.intro hi9 (And.intro hS9 hfl)))
                    clear r0 hi9 hS9 hfl hpre
                    have HP := Lib.hid hψ
                    clear hψ
                    go_simp
                    refine C.out.mono ?_
                    rintro e w7 ⟨x, rfl, hr, hk7, hb7⟩
                    obtain ⟨r0, hi9, hS9, hfl⟩ := HX.out
                    refine hK _ w7 (fun i => if i = 12 then 1 else γ i) ⟨Nat.le_trans r0 hk7.size, ⟨i9 + 1, by simp; omega, hS9.turn HDB.out hk7 hb7⟩, by simp; omega⟩ (fun j u hj hne h => clPhi_w (fun e => ⟨rfl, fun z => ⟨z, fun b cs hc => hk7.blk hc (fun e => blk_ne hc hS9.dig (by decide) e)⟩⟩) (fun e => by subst e; exact absurd (by decide) hj) h) (fun _ j h1 h2 => ?_) ⟨x, rfl, hr.1, hr.2⟩
                    refine ⟨fun e => ?_, fun e => ?_, fun e => ?_, fun e => ?_, fun e => ?_, fun e => ?_⟩
                    all_goals first | (exact absurd e h1) | (simpa using h2.1 e) | (simpa using h2.2.1 e) | (simpa using h2.2.2.1 e) | (simpa using h2.2.2.2.1 e) | (simpa using h2.2.2.2.2.1 e) | (simpa using h2.2.2.2.2.2 e)
                  · refine ⟨fun hg K hK => ?_, trivial⟩
                    clear hg
                    clear hpre hψ
                    go_simp
                    exact hK _ _ γ HR.out (fun _ _ _ _ h => h) (fun _ _ _ h => h) rfl
                  · refine ⟨fun hg K hK => ?_, trivial⟩
                    clear hg
                    have q0 : ev (.tmp 113) = _ := hpre 10 (by decide)
                    have h20 : γ 13 = 0 := hψ.2.2.2.1 rfl
                    obtain ⟨r0, ⟨i9, hi9, hS9⟩, hfl⟩ := HR.out
                    have C := Lib.hid (KN.out 200 (by omega) W i9 hS9.dig hS9.m.low (by have := HJ.out; omega))
                    have HX := Lib.hid (And.intro r0 (And.intro hi9 (And.intro hS9 hfl)))
                    clear r0 hi9 hS9 hfl hpre
                    have HP := Lib.hid hψ
                    clear hψ
                    go_simp
                    refine C.out.mono ?_
                    rintro e w7 ⟨x, rfl, hr, hk7, hb7⟩
                    obtain ⟨r0, hi9, hS9, hfl⟩ := HX.out
                    refine hK _ w7 (fun i => if i = 13 then 1 else γ i) ⟨Nat.le_trans r0 hk7.size, ⟨i9 + 1, by simp; omega, hS9.turn HDB.out hk7 hb7⟩, by simp; omega⟩ (fun j u hj hne h => clPhi_w (fun e => ⟨rfl, fun z => ⟨z, fun b cs hc => hk7.blk hc (fun e => blk_ne hc hS9.dig (by decide) e)⟩⟩) (fun e => by subst e; exact absurd (by decide) hj) h) (fun _ j h1 h2 => ?_) ⟨x, rfl, hr.1, hr.2⟩
                    refine ⟨fun e => ?_, fun e => ?_, fun e => ?_, fun e => ?_, fun e => ?_, fun e => ?_⟩
                    all_goals first | (exact absurd e h1) | (simpa using h2.1 e) | (simpa using h2.2.1 e) | (simpa using h2.2.2.1 e) | (simpa using h2.2.2.2.1 e) | (simpa using h2.2.2.2.2.1 e) | (simpa using h2.2.2.2.2.2 e)
                  · refine ⟨fun hg K hK => ?_, trivial⟩
                    clear hg
                    clear hpre hψ
                    go_simp
                    exact hK _ _ γ HR.out (fun _ _ _ _ h => h) (fun _ _ _ h => h) rfl
                  · refine ⟨fun hg K hK => ?_, trivial⟩
                    clear hg
                    have q0 : ev (.tmp 115) = _ := hpre 12 (by decide)
                    have h20 : γ 14 = 0 := hψ.2.2.2.2.1 rfl
                    obtain ⟨r0, ⟨i9, hi9, hS9⟩, hfl⟩ := HR.out
                    have C := Lib.hid (KN.out 256 (by omega) W i9 hS9.dig hS9.m.low (by have := HJ.out; omega))
                    have HX := Lib.hid (And.intro r0 (And.intro hi9 (And.intro hS9 hfl)))
                    clear r0 hi9 hS9 hfl hpre
                    have HP := Lib.hid hψ
                    clear hψ
                    go_simp
                    refine C.out.mono ?_
                    rintro e w7 ⟨x, rfl, hr, hk7, hb7⟩
                    obtain ⟨r0, hi9, hS9, hfl⟩ := HX.out
                    refine hK _ w7 (fun i => if i = 14 then 1 else γ i) ⟨Nat.le_trans r0 hk7.size, ⟨i9 + 1, by simp; omega, hS9.turn HDB.out hk7 hb7⟩, by simp; omega⟩ (fun j u hj hne h => clPhi_w (fun e => ⟨rfl, fun z => ⟨z, fun b cs hc => hk7.blk hc (fun e => blk_ne hc hS9.dig (by decide) e)⟩⟩) (fun e => by subst e; exact absurd (by decide) hj) h) (fun _ j h1 h2 => ?_) ⟨x, rfl, hr.1, hr.2⟩
                    refine ⟨fun e => ?_, fun e => ?_, fun e => ?_, fun e => ?_, fun e => ?_, fun e => ?_⟩
                    all_goals first | (exact absurd e h1) | (simpa using h2.1 e) | (simpa using h2.2.1 e) | (simpa using h2.2.2.1 e) | (simpa using h2.2.2.2.1 e) | (simpa using h2.2.2.2.2.1 e) | (simpa using h2.2.2.2.2.2 e)
                  · refine ⟨fun hg K hK => ?_, trivial⟩
                    clear hg
                    obtain ⟨r, q0, h0, h1⟩ := hpre 13 (by decide)
                    replace q0 : ev (.tmp 116) = _ := q0
                    have wm : IntKind.i64.wrap (40 * r) = 40 * r := IntWalk.i64_in _ (by omega)
                    have HQ9 : Hid (0 ≤ 40 * r ∧ 40 * r ≤ 10200) := Lib.hid (by omega)
                    clear hpre hψ h0 h1
                    go_simp
                    exact hK _ _ γ HR.out (fun _ _ _ _ h => h) (fun _ _ _ h => h) ⟨_, rfl, HQ9.out⟩
                  · refine ⟨fun hg K hK => ?_, trivial⟩
                    clear hg
                    obtain ⟨r, q0, h0, h1⟩ := hpre 14 (by decide)
                    replace q0 : ev (.tmp 117) = _ := q0
                    have wm : IntKind.i64.wrap (10000 + r) = 10000 + r := IntWalk.i64_in _ (by omega)
                    have HQ9 : Hid (10000 ≤ 10000 + r ∧ 10000 + r ≤ 20200) := Lib.hid (by omega)
                    clear hpre hψ h0 h1
                    go_simp
                    exact hK _ _ γ HR.out (fun _ _ _ _ h => h) (fun _ _ _ h => h) ⟨_, rfl, HQ9.out⟩
                  · refine ⟨fun hg K hK => ?_, trivial⟩
                    clear hg
                    obtain ⟨r0, q0, a0, b0⟩ := hpre 2 (by decide)
                    obtain ⟨r1, q1, a1, b1⟩ := hpre 7 (by decide)
                    obtain ⟨r2, q2, a2, b2⟩ := hpre 9 (by decide)
                    obtain ⟨r3, q3, a3, b3⟩ := hpre 11 (by decide)
                    obtain ⟨r4, q4, a4, b4⟩ := hpre 15 (by decide)
                    replace q0 : ev (.tmp 105) = _ := q0
                    replace q1 : ev (.tmp 110) = _ := q1
                    replace q2 : ev (.tmp 112) = _ := q2
                    replace q3 : ev (.tmp 114) = _ := q3
                    replace q4 : ev (.tmp 118) = _ := q4
                    have HQ9 : Hid (ClrOk p nb ⟨r0, r1, r2, r3, r4⟩) := Lib.hid ⟨⟨a0, b0⟩, ⟨a1, b1⟩, ⟨a2, by show r2 ≤ 59; omega⟩, ⟨a3, by show r3 ≤ 199; omega⟩, a4, b4⟩
                    clear hpre hψ a0 b0 a1 b1 a2 b2 a3 b3 a4 b4
                    go_simp
                    exact hK _ _ γ HR.out (fun _ _ _ _ h => h) (fun _ _ _ h => h) ⟨⟨r0, r1, r2, r3, r4⟩, rfl, HQ9.out⟩
                  · refine ⟨fun hg K hK => ?_, trivial⟩
                    clear hg
                    have HRW9 := HR
                    have HPS := Lib.hid hψ
                    clear hpre hψ
                    go_simp
                    obtain ⟨r0, ⟨i9, hi9, hS9⟩, hfl⟩ := HRW9.out
                    have hB5 : Below W.heap.size W (W.alloc (.cells #[.int .i64 0, .int .i64 0, .int .i64 0, .int .i64 0, .int .i64 0] 77)) := (Below.refl _ _).alloc (Nat.le_refl _) _
                    refine hK _ _ (fun i => if i = 30 then W.heap.size else γ i) ⟨Nat.le_trans r0 hB5.size, ⟨i9, by simpa using hi9, hS9.next hB5⟩, by simpa using hfl⟩ (fun j u hj hne h => clPhi_w (fun e => absurd e hne) (fun e => by subst e; exact absurd (by decide) hj) h) (fun _ _ _ h => by simpa [clPsi] using h) ⟨by simp, by simpa using r0, fun _ => heap_alloc_new W _⟩
                  · refine ⟨fun hg K hK => ?_, trivial⟩
                    clear hg
                    obtain ⟨q1, hw1, hb1⟩ := hpre 17 (by decide)
                    obtain ⟨x, q0, hx⟩ := hpre 16 (by decide)
                    replace q0 : ev (.tmp 119) = _ := q0
                    replace q1 : ev (.tmp 10) = _ := q1
                    have hb1 := hb1 (hψ.2.2.2.2.2 rfl)
                    obtain ⟨r0, ⟨i9, hi9, hS9⟩, hfl⟩ := HR.out
                    obtain ⟨bb, hbb⟩ : ∃ z, z = γ 30 := ⟨_, rfl⟩
                    rw [← hbb] at q1 hw1 hb1
                    have d0 := hb1.cell 0
                    have d1 := hb1.cell 1
                    have d2 := hb1.cell 2
                    have d3 := hb1.cell 3
                    have d4 := hb1.cell 4
                    simp only [List.getElem?_toArray, List.getElem?_cons_zero, List.getElem?_cons_succ] at d0 d1 d2 d3 d4
                    have zr := hb1.lt
                    have fr := hb1.frozen
                    obtain ⟨W', hW'⟩ : ∃ z, z = (((((W.setCell ⟨bb, 0, none⟩ (.int .i64 x.rm)).setCell ⟨bb, 1, none⟩ (.int .i64 x.br)).setCell ⟨bb, 2, none⟩ (.int .i64 x.gn)).setCell ⟨bb, 3, none⟩ (.int .i64 x.cr)).setCell ⟨bb, 4, none⟩ (.int .i64 x.sp)) := ⟨_, rfl⟩
                    have hkk : Keep (fun b => b = bb) W W' := by rw [hW']; exact ((((((Keep.refl (fun b => b = bb) W).setCell rfl _).setCell rfl _).setCell rfl _).setCell rfl _).setCell rfl _)
                    have hrow : Blk W' bb 77 #[.int .i64 x.rm, .int .i64 x.br, .int .i64 x.gn, .int .i64 x.cr, .int .i64 x.sp] := by
                      have h := (((((hb1.set_ 0 (.int .i64 x.rm)).set_ 1 (.int .i64 x.br)).set_ 2 (.int .i64 x.gn)).set_ 3 (.int .i64 x.cr)).set_ 4 (.int .i64 x.sp))
                      rw [hW']
                      simpa using h
                    have HX := Lib.hid (And.intro r0 (And.intro hi9 (And.intro (hS9.newer HMX.out hkk hw1) (And.intro hfl (And.intro hrow (And.intro hx (And.intro hbb (And.intro hkk.size hW'))))))))
                    clear hpre hψ r0 hi9 hS9 hfl hrow hx hbb hb1 hw1 hkk hW'
                    go_simp
                    obtain ⟨r0, hi9, hS9, hfl, hrow, hx, hbb, hsz, hW'⟩ := HX.out
                    rw [← hW']
                    refine hK undef _ (fun i => if i = 20 then 1 else γ i) ⟨Nat.le_trans r0 hsz, ⟨i9, by simpa using hi9, hS9⟩, by simpa using hfl⟩ (fun j u h1 h2 h3 => clPhi_w (fun e => ⟨by simp, fun z => by simp at z⟩) (fun e => absurd e h2) h3) (fun h => absurd rfl h) ⟨x, by simpa [← hbb] using hrow, hx⟩
                · intro vs wy γ hvl hR hφ
                  have q17 := hφ 17 (by decide)
                  have q18 := hφ 18 (by decide)
                  have HR := Lib.hid hR
                  clear hφ hR
                  match vs, hvl with
                  | [y0, y1, y2, y3, y4, y5, y6, y7, y8, y9, y10, y11, y12, y13, y14, y15, y16, y17, y18], _ =>
                  simp only [List.getD_cons_zero, List.getD_cons_succ] at q17 q18
                  obtain ⟨q17, hxw, _⟩ := q17
                  obtain ⟨x, hbx, hx⟩ := q18
                  obtain ⟨-, ⟨i9, hi9, hS9⟩, hfl⟩ := HR.out
                  obtain ⟨xb, hxb⟩ : ∃ z, z = γ 30 := ⟨_, rfl⟩
                  rw [← hxb] at q17 hbx
                  have HI9 : Hid (i9 ≤ j + 5) := Lib.hid (by omega)
                  have HXB := Lib.hid hbx
                  have HMS := Lib.hid hS9
                  have HCX := Lib.hid hx
                  clear HR hbx hS9 hx hi9 hfl hxw hxb
                  simp [putAll, q17]
                  obtain ⟨u, hu⟩ : ∃ z : Nat, x.rm = (z : Int) := ⟨x.rm.toNat, by have := HCX.out.1; omega⟩
                  have HU : Hid (u < p) := Lib.hid (by have := HCX.out.1; omega)
                  obtain ⟨a, ha⟩ : ∃ z, z = slopeF h (u : Int) := ⟨_, rfl⟩
                  have HA9 : Hid ((slL p h)[u]? = some a) := Lib.hid (by rw [ha]; exact slL_get HU.out)
                  have HWR : Hid (IntKind.i64.wrap (a + x.gn) = a + x.gn) := Lib.hid (IntWalk.i64_in _ (by have := HSLB.out (u : Int); have := HCX.out.2.2.1; omega))
                  have hu0 : (0 : Int) ≤ (u : Int) := by omega
                  have hun : (u : Int) < (p : Int) := by have := HU.out; omega
                  have HSL0 : Hid (a = slopeF h (u : Int)) := Lib.hid ha
                  obtain ⟨rm, br, gn, cr, sp⟩ := x
                  dsimp only at hu HWR HXB
                  subst hu
                  clear ha
                  go_wp2_with fail
                  refine wp_region_free10 9 (by kernel_rfl) [some 120, some 121, some 122, some 123, some 124, some 125, some 126, some 127, some 128, none] [[], [], [1], [0, 2], [3], [], [5], [4, 6], [0, 2, 0, 1, 2, 3, 4, 5, 6, 7], [8, 7, 0, 1, 2, 3, 4, 5, 6, 7]] [(6, .slice (some ⟨sb, 0, none⟩) p p), (10, .pointer (some ⟨xb, 0, none⟩))] (fun W γ => Blk W xb 77 #[.int .i64 (u : Int), .int .i64 br, .int .i64 gn, .int .i64 cr, .int .i64 sp] ∧ (γ 0 = 0 → MhS w dB pb rb sb (.slice A n c) (.slice none 0 0) vw (.slice bA nb bc) vc h (slL p h) (i9) W) ∧ (γ 0 ≠ 0 → MhS w dB pb rb sb (.slice A n c) (.slice none 0 0) vw (.slice bA nb bc) vc h ((slL p h).set u (a + gn)) (i9) W)) (slPhi sb xb p u 0 2 a (gn)) (fun _ _ γ => γ 0 = 0) (by kernel_rfl) (by kernel_rfl) rfl (by kernel_rfl) ?_ ?_ ⟨fun _ => 0, ⟨HXB.out.below (Below.refl _ _).drew HXB.out.lt, fun _ => HMS.out.next (Below.refl _ _).drew, fun e => absurd rfl e⟩, fun i _ => rfl⟩ ?_ ?_
                  · intro z hz
                    simp only [List.mem_cons, List.mem_nil_iff, or_false] at hz
                    rcases hz with rfl | rfl
                    all_goals exact ⟨by kernel_rfl, rfl⟩
                  · intro i v W γ hi h
                    rcases i with _ | _ | _ | _ | _ | _ | _ | _ | _ | _ | i
                    all_goals first | exact h | (simp at hi)
                  · refine ⟨?_, ?_, ?_, ?_, ?_, ?_, ?_, ?_, ?_, ?_, trivial⟩
                    all_goals
                      intro a9 W γ ev hcc hff hfx hR hψ hpre
                      simp only [List.mem_cons, List.mem_nil_iff, or_false, forall_eq, forall_eq_or_imp] at hfx
                      obtain ⟨f0, f1⟩ := hfx
                      have HR := Lib.hid hR
                      clear hR
                    · refine ⟨fun hg K hK => ?_, trivial⟩
                      clear hg
                      clear hpre hψ
                      go_simp
                      exact hK _ _ γ HR.out (fun _ _ _ _ h => h) (fun _ _ _ h => h) rfl
                    · refine ⟨fun hg K hK => ?_, trivial⟩
                      clear hg
                      clear hpre hψ
                      go_simp
                      exact hK _ _ γ HR.out (fun _ _ _ _ h => h) (fun _ _ _ h => h) rfl
                    · refine ⟨fun hg K hK => ?_, trivial⟩
                      clear hg
                      have q0 : ev (.tmp 121) = _ := hpre 1 (by decide)
                      have hbk := HR.out.1
                      have hzg := hbk.lt
                      have e0 := hbk.cell 0
                      simp only [List.getElem?_toArray, List.getElem?_cons_zero, List.getElem?_cons_succ] at e0
                      clear hbk
                      clear hpre hψ
                      go_simp
                      exact hK _ _ γ HR.out (fun _ _ _ _ h => h) (fun _ _ _ h => h) rfl
                    · refine ⟨fun hg K hK => ?_, trivial⟩
                      clear hg
                      have q0 : ev (.tmp 120) = _ := hpre 0 (by decide)
                      have q1 : ev (.tmp 122) = _ := hpre 2 (by decide)
                      clear hpre hψ
                      go_simp
                      exact hK _ _ γ HR.out (fun _ _ _ _ h => h) (fun _ _ _ h => h) rfl
                    · refine ⟨fun hg K hK => ?_, trivial⟩
                      clear hg
                      have q0 : ev (.tmp 123) = _ := hpre 3 (by decide)
                      have hlb := (HR.out.2.1 hψ).slo
                      have hzg := hlb.lt
                      have ca := hlb.intAt HA9.out
                      clear hlb
                      clear hpre hψ
                      go_simp
                      exact hK _ _ γ HR.out (fun _ _ _ _ h => h) (fun _ _ _ h => h) rfl
                    · refine ⟨fun hg K hK => ?_, trivial⟩
                      clear hg
                      clear hpre hψ
                      go_simp
                      exact hK _ _ γ HR.out (fun _ _ _ _ h => h) (fun _ _ _ h => h) rfl
                    · refine ⟨fun hg K hK => ?_, trivial⟩
                      clear hg
                      have q0 : ev (.tmp 125) = _ := hpre 5 (by decide)
                      have hbk := HR.out.1
                      have hzg := hbk.lt
                      have e2 := hbk.cell 2
                      simp only [List.getElem?_toArray, List.getElem?_cons_zero, List.getElem?_cons_succ] at e2
                      clear hbk
                      clear hpre hψ
                      go_simp
                      exact hK _ _ γ HR.out (fun _ _ _ _ h => h) (fun _ _ _ h => h) rfl
                    · refine ⟨fun hg K hK => ?_, trivial⟩
                      clear hg
                      have q0 : ev (.tmp 124) = _ := hpre 4 (by decide)
                      have q1 : ev (.tmp 126) = _ := hpre 6 (by decide)
                      have wa : IntKind.i64.wrap (a + gn) = a + gn := HWR.out
                      clear hpre hψ
                      go_simp
                      exact hK _ _ γ HR.out (fun _ _ _ _ h => h) (fun _ _ _ h => h) rfl
                    · refine ⟨fun hg K hK => ?_, trivial⟩
                      clear hg
                      have q0 : ev (.tmp 120) = _ := hpre 0 (by decide)
                      have q1 : ev (.tmp 122) = _ := hpre 2 (by decide)
                      clear hpre hψ
                      go_simp
                      exact hK _ _ γ HR.out (fun _ _ _ _ h => h) (fun _ _ _ h => h) rfl
                    · refine ⟨fun hg K hK => ?_, trivial⟩
                      clear hg
                      have q0 : ev (.tmp 127) = _ := hpre 7 (by decide)
                      have q1 : ev (.tmp 128) = _ := hpre 8 (by decide)
                      have hS9 := HR.out.2.1 hψ
                      have hlb := hS9.slo
                      have zl := hlb.lt
                      have fl9 := hlb.frozen
                      have ca := hlb.intAt HA9.out
                      have HR9 := Lib.hid (And.intro HR.out.1 hS9)
                      clear hpre hψ hlb hS9
                      go_simp
                      exact hK undef _ (fun _ => 1) ⟨HR9.out.1.far (fun e => blk_ne HR9.out.1 HR9.out.2.slo (by decide) e) _, fun e => by simp at e, fun _ => HR9.out.2.slope HSBW.out⟩ (fun j u _ hne h => slPhi_w hne h) (fun h => absurd rfl h) (by simp [slPhi])
                  · intro vs wz γ hvl hR hφ
                    have q9 := hφ 9 (by decide)
                    have HR := Lib.hid hR
                    clear hφ hR
                    match vs, hvl with
                    | [y0, y1, y2, y3, y4, y5, y6, y7, y8, y9], _ =>
                    simp only [List.getD_cons_zero, List.getD_cons_succ] at q9
                    have HXN : Hid (Blk wz xb 77 #[.int .i64 (u : Int), .int .i64 br, .int .i64 gn, .int .i64 cr, .int .i64 sp]) := Lib.hid HR.out.1
                    have HMN := Lib.hid (HR.out.2.2 (by simpa [slPhi] using q9))
                    clear HR q9
                    simp [putAll]
                    have hbk := HXN.out
                    have e0 := hbk.cell 0
                    have e1 := hbk.cell 1
                    have e2 := hbk.cell 2
                    have e3 := hbk.cell 3
                    have e4 := hbk.cell 4
                    have zx := hbk.lt
                    simp only [List.getElem?_toArray, List.getElem?_cons_zero, List.getElem?_cons_succ] at e0 e1 e2 e3 e4
                    clear hbk
                    have HSL : Hid ((slL p h).set u (a + gn) = slL p (h.addC ⟨(u : Int), br, gn, cr, sp⟩)) := Lib.hid (by rw [HSL0.out]; exact slL_clr (x := ⟨(u : Int), br, gn, cr, sp⟩) rfl HU.out)
                    have HRO : Hid (wz.ownsRow w.heap.size 77 5 vc k (h.crs.flatMap Clr.enc)) := Lib.hid (by have hr := HMN.out.m.cR; rw [HLEN.out] at hr; exact hr)
                    have hbx := HMN.out.m.box
                    have b0 := hbx.cell 3
                    have zb := hbx.lt
                    simp only [List.getElem?_toArray, List.getElem?_cons_zero, List.getElem?_cons_succ] at b0
                    have zw := HMN.out.m.low.size
                    clear hbx
                    go_wp2_with (at_builtin; refine wpList_append_own_at _ rfl (.tmp 130) (.tmp 132) 26 rfl w.heap.size 77 iC (.agg #[.int .i64 0, .int .i64 0, .int .i64 0, .int .i64 0, .int .i64 0]) 5 40 Try.underlying26 hC.out.1 hC.out.2.1 hC.out.2.2.1 hC.out.2.2.2 rfl (by decide) vc k (h.crs.flatMap Clr.enc) rfl (HRO.out.alloc _) ⟨wz.heap.size, 0, none⟩ 1 1 [.int .i64 (u : Int), .int .i64 br, .int .i64 gn, .int .i64 cr, .int .i64 sp] rfl rfl ?_ ?_ ?_ ?_ ?_ ?_)
                    case _ =>
                      intro i z hz
                      rcases i with _ | _ | _ | _ | _ | i
                      all_goals first | (simp only [List.getElem?_cons_succ, List.getElem?_cons_zero, Option.some.injEq] at hz; subst hz; simp [Addr.add, go_sem]) | (simp at hz)
                    case _ =>
                      intro z hz
                      simp only [List.mem_cons, List.mem_nil_iff, or_false] at hz
                      rcases hz with rfl | rfl | rfl | rfl | rfl <;> rfl
                    case _ => simp only [maxLen]; have := HK6.out; omega
                    case _ => have := HK6.out; omega
                    case _ => exact Nat.le_trans HMN.out.m.low.size (by simp only [World.size_alloc]; omega)
                    intro v' w8 hown hg8 _ _
                    obtain ⟨A', c', rfl⟩ := row_slice hown
                    have hM7 := HMN.out.next (W' := wz.alloc (.cells #[.int .i64 (u : Int), .int .i64 br, .int .i64 gn, .int .i64 cr, .int .i64 sp] 77)) ((Below.refl _ _).alloc (Nat.le_refl _) _)
                    rw [HSL.out] at hM7
                    have hb8 := hM7.m.box.kept hg8 (own_ne hM7.m.cR hM7.m.box (by decide))
                    have c1 := hb8.cell 3
                    have zb8 := hb8.lt
                    have fb8 := hb8.frozen
                    simp only [List.getElem?_toArray, List.getElem?_cons_zero, List.getElem?_cons_succ] at c1
                    have HM8 := Lib.hid (hM7.pushC (x := ⟨(u : Int), br, gn, cr, sp⟩) hg8 hown (by have := HLEN.out; omega) HPB.out HRP.out)
                    clear hown hg8 hM7 hb8 b0 zb zw HRO HMN
                    go_wp2
                    go_roundw
                    case rel => exact ⟨k + 1, by omega, by go_num, _, _, _, Lib.hid ⟨HM8.out, HS.out.2.1.addC (by rw [HS.out.2.2.2.1.2.1]; exact HCX.out), by show (h.crs ++ [_]).length = k + 1; rw [List.length_append, HLEN.out]; rfl, HS.out.2.2.2.1, by have := HS.out.2.2.2.2; have := HI9.out; omega⟩⟩
                    case measure => simp [intOf]; omega
              · obtain rfl : m3 = k := by omega
                have HC6 : Hid (h.crs.length ≤ 6) := Lib.hid (by rw [HS.out.2.2.1]; exact HM3.out)
                have HRM : Hid (h.rooms = []) := Lib.hid HS.out.2.2.2.1.1
                have HWL : Hid (h.walls.length ≤ 6) := Lib.hid HS.out.2.2.2.1.2.2
                have HBL : Hid (h.brs.length ≤ 6) := Lib.hid (by rw [HS.out.2.2.2.1.2.1]; exact HM2.out)
                have HMD : Hid (MdH p h) := Lib.hid HS.out.2.1
                have HSX : Hid (MhS w dB pb rb sb (.slice A n c) (.slice none 0 0) vw (.slice bA nb bc) vc h (slL p h) j wr ∧ j ≤ 120) := Lib.hid ⟨HS.out.1, by have := HS.out.2.2.2.2; have := HM3.out; omega⟩
                clear HS hlt hk
                go_wp2
                go_loopw [137] (fun i wr => ∃ k : Nat, k ≤ p ∧ i = .int .i64 ((k : Nat) : Int) ∧ ∃ (vr : Value) (h : Hl) (j : Nat), Hid (MhS w dB pb rb sb (.slice A n c) vr vw (.slice bA nb bc) (vc) h (slL p h) j wr ∧ MdH p h ∧ RmOk h ∧ h.rooms.length = k ∧ (h.walls.length ≤ 6 ∧ h.brs.length ≤ 6 ∧ h.crs.length ≤ 6) ∧ j ≤ 120 + 3 * k)) (fun i _ => p - (intOf i).toNat)
                case atStart => exact ⟨0, by omega, rfl, _, h, j, Lib.hid ⟨HSX.out.1, HMD.out, (fun i hi => by rw [HRM.out] at hi; simp at hi), by rw [HRM.out]; rfl, ⟨HWL.out, HBL.out, HC6.out⟩, by have := HSX.out.2; omega⟩⟩
                clear HSX HMD HRM HWL HBL HC6
                case round =>
                  clear h j
                  obtain ⟨k, hk, rfl, vr, h, j, HS⟩ := hrel
                  by_cases hlt : k < p
                  · have hk1 : ((k : Nat) : Int) < ((p : Nat) : Int) := by omega
                    have hk0 : (0 : Int) ≤ ((k : Nat) : Int) := by omega
                    have HJ : Hid (j ≤ 1000) := Lib.hid (by have := HS.out.2.2.2.2.2; have := HP.out; omega)
                    have hk4 : k ≤ 400 := by have := HP.out; omega
                    have HK6 : Hid (k ≤ 5) := Lib.hid (by have := HP.out; omega)
                    have HLEN : Hid (h.rooms.length = k) := Lib.hid HS.out.2.2.2.1
                    obtain ⟨s, hs⟩ : ∃ z, z = slopeF h (k : Int) := ⟨_, rfl⟩
                    have HSV : Hid (0 ≤ s ∧ s ≤ 600) := Lib.hid (by rw [hs]; exact HS.out.2.1.slope HS.out.2.2.2.2.1.1 HS.out.2.2.2.2.1.2.2 _)
                    have HA9 : Hid ((slL p h)[k]? = some s) := Lib.hid (by rw [hs]; exact slL_get hlt)
                    have HSE := Lib.hid hs
                    clear hs
                    go_wp2_with fail
                    refine wp_region_free10 21 (by kernel_rfl) [some 140, some 141, some 142, some 143, some 144, some 145, some 146, some 147, some 148, some 149, some 150, some 151, some 152, some 153, some 154, some 155, some 156, some 157, some 158, some 159, some 160, none] [[], [0], [], [], [2, 3], [4], [5], [], [7], [], [9, 8], [8, 10], [6, 11], [], [13, 10], [14], [15], [12, 16], [17], [1, 18, 14], [0, 1, 2, 3, 4, 5, 6, 7, 8, 9, 10, 11, 12, 13, 14, 15, 16, 17, 18, 19], [20, 19, 19, 0, 1, 2, 3, 4, 5, 6, 7, 8, 9, 10, 11, 12, 13, 14, 15, 16, 17, 18, 19]] [(4, .pointer (some ⟨pb, 0, none⟩)), (6, .slice (some ⟨sb, 0, none⟩) p p), (11, .int .i64 (k : Int)), (3, .pointer (some ⟨dB, 0, none⟩))] (rmR w dB pb rb sb j (.slice A n c) vr vw (.slice bA nb bc) (vc) h (slL p h)) (rmPhi w dB pb rb sb k p j (.slice A n c) vr vw (.slice bA nb bc) (vc) h (slL p h) s) (rmPsi) (by kernel_rfl) (by kernel_rfl) rfl (by kernel_rfl) ?_ ?_ ⟨fun _ => 0, ⟨fun _ => ⟨j, by simp, HS.out.1.next (Below.refl _ _).drew⟩, Or.inl rfl, by simp⟩, fun i _ => by simp [rmPsi]⟩ ?_ ?_
                    · intro z hz
                      simp only [List.mem_cons, List.mem_nil_iff, or_false] at hz
                      rcases hz with rfl | rfl | rfl | rfl
                      all_goals exact ⟨by kernel_rfl, rfl⟩
                    · intro i v W γ hi h
                      rcases i with _ | _ | _ | _ | _ | _ | _ | _ | _ | _ | _ | _ | _ | _ | _ | _ | _ | _ | _ | _ | _ | _ | i
                      all_goals first | exact h | (simp at hi)
                    · refine ⟨?_, ?_, ?_, ?_, ?_, ?_, ?_, ?_, ?_, ?_, ?_, ?_, ?_, ?_, ?_, ?_, ?_, ?_, ?_, ?_, ?_, ?_, trivial⟩
                      all_goals
                        intro a9 W γ ev hcc hff hfx hR hψ hpre
                        simp only [List.mem_cons, List.mem_nil_iff, or_false, forall_eq, forall_eq_or_imp] at hfx
                        obtain ⟨f0, f1, f2, f3⟩ := hfx
                        have HR := Lib.hid hR
                        clear hR
                      · refine ⟨fun hg K hK => ?_, trivial⟩
                        clear hg
                        clear hpre hψ
                        go_simp
                        exact hK _ _ γ HR.out (fun _ _ _ _ h => h) (fun _ _ _ h => h) rfl
                      · refine ⟨fun hg K hK => ?_, trivial⟩
                        clear hg
                        have q0 : ev (.tmp 140) = _ := hpre 0 (by decide)
                        have h20 : γ 2 = 0 := hψ.1 rfl
                        have hγ1 : γ 1 = 0 := HR.out.2.1.elim id (fun z => absurd h20 (by rw [z.1]; decide))
                        have hbk := ((HR.out.1 hγ1).elim (fun _ z => z.2.m.box))
                        have hzg := hbk.lt
                        have e2 := hbk.cell 0
                        simp only [List.getElem?_toArray, List.getElem?_cons_zero, List.getElem?_cons_succ] at e2
                        clear hbk
                        have HR9 := HR
                        have HP9 := Lib.hid hψ
                        have HG1 := Lib.hid hγ1
                        have H20 := Lib.hid h20
                        clear hpre hψ hγ1 h20
                        go_simp
                        refine hK _ _ (fun i => if i = 2 then 1 else γ i) ⟨fun z => by simpa using HR9.out.1 (by simpa using z), Or.inl (by simpa using HG1.out), by simpa using HR9.out.2.2⟩ (fun j u hj hne h => rmPhi_up (fun z hz e => by split <;> first | rfl | exact e) (fun _ z => ⟨by simpa using z, fun b cs hc => hc⟩) (fun _ z => ⟨by simpa using z, Or.inr rfl⟩) (fun _ => rfl) h) (fun _ j h1 h2 => ?_) ⟨rfl, by simp⟩
                        refine ⟨fun e => ?_, fun e => ?_, fun e => ?_, fun e => ?_, fun e => ?_, fun e => ?_, fun e => ?_, fun e => ?_⟩
                        all_goals first | (exact absurd e h1) | (simpa using h2.1 e) | (simpa using h2.2.1 e) | (simpa using h2.2.2.1 e) | (simpa using h2.2.2.2.1 e) | (simpa using h2.2.2.2.2.1 e) | (simpa using h2.2.2.2.2.2.1 e) | (simpa using h2.2.2.2.2.2.2.1 e) | (simpa using h2.2.2.2.2.2.2.2 e)
                      · refine ⟨fun hg K hK => ?_, trivial⟩
                        clear hg
                        clear hpre hψ
                        go_simp
                        exact hK _ _ γ HR.out (fun _ _ _ _ h => h) (fun _ _ _ h => h) rfl
                      · refine ⟨fun hg K hK => ?_, trivial⟩
                        clear hg
                        clear hpre hψ
                        go_simp
                        exact hK _ _ γ HR.out (fun _ _ _ _ h => h) (fun _ _ _ h => h) rfl
                      · refine ⟨fun hg K hK => ?_, trivial⟩
                        clear hg
                        have q0 : ev (.tmp 142) = _ := hpre 2 (by decide)
                        have q1 : ev (.tmp 143) = _ := hpre 3 (by decide)
                        clear hpre hψ
                        go_simp
                        exact hK _ _ γ HR.out (fun _ _ _ _ h => h) (fun _ _ _ h => h) rfl
                      · refine ⟨fun hg K hK => ?_, trivial⟩
                        clear hg
                        have q0 : ev (.tmp 144) = _ := hpre 4 (by decide)
                        have h20 : γ 3 = 0 := hψ.2.1 rfl
                        have hγ1 : γ 1 = 0 := HR.out.2.1.elim id (fun z => absurd h20 (by rw [z.2.1]; decide))
                        have hlb := ((HR.out.1 hγ1).elim (fun _ z => z.2.slo))
                        have hzg := hlb.lt
                        have ca := hlb.intAt HA9.out
                        clear hlb
                        have HR9 := HR
                        have HP9 := Lib.hid hψ
                        have HG1 := Lib.hid hγ1
                        have H20 := Lib.hid h20
                        clear hpre hψ hγ1 h20
                        go_simp
                        refine hK _ _ (fun i => if i = 3 then 1 else γ i) ⟨fun z => by simpa using HR9.out.1 (by simpa using z), Or.inl (by simpa using HG1.out), by simpa using HR9.out.2.2⟩ (fun j u hj hne h => rmPhi_up (fun z hz e => by split <;> first | rfl | exact e) (fun _ z => ⟨by simpa using z, fun b cs hc => hc⟩) (fun _ z => ⟨by simpa using z, Or.inr rfl⟩) (fun _ => rfl) h) (fun _ j h1 h2 => ?_) ⟨rfl, by simp⟩
                        refine ⟨fun e => ?_, fun e => ?_, fun e => ?_, fun e => ?_, fun e => ?_, fun e => ?_, fun e => ?_, fun e => ?_⟩
                        all_goals first | (exact absurd e h1) | (simpa using h2.1 e) | (simpa using h2.2.1 e) | (simpa using h2.2.2.1 e) | (simpa using h2.2.2.2.1 e) | (simpa using h2.2.2.2.2.1 e) | (simpa using h2.2.2.2.2.2.1 e) | (simpa using h2.2.2.2.2.2.2.1 e) | (simpa using h2.2.2.2.2.2.2.2 e)
                      · refine ⟨fun hg K hK => ?_, trivial⟩
                        clear hg
                        obtain ⟨q0, hf⟩ := hpre 5 (by decide)
                        replace q0 : ev (.tmp 145) = _ := q0
                        have wa : IntKind.i64.wrap (s + 1) = s + 1 := IntWalk.i64_in _ (by have := HSV.out; omega)
                        have HF := Lib.hid hf
                        clear hpre hψ hf
                        go_simp
                        exact hK _ _ γ HR.out (fun _ _ _ _ h => h) (fun _ _ _ h => h) ⟨rfl, HF.out⟩
                      · refine ⟨fun hg K hK => ?_, trivial⟩
                        clear hg
                        clear hpre hψ
                        go_simp
                        exact hK _ _ γ HR.out (fun _ _ _ _ h => h) (fun _ _ _ h => h) rfl
                      · refine ⟨fun hg K hK => ?_, trivial⟩
                        clear hg
                        have q0 : ev (.tmp 147) = _ := hpre 7 (by decide)
                        have h20 : γ 10 = 0 := hψ.2.2.1 rfl
                        have hγ1 : γ 1 = 0 := HR.out.2.1.elim id (fun z => absurd h20 (by rw [z.2.2.1]; decide))
                        obtain ⟨i9, hi9, hS9⟩ := HR.out.1 hγ1
                        have C := Lib.hid (KN.out 256 (by omega) W i9 hS9.dig hS9.m.low (by have := HJ.out; have := HR.out.2.2; omega))
                        have HX := Lib.hid (And.intro hi9 (And.intro hS9 (And.intro HR.out.2.2 (And.intro hγ1 h20))))
                        clear hi9 hS9 hγ1 h20 hpre
                        have HP9 := Lib.hid hψ
                        clear hψ
                        go_simp
                        refine C.out.mono ?_
                        rintro e w7 ⟨x, rfl, hr, hk7, hb7⟩
                        obtain ⟨hi9, hS9, hfl, hγ1, h20⟩ := HX.out
                        refine hK _ w7 (fun i => if i = 10 then 1 else γ i) ⟨fun _ => ⟨i9 + 1, by simp; omega, hS9.turn HDB.out hk7 hb7⟩, Or.inl (by simpa using hγ1), by simp; omega⟩ (fun j u hj hne h => rmPhi_up (fun z hz e => by split <;> first | rfl | exact e) (fun _ z => ⟨by simpa using z, fun b cs hc => hk7.blk hc (fun e => blk_ne hc hS9.dig (by decide) e)⟩) (fun _ z => ⟨by simpa using z, Or.inl (fun z => by have := z.2.2.1; omega)⟩) (fun e => by subst e; exact absurd (by decide) hj) h) (fun _ j h1 h2 => ?_) ⟨x, rfl, hr, by simp⟩
                        refine ⟨fun e => ?_, fun e => ?_, fun e => ?_, fun e => ?_, fun e => ?_, fun e => ?_, fun e => ?_, fun e => ?_⟩
                        all_goals first | (exact absurd e h1) | (simpa using h2.1 e) | (simpa using h2.2.1 e) | (simpa using h2.2.2.1 e) | (simpa using h2.2.2.2.1 e) | (simpa using h2.2.2.2.2.1 e) | (simpa using h2.2.2.2.2.2.1 e) | (simpa using h2.2.2.2.2.2.2.1 e) | (simpa using h2.2.2.2.2.2.2.2 e)
                      · refine ⟨fun hg K hK => ?_, trivial⟩
                        clear hg
                        clear hpre hψ
                        go_simp
                        exact hK _ _ γ HR.out (fun _ _ _ _ h => h) (fun _ _ _ h => h) rfl
                      · refine ⟨fun hg K hK => ?_, trivial⟩
                        clear hg
                        have q0 : ev (.tmp 149) = _ := hpre 9 (by decide)
                        have h20 : γ 11 = 0 := hψ.2.2.2.1 rfl
                        have hγ1 : γ 1 = 0 := HR.out.2.1.elim id (fun z => absurd h20 (by rw [z.2.2.2.1]; decide))
                        obtain ⟨i9, hi9, hS9⟩ := HR.out.1 hγ1
                        have C := Lib.hid (KN.out 3 (by omega) W i9 hS9.dig hS9.m.low (by have := HJ.out; have := HR.out.2.2; omega))
                        have HX := Lib.hid (And.intro hi9 (And.intro hS9 (And.intro HR.out.2.2 (And.intro hγ1 h20))))
                        clear hi9 hS9 hγ1 h20 hpre
                        have HP9 := Lib.hid hψ
                        clear hψ
                        go_simp
                        refine C.out.mono ?_
                        rintro e w7 ⟨x, rfl, hr, hk7, hb7⟩
                        obtain ⟨hi9, hS9, hfl, hγ1, h20⟩ := HX.out
                        refine hK _ w7 (fun i => if i = 11 then 1 else γ i) ⟨fun _ => ⟨i9 + 1, by simp; omega, hS9.turn HDB.out hk7 hb7⟩, Or.inl (by simpa using hγ1), by simp; omega⟩ (fun j u hj hne h => rmPhi_up (fun z hz e => by split <;> first | rfl | exact e) (fun _ z => ⟨by simpa using z, fun b cs hc => hk7.blk hc (fun e => blk_ne hc hS9.dig (by decide) e)⟩) (fun _ z => ⟨by simpa using z, Or.inl (fun z => by have := z.2.2.2.1; omega)⟩) (fun e => by subst e; exact absurd (by decide) hj) h) (fun _ j h1 h2 => ?_) ⟨x, rfl, hr, by simp⟩
                        refine ⟨fun e => ?_, fun e => ?_, fun e => ?_, fun e => ?_, fun e => ?_, fun e => ?_, fun e => ?_, fun e => ?_⟩
                        all_goals first | (exact absurd e h1) | (simpa using h2.1 e) | (simpa using h2.2.1 e) | (simpa using h2.2.2.1 e) | (simpa using h2.2.2.2.1 e) | (simpa using h2.2.2.2.2.1 e) | (simpa using h2.2.2.2.2.2.1 e) | (simpa using h2.2.2.2.2.2.2.1 e) | (simpa using h2.2.2.2.2.2.2.2 e)
                      · refine ⟨fun hg K hK => ?_, trivial⟩
                        clear hg
                        obtain ⟨r0, q0, a0, f0⟩ := hpre 8 (by decide)
                        obtain ⟨r1, q1, a1, f1⟩ := hpre 10 (by decide)
                        replace q0 : ev (.tmp 148) = _ := q0
                        replace q1 : ev (.tmp 150) = _ := q1
                        have hb0 : 0 ≤ r0 * r1 := Int.mul_nonneg a0.1 a1.1
                        have hb1 : r0 * r1 ≤ 255 * 2 := Int.mul_le_mul (by omega) (by omega) a1.1 (by omega)
                        have wa : IntKind.i64.wrap (r0 * r1) = r0 * r1 := IntWalk.i64_in _ (by omega)
                        have HF : Hid ((0 ≤ r0 * r1 ∧ r0 * r1 ≤ 510) ∧ γ 10 = 1 ∧ γ 11 = 1) := Lib.hid ⟨⟨hb0, by omega⟩, f0, f1⟩
                        clear hpre hψ a0 f0 a1 f1 hb0 hb1
                        go_simp
                        exact hK _ _ γ HR.out (fun _ _ _ _ h => h) (fun _ _ _ h => h) ⟨_, rfl, HF.out⟩
                      · refine ⟨fun hg K hK => ?_, trivial⟩
                        clear hg
                        obtain ⟨q0, f0⟩ := hpre 6 (by decide)
                        obtain ⟨r1, q1, a1, f1⟩ := hpre 11 (by decide)
                        replace q0 : ev (.tmp 146) = _ := q0
                        replace q1 : ev (.tmp 151) = _ := q1
                        have wa : IntKind.i64.wrap (s + 1 + r1) = s + 1 + r1 := IntWalk.i64_in _ (by have := HSV.out; omega)
                        have HF : Hid ((s + 1 ≤ s + 1 + r1 ∧ s + 1 + r1 ≤ s + 511) ∧ γ 3 = 1 ∧ γ 10 = 1 ∧ γ 11 = 1) := Lib.hid ⟨by omega, f0, f1⟩
                        clear hpre hψ f0 a1 f1
                        go_simp
                        exact hK _ _ γ HR.out (fun _ _ _ _ h => h) (fun _ _ _ h => h) ⟨_, rfl, HF.out⟩
                      · refine ⟨fun hg K hK => ?_, trivial⟩
                        clear hg
                        clear hpre hψ
                        go_simp
                        exact hK _ _ γ HR.out (fun _ _ _ _ h => h) (fun _ _ _ h => h) rfl
                      · refine ⟨fun hg K hK => ?_, trivial⟩
                        clear hg
                        have q0 : ev (.tmp 153) = _ := hpre 13 (by decide)
                        have h20 : γ 12 = 0 := hψ.2.2.2.2.1 rfl
                        have hγ1 : γ 1 = 0 := HR.out.2.1.elim id (fun z => absurd h20 (by rw [z.2.2.2.2.1]; decide))
                        obtain ⟨i9, hi9, hS9⟩ := HR.out.1 hγ1
                        have C := Lib.hid (KN.out 256 (by omega) W i9 hS9.dig hS9.m.low (by have := HJ.out; have := HR.out.2.2; omega))
                        have HX := Lib.hid (And.intro hi9 (And.intro hS9 (And.intro HR.out.2.2 (And.intro hγ1 h20))))
                        clear hi9 hS9 hγ1 h20 hpre
                        have HP9 := Lib.hid hψ
                        clear hψ
                        go_simp
                        refine C.out.mono ?_
                        rintro e w7 ⟨x, rfl, hr, hk7, hb7⟩
                        obtain ⟨hi9, hS9, hfl, hγ1, h20⟩ := HX.out
                        refine hK _ w7 (fun i => if i = 12 then 1 else γ i) ⟨fun _ => ⟨i9 + 1, by simp; omega, hS9.turn HDB.out hk7 hb7⟩, Or.inl (by simpa using hγ1), by simp; omega⟩ (fun j u hj hne h => rmPhi_up (fun z hz e => by split <;> first | rfl | exact e) (fun _ z => ⟨by simpa using z, fun b cs hc => hk7.blk hc (fun e => blk_ne hc hS9.dig (by decide) e)⟩) (fun _ z => ⟨by simpa using z, Or.inl (fun z => by have := z.2.2.2.2.1; omega)⟩) (fun e => by subst e; exact absurd (by decide) hj) h) (fun _ j h1 h2 => ?_) ⟨x, rfl, hr, by simp⟩
                        refine ⟨fun e => ?_, fun e => ?_, fun e => ?_, fun e => ?_, fun e => ?_, fun e => ?_, fun e => ?_, fun e => ?_⟩
                        all_goals first | (exact absurd e h1) | (simpa using h2.1 e) | (simpa using h2.2.1 e) | (simpa using h2.2.2.1 e) | (simpa using h2.2.2.2.1 e) | (simpa using h2.2.2.2.2.1 e) | (simpa using h2.2.2.2.2.2.1 e) | (simpa using h2.2.2.2.2.2.2.1 e) | (simpa using h2.2.2.2.2.2.2.2 e)
                      · refine ⟨fun hg K hK => ?_, trivial⟩
                        clear hg
                        obtain ⟨r, q0, a0, f0⟩ := hpre 14 (by decide)
                        replace q0 : ev (.tmp 154) = _ := q0
                        have wa : IntKind.i64.wrap (80 * r) = 80 * r := IntWalk.i64_in _ (by omega)
                        have HF : Hid ((0 ≤ 80 * r ∧ 80 * r ≤ 20400) ∧ γ 12 = 1) := Lib.hid ⟨by omega, f0⟩
                        clear hpre hψ a0 f0
                        go_simp
                        exact hK _ _ γ HR.out (fun _ _ _ _ h => h) (fun _ _ _ h => h) ⟨_, rfl, HF.out⟩
                      · refine ⟨fun hg K hK => ?_, trivial⟩
                        clear hg
                        obtain ⟨r, q0, a0, f0⟩ := hpre 15 (by decide)
                        replace q0 : ev (.tmp 155) = _ := q0
                        have wa : IntKind.i64.wrap (20000 + r) = 20000 + r := IntWalk.i64_in _ (by omega)
                        have HF : Hid ((20000 ≤ 20000 + r ∧ 20000 + r ≤ 40400) ∧ γ 12 = 1) := Lib.hid ⟨by omega, f0⟩
                        clear hpre hψ a0 f0
                        go_simp
                        exact hK _ _ γ HR.out (fun _ _ _ _ h => h) (fun _ _ _ h => h) ⟨_, rfl, HF.out⟩
                      · refine ⟨fun hg K hK => ?_, trivial⟩
                        clear hg
                        obtain ⟨r0, q0, a0, f0⟩ := hpre 12 (by decide)
                        obtain ⟨r1, q1, a1, f1⟩ := hpre 16 (by decide)
                        replace q0 : ev (.tmp 152) = _ := q0
                        replace q1 : ev (.tmp 156) = _ := q1
                        have HF : Hid (RomOk s ⟨r0, r1⟩ ∧ γ 3 = 1 ∧ γ 10 = 1 ∧ γ 11 = 1 ∧ γ 12 = 1) := Lib.hid ⟨⟨a0, a1⟩, f0.1, f0.2.1, f0.2.2, f1⟩
                        clear hpre hψ a0 f0 a1 f1
                        go_simp
                        exact hK _ _ γ HR.out (fun _ _ _ _ h => h) (fun _ _ _ h => h) ⟨⟨r0, r1⟩, rfl, HF.out⟩
                      · refine ⟨fun hg K hK => ?_, trivial⟩
                        clear hg
                        have h20 : γ 13 = 0 := hψ.2.2.2.2.2.1 rfl
                        have hγ1 : γ 1 = 0 := HR.out.2.1.elim id (fun z => absurd h20 (by rw [z.2.2.2.2.2]; decide))
                        obtain ⟨x, q0, hx, hf⟩ := hpre 17 (by decide)
                        replace q0 : ev (.tmp 157) = _ := q0
                        have HRW9 := HR
                        have HF := Lib.hid (And.intro hx (And.intro hf hγ1))
                        have HP9 := Lib.hid hψ
                        clear hpre hψ hx hf h20 hγ1
                        go_simp
                        obtain ⟨hx, hf, hγ1⟩ := HF.out
                        obtain ⟨i9, hi9, hS9⟩ := HRW9.out.1 hγ1
                        have hB5 : Below W.heap.size W (W.alloc (.cells #[.int .i64 x.st, .int .i64 x.lim] 61)) := (Below.refl _ _).alloc (Nat.le_refl _) _
                        refine hK _ _ (fun i => if i = 13 then 1 else γ i) ⟨fun _ => ⟨i9, by simpa using hi9, hS9.next hB5⟩, Or.inl (by simpa using hγ1), by simpa using HRW9.out.2.2⟩ (fun j u hj hne h => rmPhi_up (fun z hz e => by split <;> first | rfl | exact e) (fun e => absurd e hne) (fun e => by subst e; exact absurd (by decide) hj) (fun e => by subst e; exact absurd (by decide) hj) h) (fun _ j h1 h2 => ?_) ⟨W.heap.size, x, rfl, hx, ⟨hf.1, hf.2.1, hf.2.2.1, hf.2.2.2, rfl⟩, fun _ => heap_alloc_new W _⟩
                        refine ⟨fun e => ?_, fun e => ?_, fun e => ?_, fun e => ?_, fun e => ?_, fun e => ?_, fun e => ?_, fun e => ?_⟩
                        all_goals first | (exact absurd e h1) | (simpa using h2.1 e) | (simpa using h2.2.1 e) | (simpa using h2.2.2.1 e) | (simpa using h2.2.2.2.1 e) | (simpa using h2.2.2.2.2.1 e) | (simpa using h2.2.2.2.2.2.1 e) | (simpa using h2.2.2.2.2.2.2.1 e) | (simpa using h2.2.2.2.2.2.2.2 e)
                      · refine ⟨fun hg K hK => ?_, trivial⟩
                        clear hg
                        have hγ1 : γ 1 = 0 := hψ.2.2.2.2.2.2.1 rfl
                        obtain ⟨q5, f2⟩ := hpre 1 (by decide)
                        obtain ⟨b1, x, q6, hx, hf, hb1⟩ := hpre 18 (by decide)
                        replace q5 : ev (.tmp 141) = _ := q5
                        replace q6 : ev (.tmp 158) = _ := q6
                        have hb1 := hb1 hγ1
                        obtain ⟨i9, hi9, hS9⟩ := HR.out.1 hγ1
                        have hrow := hS9.m.rR
                        rw [HLEN.out] at hrow
                        obtain ⟨v', W', hr, h2, h3, _, _⟩ := run_append_own_at (P := Try.prog) W w.heap.size 23 23 61 iR (.agg #[.int .i64 0, .int .i64 0]) 2 16 Try.underlying23 hR.out.1 hR.out.2.1 hR.out.2.2.1 hR.out.2.2.2 rfl (by decide) vr k (h.rooms.flatMap Rom.enc) hrow ⟨b1, 0, none⟩ 1 1 [.int .i64 x.st, .int .i64 x.lim] rfl (fun j u hj => by
                          rw [add0, Blk.cell hb1]
                          simpa using hj) (by intro u hu; simp only [List.mem_cons, List.mem_nil_iff, or_false] at hu; rcases hu with rfl | rfl <;> rfl) (by have := HK6.out; simp only [maxLen]; omega) (by have := HK6.out; omega) hS9.m.low.size
                        unfold execOp
                        simp only [resolve, invoke, builtin, Sem.run_bind, Sem.run_pure, Result.andThen_ok, List.map_toArray, List.map_cons, List.map_nil, q5, q6, hr]
                        obtain ⟨A', c', e'⟩ := row_slice h2
                        subst e'
                        have hall : rmAll γ := ⟨f2, hf⟩
                        refine hK _ W' (fun i => if i = 1 then 1 else γ i) ⟨fun e => by simp at e, Or.inr (by simpa [rmAll] using hall), by simpa using HR.out.2.2⟩ (fun j u hj hne h => rmPhi_up (fun z hz e => by split <;> first | rfl | exact e) (fun _ z => by simp at z) (fun e => absurd e hne) (fun e => by subst e; exact absurd (by decide) hj) h) (fun _ j h1 h2 => ?_) ⟨A', c', x, rfl, hx, by simpa [rmAll] using hall, fun _ => ⟨W, i9, by have := HR.out.2.2; omega, hS9, h3, h2⟩⟩
                        refine ⟨fun e => ?_, fun e => ?_, fun e => ?_, fun e => ?_, fun e => ?_, fun e => ?_, fun e => ?_, fun e => ?_⟩
                        all_goals first | (exact absurd e h1) | (simpa using h2.1 e) | (simpa using h2.2.1 e) | (simpa using h2.2.2.1 e) | (simpa using h2.2.2.2.1 e) | (simpa using h2.2.2.2.2.1 e) | (simpa using h2.2.2.2.2.2.1 e) | (simpa using h2.2.2.2.2.2.2.1 e) | (simpa using h2.2.2.2.2.2.2.2 e)
                      · refine ⟨fun hg K hK => ?_, trivial⟩
                        clear hg
                        clear hpre hψ
                        go_simp
                        exact hK _ _ γ HR.out (fun _ _ _ _ h => h) (fun _ _ _ h => h) rfl
                      · refine ⟨fun hg K hK => ?_, trivial⟩
                        clear hg
                        have q0 : ev (.tmp 160) = _ := hpre 20 (by decide)
                        obtain ⟨A9, c8, x, q7, hx, hall, hg⟩ := hpre 19 (by decide)
                        obtain ⟨W0, i9, hi9, hS9, hg9, hrow⟩ := hg (hψ.2.2.2.2.2.2.2 rfl)
                        replace q7 : ev (.tmp 159) = _ := q7
                        have hbx := hS9.m.box.kept hg9 (own_ne hS9.m.rR hS9.m.box (by decide))
                        have hzx := hbx.lt
                        have fz := hbx.frozen
                        have c4 := hbx.cell 0
                        simp only [List.getElem?_toArray, List.getElem?_cons_zero, List.getElem?_cons_succ] at c4
                        have HX := Lib.hid (And.intro hx (And.intro hi9 (And.intro hS9 (And.intro hg9 (And.intro hrow hall)))))
                        have HFL := Lib.hid HR.out.2.2
                        clear hpre hbx hrow hx hi9 hS9 hg9 hall hψ HR
                        go_simp
                        obtain ⟨hx, hi9, hS9, hg9, hrow, hall⟩ := HX.out
                        refine hK undef _ (fun i => if i = 1 ∨ i = 20 then 1 else γ i) ⟨fun e => by simp at e, Or.inr (by simpa [rmAll] using hall), by simpa using HFL.out⟩ (fun j u h1 h2 h3 => rmPhi_up (fun z hz e => by split <;> first | rfl | exact e) (fun _ z => by simp at z) (fun _ z => by simp at z) (fun e => absurd e h2) h3) (fun h => absurd rfl h) ⟨A9, c8, x, i9, hx, hi9, hS9.pushR hg9 hrow (by rw [HLEN.out]) HPB.out HRP.out⟩
                    · intro vs wy γ hvl hR hφ
                      have q21 := hφ 21 (by decide)
                      have HR := Lib.hid hR
                      clear hφ hR
                      match vs, hvl with
                      | [y0, y1, y2, y3, y4, y5, y6, y7, y8, y9, y10, y11, y12, y13, y14, y15, y16, y17, y18, y19, y20, y21], _ =>
                      simp only [List.getD_cons_zero, List.getD_cons_succ] at q21
                      obtain ⟨A9, c9, x, i9, hx, hi9, hS9⟩ := q21
                      have HN : Hid (MhS w dB pb rb sb (.slice A n c) (.slice A9 (k + 1) c9) vw (.slice bA nb bc) (vc) (h.addR x) (slL p (h.addR x)) i9 wy) := Lib.hid hS9
                      have HX := Lib.hid (And.intro hx hi9)
                      clear HR hx hi9 hS9
                      simp [putAll]
                      go_wp2
                      go_roundw
                      case rel => exact ⟨k + 1, by omega, by go_num, _, _, _, Lib.hid ⟨HN.out, HS.out.2.1.addR, HS.out.2.2.1.addR (by rw [HLEN.out, ← HSE.out]; exact HX.out.1), by show (h.rooms ++ [_]).length = k + 1; rw [List.length_append, HLEN.out]; rfl, HS.out.2.2.2.2.1, by have := HS.out.2.2.2.2.2; have := HX.out.2; omega⟩⟩
                      case measure => simp [intOf]; omega
                  · obtain rfl : p = k := by omega
                    obtain ⟨rA, rc, hvr⟩ := row_slice HS.out.1.m.rR
                    obtain ⟨wA, wc, hvw⟩ := row_slice HS.out.1.m.wR
                    obtain ⟨bA2, bc2, hvb⟩ := row_slice HS.out.1.m.bR
                    obtain ⟨cA, cc, hvc⟩ := row_slice HS.out.1.m.cR
                    obtain ⟨wn, hwn⟩ : ∃ z, z = h.walls.length := ⟨_, rfl⟩
                    obtain ⟨cn, hcn⟩ : ∃ z, z = h.crs.length := ⟨_, rfl⟩
                    have hrn := HS.out.2.2.2.1
                    rw [hrn] at hvr
                    rw [← hwn] at hvw
                    rw [← hcn] at hvc
                    have HBN : Hid (h.brs.length = nb) := Lib.hid (by injection hvb with e1 e2 e3; exact e2.symm)
                    clear hvb
                    subst hvc
                    subst hvr
                    subst hvw
                    have hbk := HS.out.1.m.box
                    have c0 := hbk.cell 0
                    have c1 := hbk.cell 1
                    have c2 := hbk.cell 2
                    have c3 := hbk.cell 3
                    simp only [List.getElem?_toArray, List.getElem?_cons_zero, List.getElem?_cons_succ] at c0 c1 c2 c3
                    have zb := hbk.lt
                    have hres := HS.out.1.m.res
                    have d0 := hres.cell 0
                    have d1 := hres.cell 1
                    have d2 := hres.cell 2
                    have d3 := hres.cell 3
                    simp only [List.getElem?_toArray, List.getElem?_cons_zero, List.getElem?_cons_succ] at d0 d1 d2 d3
                    have zr := hres.lt
                    have fr := hres.frozen
                    obtain ⟨W', hW'⟩ : ∃ z, z = ((((wr.setCell ⟨rb, 0, none⟩ (.slice rA p rc)).setCell ⟨rb, 1, none⟩ (.slice wA wn wc)).setCell ⟨rb, 2, none⟩ (.slice bA nb bc)).setCell ⟨rb, 3, none⟩ (.slice cA cn cc)) := ⟨_, rfl⟩
                    have hkk : Keep (fun b => b = rb) wr W' := by rw [hW']; exact (((((Keep.refl (fun b => b = rb) wr).setCell rfl _).setCell rfl _).setCell rfl _).setCell rfl _)
                    have hrow : Blk W' rb 28 #[.slice rA p rc, .slice wA wn wc, .slice bA nb bc, .slice cA cn cc] := by
                      have h := ((((hres.set_ 0 (.slice rA p rc)).set_ 1 (.slice wA wn wc)).set_ 2 (.slice bA nb bc)).set_ 3 (.slice cA cn cc))
                      rw [hW']
                      simpa using h
                    have HWN := Lib.hid hwn.symm
                    have HCN := Lib.hid hcn.symm
                    have HRN := Lib.hid hrn
                    have HFIN : Hid (MadeI w W' rA wA bA cA rc wc bc cc h) := Lib.hid (by
                      have hm := HS.out.1.m
                      have hlow : Below w.heap.size w W' := hm.low.trans (hkk.below hm.low.size (fun b e => by rw [e]; have := Zrb.out; omega))
                      have h4 : p ≤ 4 := HP.out.2
                      refine ⟨made_ok HS.out.2.1 HS.out.2.2.1 HRN.out HP.out.1 HP.out.2 HS.out.2.2.2.2.1.1 HS.out.2.2.2.2.1.2.1 HS.out.2.2.2.2.1.2.2, by rw [HRN.out]; exact HS.out.2.1, HS.out.2.2.1, by rw [HRN.out]; exact h4, HS.out.2.2.2.2.1.1, HS.out.2.2.2.2.1.2.1, HS.out.2.2.2.2.1.2.2, ?_, ?_, ?_, ?_, hlow⟩
                      · have h9 := hm.rR.kept (keep_grown hkk) (Or.inr (own_ne hm.rR hm.res (by decide)).symm)
                        simpa only [HRN.out] using h9
                      · have h9 := hm.wR.kept (keep_grown hkk) (Or.inr (own_ne hm.wR hm.res (by decide)).symm)
                        simpa only [HWN.out] using h9
                      · have h9 := hm.bR.kept (keep_grown hkk) (Or.inr (own_ne hm.bR hm.res (by decide)).symm)
                        simpa only [HBN.out] using h9
                      · have h9 := hm.cR.kept (keep_grown hkk) (Or.inr (own_ne hm.cR hm.res (by decide)).symm)
                        simpa only [HCN.out] using h9)
                    have HROW := Lib.hid hrow
                    clear hbk hres hkk hrow hwn hcn hrn
                    go_wp2
                    rw [← hW']
                    refine bodyPost_ret (results_cell_row rfl _ _ rb 28 _ _ _ rfl HROW.out Try.underlying28 rfl (by kernel_rfl)) rfl ?_
                    exact ⟨rA, wA, bA, cA, rc, wc, bc, cc, h, by rw [HRN.out, HWN.out, HBN.out, HCN.out], HFIN.out⟩
end Go.Proofs.Ytldbciflpnhfpaa
