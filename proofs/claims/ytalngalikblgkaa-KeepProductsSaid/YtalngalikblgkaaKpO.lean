/- KeepProducts: the law. -/
import Derived.Test.YtalngalikblgkaaKpT
import Derived.Test.YtalngalikblgkaaKpU

set_option linter.unusedSimpArgs false
set_option linter.unusedVariables false
namespace Go.Proofs.Ytalngalikblgkaa
open Go.RowKit

/-- What Without returns. -/
def woQ (g : Gm) (u : Nat) (v : Value) (W : World) : Prop := 2 ≤ g.C → ∃ A n c ib ic, v = .agg #[.int .i64 (g.S : Int), .int .i64 ((g.C : Int) - 1), .int .i64 (g.H : Int), .slice A n c, .slice (some ⟨ib, 0, none⟩) g.S ic] ∧ GmIn W W.heap.size ⟨A, some ⟨ib, 0, none⟩, n, c, g.S, ic⟩ (lessG g u)
/-- Behind the call, and whatever is written elsewhere. -/
def woF (g : Gm) (u lo hi : Nat) (v : Value) (W : World) : Prop := ∀ W', Keep (fun b => b < lo ∨ hi ≤ b) W W' → woQ g u v W'
theorem woF.next {g : Gm} {u lo hi : Nat} {v : Value} {W W' : World} (h : woF g u lo hi v W) (hk : Keep (fun b => b < lo ∨ hi ≤ b) W W') : woF g u lo hi v W' := fun W2 h2 => h W2 (hk.trans h2)
def woErr (g : Gm) : Int := if g.C = 1 then 2 else 0
theorem without_law (nA gA : Option Addr) (nn nc gc : Nat) (g : Gm) (u : Nat) (w : World) (hin : GmIn w w.heap.size ⟨nA, gA, nn, nc, g.S, gc⟩ g) (ok : GmOk g) (hu : u < g.C) :
    Calls Try.prog 16 #[.agg #[.int .i64 (g.S : Int), .int .i64 (g.C : Int), .int .i64 (g.H : Int), .slice nA nn nc, .slice gA g.S gc], .int .i64 (u : Int)] w fun e w' => ∃ c0 c1 c2 c3 m3 k3 c4 m4 k4, e = .returned (.tuple #[.agg #[.int .i64 c0, .int .i64 c1, .int .i64 c2, .slice c3 m3 k3, .slice c4 m4 k4], .int .i64 (woErr g)]) ∧ woF g u w.heap.size w'.heap.size (.agg #[.int .i64 c0, .int .i64 c1, .int .i64 c2, .slice c3 m3 k3, .slice c4 m4 k4]) w' ∧ Below w.heap.size w w' := by
  by_cases h2 : 2 ≤ g.C
  · have he : woErr g = 0 := if_neg (by omega)
    rw [he]
    refine (Without_keep nA gA nn nc gc g u w hin ok hu h2).mono ?_
    rintro e w' ⟨A, n, c, ib, ic, rfl, h1, h3, hB⟩
    exact ⟨_, _, _, _, _, _, _, _, _, rfl, fun W' hk _ => ⟨A, n, c, ib, ic, rfl, h3 W' (fun b => b < w.heap.size) ⟨hk.os, hk.tape, hk.output, hk.size, fun k hkk hn => hk.block k hkk (fun e => by rcases e with e | e; exact hn e; omega)⟩ (fun b e => e)⟩, hB⟩
  · have h1 : g.C = 1 := by have := ok.c0; omega
    have he : woErr g = 2 := if_pos h1
    rw [he]
    refine (Without_one nA gA nn nc gc g u w hin ok hu h1).mono ?_
    rintro e w' ⟨rfl, hB⟩
    exact ⟨_, _, _, _, _, _, _, _, _, rfl, fun W' hk h => absurd h h2, hB⟩
def woR (X : World) (W : World) (γ : Nat → Nat) : Prop := Below X.heap.size X W ∧ γ 2 ≤ W.heap.size
def woPhi (X : World) (g : Gm) (u qa : Nat) (x : Int) (a5 : Value) : Nat → Value → World → (Nat → Nat) → Prop
  | 0, v, _, _ => v = a5
  | 1, v, _, _ => v = .int .u8 x
  | 2, v, _, _ => v = .int .i64 x
  | 3, v, _, _ => v = .pointer (some ⟨qa, 1, none⟩)
  | 4, v, _, _ => v = .int .i64 (g.C : Int)
  | 5, v, _, _ => v = .int .i64 (u : Int)
  | 6, v, W, γ => ∃ c0 c1 c2 c3 m3 k3 c4 m4 k4, v = .tuple #[.agg #[.int .i64 c0, .int .i64 c1, .int .i64 c2, .slice c3 m3 k3, .slice c4 m4 k4], .int .i64 (woErr g)] ∧ γ 3 = 1 ∧ woF g u (γ 1) (γ 2) (.agg #[.int .i64 c0, .int .i64 c1, .int .i64 c2, .slice c3 m3 k3, .slice c4 m4 k4]) W
  | 7, v, W, γ => ∃ c0 c1 c2 c3 m3 k3 c4 m4 k4, v = .tuple #[.agg #[.int .i64 c0, .int .i64 c1, .int .i64 c2, .slice c3 m3 k3, .slice c4 m4 k4], .int .i64 (woErr g)] ∧ γ 3 = 1 ∧ woF g u (γ 1) (γ 2) (.agg #[.int .i64 c0, .int .i64 c1, .int .i64 c2, .slice c3 m3 k3, .slice c4 m4 k4]) W
  | 8, v, W, γ => ∃ c0 c1 c2 c3 m3 k3 c4 m4 k4, v = .agg #[.int .i64 c0, .int .i64 c1, .int .i64 c2, .slice c3 m3 k3, .slice c4 m4 k4] ∧ γ 3 = 1 ∧ woF g u (γ 1) (γ 2) (.agg #[.int .i64 c0, .int .i64 c1, .int .i64 c2, .slice c3 m3 k3, .slice c4 m4 k4]) W
  | 9, v, _, _ => v = .int .i64 (woErr g)
  | 10, v, W, γ => v = .pointer (some ⟨γ 0, 0, none⟩) ∧ X.heap.size ≤ γ 0 ∧ (γ 0 < γ 1 ∨ γ 2 ≤ γ 0) ∧ ∃ x0 x1 x2 x3 x4 : Value, Blk W (γ 0) 25 #[x0, x1, x2, x3, x4]
  | 11, _, W, γ => ∃ c0 c1 c2 c3 m3 k3 c4 m4 k4, Blk W (γ 0) 25 #[.int .i64 c0, .int .i64 c1, .int .i64 c2, .slice c3 m3 k3, .slice c4 m4 k4] ∧ woF g u (γ 1) (γ 2) (.agg #[.int .i64 c0, .int .i64 c1, .int .i64 c2, .slice c3 m3 k3, .slice c4 m4 k4]) W
  | 12, v, _, _ => v = .int .i64 (woErr g)
  | _, _, _, _ => True
section
variable {X : World} {g : Gm} {u qa : Nat} {x : Int} {a5 : Value} {j : Nat} {v : Value} {W W' : World} {γ γ' : Nat → Nat}
theorem woPhi_next (hz : γ 2 ≤ W.heap.size) (hb : Below W.heap.size W W') (h : woPhi X g u qa x a5 j v W γ) : woPhi X g u qa x a5 j v W' γ := by
  have hk : Keep (fun b => b < γ 1 ∨ γ 2 ≤ b) W W' := Keep.of_below hb
  unfold woPhi at h ⊢
  split at h
  all_goals first | exact h | trivial | skip
  · obtain ⟨c0, c1, c2, c3, m3, k3, c4, m4, k4, e, h3, hf⟩ := h; exact ⟨c0, c1, c2, c3, m3, k3, c4, m4, k4, e, h3, hf.next hk⟩
  · obtain ⟨c0, c1, c2, c3, m3, k3, c4, m4, k4, e, h3, hf⟩ := h; exact ⟨c0, c1, c2, c3, m3, k3, c4, m4, k4, e, h3, hf.next hk⟩
  · obtain ⟨c0, c1, c2, c3, m3, k3, c4, m4, k4, e, h3, hf⟩ := h; exact ⟨c0, c1, c2, c3, m3, k3, c4, m4, k4, e, h3, hf.next hk⟩
  · obtain ⟨e, h1, h2, x0, x1, x2, x3, x4, hf⟩ := h; exact ⟨e, h1, h2, x0, x1, x2, x3, x4, hf.below hb hf.lt⟩
  · obtain ⟨c0, c1, c2, c3, m3, k3, c4, m4, k4, e, hf⟩ := h; exact ⟨c0, c1, c2, c3, m3, k3, c4, m4, k4, e.below hb e.lt, hf.next hk⟩
/-- The call: nothing that hangs on it is done. -/
theorem woPhi_call (hb : Below W.heap.size W W') (h3 : γ 3 = 0) (h11 : j ≠ 11) (h0 : γ' 0 = γ 0) (h1 : γ' 1 = W.heap.size) (h : woPhi X g u qa x a5 j v W γ) : woPhi X g u qa x a5 j v W' γ' := by
  unfold woPhi at h ⊢
  split at h
  all_goals first | exact h | trivial | exact absurd rfl h11 | skip
  · obtain ⟨c0, c1, c2, c3, m3, k3, c4, m4, k4, e, h3', hf⟩ := h; omega
  · obtain ⟨c0, c1, c2, c3, m3, k3, c4, m4, k4, e, h3', hf⟩ := h; omega
  · obtain ⟨c0, c1, c2, c3, m3, k3, c4, m4, k4, e, h3', hf⟩ := h; omega
  · obtain ⟨e, h1', h2, x0, x1, x2, x3, x4, hf⟩ := h
    rw [h0, h1]
    exact ⟨e, h1', Or.inl hf.lt, x0, x1, x2, x3, x4, hf.below hb hf.lt⟩
theorem woPhi_new (hk : Keep (fun b => b < γ 1 ∨ γ 2 ≤ b) W W') (h10 : j ≠ 10) (h11 : j ≠ 11) (h1 : γ' 1 = γ 1) (h2 : γ' 2 = γ 2) (h3 : γ' 3 = γ 3) (h : woPhi X g u qa x a5 j v W γ) : woPhi X g u qa x a5 j v W' γ' := by
  unfold woPhi at h ⊢
  split at h
  all_goals first | exact h | trivial | exact absurd rfl h10 | exact absurd rfl h11 | skip
  · obtain ⟨c0, c1, c2, c3, m3, k3, c4, m4, k4, e, h4, hf⟩ := h; exact ⟨c0, c1, c2, c3, m3, k3, c4, m4, k4, e, by rw [h3]; exact h4, by rw [h1, h2]; exact hf.next hk⟩
  · obtain ⟨c0, c1, c2, c3, m3, k3, c4, m4, k4, e, h4, hf⟩ := h; exact ⟨c0, c1, c2, c3, m3, k3, c4, m4, k4, e, by rw [h3]; exact h4, by rw [h1, h2]; exact hf.next hk⟩
  · obtain ⟨c0, c1, c2, c3, m3, k3, c4, m4, k4, e, h4, hf⟩ := h; exact ⟨c0, c1, c2, c3, m3, k3, c4, m4, k4, e, by rw [h3]; exact h4, by rw [h1, h2]; exact hf.next hk⟩
theorem woPhi_store {y0 y1 y2 y3 y4 : Value} (hk : Keep (fun b => b = γ 0) W W') (hl : γ 0 < γ 1 ∨ γ 2 ≤ γ 0) (hb : Blk W' (γ 0) 25 #[y0, y1, y2, y3, y4]) (h11 : j ≠ 11) (h : woPhi X g u qa x a5 j v W γ) : woPhi X g u qa x a5 j v W' γ := by
  have hk2 : Keep (fun b => b < γ 1 ∨ γ 2 ≤ b) W W' := hk.mono (fun b e => by rw [e]; exact hl)
  unfold woPhi at h ⊢
  split at h
  all_goals first | exact h | trivial | exact absurd rfl h11 | skip
  · obtain ⟨c0, c1, c2, c3, m3, k3, c4, m4, k4, e, h3, hf⟩ := h; exact ⟨c0, c1, c2, c3, m3, k3, c4, m4, k4, e, h3, hf.next hk2⟩
  · obtain ⟨c0, c1, c2, c3, m3, k3, c4, m4, k4, e, h3, hf⟩ := h; exact ⟨c0, c1, c2, c3, m3, k3, c4, m4, k4, e, h3, hf.next hk2⟩
  · obtain ⟨c0, c1, c2, c3, m3, k3, c4, m4, k4, e, h3, hf⟩ := h; exact ⟨c0, c1, c2, c3, m3, k3, c4, m4, k4, e, h3, hf.next hk2⟩
  · obtain ⟨e, h1', h2, x0, x1, x2, x3, x4, hf⟩ := h; exact ⟨e, h1', h2, y0, y1, y2, y3, y4, hb⟩
end
def inPhi (qp qq qb s i1 i2 si sk S2 n1 d1 d2 : Nat) (g1 g2 : Bool) : Nat → Value → World → (Nat → Nat) → Prop
  | 0, v, _, _ => v = .bool (g1 && g2)
  | 1, v, _, _ => v = .pointer (some ⟨qp, 0, none⟩)
  | 2, v, _, _ => v = .slice (some ⟨i1, 0, none⟩) n1 d1
  | 3, v, _, _ => v = .int .i64 (s : Int)
  | 4, v, _, _ => v = .pointer (some ⟨qb, 0, none⟩)
  | 5, v, _, _ => v = .int .i64 (S2 : Int)
  | 6, v, _, _ => v = .int .i64 (si : Int)
  | 7, v, _, _ => v = .pointer (some ⟨i1, si, none⟩)
  | 8, v, _, _ => v = .bool g1
  | 9, v, _, _ => v = .bool g1
  | 10, v, _, _ => g1 = true → v = .pointer (some ⟨qq, 0, none⟩)
  | 11, v, _, _ => g1 = true → v = .slice (some ⟨i2, 0, none⟩) S2 d2
  | 12, v, _, _ => g1 = true → v = .int .i64 (s : Int)
  | 13, v, _, _ => g1 = true → v = .pointer (some ⟨qb, 0, none⟩)
  | 14, v, _, _ => g1 = true → v = .int .i64 (S2 : Int)
  | 15, v, _, _ => g1 = true → v = .int .i64 (sk : Int)
  | 16, v, _, _ => g1 = true → v = .pointer (some ⟨i2, sk, none⟩)
  | 17, v, _, _ => g1 = true → v = .bool g2
  | 18, v, _, _ => v = .bool (g1 && g2)
  | 19, v, _, _ => v = .bool false
  | _, _, _, _ => True
theorem inPhi_w {qp qq qb s i1 i2 si sk S2 n1 d1 d2 : Nat} {g1 g2 : Bool} {j : Nat} {v : Value} {W W' : World} {γ γ' : Nat → Nat} (h : inPhi qp qq qb s i1 i2 si sk S2 n1 d1 d2 g1 g2 j v W γ) : inPhi qp qq qb s i1 i2 si sk S2 n1 d1 d2 g1 g2 j v W' γ' := by
  unfold inPhi at h ⊢
  split at h <;> first | exact h | trivial
set_option maxRecDepth 100000 in
set_option maxHeartbeats 8000000 in
theorem products_any (A1 A2 : Option Addr) (n1 c1 n2 c2 : Nat) (l1 l2 : List Int) (x : Int) (w : World) (h1 : Rd w w.heap.size 1 encU A1 n1 l1) (h2 : Rd w w.heap.size 1 encU A2 n2 l2) (u1 : U8s l1) (u2 : U8s l2) (z1 : n1 ≤ 9223372036854775807) (z2 : n2 ≤ 9223372036854775807) (hx : 0 ≤ x ∧ x ≤ 255) :
    Calls Try.prog 8 #[.slice A1 n1 c1, .slice A2 n2 c2, .int .u8 x] w fun e w' => e = .returned (.bool true) ∧ Below w.heap.size w w' := by
  have H2 := Lib.hid h2
  have KM1 := Lib.hid (fun W h => Made_any A1 n1 c1 l1 W h u1)
  have KM2 := Lib.hid (fun W h => Made_any A2 n2 c2 l2 W h u2)
  have H1 := Lib.hid h1
  have HX := Lib.hid hx
  have KA := Lib.hid awake_any
  clear h1 h2 u1 u2 z1 z2 hx
  go_enter Try.func8, Try.ntmps8
  go_wp2_with fail
  refine (KM1.out _ H1.out).mono ?_
  rintro e w1 ⟨aN, an, ac, ab, ag, ga, rfl, oka, sza, hin, hB⟩
  have B0 : Hid (Below w.heap.size w w1) := Lib.hid hB
  clear hB
  have OA := Lib.hid oka
  have SA := Lib.hid sza
  have IA := Lib.hid hin
  clear oka sza hin
  go_wp2_with fail
  refine (KM2.out _ (H2.out.next B0.out)).mono ?_
  rintro e w2 ⟨bN, bn, bc, bb, bg, gb, rfl, okb, szb, hin, hB⟩
  have B1 : Hid (Below w1.heap.size w1 w2) := Lib.hid hB
  clear hB
  have OB := Lib.hid okb
  have SB := Lib.hid szb
  have IB := Lib.hid hin
  clear okb szb hin H1 KM1 KM2 H2
  go_wp2_with fail
  obtain ⟨qa, hqa⟩ : ∃ z, z = w2.heap.size := ⟨_, rfl⟩
  obtain ⟨w3, hw3⟩ : ∃ z, z = w2.alloc (.cells #[.int .i64 (ga.S : Int), .int .i64 (ga.C : Int), .int .i64 (ga.H : Int), .slice aN an ac, .slice (some ⟨ab, 0, none⟩) ga.S ag] 25) := ⟨_, rfl⟩
  have QA : Hid (Blk w3 qa 25 #[.int .i64 (ga.S : Int), .int .i64 (ga.C : Int), .int .i64 (ga.H : Int), .slice aN an ac, .slice (some ⟨ab, 0, none⟩) ga.S ag]) := Lib.hid (by rw [hw3, hqa]; exact heap_alloc_new w2 _)
  have Sw3 : Hid (w3.heap.size = qa + 1) := Lib.hid (by rw [hw3, hqa, World.size_alloc])
  have hBn : Below w2.heap.size w2 w3 := by rw [hw3]; exact (Below.refl _ _).alloc (Nat.le_refl _) _
  rw [← hw3, ← hqa]
  have B2 : Hid (Below w2.heap.size w2 w3) := Lib.hid hBn
  clear hw3 hqa hBn
  obtain ⟨qb, hqb⟩ : ∃ z, z = qa + 1 := ⟨_, rfl⟩
  obtain ⟨w4, hw4⟩ : ∃ z, z = w3.alloc (.cells #[.int .i64 (gb.S : Int), .int .i64 (gb.C : Int), .int .i64 (gb.H : Int), .slice bN bn bc, .slice (some ⟨bb, 0, none⟩) gb.S bg] 25) := ⟨_, rfl⟩
  have QB : Hid (Blk w4 qb 25 #[.int .i64 (gb.S : Int), .int .i64 (gb.C : Int), .int .i64 (gb.H : Int), .slice bN bn bc, .slice (some ⟨bb, 0, none⟩) gb.S bg]) := Lib.hid (by have e2 := heap_alloc_new w3 (.cells #[.int .i64 (gb.S : Int), .int .i64 (gb.C : Int), .int .i64 (gb.H : Int), .slice bN bn bc, .slice (some ⟨bb, 0, none⟩) gb.S bg] 25); rw [Sw3.out] at e2; rw [hw4, hqb]; exact e2)
  have Sw4 : Hid (w4.heap.size = qb + 1) := Lib.hid (by rw [hw4, hqb, World.size_alloc, Sw3.out])
  have hBn : Below w3.heap.size w3 w4 := by rw [hw4]; exact (Below.refl _ _).alloc (Nat.le_refl _) _
  rw [← hw4, ← hqb]
  have B3 : Hid (Below w3.heap.size w3 w4) := Lib.hid hBn
  clear hw4 hqb hBn
  refine (Solve_any aN (some ⟨ab, 0, none⟩) an ac ag ga w4 (IA.out.next' (below3 (below3 B1.out B2.out (Nat.le_refl _)) B3.out (Nat.le_refl _))) OA.out).mono ?_
  rintro e w5 ⟨i1, d1, f1, r1, k1, rfl, hk, hs, hB⟩
  have B4 : Hid (Below w4.heap.size w4 w5) := Lib.hid hB
  clear hB
  have S1 := Lib.hid hk
  have RR1 := Lib.hid (solved_rd OA.out hs).1
  clear hk hs
  have hbk := QB.out.below B4.out QB.out.lt
  have o0 := hbk.cell 0
  have o1 := hbk.cell 1
  have o2 := hbk.cell 2
  have o3 := hbk.cell 3
  have o4 := hbk.cell 4
  simp only [List.getElem?_toArray, List.getElem?_cons_zero, List.getElem?_cons_succ] at o0 o1 o2 o3 o4
  have zo := hbk.lt
  clear hbk
  go_wp2_with fail
  obtain ⟨qp, hqp⟩ : ∃ z, z = w5.heap.size := ⟨_, rfl⟩
  obtain ⟨w6, hw6⟩ : ∃ z, z = w5.alloc (.cells #[.slice (some ⟨i1, 0, none⟩) ga.S d1, .slice (some ⟨f1, 0, none⟩) ga.S ga.S, .slice (some ⟨r1, 0, none⟩) ga.S ga.S] 27) := ⟨_, rfl⟩
  have QP : Hid (Blk w6 qp 27 #[.slice (some ⟨i1, 0, none⟩) ga.S d1, .slice (some ⟨f1, 0, none⟩) ga.S ga.S, .slice (some ⟨r1, 0, none⟩) ga.S ga.S]) := Lib.hid (by rw [hw6, hqp]; exact heap_alloc_new w5 _)
  have Sw6 : Hid (w6.heap.size = qp + 1) := Lib.hid (by rw [hw6, hqp, World.size_alloc])
  have hBn : Below w5.heap.size w5 w6 := by rw [hw6]; exact (Below.refl _ _).alloc (Nat.le_refl _) _
  rw [← hw6, ← hqp]
  have B5 : Hid (Below w5.heap.size w5 w6) := Lib.hid hBn
  clear hw6 hqp hBn
  refine (Solve_any bN (some ⟨bb, 0, none⟩) bn bc bg gb w6 (IB.out.next' (below3 (below3 (below3 B2.out B3.out (Nat.le_refl _)) B4.out (Nat.le_refl _)) B5.out (Nat.le_refl _))) OB.out).mono ?_
  rintro e w7 ⟨i2, d2, f2, r2, k2, rfl, hk, hs, hB⟩
  have B6 : Hid (Below w6.heap.size w6 w7) := Lib.hid hB
  clear hB
  clear o0 o1 o2 o3 o4 zo
  have S2 := Lib.hid hk
  have RR2 := Lib.hid (solved_rd OB.out hs).1
  clear hk hs
  have hbk := QA.out.below (below3 (below3 (below3 B3.out B4.out (Nat.le_refl _)) B5.out (Nat.le_refl _)) B6.out (Nat.le_refl _)) QA.out.lt
  have p0 := hbk.cell 0
  have p1 := hbk.cell 1
  have p2 := hbk.cell 2
  have p3 := hbk.cell 3
  have p4 := hbk.cell 4
  simp only [List.getElem?_toArray, List.getElem?_cons_zero, List.getElem?_cons_succ] at p0 p1 p2 p3 p4
  have zp := hbk.lt
  clear hbk
  have hbk := QB.out.below (below3 (below3 B4.out B5.out (Nat.le_refl _)) B6.out (Nat.le_refl _)) QB.out.lt
  have o0 := hbk.cell 0
  have o1 := hbk.cell 1
  have o2 := hbk.cell 2
  have o3 := hbk.cell 3
  have o4 := hbk.cell 4
  simp only [List.getElem?_toArray, List.getElem?_cons_zero, List.getElem?_cons_succ] at o0 o1 o2 o3 o4
  have zo := hbk.lt
  clear hbk
  go_wp2_with fail
  obtain ⟨qq, hqq⟩ : ∃ z, z = w7.heap.size := ⟨_, rfl⟩
  obtain ⟨w8, hw8⟩ : ∃ z, z = w7.alloc (.cells #[.slice (some ⟨i2, 0, none⟩) gb.S d2, .slice (some ⟨f2, 0, none⟩) gb.S gb.S, .slice (some ⟨r2, 0, none⟩) gb.S gb.S] 27) := ⟨_, rfl⟩
  have QQ : Hid (Blk w8 qq 27 #[.slice (some ⟨i2, 0, none⟩) gb.S d2, .slice (some ⟨f2, 0, none⟩) gb.S gb.S, .slice (some ⟨r2, 0, none⟩) gb.S gb.S]) := Lib.hid (by rw [hw8, hqq]; exact heap_alloc_new w7 _)
  have Sw8 : Hid (w8.heap.size = qq + 1) := Lib.hid (by rw [hw8, hqq, World.size_alloc])
  have hBn : Below w7.heap.size w7 w8 := by rw [hw8]; exact (Below.refl _ _).alloc (Nat.le_refl _) _
  rw [← hw8, ← hqq]
  have B7 : Hid (Below w7.heap.size w7 w8) := Lib.hid hBn
  clear hw8 hqq hBn
  clear p0 p1 p2 p3 p4 o0 o1 o2 o3 o4 zp zo
  obtain ⟨u, hu⟩ : ∃ u : Nat, (u : Int) = x.tmod (ga.C : Int) := ⟨(x.tmod (ga.C : Int)).toNat, by have h := tmod_bd (x := x) (n := (ga.C : Int)) HX.out.1 (by have := OA.out.c0; omega); omega⟩
  have HU : Hid (u < ga.C) := Lib.hid (by have h := tmod_bd (x := x) (n := (ga.C : Int)) HX.out.1 (by have := OA.out.c0; omega); omega)
  have HUX := Lib.hid hu
  clear hu
  obtain ⟨p, hp⟩ : ∃ z, z = ga.S * gb.S := ⟨_, rfl⟩
  obtain ⟨q, hq⟩ : ∃ z, z = ga.C * gb.C := ⟨_, rfl⟩
  obtain ⟨r, hr⟩ : ∃ z, z = ga.H * gb.H := ⟨_, rfl⟩
  have HPQ := Lib.hid (And.intro hp (And.intro hq hr))
  by_cases hfit : ga.S * gb.S ≤ 400 ∧ ga.C * gb.C ≤ 16 ∧ ga.H * gb.H ≤ 16
  · have OP : Hid (GmOk (prodG ga gb)) := Lib.hid (prodG_ok OA.out OB.out hfit.1 hfit.2.1 hfit.2.2)
    have KP := Lib.hid (Product_ok aN bN an ac ag bn bc bg ab 0 bb 0 ga gb w8 (IA.out.next' (below3 (below3 (below3 (below3 (below3 (below3 B1.out B2.out (Nat.le_refl _)) B3.out (Nat.le_refl _)) B4.out (Nat.le_refl _)) B5.out (Nat.le_refl _)) B6.out (Nat.le_refl _)) B7.out (Nat.le_refl _))) (IB.out.next' (below3 (below3 (below3 (below3 (below3 B2.out B3.out (Nat.le_refl _)) B4.out (Nat.le_refl _)) B5.out (Nat.le_refl _)) B6.out (Nat.le_refl _)) B7.out (Nat.le_refl _))) OA.out OB.out hfit)
    rw [← hp, ← hq, ← hr] at KP
    have hp4 : 1 ≤ p ∧ p ≤ 400 := by rw [hp]; exact ⟨OP.out.s0, hfit.1⟩
    have HP4 := Lib.hid hp4
    have KV : Hid (∀ A A2 n c c2 W, GmIn W W.heap.size ⟨A, A2, n, c, p, c2⟩ (prodG ga gb) → Calls Try.prog 20 #[.agg #[.int .i64 (p : Int), .int .i64 (q : Int), .int .i64 (r : Int), .slice A n c, .slice A2 p c2]] W fun e w' => ∃ ib ic cb rb k, e = .returned (.tuple #[.agg #[.slice (some ⟨ib, 0, none⟩) p ic, .slice (some ⟨cb, 0, none⟩) p p, .slice (some ⟨rb, 0, none⟩) p p], .int .i64 0]) ∧ (Solved (prodG ga gb) k ∧ Rd w' w'.heap.size 1 encB (some ⟨ib, 0, none⟩) p (itR (prodG ga gb) k).1) ∧ Below W.heap.size W w') := Lib.hid (by
      intro A A2 n c c2 W h
      rw [hp, hq, hr] at *
      refine (Solve_any A A2 n c c2 (prodG ga gb) W h OP.out).mono ?_
      rintro e w' ⟨ib, ic, cb, rb, k, rfl, hk, hs, hB⟩
      exact ⟨ib, ic, cb, rb, k, rfl, ⟨hk, (solved_rd OP.out hs).1⟩, hB⟩)
    have wpp : IntKind.i64.wrap ((ga.S : Int) * (gb.S : Int)) = (p : Int) := by
      rw [show (ga.S : Int) * (gb.S : Int) = (p : Int) by rw [hp]; push_cast; rfl]
      exact IntWalk.i64_in _ (by omega)
    clear hp hq hr hfit hp4
    refine (KP.out).mono ?_
    rintro e w10 ⟨pA, pn, pc, pB, pd, rfl, hin, hB⟩
    have B8 : Hid (Below w8.heap.size w8 w10) := Lib.hid hB
    clear hB
    have IP := Lib.hid hin
    clear hin KP
    go_wp2_with fail
    obtain ⟨qg, hqg⟩ : ∃ z, z = w10.heap.size := ⟨_, rfl⟩
    obtain ⟨w11, hw11⟩ : ∃ z, z = w10.alloc (.cells #[.int .i64 (p : Int), .int .i64 (q : Int), .int .i64 (r : Int), .slice pA pn pc, .slice pB p pd] 25) := ⟨_, rfl⟩
    have QG : Hid (Blk w11 qg 25 #[.int .i64 (p : Int), .int .i64 (q : Int), .int .i64 (r : Int), .slice pA pn pc, .slice pB p pd]) := Lib.hid (by rw [hw11, hqg]; exact heap_alloc_new w10 _)
    have Sw11 : Hid (w11.heap.size = qg + 1) := Lib.hid (by rw [hw11, hqg, World.size_alloc])
    have hBn : Below w10.heap.size w10 w11 := by rw [hw11]; exact (Below.refl _ _).alloc (Nat.le_refl _) _
    rw [← hw11, ← hqg]
    have B9 : Hid (Below w10.heap.size w10 w11) := Lib.hid hBn
    clear hw11 hqg hBn
    refine (KV.out _ _ _ _ _ _ (IP.out.next' B9.out)).mono ?_
    rintro e w12 ⟨i3, d3, f3, r3, k3, rfl, hs, hB⟩
    have B10 : Hid (Below w11.heap.size w11 w12) := Lib.hid hB
    clear hB
    have S3 := Lib.hid hs.1
    have RR3 := Lib.hid hs.2
    clear hs KV IP
    have hbk := QA.out.below (below3 (below3 (below3 (below3 (below3 (below3 (below3 B3.out B4.out (Nat.le_refl _)) B5.out (Nat.le_refl _)) B6.out (Nat.le_refl _)) B7.out (Nat.le_refl _)) B8.out (Nat.le_refl _)) B9.out (Nat.le_refl _)) B10.out (Nat.le_refl _)) QA.out.lt
    have p0 := hbk.cell 0
    simp only [List.getElem?_toArray, List.getElem?_cons_zero, List.getElem?_cons_succ] at p0
    have zp := hbk.lt
    clear hbk
    have hbk := QB.out.below (below3 (below3 (below3 (below3 (below3 (below3 B4.out B5.out (Nat.le_refl _)) B6.out (Nat.le_refl _)) B7.out (Nat.le_refl _)) B8.out (Nat.le_refl _)) B9.out (Nat.le_refl _)) B10.out (Nat.le_refl _)) QB.out.lt
    have o0 := hbk.cell 0
    simp only [List.getElem?_toArray, List.getElem?_cons_zero, List.getElem?_cons_succ] at o0
    have zo := hbk.lt
    clear hbk
    go_wp2_with fail
    obtain ⟨qr, hqr⟩ : ∃ z, z = w12.heap.size := ⟨_, rfl⟩
    obtain ⟨w13, hw13⟩ : ∃ z, z = w12.alloc (.cells #[.slice (some ⟨i3, 0, none⟩) p d3, .slice (some ⟨f3, 0, none⟩) p p, .slice (some ⟨r3, 0, none⟩) p p] 27) := ⟨_, rfl⟩
    have QR : Hid (Blk w13 qr 27 #[.slice (some ⟨i3, 0, none⟩) p d3, .slice (some ⟨f3, 0, none⟩) p p, .slice (some ⟨r3, 0, none⟩) p p]) := Lib.hid (by rw [hw13, hqr]; exact heap_alloc_new w12 _)
    have Sw13 : Hid (w13.heap.size = qr + 1) := Lib.hid (by rw [hw13, hqr, World.size_alloc])
    have hBn : Below w12.heap.size w12 w13 := by rw [hw13]; exact (Below.refl _ _).alloc (Nat.le_refl _) _
    rw [← hw13, ← hqr]
    have B11 : Hid (Below w12.heap.size w12 w13) := Lib.hid hBn
    clear hw13 hqr hBn
    clear p0 zp o0 zo
    have HR3 := Lib.hid (RR3.out.next B11.out)
    have HR1 := Lib.hid (RR1.out.next (below3 (below3 (below3 (below3 (below3 (below3 B5.out B6.out (Nat.le_refl _)) B7.out (Nat.le_refl _)) B8.out (Nat.le_refl _)) B9.out (Nat.le_refl _)) B10.out (Nat.le_refl _)) B11.out (Nat.le_refl _)))
    have HR2 := Lib.hid (RR2.out.next (below3 (below3 (below3 (below3 B7.out B8.out (Nat.le_refl _)) B9.out (Nat.le_refl _)) B10.out (Nat.le_refl _)) B11.out (Nat.le_refl _)))
    have HQ1 := Lib.hid (QP.out.below (below3 (below3 (below3 (below3 (below3 B6.out B7.out (Nat.le_refl _)) B8.out (Nat.le_refl _)) B9.out (Nat.le_refl _)) B10.out (Nat.le_refl _)) B11.out (Nat.le_refl _)) QP.out.lt)
    have HQ2 := Lib.hid (QQ.out.below (below3 (below3 (below3 B8.out B9.out (Nat.le_refl _)) B10.out (Nat.le_refl _)) B11.out (Nat.le_refl _)) QQ.out.lt)
    have HQB := Lib.hid (QB.out.below (below3 (below3 (below3 (below3 (below3 (below3 (below3 B4.out B5.out (Nat.le_refl _)) B6.out (Nat.le_refl _)) B7.out (Nat.le_refl _)) B8.out (Nat.le_refl _)) B9.out (Nat.le_refl _)) B10.out (Nat.le_refl _)) B11.out (Nat.le_refl _)) QB.out.lt)
    have hp4 := HP4.out
    have hgb0 := OB.out.s0
    have hgb1 := SB.out.1
    have hga1 := SA.out.1
    go_loopw [71] (fun i wr => ∃ s : Nat, s ≤ p ∧ i = .int .i64 s ∧ Hid (Below w13.heap.size w13 wr)) (fun i _ => p - (intOf i).toNat)
    case atStart => exact ⟨0, by omega, rfl, Lib.hid (Below.refl _ _)⟩
    case round =>
      obtain ⟨s, hs, rfl, HLW⟩ := hrel
      by_cases hlt : s < p
      · have hsp : s < ga.S * gb.S := by rw [← HPQ.out.1]; exact hlt
        obtain ⟨si, hsi⟩ : ∃ z, z = s / gb.S := ⟨_, rfl⟩
        obtain ⟨sk, hsk⟩ : ∃ z, z = s % gb.S := ⟨_, rfl⟩
        have hsia : si < ga.S := by rw [hsi]; exact div_lt hsp
        have hskb : sk < gb.S := by rw [hsk]; exact mod_lt hsp
        obtain ⟨b5, o5, x5, e5, hb5, hx5, hcx5⟩ := HR3.out.at_ hlt
        obtain ⟨rfl, rfl⟩ : b5 = i3 ∧ o5 = 0 := by simpa [eq_comm] using e5
        obtain ⟨b6, o6, g1, e6, hb6, hx6, hcx6⟩ := HR1.out.at_ hsia
        obtain ⟨rfl, rfl⟩ : b6 = i1 ∧ o6 = 0 := by simpa [eq_comm] using e6
        obtain ⟨b7, o7, g2, e7, hb7, hx7, hcx7⟩ := HR2.out.at_ hskb
        obtain ⟨rfl, rfl⟩ : b7 = i2 ∧ o7 = 0 := by simpa [eq_comm] using e7
        have hv := prod_safe OA.out OB.out OP.out S1.out S2.out S3.out s hsp
        rw [← hsi, ← hsk, List.getD_eq_getElem?_getD, List.getD_eq_getElem?_getD, List.getD_eq_getElem?_getD, hx5, hx6, hx7] at hv
        simp only [Option.getD_some] at hv
        subst hv
        have cx5 := cellB hcx5
        have cx6 := cellB hcx6
        have cx7 := cellB hcx7
        rw [Nat.zero_add] at cx5 cx6 cx7
        have HC1 : Hid (b6 < wr.heap.size ∧ wr.cell? ⟨b6, si, none⟩ = some (.bool g1)) := Lib.hid ⟨Nat.lt_of_lt_of_le hb6 HLW.out.size, (HLW.out.cell (p := ⟨b6, si, none⟩) hb6).trans cx6⟩
        have HC2 : Hid (b7 < wr.heap.size ∧ wr.cell? ⟨b7, sk, none⟩ = some (.bool g2)) := Lib.hid ⟨Nat.lt_of_lt_of_le hb7 HLW.out.size, (HLW.out.cell (p := ⟨b7, sk, none⟩) hb7).trans cx7⟩
        have cv : wr.cell? ⟨b5, s, none⟩ = some (.bool (g1 && g2)) := (HLW.out.cell (p := ⟨b5, s, none⟩) hb5).trans cx5
        have zv := block_of_cell cv
        dsimp only at zv
        obtain ⟨xv, hxv⟩ : ∃ z, z = (g1 && g2) := ⟨_, rfl⟩
        rw [← hxv] at cv
        have HXV := Lib.hid hxv
        have t1 : (s : Int).tdiv (gb.S : Int) = (si : Int) := by rw [hsi]; exact (Int.ofNat_tdiv s gb.S).symm
        have t2 : (s : Int).tmod (gb.S : Int) = (sk : Int) := by rw [hsk]; exact (Int.ofNat_tmod s gb.S).symm
        have t3 : IntKind.i64.wrap (si : Int) = (si : Int) := IntWalk.i64_in _ (by omega)
        have t4 : ¬ ((gb.S : Int) = 0) := by omega
        have t6 : ¬ (gb.S = 0) := by omega
        have hk0 : (0 : Int) ≤ (s : Int) := by omega
        have hkn : (s : Int) < (p : Int) := by omega
        have i1' : (0 : Int) ≤ (si : Int) := by omega
        have i2' : (si : Int) < (ga.S : Int) := by omega
        have i3' : (0 : Int) ≤ (sk : Int) := by omega
        have i4' : (sk : Int) < (gb.S : Int) := by omega
        clear hx5 hx6 hx7 hcx5 hcx6 hcx7 e5 e6 e7 hb5 hb6 hb7 cx5 cx6 cx7 hxv hsi hsk hsp hsia hskb
        go_wp2
        clear cv zv
        refine wp_region_free10 19 (by kernel_rfl) [some 76, some 77, some 78, some 79, some 80, some 81, some 82, some 83, some 84, some 85, some 86, some 87, some 88, some 89, some 90, some 91, some 92, some 93, some 94, some 95] [[], [], [1], [], [], [4], [3, 5], [2, 6], [7], [8], [9], [10, 9], [9], [9], [13, 9], [12, 14, 9], [11, 15, 9], [16, 9], [9, 17], [0, 18]] [(17, .bool xv), (9, .pointer (some ⟨qp, 0, none⟩)), (16, .int .i64 (s : Int)), (8, .pointer (some ⟨qb, 0, none⟩)), (11, .pointer (some ⟨qq, 0, none⟩))] (fun W _ => Below wr.heap.size wr W) (inPhi qp qq qb s b6 b7 si sk gb.S ga.S d1 d2 g1 g2) (fun _ _ _ => True) (by kernel_rfl) (by kernel_rfl) rfl (by kernel_rfl) ?_ ?_ ⟨fun _ => 0, (Below.refl _ _).drew, fun i _ => trivial⟩ ?_ ?_
        · intro z hz
          simp only [List.mem_cons, List.mem_nil_iff, or_false] at hz
          rcases hz with rfl | rfl | rfl | rfl | rfl
          all_goals exact ⟨by kernel_rfl, rfl⟩
        · intro i v W γ hi h
          rcases i with _ | _ | _ | _ | _ | _ | _ | _ | _ | _ | _ | _ | _ | _ | _ | _ | _ | _ | _ | _ | i
          all_goals first | exact h | (simp at hi)
        · refine ⟨?_, ?_, ?_, ?_, ?_, ?_, ?_, ?_, ?_, ?_, ?_, ?_, ?_, ?_, ?_, ?_, ?_, ?_, ?_, ?_, trivial⟩
          all_goals
            intro a9 W γ ev hcc hff hfx hR hψ hpre
            simp only [List.mem_cons, List.mem_nil_iff, or_false, forall_eq, forall_eq_or_imp] at hfx
            obtain ⟨f0, f1, f2, f3, f4⟩ := hfx
            have HR := Lib.hid hR
            clear hR
          · refine ⟨fun hg K hK => ?_, trivial⟩
            clear hg
            clear hpre hψ
            go_simp
            exact hK _ _ γ HR.out (fun _ _ _ _ h => h) (fun _ _ _ h => h) (by rw [HXV.out]; rfl)
          · refine ⟨fun hg K hK => ?_, trivial⟩
            clear hg
            clear hpre hψ
            go_simp
            exact hK _ _ γ HR.out (fun _ _ _ _ h => h) (fun _ _ _ h => h) rfl
          · refine ⟨fun hg K hK => ?_, trivial⟩
            clear hg
            have q0 : ev (.tmp 77) = _ := hpre 1 (by decide)
            have hbk := (HQ1.out.below HLW.out HQ1.out.lt).below (show Below wr.heap.size wr W from HR.out) (HQ1.out.below HLW.out HQ1.out.lt).lt
            have hzg := hbk.lt
            have e0 := hbk.cell 0
            simp only [List.getElem?_toArray, List.getElem?_cons_zero, List.getElem?_cons_succ] at e0
            clear hbk
            clear hpre hψ
            go_simp
            exact hK _ _ γ HR.out (fun _ _ _ _ h => h) (fun _ _ _ h => h) rfl
          · refine ⟨fun hg K hK => ?_, trivial⟩
            clear hg
            clear hpre hψ
            go_simp
            exact hK _ _ γ HR.out (fun _ _ _ _ h => h) (fun _ _ _ h => h) rfl
          · refine ⟨fun hg K hK => ?_, trivial⟩
            clear hg
            clear hpre hψ
            go_simp
            exact hK _ _ γ HR.out (fun _ _ _ _ h => h) (fun _ _ _ h => h) rfl
          · refine ⟨fun hg K hK => ?_, trivial⟩
            clear hg
            have q0 : ev (.tmp 80) = _ := hpre 4 (by decide)
            have hbk := (HQB.out.below HLW.out HQB.out.lt).below (show Below wr.heap.size wr W from HR.out) (HQB.out.below HLW.out HQB.out.lt).lt
            have hzg := hbk.lt
            have e0 := hbk.cell 0
            simp only [List.getElem?_toArray, List.getElem?_cons_zero, List.getElem?_cons_succ] at e0
            clear hbk
            clear hpre hψ
            go_simp
            exact hK _ _ γ HR.out (fun _ _ _ _ h => h) (fun _ _ _ h => h) rfl
          · refine ⟨fun hg K hK => ?_, trivial⟩
            clear hg
            have q0 : ev (.tmp 79) = _ := hpre 3 (by decide)
            have q1 : ev (.tmp 81) = _ := hpre 5 (by decide)
            clear hpre hψ
            go_simp
            exact hK _ _ γ HR.out (fun _ _ _ _ h => h) (fun _ _ _ h => h) rfl
          · refine ⟨fun hg K hK => ?_, trivial⟩
            clear hg
            have q0 : ev (.tmp 78) = _ := hpre 2 (by decide)
            have q1 : ev (.tmp 82) = _ := hpre 6 (by decide)
            clear hpre hψ
            go_simp
            exact hK _ _ γ HR.out (fun _ _ _ _ h => h) (fun _ _ _ h => h) rfl
          · refine ⟨fun hg K hK => ?_, trivial⟩
            clear hg
            have q0 : ev (.tmp 83) = _ := hpre 7 (by decide)
            have hca := ((show Below wr.heap.size wr W from HR.out).cell (p := ⟨b6, si, none⟩) HC1.out.1).trans HC1.out.2
            have hza : b6 < W.heap.size := block_of_cell hca
            clear hpre hψ
            go_simp
            exact hK _ _ γ HR.out (fun _ _ _ _ h => h) (fun _ _ _ h => h) rfl
          · refine ⟨fun hg K hK => ?_, trivial⟩
            clear hg
            have q0 : ev (.tmp 84) = _ := hpre 8 (by decide)
            clear hpre hψ
            go_simp
            exact hK _ _ γ HR.out (fun _ _ _ _ h => h) (fun _ _ _ h => h) rfl
          · refine ⟨fun hg K hK => ?_, fun hg h => absurd ((show left _ ev 9 = .bool g1 from hpre 9 (by decide)).trans (by rw [h])) hg⟩
            have hg1 : g1 = true := by have h := Eq.trans (Eq.symm (hpre 9 (by decide))) hg; simpa using h
            clear hg
            clear hpre hψ
            go_simp
            exact hK _ _ γ HR.out (fun _ _ _ _ h => h) (fun _ _ _ h => h) (fun _ => rfl)
          · refine ⟨fun hg K hK => ?_, fun hg h => absurd ((show left _ ev 9 = .bool g1 from hpre 9 (by decide)).trans (by rw [h])) hg⟩
            have hg1 : g1 = true := by have h := Eq.trans (Eq.symm (hpre 9 (by decide))) hg; simpa using h
            clear hg
            have q0 : ev (.tmp 86) = _ := hpre 10 (by decide) hg1
            have hbk := (HQ2.out.below HLW.out HQ2.out.lt).below (show Below wr.heap.size wr W from HR.out) (HQ2.out.below HLW.out HQ2.out.lt).lt
            have hzg := hbk.lt
            have e0 := hbk.cell 0
            simp only [List.getElem?_toArray, List.getElem?_cons_zero, List.getElem?_cons_succ] at e0
            clear hbk
            clear hpre hψ
            go_simp
            exact hK _ _ γ HR.out (fun _ _ _ _ h => h) (fun _ _ _ h => h) (fun _ => rfl)
          · refine ⟨fun hg K hK => ?_, fun hg h => absurd ((show left _ ev 9 = .bool g1 from hpre 9 (by decide)).trans (by rw [h])) hg⟩
            have hg1 : g1 = true := by have h := Eq.trans (Eq.symm (hpre 9 (by decide))) hg; simpa using h
            clear hg
            clear hpre hψ
            go_simp
            exact hK _ _ γ HR.out (fun _ _ _ _ h => h) (fun _ _ _ h => h) (fun _ => rfl)
          · refine ⟨fun hg K hK => ?_, fun hg h => absurd ((show left _ ev 9 = .bool g1 from hpre 9 (by decide)).trans (by rw [h])) hg⟩
            have hg1 : g1 = true := by have h := Eq.trans (Eq.symm (hpre 9 (by decide))) hg; simpa using h
            clear hg
            clear hpre hψ
            go_simp
            exact hK _ _ γ HR.out (fun _ _ _ _ h => h) (fun _ _ _ h => h) (fun _ => rfl)
          · refine ⟨fun hg K hK => ?_, fun hg h => absurd ((show left _ ev 9 = .bool g1 from hpre 9 (by decide)).trans (by rw [h])) hg⟩
            have hg1 : g1 = true := by have h := Eq.trans (Eq.symm (hpre 9 (by decide))) hg; simpa using h
            clear hg
            have q0 : ev (.tmp 89) = _ := hpre 13 (by decide) hg1
            have hbk := (HQB.out.below HLW.out HQB.out.lt).below (show Below wr.heap.size wr W from HR.out) (HQB.out.below HLW.out HQB.out.lt).lt
            have hzg := hbk.lt
            have e0 := hbk.cell 0
            simp only [List.getElem?_toArray, List.getElem?_cons_zero, List.getElem?_cons_succ] at e0
            clear hbk
            clear hpre hψ
            go_simp
            exact hK _ _ γ HR.out (fun _ _ _ _ h => h) (fun _ _ _ h => h) (fun _ => rfl)
          · refine ⟨fun hg K hK => ?_, fun hg h => absurd ((show left _ ev 9 = .bool g1 from hpre 9 (by decide)).trans (by rw [h])) hg⟩
            have hg1 : g1 = true := by have h := Eq.trans (Eq.symm (hpre 9 (by decide))) hg; simpa using h
            clear hg
            have q0 : ev (.tmp 88) = _ := hpre 12 (by decide) hg1
            have q1 : ev (.tmp 90) = _ := hpre 14 (by decide) hg1
            clear hpre hψ
            go_simp
            exact hK _ _ γ HR.out (fun _ _ _ _ h => h) (fun _ _ _ h => h) (fun _ => rfl)
          · refine ⟨fun hg K hK => ?_, fun hg h => absurd ((show left _ ev 9 = .bool g1 from hpre 9 (by decide)).trans (by rw [h])) hg⟩
            have hg1 : g1 = true := by have h := Eq.trans (Eq.symm (hpre 9 (by decide))) hg; simpa using h
            clear hg
            have q0 : ev (.tmp 87) = _ := hpre 11 (by decide) hg1
            have q1 : ev (.tmp 91) = _ := hpre 15 (by decide) hg1
            clear hpre hψ
            go_simp
            exact hK _ _ γ HR.out (fun _ _ _ _ h => h) (fun _ _ _ h => h) (fun _ => rfl)
          · refine ⟨fun hg K hK => ?_, fun hg h => absurd ((show left _ ev 9 = .bool g1 from hpre 9 (by decide)).trans (by rw [h])) hg⟩
            have hg1 : g1 = true := by have h := Eq.trans (Eq.symm (hpre 9 (by decide))) hg; simpa using h
            clear hg
            have q0 : ev (.tmp 92) = _ := hpre 16 (by decide) hg1
            have hcb := ((show Below wr.heap.size wr W from HR.out).cell (p := ⟨b7, sk, none⟩) HC2.out.1).trans HC2.out.2
            have hzb : b7 < W.heap.size := block_of_cell hcb
            clear hpre hψ
            go_simp
            exact hK _ _ γ HR.out (fun _ _ _ _ h => h) (fun _ _ _ h => h) (fun _ => rfl)
          · refine ⟨fun hg K hK => ?_, trivial⟩
            clear hg
            have q0 : ev (.tmp 85) = _ := hpre 9 (by decide)
            have q1 := hpre 17 (by decide)
            clear hpre hψ
            cases g1
            · clear q1
              go_simp
              exact hK _ _ γ HR.out (fun _ _ _ _ h => h) (fun _ _ _ h => h) rfl
            · have q1 : ev (.tmp 93) = _ := q1 rfl
              go_simp
              exact hK _ _ γ HR.out (fun _ _ _ _ h => h) (fun _ _ _ h => h) rfl
          · refine ⟨fun hg K hK => ?_, trivial⟩
            clear hg
            have q0 : ev (.tmp 76) = _ := hpre 0 (by decide)
            have q1 : ev (.tmp 94) = _ := hpre 18 (by decide)
            clear hpre hψ
            cases g1 <;> cases g2
            all_goals
              go_simp
              exact hK _ _ γ HR.out (fun _ _ _ _ h => h) (fun _ _ _ h => h) rfl
        · intro vs w' γ hvl hR hφ
          have q19 := hφ 19 (by decide)
          have HR := Lib.hid hR
          clear hφ hR
          match vs, hvl with
          | [y0, y1, y2, y3, y4, y5, y6, y7, y8, y9, y10, y11, y12, y13, y14, y15, y16, y17, y18, y19], _ =>
          simp only [List.getD_cons_zero, List.getD_cons_succ] at q19
          obtain rfl : y19 = _ := q19
          have HN := Lib.hid (below3 HLW.out HR.out (Nat.le_refl _))
          clear HR
          simp [putAll]
          go_wp2
          go_roundw
          case rel => exact ⟨s + 1, by omega, by go_num, HN⟩
          case measure => simp [intOf]; omega
      · obtain rfl : p = s := by omega
        have hBl := HLW.out
        have B12 : Hid (Below w13.heap.size w13 wr) := Lib.hid hBl
        clear hBl HR1 HR2 HR3 HQ1 HQ2 HQB
        go_wp2
        refine wp_region_free10 12 (by kernel_rfl) [some 100, some 101, some 102, some 103, some 104, some 105, some 106, some 99, some 107, some 108, some 18, none, some 10] [[], [], [1], [], [3], [2, 4], [0, 5], [6], [7], [7], [], [10, 8, 6, 0, 1, 2, 3, 4, 5, 6, 7, 8, 10], [9, 11, 0, 1, 2, 3, 4, 5, 6, 7, 8, 9, 10, 11]] [(7, .pointer (some ⟨qa, 0, none⟩)), (2, .int .u8 x)] (woR wr) (woPhi wr ga u qa x (.agg #[.int .i64 (ga.S : Int), .int .i64 (ga.C : Int), .int .i64 (ga.H : Int), .slice aN an ac, .slice (some ⟨ab, 0, none⟩) ga.S ag])) (fun i _ γ => i = 6 → γ 3 = 0) (by kernel_rfl) (by kernel_rfl) rfl (by kernel_rfl) ?_ ?_ ⟨fun _ => 0, ⟨(Below.refl _ _).drew, Nat.zero_le _⟩, fun i _ _ => rfl⟩ ?_ ?_
        · intro z hz
          simp only [List.mem_cons, List.mem_nil_iff, or_false] at hz
          rcases hz with rfl | rfl
          all_goals exact ⟨by kernel_rfl, rfl⟩
        · intro i v W γ hi h
          rcases i with _ | _ | _ | _ | _ | _ | _ | _ | _ | _ | _ | _ | _ | i
          all_goals first | exact h | (simp at hi)
        · refine ⟨?_, ?_, ?_, ?_, ?_, ?_, ?_, ?_, ?_, ?_, ?_, ?_, ?_, trivial⟩
          all_goals
            intro a9 W γ ev hcc hff hfx hR hψ hpre
            simp only [List.mem_cons, List.mem_nil_iff, or_false, forall_eq, forall_eq_or_imp] at hfx
            obtain ⟨f0, f1⟩ := hfx
            have HR := Lib.hid hR
            clear hR
          · refine ⟨fun hg K hK => ?_, trivial⟩
            clear hg
            have hbk := (QA.out.below (below3 (below3 (below3 (below3 (below3 (below3 (below3 (below3 (below3 B3.out B4.out (Nat.le_refl _)) B5.out (Nat.le_refl _)) B6.out (Nat.le_refl _)) B7.out (Nat.le_refl _)) B8.out (Nat.le_refl _)) B9.out (Nat.le_refl _)) B10.out (Nat.le_refl _)) B11.out (Nat.le_refl _)) B12.out (Nat.le_refl _)) QA.out.lt).below (show Below wr.heap.size wr W from HR.out.1) (QA.out.below (below3 (below3 (below3 (below3 (below3 (below3 (below3 (below3 (below3 B3.out B4.out (Nat.le_refl _)) B5.out (Nat.le_refl _)) B6.out (Nat.le_refl _)) B7.out (Nat.le_refl _)) B8.out (Nat.le_refl _)) B9.out (Nat.le_refl _)) B10.out (Nat.le_refl _)) B11.out (Nat.le_refl _)) B12.out (Nat.le_refl _)) QA.out.lt).lt
            have hzg := hbk.lt
            have e0 := hbk.cell 0
            have e1 := hbk.cell 1
            have e2 := hbk.cell 2
            have e3 := hbk.cell 3
            have e4 := hbk.cell 4
            simp only [List.getElem?_toArray, List.getElem?_cons_zero, List.getElem?_cons_succ] at e0 e1 e2 e3 e4
            clear hbk
            clear hpre hψ
            go_simp
            exact hK _ _ γ HR.out (fun _ _ _ _ h => h) (fun _ _ _ h => h) rfl
          · refine ⟨fun hg K hK => ?_, trivial⟩
            clear hg
            clear hpre hψ
            go_simp
            exact hK _ _ γ HR.out (fun _ _ _ _ h => h) (fun _ _ _ h => h) rfl
          · refine ⟨fun hg K hK => ?_, trivial⟩
            clear hg
            have q0 : ev (.tmp 101) = _ := hpre 1 (by decide)
            have wx : IntKind.i64.wrap x = x := IntWalk.i64_in _ (by have := HX.out; omega)
            clear hpre hψ
            go_simp
            exact hK _ _ γ HR.out (fun _ _ _ _ h => h) (fun _ _ _ h => h) rfl
          · refine ⟨fun hg K hK => ?_, trivial⟩
            clear hg
            clear hpre hψ
            go_simp
            exact hK _ _ γ HR.out (fun _ _ _ _ h => h) (fun _ _ _ h => h) rfl
          · refine ⟨fun hg K hK => ?_, trivial⟩
            clear hg
            have q0 : ev (.tmp 103) = _ := hpre 3 (by decide)
            have hbk := (QA.out.below (below3 (below3 (below3 (below3 (below3 (below3 (below3 (below3 (below3 B3.out B4.out (Nat.le_refl _)) B5.out (Nat.le_refl _)) B6.out (Nat.le_refl _)) B7.out (Nat.le_refl _)) B8.out (Nat.le_refl _)) B9.out (Nat.le_refl _)) B10.out (Nat.le_refl _)) B11.out (Nat.le_refl _)) B12.out (Nat.le_refl _)) QA.out.lt).below (show Below wr.heap.size wr W from HR.out.1) (QA.out.below (below3 (below3 (below3 (below3 (below3 (below3 (below3 (below3 (below3 B3.out B4.out (Nat.le_refl _)) B5.out (Nat.le_refl _)) B6.out (Nat.le_refl _)) B7.out (Nat.le_refl _)) B8.out (Nat.le_refl _)) B9.out (Nat.le_refl _)) B10.out (Nat.le_refl _)) B11.out (Nat.le_refl _)) B12.out (Nat.le_refl _)) QA.out.lt).lt
            have hzg := hbk.lt
            have e1 := hbk.cell 1
            simp only [List.getElem?_toArray, List.getElem?_cons_zero, List.getElem?_cons_succ] at e1
            clear hbk
            clear hpre hψ
            go_simp
            exact hK _ _ γ HR.out (fun _ _ _ _ h => h) (fun _ _ _ h => h) rfl
          · refine ⟨fun hg K hK => ?_, trivial⟩
            clear hg
            have q0 : ev (.tmp 102) = _ := hpre 2 (by decide)
            have q1 : ev (.tmp 104) = _ := hpre 4 (by decide)
            have wu : x.tmod (ga.C : Int) = (u : Int) := HUX.out.symm
            have wv : IntKind.i64.wrap (u : Int) = (u : Int) := IntWalk.i64_in _ (by have := HU.out; have := OA.out.c1; omega)
            have hc0 : ¬ (ga.C = 0) := by have := OA.out.c0; omega
            have hc1 : ¬ ((ga.C : Int) = 0) := by omega
            clear hpre hψ
            go_simp
            exact hK _ _ γ HR.out (fun _ _ _ _ h => h) (fun _ _ _ h => h) rfl
          · refine ⟨fun hg K hK => ?_, trivial⟩
            clear hg
            have q0 : ev (.tmp 100) = _ := hpre 0 (by decide)
            have q1 : ev (.tmp 105) = _ := hpre 5 (by decide)
            have h30 : γ 3 = 0 := hψ rfl
            have C := Lib.hid (without_law aN (some ⟨ab, 0, none⟩) an ac ag ga u W (IA.out.next' (below3 (below3 (below3 (below3 (below3 (below3 (below3 (below3 (below3 (below3 (below3 (below3 B1.out B2.out (Nat.le_refl _)) B3.out (Nat.le_refl _)) B4.out (Nat.le_refl _)) B5.out (Nat.le_refl _)) B6.out (Nat.le_refl _)) B7.out (Nat.le_refl _)) B8.out (Nat.le_refl _)) B9.out (Nat.le_refl _)) B10.out (Nat.le_refl _)) B11.out (Nat.le_refl _)) B12.out (Nat.le_refl _)) (show Below wr.heap.size wr W from HR.out.1) (Nat.le_refl _))) OA.out HU.out)
            have HRW9 := HR
            clear hpre hψ
            go_simp
            refine C.out.mono ?_
            rintro e w5 ⟨c0, c1, c2, c3, m3, k3, c4, m4, k4, rfl, hF, hB5⟩
            exact hK _ w5 (fun i => if i = 1 then W.heap.size else if i = 2 then w5.heap.size else if i = 3 then 1 else γ i) ⟨below3 HRW9.out.1 hB5 (Nat.le_refl _), by simp⟩ (fun j u hj hne h => woPhi_call hB5 h30 (fun e => by subst e; exact absurd (by decide) hj) (by simp) (by simp) h) (fun _ j h1 _ e => absurd e h1) ⟨c0, c1, c2, c3, m3, k3, c4, m4, k4, rfl, rfl, hF⟩
          · refine ⟨fun hg K hK => ?_, trivial⟩
            clear hg
            obtain ⟨c0, c1, c2, c3, m3, k3, c4, m4, k4, q0, h3, hF⟩ := hpre 6 (by decide)
            replace q0 : ev (.tmp 106) = _ := q0
            have HF := Lib.hid (And.intro h3 hF)
            clear hpre hψ hF h3
            go_simp
            exact hK _ _ γ HR.out (fun _ _ _ _ h => h) (fun _ _ _ h => h) ⟨c0, c1, c2, c3, m3, k3, c4, m4, k4, rfl, HF.out⟩
          · refine ⟨fun hg K hK => ?_, trivial⟩
            clear hg
            obtain ⟨c0, c1, c2, c3, m3, k3, c4, m4, k4, q0, h3, hF⟩ := hpre 7 (by decide)
            replace q0 : ev (.tmp 99) = _ := q0
            have HF := Lib.hid (And.intro h3 hF)
            clear hpre hψ hF h3
            go_simp
            exact hK _ _ γ HR.out (fun _ _ _ _ h => h) (fun _ _ _ h => h) ⟨c0, c1, c2, c3, m3, k3, c4, m4, k4, rfl, HF.out⟩
          · refine ⟨fun hg K hK => ?_, trivial⟩
            clear hg
            obtain ⟨c0, c1, c2, c3, m3, k3, c4, m4, k4, q0, h3, hF⟩ := hpre 7 (by decide)
            replace q0 : ev (.tmp 99) = _ := q0
            clear hpre hψ hF h3
            go_simp
            exact hK _ _ γ HR.out (fun _ _ _ _ h => h) (fun _ _ _ h => h) rfl
          · refine ⟨fun hg K hK => ?_, trivial⟩
            clear hg
            have HRW9 := HR
            have HP := Lib.hid hψ
            clear hpre hψ
            go_simp
            have hB5 : Below W.heap.size W (W.alloc (.cells #[.int .i64 0, .int .i64 0, .int .i64 0, .slice none 0 0, .slice none 0 0] 25)) := (Below.refl _ _).alloc (Nat.le_refl _) _
            exact hK _ _ (fun i => if i = 0 then W.heap.size else γ i) ⟨below3 HRW9.out.1 hB5 (Nat.le_refl _), by have := HRW9.out.2; have := hB5.size; simp; omega⟩ (fun j u hj hne h => woPhi_new (Keep.of_below hB5) hne (fun e => by subst e; exact absurd (by decide) hj) (by simp) (by simp) (by simp) h) (fun _ _ _ h => h) ⟨by simp, HRW9.out.1.size, Or.inr HRW9.out.2, _, _, _, _, _, heap_alloc_new W _⟩
          · refine ⟨fun hg K hK => ?_, trivial⟩
            clear hg
            obtain ⟨q4, h4B, h4l, x0, x1, x2, x3, x4, h4⟩ := hpre 10 (by decide)
            obtain ⟨c0, c1, c2, c3, m3, k3, c4, m4, k4, q3, h3, hF⟩ := hpre 8 (by decide)
            replace q4 : ev (.tmp 18) = _ := q4
            replace q3 : ev (.tmp 107) = _ := q3
            obtain ⟨g1, hg1⟩ : ∃ z, z = γ 0 := ⟨_, rfl⟩
            rw [← hg1] at q4 h4B h4 h4l
            have z11 := h4.lt
            have f11 := h4.frozen
            have HG1 := Lib.hid hg1
            have HXX := Lib.hid (And.intro h4 (And.intro h4B (And.intro h4l hF)))
            have x0' := h4.cell 0
            have x1' := h4.cell 1
            have x2' := h4.cell 2
            have x3' := h4.cell 3
            have x4' := h4.cell 4
            simp only [List.getElem?_toArray, List.getElem?_cons_zero, List.getElem?_cons_succ] at x0' x1' x2' x3' x4'
            have HRW9 := HR
            have HP := Lib.hid hψ
            clear hpre h4 h3 h4B h4l hg1 hψ hF
            go_simp
            obtain ⟨hb1, hb2, hbl, hF⟩ := HXX.out
            have hkk : Keep (fun b => b = g1) W (((((W.setCell ⟨g1, 0, none⟩ (.int .i64 c0)).setCell ⟨g1, 1, none⟩ (.int .i64 c1)).setCell ⟨g1, 2, none⟩ (.int .i64 c2)).setCell ⟨g1, 3, none⟩ (.slice c3 m3 k3)).setCell ⟨g1, 4, none⟩ (.slice c4 m4 k4)) := (((((Keep.refl (fun b => b = g1) W).setCell rfl _).setCell rfl _).setCell rfl _).setCell rfl _).setCell rfl _
            have hnb : Blk (((((W.setCell ⟨g1, 0, none⟩ (.int .i64 c0)).setCell ⟨g1, 1, none⟩ (.int .i64 c1)).setCell ⟨g1, 2, none⟩ (.int .i64 c2)).setCell ⟨g1, 3, none⟩ (.slice c3 m3 k3)).setCell ⟨g1, 4, none⟩ (.slice c4 m4 k4)) g1 25 #[.int .i64 c0, .int .i64 c1, .int .i64 c2, .slice c3 m3 k3, .slice c4 m4 k4] := by
              have h := ((((hb1.set_ 0 (.int .i64 c0)).set_ 1 (.int .i64 c1)).set_ 2 (.int .i64 c2)).set_ 3 (.slice c3 m3 k3)).set_ 4 (.slice c4 m4 k4)
              simpa using h
            rw [HG1.out] at hb1 hb2 hbl
            have hk0 : Keep (fun b => b = γ 0) W (((((W.setCell ⟨g1, 0, none⟩ (.int .i64 c0)).setCell ⟨g1, 1, none⟩ (.int .i64 c1)).setCell ⟨g1, 2, none⟩ (.int .i64 c2)).setCell ⟨g1, 3, none⟩ (.slice c3 m3 k3)).setCell ⟨g1, 4, none⟩ (.slice c4 m4 k4)) := hkk.mono (fun b e => by rw [e, HG1.out])
            have hnb0 : Blk (((((W.setCell ⟨g1, 0, none⟩ (.int .i64 c0)).setCell ⟨g1, 1, none⟩ (.int .i64 c1)).setCell ⟨g1, 2, none⟩ (.int .i64 c2)).setCell ⟨g1, 3, none⟩ (.slice c3 m3 k3)).setCell ⟨g1, 4, none⟩ (.slice c4 m4 k4)) (γ 0) 25 #[.int .i64 c0, .int .i64 c1, .int .i64 c2, .slice c3 m3 k3, .slice c4 m4 k4] := by rw [← HG1.out]; exact hnb
            exact hK undef _ γ ⟨HRW9.out.1.trans (hk0.below HRW9.out.1.size (fun b e => by rw [e]; exact hb2)), Nat.le_trans HRW9.out.2 hk0.size⟩ (fun j u _ hne h => woPhi_store hk0 hbl hnb0 hne h) (fun _ _ _ h => h) ⟨c0, c1, c2, c3, m3, k3, c4, m4, k4, hnb0, hF.next (hk0.mono (fun b e => by rw [e]; exact hbl))⟩
          · refine ⟨fun hg K hK => ?_, trivial⟩
            clear hg
            have q0 : ev (.tmp 108) = _ := hpre 9 (by decide)
            clear hpre hψ
            go_simp
            exact hK _ _ γ HR.out (fun _ _ _ _ h => h) (fun _ _ _ h => h) rfl
        · intro vs wh γ hvl hR hφ
          have q10 := hφ 10 (by decide)
          have q11 := hφ 11 (by decide)
          have q12 := hφ 12 (by decide)
          have HR := Lib.hid hR
          clear hφ hR
          match vs, hvl with
          | [y0, y1, y2, y3, y4, y5, y6, y7, y8, y9, y10, y11, y12], _ =>
          simp only [List.getD_cons_zero, List.getD_cons_succ] at q10 q11 q12
          obtain ⟨q10, _⟩ := q10
          obtain ⟨e0, e1, e2, e3, m3, k3, e4, m4, k4, hbk, hwF⟩ := q11
          obtain rfl : y10 = _ := q10
          obtain rfl : y12 = _ := q12
          obtain ⟨qh, hqh⟩ : ∃ z, z = γ 0 := ⟨_, rfl⟩
          rw [← hqh] at hbk ⊢
          have HWQ := Lib.hid (hwF _ (Keep.refl _ _))
          have QH := Lib.hid hbk
          have hBr := HR.out.1
          clear hqh hbk hwF HR
          have B13 : Hid (Below wr.heap.size wr wh) := Lib.hid hBr
          clear hBr
          simp [putAll]
          by_cases hC : ga.C = 1
          · have he : woErr ga = 2 := if_pos hC
            have hc1 : ((ga.C : Int) == 1) = true := by rw [beq_iff_eq]; omega
            rw [he]
            clear he
            have hbk := QA.out.below (below3 (below3 (below3 (below3 (below3 (below3 (below3 (below3 (below3 (below3 B3.out B4.out (Nat.le_refl _)) B5.out (Nat.le_refl _)) B6.out (Nat.le_refl _)) B7.out (Nat.le_refl _)) B8.out (Nat.le_refl _)) B9.out (Nat.le_refl _)) B10.out (Nat.le_refl _)) B11.out (Nat.le_refl _)) B12.out (Nat.le_refl _)) B13.out (Nat.le_refl _)) QA.out.lt
            have p1 := hbk.cell 1
            simp only [List.getElem?_toArray, List.getElem?_cons_zero, List.getElem?_cons_succ] at p1
            have zp := hbk.lt
            clear hbk
            clear hC
            go_wp2_with fail
            refine (KA.out _).mono ?_
            rintro e w90 ⟨rfl, hB⟩
            have B14 : Hid (Below wh.heap.size wh w90) := Lib.hid hB
            clear hB
            go_wp2
            go_ret
            exact ⟨rfl, (below3 (below3 (below3 (below3 (below3 (below3 (below3 (below3 (below3 (below3 (below3 (below3 (below3 (below3 B0.out B1.out (Nat.le_refl _)) B2.out (Nat.le_refl _)) B3.out (Nat.le_refl _)) B4.out (Nat.le_refl _)) B5.out (Nat.le_refl _)) B6.out (Nat.le_refl _)) B7.out (Nat.le_refl _)) B8.out (Nat.le_refl _)) B9.out (Nat.le_refl _)) B10.out (Nat.le_refl _)) B11.out (Nat.le_refl _)) B12.out (Nat.le_refl _)) B13.out (Nat.le_refl _)) B14.out (Nat.le_refl _))⟩
          · have hC2 : 2 ≤ ga.C := by have := OA.out.c0; omega
            have he : woErr ga = 0 := if_neg hC
            have hc1 : ((ga.C : Int) == 1) = false := by rw [beq_eq_false_iff_ne]; omega
            obtain ⟨lA, ln, lc, lb, lg, e9, hgi⟩ := HWQ.out hC2
            simp only [Value.agg.injEq, Array.mk.injEq, List.cons.injEq, Value.int.injEq, Value.slice.injEq, and_true, true_and] at e9
            obtain ⟨h0, h1, h2, ⟨h3, h4, h5⟩, h6, h7, h8⟩ := e9
            subst h0 h1 h2 h6 h7
            obtain rfl := h3.symm
            obtain rfl := h4.symm
            obtain rfl := h5.symm
            obtain rfl := h8.symm
            have OL : Hid (GmOk (lessG ga u)) := Lib.hid (lessG_ok OA.out HU.out hC2)
            have IL := Lib.hid hgi
            have hsub : ((ga.C - 1 : Nat) : Int) = (ga.C : Int) - 1 := by omega
            have KL : Hid (Calls Try.prog 20 #[.agg #[.int .i64 (ga.S : Int), .int .i64 ((ga.C : Int) - 1), .int .i64 (ga.H : Int), .slice lA ln lc, .slice (some ⟨lb, 0, none⟩) ga.S lg]] wh fun e w' => ∃ ib ic cb rb k, e = .returned (.tuple #[.agg #[.slice (some ⟨ib, 0, none⟩) ga.S ic, .slice (some ⟨cb, 0, none⟩) ga.S ga.S, .slice (some ⟨rb, 0, none⟩) ga.S ga.S], .int .i64 0]) ∧ Solved (lessG ga u) k ∧ SRows (wh).heap.size w' (itR (lessG ga u) k).1 (ctL (lessG ga u) (itR (lessG ga u) k).1) (itR (lessG ga u) k).2 ib cb rb ∧ Below (wh).heap.size wh w') := Lib.hid (by
              have h := Solve_any lA (some ⟨lb, 0, none⟩) ln lc lg (lessG ga u) wh hgi OL.out
              rw [show ((lessG ga u).C : Int) = (ga.C : Int) - 1 from hsub] at h
              exact h)
            rw [he]
            clear he hgi hsub hC hC2 HWQ
            have hbk := QA.out.below (below3 (below3 (below3 (below3 (below3 (below3 (below3 (below3 (below3 (below3 B3.out B4.out (Nat.le_refl _)) B5.out (Nat.le_refl _)) B6.out (Nat.le_refl _)) B7.out (Nat.le_refl _)) B8.out (Nat.le_refl _)) B9.out (Nat.le_refl _)) B10.out (Nat.le_refl _)) B11.out (Nat.le_refl _)) B12.out (Nat.le_refl _)) B13.out (Nat.le_refl _)) QA.out.lt
            have p1 := hbk.cell 1
            simp only [List.getElem?_toArray, List.getElem?_cons_zero, List.getElem?_cons_succ] at p1
            have zp := hbk.lt
            clear hbk
            have hbk := QH.out.below (Below.refl wh.heap.size wh) QH.out.lt
            have o0 := hbk.cell 0
            have o1 := hbk.cell 1
            have o2 := hbk.cell 2
            have o3 := hbk.cell 3
            have o4 := hbk.cell 4
            simp only [List.getElem?_toArray, List.getElem?_cons_zero, List.getElem?_cons_succ] at o0 o1 o2 o3 o4
            have zo := hbk.lt
            clear hbk
            go_wp2_with fail
            refine (KL.out).mono ?_
            rintro e w91 ⟨i5, d5, f5, r5, k5, rfl, hk, hs, hB⟩
            have B14 : Hid (Below wh.heap.size wh w91) := Lib.hid hB
            clear hB
            have S5 := Lib.hid hk
            have RR5 := Lib.hid (solved_rd OL.out hs).1
            clear hk hs p1 zp o0 o1 o2 o3 o4 zo KL
            go_wp2_with fail
            obtain ⟨qs, hqs⟩ : ∃ z, z = w91.heap.size := ⟨_, rfl⟩
            obtain ⟨w92, hw92⟩ : ∃ z, z = w91.alloc (.cells #[.slice (some ⟨i5, 0, none⟩) ga.S d5, .slice (some ⟨f5, 0, none⟩) ga.S ga.S, .slice (some ⟨r5, 0, none⟩) ga.S ga.S] 27) := ⟨_, rfl⟩
            have QS : Hid (Blk w92 qs 27 #[.slice (some ⟨i5, 0, none⟩) ga.S d5, .slice (some ⟨f5, 0, none⟩) ga.S ga.S, .slice (some ⟨r5, 0, none⟩) ga.S ga.S]) := Lib.hid (by rw [hw92, hqs]; exact heap_alloc_new w91 _)
            have Sw92 : Hid (w92.heap.size = qs + 1) := Lib.hid (by rw [hw92, hqs, World.size_alloc])
            have hBn : Below w91.heap.size w91 w92 := by rw [hw92]; exact (Below.refl _ _).alloc (Nat.le_refl _) _
            rw [← hw92, ← hqs]
            have B15 : Hid (Below w91.heap.size w91 w92) := Lib.hid hBn
            clear hw92 hqs hBn
            have HGS : Hid (1 ≤ ga.S ∧ ga.S ≤ 16) := Lib.hid ⟨OA.out.s0, SA.out.1⟩
            have HR5 := Lib.hid (RR5.out.next B15.out)
            have HR1 := Lib.hid (RR1.out.next (below3 (below3 (below3 (below3 (below3 (below3 (below3 (below3 (below3 (below3 B5.out B6.out (Nat.le_refl _)) B7.out (Nat.le_refl _)) B8.out (Nat.le_refl _)) B9.out (Nat.le_refl _)) B10.out (Nat.le_refl _)) B11.out (Nat.le_refl _)) B12.out (Nat.le_refl _)) B13.out (Nat.le_refl _)) B14.out (Nat.le_refl _)) B15.out (Nat.le_refl _)))
            have HQ1 := Lib.hid (QP.out.below (below3 (below3 (below3 (below3 (below3 (below3 (below3 (below3 (below3 B6.out B7.out (Nat.le_refl _)) B8.out (Nat.le_refl _)) B9.out (Nat.le_refl _)) B10.out (Nat.le_refl _)) B11.out (Nat.le_refl _)) B12.out (Nat.le_refl _)) B13.out (Nat.le_refl _)) B14.out (Nat.le_refl _)) B15.out (Nat.le_refl _)) QP.out.lt)
            have hgs := HGS.out
            go_loopw [131] (fun i wr => ∃ s : Nat, s ≤ ga.S ∧ i = .int .i64 s ∧ wr = w92) (fun i _ => ga.S - (intOf i).toNat)
            case atStart => exact ⟨0, by omega, rfl, rfl⟩
            case round =>
              obtain ⟨s, hs, rfl, hw9⟩ := hrel
              obtain rfl := hw9.symm
              by_cases hlt : s < ga.S
              · obtain ⟨b5, o5, x5, e5, hb5, hx5, hcx5⟩ := HR5.out.at_ hlt
                obtain ⟨rfl, rfl⟩ : b5 = i5 ∧ o5 = 0 := by simpa [eq_comm] using e5
                obtain ⟨b6, o6, x6, e6, hb6, hx6, hcx6⟩ := HR1.out.at_ hlt
                obtain ⟨rfl, rfl⟩ : b6 = i1 ∧ o6 = 0 := by simpa [eq_comm] using e6
                have cx5 := cellB hcx5
                have cx6 := cellB hcx6
                rw [Nat.zero_add] at cx5 cx6
                have zx5 := block_of_cell cx5
                have zx6 := block_of_cell cx6
                dsimp only at zx5 zx6
                have hle := less_safe (i := k1) OA.out HU.out OL.out S5.out s hlt
                rw [List.getD_eq_getElem?_getD, List.getD_eq_getElem?_getD, hx5, hx6] at hle
                simp only [Option.getD_some] at hle
                have r0 := HQ1.out.cell 0
                have zr := HQ1.out.lt
                simp only [List.getElem?_toArray, List.getElem?_cons_zero, List.getElem?_cons_succ] at r0
                have hk0 : (0 : Int) ≤ (s : Int) := by omega
                have hkn : (s : Int) < (ga.S : Int) := by omega
                clear hx5 hx6 hcx5 hcx6 e5 e6 hb5 hb6
                cases x5
                · clear hle
                  go_wp2
                  go_roundw
                  case rel => exact ⟨s + 1, by omega, by go_num, trivial⟩
                  case measure => simp [intOf]; omega
                · obtain rfl := hle rfl
                  clear hle
                  go_wp2
                  go_roundw
                  case rel => exact ⟨s + 1, by omega, by go_num, trivial⟩
                  case measure => simp [intOf]; omega
              · obtain rfl : ga.S = s := by omega
                go_wp2_with fail
                refine (KA.out _).mono ?_
                rintro e w93 ⟨rfl, hB⟩
                have B16 : Hid (Below w92.heap.size w92 w93) := Lib.hid hB
                clear hB
                go_wp2
                go_ret
                exact ⟨rfl, (below3 (below3 (below3 (below3 (below3 (below3 (below3 (below3 (below3 (below3 (below3 (below3 (below3 (below3 (below3 (below3 B0.out B1.out (Nat.le_refl _)) B2.out (Nat.le_refl _)) B3.out (Nat.le_refl _)) B4.out (Nat.le_refl _)) B5.out (Nat.le_refl _)) B6.out (Nat.le_refl _)) B7.out (Nat.le_refl _)) B8.out (Nat.le_refl _)) B9.out (Nat.le_refl _)) B10.out (Nat.le_refl _)) B11.out (Nat.le_refl _)) B12.out (Nat.le_refl _)) B13.out (Nat.le_refl _)) B14.out (Nat.le_refl _)) B15.out (Nat.le_refl _)) B16.out (Nat.le_refl _))⟩
  · have KP := Lib.hid (Product_many aN bN an ac ag bn bc bg ab 0 bb 0 ga gb w8 (IA.out.next' (below3 (below3 (below3 (below3 (below3 (below3 B1.out B2.out (Nat.le_refl _)) B3.out (Nat.le_refl _)) B4.out (Nat.le_refl _)) B5.out (Nat.le_refl _)) B6.out (Nat.le_refl _)) B7.out (Nat.le_refl _))) (IB.out.next' (below3 (below3 (below3 (below3 (below3 B2.out B3.out (Nat.le_refl _)) B4.out (Nat.le_refl _)) B5.out (Nat.le_refl _)) B6.out (Nat.le_refl _)) B7.out (Nat.le_refl _))) OA.out OB.out hfit)
    clear hfit hp hq hr
    refine (KP.out).mono ?_
    rintro e w10 ⟨rfl, hB⟩
    have B8 : Hid (Below w8.heap.size w8 w10) := Lib.hid hB
    clear hB
    go_wp2_with fail
    obtain ⟨qg, hqg⟩ : ∃ z, z = w10.heap.size := ⟨_, rfl⟩
    obtain ⟨w11, hw11⟩ : ∃ z, z = w10.alloc (.cells #[.int .i64 0, .int .i64 0, .int .i64 0, .slice none 0 0, .slice none 0 0] 25) := ⟨_, rfl⟩
    have QG : Hid (Blk w11 qg 25 #[.int .i64 0, .int .i64 0, .int .i64 0, .slice none 0 0, .slice none 0 0]) := Lib.hid (by rw [hw11, hqg]; exact heap_alloc_new w10 _)
    have Sw11 : Hid (w11.heap.size = qg + 1) := Lib.hid (by rw [hw11, hqg, World.size_alloc])
    have hBn : Below w10.heap.size w10 w11 := by rw [hw11]; exact (Below.refl _ _).alloc (Nat.le_refl _) _
    rw [← hw11, ← hqg]
    have B9 : Hid (Below w10.heap.size w10 w11) := Lib.hid hBn
    clear hw11 hqg hBn
    go_wp2
    refine wp_region_free10 12 (by kernel_rfl) [some 100, some 101, some 102, some 103, some 104, some 105, some 106, some 99, some 107, some 108, some 18, none, some 10] [[], [], [1], [], [3], [2, 4], [0, 5], [6], [7], [7], [], [10, 8, 6, 0, 1, 2, 3, 4, 5, 6, 7, 8, 10], [9, 11, 0, 1, 2, 3, 4, 5, 6, 7, 8, 9, 10, 11]] [(7, .pointer (some ⟨qa, 0, none⟩)), (2, .int .u8 x)] (woR w11) (woPhi w11 ga u qa x (.agg #[.int .i64 (ga.S : Int), .int .i64 (ga.C : Int), .int .i64 (ga.H : Int), .slice aN an ac, .slice (some ⟨ab, 0, none⟩) ga.S ag])) (fun i _ γ => i = 6 → γ 3 = 0) (by kernel_rfl) (by kernel_rfl) rfl (by kernel_rfl) ?_ ?_ ⟨fun _ => 0, ⟨(Below.refl _ _).drew, Nat.zero_le _⟩, fun i _ _ => rfl⟩ ?_ ?_
    · intro z hz
      simp only [List.mem_cons, List.mem_nil_iff, or_false] at hz
      rcases hz with rfl | rfl
      all_goals exact ⟨by kernel_rfl, rfl⟩
    · intro i v W γ hi h
      rcases i with _ | _ | _ | _ | _ | _ | _ | _ | _ | _ | _ | _ | _ | i
      all_goals first | exact h | (simp at hi)
    · refine ⟨?_, ?_, ?_, ?_, ?_, ?_, ?_, ?_, ?_, ?_, ?_, ?_, ?_, trivial⟩
      all_goals
        intro a9 W γ ev hcc hff hfx hR hψ hpre
        simp only [List.mem_cons, List.mem_nil_iff, or_false, forall_eq, forall_eq_or_imp] at hfx
        obtain ⟨f0, f1⟩ := hfx
        have HR := Lib.hid hR
        clear hR
      · refine ⟨fun hg K hK => ?_, trivial⟩
        clear hg
        have hbk := (QA.out.below (below3 (below3 (below3 (below3 (below3 (below3 B3.out B4.out (Nat.le_refl _)) B5.out (Nat.le_refl _)) B6.out (Nat.le_refl _)) B7.out (Nat.le_refl _)) B8.out (Nat.le_refl _)) B9.out (Nat.le_refl _)) QA.out.lt).below (show Below w11.heap.size w11 W from HR.out.1) (QA.out.below (below3 (below3 (below3 (below3 (below3 (below3 B3.out B4.out (Nat.le_refl _)) B5.out (Nat.le_refl _)) B6.out (Nat.le_refl _)) B7.out (Nat.le_refl _)) B8.out (Nat.le_refl _)) B9.out (Nat.le_refl _)) QA.out.lt).lt
        have hzg := hbk.lt
        have e0 := hbk.cell 0
        have e1 := hbk.cell 1
        have e2 := hbk.cell 2
        have e3 := hbk.cell 3
        have e4 := hbk.cell 4
        simp only [List.getElem?_toArray, List.getElem?_cons_zero, List.getElem?_cons_succ] at e0 e1 e2 e3 e4
        clear hbk
        clear hpre hψ
        go_simp
        exact hK _ _ γ HR.out (fun _ _ _ _ h => h) (fun _ _ _ h => h) rfl
      · refine ⟨fun hg K hK => ?_, trivial⟩
        clear hg
        clear hpre hψ
        go_simp
        exact hK _ _ γ HR.out (fun _ _ _ _ h => h) (fun _ _ _ h => h) rfl
      · refine ⟨fun hg K hK => ?_, trivial⟩
        clear hg
        have q0 : ev (.tmp 101) = _ := hpre 1 (by decide)
        have wx : IntKind.i64.wrap x = x := IntWalk.i64_in _ (by have := HX.out; omega)
        clear hpre hψ
        go_simp
        exact hK _ _ γ HR.out (fun _ _ _ _ h => h) (fun _ _ _ h => h) rfl
      · refine ⟨fun hg K hK => ?_, trivial⟩
        clear hg
        clear hpre hψ
        go_simp
        exact hK _ _ γ HR.out (fun _ _ _ _ h => h) (fun _ _ _ h => h) rfl
      · refine ⟨fun hg K hK => ?_, trivial⟩
        clear hg
        have q0 : ev (.tmp 103) = _ := hpre 3 (by decide)
        have hbk := (QA.out.below (below3 (below3 (below3 (below3 (below3 (below3 B3.out B4.out (Nat.le_refl _)) B5.out (Nat.le_refl _)) B6.out (Nat.le_refl _)) B7.out (Nat.le_refl _)) B8.out (Nat.le_refl _)) B9.out (Nat.le_refl _)) QA.out.lt).below (show Below w11.heap.size w11 W from HR.out.1) (QA.out.below (below3 (below3 (below3 (below3 (below3 (below3 B3.out B4.out (Nat.le_refl _)) B5.out (Nat.le_refl _)) B6.out (Nat.le_refl _)) B7.out (Nat.le_refl _)) B8.out (Nat.le_refl _)) B9.out (Nat.le_refl _)) QA.out.lt).lt
        have hzg := hbk.lt
        have e1 := hbk.cell 1
        simp only [List.getElem?_toArray, List.getElem?_cons_zero, List.getElem?_cons_succ] at e1
        clear hbk
        clear hpre hψ
        go_simp
        exact hK _ _ γ HR.out (fun _ _ _ _ h => h) (fun _ _ _ h => h) rfl
      · refine ⟨fun hg K hK => ?_, trivial⟩
        clear hg
        have q0 : ev (.tmp 102) = _ := hpre 2 (by decide)
        have q1 : ev (.tmp 104) = _ := hpre 4 (by decide)
        have wu : x.tmod (ga.C : Int) = (u : Int) := HUX.out.symm
        have wv : IntKind.i64.wrap (u : Int) = (u : Int) := IntWalk.i64_in _ (by have := HU.out; have := OA.out.c1; omega)
        have hc0 : ¬ (ga.C = 0) := by have := OA.out.c0; omega
        have hc1 : ¬ ((ga.C : Int) = 0) := by omega
        clear hpre hψ
        go_simp
        exact hK _ _ γ HR.out (fun _ _ _ _ h => h) (fun _ _ _ h => h) rfl
      · refine ⟨fun hg K hK => ?_, trivial⟩
        clear hg
        have q0 : ev (.tmp 100) = _ := hpre 0 (by decide)
        have q1 : ev (.tmp 105) = _ := hpre 5 (by decide)
        have h30 : γ 3 = 0 := hψ rfl
        have C := Lib.hid (without_law aN (some ⟨ab, 0, none⟩) an ac ag ga u W (IA.out.next' (below3 (below3 (below3 (below3 (below3 (below3 (below3 (below3 (below3 B1.out B2.out (Nat.le_refl _)) B3.out (Nat.le_refl _)) B4.out (Nat.le_refl _)) B5.out (Nat.le_refl _)) B6.out (Nat.le_refl _)) B7.out (Nat.le_refl _)) B8.out (Nat.le_refl _)) B9.out (Nat.le_refl _)) (show Below w11.heap.size w11 W from HR.out.1) (Nat.le_refl _))) OA.out HU.out)
        have HRW9 := HR
        clear hpre hψ
        go_simp
        refine C.out.mono ?_
        rintro e w5 ⟨c0, c1, c2, c3, m3, k3, c4, m4, k4, rfl, hF, hB5⟩
        exact hK _ w5 (fun i => if i = 1 then W.heap.size else if i = 2 then w5.heap.size else if i = 3 then 1 else γ i) ⟨below3 HRW9.out.1 hB5 (Nat.le_refl _), by simp⟩ (fun j u hj hne h => woPhi_call hB5 h30 (fun e => by subst e; exact absurd (by decide) hj) (by simp) (by simp) h) (fun _ j h1 _ e => absurd e h1) ⟨c0, c1, c2, c3, m3, k3, c4, m4, k4, rfl, rfl, hF⟩
      · refine ⟨fun hg K hK => ?_, trivial⟩
        clear hg
        obtain ⟨c0, c1, c2, c3, m3, k3, c4, m4, k4, q0, h3, hF⟩ := hpre 6 (by decide)
        replace q0 : ev (.tmp 106) = _ := q0
        have HF := Lib.hid (And.intro h3 hF)
        clear hpre hψ hF h3
        go_simp
        exact hK _ _ γ HR.out (fun _ _ _ _ h => h) (fun _ _ _ h => h) ⟨c0, c1, c2, c3, m3, k3, c4, m4, k4, rfl, HF.out⟩
      · refine ⟨fun hg K hK => ?_, trivial⟩
        clear hg
        obtain ⟨c0, c1, c2, c3, m3, k3, c4, m4, k4, q0, h3, hF⟩ := hpre 7 (by decide)
        replace q0 : ev (.tmp 99) = _ := q0
        have HF := Lib.hid (And.intro h3 hF)
        clear hpre hψ hF h3
        go_simp
        exact hK _ _ γ HR.out (fun _ _ _ _ h => h) (fun _ _ _ h => h) ⟨c0, c1, c2, c3, m3, k3, c4, m4, k4, rfl, HF.out⟩
      · refine ⟨fun hg K hK => ?_, trivial⟩
        clear hg
        obtain ⟨c0, c1, c2, c3, m3, k3, c4, m4, k4, q0, h3, hF⟩ := hpre 7 (by decide)
        replace q0 : ev (.tmp 99) = _ := q0
        clear hpre hψ hF h3
        go_simp
        exact hK _ _ γ HR.out (fun _ _ _ _ h => h) (fun _ _ _ h => h) rfl
      · refine ⟨fun hg K hK => ?_, trivial⟩
        clear hg
        have HRW9 := HR
        have HP := Lib.hid hψ
        clear hpre hψ
        go_simp
        have hB5 : Below W.heap.size W (W.alloc (.cells #[.int .i64 0, .int .i64 0, .int .i64 0, .slice none 0 0, .slice none 0 0] 25)) := (Below.refl _ _).alloc (Nat.le_refl _) _
        exact hK _ _ (fun i => if i = 0 then W.heap.size else γ i) ⟨below3 HRW9.out.1 hB5 (Nat.le_refl _), by have := HRW9.out.2; have := hB5.size; simp; omega⟩ (fun j u hj hne h => woPhi_new (Keep.of_below hB5) hne (fun e => by subst e; exact absurd (by decide) hj) (by simp) (by simp) (by simp) h) (fun _ _ _ h => h) ⟨by simp, HRW9.out.1.size, Or.inr HRW9.out.2, _, _, _, _, _, heap_alloc_new W _⟩
      · refine ⟨fun hg K hK => ?_, trivial⟩
        clear hg
        obtain ⟨q4, h4B, h4l, x0, x1, x2, x3, x4, h4⟩ := hpre 10 (by decide)
        obtain ⟨c0, c1, c2, c3, m3, k3, c4, m4, k4, q3, h3, hF⟩ := hpre 8 (by decide)
        replace q4 : ev (.tmp 18) = _ := q4
        replace q3 : ev (.tmp 107) = _ := q3
        obtain ⟨g1, hg1⟩ : ∃ z, z = γ 0 := ⟨_, rfl⟩
        rw [← hg1] at q4 h4B h4 h4l
        have z11 := h4.lt
        have f11 := h4.frozen
        have HG1 := Lib.hid hg1
        have HXX := Lib.hid (And.intro h4 (And.intro h4B (And.intro h4l hF)))
        have x0' := h4.cell 0
        have x1' := h4.cell 1
        have x2' := h4.cell 2
        have x3' := h4.cell 3
        have x4' := h4.cell 4
        simp only [List.getElem?_toArray, List.getElem?_cons_zero, List.getElem?_cons_succ] at x0' x1' x2' x3' x4'
        have HRW9 := HR
        have HP := Lib.hid hψ
        clear hpre h4 h3 h4B h4l hg1 hψ hF
        go_simp
        obtain ⟨hb1, hb2, hbl, hF⟩ := HXX.out
        have hkk : Keep (fun b => b = g1) W (((((W.setCell ⟨g1, 0, none⟩ (.int .i64 c0)).setCell ⟨g1, 1, none⟩ (.int .i64 c1)).setCell ⟨g1, 2, none⟩ (.int .i64 c2)).setCell ⟨g1, 3, none⟩ (.slice c3 m3 k3)).setCell ⟨g1, 4, none⟩ (.slice c4 m4 k4)) := (((((Keep.refl (fun b => b = g1) W).setCell rfl _).setCell rfl _).setCell rfl _).setCell rfl _).setCell rfl _
        have hnb : Blk (((((W.setCell ⟨g1, 0, none⟩ (.int .i64 c0)).setCell ⟨g1, 1, none⟩ (.int .i64 c1)).setCell ⟨g1, 2, none⟩ (.int .i64 c2)).setCell ⟨g1, 3, none⟩ (.slice c3 m3 k3)).setCell ⟨g1, 4, none⟩ (.slice c4 m4 k4)) g1 25 #[.int .i64 c0, .int .i64 c1, .int .i64 c2, .slice c3 m3 k3, .slice c4 m4 k4] := by
          have h := ((((hb1.set_ 0 (.int .i64 c0)).set_ 1 (.int .i64 c1)).set_ 2 (.int .i64 c2)).set_ 3 (.slice c3 m3 k3)).set_ 4 (.slice c4 m4 k4)
          simpa using h
        rw [HG1.out] at hb1 hb2 hbl
        have hk0 : Keep (fun b => b = γ 0) W (((((W.setCell ⟨g1, 0, none⟩ (.int .i64 c0)).setCell ⟨g1, 1, none⟩ (.int .i64 c1)).setCell ⟨g1, 2, none⟩ (.int .i64 c2)).setCell ⟨g1, 3, none⟩ (.slice c3 m3 k3)).setCell ⟨g1, 4, none⟩ (.slice c4 m4 k4)) := hkk.mono (fun b e => by rw [e, HG1.out])
        have hnb0 : Blk (((((W.setCell ⟨g1, 0, none⟩ (.int .i64 c0)).setCell ⟨g1, 1, none⟩ (.int .i64 c1)).setCell ⟨g1, 2, none⟩ (.int .i64 c2)).setCell ⟨g1, 3, none⟩ (.slice c3 m3 k3)).setCell ⟨g1, 4, none⟩ (.slice c4 m4 k4)) (γ 0) 25 #[.int .i64 c0, .int .i64 c1, .int .i64 c2, .slice c3 m3 k3, .slice c4 m4 k4] := by rw [← HG1.out]; exact hnb
        exact hK undef _ γ ⟨HRW9.out.1.trans (hk0.below HRW9.out.1.size (fun b e => by rw [e]; exact hb2)), Nat.le_trans HRW9.out.2 hk0.size⟩ (fun j u _ hne h => woPhi_store hk0 hbl hnb0 hne h) (fun _ _ _ h => h) ⟨c0, c1, c2, c3, m3, k3, c4, m4, k4, hnb0, hF.next (hk0.mono (fun b e => by rw [e]; exact hbl))⟩
      · refine ⟨fun hg K hK => ?_, trivial⟩
        clear hg
        have q0 : ev (.tmp 108) = _ := hpre 9 (by decide)
        clear hpre hψ
        go_simp
        exact hK _ _ γ HR.out (fun _ _ _ _ h => h) (fun _ _ _ h => h) rfl
    · intro vs wh γ hvl hR hφ
      have q10 := hφ 10 (by decide)
      have q11 := hφ 11 (by decide)
      have q12 := hφ 12 (by decide)
      have HR := Lib.hid hR
      clear hφ hR
      match vs, hvl with
      | [y0, y1, y2, y3, y4, y5, y6, y7, y8, y9, y10, y11, y12], _ =>
      simp only [List.getD_cons_zero, List.getD_cons_succ] at q10 q11 q12
      obtain ⟨q10, _⟩ := q10
      obtain ⟨e0, e1, e2, e3, m3, k3, e4, m4, k4, hbk, hwF⟩ := q11
      obtain rfl : y10 = _ := q10
      obtain rfl : y12 = _ := q12
      obtain ⟨qh, hqh⟩ : ∃ z, z = γ 0 := ⟨_, rfl⟩
      rw [← hqh] at hbk ⊢
      have HWQ := Lib.hid (hwF _ (Keep.refl _ _))
      have QH := Lib.hid hbk
      have hBr := HR.out.1
      clear hqh hbk hwF HR
      have B10 : Hid (Below w11.heap.size w11 wh) := Lib.hid hBr
      clear hBr
      simp [putAll]
      by_cases hC : ga.C = 1
      · have he : woErr ga = 2 := if_pos hC
        have hc1 : ((ga.C : Int) == 1) = true := by rw [beq_iff_eq]; omega
        rw [he]
        clear he
        have hbk := QA.out.below (below3 (below3 (below3 (below3 (below3 (below3 (below3 B3.out B4.out (Nat.le_refl _)) B5.out (Nat.le_refl _)) B6.out (Nat.le_refl _)) B7.out (Nat.le_refl _)) B8.out (Nat.le_refl _)) B9.out (Nat.le_refl _)) B10.out (Nat.le_refl _)) QA.out.lt
        have p1 := hbk.cell 1
        simp only [List.getElem?_toArray, List.getElem?_cons_zero, List.getElem?_cons_succ] at p1
        have zp := hbk.lt
        clear hbk
        clear hC
        go_wp2_with fail
        refine (KA.out _).mono ?_
        rintro e w90 ⟨rfl, hB⟩
        have B11 : Hid (Below wh.heap.size wh w90) := Lib.hid hB
        clear hB
        go_wp2
        go_ret
        exact ⟨rfl, (below3 (below3 (below3 (below3 (below3 (below3 (below3 (below3 (below3 (below3 (below3 B0.out B1.out (Nat.le_refl _)) B2.out (Nat.le_refl _)) B3.out (Nat.le_refl _)) B4.out (Nat.le_refl _)) B5.out (Nat.le_refl _)) B6.out (Nat.le_refl _)) B7.out (Nat.le_refl _)) B8.out (Nat.le_refl _)) B9.out (Nat.le_refl _)) B10.out (Nat.le_refl _)) B11.out (Nat.le_refl _))⟩
      · have hC2 : 2 ≤ ga.C := by have := OA.out.c0; omega
        have he : woErr ga = 0 := if_neg hC
        have hc1 : ((ga.C : Int) == 1) = false := by rw [beq_eq_false_iff_ne]; omega
        obtain ⟨lA, ln, lc, lb, lg, e9, hgi⟩ := HWQ.out hC2
        simp only [Value.agg.injEq, Array.mk.injEq, List.cons.injEq, Value.int.injEq, Value.slice.injEq, and_true, true_and] at e9
        obtain ⟨h0, h1, h2, ⟨h3, h4, h5⟩, h6, h7, h8⟩ := e9
        subst h0 h1 h2 h6 h7
        obtain rfl := h3.symm
        obtain rfl := h4.symm
        obtain rfl := h5.symm
        obtain rfl := h8.symm
        have OL : Hid (GmOk (lessG ga u)) := Lib.hid (lessG_ok OA.out HU.out hC2)
        have IL := Lib.hid hgi
        have hsub : ((ga.C - 1 : Nat) : Int) = (ga.C : Int) - 1 := by omega
        have KL : Hid (Calls Try.prog 20 #[.agg #[.int .i64 (ga.S : Int), .int .i64 ((ga.C : Int) - 1), .int .i64 (ga.H : Int), .slice lA ln lc, .slice (some ⟨lb, 0, none⟩) ga.S lg]] wh fun e w' => ∃ ib ic cb rb k, e = .returned (.tuple #[.agg #[.slice (some ⟨ib, 0, none⟩) ga.S ic, .slice (some ⟨cb, 0, none⟩) ga.S ga.S, .slice (some ⟨rb, 0, none⟩) ga.S ga.S], .int .i64 0]) ∧ Solved (lessG ga u) k ∧ SRows (wh).heap.size w' (itR (lessG ga u) k).1 (ctL (lessG ga u) (itR (lessG ga u) k).1) (itR (lessG ga u) k).2 ib cb rb ∧ Below (wh).heap.size wh w') := Lib.hid (by
          have h := Solve_any lA (some ⟨lb, 0, none⟩) ln lc lg (lessG ga u) wh hgi OL.out
          rw [show ((lessG ga u).C : Int) = (ga.C : Int) - 1 from hsub] at h
          exact h)
        rw [he]
        clear he hgi hsub hC hC2 HWQ
        have hbk := QA.out.below (below3 (below3 (below3 (below3 (below3 (below3 (below3 B3.out B4.out (Nat.le_refl _)) B5.out (Nat.le_refl _)) B6.out (Nat.le_refl _)) B7.out (Nat.le_refl _)) B8.out (Nat.le_refl _)) B9.out (Nat.le_refl _)) B10.out (Nat.le_refl _)) QA.out.lt
        have p1 := hbk.cell 1
        simp only [List.getElem?_toArray, List.getElem?_cons_zero, List.getElem?_cons_succ] at p1
        have zp := hbk.lt
        clear hbk
        have hbk := QH.out.below (Below.refl wh.heap.size wh) QH.out.lt
        have o0 := hbk.cell 0
        have o1 := hbk.cell 1
        have o2 := hbk.cell 2
        have o3 := hbk.cell 3
        have o4 := hbk.cell 4
        simp only [List.getElem?_toArray, List.getElem?_cons_zero, List.getElem?_cons_succ] at o0 o1 o2 o3 o4
        have zo := hbk.lt
        clear hbk
        go_wp2_with fail
        refine (KL.out).mono ?_
        rintro e w91 ⟨i5, d5, f5, r5, k5, rfl, hk, hs, hB⟩
        have B11 : Hid (Below wh.heap.size wh w91) := Lib.hid hB
        clear hB
        have S5 := Lib.hid hk
        have RR5 := Lib.hid (solved_rd OL.out hs).1
        clear hk hs p1 zp o0 o1 o2 o3 o4 zo KL
        go_wp2_with fail
        obtain ⟨qs, hqs⟩ : ∃ z, z = w91.heap.size := ⟨_, rfl⟩
        obtain ⟨w92, hw92⟩ : ∃ z, z = w91.alloc (.cells #[.slice (some ⟨i5, 0, none⟩) ga.S d5, .slice (some ⟨f5, 0, none⟩) ga.S ga.S, .slice (some ⟨r5, 0, none⟩) ga.S ga.S] 27) := ⟨_, rfl⟩
        have QS : Hid (Blk w92 qs 27 #[.slice (some ⟨i5, 0, none⟩) ga.S d5, .slice (some ⟨f5, 0, none⟩) ga.S ga.S, .slice (some ⟨r5, 0, none⟩) ga.S ga.S]) := Lib.hid (by rw [hw92, hqs]; exact heap_alloc_new w91 _)
        have Sw92 : Hid (w92.heap.size = qs + 1) := Lib.hid (by rw [hw92, hqs, World.size_alloc])
        have hBn : Below w91.heap.size w91 w92 := by rw [hw92]; exact (Below.refl _ _).alloc (Nat.le_refl _) _
        rw [← hw92, ← hqs]
        have B12 : Hid (Below w91.heap.size w91 w92) := Lib.hid hBn
        clear hw92 hqs hBn
        have HGS : Hid (1 ≤ ga.S ∧ ga.S ≤ 16) := Lib.hid ⟨OA.out.s0, SA.out.1⟩
        have HR5 := Lib.hid (RR5.out.next B12.out)
        have HR1 := Lib.hid (RR1.out.next (below3 (below3 (below3 (below3 (below3 (below3 (below3 B5.out B6.out (Nat.le_refl _)) B7.out (Nat.le_refl _)) B8.out (Nat.le_refl _)) B9.out (Nat.le_refl _)) B10.out (Nat.le_refl _)) B11.out (Nat.le_refl _)) B12.out (Nat.le_refl _)))
        have HQ1 := Lib.hid (QP.out.below (below3 (below3 (below3 (below3 (below3 (below3 B6.out B7.out (Nat.le_refl _)) B8.out (Nat.le_refl _)) B9.out (Nat.le_refl _)) B10.out (Nat.le_refl _)) B11.out (Nat.le_refl _)) B12.out (Nat.le_refl _)) QP.out.lt)
        have hgs := HGS.out
        go_loopw [131] (fun i wr => ∃ s : Nat, s ≤ ga.S ∧ i = .int .i64 s ∧ wr = w92) (fun i _ => ga.S - (intOf i).toNat)
        case atStart => exact ⟨0, by omega, rfl, rfl⟩
        case round =>
          obtain ⟨s, hs, rfl, hw9⟩ := hrel
          obtain rfl := hw9.symm
          by_cases hlt : s < ga.S
          · obtain ⟨b5, o5, x5, e5, hb5, hx5, hcx5⟩ := HR5.out.at_ hlt
            obtain ⟨rfl, rfl⟩ : b5 = i5 ∧ o5 = 0 := by simpa [eq_comm] using e5
            obtain ⟨b6, o6, x6, e6, hb6, hx6, hcx6⟩ := HR1.out.at_ hlt
            obtain ⟨rfl, rfl⟩ : b6 = i1 ∧ o6 = 0 := by simpa [eq_comm] using e6
            have cx5 := cellB hcx5
            have cx6 := cellB hcx6
            rw [Nat.zero_add] at cx5 cx6
            have zx5 := block_of_cell cx5
            have zx6 := block_of_cell cx6
            dsimp only at zx5 zx6
            have hle := less_safe (i := k1) OA.out HU.out OL.out S5.out s hlt
            rw [List.getD_eq_getElem?_getD, List.getD_eq_getElem?_getD, hx5, hx6] at hle
            simp only [Option.getD_some] at hle
            have r0 := HQ1.out.cell 0
            have zr := HQ1.out.lt
            simp only [List.getElem?_toArray, List.getElem?_cons_zero, List.getElem?_cons_succ] at r0
            have hk0 : (0 : Int) ≤ (s : Int) := by omega
            have hkn : (s : Int) < (ga.S : Int) := by omega
            clear hx5 hx6 hcx5 hcx6 e5 e6 hb5 hb6
            cases x5
            · clear hle
              go_wp2
              go_roundw
              case rel => exact ⟨s + 1, by omega, by go_num, trivial⟩
              case measure => simp [intOf]; omega
            · obtain rfl := hle rfl
              clear hle
              go_wp2
              go_roundw
              case rel => exact ⟨s + 1, by omega, by go_num, trivial⟩
              case measure => simp [intOf]; omega
          · obtain rfl : ga.S = s := by omega
            go_wp2_with fail
            refine (KA.out _).mono ?_
            rintro e w93 ⟨rfl, hB⟩
            have B13 : Hid (Below w92.heap.size w92 w93) := Lib.hid hB
            clear hB
            go_wp2
            go_ret
            exact ⟨rfl, (below3 (below3 (below3 (below3 (below3 (below3 (below3 (below3 (below3 (below3 (below3 (below3 (below3 B0.out B1.out (Nat.le_refl _)) B2.out (Nat.le_refl _)) B3.out (Nat.le_refl _)) B4.out (Nat.le_refl _)) B5.out (Nat.le_refl _)) B6.out (Nat.le_refl _)) B7.out (Nat.le_refl _)) B8.out (Nat.le_refl _)) B9.out (Nat.le_refl _)) B10.out (Nat.le_refl _)) B11.out (Nat.le_refl _)) B12.out (Nat.le_refl _)) B13.out (Nat.le_refl _))⟩
end Go.Proofs.Ytalngalikblgkaa
