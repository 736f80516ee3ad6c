/- keep: without. -/
import Derived.Test.YtalngalikblgkaaKpV

set_option linter.unusedSimpArgs false
set_option linter.unusedVariables false
namespace Go.Proofs.Ytalngalikblgkaa
open Go.RowKit

set_option maxRecDepth 100000 in
theorem after_base (nA gA : Option Addr) (nn nc gn gc : Nat) (g : Gm) (s u B : Nat) (w : World) (hin : GmIn w B ⟨nA, gA, nn, nc, gn, gc⟩ g) (ok : GmOk g) (hs : s < g.S) (hu : u < g.C) :
    Calls Try.prog 66 #[.agg #[.int .i64 (g.S : Int), .int .i64 (g.C : Int), .int .i64 (g.H : Int), .slice nA nn nc, .slice gA gn gc], .int .i64 (s : Int), .int .i64 (u : Int)] w fun e w' => ∃ A c, e = .returned (.slice A g.H c) ∧ Below w.heap.size w w' ∧ Rd w B 1 encI A g.H (subL g s u) := by
  have hix := sub_ix ok hs hu
  have hnn : nn = g.next.length := hin.next.1.symm
  have hh0 := ok.h0
  obtain ⟨b, off, e1, hb, _⟩ := hin.next.2 (by show 0 < nn; omega)
  have e1 : nA = some ⟨b, off, none⟩ := e1
  subst e1
  have hcap : nn ≤ nc := hin.cap
  have HRD : Hid (Rd w B 1 encI (some ⟨b, off + (s * g.C + u) * g.H, none⟩) g.H (subL g s u)) := Lib.hid (Rd.part hin.next _ _ (by show _ ≤ nn; omega))
  have h1 := ok.s1
  have h2 := ok.c1
  have h3 := ok.h1
  have hb1 : s * g.C ≤ 400 * 16 := Nat.mul_le_mul (by omega) h2
  have hb2 : (s * g.C + u) * g.H ≤ 6416 * 16 := Nat.mul_le_mul (by omega) h3
  obtain ⟨S, C, H, next, good⟩ := g
  dsimp only at *
  obtain ⟨f1, hf1⟩ : ∃ z, z = s * C := ⟨_, rfl⟩
  obtain ⟨f3, hf3⟩ : ∃ z, z = s * C + u := ⟨_, rfl⟩
  obtain ⟨f2, hf2⟩ : ∃ z, z = (s * C + u) * H := ⟨_, rfl⟩
  obtain ⟨f4, hf4⟩ : ∃ z, z = f2 + H := ⟨_, rfl⟩
  have w1 : IntKind.i64.wrap ((s : Int) * (C : Int)) = (f1 : Int) := by rw [← Int.natCast_mul, ← hf1]; exact IntWalk.i64_in _ (by omega)
  have w2 : IntKind.i64.wrap ((f1 : Int) + (u : Int)) = (f3 : Int) := by rw [← Int.natCast_add, hf1, ← hf3]; exact IntWalk.i64_in _ (by omega)
  have w3 : IntKind.i64.wrap ((f3 : Int) * (H : Int)) = (f2 : Int) := by rw [← Int.natCast_mul, hf3, ← hf2]; exact IntWalk.i64_in _ (by omega)
  have w4 : IntKind.i64.wrap ((f2 : Int) + (H : Int)) = (f4 : Int) := by rw [← Int.natCast_add, ← hf4]; exact IntWalk.i64_in _ (by omega)
  rw [← hf2] at hix HRD hb2
  rw [← hf4] at hix
  have q1 : f2 ≤ f4 := by omega
  have q2 : f4 ≤ nc := by omega
  have q3 : ¬ nc = f2 := by omega
  have q4 : f4 - f2 = H := by omega
  have q5 : (f2 : Int) ≤ (f4 : Int) := by omega
  have q6 : (f4 : Int) ≤ (nc : Int) := by omega
  clear hin ok hs hu hnn hcap h1 h2 h3 hb1 hf1 hf2 hf3 hf4 hb hix e1
  go_enter Try.func66, Try.ntmps66
  go_wp2
  go_ret
  exact ⟨_, _, rfl, by (repeat' (first | (with_reducible exact Below.refl _ _) | (with_reducible assumption) | (with_reducible refine below_drewN ?_ _) | (with_reducible refine below_after (by assumption) ?_ ?_) | (with_reducible refine Below.drew ?_) | (with_reducible refine Below.alloc ?_ ?_ _) | (with_reducible refine Below.setCell ?_ ?_ _) | omega | (simp; omega) | (simp; done))), HRD.out⟩
/-- What is left of a state's numbers, of those of all states. -/
def rowU (g : Gm) (u s v : Nat) : List Int := (List.range v).flatMap fun x => if x = u then [] else subL g s x
def allU (g : Gm) (u s : Nat) : List Int := (List.range s).flatMap fun x => rowU g u x g.C
theorem rowU_succ (g : Gm) (u s v : Nat) : rowU g u s (v + 1) = rowU g u s v ++ (if v = u then [] else subL g s v) := by unfold rowU; rw [List.range_succ, List.flatMap_append]; simp
theorem allU_succ (g : Gm) (u s : Nat) : allU g u (s + 1) = allU g u s ++ rowU g u s g.C := by unfold allU; rw [List.range_succ, List.flatMap_append]; simp
theorem rowU_len {g : Gm} (ok : GmOk g) {u s v : Nat} (hs : s < g.S) (hv : v ≤ g.C) : (rowU g u s v).length = (if u < v then v - 1 else v) * g.H := by
  induction v with
  | zero => simp [rowU]
  | succ v ih =>
    rw [rowU_succ, List.length_append, ih (by omega)]
    by_cases h : v = u
    · subst h
      rw [if_pos rfl, if_neg (by omega), if_pos (by omega)]
      simp
    · rw [if_neg h, sub_len ok hs (by omega), ← Nat.succ_mul]
      congr 1
      split <;> split <;> omega
theorem allU_len {g : Gm} (ok : GmOk g) {u s : Nat} (hu : u < g.C) (hs : s ≤ g.S) : (allU g u s).length = s * (g.C - 1) * g.H := by
  induction s with
  | zero => simp [allU]
  | succ s ih =>
    rw [allU_succ, List.length_append, ih (by omega), rowU_len ok (by omega) (Nat.le_refl _), if_pos hu, ← Nat.add_mul, ← Nat.succ_mul]
def lessG (g : Gm) (u : Nat) : Gm := ⟨g.S, g.C - 1, g.H, allU g u g.S, g.good⟩
theorem lessG_ok {g : Gm} (ok : GmOk g) {u : Nat} (hu : u < g.C) (hc : 2 ≤ g.C) : GmOk (lessG g u) where
  s0 := ok.s0
  s1 := ok.s1
  c0 := by show 1 ≤ g.C - 1; omega
  c1 := by have := ok.c1; show g.C - 1 ≤ 16; omega
  h0 := ok.h0
  h1 := ok.h1
  nl := allU_len ok hu (Nat.le_refl _)
  gl := ok.gl
  bd := fun x hx => by
    obtain ⟨s, _, hs⟩ := List.mem_flatMap.1 (show x ∈ allU g u g.S from hx)
    obtain ⟨v, _, hv⟩ := List.mem_flatMap.1 hs
    split at hv
    · simp at hv
    · exact sub_bd ok hv
/-- What holds between the rounds. -/
structure WiI (B : Nat) (w1 : World) (g : Gm) (lb ib ic : Nat) (nx : Value) (ls : List Int) (W : World) : Prop where
  low : Below B w1 W
  box : Blk W lb 25 #[.int .i64 (g.S : Int), .int .i64 ((g.C : Int) - 1), .int .i64 (g.H : Int), nx, .slice (some ⟨ib, 0, none⟩) g.S ic]
  row : W.ownsRow B 3 1 nx ls.length (ls.flatMap encI)
  good : RowW W ib 4 encB (some ⟨ib, 0, none⟩) g.good
  lbB : B ≤ lb
  ibB : B ≤ ib
theorem WiI.next {B : Nat} {w1 : World} {g : Gm} {lb ib ic : Nat} {nx : Value} {ls : List Int} {W W' : World} (h : WiI B w1 g lb ib ic nx ls W) (hB : B ≤ w1.heap.size) (hb : Below W.heap.size W W') : WiI B w1 g lb ib ic nx ls W' :=
  ⟨h.low.trans (hb.mono (Nat.le_trans hB h.low.size)), h.box.below hb h.box.lt, row_next h.row hb, rowW_next h.good hb, h.lbB, h.ibB⟩
def wiR (B : Nat) (w1 : World) (g : Gm) (lb ib ic : Nat) (nx : Value) (ls : List Int) (W : World) (γ : Nat → Nat) : Prop :=
  Below B w1 W ∧ RowW W ib 4 encB (some ⟨ib, 0, none⟩) g.good ∧ (γ 0 = 0 → Blk W lb 25 #[.int .i64 (g.S : Int), .int .i64 ((g.C : Int) - 1), .int .i64 (g.H : Int), nx, .slice (some ⟨ib, 0, none⟩) g.S ic]) ∧ (γ 1 = 0 → W.ownsRow B 3 1 nx ls.length (ls.flatMap encI))
def wiPhi (B : Nat) (g : Gm) (nA gA : Option Addr) (nn nc gc lb ib ic s u k : Nat) (nx : Value) (ls sl : List Int) : Nat → Value → World → (Nat → Nat) → Prop
  | 0, v, _, _ => v = .pointer (some ⟨lb, 3, none⟩)
  | 1, v, _, _ => v = nx
  | 2, v, _, _ => v = .agg #[.int .i64 (g.S : Int), .int .i64 (g.C : Int), .int .i64 (g.H : Int), .slice nA nn nc, .slice gA g.S gc]
  | 3, v, _, _ => v = .int .i64 (s : Int)
  | 4, v, _, _ => v = .int .i64 (u : Int)
  | 5, v, W, _ => ∃ A c, v = .slice A g.H c ∧ Rd W B 1 encI A g.H sl
  | 6, v, W, _ => ∃ A c, v = .slice A k c ∧ W.ownsRow B 3 1 (.slice A k c) k ((ls ++ sl).flatMap encI)
  | 7, v, _, _ => v = .pointer (some ⟨lb, 3, none⟩)
  | 8, _, W, _ => ∃ A c, Blk W lb 25 #[.int .i64 (g.S : Int), .int .i64 ((g.C : Int) - 1), .int .i64 (g.H : Int), .slice A k c, .slice (some ⟨ib, 0, none⟩) g.S ic] ∧ W.ownsRow B 3 1 (.slice A k c) k ((ls ++ sl).flatMap encI)
  | _, _, _, _ => True
section
variable {B : Nat} {g : Gm} {nA gA : Option Addr} {nn nc gc lb ib ic s u k : Nat} {nx : Value} {ls sl : List Int} {j : Nat} {v : Value} {W W' : World} {γ γ' : Nat → Nat}
theorem wiPhi_next (hB : B ≤ W.heap.size) (hb : Below W.heap.size W W') (h : wiPhi B g nA gA nn nc gc lb ib ic s u k nx ls sl j v W γ) : wiPhi B g nA gA nn nc gc lb ib ic s u k nx ls sl j v W' γ' := by
  unfold wiPhi at h ⊢
  split at h
  all_goals first | exact h | trivial | skip
  · obtain ⟨A, c, e, hr⟩ := h; exact ⟨A, c, e, hr.below (hb.mono hB)⟩
  · obtain ⟨A, c, e, hr⟩ := h; exact ⟨A, c, e, row_next hr hb⟩
  · obtain ⟨A, c, hr, hg⟩ := h; exact ⟨A, c, hr.below hb hr.lt, row_next hg hb⟩
theorem wiPhi_grown (h6 : j ≠ 6) (h8 : j ≠ 8) (hb : Below B W W') (h : wiPhi B g nA gA nn nc gc lb ib ic s u k nx ls sl j v W γ) : wiPhi B g nA gA nn nc gc lb ib ic s u k nx ls sl j v W' γ' := by
  unfold wiPhi at h ⊢
  split at h
  all_goals first | exact h | trivial | exact absurd rfl h6 | exact absurd rfl h8 | skip
  · obtain ⟨A, c, e, hr⟩ := h; exact ⟨A, c, e, hr.below hb⟩
theorem wiPhi_store {u0 : Value} {cs : Array Value} (hlb : B ≤ lb) (hbx : Blk W lb 25 cs) (h8 : j ≠ 8) (h : wiPhi B g nA gA nn nc gc lb ib ic s u k nx ls sl j v W γ) : wiPhi B g nA gA nn nc gc lb ib ic s u k nx ls sl j v (W.setCell ⟨lb, 3, none⟩ u0) γ' := by
  unfold wiPhi at h ⊢
  split at h
  all_goals first | exact h | trivial | exact absurd rfl h8 | skip
  · obtain ⟨A, c, e, hr⟩ := h; exact ⟨A, c, e, hr.below ((Below.refl B W).setCell hlb _)⟩
  · obtain ⟨A, c, e, hr⟩ := h; exact ⟨A, c, e, hr.kept (grown_set W lb 3 _) (Or.inr (own_ne hr hbx (by decide)).symm)⟩
end
def wcPhi (B gx : Nat) (g : Gm) (gA : Option Addr) (gc : Nat) : Nat → Value → World → (Nat → Nat) → Prop
  | 0, v, _, _ => v = .pointer (some ⟨gx, 0, none⟩)
  | 1, v, _, _ => v = .int .i64 (g.S : Int)
  | 2, v, _, _ => v = .pointer (some ⟨gx, 1, none⟩)
  | 3, v, _, _ => v = .int .i64 (g.C : Int)
  | 4, v, _, _ => v = .int .i64 ((g.C : Int) - 1)
  | 5, v, _, _ => v = .pointer (some ⟨gx, 2, none⟩)
  | 6, v, _, _ => v = .int .i64 (g.H : Int)
  | 7, v, _, _ => v = .pointer (some ⟨gx, 4, none⟩)
  | 8, v, _, _ => v = .slice gA g.S gc
  | 9, v, W, _ => ∃ ib ic, v = .slice (some ⟨ib, 0, none⟩) g.S ic ∧ RowW W ib 4 encB (some ⟨ib, 0, none⟩) g.good ∧ B ≤ ib
  | 10, v, W, _ => ∃ ib ic, v = .agg #[.int .i64 (g.S : Int), .int .i64 ((g.C : Int) - 1), .int .i64 (g.H : Int), .slice none 0 0, .slice (some ⟨ib, 0, none⟩) g.S ic] ∧ RowW W ib 4 encB (some ⟨ib, 0, none⟩) g.good ∧ B ≤ ib
  | 11, v, W, γ => v = .pointer (some ⟨γ 0, 0, none⟩) ∧ B ≤ γ 0 ∧ ∃ x0 x1 x2 x3 x4 : Value, Blk W (γ 0) 25 #[x0, x1, x2, x3, x4]
  | 12, _, W, γ => ∃ ib ic, Blk W (γ 0) 25 #[.int .i64 (g.S : Int), .int .i64 ((g.C : Int) - 1), .int .i64 (g.H : Int), .slice none 0 0, .slice (some ⟨ib, 0, none⟩) g.S ic] ∧ RowW W ib 4 encB (some ⟨ib, 0, none⟩) g.good ∧ B ≤ ib
  | _, _, _, _ => True
section
variable {B gx : Nat} {g : Gm} {gA : Option Addr} {gc : Nat} {j : Nat} {v : Value} {W W' : World} {γ γ' : Nat → Nat}
theorem wcPhi_next (hb : Below W.heap.size W W') (h : wcPhi B gx g gA gc j v W γ) : wcPhi B gx g gA gc j v W' γ := by
  unfold wcPhi at h ⊢
  split at h
  all_goals first | exact h | trivial | skip
  · obtain ⟨ib, ic, e, hr, hB⟩ := h; exact ⟨ib, ic, e, rowW_next hr hb, hB⟩
  · obtain ⟨ib, ic, e, hr, hB⟩ := h; exact ⟨ib, ic, e, rowW_next hr hb, hB⟩
  · obtain ⟨e, hB, x0, x1, x2, x3, x4, hr⟩ := h; exact ⟨e, hB, x0, x1, x2, x3, x4, hr.below hb hr.lt⟩
  · obtain ⟨ib, ic, hx, hr, hB⟩ := h; exact ⟨ib, ic, hx.below hb hx.lt, rowW_next hr hb, hB⟩
theorem wcPhi_ghost (h11 : j ≠ 11) (h12 : j ≠ 12) (h : wcPhi B gx g gA gc j v W γ) : wcPhi B gx g gA gc j v W γ' := by
  unfold wcPhi at h ⊢
  split at h
  all_goals first | exact h | trivial | exact absurd rfl h11 | exact absurd rfl h12
theorem wcPhi_store {cs : Array Value} {y0 y1 y2 y3 y4 : Value} (hk : Keep (fun b => b = γ 0) W W') (hg : Blk W (γ 0) 25 cs) (hg' : Blk W' (γ 0) 25 #[y0, y1, y2, y3, y4]) (h12 : j ≠ 12) (h : wcPhi B gx g gA gc j v W γ) : wcPhi B gx g gA gc j v W' γ := by
  unfold wcPhi at h ⊢
  split at h
  all_goals first | exact h | trivial | exact absurd rfl h12 | skip
  · obtain ⟨ib, ic, e, hr, hB⟩ := h; exact ⟨ib, ic, e, hr.kept (fun _ cur hc => hk.blk hc (blk_ne hc hg (by decide))), hB⟩
  · obtain ⟨ib, ic, e, hr, hB⟩ := h; exact ⟨ib, ic, e, hr.kept (fun _ cur hc => hk.blk hc (blk_ne hc hg (by decide))), hB⟩
  · obtain ⟨e, hB, _⟩ := h; exact ⟨e, hB, y0, y1, y2, y3, y4, hg'⟩
end
set_option maxRecDepth 100000 in
set_option maxHeartbeats 4000000 in
theorem without_any (nA gA : Option Addr) (nn nc gc : Nat) (g : Gm) (u : Nat) (w : World) (hin : GmIn w w.heap.size ⟨nA, gA, nn, nc, g.S, gc⟩ g) (ok : GmOk g) (hu : u < g.C) :
    Calls Try.prog 46 #[.agg #[.int .i64 (g.S : Int), .int .i64 (g.C : Int), .int .i64 (g.H : Int), .slice nA nn nc, .slice gA g.S gc], .int .i64 (u : Int)] w fun e w' => ∃ A n c ib ic, e = .returned (.agg #[.int .i64 (g.S : Int), .int .i64 ((g.C : Int) - 1), .int .i64 (g.H : Int), .slice A n c, .slice (some ⟨ib, 0, none⟩) g.S ic]) ∧ GmIn w' w'.heap.size ⟨A, some ⟨ib, 0, none⟩, n, c, g.S, ic⟩ (lessG g u) ∧ (∀ W' (Sx : Nat → Prop), Keep Sx w' W' → (∀ b, Sx b → b < w.heap.size) → GmIn W' W'.heap.size ⟨A, some ⟨ib, 0, none⟩, n, c, g.S, ic⟩ (lessG g u)) ∧ Below w.heap.size w w' := by
  have KC0 := Lib.hid (fun W (h : Below w.heap.size w W) => clone_row gA g.S gc g.good W (hin.good.next h) (by have := ok.s1; omega) ok.s0)
  have HIN := Lib.hid hin
  have HOK := Lib.hid ok
  have hs1 := ok.s1
  have hc1 := ok.c1
  have HH0 : Hid (0 < g.H) := Lib.hid ok.h0
  have hsub : IntKind.i64.wrap ((g.C : Int) - 1) = (g.C : Int) - 1 := IntWalk.i64_in _ (by omega)
  obtain ⟨i0, hi0, hi1, hi2, hi3⟩ := info_parts intInfo
  have hi := Lib.hid (And.intro hi0 (And.intro hi1 (And.intro hi2 hi3)))
  clear hin ok hi0 hi1 hi2 hi3
  go_enter Try.func46, Try.ntmps46
  go_wp2
  obtain ⟨gx, hgx⟩ : ∃ z, z = w.heap.size := ⟨_, rfl⟩
  obtain ⟨w1, hw1⟩ : ∃ z, z = (w.alloc (.cells #[.int .i64 (g.S : Int), .int .i64 (g.C : Int), .int .i64 (g.H : Int), .slice nA nn nc, .slice gA g.S gc] 25)).alloc (.cells #[.int .i64 0, .int .i64 0, .int .i64 0, .slice none 0 0, .slice none 0 0] 25) := ⟨_, rfl⟩
  have hl1 : Below w.heap.size w w1 := by rw [hw1]; (repeat' (first | (with_reducible exact Below.refl _ _) | (with_reducible assumption) | (with_reducible refine below_drewN ?_ _) | (with_reducible refine below_after (by assumption) ?_ ?_) | (with_reducible refine Below.drew ?_) | (with_reducible refine Below.alloc ?_ ?_ _) | (with_reducible refine Below.setCell ?_ ?_ _) | omega | (simp; omega) | (simp; done)))
  have HG2 : Hid (Blk w1 gx 25 #[.int .i64 (g.S : Int), .int .i64 (g.C : Int), .int .i64 (g.H : Int), .slice nA nn nc, .slice gA g.S gc]) := Lib.hid (by rw [hw1, hgx]; exact Blk.alloc (heap_alloc_new w _) _)
  have HRB : Hid (Blk w1 (gx + 1) 25 #[.int .i64 0, .int .i64 0, .int .i64 0, .slice none 0 0, .slice none 0 0]) := Lib.hid (by
    have e2 := heap_alloc_new (w.alloc (.cells #[.int .i64 (g.S : Int), .int .i64 (g.C : Int), .int .i64 (g.H : Int), .slice nA nn nc, .slice gA g.S gc] 25)) (.cells #[.int .i64 0, .int .i64 0, .int .i64 0, .slice none 0 0, .slice none 0 0] 25)
    simp only [World.size_alloc] at e2
    rw [hw1, hgx]
    exact e2)
  rw [← hw1, ← hgx]
  have HL := Lib.hid hl1
  have HZ : Hid (w.heap.size = gx ∧ w1.heap.size = gx + 2) := Lib.hid (by rw [hw1, hgx]; simp)
  have HIN1 : Hid (GmIn w1 w1.heap.size ⟨nA, gA, nn, nc, g.S, gc⟩ g) := Lib.hid (HIN.out.next' hl1)
  have KC := Lib.hid (fun W (h : Below w1.heap.size w1 W) => KC0.out W (below3 HL.out h (Nat.le_refl _)))
  clear hw1 hgx hl1 KC0
  refine wp_region_free10 12 (by kernel_rfl) [some 8, some 9, some 10, some 11, some 12, some 13, some 14, some 15, some 16, some 17, some 18, some 5, none] [[], [0], [], [2], [3], [], [5], [], [7], [8], [1, 4, 6, 9], [], [11, 10, 9, 0, 1, 2, 3, 4, 5, 6, 7, 8, 9, 10, 11]] [(2, .pointer (some ⟨gx, 0, none⟩))] (fun W _ => Below w1.heap.size w1 W) (wcPhi w1.heap.size gx g gA gc) (fun _ _ _ => True) (by kernel_rfl) (by kernel_rfl) rfl (by kernel_rfl) ?_ ?_ ⟨fun _ => 0, (Below.refl _ _).drew, fun i _ => trivial⟩ ?_ ?_
  · intro z hz
    simp only [List.mem_cons, List.mem_nil_iff, or_false] at hz
    subst hz
    all_goals exact ⟨by kernel_rfl, rfl⟩
  · intro i v W γ hi h
    rcases i with _ | _ | _ | _ | _ | _ | _ | _ | _ | _ | _ | _ | _ | i
    all_goals first | exact h | (simp at hi)
  · refine ⟨?_, ?_, ?_, ?_, ?_, ?_, ?_, ?_, ?_, ?_, ?_, ?_, ?_, trivial⟩
    all_goals
      intro a W γ ev hcc hff hfx hR hψ hpre
      simp only [List.mem_cons, List.mem_nil_iff, or_false, forall_eq, forall_eq_or_imp] at hfx
      have f0 := hfx
      clear hfx
      have HR := Lib.hid hR
      clear hR
      refine ⟨fun _ K hK => ?_, trivial⟩

    · clear hpre hψ
      go_simp
      exact hK _ _ γ HR.out (fun _ _ _ _ h => h) (fun _ _ _ h => h) rfl
    · have q0 : ev (.tmp 8) = _ := hpre 0 (by decide)
      have hbg := HG2.out.below (HR.out : Below w1.heap.size w1 W) HG2.out.lt
      have hzg := hbg.lt
      have e0 := hbg.cell 0
      simp only [List.getElem?_toArray, List.getElem?_cons_zero, List.getElem?_cons_succ] at e0
      clear hbg
      clear hpre hψ
      go_simp
      exact hK _ _ γ HR.out (fun _ _ _ _ h => h) (fun _ _ _ h => h) rfl
    · clear hpre hψ
      go_simp
      exact hK _ _ γ HR.out (fun _ _ _ _ h => h) (fun _ _ _ h => h) rfl
    · have q0 : ev (.tmp 10) = _ := hpre 2 (by decide)
      have hbg := HG2.out.below (HR.out : Below w1.heap.size w1 W) HG2.out.lt
      have hzg := hbg.lt
      have e1 := hbg.cell 1
      simp only [List.getElem?_toArray, List.getElem?_cons_zero, List.getElem?_cons_succ] at e1
      clear hbg
      clear hpre hψ
      go_simp
      exact hK _ _ γ HR.out (fun _ _ _ _ h => h) (fun _ _ _ h => h) rfl
    · have q0 : ev (.tmp 11) = _ := hpre 3 (by decide)
      clear hpre hψ
      go_simp
      exact hK _ _ γ HR.out (fun _ _ _ _ h => h) (fun _ _ _ h => h) rfl
    · clear hpre hψ
      go_simp
      exact hK _ _ γ HR.out (fun _ _ _ _ h => h) (fun _ _ _ h => h) rfl
    · have q0 : ev (.tmp 13) = _ := hpre 5 (by decide)
      have hbg := HG2.out.below (HR.out : Below w1.heap.size w1 W) HG2.out.lt
      have hzg := hbg.lt
      have e2 := hbg.cell 2
      simp only [List.getElem?_toArray, List.getElem?_cons_zero, List.getElem?_cons_succ] at e2
      clear hbg
      clear hpre hψ
      go_simp
      exact hK _ _ γ HR.out (fun _ _ _ _ h => h) (fun _ _ _ h => h) rfl
    · clear hpre hψ
      go_simp
      exact hK _ _ γ HR.out (fun _ _ _ _ h => h) (fun _ _ _ h => h) rfl
    · have q0 : ev (.tmp 15) = _ := hpre 7 (by decide)
      have hbg := HG2.out.below (HR.out : Below w1.heap.size w1 W) HG2.out.lt
      have hzg := hbg.lt
      have e4 := hbg.cell 4
      simp only [List.getElem?_toArray, List.getElem?_cons_zero, List.getElem?_cons_succ] at e4
      clear hbg
      clear hpre hψ
      go_simp
      exact hK _ _ γ HR.out (fun _ _ _ _ h => h) (fun _ _ _ h => h) rfl
    · have q0 : ev (.tmp 16) = _ := hpre 8 (by decide)
      have C := Lib.hid (KC.out W (HR.out : Below w1.heap.size w1 W))
      have HRW9 : Hid (Below w1.heap.size w1 W) := HR
      clear hpre
      go_simp
      refine C.out.mono ?_
      rintro e w5 ⟨b, c, rfl, hrow, hb, hB5⟩
      exact hK _ w5 γ (below3 HRW9.out hB5 (Nat.le_refl _)) (fun j u _ _ h => wcPhi_next hB5 h) (fun _ _ _ h => h) ⟨b, c, rfl, hrow, Nat.le_trans HRW9.out.size hb⟩
    · have q0 : ev (.tmp 9) = _ := hpre 1 (by decide)
      have q1 : ev (.tmp 12) = _ := hpre 4 (by decide)
      have q2 : ev (.tmp 14) = _ := hpre 6 (by decide)
      obtain ⟨ib, ic, q9, h9, h9b⟩ := hpre 9 (by decide)
      replace q9 : ev (.tmp 17) = _ := q9
      have HG := Lib.hid (And.intro h9 h9b)
      clear hpre h9 h9b
      go_simp
      exact hK _ _ γ HR.out (fun _ _ _ _ h => h) (fun _ _ _ h => h) ⟨ib, ic, rfl, HG.out.1, HG.out.2⟩
    · have HRW9 : Hid (Below w1.heap.size w1 W) := HR
      clear hpre
      go_simp
      have hB5 : Below W.heap.size W (W.alloc (.cells #[.int .i64 0, .int .i64 0, .int .i64 0, .slice none 0 0, .slice none 0 0] 25)) := (Below.refl _ _).alloc (Nat.le_refl _) _
      exact hK _ _ (fun i => if i = 0 then W.heap.size else γ i) (below3 HRW9.out hB5 (Nat.le_refl _)) (fun j u hj hne h => wcPhi_ghost hne (fun e => by subst e; exact absurd (by decide) hj) (wcPhi_next hB5 h)) (fun _ _ _ h => h) ⟨rfl, HRW9.out.size, _, _, _, _, _, heap_alloc_new W _⟩
    · obtain ⟨q11, h11B, x0, x1, x2, x3, x4, h11⟩ := hpre 11 (by decide)
      obtain ⟨ib, ic, q10, h10, h10b⟩ := hpre 10 (by decide)
      replace q11 : ev (.tmp 5) = _ := q11
      replace q10 : ev (.tmp 18) = _ := q10
      obtain ⟨g1, hg1⟩ : ∃ z, z = γ 0 := ⟨_, rfl⟩
      rw [← hg1] at q11 h11B h11
      have z11 := h11.lt
      have f11 := h11.frozen
      have HG1 := Lib.hid hg1
      have HX := Lib.hid (And.intro h11 (And.intro h11B (And.intro h10 h10b)))
      have c0 := h11.cell 0
      have c1 := h11.cell 1
      have c2 := h11.cell 2
      have c3 := h11.cell 3
      have c4 := h11.cell 4
      simp only [List.getElem?_toArray, List.getElem?_cons_zero, List.getElem?_cons_succ] at c0 c1 c2 c3 c4
      have HRW9 : Hid (Below w1.heap.size w1 W) := HR
      clear hpre h11 h10 h10b h11B hg1
      go_simp
      obtain ⟨hb1, hb2, hr1, hr2⟩ := HX.out
      have hkk : Keep (fun b => b = γ 0) W (((((W.setCell ⟨g1, 0, none⟩ (.int .i64 (g.S : Int))).setCell ⟨g1, 1, none⟩ (.int .i64 ((g.C : Int) - 1))).setCell ⟨g1, 2, none⟩ (.int .i64 (g.H : Int))).setCell ⟨g1, 3, none⟩ (.slice none 0 0)).setCell ⟨g1, 4, none⟩ (.slice (some ⟨ib, 0, none⟩) g.S ic)) := ((((((Keep.refl (fun b => b = γ 0) W).setCell HG1.out _).setCell HG1.out _).setCell HG1.out _).setCell HG1.out _).setCell HG1.out _)
      have hnb : Blk (((((W.setCell ⟨g1, 0, none⟩ (.int .i64 (g.S : Int))).setCell ⟨g1, 1, none⟩ (.int .i64 ((g.C : Int) - 1))).setCell ⟨g1, 2, none⟩ (.int .i64 (g.H : Int))).setCell ⟨g1, 3, none⟩ (.slice none 0 0)).setCell ⟨g1, 4, none⟩ (.slice (some ⟨ib, 0, none⟩) g.S ic)) g1 25 #[.int .i64 (g.S : Int), .int .i64 ((g.C : Int) - 1), .int .i64 (g.H : Int), .slice none 0 0, .slice (some ⟨ib, 0, none⟩) g.S ic] := by
        have h := (((((hb1.set_ 0 (.int .i64 (g.S : Int))).set_ 1 (.int .i64 ((g.C : Int) - 1))).set_ 2 (.int .i64 (g.H : Int))).set_ 3 (.slice none 0 0)).set_ 4 (.slice (some ⟨ib, 0, none⟩) g.S ic))
        simpa using h
      rw [HG1.out] at hb1 hb2 hnb
      refine hK undef _ γ (HRW9.out.trans (hkk.below HRW9.out.size (fun b e => by rw [e]; exact hb2))) (fun j u _ hne h => wcPhi_store hkk hb1 (by rw [HG1.out]; exact hnb) hne h) (fun _ _ _ h => h) ⟨ib, ic, (by rw [HG1.out]; exact hnb), hr1.kept (fun _ cur hc => hkk.blk hc (blk_ne hc hb1 (by decide))), hr2⟩
  · intro vs w' γ hvl hR hφ
    have q11 := hφ 11 (by decide)
    have q12 := hφ 12 (by decide)
    have HR := Lib.hid hR
    clear hφ hR
    match vs, hvl with
    | [y0, y1, y2, y3, y4, y5, y6, y7, y8, y9, y10, y11, y12], _ =>
    simp only [List.getD_cons_zero, List.getD_cons_succ] at q11 q12
    obtain ⟨e11, h11B, _⟩ := q11
    obtain ⟨ib, ic, hbk, hrow, hib⟩ := q12
    obtain ⟨lb, hlb⟩ : ∃ z, z = γ 0 := ⟨_, rfl⟩
    rw [← hlb] at e11 h11B hbk
    obtain rfl : y11 = _ := e11
    have HLBB : Hid (w1.heap.size ≤ lb) := Lib.hid h11B
    have HW0 : Hid (WiI w1.heap.size w1 g lb ib ic (.slice none 0 0) (allU g u 0) w') := Lib.hid ⟨HR.out, hbk, World.ownsRow_nil _ _ _ _, hrow, h11B, hib⟩
    have hbg := HG2.out.below HR.out HG2.out.lt
    have e0 := hbg.cell 0
    have zg := hbg.lt
    simp only [List.getElem?_toArray, List.getElem?_cons_zero, List.getElem?_cons_succ] at e0
    clear hbk hrow hib h11B hlb hbg
    simp [putAll]
    go_wp2
    go_loopw [21] (fun i wr => ∃ s : Nat, s ≤ g.S ∧ i = .int .i64 s ∧ ∃ nx, Hid (WiI w1.heap.size w1 g lb ib ic nx (allU g u s) wr)) (fun i _ => g.S - (intOf i).toNat)
    case atStart => exact ⟨0, by omega, rfl, _, HW0⟩
    case round =>
      obtain ⟨s, hs, rfl, nx0, HWo⟩ := hrel
      by_cases hlt : s < g.S
      · have hbg := HG2.out.below HWo.out.low HG2.out.lt
        have e1 := hbg.cell 1
        have zg := hbg.lt
        simp only [List.getElem?_toArray, List.getElem?_cons_zero, List.getElem?_cons_succ] at e1
        have hk0 : (0 : Int) ≤ (s : Int) := by omega
        have hkn : (s : Int) < (g.S : Int) := by omega
        have HW1 : Hid (WiI w1.heap.size w1 g lb ib ic nx0 (allU g u s ++ rowU g u s 0) wr) := Lib.hid (by rw [show rowU g u s 0 = [] from rfl, List.append_nil]; exact HWo.out)
        clear hbg
        go_wp2
        go_loopw [26] (fun i wr => ∃ v : Nat, v ≤ g.C ∧ i = .int .i64 v ∧ ∃ nx, Hid (WiI w1.heap.size w1 g lb ib ic nx (allU g u s ++ rowU g u s v) wr)) (fun i _ => g.C - (intOf i).toNat)
        case atStart => exact ⟨0, by omega, rfl, _, HW1⟩
        case round =>
          obtain ⟨v, hv, rfl, nx, HW⟩ := hrel
          by_cases hvl : v < g.C
          · have hv0 : (0 : Int) ≤ (v : Int) := by omega
            have hvn : (v : Int) < (g.C : Int) := by omega
            by_cases hvu : v = u
            · subst hvu
              have HW2 : Hid (WiI w1.heap.size w1 g lb ib ic nx (allU g v s ++ rowU g v s (v + 1)) wr) := Lib.hid (by rw [rowU_succ, if_pos rfl, List.append_nil]; exact HW.out)
              go_wp2
              go_roundw
              case rel => exact ⟨v + 1, by omega, by go_num, _, HW2⟩
              case measure => simp [intOf]; omega
            · have hne1 : ((v : Int) == (u : Int)) = false := by rw [beq_eq_false_iff_ne]; omega
              have hne2 : ¬ ((v : Int) = (u : Int)) := by omega
              obtain ⟨ls, hls⟩ : ∃ z, z = allU g u s ++ rowU g u s v := ⟨_, rfl⟩
              obtain ⟨sl, hsl⟩ : ∃ z, z = subL g s v := ⟨_, rfl⟩
              have HNX : Hid (ls ++ sl = allU g u s ++ rowU g u s (v + 1)) := Lib.hid (by rw [rowU_succ, if_neg hvu, hls, hsl, List.append_assoc])
              have hll : ls.length ≤ 102400 := by
                rw [hls, List.length_append, allU_len HOK.out hu hs, rowU_len HOK.out hlt hv]
                have b1 : s * (g.C - 1) ≤ 400 * 15 := Nat.mul_le_mul (by omega) (by omega)
                have b2 : s * (g.C - 1) * g.H ≤ 6000 * 16 := Nat.mul_le_mul (by omega) HOK.out.h1
                have b3 : (if u < v then v - 1 else v) * g.H ≤ 16 * 16 := Nat.mul_le_mul (by split <;> omega) HOK.out.h1
                omega
              have hsl2 : sl.length = g.H := by rw [hsl]; exact sub_len HOK.out hlt hvl
              have HLB : Hid (ls.length ≤ 102400 ∧ g.H ≤ 16) := Lib.hid ⟨hll, HOK.out.h1⟩
              obtain ⟨k, hk⟩ : ∃ z, z = ls.length + g.H := ⟨_, rfl⟩
              have HKN : Hid (k = ls.length + g.H) := Lib.hid hk
              have HKL : Hid ((ls ++ sl).length = k) := Lib.hid (by rw [List.length_append, hsl2, hk])
              rw [← hls] at HW
              have KA := Lib.hid (fun W (h : Below w1.heap.size w1 W) => after_base nA gA nn nc g.S gc g s v w1.heap.size W ⟨HIN1.out.next.below h, HIN1.out.good.below h, HIN1.out.cap⟩ HOK.out hlt hvl)
              rw [← hsl] at KA
              clear hls hsl hll hsl2 hk hvu
              go_wp2
              refine wp_region_free10 8 (by kernel_rfl) [some 32, some 33, some 34, some 35, some 36, some 37, some 38, some 39, none] [[], [0], [], [], [], [2, 3, 4], [1, 5, 5], [0, 1, 2, 3, 4, 5, 6], [7, 6, 6, 0, 1, 2, 3, 4, 5, 6]] [(5, .pointer (some ⟨lb, 0, none⟩)), (2, .pointer (some ⟨gx, 0, none⟩)), (6, .int .i64 (s : Int)), (7, .int .i64 (v : Int))] (wiR w1.heap.size w1 g lb ib ic nx ls) (wiPhi w1.heap.size g nA gA nn nc gc lb ib ic s v k nx ls sl) (fun i _ γ => γ 0 = 0 ∧ (i = 6 → γ 1 = 0)) (by kernel_rfl) (by kernel_rfl) rfl (by kernel_rfl) ?_ ?_ ⟨fun _ => 0, ⟨HW.out.low.drew, rowW_next HW.out.good (Below.refl _ _).drew, fun _ => HW.out.box.below (Below.refl _ _).drew HW.out.box.lt, fun _ => row_next HW.out.row (Below.refl _ _).drew⟩, fun i _ => ⟨rfl, fun _ => rfl⟩⟩ ?_ ?_
              · intro z hz
                simp only [List.mem_cons, List.mem_nil_iff, or_false] at hz
                rcases hz with rfl | rfl | rfl | rfl
                all_goals exact ⟨by kernel_rfl, rfl⟩
              · intro i v W γ hi h
                rcases i with _ | _ | _ | _ | _ | _ | _ | _ | _ | i
                all_goals first | exact h | (simp at hi)
              · refine ⟨?_, ?_, ?_, ?_, ?_, ?_, ?_, ?_, ?_, trivial⟩
                all_goals
                  intro a W γ ev hcc hff hfx hR hψ hpre
                  simp only [List.mem_cons, List.mem_nil_iff, or_false, forall_eq, forall_eq_or_imp] at hfx
                  obtain ⟨f0, f1, f2, f3⟩ := hfx
                  have HR := Lib.hid hR
                  clear hR
                  refine ⟨fun _ K hK => ?_, trivial⟩

                · clear hpre hψ
                  go_simp
                  exact hK _ _ γ HR.out (fun _ _ _ _ h => h) (fun _ _ _ h => h) rfl
                · have q0 : ev (.tmp 32) = _ := hpre 0 (by decide)
                  have hbx := HR.out.2.2.1 hψ.1
                  have hzx := hbx.lt
                  have c3 := hbx.cell 3
                  simp only [List.getElem?_toArray, List.getElem?_cons_zero, List.getElem?_cons_succ] at c3
                  clear hbx
                  clear hpre hψ
                  go_simp
                  exact hK _ _ γ HR.out (fun _ _ _ _ h => h) (fun _ _ _ h => h) rfl
                · have hbg := HG2.out.below (show Below w1.heap.size w1 W from HR.out.1) HG2.out.lt
                  have hzg := hbg.lt
                  have e0 := hbg.cell 0
                  have e1 := hbg.cell 1
                  have e2 := hbg.cell 2
                  have e3 := hbg.cell 3
                  have e4 := hbg.cell 4
                  simp only [List.getElem?_toArray, List.getElem?_cons_zero, List.getElem?_cons_succ] at e0 e1 e2 e3 e4
                  clear hbg
                  clear hpre hψ
                  go_simp
                  exact hK _ _ γ HR.out (fun _ _ _ _ h => h) (fun _ _ _ h => h) rfl
                · clear hpre hψ
                  go_simp
                  exact hK _ _ γ HR.out (fun _ _ _ _ h => h) (fun _ _ _ h => h) rfl
                · clear hpre hψ
                  go_simp
                  exact hK _ _ γ HR.out (fun _ _ _ _ h => h) (fun _ _ _ h => h) rfl
                · have q0 : ev (.tmp 34) = _ := hpre 2 (by decide)
                  have q1 : ev (.tmp 35) = _ := hpre 3 (by decide)
                  have q2 : ev (.tmp 36) = _ := hpre 4 (by decide)
                  have C := Lib.hid (KA.out W HR.out.1)
                  have HRW9 := HR
                  have HP := Lib.hid hψ
                  clear hpre hψ
                  go_simp
                  refine C.out.mono ?_
                  rintro e w5 ⟨A, c, rfl, hB5, hrd⟩
                  obtain ⟨r1, r2, r3, r4⟩ := HRW9.out
                  exact hK _ w5 γ ⟨below3 r1 hB5 (Nat.le_refl _), rowW_next r2 hB5, fun e => (r3 e).below hB5 (r3 e).lt, fun e => row_next (r4 e) hB5⟩ (fun j u _ _ h => wiPhi_next r1.size hB5 h) (fun _ _ _ h => h) ⟨A, c, rfl, hrd.below (hB5.mono r1.size)⟩
                · have q0 : ev (.tmp 33) = _ := hpre 1 (by decide)
                  have hγ1 : γ 1 = 0 := hψ.2 rfl
                  have hγ0 : γ 0 = 0 := hψ.1
                  obtain ⟨A, c, q5, hrd⟩ := hpre 5 (by decide)
                  replace q5 : ev (.tmp 37) = _ := q5
                  obtain ⟨r1, r2, r3, r4⟩ := HR.out
                  have hrow := r4 hγ1
                  have hbx := r3 hγ0
                  obtain ⟨ad, rfl⟩ : ∃ ad, A = some ad := by
                    obtain ⟨b, o, e, _⟩ := hrd.2 HH0.out
                    exact ⟨_, e⟩
                  obtain ⟨v', W', hr, h2, h3, _, _⟩ := run_append_own_at (P := Try.prog) W w1.heap.size 22 22 3 i0 (.int .i64 0) 1 8 Try.underlying22 hi.out.1 hi.out.2.1 hi.out.2.2.1 hi.out.2.2.2 rfl (by decide) nx ls.length (ls.flatMap encI) hrow ad g.H c (sl.flatMap encI) (by rw [encI_flat, List.length_map, hrd.1, Nat.mul_one]) (hrd.news (fun _ _ => rfl)) (one_flat (fun x _ u hu => by simp only [encI, List.mem_cons, List.mem_nil_iff, or_false] at hu; rcases hu with rfl <;> rfl)) (by have := HLB.out; simp only [maxLen]; omega) (by have := HLB.out; omega) r1.size
                  unfold execOp
                  simp only [resolve, invoke, builtin, Sem.run_bind, Sem.run_pure, Result.andThen_ok, List.map_toArray, List.map_cons, List.map_nil, q0, q5, hr]
                  rw [← List.flatMap_append] at h2
                  obtain ⟨A', c', e'⟩ := row_slice h2
                  subst e'
                  have hbl : Below w1.heap.size W W' := (Below.refl _ _).grown h3 r1.size (fun r e => (World.ownsRow.lt hrow r e).1)
                  refine hK _ W' (fun i => if i = 1 then 1 else γ i) ⟨r1.trans hbl, r2.kept (fun _ cur hb => hb.kept h3 (own_ne hrow hb (by decide))), fun e => hbx.kept h3 (own_ne hrow hbx (by decide)), fun e => by simp at e⟩ (fun j u hj hne h => wiPhi_grown hne (fun e => by subst e; exact absurd (by decide) hj) hbl h) (fun _ j h1 h2 => ⟨h2.1, fun e => absurd e h1⟩) ⟨A', c', by rw [HKN.out], by rw [HKN.out]; exact h2⟩
                · clear hpre hψ
                  go_simp
                  exact hK _ _ γ HR.out (fun _ _ _ _ h => h) (fun _ _ _ h => h) rfl
                · have q0 : ev (.tmp 39) = _ := hpre 7 (by decide)
                  have hγ0 : γ 0 = 0 := hψ.1
                  obtain ⟨A, c, q6, hrow⟩ := hpre 6 (by decide)
                  replace q6 : ev (.tmp 38) = _ := q6
                  obtain ⟨r1, r2, r3, r4⟩ := HR.out
                  have hbx := r3 hγ0
                  have hzx := hbx.lt
                  have fz := hbx.frozen
                  have c3 := hbx.cell 3
                  simp only [List.getElem?_toArray, List.getElem?_cons_zero, List.getElem?_cons_succ] at c3
                  have HX := Lib.hid (And.intro hbx (And.intro hrow (And.intro r1 r2)))
                  clear hpre hbx hrow r1 r2 r3 r4
                  go_simp
                  obtain ⟨hbx, hrow, r1, r2⟩ := HX.out
                  refine hK undef _ (fun _ => 1) ⟨r1.setCell HLBB.out _, ((r2.kept (fun _ cur hb => hb.kept (grown_set W lb 3 _) (by intro e; cases e; exact blk_ne hb hbx (by decide) rfl)))), fun e => by simp at e, fun e => by simp at e⟩ (fun j u h1 h2 h3 => wiPhi_store HLBB.out hbx h2 h3) (fun h => absurd rfl h) ⟨A, c, ?_, hrow.kept (grown_set W lb 3 _) (Or.inr (own_ne hrow hbx (by decide)).symm)⟩
                  have h := hbx.set_ 3 (.slice A k c)
                  simpa using h
              · intro vs w' γ hvl hR hφ
                have q8 := hφ 8 (by decide)
                have HR := Lib.hid hR
                clear hφ hR
                match vs, hvl with
                | [y0, y1, y2, y3, y4, y5, y6, y7, y8], _ =>
                simp only [List.getD_cons_zero, List.getD_cons_succ] at q8
                obtain ⟨A, c, hbx, hro⟩ := q8
                obtain ⟨r1, r2, _, _⟩ := HR.out
                have HN : Hid (WiI w1.heap.size w1 g lb ib ic (.slice A k c) (allU g u s ++ rowU g u s (v + 1)) w') := Lib.hid (by
                  rw [← HNX.out]
                  exact ⟨r1, hbx, by rw [HKL.out]; exact hro, r2, HLBB.out, HW.out.ibB⟩)
                clear hbx hro r1 r2 HR
                simp [putAll]
                go_wp2
                go_roundw
                case rel => exact ⟨v + 1, by omega, by go_num, _, HN⟩
                case measure => simp [intOf]; omega
          · obtain rfl : g.C = v := by omega
            have HW2 : Hid (WiI w1.heap.size w1 g lb ib ic nx (allU g u (s + 1)) wr) := Lib.hid (by rw [allU_succ]; exact HW.out)
            go_wp2
            go_roundw
            case rel => exact ⟨s + 1, by omega, by go_num, _, HW2⟩
            case measure => simp [intOf]; omega
      · obtain rfl : g.S = s := by omega
        obtain ⟨A, c, hnx⟩ := row_slice HWo.out.row
        obtain ⟨n, hn⟩ : ∃ z, z = (allU g u g.S).length := ⟨_, rfl⟩
        rw [← hn] at hnx
        subst hnx
        have hbk := HWo.out.box
        have c0 := hbk.cell 0
        have c1 := hbk.cell 1
        have c2 := hbk.cell 2
        have c3 := hbk.cell 3
        have c4 := hbk.cell 4
        have hres := HRB.out.below HWo.out.low HRB.out.lt
        obtain ⟨rx, hrx⟩ : ∃ z, z = gx + 1 := ⟨_, rfl⟩
        rw [← hrx] at hres
        have d0 := hres.cell 0
        have d1 := hres.cell 1
        have d2 := hres.cell 2
        have d3 := hres.cell 3
        have d4 := hres.cell 4
        simp only [List.getElem?_toArray, List.getElem?_cons_zero, List.getElem?_cons_succ] at c0 c1 c2 c3 c4 d0 d1 d2 d3 d4
        have zb := hbk.lt
        have zr := hres.lt
        have fr := hres.frozen
        obtain ⟨W', hW'⟩ : ∃ z, z = (((((wr.setCell ⟨rx, 0, none⟩ (.int .i64 (g.S : Int))).setCell ⟨rx, 1, none⟩ (.int .i64 ((g.C : Int) - 1))).setCell ⟨rx, 2, none⟩ (.int .i64 (g.H : Int))).setCell ⟨rx, 3, none⟩ (.slice A n c)).setCell ⟨rx, 4, none⟩ (.slice (some ⟨ib, 0, none⟩) g.S ic)) := ⟨_, rfl⟩
        have hkk : Keep (fun b => b = rx) wr W' := by rw [hW']; exact ((((((Keep.refl (fun b => b = rx) wr).setCell rfl _).setCell rfl _).setCell rfl _).setCell rfl _).setCell rfl _)
        have hrow : Blk W' rx 25 #[.int .i64 (g.S : Int), .int .i64 ((g.C : Int) - 1), .int .i64 (g.H : Int), .slice A n c, .slice (some ⟨ib, 0, none⟩) g.S ic] := by
          have h := (((((hres.set_ 0 (.int .i64 (g.S : Int))).set_ 1 (.int .i64 ((g.C : Int) - 1))).set_ 2 (.int .i64 (g.H : Int))).set_ 3 (.slice A n c)).set_ 4 (.slice (some ⟨ib, 0, none⟩) g.S ic))
          rw [hW']
          simpa using h
        have hz := HZ.out
        have hro : W'.ownsRow w1.heap.size 3 1 (.slice A n c) n ((allU g u g.S).flatMap encI) := by
          have h := HWo.out.row
          rw [← hn] at h
          refine ⟨h.1, ?_⟩
          rcases h.2 with h | ⟨g9, cap, cur, hv9, hb9, hg9, h7⟩
          · exact .inl h
          · exact .inr ⟨g9, cap, cur, hv9, hb9, hkk.blk (show Blk wr g9 _ cur from hg9) (by omega), h7⟩
        have hcap : n ≤ c := by
          rcases hro.2 with ⟨e, h⟩ | ⟨g9, cap, cur, hv9, hb9, hg9, h7, _⟩
          · omega
          · cases hv9; exact h7
        have hib := HWo.out.ibB
        have hrwg := rowW_keep HWo.out.good hkk (show ¬ (ib = rx) by omega)
        have hlat : ∀ W2 (Sy : Nat → Prop), Keep Sy W' W2 → (∀ b, Sy b → b < w.heap.size) → GmIn W2 W2.heap.size ⟨A, some ⟨ib, 0, none⟩, n, c, g.S, ic⟩ (lessG g u) := fun W2 Sy hk2 hSy => by
          have hro2 : W2.ownsRow w1.heap.size 3 1 (.slice A n c) n ((allU g u g.S).flatMap encI) := by
            refine ⟨hro.1, ?_⟩
            rcases hro.2 with h | ⟨g9, cap, cur, hv9, hb9, hg9, h7⟩
            · exact .inl h
            · exact .inr ⟨g9, cap, cur, hv9, hb9, hk2.blk (show Blk W' g9 _ cur from hg9) (fun hS => by have := hSy _ hS; omega), h7⟩
          exact ⟨row_rd (fun _ => rfl) hn.symm hro2, (rowW_keep hrwg hk2 (fun hS => by have := hSy _ hS; omega)).rd (size := 1) (fun _ => rfl) HOK.out.gl, hcap⟩
        have HFIN : Hid (GmIn W' W'.heap.size ⟨A, some ⟨ib, 0, none⟩, n, c, g.S, ic⟩ (lessG g u) ∧ (∀ W2 (Sy : Nat → Prop), Keep Sy W' W2 → (∀ b, Sy b → b < w.heap.size) → GmIn W2 W2.heap.size ⟨A, some ⟨ib, 0, none⟩, n, c, g.S, ic⟩ (lessG g u)) ∧ Below w.heap.size w W') := Lib.hid ⟨⟨row_rd (fun _ => rfl) hn.symm hro, hrwg.rd (size := 1) (fun _ => rfl) HOK.out.gl, hcap⟩, hlat,
          (HL.out.trans (HWo.out.low.mono HL.out.size)).trans (hkk.below (by have := HWo.out.low.size; have := HL.out.size; omega) (fun b e => by rw [e]; omega))⟩
        have HROW := Lib.hid hrow
        clear hbk hres hkk hrow hro hcap hib hn hz hrwg hlat
        rw [← hrx]
        clear hrx
        go_wp2
        rw [← hW']
        refine bodyPost_ret (results_cell_row rfl _ _ rx 25 _ _ _ rfl HROW.out Try.underlying25 rfl (by kernel_rfl)) rfl ?_
        exact ⟨A, n, c, ib, ic, rfl, HFIN.out⟩
end Go.Proofs.Ytalngalikblgkaa
