/- KeepGreatest: certificates under way. -/
import Derived.Test.YtalngalikblgkaaKpGa

set_option linter.unusedSimpArgs false
set_option linter.unusedVariables false
namespace Go.Proofs.Ytalngalikblgkaa
open Go.RowKit

/-- A row of so many numbers, whichever. -/
def IR (S : Nat) (W : World) (b : Nat) : Prop := ∃ l : List Int, l.length = S ∧ RowW W b 3 encI (some ⟨b, 0, none⟩) l
section
variable {S : Nat} {W W' : World} {b b0 s : Nat} {v : Int}
theorem IR.next (h : IR S W b) (hb : Below W.heap.size W W') : IR S W' b := by
  obtain ⟨l, h1, h2⟩ := h
  exact ⟨l, h1, rowW_next h2 hb⟩
theorem IR.keep {Sx : Nat → Prop} (h : IR S W b) (hk : Keep Sx W W') (hn : ¬ Sx b) : IR S W' b := by
  obtain ⟨l, h1, h2⟩ := h
  exact ⟨l, h1, rowW_keep h2 hk hn⟩
theorem IR.blk (h : IR S W b) (hS : 1 ≤ S) : ∃ cur, Blk W b 3 cur := by
  obtain ⟨l, h1, h2⟩ := h
  exact rowW_blk h2 (by omega)
theorem IR.at_ (h : IR S W b) (hs : s < S) : b < W.heap.size ∧ (∀ o, W.frozen? ⟨b, o, none⟩ = false) ∧ ∃ y, W.cell? ⟨b, s, none⟩ = some (.int .i64 y) := by
  obtain ⟨l, h1, h2⟩ := h
  have hl : s < l.length := by omega
  obtain ⟨_, hb, hf, hc⟩ := h2.at_ (size := 1) (fun _ => rfl) (List.getElem?_eq_getElem hl)
  refine ⟨hb, hf, l[s], ?_⟩
  have := hc 0 _ rfl
  simpa using this
theorem IR.store (h : IR S W b) (h0 : IR S W b0) (hs : s < S) : IR S (W.setCell ⟨b0, s, none⟩ (.int .i64 v)) b := by
  by_cases e : b = b0
  · subst e
    obtain ⟨l, h1, h2⟩ := h
    have hl : s < l.length := by omega
    refine ⟨l.set s v, by rw [List.length_set]; exact h1, ?_⟩
    have := h2.set_ (size := 1) (fun _ => rfl) (i := s) (x := l[s]) (x' := v) (j := 0) (u := .int .i64 v) (List.getElem?_eq_getElem hl) (by omega) rfl
    simpa using this
  · exact h.keep ((Keep.refl (fun k => k = b0) W).setCell rfl _) e
theorem IR.rd (h : IR S W b) : ∃ l : List Int, l.length = S ∧ Rd W W.heap.size 1 encI (some ⟨b, 0, none⟩) S l := by
  obtain ⟨l, h1, h2⟩ := h
  exact ⟨l, h1, h2.rd (fun _ => rfl) h1⟩
end
theorem clone_rowI (A : Option Addr) (n c : Nat) (l : List Int) (w : World) (hr : Rd w w.heap.size 1 encI A n l) (hn : n ≤ 1000000) (h1 : 1 ≤ n) :
    Calls Try.prog 27 #[.slice A n c] w fun e w' => ∃ (b c' : Nat), e = .returned (.slice (some ⟨b, 0, none⟩) n c') ∧ IR n w' b ∧ w.heap.size ≤ b ∧ Below w.heap.size w w' :=
  (clone_ints A n c l w hr hn).mono (fun e w' ⟨A', c', he, hown, hB, _⟩ => by
    have hl := hr.1
    rw [← hl] at hown
    obtain ⟨A2, c2, b, e2, hw, hb⟩ := RowW.of_own (f := encI) hown
    cases e2
    obtain ⟨h3, h4⟩ := hb (by omega)
    obtain rfl : A' = some ⟨b, 0, none⟩ := by
      rcases hw with h | ⟨h, _⟩
      · rw [h] at hl; simp at hl; omega
      · exact h
    rw [← hl]
    exact ⟨b, c', by rw [he, hl], ⟨l, rfl, hw⟩, h3, hB⟩)
/-- The certificates x and y while their numbers are written. -/
structure GI (X : World) (S : Nat) (inn : List Bool) (qx qy d1 d2 xi xc xr yc yr a1 a2 a3 : Nat) (sv dv1 dv2 : Value) (n : Nat) (W : World) : Prop where
  low : Below X.heap.size X W
  bx : Blk W qx 27 #[.slice (some ⟨xi, 0, none⟩) S a1, .slice (some ⟨xc, 0, none⟩) S a2, .slice (some ⟨xr, 0, none⟩) S a3]
  by_ : Blk W qy 27 #[sv, .slice (some ⟨yc, 0, none⟩) S S, .slice (some ⟨yr, 0, none⟩) S S]
  dx : ∃ i, i ≤ n ∧ Blk W d1 60 #[dv1, .int .i64 ((i : Nat) : Int)]
  dq : ∃ i, i ≤ n ∧ Blk W d2 60 #[dv2, .int .i64 ((i : Nat) : Int)]
  xin : RowW W xi 4 encB (some ⟨xi, 0, none⟩) inn
  rows : ∀ b, (b = xc ∨ b = xr ∨ b = yc ∨ b = yr) → IR S W b
section
variable {X W W' : World} {S : Nat} {inn : List Bool} {qx qy d1 d2 xi xc xr yc yr a1 a2 a3 : Nat} {sv dv1 dv2 : Value} {n m : Nat}
theorem GI.next (h : GI X S inn qx qy d1 d2 xi xc xr yc yr a1 a2 a3 sv dv1 dv2 n W) (hb : Below W.heap.size W W') : GI X S inn qx qy d1 d2 xi xc xr yc yr a1 a2 a3 sv dv1 dv2 n W' :=
  ⟨below3 h.low hb (Nat.le_refl _), h.bx.below hb h.bx.lt, h.by_.below hb h.by_.lt, (let ⟨i, h1, h2⟩ := h.dx; ⟨i, h1, h2.below hb h2.lt⟩), (let ⟨i, h1, h2⟩ := h.dq; ⟨i, h1, h2.below hb h2.lt⟩), rowW_next h.xin hb, fun b e => (h.rows b e).next hb⟩
theorem GI.mono (h : GI X S inn qx qy d1 d2 xi xc xr yc yr a1 a2 a3 sv dv1 dv2 n W) (hm : n ≤ m) : GI X S inn qx qy d1 d2 xi xc xr yc yr a1 a2 a3 sv dv1 dv2 m W :=
  ⟨h.low, h.bx, h.by_, (let ⟨i, h1, h2⟩ := h.dx; ⟨i, Nat.le_trans h1 hm, h2⟩), (let ⟨i, h1, h2⟩ := h.dq; ⟨i, Nat.le_trans h1 hm, h2⟩), h.xin, h.rows⟩
theorem GI.store {b0 s : Nat} {v : Int} (h : GI X S inn qx qy d1 d2 xi xc xr yc yr a1 a2 a3 sv dv1 dv2 n W) (hb : b0 = xc ∨ b0 = xr ∨ b0 = yc ∨ b0 = yr) (hX : X.heap.size ≤ b0) (hs : s < S) (hI : 1 ≤ inn.length) : GI X S inn qx qy d1 d2 xi xc xr yc yr a1 a2 a3 sv dv1 dv2 n (W.setCell ⟨b0, s, none⟩ (.int .i64 v)) := by
  have h0 := h.rows b0 hb
  obtain ⟨cur, hc⟩ := h0.blk (by omega)
  have hk : Keep (fun k => k = b0) W (W.setCell ⟨b0, s, none⟩ (.int .i64 v)) := (Keep.refl (fun k => k = b0) W).setCell rfl _
  obtain ⟨c2, hx⟩ := rowW_blk h.xin hI
  refine ⟨h.low.setCell hX _, hk.blk h.bx (fun e => blk_ne h.bx hc (by decide) e), hk.blk h.by_ (fun e => blk_ne h.by_ hc (by decide) e), ?_, ?_, rowW_keep h.xin hk (fun e => blk_ne hx hc (by decide) e), fun b e => (h.rows b e).store h0 hs⟩
  · obtain ⟨i, h1, h2⟩ := h.dx
    exact ⟨i, h1, hk.blk h2 (fun e => blk_ne h2 hc (by decide) e)⟩
  · obtain ⟨i, h1, h2⟩ := h.dq
    exact ⟨i, h1, hk.blk h2 (fun e => blk_ne h2 hc (by decide) e)⟩
theorem GI.turn1 {i : Nat} (h : GI X S inn qx qy d1 d2 xi xc xr yc yr a1 a2 a3 sv dv1 dv2 n W) (hS : 1 ≤ S) (hI : 1 ≤ inn.length) (hX : X.heap.size ≤ d1) (hne : d2 ≠ d1) (hk : Keep (fun k => k = d1) W W') (hd : Blk W' d1 60 #[dv1, .int .i64 ((i + 1 : Nat) : Int)]) (hi : i ≤ n) : GI X S inn qx qy d1 d2 xi xc xr yc yr a1 a2 a3 sv dv1 dv2 (n + 1) W' := by
  obtain ⟨i0, hi0, hdx⟩ := h.dx
  obtain ⟨c2, hx⟩ := rowW_blk h.xin hI
  refine ⟨h.low.trans (hk.below h.low.size (fun b e => by rw [e]; exact hX)), hk.blk h.bx (fun e => blk_ne h.bx hdx (by decide) e), hk.blk h.by_ (fun e => blk_ne h.by_ hdx (by decide) e), ⟨i + 1, by omega, hd⟩, ?_, rowW_keep h.xin hk (fun e => blk_ne hx hdx (by decide) e), fun b e => ?_⟩
  · obtain ⟨j, h1, h2⟩ := h.dq
    exact ⟨j, by omega, hk.blk h2 hne⟩
  · obtain ⟨c3, hc3⟩ := (h.rows b e).blk hS
    exact (h.rows b e).keep hk (fun e' => blk_ne hc3 hdx (by decide) e')
theorem GI.turn2 {i : Nat} (h : GI X S inn qx qy d1 d2 xi xc xr yc yr a1 a2 a3 sv dv1 dv2 n W) (hS : 1 ≤ S) (hI : 1 ≤ inn.length) (hX : X.heap.size ≤ d2) (hne : d1 ≠ d2) (hk : Keep (fun k => k = d2) W W') (hd : Blk W' d2 60 #[dv2, .int .i64 ((i + 1 : Nat) : Int)]) (hi : i ≤ n) : GI X S inn qx qy d1 d2 xi xc xr yc yr a1 a2 a3 sv dv1 dv2 (n + 1) W' := by
  obtain ⟨i0, hi0, hdx⟩ := h.dq
  obtain ⟨c2, hx⟩ := rowW_blk h.xin hI
  refine ⟨h.low.trans (hk.below h.low.size (fun b e => by rw [e]; exact hX)), hk.blk h.bx (fun e => blk_ne h.bx hdx (by decide) e), hk.blk h.by_ (fun e => blk_ne h.by_ hdx (by decide) e), ?_, ⟨i + 1, by omega, hd⟩, rowW_keep h.xin hk (fun e => blk_ne hx hdx (by decide) e), fun b e => ?_⟩
  · obtain ⟨j, h1, h2⟩ := h.dx
    exact ⟨j, by omega, hk.blk h2 hne⟩
  · obtain ⟨c3, hc3⟩ := (h.rows b e).blk hS
    exact (h.rows b e).keep hk (fun e' => blk_ne hc3 hdx (by decide) e')
end
/-- Clones of a certificate's lists, and their box. -/
def clPhi (X : World) (S : Nat) (inn : List Bool) (qp i1 f1 r1 c1 : Nat) : Nat → Value → World → (Nat → Nat) → Prop
  | 0, v, _, _ => v = .pointer (some ⟨qp, 0, none⟩)
  | 1, v, _, _ => v = .slice (some ⟨i1, 0, none⟩) S c1
  | 2, v, W, _ => ∃ b c, v = .slice (some ⟨b, 0, none⟩) S c ∧ X.heap.size ≤ b ∧ RowW W b 4 encB (some ⟨b, 0, none⟩) inn
  | 3, v, _, _ => v = .pointer (some ⟨qp, 1, none⟩)
  | 4, v, _, _ => v = .slice (some ⟨f1, 0, none⟩) S S
  | 5, v, W, _ => ∃ b c, v = .slice (some ⟨b, 0, none⟩) S c ∧ X.heap.size ≤ b ∧ IR S W b
  | 6, v, _, _ => v = .pointer (some ⟨qp, 2, none⟩)
  | 7, v, _, _ => v = .slice (some ⟨r1, 0, none⟩) S S
  | 8, v, W, _ => ∃ b c, v = .slice (some ⟨b, 0, none⟩) S c ∧ X.heap.size ≤ b ∧ IR S W b
  | 9, v, W, _ => ∃ b1 k1 b2 k2 b3 k3, v = .agg #[.slice (some ⟨b1, 0, none⟩) S k1, .slice (some ⟨b2, 0, none⟩) S k2, .slice (some ⟨b3, 0, none⟩) S k3] ∧ (X.heap.size ≤ b1 ∧ RowW W b1 4 encB (some ⟨b1, 0, none⟩) inn) ∧ (X.heap.size ≤ b2 ∧ IR S W b2) ∧ (X.heap.size ≤ b3 ∧ IR S W b3)
  | 10, v, W, γ => v = .pointer (some ⟨γ 0, 0, none⟩) ∧ X.heap.size ≤ γ 0 ∧ ∃ x0 x1 x2 : Value, Blk W (γ 0) 27 #[x0, x1, x2]
  | 11, _, W, γ => ∃ b1 k1 b2 k2 b3 k3, Blk W (γ 0) 27 #[.slice (some ⟨b1, 0, none⟩) S k1, .slice (some ⟨b2, 0, none⟩) S k2, .slice (some ⟨b3, 0, none⟩) S k3] ∧ (X.heap.size ≤ b1 ∧ RowW W b1 4 encB (some ⟨b1, 0, none⟩) inn) ∧ (X.heap.size ≤ b2 ∧ IR S W b2) ∧ (X.heap.size ≤ b3 ∧ IR S W b3)
  | _, _, _, _ => True
section
variable {X : World} {S : Nat} {inn : List Bool} {qp i1 f1 r1 c1 : Nat} {j : Nat} {v : Value} {W W' : World} {γ γ' : Nat → Nat}
theorem clPhi_next (hb : Below W.heap.size W W') (h : clPhi X S inn qp i1 f1 r1 c1 j v W γ) : clPhi X S inn qp i1 f1 r1 c1 j v W' γ := by
  unfold clPhi at h ⊢
  split at h
  all_goals first | exact h | trivial | skip
  · obtain ⟨b, c, e, h1, h2⟩ := h; exact ⟨b, c, e, h1, rowW_next h2 hb⟩
  · obtain ⟨b, c, e, h1, h2⟩ := h; exact ⟨b, c, e, h1, h2.next hb⟩
  · obtain ⟨b, c, e, h1, h2⟩ := h; exact ⟨b, c, e, h1, h2.next hb⟩
  · obtain ⟨b1, k1, b2, k2, b3, k3, e, ⟨h1, h2⟩, ⟨h3, h4⟩, h5, h6⟩ := h; exact ⟨b1, k1, b2, k2, b3, k3, e, ⟨h1, rowW_next h2 hb⟩, ⟨h3, h4.next hb⟩, h5, h6.next hb⟩
  · obtain ⟨e, h1, x0, x1, x2, h2⟩ := h; exact ⟨e, h1, x0, x1, x2, h2.below hb h2.lt⟩
  · obtain ⟨b1, k1, b2, k2, b3, k3, e, ⟨h1, h2⟩, ⟨h3, h4⟩, h5, h6⟩ := h; exact ⟨b1, k1, b2, k2, b3, k3, e.below hb e.lt, ⟨h1, rowW_next h2 hb⟩, ⟨h3, h4.next hb⟩, h5, h6.next hb⟩
theorem clPhi_ghost (h10 : j ≠ 10) (h11 : j ≠ 11) (h : clPhi X S inn qp i1 f1 r1 c1 j v W γ) : clPhi X S inn qp i1 f1 r1 c1 j v W γ' := by
  unfold clPhi at h ⊢
  split at h
  all_goals first | exact h | trivial | exact absurd rfl h10 | exact absurd rfl h11
theorem row_store {b0 : Nat} {Sx : Nat} {cs : Array Value} (hS : 1 ≤ S) (hI : 1 ≤ inn.length) (hk : Keep (fun k => k = b0) W W') (hb : Blk W b0 27 cs) : (∀ b, RowW W b 4 encB (some ⟨b, 0, none⟩) inn → RowW W' b 4 encB (some ⟨b, 0, none⟩) inn) ∧ (∀ b, IR S W b → IR S W' b) := by
  refine ⟨fun b h => ?_, fun b h => ?_⟩
  · obtain ⟨c, hc⟩ := rowW_blk h hI
    exact rowW_keep h hk (fun e => blk_ne hc hb (by decide) e)
  · obtain ⟨c, hc⟩ := h.blk hS
    exact h.keep hk (fun e => blk_ne hc hb (by decide) e)
theorem clPhi_store {y0 y1 y2 : Value} {cs : Array Value} (hS : 1 ≤ S) (hI : 1 ≤ inn.length) (hk : Keep (fun k => k = γ 0) W W') (hb : Blk W (γ 0) 27 cs) (hb' : Blk W' (γ 0) 27 #[y0, y1, y2]) (h11 : j ≠ 11) (h : clPhi X S inn qp i1 f1 r1 c1 j v W γ) : clPhi X S inn qp i1 f1 r1 c1 j v W' γ := by
  obtain ⟨k1, k2⟩ := row_store (S := S) (inn := inn) (Sx := 0) hS hI hk hb
  unfold clPhi at h ⊢
  split at h
  all_goals first | exact h | trivial | exact absurd rfl h11 | skip
  · obtain ⟨b, c, e, h1, h2⟩ := h; exact ⟨b, c, e, h1, k1 _ h2⟩
  · obtain ⟨b, c, e, h1, h2⟩ := h; exact ⟨b, c, e, h1, k2 _ h2⟩
  · obtain ⟨b, c, e, h1, h2⟩ := h; exact ⟨b, c, e, h1, k2 _ h2⟩
  · obtain ⟨b1, j1, b2, j2, b3, j3, e, ⟨h1, h2⟩, ⟨h3, h4⟩, h5, h6⟩ := h; exact ⟨b1, j1, b2, j2, b3, j3, e, ⟨h1, k1 _ h2⟩, ⟨h3, k2 _ h4⟩, h5, k2 _ h6⟩
  · obtain ⟨e, h1, x0, x1, x2, h2⟩ := h; exact ⟨e, h1, y0, y1, y2, hb'⟩
end
/-- The second certificate: a set, and two new rows. -/
def mkPhi (X : World) (S : Nat) (sv : Value) (qa : Nat) : Nat → Value → World → (Nat → Nat) → Prop
  | 0, v, _, _ => v = sv
  | 1, v, _, _ => v = .pointer (some ⟨qa, 0, none⟩)
  | 2, v, _, _ => v = .int .i64 (S : Int)
  | 3, v, W, _ => ∃ b, v = .slice (some ⟨b, 0, none⟩) S S ∧ X.heap.size ≤ b ∧ IR S W b
  | 4, v, _, _ => v = .pointer (some ⟨qa, 0, none⟩)
  | 5, v, _, _ => v = .int .i64 (S : Int)
  | 6, v, W, _ => ∃ b, v = .slice (some ⟨b, 0, none⟩) S S ∧ X.heap.size ≤ b ∧ IR S W b
  | 7, v, W, _ => ∃ b2 b3, v = .agg #[sv, .slice (some ⟨b2, 0, none⟩) S S, .slice (some ⟨b3, 0, none⟩) S S] ∧ (X.heap.size ≤ b2 ∧ IR S W b2) ∧ (X.heap.size ≤ b3 ∧ IR S W b3)
  | 8, v, W, γ => v = .pointer (some ⟨γ 0, 0, none⟩) ∧ X.heap.size ≤ γ 0 ∧ ∃ x0 x1 x2 : Value, Blk W (γ 0) 27 #[x0, x1, x2]
  | 9, _, W, γ => ∃ b2 b3, Blk W (γ 0) 27 #[sv, .slice (some ⟨b2, 0, none⟩) S S, .slice (some ⟨b3, 0, none⟩) S S] ∧ (X.heap.size ≤ b2 ∧ IR S W b2) ∧ (X.heap.size ≤ b3 ∧ IR S W b3)
  | _, _, _, _ => True
section
variable {X : World} {S : Nat} {sv : Value} {qa : Nat} {j : Nat} {v : Value} {W W' : World} {γ γ' : Nat → Nat}
theorem mkPhi_next (hb : Below W.heap.size W W') (h : mkPhi X S sv qa j v W γ) : mkPhi X S sv qa j v W' γ := by
  unfold mkPhi at h ⊢
  split at h
  all_goals first | exact h | trivial | skip
  · obtain ⟨b, e, h1, h2⟩ := h; exact ⟨b, e, h1, h2.next hb⟩
  · obtain ⟨b, e, h1, h2⟩ := h; exact ⟨b, e, h1, h2.next hb⟩
  · obtain ⟨b2, b3, e, ⟨h3, h4⟩, h5, h6⟩ := h; exact ⟨b2, b3, e, ⟨h3, h4.next hb⟩, h5, h6.next hb⟩
  · obtain ⟨e, h1, x0, x1, x2, h2⟩ := h; exact ⟨e, h1, x0, x1, x2, h2.below hb h2.lt⟩
  · obtain ⟨b2, b3, e, ⟨h3, h4⟩, h5, h6⟩ := h; exact ⟨b2, b3, e.below hb e.lt, ⟨h3, h4.next hb⟩, h5, h6.next hb⟩
theorem mkPhi_ghost (h10 : j ≠ 8) (h11 : j ≠ 9) (h : mkPhi X S sv qa j v W γ) : mkPhi X S sv qa j v W γ' := by
  unfold mkPhi at h ⊢
  split at h
  all_goals first | exact h | trivial | exact absurd rfl h10 | exact absurd rfl h11
theorem mkPhi_store {y0 y1 y2 : Value} {cs : Array Value} (hS : 1 ≤ S) (hk : Keep (fun k => k = γ 0) W W') (hb : Blk W (γ 0) 27 cs) (hb' : Blk W' (γ 0) 27 #[y0, y1, y2]) (h11 : j ≠ 9) (h : mkPhi X S sv qa j v W γ) : mkPhi X S sv qa j v W' γ := by
  have k2 : ∀ b, IR S W b → IR S W' b := fun b h => by
    obtain ⟨c, hc⟩ := h.blk hS
    exact h.keep hk (fun e => blk_ne hc hb (by decide) e)
  unfold mkPhi at h ⊢
  split at h
  all_goals first | exact h | trivial | exact absurd rfl h11 | skip
  · obtain ⟨b, e, h1, h2⟩ := h; exact ⟨b, e, h1, k2 _ h2⟩
  · obtain ⟨b, e, h1, h2⟩ := h; exact ⟨b, e, h1, k2 _ h2⟩
  · obtain ⟨b2, b3, e, ⟨h3, h4⟩, h5, h6⟩ := h; exact ⟨b2, b3, e, ⟨h3, k2 _ h4⟩, h5, k2 _ h6⟩
  · obtain ⟨e, h1, x0, x1, x2, h2⟩ := h; exact ⟨e, h1, y0, y1, y2, hb'⟩
end
theorem IR.made (S : Nat) (W : World) : IR S (W.alloc (.cells (intsA (List.replicate S 0)) 3)) W.heap.size := ⟨List.replicate S 0, List.length_replicate .., blk_rowI (heap_alloc_new W _)⟩
end Go.Proofs.Ytalngalikblgkaa
