/- law07: inside. -/
import Derived.Test.YtldbciflpnhfpaaHtR

set_option linter.unusedSimpArgs false
set_option linter.unusedVariables false
namespace Go.Proofs.Ytldbciflpnhfpaa
open Go.RowKit

theorem mid_bd {a b r : Int} (h : a ≤ b) (hr : 0 ≤ r ∧ r < 256) : a ≤ a + ((b - a) * r).tdiv 255 ∧ a + ((b - a) * r).tdiv 255 ≤ b := by
  have h0 : 0 ≤ (b - a) * r := Int.mul_nonneg (by omega) hr.1
  have h1 : (b - a) * r ≤ (b - a) * 255 := Int.mul_le_mul_of_nonneg_left (by omega) (by omega)
  rw [Int.tdiv_eq_ediv_of_nonneg h0]
  omega
set_option maxRecDepth 100000 in
theorem mid_any (dx vb n c B i : Nat) (A : Option Addr) (l : List Int) (a b : Int) (w : World) (hv : Blk w vb 79 #[.pointer (some ⟨dx, 0, none⟩)]) (hd : Blk w dx 81 #[.slice A n c, .int .i64 (i : Int)]) (hl : Rd w B 1 encU A n l) (hB : B ≤ dx) (hu : U8s l) (hi : i ≤ 1000000) (hab : 0 ≤ a ∧ a ≤ b ∧ b ≤ 1000000) :
    Calls Try.prog 34 #[.int .i64 a, .int .i64 b, .pointer (some ⟨vb, 0, none⟩)] w fun e w' => ∃ z : Int, e = .returned (.int .i64 z) ∧ (a ≤ z ∧ z ≤ b) ∧ Keep (fun b => b = dx) w w' ∧ Blk w' dx 81 #[.slice A n c, .int .i64 ((i + 1 : Nat) : Int)] := by
  have C := Lib.hid (next_int dx n c B i 256 A l w hd hl hB hu hi (by omega))
  have c0 := hv.cell 0
  have z0 := hv.lt
  simp only [List.getElem?_toArray, List.getElem?_cons_zero] at c0
  have w1 : IntKind.i64.wrap (b - a) = b - a := IntWalk.i64_in _ (by omega)
  clear hv hd hl hB hu hi
  go_enter Try.func34, Try.ntmps34
  go_wp2_with fail
  refine C.out.mono ?_
  rintro e w5 ⟨r, rfl, hr, hk, hb⟩
  have hm := mid_bd hab.2.1 hr
  have h0 : 0 ≤ (b - a) * r := Int.mul_nonneg (by omega) hr.1
  have h1 : (b - a) * r ≤ (b - a) * 255 := Int.mul_le_mul_of_nonneg_left (by omega) (by omega)
  have w2 : IntKind.i64.wrap ((b - a) * r) = (b - a) * r := IntWalk.i64_in _ (by omega)
  have w3 : IntKind.i64.wrap (((b - a) * r).tdiv 255) = ((b - a) * r).tdiv 255 := IntWalk.i64_in _ (by rw [Int.tdiv_eq_ediv_of_nonneg h0]; omega)
  have w4 : IntKind.i64.wrap (a + ((b - a) * r).tdiv 255) = a + ((b - a) * r).tdiv 255 := IntWalk.i64_in _ (by omega)
  have HK := Lib.hid (And.intro hm (And.intro hk hb))
  clear hm hk hb h0 h1 hr hab
  go_wp2
  go_ret
  exact ⟨_, rfl, HK.out⟩

def in3R (X : World) (dx vb : Nat) (dv : Value) (W : World) (γ : Nat → Nat) : Prop :=
  Below X.heap.size X W ∧ Blk W vb 79 #[.pointer (some ⟨dx, 0, none⟩)] ∧ (γ 2 ≤ 1 ∧ γ 3 ≤ 1) ∧ ∃ i, i ≤ γ 2 + γ 3 ∧ Blk W dx 81 #[dv, .int .i64 ((i : Nat) : Int)]
def in3Phi (z kb vb : Nat) (ol pl oh ph : Int) : Nat → Value → World → (Nat → Nat) → Prop
  | 0, v, _, _ => v = .func (.func 34) #[] #[.pointer (some ⟨vb, 0, none⟩)]
  | 1, v, _, _ => v = .pointer (some ⟨kb, 0, none⟩)
  | 2, v, _, _ => v = .pointer (some ⟨kb, 1, none⟩)
  | 3, v, _, _ => v = .int .i64 ol
  | 4, v, _, _ => v = .pointer (some ⟨kb, 3, none⟩)
  | 5, v, _, _ => v = .pointer (some ⟨kb, 4, none⟩)
  | 6, v, _, _ => v = .int .i64 oh
  | 7, v, _, _ => ∃ x, v = .int .i64 x ∧ ol ≤ x ∧ x ≤ oh
  | 8, v, _, _ => v = .func (.func 34) #[] #[.pointer (some ⟨vb, 0, none⟩)]
  | 9, v, _, _ => v = .pointer (some ⟨kb, 3, none⟩)
  | 10, v, _, _ => v = .pointer (some ⟨kb, 5, none⟩)
  | 11, v, _, _ => v = .int .i64 ph
  | 12, v, _, _ => v = .pointer (some ⟨kb, 0, none⟩)
  | 13, v, _, _ => v = .pointer (some ⟨kb, 2, none⟩)
  | 14, v, _, _ => v = .int .i64 pl
  | 15, v, _, _ => ∃ x, v = .int .i64 x ∧ ph ≤ x ∧ x ≤ pl
  | 16, v, _, _ => ∃ o p, v = .agg #[.slice none 0 0, .int .i64 o, .int .i64 p] ∧ (ol ≤ o ∧ o ≤ oh) ∧ ph ≤ p ∧ p ≤ pl
  | 17, v, W, γ => v = .pointer (some ⟨γ 0, 0, none⟩) ∧ z ≤ γ 0 ∧ ∃ x0 x1 x2 : Value, Blk W (γ 0) 35 #[x0, x1, x2]
  | 18, _, W, γ => ∃ o p, Blk W (γ 0) 35 #[.slice none 0 0, .int .i64 o, .int .i64 p] ∧ (ol ≤ o ∧ o ≤ oh) ∧ ph ≤ p ∧ p ≤ pl
  | _, _, _, _ => True
section
variable {z kb vb : Nat} {ol pl oh ph : Int} {j : Nat} {v : Value} {W W' : World} {γ γ' : Nat → Nat}
theorem in3Phi_turn (hd : ∀ b cs, Blk W b 35 cs → Blk W' b 35 cs) (h0 : γ' 0 = γ 0) (h : in3Phi z kb vb ol pl oh ph j v W γ) : in3Phi z kb vb ol pl oh ph j v W' γ' := by
  unfold in3Phi at h ⊢
  split at h
  all_goals first | exact h | trivial | skip
  · obtain ⟨e, h1, x0, x1, x2, h2⟩ := h; rw [h0]; exact ⟨e, h1, x0, x1, x2, hd _ _ h2⟩
  · obtain ⟨o, p, h1, h2⟩ := h; rw [h0]; exact ⟨o, p, hd _ _ h1, h2⟩
theorem in3Phi_pure (h17 : j ≠ 17) (h18 : j ≠ 18) (h : in3Phi z kb vb ol pl oh ph j v W γ) : in3Phi z kb vb ol pl oh ph j v W' γ' := by
  unfold in3Phi at h ⊢
  split at h
  all_goals first | exact h | trivial | exact absurd rfl h17 | exact absurd rfl h18
theorem in3Phi_store (hb : ∃ x0 x1 x2 : Value, Blk W' (γ 0) 35 #[x0, x1, x2]) (h18 : j ≠ 18) (h : in3Phi z kb vb ol pl oh ph j v W γ) : in3Phi z kb vb ol pl oh ph j v W' γ := by
  unfold in3Phi at h ⊢
  split at h
  all_goals first | exact h | trivial | exact absurd rfl h18 | skip
  · exact ⟨h.1, h.2.1, hb⟩
end
def in3Psi (i : Nat) (_ : World) (γ : Nat → Nat) : Prop := (i = 7 → γ 2 = 0) ∧ (i = 15 → γ 3 = 0)

/-- A case under way, each number between those of two lists. -/
structure InI (X : World) (dx vb pb : Nat) (dv : Value) (o p : Int) (LL LH : List Int) (v : Value) (k : Nat) (L : List Int) (W : World) : Prop where
  low : Below X.heap.size X W
  var : Blk W vb 79 #[.pointer (some ⟨dx, 0, none⟩)]
  dig : ∃ i, i ≤ k + 2 ∧ Blk W dx 81 #[dv, .int .i64 ((i : Nat) : Int)]
  box : Blk W pb 35 #[v, .int .i64 o, .int .i64 p]
  row : W.ownsRow X.heap.size 3 1 v k (L.flatMap encI)
  len : L.length = k
  bd : ∀ (i : Nat) (x y q : Int), LL[i]? = some x → LH[i]? = some y → L[i]? = some q → x ≤ q ∧ q ≤ y
def inR (X : World) (dx vb pb : Nat) (dv : Value) (o p : Int) (v : Value) (k : Nat) (L : List Int) (W : World) (γ : Nat → Nat) : Prop :=
  (Below X.heap.size X W ∧ Blk W vb 79 #[.pointer (some ⟨dx, 0, none⟩)] ∧ ∃ i, i ≤ k + 2 + γ 2 ∧ Blk W dx 81 #[dv, .int .i64 ((i : Nat) : Int)]) ∧ (γ 0 = 0 → Blk W pb 35 #[v, .int .i64 o, .int .i64 p]) ∧ (γ 1 = 0 → W.ownsRow X.heap.size 3 1 v k (L.flatMap encI))
def inPhi (X : World) (kb vb pb rn lb lo lc hb ho hc : Nat) (o p : Int) (xx yy : Int) (vv : Value) (k : Nat) (L : List Int) : Nat → Value → World → (Nat → Nat) → Prop
  | 0, v, _, _ => v = .pointer (some ⟨pb, 0, none⟩)
  | 1, v, _, _ => v = vv
  | 2, v, _, _ => v = .func (.func 34) #[] #[.pointer (some ⟨vb, 0, none⟩)]
  | 3, v, _, _ => v = .pointer (some ⟨kb, 0, none⟩)
  | 4, v, _, _ => v = .pointer (some ⟨kb, 0, none⟩)
  | 5, v, _, _ => v = .slice (some ⟨lb, lo, none⟩) rn lc
  | 6, v, _, _ => v = .int .i64 (k : Int)
  | 7, v, _, _ => v = .pointer (some ⟨lb, lo + k, none⟩)
  | 8, v, _, _ => v = .int .i64 xx
  | 9, v, _, _ => v = .pointer (some ⟨kb, 3, none⟩)
  | 10, v, _, _ => v = .pointer (some ⟨kb, 3, none⟩)
  | 11, v, _, _ => v = .slice (some ⟨hb, ho, none⟩) rn hc
  | 12, v, _, _ => v = .int .i64 (k : Int)
  | 13, v, _, _ => v = .pointer (some ⟨hb, ho + k, none⟩)
  | 14, v, _, _ => v = .int .i64 yy
  | 15, v, _, γ => ∃ r : Int, v = .int .i64 r ∧ (xx ≤ r ∧ r ≤ yy) ∧ γ 2 = 1
  | 16, v, W, γ => ∃ (b1 : Nat) (r : Int), v = .slice (some ⟨b1, 0, none⟩) 1 1 ∧ (xx ≤ r ∧ r ≤ yy) ∧ (γ 1 = 0 → Blk W b1 3 #[.int .i64 r])
  | 17, v, W, _ => ∃ (A : Option Addr) (c : Nat) (r : Int), v = .slice A (k + 1) c ∧ (xx ≤ r ∧ r ≤ yy) ∧ W.ownsRow X.heap.size 3 1 (.slice A (k + 1) c) (k + 1) ((L ++ [r]).flatMap encI)
  | 18, v, _, _ => v = .pointer (some ⟨pb, 0, none⟩)
  | 19, _, W, _ => ∃ (A : Option Addr) (c : Nat) (r : Int), (xx ≤ r ∧ r ≤ yy) ∧ Blk W pb 35 #[.slice A (k + 1) c, .int .i64 o, .int .i64 p] ∧ W.ownsRow X.heap.size 3 1 (.slice A (k + 1) c) (k + 1) ((L ++ [r]).flatMap encI)
  | _, _, _, _ => True
def inPsi (i : Nat) (_ : World) (γ : Nat → Nat) : Prop := γ 0 = 0 ∧ (i = 17 → γ 1 = 0) ∧ (i = 15 → γ 2 = 0)
section
variable {X : World} {kb vb pb rn lb lo lc hb ho hc : Nat} {o p xx yy : Int} {vv : Value} {k : Nat} {L : List Int} {j : Nat} {v : Value} {W W' : World} {γ γ' : Nat → Nat}
theorem inPhi_next (hB : Below W.heap.size W W') (h : inPhi X kb vb pb rn lb lo lc hb ho hc o p xx yy vv k L j v W γ) : inPhi X kb vb pb rn lb lo lc hb ho hc o p xx yy vv k L j v W' γ := by
  unfold inPhi at h ⊢
  split at h
  all_goals first | exact h | trivial | skip
  · obtain ⟨b1, r, e, h1, hr⟩ := h; exact ⟨b1, r, e, h1, fun g => (hr g).below hB (hr g).lt⟩
  · obtain ⟨A, c, r, e, h1, hr⟩ := h; exact ⟨A, c, r, e, h1, row_next hr hB⟩
  · obtain ⟨A, c, r, h1, hb2, hr⟩ := h; exact ⟨A, c, r, h1, hb2.below hB hb2.lt, row_next hr hB⟩
theorem inPhi_turn (hd : ∀ b cs, Blk W b 3 cs → Blk W' b 3 cs) (h1 : γ' 1 = γ 1) (h3 : j ≠ 15) (h6 : j ≠ 17) (h8 : j ≠ 19) (h : inPhi X kb vb pb rn lb lo lc hb ho hc o p xx yy vv k L j v W γ) : inPhi X kb vb pb rn lb lo lc hb ho hc o p xx yy vv k L j v W' γ' := by
  unfold inPhi at h ⊢
  split at h
  all_goals first | exact h | trivial | exact absurd rfl h3 | exact absurd rfl h6 | exact absurd rfl h8 | skip
  · obtain ⟨b1, r, e, h2, hr⟩ := h; exact ⟨b1, r, e, h2, fun g => hd _ _ (hr (by rw [← h1]; exact g))⟩
theorem inPhi_grown (h6 : j ≠ 17) (h8 : j ≠ 19) (hγ : γ' 1 ≠ 0) (h2 : γ' 2 = γ 2) (h : inPhi X kb vb pb rn lb lo lc hb ho hc o p xx yy vv k L j v W γ) : inPhi X kb vb pb rn lb lo lc hb ho hc o p xx yy vv k L j v W' γ' := by
  unfold inPhi at h ⊢
  split at h
  all_goals first | exact h | trivial | exact absurd rfl h6 | exact absurd rfl h8 | skip
  · obtain ⟨r, e, h1, hr⟩ := h; exact ⟨r, e, h1, by rw [h2]; exact hr⟩
  · obtain ⟨b1, r, e, h1, hr⟩ := h; exact ⟨b1, r, e, h1, fun g => absurd g hγ⟩
theorem inPhi_store {u0 : Value} {cs : Array Value} (hbx : Blk W pb 35 cs) (hγ : γ' 1 ≠ 0) (h2 : γ' 2 = γ 2) (h8 : j ≠ 19) (h : inPhi X kb vb pb rn lb lo lc hb ho hc o p xx yy vv k L j v W γ) : inPhi X kb vb pb rn lb lo lc hb ho hc o p xx yy vv k L j v (W.setCell ⟨pb, 0, none⟩ u0) γ' := by
  unfold inPhi at h ⊢
  split at h
  all_goals first | exact h | trivial | exact absurd rfl h8 | skip
  · obtain ⟨r, e, h1, hr⟩ := h; exact ⟨r, e, h1, by rw [h2]; exact hr⟩
  · obtain ⟨b1, r, e, h1, hr⟩ := h; exact ⟨b1, r, e, h1, fun g => absurd g hγ⟩
  · obtain ⟨A, c, r, e, h1, hr⟩ := h; exact ⟨A, c, r, e, h1, hr.kept (grown_set W pb 0 _) (Or.inr (own_ne hr hbx (by decide)).symm)⟩
end
theorem bd_snoc {LL LH L : List Int} {xx yy r : Int} {k : Nat} (hk : L.length = k) (hx : LL[k]? = some xx) (hy : LH[k]? = some yy) (hr : xx ≤ r ∧ r ≤ yy) (h : ∀ (i : Nat) (x y q : Int), LL[i]? = some x → LH[i]? = some y → L[i]? = some q → x ≤ q ∧ q ≤ y) : ∀ (i : Nat) (x y q : Int), LL[i]? = some x → LH[i]? = some y → (L ++ [r])[i]? = some q → x ≤ q ∧ q ≤ y := by
  intro i x y q h1 h2 h3
  by_cases h4 : i < L.length
  · rw [List.getElem?_append_left h4] at h3
    exact h i x y q h1 h2 h3
  · have h5 := (List.getElem?_eq_some_iff.1 h3).1
    simp only [List.length_append, List.length_cons, List.length_nil] at h5
    obtain rfl : i = k := by omega
    rw [List.getElem?_append_right (by omega), hk] at h3
    simp at h3
    rw [hx] at h1
    rw [hy] at h2
    cases h1; cases h2; subst h3
    exact hr
theorem row_w {W : World} {m n c : Nat} {A : Option Addr} {L : List Int} (hl : L.length = n) (ho : W.ownsRow m 3 1 (.slice A n c) n (L.flatMap encI)) : ∃ b, RowW W b 3 encI A L := by
  subst hl
  obtain ⟨A', c', b, e, hr, _⟩ := RowW.of_own ho
  simp only [Value.slice.injEq] at e
  exact ⟨b, by rw [e.1]; exact hr⟩
set_option maxRecDepth 100000 in
set_option maxHeartbeats 4000000 in
theorem inside_row (lA hA A2 : Option Addr) (rn lc hc n2 c2 : Nat) (LL LH l2 : List Int) (ol pl oh ph : Int) (w : World) (hrn : 1 ≤ rn ∧ rn ≤ 8) (hl : Rd w w.heap.size 1 encI lA rn LL) (hh : Rd w w.heap.size 1 encI hA rn LH) (hlh : ∀ (i : Nat) (x y : Int), LL[i]? = some x → LH[i]? = some y → 0 ≤ x ∧ x ≤ y ∧ y ≤ 1000000) (hoo : 0 ≤ ol ∧ ol ≤ oh ∧ oh ≤ 1000000) (hpp : 0 ≤ ph ∧ ph ≤ pl ∧ pl ≤ 1000000) (h2 : Rd w w.heap.size 1 encU A2 n2 l2) (u2 : U8s l2) :
    Calls Try.prog 19 #[.agg #[.slice lA rn lc, .int .i64 ol, .int .i64 pl, .slice hA rn hc, .int .i64 oh, .int .i64 ph], .slice A2 n2 c2] w fun e w' => ∃ (A : Option Addr) (c : Nat) (o p : Int) (L : List Int), e = .returned (.agg #[.slice A rn c, .int .i64 o, .int .i64 p]) ∧ (∃ b, RowW w' b 3 encI A L) ∧ L.length = rn ∧ (∀ (i : Nat) (x y q : Int), LL[i]? = some x → LH[i]? = some y → L[i]? = some q → x ≤ q ∧ q ≤ y) ∧ ((ol ≤ o ∧ o ≤ oh) ∧ ph ≤ p ∧ p ≤ pl) ∧ Below w.heap.size w w' := by
  obtain ⟨lb, lo, rfl, hlb, hlc⟩ := hl.2 (by omega)
  obtain ⟨hb, ho, rfl, hhb, hhc⟩ := hh.2 (by omega)
  have H2 := Lib.hid h2
  have U2 := Lib.hid u2
  have HLL : Hid (LL.length = rn ∧ lb < w.heap.size ∧ ∀ (i : Nat) (x : Int), LL[i]? = some x → w.cell? ⟨lb, lo + i, none⟩ = some (.int .i64 x)) := Lib.hid ⟨hl.1, hlb, fun i x hx => by have h9 := hlc i x hx 0 (.int .i64 x) rfl; rw [Nat.mul_one, Nat.add_zero] at h9; exact h9⟩
  have HLH : Hid (LH.length = rn ∧ hb < w.heap.size ∧ ∀ (i : Nat) (x : Int), LH[i]? = some x → w.cell? ⟨hb, ho + i, none⟩ = some (.int .i64 x)) := Lib.hid ⟨hh.1, hhb, fun i x hx => by have h9 := hhc i x hx 0 (.int .i64 x) rfl; rw [Nat.mul_one, Nat.add_zero] at h9; exact h9⟩
  have HB9 := Lib.hid hlh
  have HOO := Lib.hid (And.intro hoo hpp)
  have HRN := Lib.hid hrn
  obtain ⟨i0, hi0, hi1, hi2, hi3⟩ := info_parts intInfo
  have hi := Lib.hid (And.intro hi0 (And.intro hi1 (And.intro hi2 hi3)))
  have g1 : w.heap.size < w.heap.size + 1 := by omega
  have g2 : w.heap.size < w.heap.size + 1 + 1 := by omega
  have g3 : w.heap.size < w.heap.size + 1 + 1 + 1 := by omega
  clear h2 u2 hi0 hi1 hi2 hi3 hl hh hlb hlc hhb hhc hlh hoo hpp hrn
  go_enter Try.func19, Try.ntmps19
  go_wp2_with fail
  obtain ⟨kb, hkb⟩ : ∃ z, z = w.heap.size := ⟨_, rfl⟩
  obtain ⟨w1, hw1⟩ : ∃ z, z = w.alloc (.cells #[.slice (some ⟨lb, lo, none⟩) rn lc, .int .i64 ol, .int .i64 pl, .slice (some ⟨hb, ho, none⟩) rn hc, .int .i64 oh, .int .i64 ph] 37) := ⟨_, rfl⟩
  have KB : Hid (Blk w1 kb 37 #[.slice (some ⟨lb, lo, none⟩) rn lc, .int .i64 ol, .int .i64 pl, .slice (some ⟨hb, ho, none⟩) rn hc, .int .i64 oh, .int .i64 ph]) := Lib.hid (by rw [hw1, hkb]; exact heap_alloc_new w _)
  have Sw1 : Hid (w1.heap.size = kb + 1) := Lib.hid (by rw [hw1, hkb, World.size_alloc])
  have Zkb : Hid (w.heap.size ≤ kb) := Lib.hid (by rw [hkb]; exact Nat.le_refl _)
  have hBn : Below w.heap.size w w1 := by rw [hw1]; exact (Below.refl _ _).alloc (Nat.le_refl _) _
  rw [← hw1, ← hkb]
  have B0 : Hid (Below w.heap.size w w1) := Lib.hid hBn
  clear hw1 hkb hBn
  obtain ⟨rb, hrb⟩ : ∃ z, z = kb + 1 := ⟨_, rfl⟩
  obtain ⟨w2, hw2⟩ : ∃ z, z = w1.alloc (.cells #[.slice none 0 0, .int .i64 0, .int .i64 0] 35) := ⟨_, rfl⟩
  have RB : Hid (Blk w2 rb 35 #[.slice none 0 0, .int .i64 0, .int .i64 0]) := Lib.hid (by have e2 := heap_alloc_new w1 (.cells #[.slice none 0 0, .int .i64 0, .int .i64 0] 35); rw [Sw1.out] at e2; rw [hw2, hrb]; exact e2)
  have Sw2 : Hid (w2.heap.size = rb + 1) := Lib.hid (by rw [hw2, hrb, World.size_alloc, Sw1.out])
  have Zrb : Hid (w1.heap.size = rb) := Lib.hid (by rw [Sw1.out, hrb])
  have hBn : Below w1.heap.size w1 w2 := by rw [hw2]; exact (Below.refl _ _).alloc (Nat.le_refl _) _
  rw [← hw2, ← hrb]
  have B1 : Hid (Below w1.heap.size w1 w2) := Lib.hid hBn
  clear hw2 hrb hBn
  obtain ⟨dx, hdx⟩ : ∃ z, z = rb + 1 := ⟨_, rfl⟩
  obtain ⟨w3, hw3⟩ : ∃ z, z = w2.alloc (.cells #[.slice A2 n2 c2, .int .i64 0] 81) := ⟨_, rfl⟩
  have DX : Hid (Blk w3 dx 81 #[.slice A2 n2 c2, .int .i64 0]) := Lib.hid (by have e2 := heap_alloc_new w2 (.cells #[.slice A2 n2 c2, .int .i64 0] 81); rw [Sw2.out] at e2; rw [hw3, hdx]; exact e2)
  have Sw3 : Hid (w3.heap.size = dx + 1) := Lib.hid (by rw [hw3, hdx, World.size_alloc, Sw2.out])
  have Zdx : Hid (w2.heap.size = dx) := Lib.hid (by rw [Sw2.out, hdx])
  have hBn : Below w2.heap.size w2 w3 := by rw [hw3]; exact (Below.refl _ _).alloc (Nat.le_refl _) _
  rw [← hw3, ← hdx]
  have B2 : Hid (Below w2.heap.size w2 w3) := Lib.hid hBn
  clear hw3 hdx hBn
  obtain ⟨vb, hvb⟩ : ∃ z, z = dx + 1 := ⟨_, rfl⟩
  obtain ⟨w4, hw4⟩ : ∃ z, z = w3.alloc (.cells #[.pointer (some ⟨dx, 0, none⟩)] 79) := ⟨_, rfl⟩
  have VB : Hid (Blk w4 vb 79 #[.pointer (some ⟨dx, 0, none⟩)]) := Lib.hid (by have e2 := heap_alloc_new w3 (.cells #[.pointer (some ⟨dx, 0, none⟩)] 79); rw [Sw3.out] at e2; rw [hw4, hvb]; exact e2)
  have Sw4 : Hid (w4.heap.size = vb + 1) := Lib.hid (by rw [hw4, hvb, World.size_alloc, Sw3.out])
  have Zvb : Hid (w3.heap.size = vb) := Lib.hid (by rw [Sw3.out, hvb])
  have hBn : Below w3.heap.size w3 w4 := by rw [hw4]; exact (Below.refl _ _).alloc (Nat.le_refl _) _
  rw [← hw4, ← hvb]
  have B3 : Hid (Below w3.heap.size w3 w4) := Lib.hid hBn
  clear hw4 hvb hBn
  have HDB : Hid (w2.heap.size ≤ dx ∧ dx ≠ vb) := Lib.hid ⟨Nat.le_of_eq Zdx.out, by have := Zdx.out; have := Zvb.out; have := Sw3.out; omega⟩
  have HLOW : Hid (Below w2.heap.size w2 w4) := Lib.hid (below3 B2.out B3.out (Nat.le_refl _))
  have KM := Lib.hid (fun (W : World) (i : Nat) (a b : Int) (hv : Blk W vb 79 #[.pointer (some ⟨dx, 0, none⟩)]) (hd : Blk W dx 81 #[.slice A2 n2 c2, .int .i64 (i : Int)]) (hW : Below w2.heap.size w2 W) (hi : i ≤ 1000000) (hab : 0 ≤ a ∧ a ≤ b ∧ b ≤ 1000000) => mid_any dx vb n2 c2 w.heap.size i A2 l2 a b W hv hd (H2.out.below (below3 (below3 B0.out B1.out (Nat.le_refl _)) hW (Nat.le_refl _))) (Nat.le_trans ((below3 B0.out B1.out (Nat.le_refl _))).size HDB.out.1) U2.out hi hab)
  clear g1 g2 g3
  have DX4 : Hid (Blk w4 dx 81 #[.slice A2 n2 c2, .int .i64 ((0 : Nat) : Int)]) := Lib.hid (DX.out.below B3.out DX.out.lt)
  refine wp_region_free10 18 (by kernel_rfl) [some 13, some 14, some 15, some 16, some 17, some 18, some 19, some 20, some 21, some 22, some 23, some 24, some 25, some 26, some 27, some 28, some 29, some 7, none] [[], [], [1], [2], [], [4], [5], [0, 3, 6], [], [], [9], [10], [], [12], [13], [8, 11, 14, 7], [7, 15], [], [17, 16, 15, 0, 1, 2, 3, 4, 5, 6, 7, 8, 9, 10, 11, 12, 13, 14, 15, 16, 17]] [(6, .func (.func 34) #[] #[.pointer (some ⟨vb, 0, none⟩)]), (2, .pointer (some ⟨kb, 0, none⟩))] (in3R w2 dx vb (.slice A2 n2 c2)) (in3Phi w2.heap.size kb vb ol pl oh ph) (in3Psi) (by kernel_rfl) (by kernel_rfl) rfl (by kernel_rfl) ?_ ?_ ⟨fun _ => 0, ⟨HLOW.out.drew, VB.out.below (Below.refl _ _).drew VB.out.lt, ⟨Nat.zero_le 1, Nat.zero_le 1⟩, 0, Nat.zero_le _, DX4.out.below (Below.refl _ _).drew DX4.out.lt⟩, fun i _ => ⟨fun _ => rfl, fun _ => rfl⟩⟩ ?_ ?_
  · intro z hz
    simp only [List.mem_cons, List.mem_nil_iff, or_false] at hz
    rcases hz with rfl | rfl
    all_goals exact ⟨by kernel_rfl, rfl⟩
  · intro i v W γ hi h
    rcases i with _ | _ | _ | _ | _ | _ | _ | _ | _ | _ | _ | _ | _ | _ | _ | _ | _ | _ | _ | i
    all_goals first | exact h | (simp at hi)
  · refine ⟨?_, ?_, ?_, ?_, ?_, ?_, ?_, ?_, ?_, ?_, ?_, ?_, ?_, ?_, ?_, ?_, ?_, ?_, ?_, trivial⟩
    all_goals
      intro a9 W γ ev hcc hff hfx hR hψ hpre
      simp only [List.mem_cons, List.mem_nil_iff, or_false, forall_eq, forall_eq_or_imp] at hfx
      obtain ⟨f0, f1⟩ := hfx
      have HR := Lib.hid hR
      clear hR
      refine ⟨fun _ K hK => ?_, trivial⟩

    · clear hpre hψ
      go_simp
      exact hK _ _ γ HR.out (fun _ _ _ _ h => h) (fun _ _ _ h => h) rfl
    · clear hpre hψ
      go_simp
      exact hK _ _ γ HR.out (fun _ _ _ _ h => h) (fun _ _ _ h => h) rfl
    · have q0 : ev (.tmp 14) = _ := hpre 1 (by decide)
      clear hpre hψ
      go_simp
      exact hK _ _ γ HR.out (fun _ _ _ _ h => h) (fun _ _ _ h => h) rfl
    · have q0 : ev (.tmp 15) = _ := hpre 2 (by decide)
      have hbk := KB.out.below (below3 B1.out HR.out.1 (Nat.le_refl _)) KB.out.lt
      have hzg := hbk.lt
      have e0 := hbk.cell 0
      have e1 := hbk.cell 1
      have e2 := hbk.cell 2
      have e3 := hbk.cell 3
      have e4 := hbk.cell 4
      have e5 := hbk.cell 5
      simp only [List.getElem?_toArray, List.getElem?_cons_zero, List.getElem?_cons_succ] at e0 e1 e2 e3 e4 e5
      clear hbk
      clear hpre hψ
      go_simp
      exact hK _ _ γ HR.out (fun _ _ _ _ h => h) (fun _ _ _ h => h) rfl
    · clear hpre hψ
      go_simp
      exact hK _ _ γ HR.out (fun _ _ _ _ h => h) (fun _ _ _ h => h) rfl
    · have q0 : ev (.tmp 17) = _ := hpre 4 (by decide)
      clear hpre hψ
      go_simp
      exact hK _ _ γ HR.out (fun _ _ _ _ h => h) (fun _ _ _ h => h) rfl
    · have q0 : ev (.tmp 18) = _ := hpre 5 (by decide)
      have hbk := KB.out.below (below3 B1.out HR.out.1 (Nat.le_refl _)) KB.out.lt
      have hzg := hbk.lt
      have e0 := hbk.cell 0
      have e1 := hbk.cell 1
      have e2 := hbk.cell 2
      have e3 := hbk.cell 3
      have e4 := hbk.cell 4
      have e5 := hbk.cell 5
      simp only [List.getElem?_toArray, List.getElem?_cons_zero, List.getElem?_cons_succ] at e0 e1 e2 e3 e4 e5
      clear hbk
      clear hpre hψ
      go_simp
      exact hK _ _ γ HR.out (fun _ _ _ _ h => h) (fun _ _ _ h => h) rfl
    · have q0 : ev (.tmp 13) = _ := hpre 0 (by decide)
      have q1 : ev (.tmp 16) = _ := hpre 3 (by decide)
      have q2 : ev (.tmp 19) = _ := hpre 6 (by decide)
      have hg : γ 2 = 0 := hψ.1 rfl
      obtain ⟨r1, r2, r3, i9, hi9, r4⟩ := HR.out
      have C := Lib.hid (KM.out W i9 _ _ r2 r4 r1 (by omega) HOO.out.1)
      have HX := Lib.hid (And.intro r1 (And.intro r2 (And.intro r3 (And.intro hi9 (And.intro r4 hg)))))
      have HP := Lib.hid hψ
      clear hpre r1 r2 r3 r4 hi9 hg hψ
      go_simp
      refine C.out.mono ?_
      rintro e w7 ⟨x, rfl, hx, hk7, hb7⟩
      obtain ⟨r1, r2, r3, hi9, r4, hg⟩ := HX.out
      exact hK _ w7 (fun i => if i = 2 then 1 else γ i) ⟨r1.trans (hk7.below r1.size (fun b e => by rw [e]; exact HDB.out.1)), hk7.blk r2 (fun e => HDB.out.2 e.symm), by simp; omega, i9 + 1, by simp; omega, hb7⟩ (fun j u hj hne h => in3Phi_turn (fun b cs hc => hk7.blk hc (fun e => blk_ne hc r4 (by decide) e)) rfl h) (fun _ j h1 h2 => ⟨fun e => by exact absurd e h1, fun e => by simpa using h2.2 e⟩) ⟨x, rfl, hx⟩
    · clear hpre hψ
      go_simp
      exact hK _ _ γ HR.out (fun _ _ _ _ h => h) (fun _ _ _ h => h) rfl
    · clear hpre hψ
      go_simp
      exact hK _ _ γ HR.out (fun _ _ _ _ h => h) (fun _ _ _ h => h) rfl
    · have q0 : ev (.tmp 22) = _ := hpre 9 (by decide)
      clear hpre hψ
      go_simp
      exact hK _ _ γ HR.out (fun _ _ _ _ h => h) (fun _ _ _ h => h) rfl
    · have q0 : ev (.tmp 23) = _ := hpre 10 (by decide)
      have hbk := KB.out.below (below3 B1.out HR.out.1 (Nat.le_refl _)) KB.out.lt
      have hzg := hbk.lt
      have e0 := hbk.cell 0
      have e1 := hbk.cell 1
      have e2 := hbk.cell 2
      have e3 := hbk.cell 3
      have e4 := hbk.cell 4
      have e5 := hbk.cell 5
      simp only [List.getElem?_toArray, List.getElem?_cons_zero, List.getElem?_cons_succ] at e0 e1 e2 e3 e4 e5
      clear hbk
      clear hpre hψ
      go_simp
      exact hK _ _ γ HR.out (fun _ _ _ _ h => h) (fun _ _ _ h => h) rfl
    · clear hpre hψ
      go_simp
      exact hK _ _ γ HR.out (fun _ _ _ _ h => h) (fun _ _ _ h => h) rfl
    · have q0 : ev (.tmp 25) = _ := hpre 12 (by decide)
      clear hpre hψ
      go_simp
      exact hK _ _ γ HR.out (fun _ _ _ _ h => h) (fun _ _ _ h => h) rfl
    · have q0 : ev (.tmp 26) = _ := hpre 13 (by decide)
      have hbk := KB.out.below (below3 B1.out HR.out.1 (Nat.le_refl _)) KB.out.lt
      have hzg := hbk.lt
      have e0 := hbk.cell 0
      have e1 := hbk.cell 1
      have e2 := hbk.cell 2
      have e3 := hbk.cell 3
      have e4 := hbk.cell 4
      have e5 := hbk.cell 5
      simp only [List.getElem?_toArray, List.getElem?_cons_zero, List.getElem?_cons_succ] at e0 e1 e2 e3 e4 e5
      clear hbk
      clear hpre hψ
      go_simp
      exact hK _ _ γ HR.out (fun _ _ _ _ h => h) (fun _ _ _ h => h) rfl
    · have q0 : ev (.tmp 21) = _ := hpre 8 (by decide)
      have q1 : ev (.tmp 24) = _ := hpre 11 (by decide)
      have q2 : ev (.tmp 27) = _ := hpre 14 (by decide)
      have hg : γ 3 = 0 := hψ.2 rfl
      obtain ⟨r1, r2, r3, i9, hi9, r4⟩ := HR.out
      have C := Lib.hid (KM.out W i9 _ _ r2 r4 r1 (by omega) HOO.out.2)
      have HX := Lib.hid (And.intro r1 (And.intro r2 (And.intro r3 (And.intro hi9 (And.intro r4 hg)))))
      have HP := Lib.hid hψ
      clear hpre r1 r2 r3 r4 hi9 hg hψ
      go_simp
      refine C.out.mono ?_
      rintro e w7 ⟨x, rfl, hx, hk7, hb7⟩
      obtain ⟨r1, r2, r3, hi9, r4, hg⟩ := HX.out
      exact hK _ w7 (fun i => if i = 3 then 1 else γ i) ⟨r1.trans (hk7.below r1.size (fun b e => by rw [e]; exact HDB.out.1)), hk7.blk r2 (fun e => HDB.out.2 e.symm), by simp; omega, i9 + 1, by simp; omega, hb7⟩ (fun j u hj hne h => in3Phi_turn (fun b cs hc => hk7.blk hc (fun e => blk_ne hc r4 (by decide) e)) rfl h) (fun _ j h1 h2 => ⟨fun e => by simpa using h2.1 e, fun e => by exact absurd e h1⟩) ⟨x, rfl, hx⟩
    · obtain ⟨x, q7, hx⟩ := hpre 7 (by decide)
      obtain ⟨y, q15, hy⟩ := hpre 15 (by decide)
      replace q7 : ev (.tmp 20) = _ := q7
      replace q15 : ev (.tmp 28) = _ := q15
      have HX := Lib.hid (And.intro hx hy)
      clear hpre hψ hx hy
      go_simp
      exact hK _ _ γ HR.out (fun _ _ _ _ h => h) (fun _ _ _ h => h) ⟨x, y, rfl, HX.out⟩
    · have HRW9 := HR
      have HP := Lib.hid hψ
      clear hpre hψ
      go_simp
      have hB5 : Below W.heap.size W (W.alloc (.cells #[.slice none 0 0, .int .i64 0, .int .i64 0] 35)) := (Below.refl _ _).alloc (Nat.le_refl _) _
      obtain ⟨r1, r2, r3, i9, hi9, r4⟩ := HRW9.out
      exact hK _ _ (fun i => if i = 0 then W.heap.size else γ i) ⟨below3 r1 hB5 (Nat.le_refl _), r2.below hB5 r2.lt, by simpa using r3, i9, by simpa using hi9, r4.below hB5 r4.lt⟩ (fun j u hj hne h => in3Phi_pure hne (fun e => by subst e; exact absurd (by decide) hj) h) (fun _ j h1 h2 => ⟨fun e => by simpa using h2.1 e, fun e => by simpa using h2.2 e⟩) ⟨rfl, r1.size, _, _, _, heap_alloc_new W _⟩
    · obtain ⟨q17, h17, x0, x1, x2, hb9⟩ := hpre 17 (by decide)
      obtain ⟨o, p, q16, hop⟩ := hpre 16 (by decide)
      replace q17 : ev (.tmp 7) = _ := q17
      replace q16 : ev (.tmp 29) = _ := q16
      obtain ⟨g9, hg9⟩ : ∃ z, z = γ 0 := ⟨_, rfl⟩
      rw [← hg9] at q17 h17 hb9
      have z9 := hb9.lt
      have f9 := hb9.frozen
      have c0 := hb9.cell 0
      have c1 := hb9.cell 1
      have c2 := hb9.cell 2
      simp only [List.getElem?_toArray, List.getElem?_cons_zero, List.getElem?_cons_succ] at c0 c1 c2
      have HX := Lib.hid (And.intro hb9 (And.intro h17 (And.intro hop hg9)))
      have HP := Lib.hid hψ
      have HRW9 := HR
      clear hpre hψ hb9 h17 hop hg9
      go_simp
      obtain ⟨hb9, h17, hop, hg9⟩ := HX.out
      obtain ⟨r1, r2, r3, i9, hi9, r4⟩ := HRW9.out
      obtain ⟨W', hW'⟩ : ∃ z, z = (((W.setCell ⟨g9, 0, none⟩ (.slice none 0 0)).setCell ⟨g9, 1, none⟩ (.int .i64 o)).setCell ⟨g9, 2, none⟩ (.int .i64 p)) := ⟨_, rfl⟩
      have hkk : Keep (fun b => b = g9) W W' := by rw [hW']; exact (((Keep.refl (fun b => b = g9) W).setCell rfl _).setCell rfl _).setCell rfl _
      have hnb : Blk W' g9 35 #[.slice none 0 0, .int .i64 o, .int .i64 p] := by
        have h := ((hb9.set_ 0 (.slice none 0 0)).set_ 1 (.int .i64 o)).set_ 2 (.int .i64 p)
        rw [hW']
        simpa using h
      rw [← hW']
      exact hK undef _ γ ⟨r1.trans (hkk.below r1.size (fun b e => by rw [e]; exact h17)), hkk.blk r2 (fun e => blk_ne r2 hb9 (by decide) e), r3, i9, hi9, hkk.blk r4 (fun e => blk_ne r4 hb9 (by decide) e)⟩ (fun j u hj hne h => in3Phi_store ⟨_, _, _, by rw [← hg9]; exact hnb⟩ hne h) (fun h => absurd rfl h) ⟨o, p, by rw [← hg9]; exact hnb, hop⟩
  · intro vs w5 γ hvl hR hφ
    have q17 := hφ 17 (by decide)
    have q18 := hφ 18 (by decide)
    have HR := Lib.hid hR
    clear hφ hR
    match vs, hvl with
    | [y0, y1, y2, y3, y4, y5, y6, y7, y8, y9, y10, y11, y12, y13, y14, y15, y16, y17, y18], _ =>
    simp only [List.getD_cons_zero, List.getD_cons_succ] at q17 q18
    obtain ⟨pb, hpb⟩ : ∃ z, z = γ 0 := ⟨_, rfl⟩
    obtain ⟨o, p, hbx, hop⟩ := q18
    obtain ⟨e17, hpx, -⟩ := q17
    rw [← hpb] at e17 hpx hbx
    obtain rfl : y17 = _ := e17
    obtain ⟨r1, r2, r3, i9, hi9, r4⟩ := HR.out
    have HOP := Lib.hid hop
    have HPX : Hid (w2.heap.size ≤ pb) := Lib.hid hpx
    have HC0 : Hid (InI w2 dx vb pb (.slice A2 n2 c2) o p LL LH (.slice none 0 0) 0 [] w5) := Lib.hid ⟨r1, r2, ⟨i9, by omega, r4⟩, hbx, World.ownsRow_nil _ _ _ _, rfl, fun i x y q _ _ h => (by simp at h)⟩
    have hbk := KB.out.below (below3 B1.out HC0.out.low (Nat.le_refl _)) KB.out.lt
    have hzg := hbk.lt
    have e0 := hbk.cell 0
    have e1 := hbk.cell 1
    have e2 := hbk.cell 2
    have e3 := hbk.cell 3
    have e4 := hbk.cell 4
    have e5 := hbk.cell 5
    simp only [List.getElem?_toArray, List.getElem?_cons_zero, List.getElem?_cons_succ] at e0 e1 e2 e3 e4 e5
    clear hbk
    clear hop hpx hbx r1 r2 r3 r4 hi9 HR hpb
    simp [putAll]
    go_wp2_with fail
    clear e0 e1 e2 e3 e4 e5 hzg
    go_loopw [34] (fun i wr => ∃ (k : Nat) (L : List Int) (vv : Value), k ≤ rn ∧ i = .int .i64 ((k : Nat) : Int) ∧ Hid (InI w2 dx vb pb (.slice A2 n2 c2) o p LL LH vv k L wr)) (fun i _ => rn - (intOf i).toNat)
    case atStart => exact ⟨0, [], _, by omega, rfl, HC0⟩
    case round =>
      obtain ⟨k, L, vv, hk, rfl, HCD⟩ := hrel
      by_cases hlt : k < rn
      · have HK4 : Hid (k ≤ 400) := Lib.hid (by have := HRN.out; omega)
        have HK5 : Hid (k + 1 ≤ rn) := Lib.hid (by omega)
        have hk1 : ((k : Nat) : Int) < ((rn : Nat) : Int) := by omega
        have hk0 : (0 : Int) ≤ ((k : Nat) : Int) := by omega
        obtain ⟨xx, hxx⟩ : ∃ x, LL[k]? = some x := ⟨_, List.getElem?_eq_getElem (by rw [HLL.out.1]; exact hlt)⟩
        obtain ⟨yy, hyy⟩ : ∃ x, LH[k]? = some x := ⟨_, List.getElem?_eq_getElem (by rw [HLH.out.1]; exact hlt)⟩
        have HXY := Lib.hid (And.intro hxx hyy)
        have HXC : Hid (∀ V, Below w2.heap.size w2 V → V.cell? ⟨lb, lo + k, none⟩ = some (.int .i64 xx) ∧ lb < V.heap.size) := Lib.hid (fun V hV => ⟨((below3 (below3 B0.out B1.out (Nat.le_refl _)) hV (Nat.le_refl _)).cell (p := ⟨lb, lo + k, none⟩) HLL.out.2.1).trans (HLL.out.2.2 k xx hxx), Nat.lt_of_lt_of_le HLL.out.2.1 (below3 (below3 B0.out B1.out (Nat.le_refl _)) hV (Nat.le_refl _)).size⟩)
        have HYC : Hid (∀ V, Below w2.heap.size w2 V → V.cell? ⟨hb, ho + k, none⟩ = some (.int .i64 yy) ∧ hb < V.heap.size) := Lib.hid (fun V hV => ⟨((below3 (below3 B0.out B1.out (Nat.le_refl _)) hV (Nat.le_refl _)).cell (p := ⟨hb, ho + k, none⟩) HLH.out.2.1).trans (HLH.out.2.2 k yy hyy), Nat.lt_of_lt_of_le HLH.out.2.1 (below3 (below3 B0.out B1.out (Nat.le_refl _)) hV (Nat.le_refl _)).size⟩)
        have HXYB := Lib.hid (HB9.out k xx yy hxx hyy)
        clear hxx hyy
        go_wp2
        refine wp_region_free10 19 (by kernel_rfl) [some 37, some 38, some 39, some 40, some 41, some 42, some 43, some 44, some 45, some 46, some 47, some 48, some 49, some 50, some 51, some 52, some 53, some 54, some 55, none] [[], [0], [], [], [3], [4], [], [5, 6], [7], [], [9], [10], [], [11, 12], [13], [2, 8, 14], [15], [1, 16, 15], [0, 1, 2, 3, 4, 5, 6, 7, 8, 9, 10, 11, 12, 13, 14, 15, 16, 17], [18, 17, 17, 0, 1, 2, 3, 4, 5, 6, 7, 8, 9, 10, 11, 12, 13, 14, 15, 16, 17]] [(7, .pointer (some ⟨pb, 0, none⟩)), (6, .func (.func 34) #[] #[.pointer (some ⟨vb, 0, none⟩)]), (2, .pointer (some ⟨kb, 0, none⟩)), (8, .int .i64 (k : Int))] (inR w2 dx vb pb (.slice A2 n2 c2) o p vv k L) (inPhi w2 kb vb pb rn lb lo lc hb ho hc o p xx yy vv k L) (inPsi) (by kernel_rfl) (by kernel_rfl) rfl (by kernel_rfl) ?_ ?_ ⟨fun _ => 0, ⟨⟨HCD.out.low.drew, HCD.out.var.below (Below.refl _ _).drew HCD.out.var.lt, by obtain ⟨i, hi, hd⟩ := HCD.out.dig; exact ⟨i, Nat.le_trans hi (Nat.le_add_right _ _), hd.below (Below.refl _ _).drew hd.lt⟩⟩, fun _ => HCD.out.box.below (Below.refl _ _).drew HCD.out.box.lt, fun _ => row_next HCD.out.row (Below.refl _ _).drew⟩, fun i _ => ⟨rfl, fun _ => rfl, fun _ => rfl⟩⟩ ?_ ?_
        · intro z hz
          simp only [List.mem_cons, List.mem_nil_iff, or_false] at hz
          rcases hz with rfl | rfl | rfl | rfl
          all_goals exact ⟨by kernel_rfl, rfl⟩
        · intro i v W γ hi h
          rcases i with _ | _ | _ | _ | _ | _ | _ | _ | _ | _ | _ | _ | _ | _ | _ | _ | _ | _ | _ | _ | i
          all_goals first | exact h | (simp at hi)
        · refine ⟨?_, ?_, ?_, ?_, ?_, ?_, ?_, ?_, ?_, ?_, ?_, ?_, ?_, ?_, ?_, ?_, ?_, ?_, ?_, ?_, trivial⟩
          all_goals
            intro a9 W γ ev hcc hff hfx hR hψ hpre
            simp only [List.mem_cons, List.mem_nil_iff, or_false, forall_eq, forall_eq_or_imp] at hfx
            obtain ⟨f0, f1, f2, f3⟩ := hfx
            have HR := Lib.hid hR
            clear hR
            refine ⟨fun _ K hK => ?_, trivial⟩

          · clear hpre hψ
            go_simp
            exact hK _ _ γ HR.out (fun _ _ _ _ h => h) (fun _ _ _ h => h) rfl
          · have q0 : ev (.tmp 37) = _ := hpre 0 (by decide)
            have hbx := HR.out.2.1 hψ.1
            have hzx := hbx.lt
            have c4 := hbx.cell 0
            simp only [List.getElem?_toArray, List.getElem?_cons_zero, List.getElem?_cons_succ] at c4
            clear hbx
            clear hpre hψ
            go_simp
            exact hK _ _ γ HR.out (fun _ _ _ _ h => h) (fun _ _ _ h => h) rfl
          · clear hpre hψ
            go_simp
            exact hK _ _ γ HR.out (fun _ _ _ _ h => h) (fun _ _ _ h => h) rfl
          · clear hpre hψ
            go_simp
            exact hK _ _ γ HR.out (fun _ _ _ _ h => h) (fun _ _ _ h => h) rfl
          · have q0 : ev (.tmp 40) = _ := hpre 3 (by decide)
            clear hpre hψ
            go_simp
            exact hK _ _ γ HR.out (fun _ _ _ _ h => h) (fun _ _ _ h => h) rfl
          · have q0 : ev (.tmp 41) = _ := hpre 4 (by decide)
            have hbk := KB.out.below (below3 B1.out HR.out.1.1 (Nat.le_refl _)) KB.out.lt
            have hzg := hbk.lt
            have e0 := hbk.cell 0
            have e1 := hbk.cell 1
            have e2 := hbk.cell 2
            have e3 := hbk.cell 3
            have e4 := hbk.cell 4
            have e5 := hbk.cell 5
            simp only [List.getElem?_toArray, List.getElem?_cons_zero, List.getElem?_cons_succ] at e0 e1 e2 e3 e4 e5
            clear hbk
            clear hpre hψ
            go_simp
            exact hK _ _ γ HR.out (fun _ _ _ _ h => h) (fun _ _ _ h => h) rfl
          · clear hpre hψ
            go_simp
            exact hK _ _ γ HR.out (fun _ _ _ _ h => h) (fun _ _ _ h => h) rfl
          · have q0 : ev (.tmp 42) = _ := hpre 5 (by decide)
            have q1 : ev (.tmp 43) = _ := hpre 6 (by decide)
            clear hpre hψ
            go_simp
            exact hK _ _ γ HR.out (fun _ _ _ _ h => h) (fun _ _ _ h => h) rfl
          · have q0 : ev (.tmp 44) = _ := hpre 7 (by decide)
            obtain ⟨c8, z8⟩ := HXC.out W HR.out.1.1
            clear hpre hψ
            go_simp
            exact hK _ _ γ HR.out (fun _ _ _ _ h => h) (fun _ _ _ h => h) rfl
          · clear hpre hψ
            go_simp
            exact hK _ _ γ HR.out (fun _ _ _ _ h => h) (fun _ _ _ h => h) rfl
          · have q0 : ev (.tmp 46) = _ := hpre 9 (by decide)
            clear hpre hψ
            go_simp
            exact hK _ _ γ HR.out (fun _ _ _ _ h => h) (fun _ _ _ h => h) rfl
          · have q0 : ev (.tmp 47) = _ := hpre 10 (by decide)
            have hbk := KB.out.below (below3 B1.out HR.out.1.1 (Nat.le_refl _)) KB.out.lt
            have hzg := hbk.lt
            have e0 := hbk.cell 0
            have e1 := hbk.cell 1
            have e2 := hbk.cell 2
            have e3 := hbk.cell 3
            have e4 := hbk.cell 4
            have e5 := hbk.cell 5
            simp only [List.getElem?_toArray, List.getElem?_cons_zero, List.getElem?_cons_succ] at e0 e1 e2 e3 e4 e5
            clear hbk
            clear hpre hψ
            go_simp
            exact hK _ _ γ HR.out (fun _ _ _ _ h => h) (fun _ _ _ h => h) rfl
          · clear hpre hψ
            go_simp
            exact hK _ _ γ HR.out (fun _ _ _ _ h => h) (fun _ _ _ h => h) rfl
          · have q0 : ev (.tmp 48) = _ := hpre 11 (by decide)
            have q1 : ev (.tmp 49) = _ := hpre 12 (by decide)
            clear hpre hψ
            go_simp
            exact hK _ _ γ HR.out (fun _ _ _ _ h => h) (fun _ _ _ h => h) rfl
          · have q0 : ev (.tmp 50) = _ := hpre 13 (by decide)
            obtain ⟨c8, z8⟩ := HYC.out W HR.out.1.1
            clear hpre hψ
            go_simp
            exact hK _ _ γ HR.out (fun _ _ _ _ h => h) (fun _ _ _ h => h) rfl
          · have q0 : ev (.tmp 39) = _ := hpre 2 (by decide)
            have q1 : ev (.tmp 45) = _ := hpre 8 (by decide)
            have q2 : ev (.tmp 51) = _ := hpre 14 (by decide)
            have h20 : γ 2 = 0 := hψ.2.2 rfl
            obtain ⟨⟨r1, r2, i9, hi9, r3⟩, r4, r5⟩ := HR.out
            rw [h20] at hi9
            have C := Lib.hid (KM.out W i9 _ _ r2 r3 r1 (by have := HK4.out; omega) HXYB.out)
            have HX := Lib.hid (And.intro (And.intro r1 (And.intro r2 (And.intro hi9 r3))) (And.intro r4 r5))
            clear r1 r2 r3 r4 r5 hi9 hpre
            have HP := Lib.hid hψ
            clear hψ
            go_simp
            refine C.out.mono ?_
            rintro e w7 ⟨x, rfl, hr, hk7, hb7⟩
            obtain ⟨⟨r1, r2, hi9, r3⟩, r4, r5⟩ := HX.out
            have hkg := keep_grown hk7
            refine hK _ w7 (fun i => if i = 2 then 1 else γ i) ⟨⟨r1.trans (hk7.below r1.size (fun b e => by rw [e]; exact HDB.out.1)), hk7.blk r2 (fun e => HDB.out.2 e.symm), i9 + 1, by simp; omega, hb7⟩, fun e => hk7.blk (r4 e) (fun e' => blk_ne (r4 e) r3 (by decide) e'), fun e => (r5 e).kept hkg (Or.inr (own_ne (r5 e) r3 (by decide)).symm)⟩ (fun j u hj hne h => inPhi_turn (fun b cs hc => hk7.blk hc (fun e => blk_ne hc r3 (by decide) e)) rfl hne (fun e => by subst e; exact absurd (by decide) hj) (fun e => by subst e; exact absurd (by decide) hj) h) (fun _ j h1 h2 => ⟨h2.1, h2.2.1, fun e => absurd e h1⟩) ⟨x, rfl, hr, rfl⟩
          · obtain ⟨r, q0, hr, _⟩ := hpre 15 (by decide)
            replace q0 : ev (.tmp 52) = _ := q0
            have HRW9 := HR
            have HRR := Lib.hid hr
            clear hpre hψ hr
            go_simp
            obtain ⟨⟨r1, r2, i9, hi9, r3⟩, r4, r5⟩ := HRW9.out
            have hB5 : Below W.heap.size W (W.alloc (.cells #[.int .i64 r] 3)) := (Below.refl _ _).alloc (Nat.le_refl _) _
            exact hK _ _ γ ⟨⟨below3 r1 hB5 (Nat.le_refl _), r2.below hB5 r2.lt, i9, hi9, r3.below hB5 r3.lt⟩, fun e => (r4 e).below hB5 (r4 e).lt, fun e => row_next (r5 e) hB5⟩ (fun j u _ _ h => inPhi_next hB5 h) (fun _ _ _ h => h) ⟨W.heap.size, r, rfl, HRR.out, fun _ => heap_alloc_new W _⟩
          · have q0 : ev (.tmp 38) = _ := hpre 1 (by decide)
            have hγ1 : γ 1 = 0 := hψ.2.1 rfl
            have hγ0 : γ 0 = 0 := hψ.1
            obtain ⟨b1, r, q6, hrr, hb1⟩ := hpre 16 (by decide)
            replace q6 : ev (.tmp 53) = _ := q6
            have hb1 := hb1 hγ1
            obtain ⟨⟨r1, r2, i9, hi9, r3⟩, r4, r5⟩ := HR.out
            have hrow := r5 hγ1
            have hbx := r4 hγ0
            obtain ⟨v', W', hr, h2, h3, _, _⟩ := run_append_own_at (P := Try.prog) W w2.heap.size 30 30 3 i0 (.int .i64 0) 1 8 Try.underlying30 hi.out.1 hi.out.2.1 hi.out.2.2.1 hi.out.2.2.2 rfl (by decide) vv k (L.flatMap encI) hrow ⟨b1, 0, none⟩ 1 1 [.int .i64 r] rfl (fun j u hj => by
              rw [add0, Blk.cell hb1]
              simpa using hj) (by intro u hu; simp only [List.mem_cons, List.mem_nil_iff, or_false] at hu; subst hu; rfl) (by have := HK4.out; simp only [maxLen]; omega) (by have := HK4.out; omega) r1.size
            unfold execOp
            simp only [resolve, invoke, builtin, Sem.run_bind, Sem.run_pure, Result.andThen_ok, List.map_toArray, List.map_cons, List.map_nil, q0, q6, hr]
            rw [show L.flatMap encI ++ [.int .i64 r] = (L ++ [r]).flatMap encI by rw [List.flatMap_append]; rfl] at h2
            obtain ⟨A', c', e'⟩ := row_slice h2
            subst e'
            have hbl : Below w2.heap.size W W' := (Below.refl _ _).grown h3 r1.size (fun r e => (World.ownsRow.lt hrow r e).1)
            refine hK _ W' (fun i => if i = 1 then 1 else γ i) ⟨⟨r1.trans hbl, r2.kept h3 (own_ne hrow r2 (by decide)), i9, hi9, r3.kept h3 (own_ne hrow r3 (by decide))⟩, fun e => hbx.kept h3 (own_ne hrow hbx (by decide)), fun e => by simp at e⟩ (fun j u hj hne h => inPhi_grown hne (fun e => by subst e; exact absurd (by decide) hj) (by simp) rfl h) (fun _ j h1 h2 => ⟨h2.1, fun e => absurd e h1, h2.2.2⟩) ⟨A', c', r, rfl, hrr, by simpa using h2⟩
          · clear hpre hψ
            go_simp
            exact hK _ _ γ HR.out (fun _ _ _ _ h => h) (fun _ _ _ h => h) rfl
          · have q0 : ev (.tmp 55) = _ := hpre 18 (by decide)
            have hγ0 : γ 0 = 0 := hψ.1
            obtain ⟨A9, c8, r, q7, hrr, hrow⟩ := hpre 17 (by decide)
            replace q7 : ev (.tmp 54) = _ := q7
            obtain ⟨⟨r1, r2, i9, hi9, r3⟩, r4, r5⟩ := HR.out
            have hbx := r4 hγ0
            have hzx := hbx.lt
            have fz := hbx.frozen
            have c4 := hbx.cell 0
            simp only [List.getElem?_toArray, List.getElem?_cons_zero, List.getElem?_cons_succ] at c4
            have HX := Lib.hid (And.intro hbx (And.intro hrow (And.intro r1 (And.intro r2 (And.intro (And.intro hi9 r3) hrr)))))
            clear hpre hbx hrow r1 r2 r3 r4 r5 hi9 hrr hψ
            go_simp
            obtain ⟨hbx, hrow, r1, r2, ⟨hi9, r3⟩, hrr⟩ := HX.out
            refine hK undef _ (fun i => if i = 2 then γ 2 else 1) ⟨⟨r1.setCell HPX.out _, r2.far (fun e => blk_ne r2 hbx (by decide) e) _, i9, by simpa using hi9, r3.far (fun e => blk_ne hbx r3 (by decide) e.symm) _⟩, fun e => by simp at e, fun e => by simp at e⟩ (fun j u h1 h2 h3 => inPhi_store hbx (by simp) (by simp) h2 h3) (fun h => absurd rfl h) ⟨A9, c8, r, hrr, ?_, hrow.kept (grown_set W pb 0 _) (Or.inr (own_ne hrow hbx (by decide)).symm)⟩
            have h := hbx.set_ 0 (.slice A9 (k + 1) c8)
            simpa using h
        · intro vs wy γ hvl hR hφ
          have q3 := hφ 15 (by decide)
          have q8 := hφ 19 (by decide)
          have HR := Lib.hid hR
          clear hφ hR
          match vs, hvl with
          | [y0, y1, y2, y3, y4, y5, y6, y7, y8, y9, y10, y11, y12, y13, y14, y15, y16, y17, y18, y19], _ =>
          simp only [List.getD_cons_zero, List.getD_cons_succ] at q3 q8
          obtain ⟨_, -, _, hγ2⟩ := q3
          obtain ⟨A9, c9, r9, hr9, hbx9, hro9⟩ := q8
          have HN : Hid (InI w2 dx vb pb (.slice A2 n2 c2) o p LL LH (.slice A9 (k + 1) c9) (k + 1) (L ++ [r9]) wy) := Lib.hid ⟨HR.out.1.1, HR.out.1.2.1, by obtain ⟨i, h1, h2⟩ := HR.out.1.2.2; rw [hγ2] at h1; exact ⟨i, by omega, h2⟩, hbx9, hro9, by rw [List.length_append, HCD.out.len]; rfl, bd_snoc HCD.out.len HXY.out.1 HXY.out.2 hr9 HCD.out.bd⟩
          clear HR hγ2 hro9 hr9 hbx9
          have hk8 : ((k : Nat) : Int) ≤ 8 := by have h8 := HRN.out; have h9 := HK5.out; omega
          simp [putAll]
          go_wp2
          go_roundw
          case rel => exact ⟨k + 1, L ++ [r9], _, HK5.out, (by have h8 := HRN.out; have h9 := HK5.out; go_num), HN⟩
          case measure => have h8 := HRN.out; have h9 := HK5.out; simp [intOf]; omega
      · obtain rfl : rn = k := by omega
        obtain ⟨A9, c9, rfl⟩ := row_slice HCD.out.row
        have hres := RB.out.below HCD.out.low RB.out.lt
        have d0 := hres.cell 0
        have d1 := hres.cell 1
        have d2 := hres.cell 2
        simp only [List.getElem?_toArray, List.getElem?_cons_zero, List.getElem?_cons_succ] at d0 d1 d2
        have zr := hres.lt
        have fr := hres.frozen
        obtain ⟨W', hW'⟩ : ∃ z, z = (((wr.setCell ⟨rb, 0, none⟩ (.slice A9 rn c9)).setCell ⟨rb, 1, none⟩ (.int .i64 o)).setCell ⟨rb, 2, none⟩ (.int .i64 p)) := ⟨_, rfl⟩
        have hkk : Keep (fun b => b = rb) wr W' := by rw [hW']; exact ((((Keep.refl (fun b => b = rb) wr).setCell rfl _).setCell rfl _).setCell rfl _)
        have hrow : Blk W' rb 35 #[.slice A9 rn c9, .int .i64 o, .int .i64 p] := by
          have h := (((hres.set_ 0 (.slice A9 rn c9)).set_ 1 (.int .i64 o)).set_ 2 (.int .i64 p))
          rw [hW']
          simpa using h
        have e0 := HCD.out.box.cell 0
        have e1 := HCD.out.box.cell 1
        have e2 := HCD.out.box.cell 2
        have ze := HCD.out.box.lt
        simp only [List.getElem?_toArray, List.getElem?_cons_zero, List.getElem?_cons_succ] at e0 e1 e2
        have hL := below3 (below3 B0.out B1.out (Nat.le_refl _)) HCD.out.low (Nat.le_refl _)
        have HFIN : Hid (((∃ b, RowW W' b 3 encI A9 L) ∧ L.length = rn) ∧ Below w.heap.size w W') := Lib.hid ⟨⟨row_w (HCD.out.len) (HCD.out.row.kept (keep_grown hkk) (Or.inr (own_ne HCD.out.row hres (by decide)).symm)), HCD.out.len⟩, hL.trans (hkk.below hL.size (fun b e => by rw [e]; exact Nat.le_trans B0.out.size (Nat.le_of_eq Zrb.out)))⟩
        have HROW := Lib.hid hrow
        clear hkk hrow hres hL
        go_wp2
        rw [← hW']
        refine bodyPost_ret (results_cell_row rfl _ _ rb 35 _ _ _ rfl HROW.out Try.underlying35 rfl (by kernel_rfl)) rfl ?_
        exact ⟨A9, c9, o, p, L, rfl, HFIN.out.1.1, HFIN.out.1.2, HCD.out.bd, HOP.out, HFIN.out.2⟩
theorem inside_any (lA hA A2 : Option Addr) (rn lc hc n2 c2 : Nat) (LL LH l2 : List Int) (ol pl oh ph : Int) (w : World) (hrn : 1 ≤ rn ∧ rn ≤ 8) (hl : Rd w w.heap.size 1 encI lA rn LL) (hh : Rd w w.heap.size 1 encI hA rn LH) (hlh : ∀ (i : Nat) (x y : Int), LL[i]? = some x → LH[i]? = some y → 0 ≤ x ∧ x ≤ y ∧ y ≤ 1000000) (hoo : 0 ≤ ol ∧ ol ≤ oh ∧ oh ≤ 1000000) (hpp : 0 ≤ ph ∧ ph ≤ pl ∧ pl ≤ 1000000) (h2 : Rd w w.heap.size 1 encU A2 n2 l2) (u2 : U8s l2) :
    Calls Try.prog 19 #[.agg #[.slice lA rn lc, .int .i64 ol, .int .i64 pl, .slice hA rn hc, .int .i64 oh, .int .i64 ph], .slice A2 n2 c2] w fun e w' => ∃ (A : Option Addr) (c : Nat) (o p : Int) (L : List Int), e = .returned (.agg #[.slice A rn c, .int .i64 o, .int .i64 p]) ∧ Rd w' w'.heap.size 1 encI A rn L ∧ (∀ (i : Nat) (x y q : Int), LL[i]? = some x → LH[i]? = some y → L[i]? = some q → x ≤ q ∧ q ≤ y) ∧ ((ol ≤ o ∧ o ≤ oh) ∧ ph ≤ p ∧ p ≤ pl) ∧ Below w.heap.size w w' :=
  (inside_row lA hA A2 rn lc hc n2 c2 LL LH l2 ol pl oh ph w hrn hl hh hlh hoo hpp h2 u2).mono (fun e w' ⟨A, c, o, p, L, e1, ⟨b, h1⟩, h2, h3⟩ => ⟨A, c, o, p, L, e1, h1.rd (fun _ => rfl) h2 (size := 1), h3⟩)
end Go.Proofs.Ytldbciflpnhfpaa
