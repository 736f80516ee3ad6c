/- keep: product. -/
import Derived.Test.YtalngalikblgkaaKpY

set_option linter.unusedSimpArgs false
set_option linter.unusedVariables false
namespace Go.Proofs.Ytalngalikblgkaa
open Go.RowKit

theorem Rd.back {α : Type} {w W : World} {B size n : Nat} {f : α → List Value} {A : Option Addr} {l : List α} (h : Rd W B size f A n l) (hb : Below B w W) : Rd w B size f A n l :=
  ⟨h.1, fun hn => by
    obtain ⟨b, off, e, hb', hc⟩ := h.2 hn
    exact ⟨b, off, e, hb', fun i x hx j u hu => (hb.cell (p := ⟨b, off + i * size + j, none⟩) hb').symm.trans (hc i x hx j u hu)⟩⟩
/-- What holds between the rounds. -/
structure PrI (B : Nat) (w1 : World) (p q r pb : Nat) (nx gv : Value) (ls : List Int) (gs : List Bool) (W : World) : Prop where
  low : Below B w1 W
  box : Blk W pb 25 #[.int .i64 (p : Int), .int .i64 (q : Int), .int .i64 (r : Int), nx, gv]
  row : W.ownsRow B 3 1 nx ls.length (ls.flatMap encI)
  good : W.ownsRow B 4 1 gv gs.length (gs.flatMap encB)
theorem PrI.next {B : Nat} {w1 : World} {p q r pb : Nat} {nx gv : Value} {ls : List Int} {gs : List Bool} {W W' : World} (h : PrI B w1 p q r pb nx gv ls gs W) (hB : B ≤ w1.heap.size) (hb : Below W.heap.size W W') : PrI B w1 p q r pb nx gv ls gs W' :=
  ⟨h.low.trans (hb.mono (Nat.le_trans hB h.low.size)), h.box.below hb h.box.lt, row_next h.row hb, row_next h.good hb⟩
/-- While a number is appended. -/
def prR (B : Nat) (w1 : World) (p q r pb : Nat) (nx gv : Value) (ls : List Int) (gs : List Bool) (W : World) (γ : Nat → Nat) : Prop :=
  Below B w1 W ∧ (γ 0 = 0 → Blk W pb 25 #[.int .i64 (p : Int), .int .i64 (q : Int), .int .i64 (r : Int), nx, gv]) ∧ (γ 1 = 0 → W.ownsRow B 3 1 nx ls.length (ls.flatMap encI)) ∧ W.ownsRow B 4 1 gv gs.length (gs.flatMap encB)
def prPhi (B bx p q r pb k : Nat) (x y z : Int) (nx gv : Value) (ls : List Int) : Nat → Value → World → (Nat → Nat) → Prop
  | 0, v, _, _ => v = .pointer (some ⟨pb, 3, none⟩)
  | 1, v, _, _ => v = nx
  | 2, v, _, _ => v = .func (.func 65) #[] #[.pointer (some ⟨bx, 0, none⟩)]
  | 3, v, _, _ => v = .int .i64 x
  | 4, v, _, _ => v = .int .i64 y
  | 5, v, _, _ => v = .int .i64 z
  | 6, v, W, γ => ∃ b1, v = .slice (some ⟨b1, 0, none⟩) 1 1 ∧ (γ 1 = 0 → Blk W b1 3 #[.int .i64 z])
  | 7, v, W, _ => ∃ A c, v = .slice A k c ∧ W.ownsRow B 3 1 (.slice A k c) k ((ls ++ [z]).flatMap encI)
  | 8, v, _, _ => v = .pointer (some ⟨pb, 3, none⟩)
  | 9, _, W, _ => ∃ A c, Blk W pb 25 #[.int .i64 (p : Int), .int .i64 (q : Int), .int .i64 (r : Int), .slice A k c, gv] ∧ W.ownsRow B 3 1 (.slice A k c) k ((ls ++ [z]).flatMap encI)
  | _, _, _, _ => True
section
variable {B bx p q r pb k : Nat} {x y z : Int} {nx gv : Value} {ls : List Int} {j : Nat} {v : Value} {W W' : World} {γ γ' : Nat → Nat}
theorem prPhi_next (hb : Below W.heap.size W W') (h : prPhi B bx p q r pb k x y z nx gv ls j v W γ) : prPhi B bx p q r pb k x y z nx gv ls j v W' γ := by
  unfold prPhi at h ⊢
  split at h
  all_goals first | exact h | trivial | skip
  · obtain ⟨b1, e, hr⟩ := h; exact ⟨b1, e, fun g => (hr g).below hb (hr g).lt⟩
  · obtain ⟨A, c, e, hr⟩ := h; exact ⟨A, c, e, row_next hr hb⟩
  · obtain ⟨A, c, hr, hg⟩ := h; exact ⟨A, c, hr.below hb hr.lt, row_next hg hb⟩
theorem prPhi_grown (h7 : j ≠ 7) (h9 : j ≠ 9) (hγ : γ' 1 ≠ 0) (h : prPhi B bx p q r pb k x y z nx gv ls j v W γ) : prPhi B bx p q r pb k x y z nx gv ls j v W' γ' := by
  unfold prPhi at h ⊢
  split at h
  all_goals first | exact h | trivial | exact absurd rfl h7 | exact absurd rfl h9 | skip
  · obtain ⟨b1, e, hr⟩ := h; exact ⟨b1, e, fun g => absurd g hγ⟩
theorem prPhi_store {u0 : Value} {cs : Array Value} (hbx : Blk W pb 25 cs) (hγ : γ' 1 ≠ 0) (h9 : j ≠ 9) (h : prPhi B bx p q r pb k x y z nx gv ls j v W γ) : prPhi B bx p q r pb k x y z nx gv ls j v (W.setCell ⟨pb, 3, none⟩ u0) γ' := by
  unfold prPhi at h ⊢
  split at h
  all_goals first | exact h | trivial | exact absurd rfl h9 | skip
  · obtain ⟨b1, e, hr⟩ := h; exact ⟨b1, e, fun g => absurd g hγ⟩
  · obtain ⟨A, c, e, hr⟩ := h; exact ⟨A, c, e, hr.kept (grown_set W pb 3 _) (Or.inr (own_ne hr hbx (by decide)).symm)⟩
end
def afPhi (w1 : World) (B bx n k h c d : Nat) (g5 : Value) (sl : List Int) : Nat → Value → World → (Nat → Nat) → Prop
  | 0, v, _, _ => v = g5
  | 1, v, _, _ => v = .int .i64 (k : Int)
  | 2, v, _, _ => v = .int .i64 (c : Int)
  | 3, v, _, _ => v = .pointer (some ⟨bx, 1, none⟩)
  | 4, v, _, _ => v = .int .i64 (n : Int)
  | 5, v, _, _ => v = .int .i64 (d : Int)
  | 6, v, _, _ => ∃ A c, v = .slice A h c ∧ Rd w1 B 1 encI A h sl
  | 7, v, _, _ => v = .int .i64 (h : Int)
  | 8, v, _, _ => v = .int .i64 0
  | _, _, _, _ => True
theorem afPhi_w {w1 : World} {B bx n k h c d : Nat} {g5 : Value} {sl : List Int} {j : Nat} {v : Value} {W W' : World} {γ γ' : Nat → Nat} (hh : afPhi w1 B bx n k h c d g5 sl j v W γ) : afPhi w1 B bx n k h c d g5 sl j v W' γ' := by
  unfold afPhi at hh ⊢
  split at hh <;> first | exact hh | trivial
/-- A list of the product made of a part of a list. -/
theorem take_pair {S : Nat} {l m : List Int} {j : Nat} {x : Int} (h : l[j]? = some x) : pairL S (l.take (j + 1)) m = pairL S (l.take j) m ++ m.map (bothF S x) := by rw [List.take_add_one, h]; exact pairL_snoc S _ m x
theorem take_map {S : Nat} {m : List Int} {t : Nat} {x y : Int} (h : m[t]? = some y) : (m.take (t + 1)).map (bothF S x) = (m.take t).map (bothF S x) ++ [bothF S x y] := by rw [List.take_add_one, h, List.map_append]; rfl
theorem own_keep {W W' : World} {n₀ size k : Nat} {e : TypeId} {v : Value} {xs : List Value} {Sx : Nat → Prop} (h : W.ownsRow n₀ e size v k xs) (hk : Keep Sx W W') (hne : ∀ b, n₀ ≤ b → ¬ Sx b) : W'.ownsRow n₀ e size v k xs := by
  refine ⟨h.1, ?_⟩
  rcases h.2 with h | ⟨g9, cap, cur, hv9, hb9, hg9, h7⟩
  · exact .inl h
  · exact .inr ⟨g9, cap, cur, hv9, hb9, hk.blk (show Blk W g9 _ cur from hg9) (hne _ hb9), h7⟩
theorem own_cap {W : World} {n₀ size n c : Nat} {e : TypeId} {A : Option Addr} {xs : List Value} (h : W.ownsRow n₀ e size (.slice A n c) n xs) : n ≤ c := by
  rcases h.2 with ⟨e, h⟩ | ⟨g9, cap, cur, hv9, hb9, hg9, h7, _⟩
  · omega
  · cases hv9; exact h7
def dmPhi (bx n s si sk : Nat) : Nat → Value → World → (Nat → Nat) → Prop
  | 0, v, _, _ => v = .int .i64 (s : Int)
  | 1, v, _, _ => v = .pointer (some ⟨bx, 0, none⟩)
  | 2, v, _, _ => v = .int .i64 (n : Int)
  | 3, v, _, _ => v = .int .i64 (si : Int)
  | 4, v, _, _ => v = .int .i64 (s : Int)
  | 5, v, _, _ => v = .pointer (some ⟨bx, 0, none⟩)
  | 6, v, _, _ => v = .int .i64 (n : Int)
  | 7, v, _, _ => v = .int .i64 (sk : Int)
  | 8, v, _, _ => v = .int .i64 (si : Int)
  | 9, v, _, _ => v = .int .i64 (sk : Int)
  | _, _, _, _ => True
def grR (B : Nat) (w1 : World) (p q r pb : Nat) (nx gv : Value) (ls : List Int) (gs : List Bool) (W : World) (γ : Nat → Nat) : Prop :=
  Below B w1 W ∧ (γ 0 = 0 → Blk W pb 25 #[.int .i64 (p : Int), .int .i64 (q : Int), .int .i64 (r : Int), nx, gv]) ∧ (γ 1 = 0 → W.ownsRow B 4 1 gv gs.length (gs.flatMap encB)) ∧ W.ownsRow B 3 1 nx ls.length (ls.flatMap encI)
def grPhi (B ax bx ab ao bb bo p q r pb k si sk na nb agc bgc : Nat) (g1 g2 u : Bool) (nx gv : Value) (gs : List Bool) : Nat → Value → World → (Nat → Nat) → Prop
  | 0, v, _, _ => v = .pointer (some ⟨pb, 4, none⟩)
  | 1, v, _, _ => v = gv
  | 2, v, _, _ => v = .pointer (some ⟨ax, 4, none⟩)
  | 3, v, _, _ => v = .slice (some ⟨ab, ao, none⟩) na agc
  | 4, v, _, _ => v = .int .i64 (si : Int)
  | 5, v, _, _ => v = .pointer (some ⟨ab, ao + si, none⟩)
  | 6, v, _, _ => v = .bool g1
  | 7, v, _, _ => v = .bool g1
  | 8, v, _, _ => g1 = true → v = .pointer (some ⟨bx, 4, none⟩)
  | 9, v, _, _ => g1 = true → v = .slice (some ⟨bb, bo, none⟩) nb bgc
  | 10, v, _, _ => g1 = true → v = .int .i64 (sk : Int)
  | 11, v, _, _ => g1 = true → v = .pointer (some ⟨bb, bo + sk, none⟩)
  | 12, v, _, _ => g1 = true → v = .bool g2
  | 13, v, _, _ => v = .bool u
  | 14, v, W, γ => ∃ b1, v = .slice (some ⟨b1, 0, none⟩) 1 1 ∧ (γ 1 = 0 → Blk W b1 4 #[.bool u])
  | 15, v, W, _ => ∃ A c, v = .slice A k c ∧ W.ownsRow B 4 1 (.slice A k c) k ((gs ++ [u]).flatMap encB)
  | 16, v, _, _ => v = .pointer (some ⟨pb, 4, none⟩)
  | 17, _, W, _ => ∃ A c, Blk W pb 25 #[.int .i64 (p : Int), .int .i64 (q : Int), .int .i64 (r : Int), nx, .slice A k c] ∧ W.ownsRow B 4 1 (.slice A k c) k ((gs ++ [u]).flatMap encB)
  | _, _, _, _ => True
section
variable {B ax bx ab ao bb bo p q r pb k si sk na nb agc bgc : Nat} {g1 g2 u : Bool} {nx gv : Value} {gs : List Bool} {j : Nat} {v : Value} {W W' : World} {γ γ' : Nat → Nat}
theorem grPhi_next (hb : Below W.heap.size W W') (h : grPhi B ax bx ab ao bb bo p q r pb k si sk na nb agc bgc g1 g2 u nx gv gs j v W γ) : grPhi B ax bx ab ao bb bo p q r pb k si sk na nb agc bgc g1 g2 u nx gv gs j v W' γ := by
  unfold grPhi at h ⊢
  split at h
  all_goals first | exact h | trivial | skip
  · obtain ⟨b1, e, hr⟩ := h; exact ⟨b1, e, fun g => (hr g).below hb (hr g).lt⟩
  · obtain ⟨A, c, e, hr⟩ := h; exact ⟨A, c, e, row_next hr hb⟩
  · obtain ⟨A, c, hr, hg⟩ := h; exact ⟨A, c, hr.below hb hr.lt, row_next hg hb⟩
theorem grPhi_grown (h7 : j ≠ 15) (h9 : j ≠ 17) (hγ : γ' 1 ≠ 0) (h : grPhi B ax bx ab ao bb bo p q r pb k si sk na nb agc bgc g1 g2 u nx gv gs j v W γ) : grPhi B ax bx ab ao bb bo p q r pb k si sk na nb agc bgc g1 g2 u nx gv gs j v W' γ' := by
  unfold grPhi at h ⊢
  split at h
  all_goals first | exact h | trivial | exact absurd rfl h7 | exact absurd rfl h9 | skip
  · obtain ⟨b1, e, hr⟩ := h; exact ⟨b1, e, fun g => absurd g hγ⟩
theorem grPhi_store {u0 : Value} {cs : Array Value} (hbx : Blk W pb 25 cs) (hγ : γ' 1 ≠ 0) (h9 : j ≠ 17) (h : grPhi B ax bx ab ao bb bo p q r pb k si sk na nb agc bgc g1 g2 u nx gv gs j v W γ) : grPhi B ax bx ab ao bb bo p q r pb k si sk na nb agc bgc g1 g2 u nx gv gs j v (W.setCell ⟨pb, 4, none⟩ u0) γ' := by
  unfold grPhi at h ⊢
  split at h
  all_goals first | exact h | trivial | exact absurd rfl h9 | skip
  · obtain ⟨b1, e, hr⟩ := h; exact ⟨b1, e, fun g => absurd g hγ⟩
  · obtain ⟨A, c, e, hr⟩ := h; exact ⟨A, c, e, hr.kept (grown_set W pb 4 _) (Or.inr (own_ne hr hbx (by decide)).symm)⟩
end
set_option maxRecDepth 100000 in
set_option maxHeartbeats 8000000 in
theorem product_any (aN bN : Option Addr) (ann anc agc bnn bnc bgc ab ao bb bo : Nat) (a b : Gm) (w : World) (hia : GmIn w w.heap.size ⟨aN, some ⟨ab, ao, none⟩, ann, anc, a.S, agc⟩ a) (hib : GmIn w w.heap.size ⟨bN, some ⟨bb, bo, none⟩, bnn, bnc, b.S, bgc⟩ b) (oa : GmOk a) (ob : GmOk b) (hS : a.S * b.S ≤ 400) (hC : a.C * b.C ≤ 16) (hH : a.H * b.H ≤ 16) :
    Calls Try.prog 43 #[.agg #[.int .i64 (a.S : Int), .int .i64 (a.C : Int), .int .i64 (a.H : Int), .slice aN ann anc, .slice (some ⟨ab, ao, none⟩) a.S agc], .agg #[.int .i64 (b.S : Int), .int .i64 (b.C : Int), .int .i64 (b.H : Int), .slice bN bnn bnc, .slice (some ⟨bb, bo, none⟩) b.S bgc]] w fun e w' => ∃ A n c A2 c2, e = .returned (.agg #[.int .i64 ((a.S * b.S : Nat) : Int), .int .i64 ((a.C * b.C : Nat) : Int), .int .i64 ((a.H * b.H : Nat) : Int), .slice A n c, .slice A2 (a.S * b.S) c2]) ∧ (∀ W' (ry : Nat), Keep (fun x => x = ry) w' W' → ry < w.heap.size → GmIn W' W'.heap.size ⟨A, A2, n, c, a.S * b.S, c2⟩ (prodG a b)) ∧ Below w.heap.size w w' := by
  have KZ := Lib.hid (fun W => sizes_any a.S a.C a.H b.S b.C b.H (.slice aN ann anc) (.slice (some ⟨ab, ao, none⟩) a.S agc) (.slice bN bnn bnc) (.slice (some ⟨bb, bo, none⟩) b.S bgc) W ⟨oa.s1, ob.s1, oa.c1, ob.c1, oa.h1, ob.h1⟩)
  obtain ⟨p, hp⟩ : ∃ z, z = a.S * b.S := ⟨_, rfl⟩
  obtain ⟨q, hq⟩ : ∃ z, z = a.C * b.C := ⟨_, rfl⟩
  obtain ⟨r, hr⟩ : ∃ z, z = a.H * b.H := ⟨_, rfl⟩
  rw [← hp, ← hq, ← hr] at KZ
  have HPQ := Lib.hid (And.intro hp (And.intro hq hr))
  have HIA := Lib.hid hia
  have HIB := Lib.hid hib
  have HOA := Lib.hid oa
  have HOB := Lib.hid ob
  have hs1 := oa.s1
  have hs2 := ob.s1
  have hc1 := oa.c1
  have hc2 := ob.c1
  have hh1 := oa.h1
  have hh2 := ob.h1
  have hbs0 := ob.s0
  have hbc0 := ob.c0
  have hp4 : p ≤ 400 := by rw [hp]; exact hS
  have hq4 : q ≤ 16 := by rw [hq]; exact hC
  have hr4 : r ≤ 16 := by rw [hr]; exact hH
  rw [← hp, ← hq, ← hr]
  obtain ⟨i0, hi0, hi1, hi2, hi3⟩ := info_parts intInfo
  have hi := Lib.hid (And.intro hi0 (And.intro hi1 (And.intro hi2 hi3)))
  obtain ⟨j0, hj0, hj1, hj2, hj3⟩ := info_parts boolInfo
  have hj := Lib.hid (And.intro hj0 (And.intro hj1 (And.intro hj2 hj3)))
  clear hia hib oa ob hp hq hr hS hC hH hi0 hi1 hi2 hi3 hj0 hj1 hj2 hj3
  go_enter Try.func43, Try.ntmps43
  go_wp2_with fail
  obtain ⟨ax, hax⟩ : ∃ z, z = w.heap.size := ⟨_, rfl⟩
  obtain ⟨bx, hbx⟩ : ∃ z, z = ax + 1 := ⟨_, rfl⟩
  obtain ⟨rx, hrx⟩ : ∃ z, z = ax + 1 + 1 := ⟨_, rfl⟩
  obtain ⟨w1, hw1⟩ : ∃ z, z = ((w.alloc (.cells #[.int .i64 (a.S : Int), .int .i64 (a.C : Int), .int .i64 (a.H : Int), .slice aN ann anc, .slice (some ⟨ab, ao, none⟩) a.S agc] 25)).alloc (.cells #[.int .i64 (b.S : Int), .int .i64 (b.C : Int), .int .i64 (b.H : Int), .slice bN bnn bnc, .slice (some ⟨bb, bo, none⟩) b.S bgc] 25)).alloc (.cells #[.int .i64 0, .int .i64 0, .int .i64 0, .slice none 0 0, .slice none 0 0] 25) := ⟨_, rfl⟩
  have hl1 : Below w.heap.size w w1 := by rw [hw1]; (repeat' (first | (with_reducible exact Below.refl _ _) | (with_reducible assumption) | (with_reducible refine below_drewN ?_ _) | (with_reducible refine below_after (by assumption) ?_ ?_) | (with_reducible refine Below.drew ?_) | (with_reducible refine Below.alloc ?_ ?_ _) | (with_reducible refine Below.setCell ?_ ?_ _) | omega | (simp; omega) | (simp; done)))
  have HA2 : Hid (Blk w1 ax 25 #[.int .i64 (a.S : Int), .int .i64 (a.C : Int), .int .i64 (a.H : Int), .slice aN ann anc, .slice (some ⟨ab, ao, none⟩) a.S agc]) := Lib.hid (by rw [hw1, hax]; exact Blk.alloc (Blk.alloc (heap_alloc_new w _) _) _)
  have HB2 : Hid (Blk w1 bx 25 #[.int .i64 (b.S : Int), .int .i64 (b.C : Int), .int .i64 (b.H : Int), .slice bN bnn bnc, .slice (some ⟨bb, bo, none⟩) b.S bgc]) := Lib.hid (by
    have e2 := heap_alloc_new (w.alloc (.cells #[.int .i64 (a.S : Int), .int .i64 (a.C : Int), .int .i64 (a.H : Int), .slice aN ann anc, .slice (some ⟨ab, ao, none⟩) a.S agc] 25)) (.cells #[.int .i64 (b.S : Int), .int .i64 (b.C : Int), .int .i64 (b.H : Int), .slice bN bnn bnc, .slice (some ⟨bb, bo, none⟩) b.S bgc] 25)
    simp only [World.size_alloc] at e2
    rw [hw1, hbx, hax]
    exact Blk.alloc e2 _)
  have HRB : Hid (Blk w1 rx 25 #[.int .i64 0, .int .i64 0, .int .i64 0, .slice none 0 0, .slice none 0 0]) := Lib.hid (by
    have e2 := heap_alloc_new ((w.alloc (.cells #[.int .i64 (a.S : Int), .int .i64 (a.C : Int), .int .i64 (a.H : Int), .slice aN ann anc, .slice (some ⟨ab, ao, none⟩) a.S agc] 25)).alloc (.cells #[.int .i64 (b.S : Int), .int .i64 (b.C : Int), .int .i64 (b.H : Int), .slice bN bnn bnc, .slice (some ⟨bb, bo, none⟩) b.S bgc] 25)) (.cells #[.int .i64 0, .int .i64 0, .int .i64 0, .slice none 0 0, .slice none 0 0] 25)
    simp only [World.size_alloc] at e2
    rw [hw1, hrx, hax]
    exact e2)
  rw [← hw1, ← hax]
  rw [← hrx, ← hbx]
  have HL := Lib.hid hl1
  have HZ : Hid (w.heap.size = ax ∧ w1.heap.size = ax + 3 ∧ bx = ax + 1 ∧ rx = ax + 2) := Lib.hid (by rw [hw1, hrx, hbx, hax]; simp)
  have HINA : Hid (GmIn w1 w1.heap.size ⟨aN, some ⟨ab, ao, none⟩, ann, anc, a.S, agc⟩ a) := Lib.hid (HIA.out.next' hl1)
  have HINB : Hid (GmIn w1 w1.heap.size ⟨bN, some ⟨bb, bo, none⟩, bnn, bnc, b.S, bgc⟩ b) := Lib.hid (HIB.out.next' hl1)
  clear hw1 hax hl1 hbx hrx
  refine (KZ.out _).mono ?_
  rintro e w2 ⟨rfl, hB2⟩
  obtain ⟨pb, hpb⟩ : ∃ z, z = w2.heap.size := ⟨_, rfl⟩
  obtain ⟨W0, hW0⟩ : ∃ z, z = w2.alloc (.cells #[.int .i64 (p : Int), .int .i64 (q : Int), .int .i64 (r : Int), .slice none 0 0, .slice none 0 0] 25) := ⟨_, rfl⟩
  have HPBB : Hid (w1.heap.size ≤ pb) := Lib.hid (by rw [hpb]; exact hB2.size)
  have HW0 : Hid (PrI w1.heap.size w1 p q r pb (.slice none 0 0) (.slice none 0 0) (prodA a b 0) (prodB a b 0) W0) := Lib.hid ⟨by rw [hW0]; exact hB2.alloc hB2.size _, by rw [hW0, hpb]; exact heap_alloc_new w2 _, World.ownsRow_nil _ _ _ _, World.ownsRow_nil _ _ _ _⟩
  clear hB2
  go_wp2
  rw [← hW0, ← hpb]
  clear hW0 hpb
  go_loopw [21] (fun i wr => ∃ s : Nat, s ≤ p ∧ i = .int .i64 s ∧ ∃ nx gv, Hid (PrI w1.heap.size w1 p q r pb nx gv (prodA a b s) (prodB a b s) wr)) (fun i _ => p - (intOf i).toNat)
  case atStart => exact ⟨0, by omega, rfl, _, _, HW0⟩
  case round =>
    obtain ⟨s, hs, rfl, nx, gv, HWo⟩ := hrel
    by_cases hlt : s < p
    · have hsp : s < a.S * b.S := by rw [← HPQ.out.1]; exact hlt
      obtain ⟨si, hsi⟩ : ∃ z, z = s / b.S := ⟨_, rfl⟩
      obtain ⟨sk, hsk⟩ : ∃ z, z = s % b.S := ⟨_, rfl⟩
      have hsia : si < a.S := by rw [hsi]; exact div_lt hsp
      have hskb : sk < b.S := by rw [hsk]; exact mod_lt hsp
      obtain ⟨ab', ao', g1, e1, hca1, hg1, hca2⟩ := HINA.out.good.at_ hsia
      obtain ⟨bb', bo', g2, e2, hcb1, hg2, hcb2⟩ := HINB.out.good.at_ hskb
      obtain ⟨rfl, rfl⟩ : ab = ab' ∧ ao = ao' := by simpa using e1
      obtain ⟨rfl, rfl⟩ : bb = bb' ∧ bo = bo' := by simpa using e2
      have HCA : Hid (ab < w1.heap.size ∧ w1.cell? ⟨ab, ao + si, none⟩ = some (.bool g1)) := Lib.hid ⟨hca1, by simpa [encB] using hca2 0 _ rfl⟩
      have HCB : Hid (bb < w1.heap.size ∧ w1.cell? ⟨bb, bo + sk, none⟩ = some (.bool g2)) := Lib.hid ⟨hcb1, by simpa [encB] using hcb2 0 _ rfl⟩
      obtain ⟨u, hu⟩ : ∃ z, z = (g1 && g2) := ⟨_, rfl⟩
      have HU := Lib.hid hu
      have HPB2 : Hid (prodB a b (s + 1) = prodB a b s ++ [u]) := Lib.hid (by rw [prodB_succ, hu, ← hsi, ← hsk, List.getD_eq_getElem?_getD, List.getD_eq_getElem?_getD, hg1, hg2]; rfl)
      obtain ⟨ls, hls⟩ : ∃ z, z = prodA a b s := ⟨_, rfl⟩
      obtain ⟨gs, hgs⟩ : ∃ z, z = prodB a b s := ⟨_, rfl⟩
      have hgl : gs.length = s := by rw [hgs]; unfold prodB; simp
      have HLG : Hid (gs.length ≤ 400) := Lib.hid (by omega)
      obtain ⟨kg, hkg⟩ : ∃ z, z = gs.length + 1 := ⟨_, rfl⟩
      have HKG : Hid (kg = gs.length + 1) := Lib.hid hkg
      rw [← hls, ← hgs] at HWo
      have HLS := Lib.hid (And.intro hls (And.intro hgs (And.intro hsi hsk)))
      have t1 : (s : Int).tdiv (b.S : Int) = (si : Int) := by rw [hsi]; exact (Int.ofNat_tdiv s b.S).symm
      have t2 : (s : Int).tmod (b.S : Int) = (sk : Int) := by rw [hsk]; exact (Int.ofNat_tmod s b.S).symm
      have t3 : IntKind.i64.wrap (si : Int) = (si : Int) := IntWalk.i64_in _ (by omega)
      have t4 : ¬ ((b.S : Int) = 0) := by omega
      have t6 : ¬ (b.S = 0) := by omega
      have t5 : ((b.S : Int) == 0) = false := by rw [beq_eq_false_iff_ne]; exact t4
      have hk0 : (0 : Int) ≤ (s : Int) := by omega
      have hkn : (s : Int) < (p : Int) := by omega
      have i1 : (0 : Int) ≤ (si : Int) := by omega
      have i2 : (si : Int) < (a.S : Int) := by omega
      have i3 : (0 : Int) ≤ (sk : Int) := by omega
      have i4 : (sk : Int) < (b.S : Int) := by omega
      have hbb := HB2.out.below HWo.out.low HB2.out.lt
      have e0 := hbb.cell 0
      have zb := hbb.lt
      simp only [List.getElem?_toArray, List.getElem?_cons_zero, List.getElem?_cons_succ] at e0
      clear hbb hu hls hgs hsi hsk hkg hgl hca1 hca2 hcb1 hcb2 hg1 hg2
      go_wp2
      refine wp_region_free10 9 (by kernel_rfl) [some 24, some 25, some 26, some 27, some 28, some 29, some 30, some 31, some 8, some 9] [[], [], [1], [0, 2], [], [], [5], [4, 6], [3, 0, 1, 2, 3], [7, 8, 0, 1, 2, 3, 4, 5, 6, 7, 8]] [(3, .pointer (some ⟨bx, 0, none⟩)), (7, .int .i64 (s : Int))] (fun W _ => Below wr.heap.size wr W) (dmPhi bx b.S s si sk) (fun _ _ _ => True) (by kernel_rfl) (by kernel_rfl) rfl (by kernel_rfl) ?_ ?_ ⟨fun _ => 0, (Below.refl _ _).drew, fun i _ => trivial⟩ ?_ ?_
      · intro z hz
        simp only [List.mem_cons, List.mem_nil_iff, or_false] at hz
        rcases hz with rfl | rfl
        all_goals exact ⟨by kernel_rfl, rfl⟩
      · intro i v W γ hi h
        rcases i with _ | _ | _ | _ | _ | _ | _ | _ | _ | _ | i
        all_goals first | exact h | (simp at hi)
      · refine ⟨?_, ?_, ?_, ?_, ?_, ?_, ?_, ?_, ?_, ?_, trivial⟩
        all_goals
          intro a9 W γ ev hcc hff hfx hR hψ hpre
          simp only [List.mem_cons, List.mem_nil_iff, or_false, forall_eq, forall_eq_or_imp] at hfx
          obtain ⟨f0, f1⟩ := hfx
          have HR := Lib.hid hR
          clear hR
          refine ⟨fun _ K hK => ?_, trivial⟩

        · clear hpre hψ
          go_simp
          exact hK _ _ γ HR.out (fun _ _ _ _ h => h) (fun _ _ _ h => h) rfl
        · clear hpre hψ
          go_simp
          exact hK _ _ γ HR.out (fun _ _ _ _ h => h) (fun _ _ _ h => h) rfl
        · have q0 : ev (.tmp 25) = _ := hpre 1 (by decide)
          have hbg := HB2.out.below (show Below w1.heap.size w1 W from (HWo.out.low.trans ((HR.out : Below wr.heap.size wr W).mono HWo.out.low.size))) HB2.out.lt
          have hzg := hbg.lt
          have e0 := hbg.cell 0
          simp only [List.getElem?_toArray, List.getElem?_cons_zero, List.getElem?_cons_succ] at e0
          clear hbg
          clear hpre hψ
          go_simp
          exact hK _ _ γ HR.out (fun _ _ _ _ h => h) (fun _ _ _ h => h) rfl
        · have q0 : ev (.tmp 24) = _ := hpre 0 (by decide)
          have q1 : ev (.tmp 26) = _ := hpre 2 (by decide)
          clear hpre hψ
          go_simp
          exact hK _ _ γ HR.out (fun _ _ _ _ h => h) (fun _ _ _ h => h) rfl
        · clear hpre hψ
          go_simp
          exact hK _ _ γ HR.out (fun _ _ _ _ h => h) (fun _ _ _ h => h) rfl
        · clear hpre hψ
          go_simp
          exact hK _ _ γ HR.out (fun _ _ _ _ h => h) (fun _ _ _ h => h) rfl
        · have q0 : ev (.tmp 29) = _ := hpre 5 (by decide)
          have hbg := HB2.out.below (show Below w1.heap.size w1 W from (HWo.out.low.trans ((HR.out : Below wr.heap.size wr W).mono HWo.out.low.size))) HB2.out.lt
          have hzg := hbg.lt
          have e0 := hbg.cell 0
          simp only [List.getElem?_toArray, List.getElem?_cons_zero, List.getElem?_cons_succ] at e0
          clear hbg
          clear hpre hψ
          go_simp
          exact hK _ _ γ HR.out (fun _ _ _ _ h => h) (fun _ _ _ h => h) rfl
        · have q0 : ev (.tmp 28) = _ := hpre 4 (by decide)
          have q1 : ev (.tmp 30) = _ := hpre 6 (by decide)
          clear hpre hψ
          go_simp
          exact hK _ _ γ HR.out (fun _ _ _ _ h => h) (fun _ _ _ h => h) rfl
        · have q0 : ev (.tmp 27) = _ := hpre 3 (by decide)
          clear hpre hψ
          go_simp
          exact hK _ _ γ HR.out (fun _ _ _ _ h => h) (fun _ _ _ h => h) rfl
        · have q0 : ev (.tmp 31) = _ := hpre 7 (by decide)
          clear hpre hψ
          go_simp
          exact hK _ _ γ HR.out (fun _ _ _ _ h => h) (fun _ _ _ h => h) rfl
      · intro vs w5 γ hvl hR hφ
        have q8 := hφ 8 (by decide)
        have q9 := hφ 9 (by decide)
        have HR := Lib.hid hR
        clear hφ hR
        match vs, hvl with
        | [z0, z1, z2, z3, z4, z5, z6, z7, z8, z9], _ =>
        simp only [List.getD_cons_zero, List.getD_cons_succ] at q8 q9
        obtain rfl : z8 = _ := q8
        obtain rfl : z9 = _ := q9
        have HWn : Hid (PrI w1.heap.size w1 p q r pb nx gv ls gs w5) := Lib.hid (HWo.out.next (Nat.le_refl _) HR.out)
        replace HWo := HWn
        clear HR HWn
        simp [putAll]
        go_wp2
        refine wp_region_free10 17 (by kernel_rfl) [some 32, some 33, some 34, some 35, some 36, some 37, some 38, some 39, some 40, some 41, some 42, some 43, some 44, some 45, some 46, some 47, some 48, none] [[], [0], [], [2], [], [3, 4], [5], [6], [7], [8, 7], [7], [9, 10, 7], [11, 7], [7, 12], [13], [1, 14, 7], [0, 1, 2, 3, 4, 5, 6, 7, 8, 9, 10, 11, 12, 13, 14, 15], [16, 15, 15, 0, 1, 2, 3, 4, 5, 6, 7, 8, 9, 10, 11, 12, 13, 14, 15]] [(5, .pointer (some ⟨pb, 0, none⟩)), (2, .pointer (some ⟨ax, 0, none⟩)), (3, .pointer (some ⟨bx, 0, none⟩)), (8, .int .i64 (si : Int)), (9, .int .i64 (sk : Int))] (grR w1.heap.size w1 p q r pb nx gv ls gs) (grPhi w1.heap.size ax bx ab ao bb bo p q r pb kg si sk a.S b.S agc bgc g1 g2 u nx gv gs) (fun i _ γ => γ 0 = 0 ∧ (i = 15 → γ 1 = 0)) (by kernel_rfl) (by kernel_rfl) rfl (by kernel_rfl) ?_ ?_ ⟨fun _ => 0, ⟨HWo.out.low.drew, fun _ => HWo.out.box.below (Below.refl _ _).drew HWo.out.box.lt, fun _ => row_next HWo.out.good (Below.refl _ _).drew, row_next HWo.out.row (Below.refl _ _).drew⟩, fun i _ => ⟨rfl, fun _ => rfl⟩⟩ ?_ ?_
        · intro z hz
          simp only [List.mem_cons, List.mem_nil_iff, or_false] at hz
          rcases hz with rfl | rfl | rfl | rfl | rfl
          all_goals exact ⟨by kernel_rfl, rfl⟩
        · intro i v W γ hi h
          rcases i with _ | _ | _ | _ | _ | _ | _ | _ | _ | _ | _ | _ | _ | _ | _ | _ | _ | _ | i
          all_goals first | exact h | (simp at hi)
        · refine ⟨?_, ?_, ?_, ?_, ?_, ?_, ?_, ?_, ?_, ?_, ?_, ?_, ?_, ?_, ?_, ?_, ?_, ?_, trivial⟩
          all_goals
            intro a9 W γ ev hcc hff hfx hR hψ hpre
            simp only [List.mem_cons, List.mem_nil_iff, or_false, forall_eq, forall_eq_or_imp] at hfx
            obtain ⟨f0, f1, f2, f3, f4⟩ := hfx
            have HR := Lib.hid hR
            clear hR
          · refine ⟨fun hg K hK => ?_, trivial⟩
            clear hg
            clear hpre hψ
            go_simp
            exact hK _ _ γ HR.out (fun _ _ _ _ h => h) (fun _ _ _ h => h) rfl
          · refine ⟨fun hg K hK => ?_, trivial⟩
            clear hg
            have q0 : ev (.tmp 32) = _ := hpre 0 (by decide)
            have hbx := HR.out.2.1 hψ.1
            have hzx := hbx.lt
            have c4 := hbx.cell 4
            simp only [List.getElem?_toArray, List.getElem?_cons_zero, List.getElem?_cons_succ] at c4
            clear hbx
            clear hpre hψ
            go_simp
            exact hK _ _ γ HR.out (fun _ _ _ _ h => h) (fun _ _ _ h => h) rfl
          · refine ⟨fun hg K hK => ?_, trivial⟩
            clear hg
            clear hpre hψ
            go_simp
            exact hK _ _ γ HR.out (fun _ _ _ _ h => h) (fun _ _ _ h => h) rfl
          · refine ⟨fun hg K hK => ?_, trivial⟩
            clear hg
            have q0 : ev (.tmp 34) = _ := hpre 2 (by decide)
            have hbg := HA2.out.below (show Below w1.heap.size w1 W from HR.out.1) HA2.out.lt
            have hzg := hbg.lt
            have e4 := hbg.cell 4
            simp only [List.getElem?_toArray, List.getElem?_cons_zero, List.getElem?_cons_succ] at e4
            clear hbg
            clear hpre hψ
            go_simp
            exact hK _ _ γ HR.out (fun _ _ _ _ h => h) (fun _ _ _ h => h) rfl
          · refine ⟨fun hg K hK => ?_, trivial⟩
            clear hg
            clear hpre hψ
            go_simp
            exact hK _ _ γ HR.out (fun _ _ _ _ h => h) (fun _ _ _ h => h) rfl
          · refine ⟨fun hg K hK => ?_, trivial⟩
            clear hg
            have q0 : ev (.tmp 35) = _ := hpre 3 (by decide)
            have q1 : ev (.tmp 36) = _ := hpre 4 (by decide)
            clear hpre hψ
            go_simp
            exact hK _ _ γ HR.out (fun _ _ _ _ h => h) (fun _ _ _ h => h) rfl
          · refine ⟨fun hg K hK => ?_, trivial⟩
            clear hg
            have q0 : ev (.tmp 37) = _ := hpre 5 (by decide)
            have hca := ((show Below w1.heap.size w1 W from HR.out.1).cell (p := ⟨ab, ao + si, none⟩) HCA.out.1).trans HCA.out.2
            have hza : ab < W.heap.size := block_of_cell hca
            clear hpre hψ
            go_simp
            exact hK _ _ γ HR.out (fun _ _ _ _ h => h) (fun _ _ _ h => h) rfl
          · refine ⟨fun hg K hK => ?_, trivial⟩
            clear hg
            have q0 : ev (.tmp 38) = _ := hpre 6 (by decide)
            clear hpre hψ
            go_simp
            exact hK _ _ γ HR.out (fun _ _ _ _ h => h) (fun _ _ _ h => h) rfl
          · refine ⟨fun hg K hK => ?_, fun hg h => absurd ((show left _ ev 7 = .bool g1 from hpre 7 (by decide)).trans (by rw [h])) hg⟩
            have hg1 : g1 = true := by have h := Eq.trans (Eq.symm (hpre 7 (by decide))) hg; simpa using h
            clear hg
            clear hpre hψ
            go_simp
            exact hK _ _ γ HR.out (fun _ _ _ _ h => h) (fun _ _ _ h => h) (fun _ => rfl)
          · refine ⟨fun hg K hK => ?_, fun hg h => absurd ((show left _ ev 7 = .bool g1 from hpre 7 (by decide)).trans (by rw [h])) hg⟩
            have hg1 : g1 = true := by have h := Eq.trans (Eq.symm (hpre 7 (by decide))) hg; simpa using h
            clear hg
            have q0 : ev (.tmp 40) = _ := hpre 8 (by decide) hg1
            have hbg := HB2.out.below (show Below w1.heap.size w1 W from HR.out.1) HB2.out.lt
            have hzg := hbg.lt
            have e4 := hbg.cell 4
            simp only [List.getElem?_toArray, List.getElem?_cons_zero, List.getElem?_cons_succ] at e4
            clear hbg
            clear hpre hψ
            go_simp
            exact hK _ _ γ HR.out (fun _ _ _ _ h => h) (fun _ _ _ h => h) (fun _ => rfl)
          · refine ⟨fun hg K hK => ?_, fun hg h => absurd ((show left _ ev 7 = .bool g1 from hpre 7 (by decide)).trans (by rw [h])) hg⟩
            have hg1 : g1 = true := by have h := Eq.trans (Eq.symm (hpre 7 (by decide))) hg; simpa using h
            clear hg
            clear hpre hψ
            go_simp
            exact hK _ _ γ HR.out (fun _ _ _ _ h => h) (fun _ _ _ h => h) (fun _ => rfl)
          · refine ⟨fun hg K hK => ?_, fun hg h => absurd ((show left _ ev 7 = .bool g1 from hpre 7 (by decide)).trans (by rw [h])) hg⟩
            have hg1 : g1 = true := by have h := Eq.trans (Eq.symm (hpre 7 (by decide))) hg; simpa using h
            clear hg
            have q0 : ev (.tmp 41) = _ := hpre 9 (by decide) hg1
            have q1 : ev (.tmp 42) = _ := hpre 10 (by decide) hg1
            clear hpre hψ
            go_simp
            exact hK _ _ γ HR.out (fun _ _ _ _ h => h) (fun _ _ _ h => h) (fun _ => rfl)
          · refine ⟨fun hg K hK => ?_, fun hg h => absurd ((show left _ ev 7 = .bool g1 from hpre 7 (by decide)).trans (by rw [h])) hg⟩
            have hg1 : g1 = true := by have h := Eq.trans (Eq.symm (hpre 7 (by decide))) hg; simpa using h
            clear hg
            have q0 : ev (.tmp 43) = _ := hpre 11 (by decide) hg1
            have hcb := ((show Below w1.heap.size w1 W from HR.out.1).cell (p := ⟨bb, bo + sk, none⟩) HCB.out.1).trans HCB.out.2
            have hzb : bb < W.heap.size := block_of_cell hcb
            clear hpre hψ
            go_simp
            exact hK _ _ γ HR.out (fun _ _ _ _ h => h) (fun _ _ _ h => h) (fun _ => rfl)
          · refine ⟨fun hg K hK => ?_, trivial⟩
            clear hg
            have q0 : ev (.tmp 39) = _ := hpre 7 (by decide)
            have q1 := hpre 12 (by decide)
            clear hpre hψ
            have HU2 := HU
            cases g1
            · clear q1
              go_simp
              exact hK _ _ γ HR.out (fun _ _ _ _ h => h) (fun _ _ _ h => h) (by rw [HU2.out]; rfl)
            · have q1 : ev (.tmp 44) = _ := q1 rfl
              go_simp
              exact hK _ _ γ HR.out (fun _ _ _ _ h => h) (fun _ _ _ h => h) (by rw [HU2.out]; rfl)
          · refine ⟨fun hg K hK => ?_, trivial⟩
            clear hg
            have q0 : ev (.tmp 45) = _ := hpre 13 (by decide)
            have HRW9 := HR
            clear hpre hψ
            go_simp
            obtain ⟨r1, r2, r3, r4⟩ := HRW9.out
            have hB5 : Below W.heap.size W (W.alloc (.cells #[.bool u] 4)) := (Below.refl _ _).alloc (Nat.le_refl _) _
            exact hK _ _ γ ⟨below3 r1 hB5 (Nat.le_refl _), fun e => (r2 e).below hB5 (r2 e).lt, fun e => row_next (r3 e) hB5, row_next r4 hB5⟩ (fun j u _ _ h => grPhi_next hB5 h) (fun _ _ _ h => h) ⟨W.heap.size, rfl, fun _ => heap_alloc_new W _⟩
          · refine ⟨fun hg K hK => ?_, trivial⟩
            clear hg
            have q0 : ev (.tmp 33) = _ := hpre 1 (by decide)
            have hγ1 : γ 1 = 0 := hψ.2 rfl
            have hγ0 : γ 0 = 0 := hψ.1
            obtain ⟨b1, q6, hb1⟩ := hpre 14 (by decide)
            replace q6 : ev (.tmp 46) = _ := q6
            have hb1 := hb1 hγ1
            obtain ⟨r1, r2, r3, r4⟩ := HR.out
            have hrow := r3 hγ1
            have hbx := r2 hγ0
            obtain ⟨v', W', hr, h2, h3, _, _⟩ := run_append_own_at (P := Try.prog) W w1.heap.size 23 23 4 j0 (.bool false) 1 1 Try.underlying23 hj.out.1 hj.out.2.1 hj.out.2.2.1 hj.out.2.2.2 rfl (by decide) gv gs.length (gs.flatMap encB) hrow ⟨b1, 0, none⟩ 1 1 [.bool u] rfl (fun j u hj => by
              rw [add0, Blk.cell hb1]
              simpa using hj) (by intro u hu; simp only [List.mem_cons, List.mem_nil_iff, or_false] at hu; subst hu; rfl) (by have := HLG.out; simp only [maxLen]; omega) (by have := HLG.out; omega) r1.size
            unfold execOp
            simp only [resolve, invoke, builtin, Sem.run_bind, Sem.run_pure, Result.andThen_ok, List.map_toArray, List.map_cons, List.map_nil, q0, q6, hr]
            rw [show gs.flatMap encB ++ [.bool u] = (gs ++ [u]).flatMap encB by rw [List.flatMap_append]; rfl] at h2
            obtain ⟨A', c', e'⟩ := row_slice h2
            subst e'
            have hbl : Below w1.heap.size W W' := (Below.refl _ _).grown h3 r1.size (fun r e => (World.ownsRow.lt hrow r e).1)
            refine hK _ W' (fun i => if i = 1 then 1 else γ i) ⟨r1.trans hbl, fun e => hbx.kept h3 (own_ne hrow hbx (by decide)), fun e => by simp at e, r4.kept h3 (own_far r4 hrow (by decide))⟩ (fun j u hj hne h => grPhi_grown hne (fun e => by subst e; exact absurd (by decide) hj) (by simp) h) (fun _ j h1 h2 => ⟨h2.1, fun e => absurd e h1⟩) ⟨A', c', by rw [HKG.out], by rw [HKG.out]; exact h2⟩
          · refine ⟨fun hg K hK => ?_, trivial⟩
            clear hg
            clear hpre hψ
            go_simp
            exact hK _ _ γ HR.out (fun _ _ _ _ h => h) (fun _ _ _ h => h) rfl
          · refine ⟨fun hg K hK => ?_, trivial⟩
            clear hg
            have q0 : ev (.tmp 48) = _ := hpre 16 (by decide)
            have hγ0 : γ 0 = 0 := hψ.1
            obtain ⟨A, c8, q7, hrow⟩ := hpre 15 (by decide)
            replace q7 : ev (.tmp 47) = _ := q7
            obtain ⟨r1, r2, r3, r4⟩ := HR.out
            have hbx := r2 hγ0
            have hzx := hbx.lt
            have fz := hbx.frozen
            have c4 := hbx.cell 4
            simp only [List.getElem?_toArray, List.getElem?_cons_zero, List.getElem?_cons_succ] at c4
            have HX := Lib.hid (And.intro hbx (And.intro hrow (And.intro r1 r4)))
            clear hpre hbx hrow r1 r2 r3 r4
            go_simp
            obtain ⟨hbx, hrow, r1, r4⟩ := HX.out
            refine hK undef _ (fun _ => 1) ⟨r1.setCell HPBB.out _, fun e => by simp at e, fun e => by simp at e, r4.kept (grown_set W pb 4 _) (Or.inr (own_ne r4 hbx (by decide)).symm)⟩ (fun j u h1 h2 h3 => grPhi_store hbx (by decide) h2 h3) (fun h => absurd rfl h) ⟨A, c8, ?_, hrow.kept (grown_set W pb 4 _) (Or.inr (own_ne hrow hbx (by decide)).symm)⟩
            have h := hbx.set_ 4 (.slice A kg c8)
            simpa using h
        · intro vs w' γ hvl hR hφ
          have q17 := hφ 17 (by decide)
          have HR := Lib.hid hR
          clear hφ hR
          match vs, hvl with
          | [y0, y1, y2, y3, y4, y5, y6, y7, y8, y9, y10, y11, y12, y13, y14, y15, y16, y17], _ =>
          simp only [List.getD_cons_zero, List.getD_cons_succ] at q17
          obtain ⟨A9, c9, hbx9, hro9⟩ := q17
          obtain ⟨r1, _, _, r4⟩ := HR.out
          have HG2 : Hid ((gs ++ [u]).length = kg) := Lib.hid (by rw [List.length_append, HKG.out]; rfl)
          have HW1 : Hid (PrI w1.heap.size w1 p q r pb nx (.slice A9 kg c9) (ls ++ prodR a b s 0) (gs ++ [u]) w') := Lib.hid ⟨r1, hbx9, by rw [show prodR a b s 0 = [] from rfl, List.append_nil]; exact r4, by rw [HG2.out]; exact hro9⟩
          have p1 := hbx9.cell 1
          have zp := hbx9.lt
          simp only [List.getElem?_toArray, List.getElem?_cons_zero, List.getElem?_cons_succ] at p1
          clear hbx9 hro9 r1 r4 HR
          simp [putAll]
          go_wp2
          go_loopw [51] (fun i wr => ∃ c : Nat, c ≤ q ∧ i = .int .i64 c ∧ ∃ nx, Hid (PrI w1.heap.size w1 p q r pb nx (.slice A9 kg c9) (ls ++ prodR a b s c) (gs ++ [u]) wr)) (fun i _ => q - (intOf i).toNat)
          case atStart => exact ⟨0, by omega, rfl, _, HW1⟩
          case round =>
            obtain ⟨c, hc, rfl, nx2, HPR⟩ := hrel
            by_cases hcq : c < q
            · have hcC : c < a.C * b.C := by rw [← HPQ.out.2.1]; exact hcq
              obtain ⟨ci, hci⟩ : ∃ z, z = c / b.C := ⟨_, rfl⟩
              obtain ⟨ck, hck⟩ : ∃ z, z = c % b.C := ⟨_, rfl⟩
              have hcia : ci < a.C := by rw [hci]; exact div_lt hcC
              have hckb : ck < b.C := by rw [hck]; exact mod_lt hcC
              obtain ⟨sl, hsl⟩ : ∃ z, z = subL a si ci := ⟨_, rfl⟩
              obtain ⟨ml, hml⟩ : ∃ z, z = subL b sk ck := ⟨_, rfl⟩
              have HSL : Hid (sl.length = a.H ∧ ml.length = b.H ∧ (∀ x ∈ sl, -1 ≤ x ∧ x < a.S) ∧ (∀ x ∈ ml, -1 ≤ x ∧ x < b.S)) := Lib.hid ⟨by rw [hsl]; exact sub_len HOA.out hsia hcia, by rw [hml]; exact sub_len HOB.out hskb hckb, fun x hx => sub_bd HOA.out (by rw [← hsl]; exact hx), fun x hx => sub_bd HOB.out (by rw [← hml]; exact hx)⟩
              have HPN : Hid (prodN a b s c = pairL b.S sl ml) := Lib.hid (by unfold prodN; rw [hsl, hml, HLS.out.2.2.1, HLS.out.2.2.2, hci, hck])
              have KA := Lib.hid (fun W (h : Below w1.heap.size w1 W) => after_base aN (some ⟨ab, ao, none⟩) ann anc a.S agc a si ci w1.heap.size W ⟨HINA.out.next.below h, HINA.out.good.below h, HINA.out.cap⟩ HOA.out hsia hcia)
              have KB := Lib.hid (fun W (h : Below w1.heap.size w1 W) => after_base bN (some ⟨bb, bo, none⟩) bnn bnc b.S bgc b sk ck w1.heap.size W ⟨HINB.out.next.below h, HINB.out.good.below h, HINB.out.cap⟩ HOB.out hskb hckb)
              rw [← hsl] at KA
              rw [← hml] at KB
              have x1 : (c : Int).tdiv (b.C : Int) = (ci : Int) := by rw [hci]; exact (Int.ofNat_tdiv c b.C).symm
              have x2 : (c : Int).tmod (b.C : Int) = (ck : Int) := by rw [hck]; exact (Int.ofNat_tmod c b.C).symm
              have x3 : IntKind.i64.wrap (ci : Int) = (ci : Int) := IntWalk.i64_in _ (by omega)
              have x6 : ¬ (b.C = 0) := by omega
              have hv0 : (0 : Int) ≤ (c : Int) := by omega
              have hvn : (c : Int) < (q : Int) := by omega
              obtain ⟨L0, hL0⟩ : ∃ z, z = ls ++ prodR a b s c := ⟨_, rfl⟩
              have HL0 := Lib.hid hL0
              have hL0l : L0.length ≤ 102656 := by
                rw [hL0, List.length_append, HLS.out.1, prodA_len HOA.out HOB.out (by rw [← HPQ.out.1]; exact hs), prodR_len HOA.out HOB.out hsp (by omega), ← HPQ.out.2.1, ← HPQ.out.2.2]
                have m1 : s * q ≤ 400 * 16 := Nat.mul_le_mul (by omega) hq4
                have m2 : s * q * r ≤ 6400 * 16 := Nat.mul_le_mul m1 hr4
                have m3 : c * r ≤ 16 * 16 := Nat.mul_le_mul (by omega) hr4
                omega
              rw [← hL0] at HPR
              have HL0L := Lib.hid hL0l
              clear hci hck hsl hml hL0 hL0l
              go_wp2
              refine wp_region_free8 [some 54, some 55, some 56, some 57, some 58, some 59, some 60, some 61, some 62] [[], [], [], [], [3], [2, 4], [0, 1, 5], [6], []] [(2, .pointer (some ⟨ax, 0, none⟩)), (3, .pointer (some ⟨bx, 0, none⟩)), (8, .int .i64 (si : Int)), (10, .int .i64 (c : Int))] (fun W _ => Below wr.heap.size wr W) (afPhi w1 w1.heap.size bx b.C si a.H c ci (.agg #[.int .i64 (a.S : Int), .int .i64 (a.C : Int), .int .i64 (a.H : Int), .slice aN ann anc, .slice (some ⟨ab, ao, none⟩) a.S agc]) sl) (by kernel_rfl) (by kernel_rfl) rfl (by kernel_rfl) ?_ ?_ ⟨fun _ => 0, (Below.refl _ _).drew⟩ ?_ ?_
              · intro z hz
                simp only [List.mem_cons, List.mem_nil_iff, or_false] at hz
                rcases hz with rfl | rfl | rfl | rfl
                all_goals exact ⟨by kernel_rfl, rfl⟩
              · intro i v W γ hi h
                rcases i with _ | _ | _ | _ | _ | _ | _ | _ | _ | i
                all_goals first | exact h | (simp at hi)
              · refine ⟨?_, ?_, ?_, ?_, ?_, ?_, ?_, ?_, ?_, trivial⟩
                all_goals
                  intro a9 W γ ev hcc hff hfx hR hpre
                  simp only [List.mem_cons, List.mem_nil_iff, or_false, forall_eq, forall_eq_or_imp] at hfx
                  obtain ⟨f0, f1, f2, f3⟩ := hfx
                  have HR := Lib.hid hR
                  clear hR
                  refine ⟨fun _ K hK => ?_, trivial⟩

                · have hbg := HA2.out.below (show Below w1.heap.size w1 W from (HPR.out.low.trans ((HR.out : Below wr.heap.size wr W).mono HPR.out.low.size))) HA2.out.lt
                  have hzg := hbg.lt
                  have e0 := hbg.cell 0
                  have e1 := hbg.cell 1
                  have e2 := hbg.cell 2
                  have e3 := hbg.cell 3
                  have e4 := hbg.cell 4
                  simp only [List.getElem?_toArray, List.getElem?_cons_zero, List.getElem?_cons_succ] at e0 e1 e2 e3 e4
                  clear hbg
                  clear hpre
                  go_simp
                  exact hK _ _ γ HR.out (fun _ _ _ _ h => h) rfl
                · clear hpre
                  go_simp
                  exact hK _ _ γ HR.out (fun _ _ _ _ h => h) rfl
                · clear hpre
                  go_simp
                  exact hK _ _ γ HR.out (fun _ _ _ _ h => h) rfl
                · clear hpre
                  go_simp
                  exact hK _ _ γ HR.out (fun _ _ _ _ h => h) rfl
                · have q0 : ev (.tmp 57) = _ := hpre 3 (by decide)
                  have hbg := HB2.out.below (show Below w1.heap.size w1 W from (HPR.out.low.trans ((HR.out : Below wr.heap.size wr W).mono HPR.out.low.size))) HB2.out.lt
                  have hzg := hbg.lt
                  have e1 := hbg.cell 1
                  simp only [List.getElem?_toArray, List.getElem?_cons_zero, List.getElem?_cons_succ] at e1
                  clear hbg
                  clear hpre
                  go_simp
                  exact hK _ _ γ HR.out (fun _ _ _ _ h => h) rfl
                · have q0 : ev (.tmp 56) = _ := hpre 2 (by decide)
                  have q1 : ev (.tmp 58) = _ := hpre 4 (by decide)
                  clear hpre
                  go_simp
                  exact hK _ _ γ HR.out (fun _ _ _ _ h => h) rfl
                · have q0 : ev (.tmp 54) = _ := hpre 0 (by decide)
                  have q1 : ev (.tmp 55) = _ := hpre 1 (by decide)
                  have q2 : ev (.tmp 59) = _ := hpre 5 (by decide)
                  have C := Lib.hid (KA.out W (HPR.out.low.trans ((HR.out : Below wr.heap.size wr W).mono HPR.out.low.size)))
                  have HRW9 : Hid (Below wr.heap.size wr W) := HR
                  clear hpre
                  go_simp
                  refine C.out.mono ?_
                  rintro e w5 ⟨A, cp, rfl, hB5, hrd⟩
                  exact hK _ w5 γ (below3 HRW9.out hB5 (Nat.le_refl _)) (fun j u _ _ h => afPhi_w h) ⟨A, cp, rfl, hrd.back (HPR.out.low.trans ((HRW9.out : Below wr.heap.size wr W).mono HPR.out.low.size))⟩
                · obtain ⟨A, cp, q6, hrd⟩ := hpre 6 (by decide)
                  replace q6 : ev (.tmp 60) = _ := q6
                  clear hpre hrd
                  go_simp
                  exact hK _ _ γ HR.out (fun _ _ _ _ h => h) rfl
                · clear hpre
                  go_simp
                  exact hK _ _ γ HR.out (fun _ _ _ _ h => h) rfl
              · intro vs w' γ hvl hR hφ
                have q6 := hφ 6 (by decide)
                have q7 := hφ 7 (by decide)
                have q8 := hφ 8 (by decide)
                have HR := Lib.hid hR
                clear hφ hR
                match vs, hvl with
                | [y0, y1, y2, y3, y4, y5, y6, y7, y8], _ =>
                simp only [List.getD_cons_zero, List.getD_cons_succ] at q6 q7 q8
                obtain ⟨A1, cp1, e6, hrd1⟩ := q6
                obtain rfl : y6 = _ := e6
                obtain rfl : y7 = _ := q7
                obtain rfl : y8 = _ := q8
                have HRD1 := Lib.hid hrd1
                have HX0 : Hid (PrI w1.heap.size w1 p q r pb nx2 (.slice A9 kg c9) (L0 ++ pairL b.S (sl.take 0) ml) (gs ++ [u]) w') := Lib.hid (by rw [show pairL b.S (sl.take 0) ml = [] from rfl, List.append_nil]; exact HPR.out.next (Nat.le_refl _) HR.out)
                clear hrd1 HR
                simp [putAll]
                go_wp2
                go_loopw [62] (fun i wr => ∃ j : Nat, j ≤ a.H ∧ i = .int .i64 j ∧ ∃ nx, Hid (PrI w1.heap.size w1 p q r pb nx (.slice A9 kg c9) (L0 ++ pairL b.S (sl.take j) ml) (gs ++ [u]) wr)) (fun i _ => a.H - (intOf i).toNat)
                case atStart => exact ⟨0, by omega, rfl, _, HX0⟩
                case round =>
                  obtain ⟨j, hjl, rfl, nx3, HPR⟩ := hrel
                  by_cases hjh : j < a.H
                  · obtain ⟨lb, lo, x7, e1, hlb, hx7, hcx⟩ := HRD1.out.at_ hjh
                    subst e1
                    have cx : wr.cell? ⟨lb, lo + j, none⟩ = some (.int .i64 x7) := (HPR.out.low.cell (p := ⟨lb, lo + j, none⟩) hlb).trans (cellI hcx)
                    have zx := block_of_cell cx
                    dsimp only at zx
                    have HX7 := Lib.hid hx7
                    have hv2 : (0 : Int) ≤ (j : Int) := by omega
                    have hv3 : (j : Int) < (a.H : Int) := by omega
                    clear hcx hx7 hlb
                    go_wp2
                    refine wp_region_free8 [some 66, some 67, some 68, some 69, some 70, some 71, some 72, some 73, some 74] [[], [], [], [], [3], [2, 4], [0, 1, 5], [6], []] [(3, .pointer (some ⟨bx, 0, none⟩)), (9, .int .i64 (sk : Int)), (10, .int .i64 (c : Int))] (fun W _ => Below wr.heap.size wr W) (afPhi w1 w1.heap.size bx b.C sk b.H c ck (.agg #[.int .i64 (b.S : Int), .int .i64 (b.C : Int), .int .i64 (b.H : Int), .slice bN bnn bnc, .slice (some ⟨bb, bo, none⟩) b.S bgc]) ml) (by kernel_rfl) (by kernel_rfl) rfl (by kernel_rfl) ?_ ?_ ⟨fun _ => 0, (Below.refl _ _).drew⟩ ?_ ?_
                    · intro z hz
                      simp only [List.mem_cons, List.mem_nil_iff, or_false] at hz
                      rcases hz with rfl | rfl | rfl
                      all_goals exact ⟨by kernel_rfl, rfl⟩
                    · intro i v W γ hi h
                      rcases i with _ | _ | _ | _ | _ | _ | _ | _ | _ | i
                      all_goals first | exact h | (simp at hi)
                    · refine ⟨?_, ?_, ?_, ?_, ?_, ?_, ?_, ?_, ?_, trivial⟩
                      all_goals
                        intro a9 W γ ev hcc hff hfx hR hpre
                        simp only [List.mem_cons, List.mem_nil_iff, or_false, forall_eq, forall_eq_or_imp] at hfx
                        obtain ⟨f0, f1, f2⟩ := hfx
                        have HR := Lib.hid hR
                        clear hR
                        refine ⟨fun _ K hK => ?_, trivial⟩

                      · have hbg := HB2.out.below (show Below w1.heap.size w1 W from (HPR.out.low.trans ((HR.out : Below wr.heap.size wr W).mono HPR.out.low.size))) HB2.out.lt
                        have hzg := hbg.lt
                        have e0 := hbg.cell 0
                        have e1 := hbg.cell 1
                        have e2 := hbg.cell 2
                        have e3 := hbg.cell 3
                        have e4 := hbg.cell 4
                        simp only [List.getElem?_toArray, List.getElem?_cons_zero, List.getElem?_cons_succ] at e0 e1 e2 e3 e4
                        clear hbg
                        clear hpre
                        go_simp
                        exact hK _ _ γ HR.out (fun _ _ _ _ h => h) rfl
                      · clear hpre
                        go_simp
                        exact hK _ _ γ HR.out (fun _ _ _ _ h => h) rfl
                      · clear hpre
                        go_simp
                        exact hK _ _ γ HR.out (fun _ _ _ _ h => h) rfl
                      · clear hpre
                        go_simp
                        exact hK _ _ γ HR.out (fun _ _ _ _ h => h) rfl
                      · have q0 : ev (.tmp 69) = _ := hpre 3 (by decide)
                        have hbg := HB2.out.below (show Below w1.heap.size w1 W from (HPR.out.low.trans ((HR.out : Below wr.heap.size wr W).mono HPR.out.low.size))) HB2.out.lt
                        have hzg := hbg.lt
                        have e1 := hbg.cell 1
                        simp only [List.getElem?_toArray, List.getElem?_cons_zero, List.getElem?_cons_succ] at e1
                        clear hbg
                        clear hpre
                        go_simp
                        exact hK _ _ γ HR.out (fun _ _ _ _ h => h) rfl
                      · have q0 : ev (.tmp 68) = _ := hpre 2 (by decide)
                        have q1 : ev (.tmp 70) = _ := hpre 4 (by decide)
                        clear hpre
                        go_simp
                        exact hK _ _ γ HR.out (fun _ _ _ _ h => h) rfl
                      · have q0 : ev (.tmp 66) = _ := hpre 0 (by decide)
                        have q1 : ev (.tmp 67) = _ := hpre 1 (by decide)
                        have q2 : ev (.tmp 71) = _ := hpre 5 (by decide)
                        have C := Lib.hid (KB.out W (HPR.out.low.trans ((HR.out : Below wr.heap.size wr W).mono HPR.out.low.size)))
                        have HRW9 : Hid (Below wr.heap.size wr W) := HR
                        clear hpre
                        go_simp
                        refine C.out.mono ?_
                        rintro e w5 ⟨A, cp, rfl, hB5, hrd⟩
                        exact hK _ w5 γ (below3 HRW9.out hB5 (Nat.le_refl _)) (fun j u _ _ h => afPhi_w h) ⟨A, cp, rfl, hrd.back (HPR.out.low.trans ((HRW9.out : Below wr.heap.size wr W).mono HPR.out.low.size))⟩
                      · obtain ⟨A, cp, q6, hrd⟩ := hpre 6 (by decide)
                        replace q6 : ev (.tmp 72) = _ := q6
                        clear hpre hrd
                        go_simp
                        exact hK _ _ γ HR.out (fun _ _ _ _ h => h) rfl
                      · clear hpre
                        go_simp
                        exact hK _ _ γ HR.out (fun _ _ _ _ h => h) rfl
                    · intro vs w' γ hvl hR hφ
                      have q6 := hφ 6 (by decide)
                      have q7 := hφ 7 (by decide)
                      have q8 := hφ 8 (by decide)
                      have HR := Lib.hid hR
                      clear hφ hR
                      match vs, hvl with
                      | [y0, y1, y2, y3, y4, y5, y6, y7, y8], _ =>
                      simp only [List.getD_cons_zero, List.getD_cons_succ] at q6 q7 q8
                      obtain ⟨A4, cp4, e6, hrd4⟩ := q6
                      obtain rfl : y6 = _ := e6
                      obtain rfl : y7 = _ := q7
                      obtain rfl : y8 = _ := q8
                      have HRD4 := Lib.hid hrd4
                      have HY0 : Hid (PrI w1.heap.size w1 p q r pb nx3 (.slice A9 kg c9) (L0 ++ pairL b.S (sl.take j) ml ++ (ml.take 0).map (bothF b.S x7)) (gs ++ [u]) w') := Lib.hid (by rw [List.take_zero, List.map_nil, List.append_nil]; exact HPR.out.next (Nat.le_refl _) HR.out)
                      clear hrd4 HR cx
                      simp [putAll]
                      go_wp2
                      go_loopw [74] (fun i wr => ∃ t : Nat, t ≤ b.H ∧ i = .int .i64 t ∧ ∃ nx, Hid (PrI w1.heap.size w1 p q r pb nx (.slice A9 kg c9) (L0 ++ pairL b.S (sl.take j) ml ++ (ml.take t).map (bothF b.S x7)) (gs ++ [u]) wr)) (fun i _ => b.H - (intOf i).toNat)
                      case atStart => exact ⟨0, by omega, rfl, _, HY0⟩
                      case round =>
                        obtain ⟨t, htl, rfl, nx7, HW7⟩ := hrel
                        by_cases hth : t < b.H
                        · obtain ⟨mb, mo, y7, e1, hmb, hy7, hcy⟩ := HRD4.out.at_ hth
                          subst e1
                          have cy : wr.cell? ⟨mb, mo + t, none⟩ = some (.int .i64 y7) := (HW7.out.low.cell (p := ⟨mb, mo + t, none⟩) hmb).trans (cellI hcy)
                          have zy := block_of_cell cy
                          dsimp only at zy
                          obtain ⟨z7, hz7⟩ : ∃ z, z = bothF b.S x7 y7 := ⟨_, rfl⟩
                          obtain ⟨l7, hl7⟩ : ∃ z, z = L0 ++ pairL b.S (sl.take j) ml ++ (ml.take t).map (bothF b.S x7) := ⟨_, rfl⟩
                          have HNEXT : Hid (l7 ++ [z7] = L0 ++ pairL b.S (sl.take j) ml ++ (ml.take (t + 1)).map (bothF b.S x7)) := Lib.hid (by rw [take_map hy7, hl7, hz7, List.append_assoc])
                          obtain ⟨g7, hg7⟩ : ∃ z, z = gs ++ [u] := ⟨_, rfl⟩
                          have HG7 := Lib.hid hg7
                          have hx7m := HSL.out.2.2.1 _ (List.mem_of_getElem? HX7.out)
                          have hy7m := HSL.out.2.2.2 _ (List.mem_of_getElem? hy7)
                          have KF := Lib.hid (fun W (h : Below w1.heap.size w1 W) => both_any b.S bx x7 y7 W ((h.cell (p := ⟨bx, 0, none⟩) HB2.out.lt).trans (HB2.out.cell 0)) hs2 (by omega) (by omega))
                          rw [← hz7] at KF
                          have hl7l : l7.length ≤ 103000 := by
                            rw [hl7, List.length_append, List.length_append, pairL_len, List.length_map, List.length_take, List.length_take, HSL.out.1, HSL.out.2.1]
                            have m1 : min j a.H * b.H ≤ 16 * 16 := Nat.mul_le_mul (by omega) (by omega)
                            have := HL0L.out
                            omega
                          have HLB : Hid (l7.length ≤ 103000) := Lib.hid hl7l
                          obtain ⟨k7, hk7⟩ : ∃ z, z = l7.length + 1 := ⟨_, rfl⟩
                          have HKN : Hid (k7 = l7.length + 1) := Lib.hid hk7
                          rw [← hl7, ← hg7] at HW7
                          have hv4 : (0 : Int) ≤ (t : Int) := by omega
                          have hv5 : (t : Int) < (b.H : Int) := by omega
                          clear hz7 hl7 hg7 hx7m hy7m hl7l hk7 hcy hy7 hmb
                          go_wp2
                          refine wp_region_free10 9 (by kernel_rfl) [some 78, some 79, some 80, some 81, some 82, some 83, some 84, some 85, some 86, none] [[], [0], [], [], [], [2, 3, 4], [5], [1, 6, 5], [0, 1, 2, 3, 4, 5, 6, 7], [8, 7, 7, 0, 1, 2, 3, 4, 5, 6, 7]] [(5, .pointer (some ⟨pb, 0, none⟩)), (6, .func (.func 65) #[] #[.pointer (some ⟨bx, 0, none⟩)]), (12, .int .i64 x7), (14, .int .i64 y7)] (prR w1.heap.size w1 p q r pb nx7 (.slice A9 kg c9) l7 g7) (prPhi w1.heap.size bx p q r pb k7 x7 y7 z7 nx7 (.slice A9 kg c9) l7) (fun i _ γ => γ 0 = 0 ∧ (i = 7 → γ 1 = 0)) (by kernel_rfl) (by kernel_rfl) rfl (by kernel_rfl) ?_ ?_ ⟨fun _ => 0, ⟨HW7.out.low.drew, fun _ => HW7.out.box.below (Below.refl _ _).drew HW7.out.box.lt, fun _ => row_next HW7.out.row (Below.refl _ _).drew, row_next HW7.out.good (Below.refl _ _).drew⟩, fun i _ => ⟨rfl, fun _ => rfl⟩⟩ ?_ ?_
                          · intro z7 hz
                            simp only [List.mem_cons, List.mem_nil_iff, or_false] at hz
                            rcases hz with rfl | rfl | rfl | rfl
                            all_goals exact ⟨by kernel_rfl, rfl⟩
                          · intro i v W γ hi h
                            rcases i with _ | _ | _ | _ | _ | _ | _ | _ | _ | _ | i
                            all_goals first | exact h | (simp at hi)
                          · refine ⟨?_, ?_, ?_, ?_, ?_, ?_, ?_, ?_, ?_, ?_, trivial⟩
                            all_goals
                              intro a9 W γ ev hcc hff hfx hR hψ hpre
                              simp only [List.mem_cons, List.mem_nil_iff, or_false, forall_eq, forall_eq_or_imp] at hfx
                              obtain ⟨f0, f1, f2, f3⟩ := hfx
                              have HR := Lib.hid hR
                              clear hR
                              refine ⟨fun _ K hK => ?_, trivial⟩

                            · clear hpre hψ
                              go_simp
                              exact hK _ _ γ HR.out (fun _ _ _ _ h => h) (fun _ _ _ h => h) rfl
                            · have q0 : ev (.tmp 78) = _ := hpre 0 (by decide)
                              have hbx := HR.out.2.1 hψ.1
                              have hzx := hbx.lt
                              have c3 := hbx.cell 3
                              simp only [List.getElem?_toArray, List.getElem?_cons_zero, List.getElem?_cons_succ] at c3
                              clear hbx
                              clear hpre hψ
                              go_simp
                              exact hK _ _ γ HR.out (fun _ _ _ _ h => h) (fun _ _ _ h => h) rfl
                            · clear hpre hψ
                              go_simp
                              exact hK _ _ γ HR.out (fun _ _ _ _ h => h) (fun _ _ _ h => h) rfl
                            · clear hpre hψ
                              go_simp
                              exact hK _ _ γ HR.out (fun _ _ _ _ h => h) (fun _ _ _ h => h) rfl
                            · clear hpre hψ
                              go_simp
                              exact hK _ _ γ HR.out (fun _ _ _ _ h => h) (fun _ _ _ h => h) rfl
                            · have q0 : ev (.tmp 80) = _ := hpre 2 (by decide)
                              have q1 : ev (.tmp 81) = _ := hpre 3 (by decide)
                              have q2 : ev (.tmp 82) = _ := hpre 4 (by decide)
                              have C := Lib.hid (KF.out W HR.out.1)
                              have HRW9 := HR
                              clear hpre hψ
                              go_simp
                              refine C.out.mono ?_
                              rintro e w5 ⟨rfl, hB5⟩
                              obtain ⟨r1, r2, r3, r4⟩ := HRW9.out
                              exact hK _ w5 γ ⟨below3 r1 hB5 (Nat.le_refl _), fun e => (r2 e).below hB5 (r2 e).lt, fun e => row_next (r3 e) hB5, row_next r4 hB5⟩ (fun j u _ _ h => prPhi_next hB5 h) (fun _ _ _ h => h) rfl
                            · have q0 : ev (.tmp 83) = _ := hpre 5 (by decide)
                              have HRW9 := HR
                              clear hpre hψ
                              go_simp
                              obtain ⟨r1, r2, r3, r4⟩ := HRW9.out
                              have hB5 : Below W.heap.size W (W.alloc (.cells #[.int .i64 z7] 3)) := (Below.refl _ _).alloc (Nat.le_refl _) _
                              exact hK _ _ γ ⟨below3 r1 hB5 (Nat.le_refl _), fun e => (r2 e).below hB5 (r2 e).lt, fun e => row_next (r3 e) hB5, row_next r4 hB5⟩ (fun j u _ _ h => prPhi_next hB5 h) (fun _ _ _ h => h) ⟨W.heap.size, rfl, fun _ => heap_alloc_new W _⟩
                            · have q0 : ev (.tmp 79) = _ := hpre 1 (by decide)
                              have hγ1 : γ 1 = 0 := hψ.2 rfl
                              have hγ0 : γ 0 = 0 := hψ.1
                              obtain ⟨b1, q6, hb1⟩ := hpre 6 (by decide)
                              replace q6 : ev (.tmp 84) = _ := q6
                              have hb1 := hb1 hγ1
                              obtain ⟨r1, r2, r3, r4⟩ := HR.out
                              have hrow := r3 hγ1
                              have hbx := r2 hγ0
                              obtain ⟨v', W', hr, h2, h3, _, _⟩ := run_append_own_at (P := Try.prog) W w1.heap.size 22 22 3 i0 (.int .i64 0) 1 8 Try.underlying22 hi.out.1 hi.out.2.1 hi.out.2.2.1 hi.out.2.2.2 rfl (by decide) nx7 l7.length (l7.flatMap encI) hrow ⟨b1, 0, none⟩ 1 1 [.int .i64 z7] rfl (fun j u hj => by
                                rw [add0, Blk.cell hb1]
                                simpa using hj) (by intro u hu; simp only [List.mem_cons, List.mem_nil_iff, or_false] at hu; subst hu; rfl) (by have := HLB.out; simp only [maxLen]; omega) (by have := HLB.out; omega) r1.size
                              unfold execOp
                              simp only [resolve, invoke, builtin, Sem.run_bind, Sem.run_pure, Result.andThen_ok, List.map_toArray, List.map_cons, List.map_nil, q0, q6, hr]
                              rw [show l7.flatMap encI ++ [.int .i64 z7] = (l7 ++ [z7]).flatMap encI by rw [List.flatMap_append]; rfl] at h2
                              obtain ⟨A', c', e'⟩ := row_slice h2
                              subst e'
                              have hbl : Below w1.heap.size W W' := (Below.refl _ _).grown h3 r1.size (fun r e => (World.ownsRow.lt hrow r e).1)
                              refine hK _ W' (fun i => if i = 1 then 1 else γ i) ⟨r1.trans hbl, fun e => hbx.kept h3 (own_ne hrow hbx (by decide)), fun e => by simp at e, r4.kept h3 (own_far r4 hrow (by decide))⟩ (fun j u hj hne h => prPhi_grown hne (fun e => by subst e; exact absurd (by decide) hj) (by simp) h) (fun _ j h1 h2 => ⟨h2.1, fun e => absurd e h1⟩) ⟨A', c', by rw [HKN.out], by rw [HKN.out]; exact h2⟩
                            · clear hpre hψ
                              go_simp
                              exact hK _ _ γ HR.out (fun _ _ _ _ h => h) (fun _ _ _ h => h) rfl
                            · have q0 : ev (.tmp 86) = _ := hpre 8 (by decide)
                              have hγ0 : γ 0 = 0 := hψ.1
                              obtain ⟨A, c8, q7, hrow⟩ := hpre 7 (by decide)
                              replace q7 : ev (.tmp 85) = _ := q7
                              obtain ⟨r1, r2, r3, r4⟩ := HR.out
                              have hbx := r2 hγ0
                              have hzx := hbx.lt
                              have fz := hbx.frozen
                              have c3 := hbx.cell 3
                              simp only [List.getElem?_toArray, List.getElem?_cons_zero, List.getElem?_cons_succ] at c3
                              have HX := Lib.hid (And.intro hbx (And.intro hrow (And.intro r1 r4)))
                              clear hpre hbx hrow r1 r2 r3 r4
                              go_simp
                              obtain ⟨hbx, hrow, r1, r4⟩ := HX.out
                              refine hK undef _ (fun _ => 1) ⟨r1.setCell HPBB.out _, fun e => by simp at e, fun e => by simp at e, r4.kept (grown_set W pb 3 _) (Or.inr (own_ne r4 hbx (by decide)).symm)⟩ (fun j u h1 h2 h3 => prPhi_store hbx (by decide) h2 h3) (fun h => absurd rfl h) ⟨A, c8, ?_, hrow.kept (grown_set W pb 3 _) (Or.inr (own_ne hrow hbx (by decide)).symm)⟩
                              have h := hbx.set_ 3 (.slice A k7 c8)
                              simpa using h
                          · intro vs w' γ hvl hR hφ
                            have q9 := hφ 9 (by decide)
                            have HR := Lib.hid hR
                            clear hφ hR
                            match vs, hvl with
                            | [y0, y1, y2, y3, y4, y5, y6, y7, y8, y9], _ =>
                            simp only [List.getD_cons_zero, List.getD_cons_succ] at q9
                            obtain ⟨A6, c6, hbx6, hro6⟩ := q9
                            obtain ⟨r1, _, _, r4⟩ := HR.out
                            have HN : Hid (PrI w1.heap.size w1 p q r pb (.slice A6 k7 c6) (.slice A9 kg c9) (L0 ++ pairL b.S (sl.take j) ml ++ (ml.take (t + 1)).map (bothF b.S x7)) (gs ++ [u]) w') := Lib.hid (by
                              rw [← HNEXT.out, ← HG7.out]
                              exact ⟨r1, hbx6, by rw [List.length_append, List.length_singleton, ← HKN.out]; exact hro6, r4⟩)
                            clear hbx6 hro6 r1 r4 HR
                            simp [putAll]
                            go_wp2
                            go_roundw
                            case rel => exact ⟨t + 1, by omega, by go_num, _, HN⟩
                            case measure => simp [intOf]; omega
                        · obtain rfl : b.H = t := by omega
                          have HN : Hid (PrI w1.heap.size w1 p q r pb nx7 (.slice A9 kg c9) (L0 ++ pairL b.S (sl.take (j + 1)) ml) (gs ++ [u]) wr) := Lib.hid (by
                            rw [take_pair HX7.out, ← List.append_assoc]
                            have h := HW7.out
                            rw [List.take_of_length_le (l := ml) (by rw [HSL.out.2.1]; exact Nat.le_refl _)] at h
                            exact h)
                          go_wp2
                          go_roundw
                          case rel => exact ⟨j + 1, by omega, by go_num, _, HN⟩
                          case measure => simp [intOf]; omega
                  · obtain rfl : a.H = j := by omega
                    have HN : Hid (PrI w1.heap.size w1 p q r pb nx3 (.slice A9 kg c9) (ls ++ prodR a b s (c + 1)) (gs ++ [u]) wr) := Lib.hid (by
                      rw [prodR_succ, HPN.out, ← List.append_assoc, ← HL0.out]
                      have h := HPR.out
                      rw [List.take_of_length_le (l := sl) (by rw [HSL.out.1]; exact Nat.le_refl _)] at h
                      exact h)
                    go_wp2
                    go_roundw
                    case rel => exact ⟨c + 1, by omega, by go_num, _, HN⟩
                    case measure => simp [intOf]; omega
            · obtain rfl : q = c := by omega
              have HN : Hid (PrI w1.heap.size w1 p q r pb nx2 (.slice A9 kg c9) (prodA a b (s + 1)) (prodB a b (s + 1)) wr) := Lib.hid (by
                rw [prodA_succ, HPB2.out, ← HLS.out.1, ← HLS.out.2.1, ← HPQ.out.2.1]
                exact HPR.out)
              go_wp2
              go_roundw
              case rel => exact ⟨s + 1, by omega, by go_num, _, _, HN⟩
              case measure => simp [intOf]; omega
    · obtain rfl : p = s := by omega
      obtain ⟨A, c, hnx⟩ := row_slice HWo.out.row
      obtain ⟨A2, c2, hgv⟩ := row_slice HWo.out.good
      have hBl : (prodB a b p).length = p := by unfold prodB; simp
      rw [hBl] at hgv
      obtain ⟨n, hn⟩ : ∃ z, z = (prodA a b p).length := ⟨_, rfl⟩
      rw [← hn] at hnx
      subst hnx
      subst hgv
      have hbk := HWo.out.box
      have c0 := hbk.cell 0
      have c1 := hbk.cell 1
      have c2' := hbk.cell 2
      have c3 := hbk.cell 3
      have c4 := hbk.cell 4
      simp only [List.getElem?_toArray, List.getElem?_cons_zero, List.getElem?_cons_succ] at c0 c1 c2' c3 c4
      have hres := HRB.out.below HWo.out.low HRB.out.lt
      have zb := hbk.lt
      have d0 := hres.cell 0
      have d1 := hres.cell 1
      have d2 := hres.cell 2
      have d3 := hres.cell 3
      have d4 := hres.cell 4
      simp only [List.getElem?_toArray, List.getElem?_cons_zero, List.getElem?_cons_succ] at d0 d1 d2 d3 d4
      have zr := hres.lt
      have fr := hres.frozen
      obtain ⟨W', hW'⟩ : ∃ z, z = (((((wr.setCell ⟨rx, 0, none⟩ (.int .i64 (p : Int))).setCell ⟨rx, 1, none⟩ (.int .i64 (q : Int))).setCell ⟨rx, 2, none⟩ (.int .i64 (r : Int))).setCell ⟨rx, 3, none⟩ (.slice A n c)).setCell ⟨rx, 4, none⟩ (.slice A2 p c2)) := ⟨_, rfl⟩
      have hkk : Keep (fun b => b = rx) wr W' := by rw [hW']; exact ((((((Keep.refl (fun b => b = rx) wr).setCell rfl _).setCell rfl _).setCell rfl _).setCell rfl _).setCell rfl _)
      have hrow : Blk W' rx 25 #[.int .i64 (p : Int), .int .i64 (q : Int), .int .i64 (r : Int), .slice A n c, .slice A2 p c2] := by
        have h := (((((hres.set_ 0 (.int .i64 (p : Int))).set_ 1 (.int .i64 (q : Int))).set_ 2 (.int .i64 (r : Int))).set_ 3 (.slice A n c)).set_ 4 (.slice A2 p c2))
        rw [hW']
        simpa using h
      have hz := HZ.out
      have hro := HWo.out.row
      have hrg := HWo.out.good
      rw [← hn] at hro
      rw [hBl] at hrg
      have hro1 := own_keep hro hkk (fun b hb e => by omega)
      have hrg1 := own_keep hrg hkk (fun b hb e => by omega)
      have HFIN : Hid ((∀ W2 (ry : Nat), Keep (fun x => x = ry) W' W2 → ry < w.heap.size → GmIn W2 W2.heap.size ⟨A, A2, n, c, p, c2⟩ (prodG a b)) ∧ Below w.heap.size w W') := Lib.hid ⟨fun W2 ry hk2 hry => by
        have g1 := own_keep hro1 hk2 (fun b hb e => by omega)
        have g2 := own_keep hrg1 hk2 (fun b hb e => by omega)
        refine ⟨?_, ?_, own_cap g1⟩
        · have h := row_rd (f := encI) (size := 1) (fun _ => rfl) hn.symm g1
          rw [HPQ.out.1] at h
          exact h
        · have h := row_rd (f := encB) (size := 1) (fun _ => rfl) hBl g2
          rw [HPQ.out.1] at h
          show Rd _ _ _ _ _ p _
          rw [HPQ.out.1]
          exact h, (HL.out.trans (HWo.out.low.mono HL.out.size)).trans (hkk.below (by have := HWo.out.low.size; have := HL.out.size; omega) (fun b e => by rw [e]; omega))⟩
      have HROW := Lib.hid hrow
      clear hbk hres hkk hrow hro hrg hro1 hrg1 hn hz hBl
      go_wp2
      rw [← hW']
      refine bodyPost_ret (results_cell_row rfl _ _ rx 25 _ _ _ rfl HROW.out Try.underlying25 rfl (by kernel_rfl)) rfl ?_
      exact ⟨A, n, c, A2, c2, rfl, HFIN.out⟩
end Go.Proofs.Ytalngalikblgkaa
