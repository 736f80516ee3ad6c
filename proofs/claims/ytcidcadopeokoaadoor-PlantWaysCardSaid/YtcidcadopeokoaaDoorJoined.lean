/- The law's joined. -/
import Derived.Test.YtcidcadopeokoaaDoorWay
import Derived.Test.YtcidcadopeokoaaDoorFree6
import Derived.Test.YtcidcadopeokoaaDoorLaw1
import Derived.Test.YtcidcadopeokoaaDoorLosesP
import Derived.Lib.QuietBelow
namespace Go.Proofs.YtcidcadopeokoaaDoor
open Go.RowKit

/-- The buses of a list, as marks. -/
def inTo (B : Nat) (l : List Int) (k : Nat) : List Bool := (l.take k).foldl (fun W b => W.set b.toNat true) (noB B)
theorem inTo_length (B : Nat) (l : List Int) (k : Nat) : (inTo B l k).length = B := by
  unfold inTo
  have : ∀ (l : List Int) (W : List Bool), (l.foldl (fun W b => W.set b.toNat true) W).length = W.length := by
    intro l
    induction l with
    | nil => intro W; rfl
    | cons a l ih => intro W; rw [List.foldl_cons, ih]; simp
  rw [this]
  simp [noB]
theorem inTo_succ (B : Nat) (l : List Int) (k : Nat) (x : Int) (h : l[k]? = some x) : inTo B l (k + 1) = (inTo B l k).set x.toNat true := by
  unfold inTo
  rw [List.take_add_one, h]
  simp [List.foldl_append]
/-- What is marked in the end, from the first bus of a list over links within it. -/
def withinQ (s : Stt) (V : List Bool) (k : Nat) (x : Lnk) : Bool := conds s k x && mk V x.a.toNat && mk V x.b.toNat
def seenAll {B : Nat} (s : Stt) (L : List (LnkOf B)) (m : Nat) (l : List Int) : List Bool := rounds (withinQ s (inTo B l l.length)) L m ((noB B).set (l.headD 0).toNat true) l.length
def joinedB {B : Nat} (s : Stt) (L : List (LnkOf B)) (m : Nat) (l : List Int) : Bool := l.all fun b => mk (seenAll s L m l) b.toNat
/-- Between the operations that make two lists of bools. -/
def twoPhi (N B base i : Nat) (v : Value) (W : World) (γ : Nat → Nat) : Prop :=
  if i = 2 ∨ i = 6 then ∃ g, v = .slice (some ⟨g, 0, none⟩) B B ∧ base ≤ g ∧ γ g = 2 ∧ BoolB W g (noB B)
  else if i = 5 ∨ i = 7 then ∃ g, v = .slice (some ⟨g, 0, none⟩) B B ∧ base ≤ g ∧ γ g = 5 ∧ BoolB W g (noB B)
  else if i = 0 ∨ i = 3 then v = .pointer (some ⟨N, 0, none⟩)
  else v = .int .i64 B
theorem twoPhi_kept {N B base : Nat} {W : World} {γ : Nat → Nat} (k : Nat) (o : Obj) : ∀ j u, twoPhi N B base j u W γ → twoPhi N B base j u (W.alloc o) (also γ W.heap.size k) := by
  intro j u h
  unfold twoPhi at h ⊢
  split at h
  · rename_i e
    rw [if_pos e]
    obtain ⟨g, h1, h2, h3, h4⟩ := h
    exact ⟨g, h1, h2, (also_old _ _ _ _ (Blk.lt h4)).trans h3, Blk.alloc h4 _⟩
  · rename_i e
    rw [if_neg e]
    split at h
    · rename_i e
      rw [if_pos e]
      obtain ⟨g, h1, h2, h3, h4⟩ := h
      exact ⟨g, h1, h2, (also_old _ _ _ _ (Blk.lt h4)).trans h3, Blk.alloc h4 _⟩
    · rename_i e
      rw [if_neg e]
      exact h
theorem boolB_made (W : World) (B : Nat) : BoolB (W.alloc (.cells (Array.replicate B (.bool false)) 4)) W.heap.size (noB B) := by
  have h := heap_alloc_new W (.cells (Array.replicate B (.bool false)) 4)
  have e : (Array.replicate B (Value.bool false)) = bools (noB B) := by
    unfold bools noB
    apply Array.ext
    · simp
    · intro i h1 h2
      simp
  rw [e] at h ⊢
  exact h
structure TwoR (w0 : World) (N B : Nat) (w : World) (γ : Nat → Nat) : Prop where
  below : Below w0.heap.size w0 w
  p0 : w.cell? ⟨N, 0, none⟩ = some (.int .i64 B)
  hN : N < w0.heap.size
theorem TwoR.alloc {w0 : World} {N B : Nat} {w : World} {γ γ' : Nat → Nat} (h : TwoR w0 N B w γ) (o : Obj) : TwoR w0 N B (w.alloc o) γ' := by
  have hz := h.below.size
  have hN := h.hN
  exact ⟨h.below.alloc (by omega) _, (World.cell?_alloc_past _ _ _ (show N < w.heap.size by omega)).trans h.p0, h.hN⟩
/-- What the walk keeps: the two lists of marks are its own. -/
structure JR (w W0 : World) (g g2 : Nat) (V1 V2 : List Bool) (wr : World) : Prop where
  lw : Below w.heap.size w wr
  l0 : Below W0.heap.size W0 wr
  b1 : BoolB wr g V1
  b2 : BoolB wr g2 V2
section
variable {w W0 wr w' : World} {g g2 : Nat} {V1 V2 : List Bool}
theorem JR.next (h : JR w W0 g g2 V1 V2 wr) (hb : Below wr.heap.size wr w') : JR w W0 g g2 V1 V2 w' :=
  ⟨below_after hb (Nat.le_refl _) h.lw, below_after hb (Nat.le_refl _) h.l0, h.b1.below hb, h.b2.below hb⟩
theorem JR.alloc (h : JR w W0 g g2 V1 V2 wr) (o : Obj) : JR w W0 g g2 V1 V2 (wr.alloc o) := h.next ((Below.refl _ _).alloc (Nat.le_refl _) _)
theorem JR.drew (h : JR w W0 g g2 V1 V2 wr) : JR w W0 g g2 V1 V2 wr.drew := h.next (Below.refl _ _).drew
theorem JR.set1 (h : JR w W0 g g2 V1 V2 wr) (hw : w.heap.size ≤ W0.heap.size) (hg : W0.heap.size ≤ g) (hn : g ≠ g2) (i : Nat) (x : Bool) : JR w W0 g g2 (V1.set i x) V2 (wr.setCell ⟨g, i, none⟩ (.bool x)) :=
  ⟨h.lw.setCell (Nat.le_trans hw hg) _, h.l0.setCell hg _, h.b1.set_ _ _, Blk.far h.b2 (fun e => hn e.symm) _⟩
theorem JR.set2 (h : JR w W0 g g2 V1 V2 wr) (hw : w.heap.size ≤ W0.heap.size) (hg : W0.heap.size ≤ g2) (hn : g ≠ g2) (i : Nat) (x : Bool) : JR w W0 g g2 V1 (V2.set i x) (wr.setCell ⟨g2, i, none⟩ (.bool x)) :=
  ⟨h.lw.setCell (Nat.le_trans hw hg) _, h.l0.setCell hg _, Blk.far h.b1 hn _, h.b2.set_ _ _⟩
end
/-- The marks with none, one or both ends of a link. -/
def abV (V : List Bool) (a b x y : Nat) : List Bool := if y = 1 then (if x = 1 then V.set a true else V).set b true else if x = 1 then V.set a true else V
theorem abV_zero (V : List Bool) (a b : Nat) : abV V a b 0 0 = V := rfl
theorem abV_one (V : List Bool) (a b : Nat) : abV V a b 1 1 = (V.set a true).set b true := rfl
theorem set_swap (V : List Bool) (a b : Nat) : (V.set a true).set b true = (V.set b true).set a true := by
  by_cases h : a = b
  · rw [h]
  · exact List.set_comm true true h
theorem abV_a (V : List Bool) (a b x y : Nat) : (abV V a b x y).set a true = abV V a b 1 y := by
  unfold abV
  split
  · split
    · rw [if_pos rfl, set_swap (V.set a true) b a, List.set_set]
    · rw [if_pos rfl, set_swap V b a]
  · split
    · rw [if_pos rfl, List.set_set]
    · rw [if_pos rfl]
theorem abV_b (V : List Bool) (a b x y : Nat) : (abV V a b x y).set b true = abV V a b x 1 := by
  unfold abV
  split
  · rw [if_pos rfl, List.set_set]
  · rw [if_pos rfl]
def relPhi (g2 bx B : Nat) (a b : Int) : Nat → Value → World → (Nat → Nat) → Prop
  | 0, v, _, _ => v = .slice (some ⟨g2, 0, none⟩) B B
  | 1, v, _, _ => v = .pointer (some ⟨bx, 0, none⟩)
  | 2, v, _, _ => v = .int .i64 a
  | 3, v, _, _ => v = .slice (some ⟨g2, 0, none⟩) B B
  | 4, v, _, _ => v = .pointer (some ⟨bx, 1, none⟩)
  | 5, v, _, _ => v = .int .i64 b
  | 6, v, _, _ => v = .pointer (some ⟨g2, a.toNat, none⟩)
  | 7, _, _, γ => γ 0 = 1
  | 8, v, _, _ => v = .pointer (some ⟨g2, b.toNat, none⟩)
  | 9, _, _, γ => γ 1 = 1
  | _, _, _, _ => True
theorem relPhi_kept {g2 bx B : Nat} {a b : Int} {W W' : World} {γ : Nat → Nat} (k : Nat) : ∀ j u, relPhi g2 bx B a b j u W γ → relPhi g2 bx B a b j u W' (also γ k 1) := by
  intro j u h
  rcases j with _ | _ | _ | _ | _ | _ | _ | _ | _ | _ | j
  all_goals first | exact h | (show also γ k 1 _ = 1; unfold also; split <;> first | rfl | exact h)
structure RelR (w W0 : World) (g g2 bx : Nat) (Vi Vk : List Bool) (a b : Int) (W : World) (γ : Nat → Nat) : Prop where
  jr : JR w W0 g g2 Vi (abV Vk a.toNat b.toNat (γ 0) (γ 1)) W
  x0 : W.cell? ⟨bx, 0, none⟩ = some (.int .i64 a)
  x1 : W.cell? ⟨bx, 1, none⟩ = some (.int .i64 b)
theorem far_cell {W : World} {p : Addr} {b i : Nat} {v u : Value} (h : W.cell? ⟨b, i, none⟩ = some u) (hn : b ≠ p.block) : (W.setCell p v).cell? ⟨b, i, none⟩ = some u := by
  rw [← h]
  unfold World.cell?
  rw [Below.heap_setCell W p v b hn]
section
variable {w W0 W : World} {g g2 bx : Nat} {Vi Vk : List Bool} {a b : Int} {γ : Nat → Nat}
theorem RelR.seta (h : RelR w W0 g g2 bx Vi Vk a b W γ) (hw : w.heap.size ≤ W0.heap.size) (hg : W0.heap.size ≤ g2) (hn : g ≠ g2) (hb : bx ≠ g2) : RelR w W0 g g2 bx Vi Vk a b (W.setCell ⟨g2, a.toNat, none⟩ (.bool true)) (also γ 0 1) :=
  ⟨by have := h.jr.set2 hw hg hn a.toNat true; rw [abV_a] at this; exact this, far_cell h.x0 hb, far_cell h.x1 hb⟩
theorem RelR.setb (h : RelR w W0 g g2 bx Vi Vk a b W γ) (hw : w.heap.size ≤ W0.heap.size) (hg : W0.heap.size ≤ g2) (hn : g ≠ g2) (hb : bx ≠ g2) : RelR w W0 g g2 bx Vi Vk a b (W.setCell ⟨g2, b.toNat, none⟩ (.bool true)) (also γ 1 1) :=
  ⟨by have := h.jr.set2 hw hg hn b.toNat true; rw [abV_b] at this; exact this, far_cell h.x0 hb, far_cell h.x1 hb⟩
theorem abV_length (V : List Bool) (a b x y : Nat) : (abV V a b x y).length = V.length := by
  unfold abV
  split <;> split <;> simp
end
set_option maxRecDepth 100000 in
set_option maxHeartbeats 8000000 in
theorem joined_any (p : Plt) (s : Stt) (B : Nat) (L : List (LnkOf B)) (S : Sound p s B L) (A : Option Addr) (n c : Nat) (l : List Int) (w : World) (hp : PltIn w w.heap.size p) (hs : SttIn w w.heap.size s) (hl : Rd w w.heap.size 1 encI A n l) (hn : 0 < n) (hn2 : n ≤ 9223372036854775807) (hr : ∀ x ∈ l, 0 ≤ x ∧ x < B) :
    Calls Tryd.prog 11 #[p.val, s.val, .slice A n c] w fun e w' => e = .returned (.bool (joinedB s L p.ln l)) ∧ Below w.heap.size w w' := by
  have CO := Lib.hid (fun k y hy W hp hs => conducts_any p s B L S k y hy W hp hs)
  have hB := S.buses
  have hB24 := S.small
  have hlinks := S.lnks
  have hln := hp.hl
  have HP := Lib.hid hp
  have HS := Lib.hid hs
  have HL := Lib.hid hl
  have hlen := hl.1
  have HR := Lib.hid hr
  clear hp hs hl hr
  have hB0 : Below w.heap.size w ((w.alloc (.cells #[.int .i64 B, .slice p.sA p.sn p.sc, .slice p.lA p.ln p.lc, .slice p.rA p.rn p.rc] 26)).alloc (.cells (sBox s) 29)) := by (repeat' (first | (with_reducible exact Below.refl _ _) | (with_reducible assumption) | (with_reducible refine below_drewN ?_ _) | (with_reducible refine below_after (by assumption) ?_ ?_) | (with_reducible refine Below.drew ?_) | (with_reducible refine Below.alloc ?_ ?_ _) | (with_reducible refine Below.setCell ?_ ?_ _) | omega | (simp; omega) | (simp; done)))
  have hPB : Blk ((w.alloc (.cells #[.int .i64 B, .slice p.sA p.sn p.sc, .slice p.lA p.ln p.lc, .slice p.rA p.rn p.rc] 26)).alloc (.cells (sBox s) 29)) w.heap.size 26 #[.int .i64 B, .slice p.sA p.sn p.sc, .slice p.lA p.ln p.lc, .slice p.rA p.rn p.rc] := Blk.alloc (heap_alloc_new w _) _
  have hSB : Blk ((w.alloc (.cells #[.int .i64 B, .slice p.sA p.sn p.sc, .slice p.lA p.ln p.lc, .slice p.rA p.rn p.rc] 26)).alloc (.cells (sBox s) 29)) (w.heap.size + 1) 29 (sBox s) := by
    have h := heap_alloc_new (w.alloc (.cells #[.int .i64 B, .slice p.sA p.sn p.sc, .slice p.lA p.ln p.lc, .slice p.rA p.rn p.rc] 26)) (.cells (sBox s) 29)
    rwa [World.size_alloc] at h
  unfold Plt.val at CO ⊢
  rw [hB] at CO ⊢
  unfold Stt.val at CO ⊢
  go_enter Tryd.func11, Tryd.ntmps11
  go_wp2
  obtain ⟨W0, hW0⟩ : ∃ W, ((w.alloc (.cells #[.int .i64 B, .slice p.sA p.sn p.sc, .slice p.lA p.ln p.lc, .slice p.rA p.rn p.rc] 26)).alloc (.cells (sBox s) 29)) = W := ⟨_, rfl⟩
  unfold sBox at hW0
  rw [hW0]
  have HPB : Hid (Blk W0 w.heap.size 26 #[.int .i64 B, .slice p.sA p.sn p.sc, .slice p.lA p.ln p.lc, .slice p.rA p.rn p.rc]) := by rw [← hW0]; exact hPB
  have HSB : Hid (Blk W0 (w.heap.size + 1) 29 (sBox s)) := by rw [← hW0]; exact hSB
  have HB0 : Hid (Below w.heap.size w W0) := by rw [← hW0]; exact hB0
  have hz0 : w.heap.size + 2 = W0.heap.size := by rw [← hW0]; simp
  clear hPB hSB hB0 hW0
  refine wp_region_free6 [some 14, some 15, some 16, some 17, some 18, some 19, some 7, some 8] [[], [0], [1, 1], [], [3], [4, 4], [2, 0, 1, 2], [5, 6, 0, 1, 2, 3, 4, 5, 6]] [(3, .pointer (some ⟨w.heap.size, 0, none⟩))] (TwoR W0 w.heap.size B) (twoPhi w.heap.size B W0.heap.size) (by kernel_rfl) (by kernel_rfl) rfl (by kernel_rfl) ?_ ?_ ⟨fun _ => 0, ?_⟩ ?_ ?_
  · intro x hx
    simp only [List.mem_cons, List.mem_nil_iff, or_false] at hx
    subst hx
    exact ⟨rfl, rfl⟩
  · intro i v W γ hi h
    have := List.mem_of_getElem? hi
    simp at this
  · exact ⟨by (repeat' (first | (with_reducible exact Below.refl _ _) | (with_reducible assumption) | (with_reducible refine below_drewN ?_ _) | (with_reducible refine below_after (by assumption) ?_ ?_) | (with_reducible refine Below.drew ?_) | (with_reducible refine Below.alloc ?_ ?_ _) | (with_reducible refine Below.setCell ?_ ?_ _) | omega | (simp; omega) | (simp; done))), HPB.out.cell 0, by omega⟩
  · refine ⟨?_, ?_, ?_, ?_, ?_, ?_, ?_, ?_, trivial⟩
    all_goals
      intro a W γ ev hc hf hfx hR hpre K hK
      simp only [List.mem_cons, List.mem_nil_iff, or_false, forall_eq, forall_eq_or_imp] at hfx
      have hp0 := hR.p0
      have hN := hR.hN
      have hz := hR.below.size
      have m1 := run_makeBools B (by omega) W
      first
        | have hpre := hpre 2 (by decide)
          simp [left, twoPhi] at hpre
          go_simp
          exact hK _ _ _ hR (fun _ _ _ _ h => h) hpre
        | have hpre := hpre 5 (by decide)
          simp [left, twoPhi] at hpre
          go_simp
          exact hK _ _ _ hR (fun _ _ _ _ h => h) hpre
        | simp [left, bindsOn, Region.binds, twoPhi] at hpre
          go_simp
          first
            | exact hK _ _ _ hR (fun _ _ _ _ h => h) rfl
            | exact hK _ _ (also γ W.heap.size 2) (hR.alloc _) (fun j u _ _ => twoPhi_kept 2 _ j u) ⟨_, rfl, hz, also_same _ _ _, boolB_made W B⟩
            | exact hK _ _ (also γ W.heap.size 5) (hR.alloc _) (fun j u _ _ => twoPhi_kept 5 _ j u) ⟨_, rfl, hz, also_same _ _ _, boolB_made W B⟩
  · intro vs w1 γ hvl hR hφ
    match vs, hvl with
    | [v0, v1, v2, v3, v4, v5, v6, v7], _ =>
    obtain ⟨g, e6, hg, hγ, hG⟩ := hφ 6 (by decide)
    obtain ⟨g2, e7, hg2, hγ2, hG2⟩ := hφ 7 (by decide)
    have hne : g ≠ g2 := fun e => by subst e; rw [hγ] at hγ2; cases hγ2
    simp only [List.getD_cons_succ, List.getD_cons_zero] at e6 e7
    subst e6
    subst e7
    clear hφ
    have J0 : JR w W0 g g2 (noB B) (noB B) w1 := ⟨hR.below.mono (by omega) |> HB0.out.trans, hR.below, hG, hG2⟩
    simp [putAll]
    clear hG hG2 hR hγ hγ2
    go_wp2
    have hgw : w.heap.size ≤ W0.heap.size := by omega
    go_loopw [9] (fun i wr => ∃ k : Nat, k ≤ n ∧ i = .int .i64 k ∧ Hid (JR w W0 g g2 (inTo B l k) (noB B) wr)) (fun i _ => n - (intOf i).toNat)
    case atStart => exact ⟨0, by omega, rfl, J0⟩
    case round =>
      obtain ⟨k, hk, rfl, HJ⟩ := hrel
      by_cases hlt : k < n
      · obtain ⟨b, off, x, e1, hb, hx, hcx⟩ := HL.out.at_ hlt
        have cx := (HJ.out.lw.cell (p := ⟨b, _, none⟩) hb).trans (hcx 0 (.int .i64 x) rfl)
        simp only [Nat.mul_one, Nat.add_zero] at cx
        have hxr := HR.out x (List.mem_of_getElem? hx)
        obtain ⟨hx0, hxB⟩ := hxr
        obtain ⟨u, cu⟩ : ∃ u : Bool, wr.cell? ⟨g, x.toNat, none⟩ = some (.bool u) := ⟨_, HJ.out.b1.cell (List.getElem?_eq_getElem (by rw [inTo_length]; omega))⟩
        have fu := Blk.frozen HJ.out.b1 x.toNat
        have hk0 : (0 : Int) ≤ (k : Int) := by omega
        have hkn : (k : Int) < (n : Int) := by omega
        have JX := Lib.hid (HJ.out.set1 hgw hg hne x.toNat true)
        rw [← inTo_succ B l k x hx] at JX
        clear hx hcx
        subst e1
        go_wp2
        go_roundw
        case rel => exact ⟨k + 1, by omega, by go_num, JX⟩
        case measure => simp [intOf]; omega
      · obtain rfl : n = k := by omega
        obtain ⟨b0, off0, x0, e1, hb0, hx0, hcx0⟩ := HL.out.at_ hn
        have ct : inTo B l n = inTo B l l.length := by rw [hlen]
        rw [ct] at HJ
        have cx := (HJ.out.lw.cell (p := ⟨b0, _, none⟩) hb0).trans (hcx0 0 (.int .i64 x0) rfl)
        simp only [Nat.zero_mul, Nat.add_zero] at cx
        have hxr := HR.out x0 (List.mem_of_getElem? hx0)
        obtain ⟨hz0, hzB⟩ := hxr
        have hhd : l.headD 0 = x0 := by cases l with | nil => cases hx0 | cons a l => simpa using hx0
        obtain ⟨u, cu⟩ : ∃ u : Bool, wr.cell? ⟨g2, x0.toNat, none⟩ = some (.bool u) := ⟨_, HJ.out.b2.cell (List.getElem?_eq_getElem (by simp [noB]; omega))⟩
        have fu := Blk.frozen HJ.out.b2 x0.toNat
        have hn0 : (0 : Int) < (n : Int) := by omega
        have JX := Lib.hid (HJ.out.set2 hgw hg2 hne x0.toNat true)
        obtain ⟨V0, hV0⟩ : ∃ V, (noB B).set x0.toNat true = V := ⟨_, rfl⟩
        rw [hV0] at JX
        have hVl : V0.length = B := by rw [← hV0]; simp [noB]
        obtain ⟨q, hq⟩ : ∃ q, withinQ s (inTo B l l.length) = q := ⟨_, rfl⟩
        have hfin : Hid (joinedB s L p.ln l = l.all fun b => mk (rounds q L p.ln V0 l.length) b.toNat) := by unfold Hid joinedB seenAll; rw [hq, hhd, hV0]
        clear hx0 hcx0 HJ
        subst e1
        go_wp2
        go_loopw [10] (fun i wr => ∃ m : Nat, m ≤ n ∧ i = .int .i64 m ∧ Hid (JR w W0 g g2 (inTo B l l.length) (rounds q L p.ln V0 m) wr)) (fun i _ => n - (intOf i).toNat)
        case atStart => exact ⟨0, by omega, rfl, JX⟩
        case round =>
          obtain ⟨m, hm, rfl, HJ⟩ := hrel
          by_cases hlt : m < n
          · obtain ⟨Vm, hVm⟩ : ∃ V, rounds q L p.ln V0 m = V := ⟨_, rfl⟩
            have hVml : Vm.length = B := by rw [← hVm, rounds_length, hVl]
            have hsucc : rounds q L p.ln V0 (m + 1) = relaxTo q L Vm p.ln := by rw [← hVm]; rfl
            rw [hVm] at HJ
            have hm0 : (0 : Int) ≤ (m : Int) := by omega
            have hmn : (m : Int) < (n : Int) := by omega
            clear hVm JX
            go_wp2
            obtain ⟨wr0, e0⟩ : ∃ x, x = wr := ⟨wr, rfl⟩
            subst e0
            go_loopw [11] (fun i wr => ∃ k : Nat, k ≤ p.ln ∧ i = .int .i64 k ∧ Hid (JR w W0 g g2 (inTo B l l.length) (relaxTo q L Vm k) wr)) (fun i _ => p.ln - (intOf i).toNat)
            case atStart => exact ⟨0, by omega, rfl, HJ⟩
            case round =>
              obtain ⟨k, hk, rfl, HI⟩ := hrel
              have P2 : wr.cell? ⟨w.heap.size, 2, none⟩ = some (.slice p.lA p.ln p.lc) := (HI.out.l0.cell (p := ⟨w.heap.size, 2, none⟩) (show w.heap.size < W0.heap.size by omega)).trans (HPB.out.cell 2)
              by_cases hkl : k < p.ln
              · obtain ⟨b, off, x', e1, hb, hx, hcx⟩ := (HP.out.below HI.out.lw).lnk.at_ hkl
                rw [hlinks] at hx
                obtain ⟨y, hy⟩ : ∃ y, L[k]? = some y := by
                  rw [List.getElem?_map] at hx
                  cases h : L[k]? with
                  | none => rw [h] at hx; cases hx
                  | some y => exact ⟨y, rfl⟩
                rw [List.getElem?_map, hy] at hx
                simp only [Option.map_some, Option.some.injEq] at hx
                subst hx
                rw [e1] at P2
                obtain ⟨⟨x, hxa, hxb⟩, rfl⟩ : ∃ z, z = y := ⟨_, rfl⟩
                dsimp only at hcx
                obtain ⟨d0, d1, d2, d3, d4, d5⟩ := Lnk.cells hcx
                have hk0 : (0 : Int) ≤ (k : Int) := by omega
                have hkn : (k : Int) < (p.ln : Int) := by omega
                obtain ⟨xa0, xa1⟩ := hxa
                obtain ⟨xb0, xb1⟩ := hxb
                have HY := Lib.hid hy
                have hq0 : w.heap.size < W0.heap.size := by omega
                have hq1 : w.heap.size + 1 < W0.heap.size := by omega
                have PA0 : ∀ o, (wr.alloc o).cell? ⟨w.heap.size, 0, none⟩ = some (.int .i64 B) := fun o => ((HI.out.alloc o).l0.cell (p := ⟨w.heap.size, 0, none⟩) hq0).trans (HPB.out.cell 0)
                have PA1 : ∀ o, (wr.alloc o).cell? ⟨w.heap.size, 1, none⟩ = some (.slice p.sA p.sn p.sc) := fun o => ((HI.out.alloc o).l0.cell (p := ⟨w.heap.size, 1, none⟩) hq0).trans (HPB.out.cell 1)
                have PA2 : ∀ o, (wr.alloc o).cell? ⟨w.heap.size, 2, none⟩ = some (.slice p.lA p.ln p.lc) := fun o => ((HI.out.alloc o).l0.cell (p := ⟨w.heap.size, 2, none⟩) hq0).trans (HPB.out.cell 2)
                have PA3 : ∀ o, (wr.alloc o).cell? ⟨w.heap.size, 3, none⟩ = some (.slice p.rA p.rn p.rc) := fun o => ((HI.out.alloc o).l0.cell (p := ⟨w.heap.size, 3, none⟩) hq0).trans (HPB.out.cell 3)
                have SA0 : ∀ o, (wr.alloc o).cell? ⟨w.heap.size + 1, 0, none⟩ = some (.slice s.closed.A s.closed.n s.closed.c) := fun o => ((HI.out.alloc o).l0.cell (p := ⟨w.heap.size + 1, 0, none⟩) hq1).trans (HSB.out.cell 0)
                have SA1 : ∀ o, (wr.alloc o).cell? ⟨w.heap.size + 1, 1, none⟩ = some (.slice s.locked.A s.locked.n s.locked.c) := fun o => ((HI.out.alloc o).l0.cell (p := ⟨w.heap.size + 1, 1, none⟩) hq1).trans (HSB.out.cell 1)
                have SA2 : ∀ o, (wr.alloc o).cell? ⟨w.heap.size + 1, 2, none⟩ = some (.slice s.badLink.A s.badLink.n s.badLink.c) := fun o => ((HI.out.alloc o).l0.cell (p := ⟨w.heap.size + 1, 2, none⟩) hq1).trans (HSB.out.cell 2)
                have SA3 : ∀ o, (wr.alloc o).cell? ⟨w.heap.size + 1, 3, none⟩ = some (.slice s.on.A s.on.n s.on.c) := fun o => ((HI.out.alloc o).l0.cell (p := ⟨w.heap.size + 1, 3, none⟩) hq1).trans (HSB.out.cell 3)
                have SA4 : ∀ o, (wr.alloc o).cell? ⟨w.heap.size + 1, 4, none⟩ = some (.slice s.badSource.A s.badSource.n s.badSource.c) := fun o => ((HI.out.alloc o).l0.cell (p := ⟨w.heap.size + 1, 4, none⟩) hq1).trans (HSB.out.cell 4)
                have SA5 : ∀ o, (wr.alloc o).cell? ⟨w.heap.size + 1, 5, none⟩ = some (.slice s.earthed.A s.earthed.n s.earthed.c) := fun o => ((HI.out.alloc o).l0.cell (p := ⟨w.heap.size + 1, 5, none⟩) hq1).trans (HSB.out.cell 5)
                have SA6 : ∀ o, (wr.alloc o).cell? ⟨w.heap.size + 1, 6, none⟩ = some (.slice s.badBus.A s.badBus.n s.badBus.c) := fun o => ((HI.out.alloc o).l0.cell (p := ⟨w.heap.size + 1, 6, none⟩) hq1).trans (HSB.out.cell 6)
                rw [e1] at PA2
                have CO2 := CO
                rw [e1] at CO2
                clear e1 hcx hy
                go_wp2_with fail
                clear PA0 PA1 PA2 PA3 SA0 SA1 SA2 SA3 SA4 SA5 SA6
                obtain ⟨Vk, hVk⟩ : ∃ V, relaxTo q L Vm k = V := ⟨_, rfl⟩
                have hVkl : Vk.length = B := by rw [← hVk, relaxTo_length, hVml]
                have hstep : Hid (relaxTo q L Vm (k + 1) = if q k x then relax1 Vk x.a.toNat x.b.toNat else Vk) := by
                  show relaxTo q L Vm (k + 1) = _
                  rw [← hVk]
                  conv => lhs; unfold relaxTo
                  rw [HY.out]
                rw [hVk] at HI
                have HA := Lib.hid (HI.out.alloc (.cells #[.int .i64 x.a, .int .i64 x.b, .int .i64 x.kind, .int .i64 x.most, .int .i64 x.ohm, .slice x.tA x.tn x.tc] 45))
                refine (CO2.out k _ HY.out _ (HP.out.next (HA.out.lw)) (HS.out.next (HA.out.lw))).mono ?_
                rintro e w2 ⟨rfl, hB2⟩
                have HC := Lib.hid (HA.out.next hB2)
                have hz2 := hB2.size
                simp only [World.size_alloc] at hz2
                have hw2 : wr.heap.size < w2.heap.size := by omega
                have hW0w : W0.heap.size ≤ wr.heap.size := HI.out.l0.size
                have HBX : Hid (Blk w2 wr.heap.size 45 #[.int .i64 x.a, .int .i64 x.b, .int .i64 x.kind, .int .i64 x.most, .int .i64 x.ohm, .slice x.tA x.tn x.tc]) := Blk.below (heap_alloc_new wr _) hB2 (by simp)
                have X0 : w2.cell? ⟨wr.heap.size, 0, none⟩ = some (.int .i64 x.a) := HBX.out.cell 0
                have X1 : w2.cell? ⟨wr.heap.size, 1, none⟩ = some (.int .i64 x.b) := HBX.out.cell 1
                obtain ⟨Vi, hVi⟩ : ∃ V, inTo B l l.length = V := ⟨_, rfl⟩
                have hVil : Vi.length = B := by rw [← hVi, inTo_length]
                obtain ⟨ia, hia⟩ : ∃ u, Vi[x.a.toNat]? = some u := ⟨_, List.getElem?_eq_getElem (by omega)⟩
                obtain ⟨ib, hib⟩ : ∃ u, Vi[x.b.toNat]? = some u := ⟨_, List.getElem?_eq_getElem (by omega)⟩
                obtain ⟨ka, hka⟩ : ∃ u, Vk[x.a.toNat]? = some u := ⟨_, List.getElem?_eq_getElem (by omega)⟩
                obtain ⟨kb, hkb⟩ : ∃ u, Vk[x.b.toNat]? = some u := ⟨_, List.getElem?_eq_getElem (by omega)⟩
                rw [hVi] at HC
                have Y0 := HC.out.b1.cell hia
                have Y1 := HC.out.b1.cell hib
                have Y2 := HC.out.b2.cell hka
                have Y3 := HC.out.b2.cell hkb
                obtain ⟨cv, hcv⟩ : ∃ u, conds s k x = u := ⟨_, rfl⟩
                rw [hcv]
                have hstep2 : Hid (relaxTo q L Vm (k + 1) = if cv && ia && ib && (ka || kb) then (Vk.set x.a.toNat true).set x.b.toNat true else Vk) := by
                  have h : relaxTo q L Vm (k + 1) = if q k x then relax1 Vk x.a.toNat x.b.toNat else Vk := hstep
                  show relaxTo q L Vm (k + 1) = _
                  rw [h, ← hq]
                  unfold withinQ relax1 mk
                  rw [hVi, hia, hib, hka, hkb, hcv]
                  cases cv <;> cases ia <;> cases ib <;> cases ka <;> cases kb <;> rfl
                clear hstep hVk hia hib hka hkb hcv
                dsimp only
                cases cv
                · have e := hstep2.out
                  simp at e
                  go_wp2
                  go_roundw
                  case rel => exact ⟨k + 1, by omega, by go_num, by rw [e, hVi]; exact HC.out⟩
                  case measure => simp [intOf]; omega
                cases ia
                · have e := hstep2.out
                  simp at e
                  go_wp2
                  go_roundw
                  case rel => exact ⟨k + 1, by omega, by go_num, by rw [e, hVi]; exact HC.out⟩
                  case measure => simp [intOf]; omega
                cases ib
                · have e := hstep2.out
                  simp at e
                  go_wp2
                  go_roundw
                  case rel => exact ⟨k + 1, by omega, by go_num, by rw [e, hVi]; exact HC.out⟩
                  case measure => simp [intOf]; omega
                cases ka
                · cases kb
                  · have e := hstep2.out
                    simp at e
                    go_wp2
                    go_roundw
                    case rel => exact ⟨k + 1, by omega, by go_num, by rw [e, hVi]; exact HC.out⟩
                    case measure => simp [intOf]; omega
                  · have e := hstep2.out
                    simp at e
                    have hbx : wr.heap.size ≠ g2 := Nat.ne_of_gt (Blk.lt HI.out.b2)
                    go_wp2
                    refine wp_region_free6 [some 87, some 88, some 89, some 90, some 91, some 92, some 93, none, some 94, none] [[], [], [1], [], [], [4], [0, 2, 0, 1, 2], [6, 0, 1, 2], [3, 5, 0, 1, 2, 3, 4, 5, 6, 7], [8, 7, 0, 1, 2, 3, 4, 5, 6, 7]] [(8, .slice (some ⟨g2, 0, none⟩) B B), (12, .pointer (some ⟨wr.heap.size, 0, none⟩))] (RelR w W0 g g2 wr.heap.size Vi Vk x.a x.b) (relPhi g2 wr.heap.size B x.a x.b) (by kernel_rfl) (by kernel_rfl) rfl (by kernel_rfl) ?_ ?_ ⟨fun _ => 0, ?_⟩ ?_ ?_
                    · intro z hz
                      simp only [List.mem_cons, List.mem_nil_iff, or_false] at hz
                      rcases hz with rfl | rfl
                      · exact ⟨rfl, rfl⟩
                      · exact ⟨rfl, rfl⟩
                    · intro i v W γ hi h
                      rcases i with _ | _ | _ | _ | _ | _ | _ | _ | _ | _ | i
                      all_goals first | exact h | (simp at hi)
                    · exact ⟨HC.out.drew, X0, X1⟩
                    · refine ⟨?_, ?_, ?_, ?_, ?_, ?_, ?_, ?_, ?_, ?_, trivial⟩
                      all_goals
                        intro a W γ ev hc hf hfx hR hpre K hK
                        simp only [List.mem_cons, List.mem_nil_iff, or_false, forall_eq, forall_eq_or_imp] at hfx
                        obtain ⟨f1, f2⟩ := hfx
                        have Z0 := hR.x0
                        have Z1 := hR.x1
                        have HR := Lib.hid hR
                        clear hR
                      · go_simp
                        exact hK _ _ _ HR.out (fun _ _ _ _ h => h) rfl
                      · go_simp
                        exact hK _ _ _ HR.out (fun _ _ _ _ h => h) rfl
                      · have q1 : ev (.tmp 88) = _ := hpre 1 (by decide)
                        clear hpre
                        go_simp
                        exact hK _ _ _ HR.out (fun _ _ _ _ h => h) rfl
                      · go_simp
                        exact hK _ _ _ HR.out (fun _ _ _ _ h => h) rfl
                      · go_simp
                        exact hK _ _ _ HR.out (fun _ _ _ _ h => h) rfl
                      · have q1 : ev (.tmp 91) = _ := hpre 4 (by decide)
                        clear hpre
                        go_simp
                        exact hK _ _ _ HR.out (fun _ _ _ _ h => h) rfl
                      · have q1 : ev (.tmp 87) = _ := hpre 0 (by decide)
                        have q2 : ev (.tmp 89) = _ := hpre 2 (by decide)
                        clear hpre
                        go_simp
                        exact hK _ _ _ HR.out (fun _ _ _ _ h => h) rfl
                      · have q1 : ev (.tmp 93) = _ := hpre 6 (by decide)
                        obtain ⟨u, cu⟩ : ∃ u : Bool, W.cell? ⟨g2, x.a.toNat, none⟩ = some (.bool u) := ⟨_, HR.out.jr.b2.cell (List.getElem?_eq_getElem (by rw [abV_length]; omega))⟩
                        have fu := Blk.frozen HR.out.jr.b2 x.a.toNat
                        clear hpre
                        go_simp
                        exact hK undef _ (also γ 0 1) (HR.out.seta hgw hg2 hne hbx) (fun j u _ _ => relPhi_kept 0 j u) (also_same _ _ _)
                      · have q1 : ev (.tmp 90) = _ := hpre 3 (by decide)
                        have q2 : ev (.tmp 92) = _ := hpre 5 (by decide)
                        clear hpre
                        go_simp
                        exact hK _ _ _ HR.out (fun _ _ _ _ h => h) rfl
                      · have q1 : ev (.tmp 94) = _ := hpre 8 (by decide)
                        obtain ⟨u, cu⟩ : ∃ u : Bool, W.cell? ⟨g2, x.b.toNat, none⟩ = some (.bool u) := ⟨_, HR.out.jr.b2.cell (List.getElem?_eq_getElem (by rw [abV_length]; omega))⟩
                        have fu := Blk.frozen HR.out.jr.b2 x.b.toNat
                        clear hpre
                        go_simp
                        exact hK undef _ (also γ 1 1) (HR.out.setb hgw hg2 hne hbx) (fun j u _ _ => relPhi_kept 1 j u) (also_same _ _ _)
                    · intro vs w3 γ hvl hR hφ
                      have h7 : γ 0 = 1 := hφ 7 (by decide)
                      have h9 : γ 1 = 1 := hφ 9 (by decide)
                      have HD := hR.jr
                      rw [h7, h9, abV_one] at HD
                      have HD := Lib.hid HD
                      clear hφ hR
                      match vs, hvl with
                      | [z0, z1, z2, z3, z4, z5, z6, z7, z8, z9], _ =>
                      simp [putAll]
                      go_wp2
                      go_roundw
                      case rel => exact ⟨k + 1, by omega, by go_num, by rw [e, hVi]; exact HD.out⟩
                      case measure => simp [intOf]; omega
                · have e := hstep2.out
                  simp at e
                  have hbx : wr.heap.size ≠ g2 := Nat.ne_of_gt (Blk.lt HI.out.b2)
                  go_wp2
                  refine wp_region_free6 [some 87, some 88, some 89, some 90, some 91, some 92, some 93, none, some 94, none] [[], [], [1], [], [], [4], [0, 2, 0, 1, 2], [6, 0, 1, 2], [3, 5, 0, 1, 2, 3, 4, 5, 6, 7], [8, 7, 0, 1, 2, 3, 4, 5, 6, 7]] [(8, .slice (some ⟨g2, 0, none⟩) B B), (12, .pointer (some ⟨wr.heap.size, 0, none⟩))] (RelR w W0 g g2 wr.heap.size Vi Vk x.a x.b) (relPhi g2 wr.heap.size B x.a x.b) (by kernel_rfl) (by kernel_rfl) rfl (by kernel_rfl) ?_ ?_ ⟨fun _ => 0, ?_⟩ ?_ ?_
                  · intro z hz
                    simp only [List.mem_cons, List.mem_nil_iff, or_false] at hz
                    rcases hz with rfl | rfl
                    · exact ⟨rfl, rfl⟩
                    · exact ⟨rfl, rfl⟩
                  · intro i v W γ hi h
                    rcases i with _ | _ | _ | _ | _ | _ | _ | _ | _ | _ | i
                    all_goals first | exact h | (simp at hi)
                  · exact ⟨HC.out.drew, X0, X1⟩
                  · refine ⟨?_, ?_, ?_, ?_, ?_, ?_, ?_, ?_, ?_, ?_, trivial⟩
                    all_goals
                      intro a W γ ev hc hf hfx hR hpre K hK
                      simp only [List.mem_cons, List.mem_nil_iff, or_false, forall_eq, forall_eq_or_imp] at hfx
                      obtain ⟨f1, f2⟩ := hfx
                      have Z0 := hR.x0
                      have Z1 := hR.x1
                      have HR := Lib.hid hR
                      clear hR
                    · go_simp
                      exact hK _ _ _ HR.out (fun _ _ _ _ h => h) rfl
                    · go_simp
                      exact hK _ _ _ HR.out (fun _ _ _ _ h => h) rfl
                    · have q1 : ev (.tmp 88) = _ := hpre 1 (by decide)
                      clear hpre
                      go_simp
                      exact hK _ _ _ HR.out (fun _ _ _ _ h => h) rfl
                    · go_simp
                      exact hK _ _ _ HR.out (fun _ _ _ _ h => h) rfl
                    · go_simp
                      exact hK _ _ _ HR.out (fun _ _ _ _ h => h) rfl
                    · have q1 : ev (.tmp 91) = _ := hpre 4 (by decide)
                      clear hpre
                      go_simp
                      exact hK _ _ _ HR.out (fun _ _ _ _ h => h) rfl
                    · have q1 : ev (.tmp 87) = _ := hpre 0 (by decide)
                      have q2 : ev (.tmp 89) = _ := hpre 2 (by decide)
                      clear hpre
                      go_simp
                      exact hK _ _ _ HR.out (fun _ _ _ _ h => h) rfl
                    · have q1 : ev (.tmp 93) = _ := hpre 6 (by decide)
                      obtain ⟨u, cu⟩ : ∃ u : Bool, W.cell? ⟨g2, x.a.toNat, none⟩ = some (.bool u) := ⟨_, HR.out.jr.b2.cell (List.getElem?_eq_getElem (by rw [abV_length]; omega))⟩
                      have fu := Blk.frozen HR.out.jr.b2 x.a.toNat
                      clear hpre
                      go_simp
                      exact hK undef _ (also γ 0 1) (HR.out.seta hgw hg2 hne hbx) (fun j u _ _ => relPhi_kept 0 j u) (also_same _ _ _)
                    · have q1 : ev (.tmp 90) = _ := hpre 3 (by decide)
                      have q2 : ev (.tmp 92) = _ := hpre 5 (by decide)
                      clear hpre
                      go_simp
                      exact hK _ _ _ HR.out (fun _ _ _ _ h => h) rfl
                    · have q1 : ev (.tmp 94) = _ := hpre 8 (by decide)
                      obtain ⟨u, cu⟩ : ∃ u : Bool, W.cell? ⟨g2, x.b.toNat, none⟩ = some (.bool u) := ⟨_, HR.out.jr.b2.cell (List.getElem?_eq_getElem (by rw [abV_length]; omega))⟩
                      have fu := Blk.frozen HR.out.jr.b2 x.b.toNat
                      clear hpre
                      go_simp
                      exact hK undef _ (also γ 1 1) (HR.out.setb hgw hg2 hne hbx) (fun j u _ _ => relPhi_kept 1 j u) (also_same _ _ _)
                  · intro vs w3 γ hvl hR hφ
                    have h7 : γ 0 = 1 := hφ 7 (by decide)
                    have h9 : γ 1 = 1 := hφ 9 (by decide)
                    have HD := hR.jr
                    rw [h7, h9, abV_one] at HD
                    have HD := Lib.hid HD
                    clear hφ hR
                    match vs, hvl with
                    | [z0, z1, z2, z3, z4, z5, z6, z7, z8, z9], _ =>
                    simp [putAll]
                    go_wp2
                    go_roundw
                    case rel => exact ⟨k + 1, by omega, by go_num, by rw [e, hVi]; exact HD.out⟩
                    case measure => simp [intOf]; omega
              · obtain rfl : p.ln = k := by omega
                go_wp2
                go_roundw
                case rel => exact ⟨m + 1, by omega, by go_num, by rw [hsucc]; exact HI.out⟩
                case measure => simp [intOf]; omega
          · obtain rfl : n = m := by omega
            obtain ⟨Ve, hVe⟩ : ∃ V, rounds q L p.ln V0 n = V := ⟨_, rfl⟩
            rw [hVe] at HJ
            have hfin2 : Hid (joinedB s L p.ln l = l.all fun b => mk Ve b.toNat) := by
              have h : joinedB s L p.ln l = l.all fun b => mk (rounds q L p.ln V0 l.length) b.toNat := hfin
              rw [hlen, hVe] at h
              exact h
            have hVel : Ve.length = B := by rw [← hVe, rounds_length, hVl]
            clear hVe hfin JX
            go_wp2
            go_loopw [13] (fun i wr => ∃ k : Nat, k ≤ n ∧ i = .int .i64 k ∧ Hid (JR w W0 g g2 (inTo B l l.length) Ve wr ∧ ∀ (j : Nat) (x : Int), j < k → l[j]? = some x → mk Ve x.toNat = true)) (fun i _ => n - (intOf i).toNat)
            case atStart => exact ⟨0, by omega, rfl, HJ.out, fun j x hj => absurd hj (by omega)⟩
            case round =>
              obtain ⟨k, hk, rfl, HJ⟩ := hrel
              by_cases hlt : k < n
              · obtain ⟨b, off, x, e1, hb, hx, hcx⟩ := HL.out.at_ hlt
                cases e1
                have cx := (HJ.out.1.lw.cell (p := ⟨b0, _, none⟩) hb).trans (hcx 0 (.int .i64 x) rfl)
                simp only [Nat.mul_one, Nat.add_zero] at cx
                have hxr := HR.out x (List.mem_of_getElem? hx)
                obtain ⟨hx0, hxB⟩ := hxr
                obtain ⟨u, hu⟩ : ∃ u, Ve[x.toNat]? = some u := ⟨_, List.getElem?_eq_getElem (by omega)⟩
                have cu := HJ.out.1.b2.cell hu
                have hmu : Hid (mk Ve x.toNat = u) := by unfold Hid mk; rw [hu]; rfl
                have HX := Lib.hid hx
                have hk0 : (0 : Int) ≤ (k : Int) := by omega
                have hkn : (k : Int) < (n : Int) := by omega
                clear hx hcx hu
                cases u
                · go_wp2
                  go_ret
                  refine ⟨?_, HJ.out.1.lw⟩
                  have e : joinedB s L p.ln l = false := by
                    rw [hfin2.out, List.all_eq_false]
                    exact ⟨x, List.mem_of_getElem? HX.out, by rw [hmu.out]; simp⟩
                  rw [e]
                  rfl
                · go_wp2
                  go_roundw
                  case rel =>
                    refine ⟨k + 1, by omega, by go_num, HJ.out.1, fun j y hj hy => ?_⟩
                    rcases Nat.lt_or_ge j k with h | h
                    · exact HJ.out.2 j y h hy
                    · obtain rfl : j = k := by omega
                      rw [HX.out] at hy
                      cases hy
                      exact hmu.out
                  case measure => simp [intOf]; omega
              · obtain rfl : n = k := by omega
                go_wp2
                go_ret
                refine ⟨?_, HJ.out.1.lw⟩
                have e : joinedB s L p.ln l = true := by
                  rw [hfin2.out, List.all_eq_true]
                  intro x hx
                  obtain ⟨j, hj, hjx⟩ := List.getElem_of_mem hx
                  exact HJ.out.2 j x (by omega) (by rw [List.getElem?_eq_getElem hj, hjx])
                rw [e]
                rfl
end Go.Proofs.YtcidcadopeokoaaDoor
