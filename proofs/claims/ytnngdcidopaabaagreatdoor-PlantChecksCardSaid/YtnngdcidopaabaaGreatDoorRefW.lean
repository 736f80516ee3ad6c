/- The reference's Conducts, Feeds and Reach. -/
import Derived.Test.YtnngdcidopaabaaGreatDoorCopy
import Derived.Test.YtnngdcidopaabaaGreatDoorWay
import Derived.BigQuiet
import Derived.Test.YtnngdcidopaabaaGreatDoorFed
import Derived.Test.YtnngdcidopaabaaGreatDoorLosesP
import Derived.Test.YtnngdcidopaabaaGreatDoorIslands

set_option linter.unusedSimpArgs false
set_option linter.unusedVariables false
namespace Go.Proofs.YtnngdcidopaabaaGreatDoor
open Go.RowKit Go.Shelf

set_option maxRecDepth 100000 in
set_option maxHeartbeats 4000000 in
theorem refConducts_any (p : Plt) (s : Stt) (B : Nat) (L : List (LnkOf B)) (S : Sound p s B L) (k : Nat) (y : LnkOf B) (hy : L[k]? = some y) (w : World) (hp : PltIn w w.heap.size p) (hs : SttIn w w.heap.size s) :
    Calls Tryz.prog 103 #[p.val, s.val, .int .i64 k] w fun e w' => e = .returned (.bool (conds s k y.1)) ∧ Below w.heap.size w w' := by
  have hlt : k < p.ln := by
    rw [← hp.lnk.1, S.lnks, List.length_map]
    exact (List.getElem?_eq_some_iff.1 hy).1
  obtain ⟨b, off, x', e1, hb, hx, hcx⟩ := hp.lnk.at_ hlt
  rw [S.lnks, List.getElem?_map, hy] at hx
  simp only [Option.map_some, Option.some.injEq] at hx
  subst hx
  obtain ⟨⟨x, hxa, hxb⟩, rfl⟩ : ∃ z, z = y := ⟨_, rfl⟩
  dsimp only at hcx
  obtain ⟨d0, d1, d2, d3, d4, d5⟩ := Lnk.cells hcx
  have hlen := S.lens
  obtain ⟨g0, o0, a0, v0, r0⟩ := hs.closed.at_ (k := k) (by rw [hlen.closed]; exact hlt)
  obtain ⟨g2, o2, a2, v2, r2⟩ := hs.badLink.at_ (k := k) (by rw [hlen.badLink]; exact hlt)
  obtain ⟨g6, o6, a6, v6, r6⟩ := hs.badBus.at_ (k := x.a.toNat) (by rw [hlen.badBus]; omega)
  obtain ⟨g7, o7, a7, v7, r7⟩ := hs.badBus.at_ (k := x.b.toNat) (by rw [hlen.badBus]; omega)
  obtain ⟨rfl, rfl⟩ : g6 = g7 ∧ o6 = o7 := by rw [a6] at a7; simp at a7; exact a7
  have n0 := hlen.closed
  have n2 := hlen.badLink
  have n6 := hlen.badBus
  have hk0 : (0 : Int) ≤ (k : Int) := by omega
  have hkn : (k : Int) < (p.ln : Int) := by omega
  have hkc : (k : Int) < (s.closed.n : Int) := by omega
  have hkd : (k : Int) < (s.badLink.n : Int) := by omega
  obtain ⟨xa0, xa1⟩ := hxa
  obtain ⟨xb0, xb1⟩ := hxb
  have hka : x.a < (s.badBus.n : Int) := by omega
  have hkb : x.b < (s.badBus.n : Int) := by omega
  have zs : b < w.heap.size + 1 ∧ b < w.heap.size + 1 + 1 ∧ g0 < w.heap.size + 1 ∧ g0 < w.heap.size + 1 + 1 ∧ g2 < w.heap.size + 1 ∧ g2 < w.heap.size + 1 + 1 ∧ g6 < w.heap.size + 1 ∧ g6 < w.heap.size + 1 + 1 := by omega
  obtain ⟨t1, t2, t3, t4, t5, t6, t7, t8⟩ := zs
  unfold Plt.val Stt.val
  rw [e1, a0, a2, a6]
  clear n0 n2 n6
  clear hp hs hcx hlen S e1 a0 a2 a6 a7 hy
  obtain ⟨c0, hc0⟩ : ∃ c, bit s.closed k = c := ⟨_, rfl⟩
  obtain ⟨c2, hc2⟩ : ∃ c, bit s.badLink k = c := ⟨_, rfl⟩
  obtain ⟨c6, hc6⟩ : ∃ c, bit s.badBus x.a.toNat = c := ⟨_, rfl⟩
  obtain ⟨c7, hc7⟩ : ∃ c, bit s.badBus x.b.toNat = c := ⟨_, rfl⟩
  have hr : conds s k x = (c0 && !c2 && !c6 && !c7) := by simp [conds, hc0, hc2, hc6, hc7]
  rw [hc0] at r0
  rw [hc2] at r2
  rw [hc6] at r6
  rw [hc7] at r7
  dsimp only
  rw [hr]
  clear hr hc0 hc2 hc6 hc7
  go_enter Tryz.func103, Tryz.ntmps103
  cases c0
  · go_wp2
    go_quiet (fail)
    go_wp2
    go_ret
    exact ⟨rfl, by (repeat' (first | (with_reducible exact Below.refl _ _) | (with_reducible assumption) | (with_reducible refine below_drewN ?_ _) | (with_reducible refine below_after (by assumption) ?_ ?_) | (with_reducible refine Below.drew ?_) | (with_reducible refine Below.alloc ?_ ?_ _) | (with_reducible refine Below.setCell ?_ ?_ _) | omega | (simp; omega) | (simp; done)))⟩
  · cases c2
    · cases c6
      · cases c7
        · go_wp2
          go_quiet (fail)
          go_wp2
          go_ret
          exact ⟨rfl, by (repeat' (first | (with_reducible exact Below.refl _ _) | (with_reducible assumption) | (with_reducible refine below_drewN ?_ _) | (with_reducible refine below_after (by assumption) ?_ ?_) | (with_reducible refine Below.drew ?_) | (with_reducible refine Below.alloc ?_ ?_ _) | (with_reducible refine Below.setCell ?_ ?_ _) | omega | (simp; omega) | (simp; done)))⟩
        · go_wp2
          go_quiet (fail)
          go_wp2
          go_ret
          exact ⟨rfl, by (repeat' (first | (with_reducible exact Below.refl _ _) | (with_reducible assumption) | (with_reducible refine below_drewN ?_ _) | (with_reducible refine below_after (by assumption) ?_ ?_) | (with_reducible refine Below.drew ?_) | (with_reducible refine Below.alloc ?_ ?_ _) | (with_reducible refine Below.setCell ?_ ?_ _) | omega | (simp; omega) | (simp; done)))⟩
      · go_wp2
        go_quiet (fail)
        go_wp2
        go_ret
        exact ⟨rfl, by (repeat' (first | (with_reducible exact Below.refl _ _) | (with_reducible assumption) | (with_reducible refine below_drewN ?_ _) | (with_reducible refine below_after (by assumption) ?_ ?_) | (with_reducible refine Below.drew ?_) | (with_reducible refine Below.alloc ?_ ?_ _) | (with_reducible refine Below.setCell ?_ ?_ _) | omega | (simp; omega) | (simp; done)))⟩
    · go_wp2
      go_quiet (fail)
      go_wp2
      go_ret
      exact ⟨rfl, by (repeat' (first | (with_reducible exact Below.refl _ _) | (with_reducible assumption) | (with_reducible refine below_drewN ?_ _) | (with_reducible refine below_after (by assumption) ?_ ?_) | (with_reducible refine Below.drew ?_) | (with_reducible refine Below.alloc ?_ ?_ _) | (with_reducible refine Below.setCell ?_ ?_ _) | omega | (simp; omega) | (simp; done)))⟩

def feeds (s : Stt) (k : Nat) (x : Src) : Bool := bit s.on k && !bit s.badSource k && !bit s.badBus x.bus.toNat
set_option maxRecDepth 100000 in
set_option maxHeartbeats 4000000 in
theorem refFeeds_any (p : Plt) (s : Stt) (B : Nat) (L : List (LnkOf B)) (S : Sound p s B L) (k : Nat) (x : Src) (hy : p.srcs[k]? = some x) (w : World) (hp : PltIn w w.heap.size p) (hs : SttIn w w.heap.size s) :
    Calls Tryz.prog 67 #[p.val, s.val, .int .i64 k] w fun e w' => e = .returned (.bool (feeds s k x)) ∧ Below w.heap.size w w' := by
  have hlt : k < p.sn := by
    rw [← hp.src.1]
    exact (List.getElem?_eq_some_iff.1 hy).1
  obtain ⟨b, off, x', e1, hb, hx, hcx⟩ := hp.src.at_ hlt
  obtain rfl : x = x' := by rw [hy] at hx; exact Option.some.inj hx
  obtain ⟨d0, d1, d2, d3, d4⟩ := Src.cells hcx
  obtain ⟨xa0, xa1⟩ := S.srcs x (List.mem_of_getElem? hy)
  have hlen := S.lens
  obtain ⟨g0, o0, a0, v0, r0⟩ := hs.on.at_ (k := k) (by rw [hlen.on]; exact hlt)
  obtain ⟨g2, o2, a2, v2, r2⟩ := hs.badSource.at_ (k := k) (by rw [hlen.badSource]; exact hlt)
  obtain ⟨g6, o6, a6, v6, r6⟩ := hs.badBus.at_ (k := x.bus.toNat) (by rw [hlen.badBus]; omega)
  have n0 := hlen.on
  have n2 := hlen.badSource
  have n6 := hlen.badBus
  have hk0 : (0 : Int) ≤ (k : Int) := by omega
  have hkn : (k : Int) < (p.sn : Int) := by omega
  have hkc : (k : Int) < (s.on.n : Int) := by omega
  have hkd : (k : Int) < (s.badSource.n : Int) := by omega
  have hka : x.bus < (s.badBus.n : Int) := by omega
  have zs : b < w.heap.size + 1 ∧ b < w.heap.size + 1 + 1 ∧ g0 < w.heap.size + 1 ∧ g0 < w.heap.size + 1 + 1 ∧ g2 < w.heap.size + 1 ∧ g2 < w.heap.size + 1 + 1 ∧ g6 < w.heap.size + 1 ∧ g6 < w.heap.size + 1 + 1 := by omega
  obtain ⟨t1, t2, t3, t4, t5, t6, t7, t8⟩ := zs
  unfold Plt.val Stt.val
  rw [e1, a0, a2, a6]
  clear n0 n2 n6
  clear hp hs hcx hlen S e1 a0 a2 a6 hx hy
  obtain ⟨c0, hc0⟩ : ∃ c, bit s.on k = c := ⟨_, rfl⟩
  obtain ⟨c2, hc2⟩ : ∃ c, bit s.badSource k = c := ⟨_, rfl⟩
  obtain ⟨c6, hc6⟩ : ∃ c, bit s.badBus x.bus.toNat = c := ⟨_, rfl⟩
  have hr : feeds s k x = (c0 && !c2 && !c6) := by simp [feeds, hc0, hc2, hc6]
  rw [hc0] at r0
  rw [hc2] at r2
  rw [hc6] at r6
  rw [hr]
  clear hr hc0 hc2 hc6
  go_enter Tryz.func67, Tryz.ntmps67
  cases c0
  · go_wp2
    go_quiet (fail)
    go_wp2
    go_ret
    exact ⟨rfl, by (repeat' (first | (with_reducible exact Below.refl _ _) | (with_reducible assumption) | (with_reducible refine below_drewN ?_ _) | (with_reducible refine below_after (by assumption) ?_ ?_) | (with_reducible refine Below.drew ?_) | (with_reducible refine Below.alloc ?_ ?_ _) | (with_reducible refine Below.setCell ?_ ?_ _) | omega | (simp; omega) | (simp; done)))⟩
  · cases c2
    · cases c6
      · go_wp2
        go_quiet (fail)
        go_wp2
        go_ret
        exact ⟨rfl, by (repeat' (first | (with_reducible exact Below.refl _ _) | (with_reducible assumption) | (with_reducible refine below_drewN ?_ _) | (with_reducible refine below_after (by assumption) ?_ ?_) | (with_reducible refine Below.drew ?_) | (with_reducible refine Below.alloc ?_ ?_ _) | (with_reducible refine Below.setCell ?_ ?_ _) | omega | (simp; omega) | (simp; done)))⟩
      · go_wp2
        go_quiet (fail)
        go_wp2
        go_ret
        exact ⟨rfl, by (repeat' (first | (with_reducible exact Below.refl _ _) | (with_reducible assumption) | (with_reducible refine below_drewN ?_ _) | (with_reducible refine below_after (by assumption) ?_ ?_) | (with_reducible refine Below.drew ?_) | (with_reducible refine Below.alloc ?_ ?_ _) | (with_reducible refine Below.setCell ?_ ?_ _) | omega | (simp; omega) | (simp; done)))⟩
    · go_wp2
      go_quiet (fail)
      go_wp2
      go_ret
      exact ⟨rfl, by (repeat' (first | (with_reducible exact Below.refl _ _) | (with_reducible assumption) | (with_reducible refine below_drewN ?_ _) | (with_reducible refine below_after (by assumption) ?_ ?_) | (with_reducible refine Below.drew ?_) | (with_reducible refine Below.alloc ?_ ?_ _) | (with_reducible refine Below.setCell ?_ ?_ _) | omega | (simp; omega) | (simp; done)))⟩
end Go.Proofs.YtnngdcidopaabaaGreatDoor

/- The reference's Reach. -/
namespace Go.Proofs.YtnngdcidopaabaaGreatDoor
open Go.RowKit

/-- What the walk keeps: the marks are its own. -/
structure MR (w4 : World) (g : Nat) (V : List Bool) (wr : World) : Prop where
  l0 : Below w4.heap.size w4 wr
  b1 : BoolB wr g V
section
variable {w4 wr w' : World} {g : Nat} {V : List Bool}
theorem MR.next (h : MR w4 g V wr) (hb : Below wr.heap.size wr w') : MR w4 g V w' := ⟨below_after hb (Nat.le_refl _) h.l0, h.b1.below hb⟩
theorem MR.alloc (h : MR w4 g V wr) (o : Obj) : MR w4 g V (wr.alloc o) := h.next ((Below.refl _ _).alloc (Nat.le_refl _) _)
theorem MR.set_ (h : MR w4 g V wr) (hg : w4.heap.size ≤ g) (i : Nat) (x : Bool) : MR w4 g (V.set i x) (wr.setCell ⟨g, i, none⟩ (.bool x)) := ⟨h.l0.setCell hg _, h.b1.set_ _ _⟩
end
theorem made_bools (W : World) (B : Nat) : BoolB (W.alloc (.cells (Array.replicate B (.bool false)) 4)) W.heap.size (noB B) := by
  have h := heap_alloc_new W (.cells (Array.replicate B (.bool false)) 4)
  have e : (Array.replicate B (Value.bool false)) = bools (noB B) := by
    unfold bools noB
    apply Array.ext
    · simp
    · intro i h1 h2
      simp
  rw [e] at h ⊢
  exact h
theorem made_bools_set (W : World) (B b : Nat) : BoolB (W.alloc (.cells ((Array.replicate B (.bool false)).setIfInBounds b (.bool true)) 4)) W.heap.size ((noB B).set b true) := by
  have h := heap_alloc_new W (.cells ((Array.replicate B (.bool false)).setIfInBounds b (.bool true)) 4)
  have e : ((Array.replicate B (Value.bool false)).setIfInBounds b (.bool true)) = bools ((noB B).set b true) := by
    have e1 : (Array.replicate B (Value.bool false)) = bools (noB B) := by
      unfold bools noB
      apply Array.ext
      · simp
      · intro i h1 h2
        simp
    rw [e1]
    unfold bools
    rw [List.setIfInBounds_toArray, List.map_set]
  rw [e] at h ⊢
  exact h
theorem cell_far {W : World} {p : Addr} {b i : Nat} {v u : Value} (h : W.cell? ⟨b, i, none⟩ = some u) (hn : b ≠ p.block) : (W.setCell p v).cell? ⟨b, i, none⟩ = some u := by
  rw [← h]
  unfold World.cell?
  rw [Below.heap_setCell W p v b hn]
/-- The marks of what can be reached from a bus. -/
def reachL {B : Nat} (s : Stt) (L : List (LnkOf B)) (m b : Nat) : List Bool := rounds (conds s) L m ((noB B).set b true) B
theorem reachL_length {B : Nat} (s : Stt) (L : List (LnkOf B)) (m b : Nat) : (reachL s L m b).length = B := by
  unfold reachL
  rw [rounds_length]
  simp [noB]
theorem reachL_iff {B : Nat} (s : Stt) (L : List (LnkOf B)) (m b i : Nat) (hb : b < B) : mk (reachL s L m b) i = true ↔ Joined (condTo s L m) b i := by
  unfold reachL
  rw [rounds_iff s L m _ (by simp [noB])]
  have hm : ∀ j, mk ((noB B).set b true) j = true ↔ j = b := fun j => by
    unfold mk
    by_cases h : b = j
    · subst h
      rw [List.getElem?_set_self (by simp [noB, hb])]
      simp
    · rw [List.getElem?_set_ne h]
      have : (noB B)[j]?.getD false = false := by
        unfold noB
        rw [List.getElem?_replicate]
        split <;> rfl
      rw [this]
      simp
      omega
  constructor
  · rintro ⟨j, h1, h2⟩
    rw [(hm j).1 h1] at h2
    exact h2
  · intro h
    exact ⟨b, (hm b).2 rfl, h⟩
set_option maxRecDepth 100000 in
set_option maxHeartbeats 8000000 in
theorem refReach_any (p : Plt) (s : Stt) (B : Nat) (L : List (LnkOf B)) (S : Sound p s B L) (hln : p.ln ≤ 40) (b : Nat) (hb : b < B) (w : World) (hp : PltIn w w.heap.size p) (hs : SttIn w w.heap.size s) :
    Calls Tryz.prog 66 #[p.val, s.val, .int .i64 b] w fun e w' => ∃ g, e = .returned (.slice (some ⟨g, 0, none⟩) B B) ∧ Below w.heap.size w w' ∧ w.heap.size ≤ g ∧ BoolB w' g (reachL s L p.ln b) := by
  have LO0 : Lo w p s w.heap.size (w.heap.size + 1) ((w.alloc (.cells (pBox p) 26)).alloc (.cells (sBox s) 29)) := by
    have hb : Below w.heap.size w ((w.alloc (.cells (pBox p) 26)).alloc (.cells (sBox s) 29)) := by (repeat' (first | (with_reducible exact Below.refl _ _) | (with_reducible assumption) | (with_reducible refine below_drewN ?_ _) | (with_reducible refine below_after (by assumption) ?_ ?_) | (with_reducible refine Below.drew ?_) | (with_reducible refine Below.alloc ?_ ?_ _) | (with_reducible refine Below.setCell ?_ ?_ _) | omega | (simp; omega) | (simp; done)))
    refine ⟨hb, hp.next hb, hs.next hb, Blk.alloc (heap_alloc_new w _) _, ?_⟩
    have := heap_alloc_new (w.alloc (.cells (pBox p) 26)) (.cells (sBox s) 29)
    rw [World.size_alloc] at this
    exact this
  have HS := Lib.hid S
  have eB := S.buses
  have kB := S.small
  have b1 := S.pos
  clear hp hs S
  unfold pBox sBox at LO0
  rw [eB] at LO0
  have m1 := run_makeBools B (by omega) ((w.alloc (.cells #[.int .i64 (B : Int), .slice p.sA p.sn p.sc, .slice p.lA p.ln p.lc, .slice p.rA p.rn p.rc] 26)).alloc (.cells #[.slice s.closed.A s.closed.n s.closed.c, .slice s.locked.A s.locked.n s.locked.c, .slice s.badLink.A s.badLink.n s.badLink.c, .slice s.on.A s.on.n s.on.c, .slice s.badSource.A s.badSource.n s.badSource.c, .slice s.earthed.A s.earthed.n s.earthed.c, .slice s.badBus.A s.badBus.n s.badBus.c] 29))
  have hBB := made_bools ((w.alloc (.cells #[.int .i64 (B : Int), .slice p.sA p.sn p.sc, .slice p.lA p.ln p.lc, .slice p.rA p.rn p.rc] 26)).alloc (.cells #[.slice s.closed.A s.closed.n s.closed.c, .slice s.locked.A s.locked.n s.locked.c, .slice s.badLink.A s.badLink.n s.badLink.c, .slice s.on.A s.on.n s.on.c, .slice s.badSource.A s.badSource.n s.badSource.c, .slice s.earthed.A s.earthed.n s.earthed.c, .slice s.badBus.A s.badBus.n s.badBus.c] 29)) B
  have hW0 : ((w.alloc (.cells #[.int .i64 (B : Int), .slice p.sA p.sn p.sc, .slice p.lA p.ln p.lc, .slice p.rA p.rn p.rc] 26)).alloc (.cells #[.slice s.closed.A s.closed.n s.closed.c, .slice s.locked.A s.locked.n s.locked.c, .slice s.badLink.A s.badLink.n s.badLink.c, .slice s.on.A s.on.n s.on.c, .slice s.badSource.A s.badSource.n s.badSource.c, .slice s.earthed.A s.earthed.n s.earthed.c, .slice s.badBus.A s.badBus.n s.badBus.c] 29)).heap.size = w.heap.size + 1 + 1 := by simp
  rw [hW0] at m1 hBB
  have JW0 : MR ((w.alloc (.cells #[.int .i64 (B : Int), .slice p.sA p.sn p.sc, .slice p.lA p.ln p.lc, .slice p.rA p.rn p.rc] 26)).alloc (.cells #[.slice s.closed.A s.closed.n s.closed.c, .slice s.locked.A s.locked.n s.locked.c, .slice s.badLink.A s.badLink.n s.badLink.c, .slice s.on.A s.on.n s.on.c, .slice s.badSource.A s.badSource.n s.badSource.c, .slice s.earthed.A s.earthed.n s.earthed.c, .slice s.badBus.A s.badBus.n s.badBus.c] 29)) (w.heap.size + 1 + 1) (noB B) (((w.alloc (.cells #[.int .i64 (B : Int), .slice p.sA p.sn p.sc, .slice p.lA p.ln p.lc, .slice p.rA p.rn p.rc] 26)).alloc (.cells #[.slice s.closed.A s.closed.n s.closed.c, .slice s.locked.A s.locked.n s.locked.c, .slice s.badLink.A s.badLink.n s.badLink.c, .slice s.on.A s.on.n s.on.c, .slice s.badSource.A s.badSource.n s.badSource.c, .slice s.earthed.A s.earthed.n s.earthed.c, .slice s.badBus.A s.badBus.n s.badBus.c] 29)).alloc (.cells (Array.replicate B (.bool false)) 4)) := ⟨(Below.refl _ _).alloc (Nat.le_refl _) _, hBB⟩
  have JW1 : MR ((w.alloc (.cells #[.int .i64 (B : Int), .slice p.sA p.sn p.sc, .slice p.lA p.ln p.lc, .slice p.rA p.rn p.rc] 26)).alloc (.cells #[.slice s.closed.A s.closed.n s.closed.c, .slice s.locked.A s.locked.n s.locked.c, .slice s.badLink.A s.badLink.n s.badLink.c, .slice s.on.A s.on.n s.on.c, .slice s.badSource.A s.badSource.n s.badSource.c, .slice s.earthed.A s.earthed.n s.earthed.c, .slice s.badBus.A s.badBus.n s.badBus.c] 29)) (w.heap.size + 1 + 1) ((noB B).set b true) (((w.alloc (.cells #[.int .i64 (B : Int), .slice p.sA p.sn p.sc, .slice p.lA p.ln p.lc, .slice p.rA p.rn p.rc] 26)).alloc (.cells #[.slice s.closed.A s.closed.n s.closed.c, .slice s.locked.A s.locked.n s.locked.c, .slice s.badLink.A s.badLink.n s.badLink.c, .slice s.on.A s.on.n s.on.c, .slice s.badSource.A s.badSource.n s.badSource.c, .slice s.earthed.A s.earthed.n s.earthed.c, .slice s.badBus.A s.badBus.n s.badBus.c] 29)).alloc (.cells ((Array.replicate B (.bool false)).setIfInBounds b (.bool true)) 4)) := by
    refine ⟨(Below.refl _ _).alloc (Nat.le_refl _) _, ?_⟩
    have h := made_bools_set ((w.alloc (.cells #[.int .i64 (B : Int), .slice p.sA p.sn p.sc, .slice p.lA p.ln p.lc, .slice p.rA p.rn p.rc] 26)).alloc (.cells #[.slice s.closed.A s.closed.n s.closed.c, .slice s.locked.A s.locked.n s.locked.c, .slice s.badLink.A s.badLink.n s.badLink.c, .slice s.on.A s.on.n s.on.c, .slice s.badSource.A s.badSource.n s.badSource.c, .slice s.earthed.A s.earthed.n s.earthed.c, .slice s.badBus.A s.badBus.n s.badBus.c] 29)) B b
    rwa [hW0] at h
  have JW := Lib.hid JW1
  have cu := BoolB.cell hBB (i := b) (x := false) (by simp [noB, hb])
  have fu := Blk.frozen hBB b
  have hb0 : (0 : Int) ≤ (b : Int) := by omega
  have hbn : (b : Int) < (B : Int) := by omega
  have HLO0 := Lib.hid LO0
  have HW0 := Lib.hid hW0
  clear hBB JW0 JW1 LO0 hW0
  unfold Plt.val Stt.val
  rw [eB]
  go_enter Tryz.func66, Tryz.ntmps66
  go_wp2
  clear m1 cu fu
  obtain ⟨W0, hW0⟩ : ∃ z, ((w.alloc (.cells #[.int .i64 (B : Int), .slice p.sA p.sn p.sc, .slice p.lA p.ln p.lc, .slice p.rA p.rn p.rc] 26)).alloc (.cells #[.slice s.closed.A s.closed.n s.closed.c, .slice s.locked.A s.locked.n s.locked.c, .slice s.badLink.A s.badLink.n s.badLink.c, .slice s.on.A s.on.n s.on.c, .slice s.badSource.A s.badSource.n s.badSource.c, .slice s.earthed.A s.earthed.n s.earthed.c, .slice s.badBus.A s.badBus.n s.badBus.c] 29)) = z := ⟨_, rfl⟩
  rw [hW0] at HLO0 JW HW0 ⊢
  clear hW0
  obtain ⟨g, hg⟩ : ∃ x, w.heap.size + 1 + 1 = x := ⟨_, rfl⟩
  rw [hg] at JW HW0 ⊢
  have gle : W0.heap.size ≤ g := Nat.le_of_eq HW0.out
  have gle2 : w.heap.size ≤ g := by omega
  clear hg HW0
  obtain ⟨V0, hV0⟩ : ∃ V, (noB B).set b true = V := ⟨_, rfl⟩
  have hV0l : V0.length = B := by rw [← hV0]; simp [noB]
  have hVR : Hid (reachL s L p.ln b = rounds (conds s) L p.ln V0 B) := by rw [← hV0]; rfl
  rw [hV0] at JW
  clear hV0
  go_loopw [8] (fun i wr => ∃ m : Nat, m ≤ B ∧ i = .int .i64 m ∧ Hid (MR W0 g (rounds (conds s) L p.ln V0 m) wr)) (fun i _ => B - (intOf i).toNat)
  case atStart => exact ⟨0, by omega, rfl, JW⟩
  case round =>
    clear JW
    obtain ⟨m, hm, rfl, HK⟩ := hrel
    have LOr := HLO0.out.next HK.out.l0
    obtain ⟨p0, p1, p2, p3⟩ := LOr.pc
    rw [eB] at p0
    clear LOr p1 p2 p3
    by_cases hlt : m < B
    · obtain ⟨Vm, hVm⟩ : ∃ V, rounds (conds s) L p.ln V0 m = V := ⟨_, rfl⟩
      have hVml : Vm.length = B := by rw [← hVm, rounds_length, hV0l]
      have hsucc : rounds (conds s) L p.ln V0 (m + 1) = relaxTo (conds s) L Vm p.ln := by rw [← hVm]; rfl
      rw [hVm] at HK
      have hm0 : (0 : Int) ≤ (m : Int) := by omega
      have hmn : (m : Int) < (B : Int) := by omega
      clear hVm
      go_wp2
      clear p0
      obtain ⟨wr0, e0⟩ : ∃ x, x = wr := ⟨wr, rfl⟩
      subst e0
      have HSU := Lib.hid hsucc
      clear hsucc
      go_loopw [9] (fun i wr => ∃ k : Nat, k ≤ p.ln ∧ i = .int .i64 k ∧ Hid (MR W0 g (relaxTo (conds s) L Vm k) wr)) (fun i _ => p.ln - (intOf i).toNat)
      case atStart => exact ⟨0, by omega, rfl, HK⟩
      case round =>
        clear HK
        obtain ⟨k, hk, rfl, HI⟩ := hrel
        have HLr := Lib.hid (HLO0.out.next HI.out.l0)
        have P2 := HLr.out.pc.2.2.1
        by_cases hkl : k < p.ln
        · obtain ⟨b', off, x', e1, hb', hx, hcx⟩ := HLr.out.plt.lnk.at_ hkl
          rw [HS.out.lnks] at hx
          obtain ⟨y, hy⟩ : ∃ y, L[k]? = some y := by
            rw [List.getElem?_map] at hx
            cases h : L[k]? with
            | none => rw [h] at hx; cases hx
            | some y => exact ⟨y, rfl⟩
          rw [List.getElem?_map, hy] at hx
          simp only [Option.map_some, Option.some.injEq] at hx
          subst hx
          rw [e1] at P2
          obtain ⟨⟨x, hxa, hxb⟩, rfl⟩ : ∃ z, z = y := ⟨_, rfl⟩
          dsimp only at hcx
          obtain ⟨d0, d1, d2, d3, d4, d5⟩ := Lnk.cells hcx
          have hk0 : (0 : Int) ≤ (k : Int) := by omega
          have hkn : (k : Int) < (p.ln : Int) := by omega
          obtain ⟨xa0, xa1⟩ := hxa
          obtain ⟨xb0, xb1⟩ := hxb
          have HY := Lib.hid hy
          have HE1 := Lib.hid e1
          clear e1 hcx hy
          obtain ⟨Vk, hVk⟩ : ∃ V, relaxTo (conds s) L Vm k = V := ⟨_, rfl⟩
          have hVkl : Vk.length = B := by rw [← hVk, relaxTo_length, hVml]
          have hstep : Hid (relaxTo (conds s) L Vm (k + 1) = if conds s k x then relax1 Vk x.a.toNat x.b.toNat else Vk) := by
            show relaxTo (conds s) L Vm (k + 1) = _
            rw [← hVk]
            conv => lhs; unfold relaxTo
            rw [HY.out]
          rw [hVk] at HI
          obtain ⟨ka, hka⟩ : ∃ u, Vk[x.a.toNat]? = some u := ⟨_, List.getElem?_eq_getElem (by omega)⟩
          obtain ⟨kb, hkb⟩ : ∃ u, Vk[x.b.toNat]? = some u := ⟨_, List.getElem?_eq_getElem (by omega)⟩
          obtain ⟨cv, hcv⟩ : ∃ u, conds s k x = u := ⟨_, rfl⟩
          have hstep2 : Hid (relaxTo (conds s) L Vm (k + 1) = if cv && (ka || kb) then (Vk.set x.a.toNat true).set x.b.toNat true else Vk) := by
            have h : relaxTo (conds s) L Vm (k + 1) = if conds s k x then relax1 Vk x.a.toNat x.b.toNat else Vk := hstep
            show relaxTo (conds s) L Vm (k + 1) = _
            rw [h, hcv]
            unfold relax1 mk
            rw [hka, hkb]
            cases cv <;> cases ka <;> cases kb <;> rfl
          have CDk := Lib.hid (fun W hp hs => refConducts_any p s B L HS.out k _ HY.out W hp hs)
          unfold Plt.val Stt.val at CDk
          rw [eB, HE1.out] at CDk
          dsimp only at CDk
          rw [hcv] at CDk
          obtain ⟨p0, p1, p2, p3⟩ := HLr.out.pc
          obtain ⟨s0, s1, s2, s3, s4, s5, s6⟩ := sBox_cells HLr.out.bs
          rw [eB] at p0
          rw [HE1.out] at p2
          clear hstep hVk hcv P2
          have hbx : wr.heap.size ≠ g := Nat.ne_of_gt (Blk.lt HI.out.b1)
          have zq0 : w.heap.size < wr.heap.size := HLr.out.bp.lt
          have zq1 : w.heap.size + 1 < wr.heap.size := HLr.out.bs.lt
          go_wp2_with fail
          refine (CDk.out _ (HLr.out.alloc _).plt (HLr.out.alloc _).stt).mono ?_
          rintro e w5 ⟨rfl, hB5⟩
          have HX5 : Blk w5 wr.heap.size 73 #[.int .i64 x.a, .int .i64 x.b, .int .i64 x.kind, .int .i64 x.most, .int .i64 x.ohm, .slice x.tA x.tn x.tc] := Blk.below (heap_alloc_new wr _) hB5 (by simp)
          have HI5 := Lib.hid ((HI.out.alloc _).next hB5)
          have X0 : w5.cell? ⟨wr.heap.size, 0, none⟩ = some (.int .i64 x.a) := HX5.cell 0
          have X1 : w5.cell? ⟨wr.heap.size, 1, none⟩ = some (.int .i64 x.b) := HX5.cell 1
          have Y2 := HI5.out.b1.cell hka
          have Y3 := HI5.out.b1.cell hkb
          have F2 := Blk.frozen HI5.out.b1 x.a.toNat
          have J1 := HI5.out.set_ gle x.a.toNat true
          have J2 := J1.set_ gle x.b.toNat true
          have X2 : (w5.setCell ⟨g, x.a.toNat, none⟩ (.bool true)).cell? ⟨wr.heap.size, 1, none⟩ = some (.int .i64 x.b) := cell_far X1 hbx
          obtain ⟨u, hu⟩ : ∃ u, (Vk.set x.a.toNat true)[x.b.toNat]? = some u := ⟨_, List.getElem?_eq_getElem (by rw [List.length_set]; omega)⟩
          have Y4 := J1.b1.cell hu
          have F4 := Blk.frozen J1.b1 x.b.toNat
          have HJ2 := Lib.hid J2
          clear hB5 HX5 HI HLr CDk p0 p1 p2 p3 s0 s1 s2 s3 s4 s5 s6 d0 d1 d2 d3 d4 d5 J1 J2 hka hkb hu
          have e := hstep2.out
          cases cv
          · simp at e
            go_wp2
            go_roundw
            case rel => exact ⟨k + 1, by omega, by go_num, by rw [hstep2.out]; simpa using HI5⟩
            case measure => simp [intOf]; omega
          · cases ka
            · cases kb
              · go_wp2
                go_roundw
                case rel => exact ⟨k + 1, by omega, by go_num, by rw [hstep2.out]; simpa using HI5⟩
                case measure => simp [intOf]; omega
              · go_wp2
                go_roundw
                case rel => exact ⟨k + 1, by omega, by go_num, by rw [hstep2.out]; simpa using HJ2⟩
                case measure => simp [intOf]; omega
            · go_wp2
              go_roundw
              case rel => exact ⟨k + 1, by omega, by go_num, by rw [hstep2.out]; simpa using HJ2⟩
              case measure => simp [intOf]; omega
        · obtain rfl : p.ln = k := by omega
          go_wp2
          go_roundw
          case rel => exact ⟨m + 1, by omega, by go_num, by rw [HSU.out]; exact HI.out⟩
          case measure => simp [intOf]; omega
    · obtain rfl : B = m := by omega
      go_wp2
      go_ret
      exact ⟨g, rfl, below_after HK.out.l0 (Nat.le_refl _) HLO0.out.low, gle2, by rw [hVR.out]; exact HK.out.b1⟩
end Go.Proofs.YtnngdcidopaabaaGreatDoor

/- What the reference's Live, Islands and Clashes answer. Nothing here walks. -/
namespace Go.Proofs.YtnngdcidopaabaaGreatDoor
open Go.RowKit

theorem in_buses {H : List Int} {k r : Nat} {x : Int} : x ∈ busesTo H k r ↔ ∃ b : Nat, b < k ∧ H[b]? = some (r : Int) ∧ x = (b : Int) := by
  unfold busesTo
  simp only [List.mem_map, List.mem_filter, List.mem_range, decide_eq_true_eq]
  exact ⟨fun ⟨b, ⟨h1, h2⟩, h3⟩ => ⟨b, h1, h2, h3.symm⟩, fun ⟨b, h1, h2, h3⟩ => ⟨b, ⟨h1, h2⟩, h3.symm⟩⟩
theorem buses_sorted (H : List Int) (k r : Nat) : (busesTo H k r).Pairwise (· < ·) := by
  unfold busesTo
  rw [List.pairwise_map]
  exact (List.Pairwise.filter _ List.pairwise_lt_range).imp fun h => by omega
theorem home_first {H : List Int} {B r : Nat} (hH : HomesOk B H) (hr : r ∈ rootsTo H B) : (busesTo H B r)[0]? = some (r : Int) := by
  obtain ⟨h1, h2⟩ := mem_rootsTo.1 hr
  have hm : (r : Int) ∈ busesTo H B r := in_buses.2 ⟨r, h1, h2, rfl⟩
  obtain ⟨n, hn, hx⟩ := List.getElem_of_mem hm
  have hlen : 0 < (busesTo H B r).length := by omega
  rw [List.getElem?_eq_getElem hlen]
  congr 1
  obtain ⟨b, hb, hbr, e⟩ := in_buses.1 (List.getElem_mem hlen)
  have hle : (r : Int) ≤ (b : Int) := by
    rcases hH.2 b _ hbr with h | ⟨q, h3, h4, _⟩
    · omega
    · omega
  rcases Nat.eq_zero_or_pos n with rfl | hp
  · exact hx
  · have := List.pairwise_iff_getElem.1 (buses_sorted H B r) 0 n hlen hn hp
    omega
theorem home_at {B : Nat} (p : Plt) (s : Stt) (L : List (LnkOf B)) (b r : Nat) (hb : b < B) : (homeL p s L)[b]? = some (r : Int) ↔ bit s.badBus b = false ∧ rootOf (joinAll (List.range B) (condTo s L p.ln)) b = r := by
  rw [homeL_get p s L b hb]
  unfold homeAt
  simp only [Option.some.injEq]
  cases hbad : bit s.badBus b
  · simp only [Bool.false_eq_true, if_false, true_and]
    omega
  · simp
/-- Two lists of marks, joined up to n. -/
def orTo (V W : List Bool) (n : Nat) : List Bool := (List.range V.length).map fun i => if i < n then mk V i || mk W i else mk V i
theorem orTo_length (V W : List Bool) (n : Nat) : (orTo V W n).length = V.length := by simp [orTo]
theorem orTo_zero (V W : List Bool) : orTo V W 0 = V := by
  unfold orTo
  apply List.ext_getElem
  · simp
  · intro i h1 h2
    simp [mk, h2]
theorem orTo_succ (V W : List Bool) (n : Nat) : (orTo V W n).set n (mk V n || mk W n) = orTo V W (n + 1) := by
  unfold orTo
  apply List.ext_getElem
  · simp
  · intro i h1 h2
    rw [List.getElem_set]
    split
    · rename_i h
      subst h
      simp
    · simp only [List.getElem_map, List.getElem_range]
      have : i < n + 1 ↔ i < n := by omega
      simp only [this]
theorem mk_orTo (V W : List Bool) (n i : Nat) (h : i < V.length) (hn : V.length ≤ n) : mk (orTo V W n) i = (mk V i || mk W i) := by
  have h1 : (orTo V W n)[i]? = some (if i < n then mk V i || mk W i else mk V i) := by
    unfold orTo
    rw [List.getElem?_map, List.getElem?_range h]
    rfl
  show (orTo V W n)[i]?.getD false = _
  rw [h1, if_pos (by omega)]
  rfl
/-- The reference's live buses behind k sources. -/
def rliveTo {B : Nat} (s : Stt) (S : List Src) (L : List (LnkOf B)) (m : Nat) : Nat → List Bool
  | 0 => noB B
  | k + 1 => match S[k]? with
    | some x => if feeds s k x then orTo (rliveTo s S L m k) (reachL s L m x.bus.toNat) B else rliveTo s S L m k
    | none => rliveTo s S L m k
theorem rliveTo_length {B : Nat} (s : Stt) (S : List Src) (L : List (LnkOf B)) (m k : Nat) : (rliveTo s S L m k).length = B := by
  induction k with
  | zero => simp [rliveTo, noB]
  | succ k ih =>
    rw [rliveTo]
    split
    · split
      · rw [orTo_length, ih]
      · exact ih
    · exact ih
theorem rliveTo_succ {B : Nat} (s : Stt) (S : List Src) (L : List (LnkOf B)) (m k : Nat) (x : Src) (h : S[k]? = some x) : rliveTo s S L m (k + 1) = if feeds s k x then orTo (rliveTo s S L m k) (reachL s L m x.bus.toNat) B else rliveTo s S L m k := by
  rw [rliveTo, h]
theorem feeds_iff {p : Plt} {s : Stt} {k : Nat} {x : Src} (hx : p.srcs[k]? = some x) : feeds s k x = true ↔ Feeds p s k x := by
  unfold feeds Feeds
  simp [hx, Bool.and_eq_true, and_assoc]
theorem rlive_iff {p : Plt} {s : Stt} {B : Nat} {L : List (LnkOf B)} (S : Sound p s B L) (k i : Nat) (hk : k ≤ p.srcs.length) (hi : i < B) : mk (rliveTo s p.srcs L p.ln k) i = true ↔ ∃ j x, j < k ∧ Feeds p s j x ∧ Joined (condTo s L p.ln) x.bus.toNat i := by
  induction k with
  | zero =>
    constructor
    · intro h
      exfalso
      have : mk (noB B) i = false := by
        unfold mk noB
        rw [List.getElem?_replicate]
        split <;> rfl
      rw [rliveTo, this] at h
      cases h
    · rintro ⟨j, _, h, _⟩
      omega
  | succ k ih =>
    obtain ⟨x, hx⟩ : ∃ x, p.srcs[k]? = some x := ⟨_, List.getElem?_eq_getElem (by omega)⟩
    have hxb := S.srcs x (List.mem_of_getElem? hx)
    rw [rliveTo_succ s p.srcs L p.ln k x hx]
    by_cases hf : feeds s k x = true
    · rw [if_pos hf, mk_orTo _ _ _ _ (by rw [rliveTo_length]; exact hi) (by rw [rliveTo_length]; exact Nat.le_refl _), Bool.or_eq_true, ih (by omega), reachL_iff s L p.ln x.bus.toNat i (by omega)]
      constructor
      · rintro (⟨j, y, h1, h2⟩ | h)
        · exact ⟨j, y, by omega, h2⟩
        · exact ⟨k, x, by omega, (feeds_iff hx).1 hf, h⟩
      · rintro ⟨j, y, h1, h2, h3⟩
        rcases Nat.lt_or_ge j k with h | h
        · exact .inl ⟨j, y, h, h2, h3⟩
        · obtain rfl : j = k := by omega
          obtain rfl : x = y := by have := h2.1; rw [hx] at this; exact Option.some.inj this
          exact .inr h3
    · rw [if_neg hf, ih (by omega)]
      constructor
      · rintro ⟨j, y, h1, h2⟩
        exact ⟨j, y, by omega, h2⟩
      · rintro ⟨j, y, h1, h2, h3⟩
        rcases Nat.lt_or_ge j k with h | h
        · exact ⟨j, y, h, h2, h3⟩
        · obtain rfl : j = k := by omega
          obtain rfl : x = y := by have := h2.1; rw [hx] at this; exact Option.some.inj this
          exact absurd ((feeds_iff hx).2 h2) hf
theorem getElem?_mk {V : List Bool} {i : Nat} (h : i < V.length) : V[i]? = some (mk V i) := by
  unfold mk
  rw [List.getElem?_eq_getElem h]
  rfl
/-- THE REFERENCE's LIVE BUSES ARE THE PROGRAM's. -/
theorem rlive_is {p : Plt} {s : Stt} {B : Nat} {L : List (LnkOf B)} (S : Sound p s B L) (hsn : p.srcs.length = p.sn) : rliveTo s p.srcs L p.ln p.sn = liveL p s L := by
  apply List.ext_getElem?
  intro i
  rcases Nat.lt_or_ge i B with hi | hi
  · have h1 := rlive_iff S p.sn i (by omega) hi
    have h2 := live_iff S hsn i hi
    have e1 := getElem?_mk (V := rliveTo s p.srcs L p.ln p.sn) (i := i) (by rw [rliveTo_length]; exact hi)
    have e2 := getElem?_mk (V := liveL p s L) (i := i) (by rw [liveL_length]; exact hi)
    rw [e1, e2]
    congr 1
    rw [e2] at h2
    simp only [Option.some.injEq] at h2
    rw [Bool.eq_iff_iff, h1, h2]
    constructor
    · rintro ⟨j, x, h3, h4, h5⟩
      refine ⟨?_, j, x, h4, h5⟩
      rcases conn_good h5 with e | e
      · rw [← e]; exact h4.2.2.2
      · exact e.2
    · rintro ⟨_, j, x, h4, h5⟩
      refine ⟨j, x, ?_, h4, h5⟩
      have := (List.getElem?_eq_some_iff.1 h4.1).1
      omega
  · rw [List.getElem?_eq_none (by rw [rliveTo_length]; exact hi), List.getElem?_eq_none (by rw [liveL_length]; exact hi)]
/-- What can be reached from a bus, in order. -/
def rbusTo {B : Nat} (s : Stt) (L : List (LnkOf B)) (m b n : Nat) : List Int := ((List.range n).filter fun c => mk (reachL s L m b) c).map fun c : Nat => (c : Int)
theorem rbusTo_succ {B : Nat} (s : Stt) (L : List (LnkOf B)) (m b n : Nat) : rbusTo s L m b (n + 1) = rbusTo s L m b n ++ if mk (reachL s L m b) n then [(n : Int)] else [] := by
  unfold rbusTo
  rw [List.range_succ, List.filter_append, List.map_append]
  congr 1
  cases h : mk (reachL s L m b) n <;> simp [h]
/-- The sources that feed what can be reached from a bus, in order. -/
def rsrcTo {B : Nat} (s : Stt) (S : List Src) (L : List (LnkOf B)) (m b : Nat) : Nat → List Int
  | 0 => []
  | k + 1 => rsrcTo s S L m b k ++ match S[k]? with
    | some x => if feeds s k x && mk (reachL s L m b) x.bus.toNat then [(k : Int)] else []
    | none => []
theorem rsrcTo_succ {B : Nat} (s : Stt) (S : List Src) (L : List (LnkOf B)) (m b k : Nat) (x : Src) (h : S[k]? = some x) : rsrcTo s S L m b (k + 1) = rsrcTo s S L m b k ++ if feeds s k x && mk (reachL s L m b) x.bus.toNat then [(k : Int)] else [] := by
  rw [rsrcTo, h]
/-- For a bus that has not failed: it reaches its island. -/
theorem reach_home {p : Plt} {s : Stt} {B : Nat} {L : List (LnkOf B)} {b r : Nat} (hb : b < B) (h : (homeL p s L)[b]? = some (r : Int)) (c : Nat) (hc : c < B) : mk (reachL s L p.ln b) c = true ↔ (homeL p s L)[c]? = some (r : Int) := by
  obtain ⟨h1, h2⟩ := (home_at p s L b r hb).1 h
  rw [reachL_iff s L p.ln b c hb, home_at p s L c r hc, ← root_joined, h2]
  constructor
  · intro h3
    refine ⟨?_, h3.symm⟩
    rw [← h2] at h3
    rcases conn_good ((root_joined _ _ _).1 h3) with e | e
    · rw [← e]; exact h1
    · exact e.2
  · exact fun h3 => h3.2.symm
theorem rbus_is {p : Plt} {s : Stt} {B : Nat} {L : List (LnkOf B)} {b r : Nat} (hb : b < B) (h : (homeL p s L)[b]? = some (r : Int)) : rbusTo s L p.ln b B = busesTo (homeL p s L) B r := by
  unfold rbusTo busesTo
  congr 1
  apply List.filter_congr
  intro c hc
  rw [Bool.eq_iff_iff, reach_home hb h c (List.mem_range.1 hc), decide_eq_true_iff]
theorem rsrc_is {p : Plt} {s : Stt} {B : Nat} {L : List (LnkOf B)} (S : Sound p s B L) {b r : Nat} (hb : b < B) (h : (homeL p s L)[b]? = some (r : Int)) (k : Nat) (hk : k ≤ p.srcs.length) : rsrcTo s p.srcs L p.ln b k = srcsOf (feedTo (B := B) s p.srcs (homeL p s L) k) r := by
  induction k with
  | zero => rfl
  | succ k ih =>
    obtain ⟨x, hx⟩ : ∃ x, p.srcs[k]? = some x := ⟨_, List.getElem?_eq_getElem (by omega)⟩
    have hxb := S.srcs x (List.mem_of_getElem? hx)
    have hxB : x.bus.toNat < B := by omega
    rw [rsrcTo_succ s p.srcs L p.ln b k x hx, ih (by omega), feedTo]
    unfold srcsOf
    rw [List.filter_append, List.map_append]
    congr 1
    have hm := reach_home hb h x.bus.toNat hxB
    rw [home_at p s L x.bus.toNat r hxB] at hm
    have hH := homeL_get p s L x.bus.toNat hxB
    unfold feedAt
    rw [hx]
    dsimp only
    rw [hH]
    simp only [Option.getD_some]
    unfold feeds
    cases h1 : bit s.on k
    · simp
    · cases h2 : bit s.badSource k
      · simp only [Bool.true_and, Bool.not_false, if_true]
        cases h3 : bit s.badBus x.bus.toNat
        · have e := isl_home (B := B) (joinAll (List.range B) (condTo s L p.ln)) s x.bus.toNat ⟨rootOf (joinAll (List.range B) (condTo s L p.ln)) x.bus.toNat, Nat.lt_of_le_of_lt (rootOf_le _ _) hxB⟩ hxB
          rw [e.2 ⟨h3, rfl⟩]
          rw [h3] at hm
          simp only [true_and] at hm
          by_cases h4 : rootOf (joinAll (List.range B) (condTo s L p.ln)) x.bus.toNat = r
          · simp [hm.2 h4, h4]
          · have : mk (reachL s L p.ln b) x.bus.toNat = false := by
              cases h5 : mk (reachL s L p.ln b) x.bus.toNat
              · rfl
              · exact absurd (hm.1 h5) h4
            simp [this, h4]
        · have : isl B (homeAt (joinAll (List.range B) (condTo s L p.ln)) s x.bus.toNat) = none := by
            unfold homeAt
            rw [h3, if_pos rfl]
            exact isl_none B
          simp [this]
      · simp
/-- The reference's islands behind b buses. -/
def rislTo {B : Nat} (p : Plt) (s : Stt) (L : List (LnkOf B)) : Nat → List (List Int × List Int)
  | 0 => []
  | b + 1 => rislTo p s L b ++ if bit s.badBus b = false ∧ (rbusTo s L p.ln b B)[0]? = some (b : Int) then [(rbusTo s L p.ln b B, rsrcTo s p.srcs L p.ln b p.sn)] else []
theorem risl_is {p : Plt} {s : Stt} {B : Nat} {L : List (LnkOf B)} (S : Sound p s B L) (hsn : p.srcs.length = p.sn) (k : Nat) (hk : k ≤ B) : rislTo p s L k = (rootsTo (homeL p s L) k).map fun r => (busesTo (homeL p s L) B r, srcsOf (feedTo (B := B) s p.srcs (homeL p s L) p.sn) r) := by
  induction k with
  | zero => rfl
  | succ k ih =>
    rw [rislTo, ih (by omega), rootsTo_succ, List.map_append]
    congr 1
    have hkB : k < B := by omega
    by_cases hbad : bit s.badBus k = false
    · have h1 := (home_at p s L k _ hkB).2 ⟨hbad, rfl⟩
      obtain ⟨r, hr⟩ : ∃ r, rootOf (joinAll (List.range B) (condTo s L p.ln)) k = r := ⟨_, rfl⟩
      rw [hr] at h1
      have hroot : r ∈ rootsTo (homeL p s L) B := by
        rcases (homesOk p s L).2 k _ h1 with e | ⟨q, h2, h3, h4⟩
        · omega
        · obtain rfl : q = r := by omega
          exact mem_rootsTo.2 ⟨by omega, h4⟩
      have e1 := rbus_is hkB h1
      have e2 := rsrc_is S hkB h1 p.sn (by omega)
      have e3 := home_first (homesOk p s L) hroot
      rw [e1, e2, e3]
      by_cases hkr : r = k
      · subst hkr
        simp [hbad, h1]
      · have c1 : ¬ (some ((r : Nat) : Int) = some (k : Int)) := by simp; omega
        rw [if_neg (fun h => c1 h.2), if_neg (by rw [h1]; exact c1)]
        rfl
    · have h1 : (homeL p s L)[k]? = some (-1) := by
        rw [homeL_get p s L k hkB]
        unfold homeAt
        rw [if_pos (by simpa using hbad)]
      rw [if_neg (fun h => hbad h.1), if_neg (by rw [h1]; simp)]
      rfl
end Go.Proofs.YtnngdcidopaabaaGreatDoor
