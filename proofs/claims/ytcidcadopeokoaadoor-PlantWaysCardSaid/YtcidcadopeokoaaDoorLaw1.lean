/- The law's conducts. -/
import Derived.Test.YtcidcadopeokoaaDoorCopy
namespace Go.Proofs.YtcidcadopeokoaaDoor
open Go.RowKit Go.Shelf

set_option maxRecDepth 100000 in
set_option maxHeartbeats 4000000 in
theorem conducts_any (p : Plt) (s : Stt) (B : Nat) (L : List (LnkOf B)) (S : Sound p s B L) (k : Nat) (y : LnkOf B) (hy : L[k]? = some y) (w : World) (hp : PltIn w w.heap.size p) (hs : SttIn w w.heap.size s) :
    Calls Tryd.prog 10 #[p.val, s.val, .int .i64 k] w fun e w' => e = .returned (.bool (conds s k y.1)) ∧ Below w.heap.size w w' := by
  have hlt : k < p.ln := by
    rw [← hp.lnk.1, S.lnks, List.length_map]
    exact (List.getElem?_eq_some_iff.1 hy).1
  obtain ⟨b, off, x', e1, hb, hx, hcx⟩ := hp.lnk.at_ hlt
  rw [S.lnks, List.getElem?_map, hy] at hx
  simp only [Option.map_some, Option.some.injEq] at hx
  subst hx
  obtain ⟨⟨x, hxa, hxb⟩, rfl⟩ : ∃ z, z = y := ⟨_, rfl⟩
  dsimp only at hcx
  obtain ⟨d0, d1, d2, d3, d4, d5⟩ := Lnk.cells hcx
  have hlen := S.lens
  obtain ⟨g0, o0, a0, v0, r0⟩ := hs.closed.at_ (k := k) (by rw [hlen.closed]; exact hlt)
  obtain ⟨g2, o2, a2, v2, r2⟩ := hs.badLink.at_ (k := k) (by rw [hlen.badLink]; exact hlt)
  obtain ⟨g6, o6, a6, v6, r6⟩ := hs.badBus.at_ (k := x.a.toNat) (by rw [hlen.badBus]; omega)
  obtain ⟨g7, o7, a7, v7, r7⟩ := hs.badBus.at_ (k := x.b.toNat) (by rw [hlen.badBus]; omega)
  obtain ⟨rfl, rfl⟩ : g6 = g7 ∧ o6 = o7 := by rw [a6] at a7; simp at a7; exact a7
  have n0 := hlen.closed
  have n2 := hlen.badLink
  have n6 := hlen.badBus
  have hk0 : (0 : Int) ≤ (k : Int) := by omega
  have hkn : (k : Int) < (p.ln : Int) := by omega
  have hkc : (k : Int) < (s.closed.n : Int) := by omega
  have hkd : (k : Int) < (s.badLink.n : Int) := by omega
  obtain ⟨xa0, xa1⟩ := hxa
  obtain ⟨xb0, xb1⟩ := hxb
  have hka : x.a < (s.badBus.n : Int) := by omega
  have hkb : x.b < (s.badBus.n : Int) := by omega
  have zs : b < w.heap.size + 1 ∧ b < w.heap.size + 1 + 1 ∧ g0 < w.heap.size + 1 ∧ g0 < w.heap.size + 1 + 1 ∧ g2 < w.heap.size + 1 ∧ g2 < w.heap.size + 1 + 1 ∧ g6 < w.heap.size + 1 ∧ g6 < w.heap.size + 1 + 1 := by omega
  obtain ⟨t1, t2, t3, t4, t5, t6, t7, t8⟩ := zs
  unfold Plt.val Stt.val
  rw [e1, a0, a2, a6]
  clear n0 n2 n6
  clear hp hs hcx hlen S e1 a0 a2 a6 a7 hy
  obtain ⟨c0, hc0⟩ : ∃ c, bit s.closed k = c := ⟨_, rfl⟩
  obtain ⟨c2, hc2⟩ : ∃ c, bit s.badLink k = c := ⟨_, rfl⟩
  obtain ⟨c6, hc6⟩ : ∃ c, bit s.badBus x.a.toNat = c := ⟨_, rfl⟩
  obtain ⟨c7, hc7⟩ : ∃ c, bit s.badBus x.b.toNat = c := ⟨_, rfl⟩
  have hr : conds s k x = (c0 && !c2 && !c6 && !c7) := by simp [conds, hc0, hc2, hc6, hc7]
  rw [hc0] at r0
  rw [hc2] at r2
  rw [hc6] at r6
  rw [hc7] at r7
  dsimp only
  rw [hr]
  clear hr hc0 hc2 hc6 hc7
  go_enter Tryd.func10, Tryd.ntmps10
  cases c0
  · go_wp2
    go_ret
    exact ⟨rfl, by (repeat' (first | (with_reducible exact Below.refl _ _) | (with_reducible assumption) | (with_reducible refine below_drewN ?_ _) | (with_reducible refine below_after (by assumption) ?_ ?_) | (with_reducible refine Below.drew ?_) | (with_reducible refine Below.alloc ?_ ?_ _) | (with_reducible refine Below.setCell ?_ ?_ _) | omega | (simp; omega) | (simp; done)))⟩
  · cases c2
    · cases c6
      · cases c7
        · go_wp2
          go_ret
          exact ⟨rfl, by (repeat' (first | (with_reducible exact Below.refl _ _) | (with_reducible assumption) | (with_reducible refine below_drewN ?_ _) | (with_reducible refine below_after (by assumption) ?_ ?_) | (with_reducible refine Below.drew ?_) | (with_reducible refine Below.alloc ?_ ?_ _) | (with_reducible refine Below.setCell ?_ ?_ _) | omega | (simp; omega) | (simp; done)))⟩
        · go_wp2
          go_ret
          exact ⟨rfl, by (repeat' (first | (with_reducible exact Below.refl _ _) | (with_reducible assumption) | (with_reducible refine below_drewN ?_ _) | (with_reducible refine below_after (by assumption) ?_ ?_) | (with_reducible refine Below.drew ?_) | (with_reducible refine Below.alloc ?_ ?_ _) | (with_reducible refine Below.setCell ?_ ?_ _) | omega | (simp; omega) | (simp; done)))⟩
      · go_wp2
        go_ret
        exact ⟨rfl, by (repeat' (first | (with_reducible exact Below.refl _ _) | (with_reducible assumption) | (with_reducible refine below_drewN ?_ _) | (with_reducible refine below_after (by assumption) ?_ ?_) | (with_reducible refine Below.drew ?_) | (with_reducible refine Below.alloc ?_ ?_ _) | (with_reducible refine Below.setCell ?_ ?_ _) | omega | (simp; omega) | (simp; done)))⟩
    · go_wp2
      go_ret
      exact ⟨rfl, by (repeat' (first | (with_reducible exact Below.refl _ _) | (with_reducible assumption) | (with_reducible refine below_drewN ?_ _) | (with_reducible refine below_after (by assumption) ?_ ?_) | (with_reducible refine Below.drew ?_) | (with_reducible refine Below.alloc ?_ ?_ _) | (with_reducible refine Below.setCell ?_ ?_ _) | omega | (simp; omega) | (simp; done)))⟩
end Go.Proofs.YtcidcadopeokoaaDoor
