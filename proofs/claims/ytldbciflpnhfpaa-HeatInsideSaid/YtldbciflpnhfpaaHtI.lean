/- heat: a second's walls. -/
import Derived.Test.YtldbciflpnhfpaaHtH

set_option linter.unusedSimpArgs false
set_option linter.unusedVariables false
namespace Go.Proofs.Ytldbciflpnhfpaa
open Go.RowKit

def Hl.wl (h : Hl) (i : Nat) : Wal := h.walls.getD i ⟨0, 0, 0⟩
/-- What a wall brings to a room. -/
def wlV (t : List Int) (out : Int) (x : Wal) (j : Nat) : Int :=
  if x.b = -1 then (if x.a = (j : Int) then x.p * (out - t.getD x.a.toNat 0) else 0)
  else (if x.a = (j : Int) then x.p * (t.getD x.b.toNat 0 - t.getD x.a.toNat 0) else 0) - (if x.b = (j : Int) then x.p * (t.getD x.b.toNat 0 - t.getD x.a.toNat 0) else 0)
def wlS (h : Hl) (t : List Int) (out : Int) (j : Nat) : Nat → Int
  | 0 => 0
  | k + 1 => wlS h t out j k + wlV t out (h.wl k) j
theorem mul_bd {p d : Int} (hp : 0 ≤ p ∧ p ≤ 100000) (hd : -1000000 ≤ d ∧ d ≤ 1000000) : -100000000000 ≤ p * d ∧ p * d ≤ 100000000000 := by
  have h1 : p * d ≤ p * 1000000 := Int.mul_le_mul_of_nonneg_left hd.2 hp.1
  have h2 : p * (-1000000) ≤ p * d := Int.mul_le_mul_of_nonneg_left hd.1 hp.1
  have h3 : p * (-1000000) = -(p * 1000000) := Int.mul_neg ..
  omega
theorem t_bd {t : List Int} (h : ∀ x ∈ t, 0 ≤ x ∧ x ≤ 1000000) (i : Nat) : 0 ≤ t.getD i 0 ∧ t.getD i 0 ≤ 1000000 := by
  rw [List.getD_eq_getElem?_getD]
  by_cases hi : i < t.length
  · rw [List.getElem?_eq_getElem hi]
    exact h _ (List.getElem_mem hi)
  · rw [List.getElem?_eq_none (by omega)]
    simp
theorem wlV_bd {t : List Int} {out : Int} {x : Wal} (ht : ∀ x ∈ t, 0 ≤ x ∧ x ≤ 1000000) (ho : 0 ≤ out ∧ out ≤ 1000000) (hp : 0 ≤ x.p ∧ x.p ≤ 100000) (j : Nat) : -200000000000 ≤ wlV t out x j ∧ wlV t out x j ≤ 200000000000 := by
  have h1 := t_bd ht x.a.toNat
  have h2 := t_bd ht x.b.toNat
  have h3 := mul_bd (d := out - t.getD x.a.toNat 0) hp (by omega)
  have h4 := mul_bd (d := t.getD x.b.toNat 0 - t.getD x.a.toNat 0) hp (by omega)
  unfold wlV
  split
  · split <;> omega
  · split <;> split <;> omega
theorem wlS_bd {h : Hl} (ok : HlOk h) {t : List Int} {out : Int} (ht : ∀ x ∈ t, 0 ≤ x ∧ x ≤ 1000000) (ho : 0 ≤ out ∧ out ≤ 1000000) (j : Nat) : ∀ k, k ≤ h.walls.length → -(200000000000 * (k : Int)) ≤ wlS h t out j k ∧ wlS h t out j k ≤ 200000000000 * k := by
  intro k
  induction k with
  | zero => intro _; simp [wlS]
  | succ k ih =>
    intro hk
    have h1 := ih (by omega)
    have hm : h.wl k ∈ h.walls := by unfold Hl.wl; rw [List.getD_eq_getElem?_getD, List.getElem?_eq_getElem (by omega)]; exact List.getElem_mem _
    have h2 := wlV_bd ht ho (ok.wal _ hm).2.2 j
    simp only [wlS]
    omega
def w5Phi (hb xb bx tb to rn tc a : Nat) (y p out ta D G : Int) (L2 : List Int) : Nat → Value → World → (Nat → Nat) → Prop
  | 0, v, _, _ => v = .slice (some ⟨hb, 0, none⟩) rn rn
  | 1, v, _, _ => v = .pointer (some ⟨xb, 0, none⟩)
  | 2, v, _, _ => v = .int .i64 (a : Int)
  | 3, v, _, _ => v = .pointer (some ⟨hb, a, none⟩)
  | 4, v, _, _ => v = .int .i64 y
  | 5, v, _, _ => v = .pointer (some ⟨xb, 2, none⟩)
  | 6, v, _, _ => v = .int .i64 p
  | 7, v, _, _ => v = .pointer (some ⟨bx, 4, none⟩)
  | 8, v, _, _ => v = .pointer (some ⟨bx, 5, none⟩)
  | 9, v, _, _ => v = .int .i64 out
  | 10, v, _, _ => v = .pointer (some ⟨bx, 7, none⟩)
  | 11, v, _, _ => v = .slice (some ⟨tb, to, none⟩) rn tc
  | 12, v, _, _ => v = .pointer (some ⟨xb, 0, none⟩)
  | 13, v, _, _ => v = .int .i64 (a : Int)
  | 14, v, _, _ => v = .pointer (some ⟨tb, to + a, none⟩)
  | 15, v, _, _ => v = .int .i64 ta
  | 16, v, _, _ => v = .int .i64 D
  | 17, v, _, _ => v = .int .i64 G
  | 18, v, _, _ => v = .int .i64 (y + G)
  | 19, v, _, _ => v = .pointer (some ⟨hb, a, none⟩)
  | 20, _, W, _ => Blk W hb 3 (intsA L2)
  | _, _, _, _ => True
theorem w5Phi_w {hb xb bx tb to rn tc a : Nat} {y p out ta D G : Int} {L2 : List Int} {j : Nat} {v : Value} {W W' : World} {γ γ' : Nat → Nat} (hl : j ≠ 20) (hq : w5Phi hb xb bx tb to rn tc a y p out ta D G L2 j v W γ) : w5Phi hb xb bx tb to rn tc a y p out ta D G L2 j v W' γ' := by
  unfold w5Phi at hq ⊢
  split at hq <;> first | exact hq | exact absurd rfl hl | trivial
def w6Phi (xb bx tb to rn tc a b : Nat) (p ta tv D G : Int) : Nat → Value → World → (Nat → Nat) → Prop
  | 0, v, _, _ => v = .pointer (some ⟨xb, 2, none⟩)
  | 1, v, _, _ => v = .int .i64 p
  | 2, v, _, _ => v = .pointer (some ⟨bx, 7, none⟩)
  | 3, v, _, _ => v = .slice (some ⟨tb, to, none⟩) rn tc
  | 4, v, _, _ => v = .pointer (some ⟨xb, 1, none⟩)
  | 5, v, _, _ => v = .int .i64 (b : Int)
  | 6, v, _, _ => v = .pointer (some ⟨tb, to + b, none⟩)
  | 7, v, _, _ => v = .int .i64 tv
  | 8, v, _, _ => v = .pointer (some ⟨bx, 7, none⟩)
  | 9, v, _, _ => v = .slice (some ⟨tb, to, none⟩) rn tc
  | 10, v, _, _ => v = .pointer (some ⟨xb, 0, none⟩)
  | 11, v, _, _ => v = .int .i64 (a : Int)
  | 12, v, _, _ => v = .pointer (some ⟨tb, to + a, none⟩)
  | 13, v, _, _ => v = .int .i64 ta
  | 14, v, _, _ => v = .int .i64 D
  | 15, v, _, _ => v = .int .i64 G
  | 16, v, _, _ => v = .int .i64 G
  | _, _, _, _ => True
theorem w6Phi_w {xb bx tb to rn tc a b : Nat} {p ta tv D G : Int} {j : Nat} {v : Value} {W W' : World} {γ γ' : Nat → Nat} (hq : w6Phi xb bx tb to rn tc a b p ta tv D G j v W γ) : w6Phi xb bx tb to rn tc a b p ta tv D G j v W' γ' := by
  unfold w6Phi at hq ⊢
  split at hq <;> first | exact hq | trivial
set_option maxRecDepth 100000 in
set_option maxHeartbeats 4000000 in
theorem walls_any (rA wA bA cA lA tA : Option Addr) (rn rc wn wc bn bc cn cc lc tc : Nat) (out pump : Int) (hb : Nat) (h : Hl) (t H : List Int) (M : Int) (w : World) (hin : HlIn w hb ⟨rA, wA, bA, cA, rn, wn, bn, cn⟩ h) (ok : HlOk h) (ho : 0 ≤ out ∧ out ≤ 1000000) (ht : Rd w hb 1 encI tA rn t) (htb : ∀ x ∈ t, 0 ≤ x ∧ x ≤ 1000000) (hH : Blk w hb 3 (intsA H)) (hHn : H.length = rn) (hM : M ≤ 1000000000000000) (hHb : ∀ j, -M ≤ H.getD j 0 ∧ H.getD j 0 ≤ M) :
    Calls Try.prog 77 #[.agg #[.slice rA rn rc, .slice wA wn wc, .slice bA bn bc, .slice cA cn cc, .slice lA rn lc, .int .i64 out, .int .i64 pump, .slice tA rn tc], .slice (some ⟨hb, 0, none⟩) rn rn] w fun e w' => e = .returned (.tuple #[]) ∧ Keep (fun i => i = hb) w w' ∧ ∃ L, Blk w' hb 3 (intsA L) ∧ L.length = rn ∧ ∀ j, j < rn → L.getD j 0 = H.getD j 0 + wlS h t out j wn := by
  have HH := Lib.hid hH
  have HHN := Lib.hid hHn
  have HM := Lib.hid hM
  have HHB := Lib.hid hHb
  have OK := Lib.hid ok
  have HO := Lib.hid ho
  have HWL := Lib.hid hin.wl
  have HTT := Lib.hid ht
  have HTB := Lib.hid (fun i => t_bd htb i)
  have HWB := Lib.hid (fun j k hk => wlS_bd ok htb ho j k hk)
  have HRN : Hid (h.rooms.length = rn) := Lib.hid hin.rm.1
  have HWN : Hid (h.walls.length = wn) := Lib.hid hin.wl.1
  have hw16 : wn ≤ 16 := by rw [← HWN.out]; exact ok.w16
  have hn8 : rn ≤ 8 := by rw [← HRN.out]; exact ok.n8
  have hn1 : 1 ≤ rn := by rw [← HRN.out]; exact ok.n1
  obtain ⟨tb, to', t0, e0, htb0, _, _⟩ := ht.at_ (show 0 < rn by omega)
  subst e0
  have HTL : Hid (tb < hb) := Lib.hid htb0
  have g1 : w.heap.size < w.heap.size + 1 := by omega
  clear hin ok ho ht htb hH hHn hM hHb htb0
  go_enter Try.func77, Try.ntmps77
  go_wp2_with fail
  obtain ⟨bx, hbx⟩ : ∃ z, z = w.heap.size := ⟨_, rfl⟩
  obtain ⟨w1, hw1⟩ : ∃ z, z = w.alloc (.cells #[.slice rA rn rc, .slice wA wn wc, .slice bA bn bc, .slice cA cn cc, .slice lA rn lc, .int .i64 out, .int .i64 pump, .slice (some ⟨tb, to', none⟩) rn tc] 110) := ⟨_, rfl⟩
  have hBa : Below w.heap.size w w1 := by rw [hw1]; exact (Below.refl _ _).alloc (Nat.le_refl _) _
  have BX : Hid (Blk w1 bx 110 #[.slice rA rn rc, .slice wA wn wc, .slice bA bn bc, .slice cA cn cc, .slice lA rn lc, .int .i64 out, .int .i64 pump, .slice (some ⟨tb, to', none⟩) rn tc]) := Lib.hid (by rw [hw1, hbx]; exact heap_alloc_new w _)
  have HN1 : Hid (hb < bx) := Lib.hid (by rw [hbx]; exact HH.out.lt)
  rw [← hw1, ← hbx]
  have HS : Hid (Keep (fun i => i = hb) w w1 ∧ Blk w1 hb 3 (intsA H)) := Lib.hid ⟨Keep.of_below hBa, HH.out.below hBa HH.out.lt⟩
  clear hw1 hBa g1 hbx
  go_loopw [11] (fun i wr => ∃ k : Nat, k ≤ wn ∧ i = .int .i64 ((k : Nat) : Int) ∧ ∃ L, Hid (Keep (fun i => i = hb) w1 wr ∧ Blk wr hb 3 (intsA L) ∧ L.length = rn ∧ ∀ j, j < rn → L.getD j 0 = H.getD j 0 + wlS h t out j k)) (fun i _ => wn - (intOf i).toNat)
  case atStart => exact ⟨0, by omega, rfl, H, Lib.hid ⟨Keep.refl _ _, HS.out.2, HHN.out, fun j _ => by simp [wlS]⟩⟩
  case round =>
    obtain ⟨k, hk, rfl, L, HW⟩ := hrel
    by_cases hlt : k < wn
    · have HKW := Lib.hid (HS.out.1.trans HW.out.1)
      have hcell : ∀ p : Addr, p.block < hb → wr.cell? p = w.cell? p := fun p hp => World.cell?_of_block (HKW.out.block p.block (by have := HH.out.lt; omega) (by omega))
      have HTW := Lib.hid (HTT.out.keep (w' := wr) hcell)
      obtain ⟨b0, off, x, e1, hb9, hx, hcx⟩ := (HWL.out.keep (w' := wr) hcell).at_ hlt
      subst e1
      obtain ⟨c0, c1, c2⟩ := Wal.cells hcx
      have zb := block_of_cell c0
      dsimp only at zb
      have hk0 : (0 : Int) ≤ (k : Int) := by omega
      have hkn : (k : Int) < (wn : Int) := by omega
      have g1 : wr.heap.size < wr.heap.size + 1 := by omega
      have h1 := OK.out.wal x (List.mem_of_getElem? hx)
      have hwl : h.wl k = x := by unfold Hl.wl; rw [List.getD_eq_getElem?_getD, hx]; rfl
      have HST : Hid (∀ j, wlS h t out j (k + 1) = wlS h t out j k + wlV t out x j) := Lib.hid (fun j => by simp only [wlS, hwl])
      obtain ⟨xa, bv, p⟩ := x
      dsimp only at h1 c0 c1 c2
      obtain ⟨a, rfl⟩ : ∃ u : Nat, xa = (u : Int) := ⟨xa.toNat, by omega⟩
      have hr : a < rn := by have := HRN.out; omega
      have ha0 : (0 : Int) ≤ (a : Int) := by omega
      have han : (a : Int) < (rn : Int) := by omega
      have HA : Hid (∃ ta, t.getD a 0 = ta ∧ wr.cell? ⟨tb, to' + a, none⟩ = some (.int .i64 ta)) := Lib.hid (by
        obtain ⟨b7, o7, y7, e7, hb7, hx7, hc7⟩ := HTW.out.at_ hr
        obtain ⟨rfl, rfl⟩ : tb = b7 ∧ to' = o7 := by simpa using e7
        exact ⟨y7, by rw [List.getD_eq_getElem?_getD, hx7]; rfl, cellI hc7⟩)
      obtain ⟨ta, hta, cta⟩ := HA.out
      have HTA : Hid (t.getD a 0 = ta) := Lib.hid hta
      have HCA : Hid (tb < wr.heap.size ∧ wr.cell? ⟨tb, to' + a, none⟩ = some (.int .i64 ta)) := Lib.hid ⟨block_of_cell cta, cta⟩
      obtain ⟨y, hy⟩ : ∃ z, z = L.getD a 0 := ⟨_, rfl⟩
      have h4 := HW.out.2.2.2 a hr
      rw [← hy] at h4
      have h5 := HWB.out a k (by rw [HWN.out]; omega)
      have h6 := HHB.out a
      have h7 := HM.out
      have h8 := HTB.out a
      rw [hta] at h8
      have HYY : Hid (L[a]? = some y) := Lib.hid (by rw [hy]; exact some_getD (by rw [HW.out.2.2.1]; exact hr))
      have h9 := HO.out
      obtain ⟨h10, h11, h12⟩ := h1
      rcases h11 with rfl | ⟨h13, h14⟩
      · obtain ⟨D, hD⟩ : ∃ z, z = out - ta := ⟨_, rfl⟩
        have h15 := mul_bd (d := D) h12 (by omega)
        obtain ⟨G, hG⟩ : ∃ z, z = p * D := ⟨_, rfl⟩
        rw [← hG] at h15
        have HAR : Hid (IntKind.i64.wrap (out - ta) = D ∧ IntKind.i64.wrap (p * D) = G ∧ IntKind.i64.wrap (y + G) = y + G) := Lib.hid ⟨by rw [← hD]; exact IntWalk.i64_in _ (by omega), by rw [← hG]; exact IntWalk.i64_in _ (by omega), IntWalk.i64_in _ (by omega)⟩
        have HNX : Hid ((L.set a (y + G)).length = rn ∧ ∀ j, j < rn → (L.set a (y + G)).getD j 0 = H.getD j 0 + wlS h t out j (k + 1)) := Lib.hid ⟨by rw [List.length_set]; exact HW.out.2.2.1, fun j hj => by
          rw [getD_set (by rw [HW.out.2.2.1]; exact hr), HST.out]
          unfold wlV
          rw [if_pos rfl]
          dsimp only
          rw [Int.toNat_natCast, hta, ← hD, ← hG]
          by_cases e : a = j
          · subst e; rw [if_pos rfl, if_pos rfl, h4]; omega
          · rw [if_neg e, if_neg (by omega), HW.out.2.2.2 j hj]; omega⟩
        clear hx hcx hb9 hwl h4 h5 h6 h7 h8 h9 h10 h12 h15 hy hta cta hD hG hcell
        go_wp2_with fail
        obtain ⟨xb, hxb⟩ : ∃ z, z = wr.heap.size := ⟨_, rfl⟩
        obtain ⟨wx, hwx⟩ : ∃ z, z = wr.alloc (.cells #[.int .i64 (a : Int), .int .i64 (-1), .int .i64 p] 75) := ⟨_, rfl⟩
        have hBa : Below wr.heap.size wr wx := by rw [hwx]; exact (Below.refl _ _).alloc (Nat.le_refl _) _
        have hbx : Blk wx xb 75 #[.int .i64 (a : Int), .int .i64 (-1), .int .i64 p] := by rw [hwx, hxb]; exact heap_alloc_new wr _
        have HX := Lib.hid (And.intro (HW.out.1.trans (Keep.of_below hBa)) (And.intro hbx (HW.out.2.1.below hBa HW.out.2.1.lt)))
        have HXB : Hid (hb < xb) := Lib.hid (by rw [hxb]; exact HW.out.2.1.lt)
        have HTW2 := Lib.hid (HTT.out.keep (w' := wx) (fun p hp => World.cell?_of_block ((HS.out.1.trans HX.out.1).block p.block (by have := HH.out.lt; omega) (by omega))))
        rw [← hwx, ← hxb]
        clear hBa hbx hwx hxb c0 c1 c2 zb g1
        refine wp_region_free10 20 (by kernel_rfl) [some 18, some 19, some 20, some 21, some 22, some 23, some 24, some 25, some 26, some 27, some 28, some 29, some 30, some 31, some 32, some 33, some 34, some 35, some 36, some 37, none] [[], [], [1], [0, 2], [3], [], [5], [], [7], [8], [], [10], [], [12], [11, 13], [14], [9, 15], [6, 16], [4, 17], [0, 2, 0, 1, 2, 3, 4, 5, 6, 7, 8, 9, 10, 11, 12, 13, 14, 15, 16, 17, 18], [19, 18, 0, 1, 2, 3, 4, 5, 6, 7, 8, 9, 10, 11, 12, 13, 14, 15, 16, 17, 18]] [(1, .slice (some ⟨hb, 0, none⟩) rn rn), (5, .pointer (some ⟨xb, 0, none⟩)), (2, .pointer (some ⟨bx, 0, none⟩))] (fun W γ => Keep (fun i => i = hb) w1 W ∧ Blk W xb 75 #[.int .i64 (a : Int), .int .i64 (-1), .int .i64 p] ∧ (γ 0 = 0 → Blk W hb 3 (intsA L))) (w5Phi hb xb bx tb to' rn tc a y p out ta D G (L.set a (y + G))) (fun _ _ γ => γ 0 = 0) (by kernel_rfl) (by kernel_rfl) rfl (by kernel_rfl) ?_ ?_ ⟨fun _ => 0, ⟨HX.out.1.drew, HX.out.2.1.below (Below.refl _ _).drew HX.out.2.1.lt, fun _ => HX.out.2.2.below (Below.refl _ _).drew HX.out.2.2.lt⟩, fun i _ => rfl⟩ ?_ ?_
        · intro z hz
          simp only [List.mem_cons, List.mem_nil_iff, or_false] at hz
          rcases hz with rfl | rfl | rfl
          all_goals exact ⟨by kernel_rfl, rfl⟩
        · intro i v W γ hi h
          rcases i with _ | _ | _ | _ | _ | _ | _ | _ | _ | _ | _ | _ | _ | _ | _ | _ | _ | _ | _ | _ | _ | i
          all_goals first | exact h | (simp at hi)
        · refine ⟨?_, ?_, ?_, ?_, ?_, ?_, ?_, ?_, ?_, ?_, ?_, ?_, ?_, ?_, ?_, ?_, ?_, ?_, ?_, ?_, ?_, trivial⟩
          all_goals
            intro a9 W γ ev hcc hff hfx hR hψ hpre
            simp only [List.mem_cons, List.mem_nil_iff, or_false, forall_eq, forall_eq_or_imp] at hfx
            obtain ⟨f0, f1, f2⟩ := hfx
            have HR := Lib.hid hR
            clear hR
          · refine ⟨fun hg K hK => ?_, trivial⟩
            clear hg
            clear hpre hψ
            go_simp
            exact hK _ _ γ HR.out (fun _ _ _ _ h => h) (fun _ _ _ h => h) rfl
          · refine ⟨fun hg K hK => ?_, trivial⟩
            clear hg
            clear hpre hψ
            go_simp
            exact hK _ _ γ HR.out (fun _ _ _ _ h => h) (fun _ _ _ h => h) rfl
          · refine ⟨fun hg K hK => ?_, trivial⟩
            clear hg
            have q0 : ev (.tmp 19) = _ := hpre 1 (by decide)
            have hbk := HR.out.2.1
            have hzg := hbk.lt
            have e0 := hbk.cell 0
            simp only [List.getElem?_toArray, List.getElem?_cons_zero, List.getElem?_cons_succ] at e0
            clear hbk
            clear hpre hψ
            go_simp
            exact hK _ _ γ HR.out (fun _ _ _ _ h => h) (fun _ _ _ h => h) rfl
          · refine ⟨fun hg K hK => ?_, trivial⟩
            clear hg
            have q0 : ev (.tmp 18) = _ := hpre 0 (by decide)
            have q1 : ev (.tmp 20) = _ := hpre 2 (by decide)
            clear hpre hψ
            go_simp
            exact hK _ _ γ HR.out (fun _ _ _ _ h => h) (fun _ _ _ h => h) rfl
          · refine ⟨fun hg K hK => ?_, trivial⟩
            clear hg
            have q0 : ev (.tmp 21) = _ := hpre 3 (by decide)
            have hlb := HR.out.2.2 hψ
            have hzg := hlb.lt
            have ca := hlb.intAt HYY.out
            clear hlb
            clear hpre hψ
            go_simp
            exact hK _ _ γ HR.out (fun _ _ _ _ h => h) (fun _ _ _ h => h) rfl
          · refine ⟨fun hg K hK => ?_, trivial⟩
            clear hg
            clear hpre hψ
            go_simp
            exact hK _ _ γ HR.out (fun _ _ _ _ h => h) (fun _ _ _ h => h) rfl
          · refine ⟨fun hg K hK => ?_, trivial⟩
            clear hg
            have q0 : ev (.tmp 23) = _ := hpre 5 (by decide)
            have hbk := HR.out.2.1
            have hzg := hbk.lt
            have e2 := hbk.cell 2
            simp only [List.getElem?_toArray, List.getElem?_cons_zero, List.getElem?_cons_succ] at e2
            clear hbk
            clear hpre hψ
            go_simp
            exact hK _ _ γ HR.out (fun _ _ _ _ h => h) (fun _ _ _ h => h) rfl
          · refine ⟨fun hg K hK => ?_, trivial⟩
            clear hg
            clear hpre hψ
            go_simp
            exact hK _ _ γ HR.out (fun _ _ _ _ h => h) (fun _ _ _ h => h) rfl
          · refine ⟨fun hg K hK => ?_, trivial⟩
            clear hg
            have q0 : ev (.tmp 25) = _ := hpre 7 (by decide)
            clear hpre hψ
            go_simp
            exact hK _ _ γ HR.out (fun _ _ _ _ h => h) (fun _ _ _ h => h) rfl
          · refine ⟨fun hg K hK => ?_, trivial⟩
            clear hg
            have q0 : ev (.tmp 26) = _ := hpre 8 (by decide)
            have hbk := HR.out.1.blk BX.out (Nat.ne_of_gt HN1.out)
            have hzg := hbk.lt
            have e5 := hbk.cell 5
            simp only [List.getElem?_toArray, List.getElem?_cons_zero, List.getElem?_cons_succ] at e5
            clear hbk
            clear hpre hψ
            go_simp
            exact hK _ _ γ HR.out (fun _ _ _ _ h => h) (fun _ _ _ h => h) rfl
          · refine ⟨fun hg K hK => ?_, trivial⟩
            clear hg
            clear hpre hψ
            go_simp
            exact hK _ _ γ HR.out (fun _ _ _ _ h => h) (fun _ _ _ h => h) rfl
          · refine ⟨fun hg K hK => ?_, trivial⟩
            clear hg
            have q0 : ev (.tmp 28) = _ := hpre 10 (by decide)
            have hbk := HR.out.1.blk BX.out (Nat.ne_of_gt HN1.out)
            have hzg := hbk.lt
            have e7 := hbk.cell 7
            simp only [List.getElem?_toArray, List.getElem?_cons_zero, List.getElem?_cons_succ] at e7
            clear hbk
            clear hpre hψ
            go_simp
            exact hK _ _ γ HR.out (fun _ _ _ _ h => h) (fun _ _ _ h => h) rfl
          · refine ⟨fun hg K hK => ?_, trivial⟩
            clear hg
            clear hpre hψ
            go_simp
            exact hK _ _ γ HR.out (fun _ _ _ _ h => h) (fun _ _ _ h => h) rfl
          · refine ⟨fun hg K hK => ?_, trivial⟩
            clear hg
            have q0 : ev (.tmp 30) = _ := hpre 12 (by decide)
            have hbk := HR.out.2.1
            have hzg := hbk.lt
            have e0 := hbk.cell 0
            simp only [List.getElem?_toArray, List.getElem?_cons_zero, List.getElem?_cons_succ] at e0
            clear hbk
            clear hpre hψ
            go_simp
            exact hK _ _ γ HR.out (fun _ _ _ _ h => h) (fun _ _ _ h => h) rfl
          · refine ⟨fun hg K hK => ?_, trivial⟩
            clear hg
            have q0 : ev (.tmp 29) = _ := hpre 11 (by decide)
            have q1 : ev (.tmp 31) = _ := hpre 13 (by decide)
            clear hpre hψ
            go_simp
            exact hK _ _ γ HR.out (fun _ _ _ _ h => h) (fun _ _ _ h => h) rfl
          · refine ⟨fun hg K hK => ?_, trivial⟩
            clear hg
            have q0 : ev (.tmp 32) = _ := hpre 14 (by decide)
            have hca : W.cell? ⟨tb, to' + a, none⟩ = some (.int .i64 ta) := by
              have h9 := HTT.out.keep (w' := W) (fun p hp => World.cell?_of_block ((HS.out.1.trans HR.out.1).block p.block (by have := HH.out.lt; omega) (by omega)))
              obtain ⟨b7, o7, y7, e7, hb7, hx7, hc7⟩ := h9.at_ hr
              obtain ⟨rfl, rfl⟩ : tb = b7 ∧ to' = o7 := by simpa using e7
              have h8 := cellI hc7
              have h7 := HTA.out
              rw [List.getD_eq_getElem?_getD, hx7] at h7
              rw [← h7]
              exact h8
            have hza : tb < W.heap.size := block_of_cell hca
            clear hpre hψ
            go_simp
            exact hK _ _ γ HR.out (fun _ _ _ _ h => h) (fun _ _ _ h => h) rfl
          · refine ⟨fun hg K hK => ?_, trivial⟩
            clear hg
            have q0 : ev (.tmp 27) = _ := hpre 9 (by decide)
            have q1 : ev (.tmp 33) = _ := hpre 15 (by decide)
            have wm := HAR.out.1
            clear hpre hψ
            go_simp
            exact hK _ _ γ HR.out (fun _ _ _ _ h => h) (fun _ _ _ h => h) rfl
          · refine ⟨fun hg K hK => ?_, trivial⟩
            clear hg
            have q0 : ev (.tmp 24) = _ := hpre 6 (by decide)
            have q1 : ev (.tmp 34) = _ := hpre 16 (by decide)
            have wm := HAR.out.2.1
            clear hpre hψ
            go_simp
            exact hK _ _ γ HR.out (fun _ _ _ _ h => h) (fun _ _ _ h => h) rfl
          · refine ⟨fun hg K hK => ?_, trivial⟩
            clear hg
            have q0 : ev (.tmp 22) = _ := hpre 4 (by decide)
            have q1 : ev (.tmp 35) = _ := hpre 17 (by decide)
            have wm := HAR.out.2.2
            clear hpre hψ
            go_simp
            exact hK _ _ γ HR.out (fun _ _ _ _ h => h) (fun _ _ _ h => h) rfl
          · refine ⟨fun hg K hK => ?_, trivial⟩
            clear hg
            have q0 : ev (.tmp 18) = _ := hpre 0 (by decide)
            have q1 : ev (.tmp 20) = _ := hpre 2 (by decide)
            clear hpre hψ
            go_simp
            exact hK _ _ γ HR.out (fun _ _ _ _ h => h) (fun _ _ _ h => h) rfl
          · refine ⟨fun hg K hK => ?_, trivial⟩
            clear hg
            have q0 : ev (.tmp 36) = _ := hpre 18 (by decide)
            have q1 : ev (.tmp 37) = _ := hpre 19 (by decide)
            have hlb := HR.out.2.2 hψ
            have zl := hlb.lt
            have fl9 := hlb.frozen
            have ca := hlb.intAt HYY.out
            have HR9 := Lib.hid (And.intro HR.out.1 (And.intro HR.out.2.1 hlb))
            clear hpre hψ hlb
            go_simp
            refine hK undef _ (fun _ => 1) ⟨HR9.out.1.setCell (p := ⟨hb, a, none⟩) rfl _, HR9.out.2.1.far (Nat.ne_of_gt HXB.out) _, fun e => by simp at e⟩ (fun j u _ hne h => w5Phi_w hne h) (fun h => absurd rfl h) ?_
            have h9 := HR9.out.2.2.set_ a (.int .i64 (y + G))
            rw [intsA_set] at h9
            exact h9
        · intro vs wy γ hvl hR hφ
          have q20 := hφ 20 (by decide)
          have HR := Lib.hid hR
          clear hφ hR
          match vs, hvl with
          | [y0, y1, y2, y3, y4, y5, y6, y7, y8, y9, y10, y11, y12, y13, y14, y15, y16, y17, y18, y19, y20], _ =>
          simp only [List.getD_cons_zero, List.getD_cons_succ] at q20
          have HN : Hid (Keep (fun i => i = hb) w1 wy ∧ Blk wy hb 3 (intsA (L.set a (y + G)))) := Lib.hid ⟨HR.out.1, q20⟩
          clear HR
          simp [putAll]
          go_wp2
          go_roundw
          case rel => exact ⟨k + 1, by omega, by go_num, _, Lib.hid ⟨HN.out.1, HN.out.2, HNX.out.1, HNX.out.2⟩⟩
          case measure => simp [intOf]; omega
      · obtain ⟨b, rfl⟩ : ∃ u : Nat, bv = (u : Int) := ⟨bv.toNat, by omega⟩
        have hrb : b < rn := by have := HRN.out; omega
        have hb0 : (0 : Int) ≤ (b : Int) := by omega
        have hbn : (b : Int) < (rn : Int) := by omega
        have d1 : ((b : Int) == -1) = false := beq_eq_false_iff_ne.2 (by omega)
        have d2 : ¬ ((b : Int) = -1) := by omega
        have hab : b ≠ a := by omega
        have hba : a ≠ b := by omega
        obtain ⟨tv, htv⟩ : ∃ z, z = t.getD b 0 := ⟨_, rfl⟩
        have HTV : Hid (t.getD b 0 = tv) := Lib.hid htv.symm
        have h20 := HTB.out b
        rw [← htv] at h20
        obtain ⟨z, hz⟩ : ∃ z, z = L.getD b 0 := ⟨_, rfl⟩
        have h21 := HW.out.2.2.2 b hrb
        rw [← hz] at h21
        have h22 := HWB.out b k (by rw [HWN.out]; omega)
        have h23 := HHB.out b
        have HZB : Hid (L[b]? = some z) := Lib.hid (by rw [hz]; exact some_getD (by rw [HW.out.2.2.1]; exact hrb))
        obtain ⟨D, hD⟩ : ∃ z, z = tv - ta := ⟨_, rfl⟩
        have h15 := mul_bd (d := D) h12 (by omega)
        obtain ⟨G, hG⟩ : ∃ z, z = p * D := ⟨_, rfl⟩
        rw [← hG] at h15
        have HAR : Hid (IntKind.i64.wrap (tv - ta) = D ∧ IntKind.i64.wrap (p * D) = G ∧ IntKind.i64.wrap (y + G) = y + G ∧ IntKind.i64.wrap (z - G) = z - G) := Lib.hid ⟨by rw [← hD]; exact IntWalk.i64_in _ (by omega), by rw [← hG]; exact IntWalk.i64_in _ (by omega), IntWalk.i64_in _ (by omega), IntWalk.i64_in _ (by omega)⟩
        have HNX : Hid (((L.set a (y + G)).set b (z - G)).length = rn ∧ ∀ j, j < rn → ((L.set a (y + G)).set b (z - G)).getD j 0 = H.getD j 0 + wlS h t out j (k + 1)) := Lib.hid ⟨by rw [List.length_set, List.length_set]; exact HW.out.2.2.1, fun j hj => by
          rw [getD_set (by rw [List.length_set, HW.out.2.2.1]; exact hrb), getD_set (by rw [HW.out.2.2.1]; exact hr), HST.out]
          unfold wlV
          rw [if_neg d2]
          dsimp only
          rw [Int.toNat_natCast, Int.toNat_natCast, hta, ← htv, ← hD, ← hG]
          by_cases e : b = j
          · subst e
            rw [if_pos rfl, if_neg (by omega), if_pos rfl, h21]; omega
          · rw [if_neg e]
            by_cases e2 : a = j
            · subst e2
              rw [if_pos rfl, if_pos rfl, if_neg (by omega), h4]; omega
            · rw [if_neg e2, if_neg (by omega), if_neg (by omega), HW.out.2.2.2 j hj]; omega⟩
        clear hx hcx hb9 hwl h4 h5 h6 h7 h8 h9 h10 h12 h13 h14 h15 h20 h21 h22 h23 hy hz hta htv cta hD hG hcell
        go_wp2_with fail
        obtain ⟨xb, hxb⟩ : ∃ z, z = wr.heap.size := ⟨_, rfl⟩
        obtain ⟨wx, hwx⟩ : ∃ z, z = wr.alloc (.cells #[.int .i64 (a : Int), .int .i64 (b : Int), .int .i64 p] 75) := ⟨_, rfl⟩
        have hBa : Below wr.heap.size wr wx := by rw [hwx]; exact (Below.refl _ _).alloc (Nat.le_refl _) _
        have hbx : Blk wx xb 75 #[.int .i64 (a : Int), .int .i64 (b : Int), .int .i64 p] := by rw [hwx, hxb]; exact heap_alloc_new wr _
        have HX := Lib.hid (And.intro (HW.out.1.trans (Keep.of_below hBa)) (And.intro hbx (HW.out.2.1.below hBa HW.out.2.1.lt)))
        have HXB : Hid (hb < xb) := Lib.hid (by rw [hxb]; exact HW.out.2.1.lt)
        have HTW2 := Lib.hid (HTT.out.keep (w' := wx) (fun p hp => World.cell?_of_block ((HS.out.1.trans HX.out.1).block p.block (by have := HH.out.lt; omega) (by omega))))
        rw [← hwx, ← hxb]
        clear hBa hbx hwx hxb c0 c1 c2 zb g1
        refine wp_region_free10 16 (by kernel_rfl) [some 38, some 39, some 40, some 41, some 42, some 43, some 44, some 45, some 46, some 47, some 48, some 49, some 50, some 51, some 52, some 53, some 6] [[], [0], [], [2], [], [4], [3, 5], [6], [], [8], [], [10], [9, 11], [12], [7, 13], [1, 14], [15, 0, 1, 2, 3, 4, 5, 6, 7, 8, 9, 10, 11, 12, 13, 14, 15]] [(5, .pointer (some ⟨xb, 0, none⟩)), (2, .pointer (some ⟨bx, 0, none⟩))] (fun W _ => Keep (fun i => i = hb) w1 W ∧ Blk W xb 75 #[.int .i64 (a : Int), .int .i64 (b : Int), .int .i64 p] ∧ (Blk W hb 3 (intsA L))) (w6Phi xb bx tb to' rn tc a b p ta tv D G) (fun _ _ _ => True) (by kernel_rfl) (by kernel_rfl) rfl (by kernel_rfl) ?_ ?_ ⟨fun _ => 0, ⟨HX.out.1.drew, HX.out.2.1.below (Below.refl _ _).drew HX.out.2.1.lt, HX.out.2.2.below (Below.refl _ _).drew HX.out.2.2.lt⟩, fun i _ => trivial⟩ ?_ ?_
        · intro z hz
          simp only [List.mem_cons, List.mem_nil_iff, or_false] at hz
          rcases hz with rfl | rfl
          all_goals exact ⟨by kernel_rfl, rfl⟩
        · intro i v W γ hi h
          rcases i with _ | _ | _ | _ | _ | _ | _ | _ | _ | _ | _ | _ | _ | _ | _ | _ | _ | i
          all_goals first | exact h | (simp at hi)
        · refine ⟨?_, ?_, ?_, ?_, ?_, ?_, ?_, ?_, ?_, ?_, ?_, ?_, ?_, ?_, ?_, ?_, ?_, trivial⟩
          all_goals
            intro a9 W γ ev hcc hff hfx hR hψ hpre
            simp only [List.mem_cons, List.mem_nil_iff, or_false, forall_eq, forall_eq_or_imp] at hfx
            obtain ⟨f0, f1⟩ := hfx
            have HR := Lib.hid hR
            clear hR
          · refine ⟨fun hg K hK => ?_, trivial⟩
            clear hg
            clear hpre hψ
            go_simp
            exact hK _ _ γ HR.out (fun _ _ _ _ h => h) (fun _ _ _ h => h) rfl
          · refine ⟨fun hg K hK => ?_, trivial⟩
            clear hg
            have q0 : ev (.tmp 38) = _ := hpre 0 (by decide)
            have hbk := HR.out.2.1
            have hzg := hbk.lt
            have e2 := hbk.cell 2
            simp only [List.getElem?_toArray, List.getElem?_cons_zero, List.getElem?_cons_succ] at e2
            clear hbk
            clear hpre hψ
            go_simp
            exact hK _ _ γ HR.out (fun _ _ _ _ h => h) (fun _ _ _ h => h) rfl
          · refine ⟨fun hg K hK => ?_, trivial⟩
            clear hg
            clear hpre hψ
            go_simp
            exact hK _ _ γ HR.out (fun _ _ _ _ h => h) (fun _ _ _ h => h) rfl
          · refine ⟨fun hg K hK => ?_, trivial⟩
            clear hg
            have q0 : ev (.tmp 40) = _ := hpre 2 (by decide)
            have hbk := HR.out.1.blk BX.out (Nat.ne_of_gt HN1.out)
            have hzg := hbk.lt
            have e7 := hbk.cell 7
            simp only [List.getElem?_toArray, List.getElem?_cons_zero, List.getElem?_cons_succ] at e7
            clear hbk
            clear hpre hψ
            go_simp
            exact hK _ _ γ HR.out (fun _ _ _ _ h => h) (fun _ _ _ h => h) rfl
          · refine ⟨fun hg K hK => ?_, trivial⟩
            clear hg
            clear hpre hψ
            go_simp
            exact hK _ _ γ HR.out (fun _ _ _ _ h => h) (fun _ _ _ h => h) rfl
          · refine ⟨fun hg K hK => ?_, trivial⟩
            clear hg
            have q0 : ev (.tmp 42) = _ := hpre 4 (by decide)
            have hbk := HR.out.2.1
            have hzg := hbk.lt
            have e1 := hbk.cell 1
            simp only [List.getElem?_toArray, List.getElem?_cons_zero, List.getElem?_cons_succ] at e1
            clear hbk
            clear hpre hψ
            go_simp
            exact hK _ _ γ HR.out (fun _ _ _ _ h => h) (fun _ _ _ h => h) rfl
          · refine ⟨fun hg K hK => ?_, trivial⟩
            clear hg
            have q0 : ev (.tmp 41) = _ := hpre 3 (by decide)
            have q1 : ev (.tmp 43) = _ := hpre 5 (by decide)
            clear hpre hψ
            go_simp
            exact hK _ _ γ HR.out (fun _ _ _ _ h => h) (fun _ _ _ h => h) rfl
          · refine ⟨fun hg K hK => ?_, trivial⟩
            clear hg
            have q0 : ev (.tmp 44) = _ := hpre 6 (by decide)
            have hca : W.cell? ⟨tb, to' + b, none⟩ = some (.int .i64 tv) := by
              have h9 := HTT.out.keep (w' := W) (fun p hp => World.cell?_of_block ((HS.out.1.trans HR.out.1).block p.block (by have := HH.out.lt; omega) (by omega)))
              obtain ⟨b7, o7, y7, e7, hb7, hx7, hc7⟩ := h9.at_ hrb
              obtain ⟨rfl, rfl⟩ : tb = b7 ∧ to' = o7 := by simpa using e7
              have h8 := cellI hc7
              have h7 := HTV.out
              rw [List.getD_eq_getElem?_getD, hx7] at h7
              rw [← h7]
              exact h8
            have hza : tb < W.heap.size := block_of_cell hca
            clear hpre hψ
            go_simp
            exact hK _ _ γ HR.out (fun _ _ _ _ h => h) (fun _ _ _ h => h) rfl
          · refine ⟨fun hg K hK => ?_, trivial⟩
            clear hg
            clear hpre hψ
            go_simp
            exact hK _ _ γ HR.out (fun _ _ _ _ h => h) (fun _ _ _ h => h) rfl
          · refine ⟨fun hg K hK => ?_, trivial⟩
            clear hg
            have q0 : ev (.tmp 46) = _ := hpre 8 (by decide)
            have hbk := HR.out.1.blk BX.out (Nat.ne_of_gt HN1.out)
            have hzg := hbk.lt
            have e7 := hbk.cell 7
            simp only [List.getElem?_toArray, List.getElem?_cons_zero, List.getElem?_cons_succ] at e7
            clear hbk
            clear hpre hψ
            go_simp
            exact hK _ _ γ HR.out (fun _ _ _ _ h => h) (fun _ _ _ h => h) rfl
          · refine ⟨fun hg K hK => ?_, trivial⟩
            clear hg
            clear hpre hψ
            go_simp
            exact hK _ _ γ HR.out (fun _ _ _ _ h => h) (fun _ _ _ h => h) rfl
          · refine ⟨fun hg K hK => ?_, trivial⟩
            clear hg
            have q0 : ev (.tmp 48) = _ := hpre 10 (by decide)
            have hbk := HR.out.2.1
            have hzg := hbk.lt
            have e0 := hbk.cell 0
            simp only [List.getElem?_toArray, List.getElem?_cons_zero, List.getElem?_cons_succ] at e0
            clear hbk
            clear hpre hψ
            go_simp
            exact hK _ _ γ HR.out (fun _ _ _ _ h => h) (fun _ _ _ h => h) rfl
          · refine ⟨fun hg K hK => ?_, trivial⟩
            clear hg
            have q0 : ev (.tmp 47) = _ := hpre 9 (by decide)
            have q1 : ev (.tmp 49) = _ := hpre 11 (by decide)
            clear hpre hψ
            go_simp
            exact hK _ _ γ HR.out (fun _ _ _ _ h => h) (fun _ _ _ h => h) rfl
          · refine ⟨fun hg K hK => ?_, trivial⟩
            clear hg
            have q0 : ev (.tmp 50) = _ := hpre 12 (by decide)
            have hca : W.cell? ⟨tb, to' + a, none⟩ = some (.int .i64 ta) := by
              have h9 := HTT.out.keep (w' := W) (fun p hp => World.cell?_of_block ((HS.out.1.trans HR.out.1).block p.block (by have := HH.out.lt; omega) (by omega)))
              obtain ⟨b7, o7, y7, e7, hb7, hx7, hc7⟩ := h9.at_ hr
              obtain ⟨rfl, rfl⟩ : tb = b7 ∧ to' = o7 := by simpa using e7
              have h8 := cellI hc7
              have h7 := HTA.out
              rw [List.getD_eq_getElem?_getD, hx7] at h7
              rw [← h7]
              exact h8
            have hza : tb < W.heap.size := block_of_cell hca
            clear hpre hψ
            go_simp
            exact hK _ _ γ HR.out (fun _ _ _ _ h => h) (fun _ _ _ h => h) rfl
          · refine ⟨fun hg K hK => ?_, trivial⟩
            clear hg
            have q0 : ev (.tmp 45) = _ := hpre 7 (by decide)
            have q1 : ev (.tmp 51) = _ := hpre 13 (by decide)
            have wm := HAR.out.1
            clear hpre hψ
            go_simp
            exact hK _ _ γ HR.out (fun _ _ _ _ h => h) (fun _ _ _ h => h) rfl
          · refine ⟨fun hg K hK => ?_, trivial⟩
            clear hg
            have q0 : ev (.tmp 39) = _ := hpre 1 (by decide)
            have q1 : ev (.tmp 52) = _ := hpre 14 (by decide)
            have wm := HAR.out.2.1
            clear hpre hψ
            go_simp
            exact hK _ _ γ HR.out (fun _ _ _ _ h => h) (fun _ _ _ h => h) rfl
          · refine ⟨fun hg K hK => ?_, trivial⟩
            clear hg
            have q0 : ev (.tmp 53) = _ := hpre 15 (by decide)
            clear hpre hψ
            go_simp
            exact hK _ _ γ HR.out (fun _ _ _ _ h => h) (fun _ _ _ h => h) rfl
        · intro vs wz γ hvl hR hφ
          have q16 := hφ 16 (by decide)
          have HR := Lib.hid hR
          clear hφ hR
          match vs, hvl with
          | [y0, y1, y2, y3, y4, y5, y6, y7, y8, y9, y10, y11, y12, y13, y14, y15, y16], _ =>
          simp only [List.getD_cons_zero, List.getD_cons_succ] at q16
          obtain rfl : y16 = _ := q16
          have HZ := Lib.hid HR.out
          clear HR
          simp [putAll]
          have hbk := HZ.out.2.1
          have e0 := hbk.cell 0
          have e1 := hbk.cell 1
          have ze := hbk.lt
          simp only [List.getElem?_toArray, List.getElem?_cons_zero, List.getElem?_cons_succ] at e0 e1
          have hlb := HZ.out.2.2
          have zl := hlb.lt
          have fl9 := hlb.frozen
          have ca := hlb.intAt HYY.out
          have cb := hlb.intAt HZB.out
          have w1' := HAR.out.2.2.1
          have w2' := HAR.out.2.2.2
          have n1 : xb ≠ hb := Nat.ne_of_gt HXB.out
          have n2 : hb ≠ xb := Nat.ne_of_lt HXB.out
          clear hbk hlb
          go_wp2
          go_roundw
          case rel => exact ⟨k + 1, by omega, by go_num, _, Lib.hid ⟨(HZ.out.1.setCell (p := ⟨hb, a, none⟩) rfl _).setCell (p := ⟨hb, b, none⟩) rfl _, by
            have h9 := (HZ.out.2.2.set_ a (.int .i64 (y + G))).set_ b (.int .i64 (z - G))
            rw [intsA_set, intsA_set] at h9
            exact h9, HNX.out.1, HNX.out.2⟩⟩
          case measure => simp [intOf]; omega
    · obtain rfl : wn = k := by omega
      go_wp2
      refine bodyPost_end (v := .tuple #[]) (results_none rfl _ _ _) rfl ?_
      exact ⟨rfl, HS.out.1.trans HW.out.1, L, HW.out.2.1, HW.out.2.2.1, HW.out.2.2.2⟩
end Go.Proofs.Ytldbciflpnhfpaa
