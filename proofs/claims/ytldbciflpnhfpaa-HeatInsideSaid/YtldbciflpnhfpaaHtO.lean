/- law07: temperatures made of numbers. -/
import Derived.Test.YtldbciflpnhfpaaHtN

set_option linter.unusedSimpArgs false
set_option linter.unusedVariables false
namespace Go.Proofs.Ytldbciflpnhfpaa
open Go.RowKit

/-- A list under way, each number from lo to hi. -/
structure LwI (X : World) (dx : Nat) (dv : Value) (lo hi : Int) (v : Value) (k : Nat) (L : List Int) (W : World) : Prop where
  low : Below X.heap.size X W
  dig : ∃ i, i ≤ k ∧ Blk W dx 81 #[dv, .int .i64 ((i : Nat) : Int)]
  row : W.ownsRow X.heap.size 3 1 v k (L.flatMap encI)
  len : L.length = k
  bd : ∀ y ∈ L, lo ≤ y ∧ y ≤ hi
set_option maxRecDepth 100000 in
set_option maxHeartbeats 4000000 in
theorem Warm_any (rA wA bA cA : Option Addr) (rn rc wn wc bn bc cn cc : Nat) (A2 : Option Addr) (n2 c2 : Nat) (l2 : List Int) (w : World) (hn : rn ≤ 8) (h2 : Rd w w.heap.size 1 encU A2 n2 l2) (u2 : U8s l2) :
    Calls Try.prog 10 #[.agg #[.slice rA rn rc, .slice wA wn wc, .slice bA bn bc, .slice cA cn cc], .slice A2 n2 c2] w fun e w' => ∃ (A : Option Addr) (c : Nat) (L : List Int), e = .returned (.slice A rn c) ∧ w'.ownsRow w.heap.size 3 1 (.slice A rn c) rn (L.flatMap encI) ∧ L.length = rn ∧ (∀ y ∈ L, 12000 ≤ y ∧ y ≤ 27300) ∧ Below w.heap.size w w' := by
  have H2 := Lib.hid h2
  have U2 := Lib.hid u2
  obtain ⟨i0, hi0, hi1, hi2, hi3⟩ := info_parts intInfo
  have hi := Lib.hid (And.intro hi0 (And.intro hi1 (And.intro hi2 hi3)))
  have g1 : w.heap.size < w.heap.size + 1 := by omega
  have g2 : w.heap.size < w.heap.size + 1 + 1 := by omega
  clear h2 u2 hi0 hi1 hi2 hi3
  go_enter Try.func10, Try.ntmps10
  go_wp2_with fail
  obtain ⟨bx, hbx⟩ : ∃ z, z = w.heap.size := ⟨_, rfl⟩
  obtain ⟨w1, hw1⟩ : ∃ z, z = w.alloc (.cells #[.slice rA rn rc, .slice wA wn wc, .slice bA bn bc, .slice cA cn cc] 28) := ⟨_, rfl⟩
  have BX : Hid (Blk w1 bx 28 #[.slice rA rn rc, .slice wA wn wc, .slice bA bn bc, .slice cA cn cc]) := Lib.hid (by rw [hw1, hbx]; exact heap_alloc_new w _)
  have Sw1 : Hid (w1.heap.size = bx + 1) := Lib.hid (by rw [hw1, hbx, World.size_alloc])
  have Zbx : Hid (w.heap.size ≤ bx) := Lib.hid (by rw [hbx]; exact Nat.le_refl _)
  have hBn : Below w.heap.size w w1 := by rw [hw1]; exact (Below.refl _ _).alloc (Nat.le_refl _) _
  rw [← hw1, ← hbx]
  have B0 : Hid (Below w.heap.size w w1) := Lib.hid hBn
  clear hw1 hbx hBn
  obtain ⟨dx, hdx⟩ : ∃ z, z = bx + 1 := ⟨_, rfl⟩
  obtain ⟨w2, hw2⟩ : ∃ z, z = w1.alloc (.cells #[.slice A2 n2 c2, .int .i64 0] 81) := ⟨_, rfl⟩
  have DX : Hid (Blk w2 dx 81 #[.slice A2 n2 c2, .int .i64 0]) := Lib.hid (by have e2 := heap_alloc_new w1 (.cells #[.slice A2 n2 c2, .int .i64 0] 81); rw [Sw1.out] at e2; rw [hw2, hdx]; exact e2)
  have Sw2 : Hid (w2.heap.size = dx + 1) := Lib.hid (by rw [hw2, hdx, World.size_alloc, Sw1.out])
  have Zdx : Hid (w1.heap.size = dx) := Lib.hid (by rw [Sw1.out, hdx])
  have hBn : Below w1.heap.size w1 w2 := by rw [hw2]; exact (Below.refl _ _).alloc (Nat.le_refl _) _
  rw [← hw2, ← hdx]
  have B1 : Hid (Below w1.heap.size w1 w2) := Lib.hid hBn
  clear hw2 hdx hBn
  have HLOW : Hid (Below w1.heap.size w1 w2) := B1
  have HDB : Hid (w1.heap.size ≤ dx) := Lib.hid (Nat.le_of_eq Zdx.out)
  have KN := Lib.hid (fun (W : World) (i : Nat) (hd : Blk W dx 81 #[.slice A2 n2 c2, .int .i64 (i : Int)]) (hW : Below w1.heap.size w1 W) (hi : i ≤ 1000000) => next_int dx n2 c2 w.heap.size i 256 A2 l2 W hd (H2.out.below (below3 B0.out hW (Nat.le_refl _))) (Nat.le_trans (B0.out).size HDB.out) U2.out hi (by omega))
  clear g1 g2
  go_loopw [6, 13] (fun v i wr => ∃ k L vv, v = vv ∧ k ≤ rn ∧ i = .int .i64 ((k : Nat) : Int) ∧ Hid (LwI w1 dx (.slice A2 n2 c2) 12000 27300 vv k L wr)) (fun _ i _ => rn - (intOf i).toNat)
  case atStart => exact ⟨0, [], _, rfl, by omega, rfl, Lib.hid ⟨HLOW.out, ⟨0, Nat.le_refl _, DX.out⟩, World.ownsRow_nil _ _ _ _, rfl, fun y h => (by simp at h)⟩⟩
  case round =>
    obtain ⟨k, L, vv, hvv, hk, rfl, HLS⟩ := hrel
    obtain rfl := hvv.symm
    by_cases hlt : k < rn
    · have hk4 : k ≤ 400 := by omega
      have hk1 : ((k : Nat) : Int) < ((rn : Nat) : Int) := by omega
      obtain ⟨i9, hi9, hd9⟩ := HLS.out.dig
      have C := Lib.hid (KN.out wr i9 hd9 HLS.out.low (by omega))
      have HI9 := Lib.hid (And.intro hi9 hd9)
      clear hi9 hd9
      go_wp2_with fail
      refine C.out.mono ?_
      rintro e wx ⟨r9, rfl, hr9, hk5, hb5⟩
      have hB5 : Below w1.heap.size wr wx := hk5.below HLS.out.low.size (fun b e => by rw [e]; exact HDB.out)
      have HX : Hid (Below w1.heap.size w1 wx) := Lib.hid (HLS.out.low.trans hB5)
      have HROW : Hid (wx.ownsRow w1.heap.size 3 1 vv k (L.flatMap encI)) := Lib.hid (HLS.out.row.kept (keep_grown hk5) (Or.inr (own_ne HLS.out.row HI9.out.2 (by decide)).symm))
      have HDG := Lib.hid hb5
      have hsz := HX.out.size
      have wm : IntKind.i64.wrap (60 * r9) = 60 * r9 := IntWalk.i64_in _ (by omega)
      obtain ⟨q9, hq9⟩ : ∃ z, z = 12000 + 60 * r9 := ⟨_, rfl⟩
      have wa : IntKind.i64.wrap (12000 + 60 * r9) = q9 := by rw [hq9]; exact IntWalk.i64_in _ (by omega)
      have HRB9 : Hid (12000 ≤ q9 ∧ q9 ≤ 27300) := Lib.hid (by omega)
      clear hk5 hb5 hB5 hr9 C hq9
      go_wp2_with (at_builtin; refine wpList_append_own_at _ rfl (.tmp 15) (.tmp 20) 30 rfl w1.heap.size 3 i0 (.int .i64 0) 1 8 Try.underlying30 hi.out.1 hi.out.2.1 hi.out.2.2.1 hi.out.2.2.2 rfl (by decide) vv k (L.flatMap encI) rfl (HROW.out.alloc _) ⟨wx.heap.size, 0, none⟩ 1 1 [.int .i64 q9] rfl rfl (cell_one_new _ _ _) ?_ ?_ ?_ ?_ ?_)
      case _ => (intro u hu; simp only [List.mem_cons, List.mem_nil_iff, or_false] at hu; subst hu; rfl)
      case _ => simp only [maxLen]; omega
      case _ => omega
      case _ => simp; omega
      intro v' wy hown hg8 _ _
      obtain ⟨A9, c9, rfl⟩ := row_slice hown
      have hBa : Below wx.heap.size wx (wx.alloc (.cells #[.int .i64 q9] 3)) := (Below.refl _ _).alloc (Nat.le_refl _) _
      have hr1 := row_next HROW.out hBa
      have hd1 := HDG.out.below hBa HDG.out.lt
      have hl1 := below3 HX.out hBa (Nat.le_refl _)
      have hl2 := hl1.trans ((Below.refl _ _).grown hg8 hl1.size (fun r e => (World.ownsRow.lt hr1 r e).1))
      have HN : Hid (LwI w1 dx (.slice A2 n2 c2) 12000 27300 (.slice A9 (k + 1) c9) (k + 1) (L ++ [q9]) wy) := Lib.hid ⟨hl2, ⟨i9 + 1, by have := HI9.out.1; omega, hd1.kept hg8 (own_ne hr1 hd1 (by decide))⟩, by rw [List.flatMap_append]; exact hown, by rw [List.length_append, HLS.out.len]; rfl, all_snoc2 HLS.out.bd HRB9.out⟩
      clear hown hg8 hBa hr1 hd1 hl1 hl2
      go_wp2
      go_roundw
      case rel => exact ⟨k + 1, L ++ [q9], _, rfl, by omega, by go_num, HN⟩
      case measure => simp [intOf]; omega
    · obtain rfl : rn = k := by omega
      obtain ⟨A9, c9, rfl⟩ := row_slice HLS.out.row
      go_wp2
      go_ret
      exact ⟨A9, c9, L, rfl, row_low HLS.out.row (B0.out).size, HLS.out.len, HLS.out.bd, below3 B0.out HLS.out.low (Nat.le_refl _)⟩
end Go.Proofs.Ytldbciflpnhfpaa
