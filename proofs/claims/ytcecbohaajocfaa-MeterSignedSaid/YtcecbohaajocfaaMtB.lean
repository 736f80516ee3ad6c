/- meter: spans, what may be lost, sons. -/
import Derived.Test.YtcecbohaajocfaaMtA

set_option linter.unusedSimpArgs false
set_option linter.unusedVariables false
namespace Go.Proofs.Ytcecbohaajocfaa
open Go.RowKit

theorem spanInfo : (Try.prog.info? 138).map (fun i => (i.zero, i.size, i.bytes)) = some (some (.agg #[.int .i64 0, .int .i64 0]), 2, 16) := by kernel_rfl
theorem heap_new3 (w : World) (a b o : Obj) : (((w.alloc a).alloc b).alloc o).heap[w.heap.size + 1 + 1]? = some o := by
  have e := heap_alloc_new ((w.alloc a).alloc b) o
  rw [World.size_alloc, World.size_alloc] at e
  exact e
theorem plus_any (a b c d : Int) (h : (0 ≤ a ∧ a ≤ 1000000000000000) ∧ (0 ≤ b ∧ b ≤ 1000000000000000) ∧ (0 ≤ c ∧ c ≤ 1000000000000000) ∧ (0 ≤ d ∧ d ≤ 1000000000000000)) (w : World) :
    Calls Try.prog 106 #[.agg #[.int .i64 a, .int .i64 b], .agg #[.int .i64 c, .int .i64 d]] w fun e w' => e = .returned (.agg #[.int .i64 (a + c), .int .i64 (b + d)]) ∧ Below w.heap.size w w' := by
  have wv1 : IntKind.i64.wrap (a + c) = a + c := IntWalk.i64_in _ (by omega)
  have wv2 : IntKind.i64.wrap (b + d) = b + d := IntWalk.i64_in _ (by omega)
  have g1 : w.heap.size < w.heap.size + 1 := by omega
  have g2 : w.heap.size < w.heap.size + 1 + 1 := by omega
  have g3 : w.heap.size < w.heap.size + 1 + 1 + 1 := by omega
  have g4 : w.heap.size + 1 < w.heap.size + 1 + 1 := by omega
  have g5 : w.heap.size + 1 < w.heap.size + 1 + 1 + 1 := by omega
  clear h
  go_enter Try.func106, Try.ntmps106
  go_wp2
  refine bodyPost_ret (v := .agg #[.int .i64 (a + c), .int .i64 (b + d)]) (results_cell_row rfl _ _ (w.heap.size + 1 + 1) 138 #[.int .i64 (a + c), .int .i64 (b + d)] _ _ rfl (heap_new3 w _ _ _) Try.underlying138 rfl (by kernel_rfl)) rfl ?_
  exact ⟨rfl, by (repeat' (first | (with_reducible exact Below.refl _ _) | (with_reducible assumption) | (with_reducible refine below_drewN ?_ _) | (with_reducible refine below_after (by assumption) ?_ ?_) | (with_reducible refine Below.drew ?_) | (with_reducible refine Below.alloc ?_ ?_ _) | (with_reducible refine Below.setCell ?_ ?_ _) | omega | (simp; omega) | (simp; done)))⟩
theorem and_any (a b c d : Int) (w : World) :
    Calls Try.prog 107 #[.agg #[.int .i64 a, .int .i64 b], .agg #[.int .i64 c, .int .i64 d]] w fun e w' => e = .returned (.agg #[.int .i64 (max a c), .int .i64 (min b d)]) ∧ Below w.heap.size w w' := by
  have g1 : w.heap.size < w.heap.size + 1 := by omega
  have g2 : w.heap.size < w.heap.size + 1 + 1 := by omega
  have g3 : w.heap.size < w.heap.size + 1 + 1 + 1 := by omega
  have g4 : w.heap.size + 1 < w.heap.size + 1 + 1 := by omega
  have g5 : w.heap.size + 1 < w.heap.size + 1 + 1 + 1 := by omega
  go_enter Try.func107, Try.ntmps107
  go_wp2
  refine bodyPost_ret (v := .agg #[.int .i64 (max a c), .int .i64 (min b d)]) (results_cell_row rfl _ _ (w.heap.size + 1 + 1) 138 #[.int .i64 (max a c), .int .i64 (min b d)] _ _ rfl (heap_new3 w _ _ _) Try.underlying138 rfl (by kernel_rfl)) rfl ?_
  exact ⟨rfl, by (repeat' (first | (with_reducible exact Below.refl _ _) | (with_reducible assumption) | (with_reducible refine below_drewN ?_ _) | (with_reducible refine below_after (by assumption) ?_ ?_) | (with_reducible refine Below.drew ?_) | (with_reducible refine Below.alloc ?_ ?_ _) | (with_reducible refine Below.setCell ?_ ?_ _) | omega | (simp; omega) | (simp; done)))⟩
theorem isSome_any (a b : Int) (w : World) :
    Calls Try.prog 85 #[.agg #[.int .i64 a, .int .i64 b]] w fun e w' => e = .returned (.bool (inB a a b)) ∧ Below w.heap.size w w' := by
  have g1 : w.heap.size < w.heap.size + 1 := by omega
  go_enter Try.func85, Try.ntmps85
  go_wp2
  go_ret
  exact ⟨ret_bool (by unfold inB; simp), by (repeat' (first | (with_reducible exact Below.refl _ _) | (with_reducible assumption) | (with_reducible refine below_drewN ?_ _) | (with_reducible refine below_after (by assumption) ?_ ?_) | (with_reducible refine Below.drew ?_) | (with_reducible refine Below.alloc ?_ ?_ _) | (with_reducible refine Below.setCell ?_ ?_ _) | omega | (simp; omega) | (simp; done)))⟩
theorem has_any (a b x : Int) (w : World) :
    Calls Try.prog 69 #[.agg #[.int .i64 a, .int .i64 b], .int .i64 x] w fun e w' => e = .returned (.bool (inB a x b)) ∧ Below w.heap.size w w' := by
  have K := Lib.hid (fun W => within_any x a b W)
  have g1 : w.heap.size < w.heap.size + 1 := by omega
  go_enter Try.func69, Try.ntmps69
  go_wp2_with fail
  refine (K.out _).mono ?_
  rintro e w2 ⟨rfl, rfl⟩
  go_wp2
  go_ret
  exact ⟨rfl, by (repeat' (first | (with_reducible exact Below.refl _ _) | (with_reducible assumption) | (with_reducible refine below_drewN ?_ _) | (with_reducible refine below_after (by assumption) ?_ ?_) | (with_reducible refine Below.drew ?_) | (with_reducible refine Below.alloc ?_ ?_ _) | (with_reducible refine Below.setCell ?_ ?_ _) | omega | (simp; omega) | (simp; done)))⟩
def losPhi (bx nb no k : Nat) (n nc : Nat) (lo hi : Int) (rb : Nat) : Nat → Value → World → (Nat → Nat) → Prop
  | 0, v, _, _ => v = .pointer (some ⟨bx, 0, none⟩)
  | 1, v, _, _ => v = .slice (some ⟨nb, no, none⟩) n nc
  | 2, v, _, _ => v = .int .i64 (k : Int)
  | 3, v, _, _ => v = .pointer (some ⟨nb, no + k * 3, none⟩)
  | 4, v, _, _ => v = .pointer (some ⟨nb, no + k * 3 + 1, none⟩)
  | 5, v, _, _ => v = .int .i64 lo
  | 6, v, _, _ => v = .pointer (some ⟨bx, 0, none⟩)
  | 7, v, _, _ => v = .slice (some ⟨nb, no, none⟩) n nc
  | 8, v, _, _ => v = .int .i64 (k : Int)
  | 9, v, _, _ => v = .pointer (some ⟨nb, no + k * 3, none⟩)
  | 10, v, _, _ => v = .pointer (some ⟨nb, no + k * 3 + 2, none⟩)
  | 11, v, _, _ => v = .int .i64 hi
  | 12, v, _, _ => v = .agg #[.int .i64 lo, .int .i64 hi]
  | 13, _, W, _ => Blk W rb 138 #[.int .i64 lo, .int .i64 hi]
  | _, _, _, _ => True
theorem losPhi_w {bx nb no k n nc : Nat} {lo hi : Int} {rb j : Nat} {v : Value} {W W' : World} {γ γ' : Nat → Nat} (hj : j ≠ 13) (h : losPhi bx nb no k n nc lo hi rb j v W γ) : losPhi bx nb no k n nc lo hi rb j v W' γ' := by
  unfold losPhi at h ⊢
  split at h <;> first | exact h | exact absurd rfl hj | trivial
set_option maxRecDepth 100000 in
theorem loss_any (nA vA : Option Addr) (n nc vc k : Nat) (c : Ks) (w : World) (hk : k < n) (h14 : n ≤ 14) (hin : KsIn w w.heap.size n nA vA c) :
    Calls Try.prog 68 #[.agg #[.slice nA n nc, .slice vA n vc], .int .i64 (k : Int)] w fun e w' => e = .returned (.agg #[.int .i64 (c.nd k).lo, .int .i64 (c.nd k).hi]) ∧ Below w.heap.size w w' := by
  obtain ⟨nb, no, rfl, hb, _, c1, c2⟩ := hin.ndAt hk
  obtain ⟨lo, hlo⟩ : ∃ z, z = (c.nd k).lo := ⟨_, rfl⟩
  obtain ⟨hi, hhi⟩ : ∃ z, z = (c.nd k).hi := ⟨_, rfl⟩
  rw [← hlo] at c1
  rw [← hhi] at c2
  rw [← hlo, ← hhi]
  have HCC : Hid (∀ W, Below w.heap.size w W → W.cell? ⟨nb, no + k * 3 + 1, none⟩ = some (.int .i64 lo) ∧ W.cell? ⟨nb, no + k * 3 + 2, none⟩ = some (.int .i64 hi) ∧ nb < W.heap.size) := Lib.hid (fun W hW => ⟨(hW.cell (p := ⟨nb, _, none⟩) hb).trans c1, (hW.cell (p := ⟨nb, _, none⟩) hb).trans c2, Nat.lt_of_lt_of_le hb hW.size⟩)
  have hk0 : (0 : Int) ≤ (k : Int) := by omega
  have hkn : (k : Int) < (n : Int) := by omega
  have hk9 : (k : Int) ≤ 14 := by omega
  have hkN : k < n := hk
  have g1 : w.heap.size < w.heap.size + 1 := by omega
  clear hin hlo hhi c1 c2 hb
  go_enter Try.func68, Try.ntmps68
  go_wp2_with fail
  obtain ⟨bx, hbx⟩ : ∃ z, z = w.heap.size := ⟨_, rfl⟩
  obtain ⟨w1, hw1⟩ : ∃ z, z = w.alloc (.cells #[.slice (some ⟨nb, no, none⟩) n nc, .slice vA n vc] 35) := ⟨_, rfl⟩
  have BX : Hid (Blk w1 bx 35 #[.slice (some ⟨nb, no, none⟩) n nc, .slice vA n vc]) := Lib.hid (by rw [hw1, hbx]; exact heap_alloc_new w _)
  have Sw1 : Hid (w1.heap.size = bx + 1) := Lib.hid (by rw [hw1, hbx, World.size_alloc])
  have Zbx : Hid (w.heap.size ≤ bx) := Lib.hid (by rw [hbx]; exact Nat.le_refl _)
  have hBn : Below w.heap.size w w1 := by rw [hw1]; exact (Below.refl _ _).alloc (Nat.le_refl _) _
  rw [← hw1, ← hbx]
  have B0 : Hid (Below w.heap.size w w1) := Lib.hid hBn
  clear hw1 hbx hBn
  obtain ⟨rb, hrb⟩ : ∃ z, z = bx + 1 := ⟨_, rfl⟩
  obtain ⟨w2, hw2⟩ : ∃ z, z = w1.alloc (.cells #[.int .i64 0, .int .i64 0] 138) := ⟨_, rfl⟩
  have RB : Hid (Blk w2 rb 138 #[.int .i64 0, .int .i64 0]) := Lib.hid (by have e2 := heap_alloc_new w1 (.cells #[.int .i64 0, .int .i64 0] 138); rw [Sw1.out] at e2; rw [hw2, hrb]; exact e2)
  have Sw2 : Hid (w2.heap.size = rb + 1) := Lib.hid (by rw [hw2, hrb, World.size_alloc, Sw1.out])
  have Zrb : Hid (w1.heap.size = rb) := Lib.hid (by rw [Sw1.out, hrb])
  have hBn : Below w1.heap.size w1 w2 := by rw [hw2]; exact (Below.refl _ _).alloc (Nat.le_refl _) _
  rw [← hw2, ← hrb]
  have B1 : Hid (Below w1.heap.size w1 w2) := Lib.hid hBn
  clear hw2 hrb hBn
  clear g1
  have hne : bx ≠ rb := by have h1 := Zrb.out; have h2 := Sw1.out; omega
  have HNE := Lib.hid hne
  clear hne
  refine wp_region_free10 13 (by kernel_rfl) [some 5, some 6, some 7, some 8, some 9, some 10, some 11, some 12, some 13, some 14, some 15, some 16, some 17, none] [[], [0], [], [1, 2], [3], [4], [], [6], [], [7, 8], [9], [10], [5, 11], [12, 0, 1, 2, 3, 4, 5, 6, 7, 8, 9, 10, 11, 12]] [(2, .pointer (some ⟨bx, 0, none⟩)), (1, .int .i64 (k : Int)), (4, .pointer (some ⟨rb, 0, none⟩))] (fun W _ => Keep (fun b => b = rb) w2 W ∧ ∃ v0 v1, Blk W rb 138 #[v0, v1]) (losPhi bx nb no k n nc lo hi rb) (fun _ _ _ => True) (by kernel_rfl) (by kernel_rfl) rfl (by kernel_rfl) ?_ ?_ ⟨fun _ => 0, ⟨(Keep.refl _ _).drew, _, _, RB.out⟩, fun _ _ => trivial⟩ ?_ ?_
  · intro z hz
    simp only [List.mem_cons, List.mem_nil_iff, or_false] at hz
    rcases hz with rfl | rfl | rfl
    all_goals exact ⟨by kernel_rfl, rfl⟩
  · intro i v W γ hi h
    rcases i with _ | _ | _ | _ | _ | _ | _ | _ | _ | _ | _ | _ | _ | _ | i
    all_goals first | exact h | (simp at hi)
  · refine ⟨?_, ?_, ?_, ?_, ?_, ?_, ?_, ?_, ?_, ?_, ?_, ?_, ?_, ?_, trivial⟩
    all_goals
      intro a9 W γ ev hcc hff hfx hR hψ hpre
      simp only [List.mem_cons, List.mem_nil_iff, or_false, forall_eq, forall_eq_or_imp] at hfx
      obtain ⟨f0, f1, f2⟩ := hfx
      have HR := Lib.hid hR
      clear hR
    · refine ⟨fun hg K hK => ?_, trivial⟩
      clear hg
      clear hpre hψ
      go_simp
      exact hK _ _ γ HR.out (fun _ _ _ _ h => h) (fun _ _ _ h => h) rfl
    · refine ⟨fun hg K hK => ?_, trivial⟩
      clear hg
      have q0 : ev (.tmp 5) = _ := hpre 0 (by decide)
      have hbk := HR.out.1.blk (BX.out.below B1.out BX.out.lt) HNE.out
      have hzg := hbk.lt
      have e0 := hbk.cell 0
      simp only [List.getElem?_toArray, List.getElem?_cons_zero, List.getElem?_cons_succ] at e0
      clear hbk
      clear hpre hψ
      go_simp
      exact hK _ _ γ HR.out (fun _ _ _ _ h => h) (fun _ _ _ h => h) rfl
    · refine ⟨fun hg K hK => ?_, trivial⟩
      clear hg
      clear hpre hψ
      go_simp
      exact hK _ _ γ HR.out (fun _ _ _ _ h => h) (fun _ _ _ h => h) rfl
    · refine ⟨fun hg K hK => ?_, trivial⟩
      clear hg
      have q0 : ev (.tmp 6) = _ := hpre 1 (by decide)
      have q1 : ev (.tmp 7) = _ := hpre 2 (by decide)
      clear hpre hψ
      go_simp
      exact hK _ _ γ HR.out (fun _ _ _ _ h => h) (fun _ _ _ h => h) rfl
    · refine ⟨fun hg K hK => ?_, trivial⟩
      clear hg
      have q0 : ev (.tmp 8) = _ := hpre 3 (by decide)
      clear hpre hψ
      go_simp
      exact hK _ _ γ HR.out (fun _ _ _ _ h => h) (fun _ _ _ h => h) rfl
    · refine ⟨fun hg K hK => ?_, trivial⟩
      clear hg
      have q0 : ev (.tmp 9) = _ := hpre 4 (by decide)
      obtain ⟨cl, ch, zn⟩ := HCC.out W ((below3 B0.out B1.out (Nat.le_refl _)).trans (HR.out.1.below (Nat.le_trans B0.out.size B1.out.size) (fun b e => by rw [e]; have := Zrb.out; have := B0.out.size; omega)))
      clear ch
      clear hpre hψ
      go_simp
      exact hK _ _ γ HR.out (fun _ _ _ _ h => h) (fun _ _ _ h => h) rfl
    · refine ⟨fun hg K hK => ?_, trivial⟩
      clear hg
      clear hpre hψ
      go_simp
      exact hK _ _ γ HR.out (fun _ _ _ _ h => h) (fun _ _ _ h => h) rfl
    · refine ⟨fun hg K hK => ?_, trivial⟩
      clear hg
      have q0 : ev (.tmp 11) = _ := hpre 6 (by decide)
      have hbk := HR.out.1.blk (BX.out.below B1.out BX.out.lt) HNE.out
      have hzg := hbk.lt
      have e0 := hbk.cell 0
      simp only [List.getElem?_toArray, List.getElem?_cons_zero, List.getElem?_cons_succ] at e0
      clear hbk
      clear hpre hψ
      go_simp
      exact hK _ _ γ HR.out (fun _ _ _ _ h => h) (fun _ _ _ h => h) rfl
    · refine ⟨fun hg K hK => ?_, trivial⟩
      clear hg
      clear hpre hψ
      go_simp
      exact hK _ _ γ HR.out (fun _ _ _ _ h => h) (fun _ _ _ h => h) rfl
    · refine ⟨fun hg K hK => ?_, trivial⟩
      clear hg
      have q0 : ev (.tmp 12) = _ := hpre 7 (by decide)
      have q1 : ev (.tmp 13) = _ := hpre 8 (by decide)
      clear hpre hψ
      go_simp
      exact hK _ _ γ HR.out (fun _ _ _ _ h => h) (fun _ _ _ h => h) rfl
    · refine ⟨fun hg K hK => ?_, trivial⟩
      clear hg
      have q0 : ev (.tmp 14) = _ := hpre 9 (by decide)
      clear hpre hψ
      go_simp
      exact hK _ _ γ HR.out (fun _ _ _ _ h => h) (fun _ _ _ h => h) rfl
    · refine ⟨fun hg K hK => ?_, trivial⟩
      clear hg
      have q0 : ev (.tmp 15) = _ := hpre 10 (by decide)
      obtain ⟨cl, ch, zn⟩ := HCC.out W ((below3 B0.out B1.out (Nat.le_refl _)).trans (HR.out.1.below (Nat.le_trans B0.out.size B1.out.size) (fun b e => by rw [e]; have := Zrb.out; have := B0.out.size; omega)))
      clear cl
      clear hpre hψ
      go_simp
      exact hK _ _ γ HR.out (fun _ _ _ _ h => h) (fun _ _ _ h => h) rfl
    · refine ⟨fun hg K hK => ?_, trivial⟩
      clear hg
      have q0 : ev (.tmp 10) = _ := hpre 5 (by decide)
      have q1 : ev (.tmp 16) = _ := hpre 11 (by decide)
      clear hpre hψ
      go_simp
      exact hK _ _ γ HR.out (fun _ _ _ _ h => h) (fun _ _ _ h => h) rfl
    · refine ⟨fun hg K hK => ?_, trivial⟩
      clear hg
      have q0 : ev (.tmp 17) = _ := hpre 12 (by decide)
      obtain ⟨hk9x, v0, v1, hrb⟩ := HR.out
      have d0 := hrb.cell 0
      have d1 := hrb.cell 1
      simp only [List.getElem?_toArray, List.getElem?_cons_zero, List.getElem?_cons_succ] at d0 d1
      have zr := hrb.lt
      have fr := hrb.frozen
      obtain ⟨W', hW'⟩ : ∃ z, z = ((W.setCell ⟨rb, 0, none⟩ (.int .i64 lo)).setCell ⟨rb, 1, none⟩ (.int .i64 hi)) := ⟨_, rfl⟩
      have hkk : Keep (fun b => b = rb) W W' := by rw [hW']; exact (((Keep.refl (fun b => b = rb) W).setCell rfl _).setCell rfl _)
      have hrow : Blk W' rb 138 #[.int .i64 lo, .int .i64 hi] := by
        have h := ((hrb.set_ 0 (.int .i64 lo)).set_ 1 (.int .i64 hi))
        rw [hW']
        simpa using h
      have HX := Lib.hid (And.intro hk9x (And.intro hkk hrow))
      clear hpre hψ hk9x hkk hrow hrb
      go_simp
      rw [← hW']
      obtain ⟨h1, h2, h3⟩ := HX.out
      exact hK undef _ γ ⟨h1.trans h2, _, _, h3⟩ (fun j u hj hne h => losPhi_w hne h) (fun h => absurd rfl h) h3
  · intro vs w3 γ hvl hR hφ
    have q13 := hφ 13 (by decide)
    have HR := Lib.hid hR
    clear hφ hR
    match vs, hvl with
    | [y0, y1, y2, y3, y4, y5, y6, y7, y8, y9, y10, y11, y12, y13], _ =>
    simp only [List.getD_cons_zero, List.getD_cons_succ] at q13
    have HRW := Lib.hid (show Blk w3 rb 138 #[.int .i64 lo, .int .i64 hi] from q13)
    have HF : Hid (Below w.heap.size w w3) := Lib.hid ((below3 B0.out B1.out (Nat.le_refl _)).trans (HR.out.1.below (Nat.le_trans B0.out.size B1.out.size) (fun b e => by rw [e]; have := Zrb.out; have := B0.out.size; omega)))
    clear HR q13
    simp [putAll]
    go_wp2
    refine bodyPost_ret (v := .agg #[.int .i64 lo, .int .i64 hi]) (results_cell_row rfl _ _ rb 138 #[.int .i64 lo, .int .i64 hi] _ _ rfl HRW.out Try.underlying138 rfl (by kernel_rfl)) rfl ?_
    exact ⟨rfl, HF.out⟩
/-- The sons that have been met. -/
def sonsK (c : Ks) (i k : Nat) : List Nat := (List.range k).filter fun j => decide ((c.nd j).up = (i : Int))
theorem sonsK_succ (c : Ks) (i k : Nat) : sonsK c i (k + 1) = if (c.nd k).up = (i : Int) then sonsK c i k ++ [k] else sonsK c i k := by
  unfold sonsK
  rw [List.range_succ, List.filter_append]
  split
  · rename_i h; simp [h]
  · rename_i h; simp [h]
theorem sonsK_le (c : Ks) (i k : Nat) : (sonsK c i k).length ≤ k := by
  have := List.length_filter_le (fun j => decide ((c.nd j).up = (i : Int))) (List.range k)
  simpa [sonsK] using this
theorem own_keep {W W' : World} {z n size : Nat} {e : TypeId} {v : Value} {xs : List Value} (h : W.ownsRow z e size v n xs) (hb : Below W.heap.size W W') : W'.ownsRow z e size v n xs := by
  refine h.kept (grown_of_below hb) ?_
  rcases h.2 with ⟨e, _⟩ | ⟨g, cap, cur, e, _⟩
  · left; rw [e]; rfl
  · right; rw [e]; intro h9; cases h9
def encN (x : Nat) : List Value := [.int .i64 (x : Int)]
theorem encN_int (l : List Nat) : l.flatMap encN = (l.map (fun x => ((x : Nat) : Int))).flatMap encI := by
  induction l with
  | nil => rfl
  | cons x l ih => rw [List.flatMap_cons, List.map_cons, List.flatMap_cons, ih]; rfl
set_option maxRecDepth 100000 in
set_option maxHeartbeats 2000000 in
theorem sons_any (nA vA : Option Addr) (n nc vc i : Nat) (c : Ks) (w : World) (h14 : n ≤ 14) (hin : KsIn w w.heap.size n nA vA c) :
    Calls Try.prog 67 #[.agg #[.slice nA n nc, .slice vA n vc], .int .i64 (i : Int)] w fun e w' => ∃ (A : Option Addr) (ca : Nat), e = .returned (.slice A (sonsL c i).length ca) ∧ w'.ownsRow w.heap.size 3 1 (.slice A (sonsL c i).length ca) (sonsL c i).length ((sonsL c i).flatMap encN) ∧ Below w.heap.size w w' := by
  have HN := Lib.hid (And.intro hin.len h14)
  have HIN := Lib.hid hin
  obtain ⟨i0, hi0, hz0, hz1, hz2⟩ := info_parts intInfo
  have hi := Lib.hid (And.intro hi0 (And.intro hz0 (And.intro hz1 hz2)))
  have g1 : w.heap.size < w.heap.size + 1 := by omega
  clear hin h14 hi0 hz0 hz1 hz2
  go_enter Try.func67, Try.ntmps67
  go_wp2_with fail
  obtain ⟨bx, hbx⟩ : ∃ z, z = w.heap.size := ⟨_, rfl⟩
  obtain ⟨w1, hw1⟩ : ∃ z, z = w.alloc (.cells #[.slice nA n nc, .slice vA n vc] 35) := ⟨_, rfl⟩
  have BX : Hid (Blk w1 bx 35 #[.slice nA n nc, .slice vA n vc]) := Lib.hid (by rw [hw1, hbx]; exact heap_alloc_new w _)
  have Sw1 : Hid (w1.heap.size = bx + 1) := Lib.hid (by rw [hw1, hbx, World.size_alloc])
  have Zbx : Hid (w.heap.size ≤ bx) := Lib.hid (by rw [hbx]; exact Nat.le_refl _)
  have hBn : Below w.heap.size w w1 := by rw [hw1]; exact (Below.refl _ _).alloc (Nat.le_refl _) _
  rw [← hw1, ← hbx]
  have B0 : Hid (Below w.heap.size w w1) := Lib.hid hBn
  clear hw1 hbx hBn
  have hbk := BX.out.below (Below.refl w1.heap.size w1) BX.out.lt
  have d0 := hbk.cell 0
  have d1 := hbk.cell 1
  simp only [List.getElem?_toArray, List.getElem?_cons_zero, List.getElem?_cons_succ] at d0 d1
  have zd := hbk.lt
  clear hbk
  clear g1
  go_wp2
  clear d0 d1 zd
  have HC0 : Hid (Below w1.heap.size w1 w1 ∧ w1.ownsRow w1.heap.size 3 1 (.slice none 0 0) (sonsK c i 0).length ((sonsK c i 0).flatMap encN)) := Lib.hid ⟨Below.refl _ _, World.ownsRow_nil _ _ _ _⟩
  go_loopw [5, 11] (fun lv iv wr => ∃ (k : Nat) (A : Option Addr) (ca : Nat), k ≤ n ∧ lv = .slice A (sonsK c i k).length ca ∧ iv = .int .i64 ((k : Nat) : Int) ∧ Hid (Below w1.heap.size w1 wr ∧ wr.ownsRow w1.heap.size 3 1 (.slice A (sonsK c i k).length ca) (sonsK c i k).length ((sonsK c i k).flatMap encN))) (fun _ iv _ => n - (intOf iv).toNat)
  case atStart => exact ⟨0, none, 0, Nat.zero_le _, rfl, rfl, HC0⟩
  case round =>
    obtain ⟨k, A, ca, hk, rfl, rfl, HW⟩ := hrel
    by_cases hlt : k < n
    · have HLT : Hid (k < n) := Lib.hid hlt
      have hk0 : (0 : Int) ≤ (k : Int) := by omega
      have hkn : (k : Int) < (n : Int) := by omega
      have hk9 : (k : Int) ≤ 14 := by have := HN.out; omega
      have hBB := below3 B0.out HW.out.1 (Nat.le_refl _)
      obtain ⟨nb, no, enA, hb, c0, c1, c2⟩ := (HIN.out.next hBB).ndAt hlt
      obtain ⟨u, hu⟩ : ∃ z, z = (c.nd k).up := ⟨_, rfl⟩
      obtain ⟨lo, hlo⟩ : ∃ z, z = (c.nd k).lo := ⟨_, rfl⟩
      obtain ⟨hi9, hhi⟩ : ∃ z, z = (c.nd k).hi := ⟨_, rfl⟩
      rw [← hu] at c0
      rw [← hlo] at c1
      rw [← hhi] at c2
      have HU := Lib.hid hu
      obtain ⟨ln, hln⟩ : ∃ z, z = (sonsK c i k).length := ⟨_, rfl⟩
      have HLN := Lib.hid hln
      rw [← hln]
      have HL14 : Hid (ln ≤ 14) := Lib.hid (by have := sonsK_le c i k; have := HN.out; omega)
      have g1 : wr.heap.size < wr.heap.size + 1 := by omega
      clear hu hlo hhi hln hlt hBB
      subst enA
      have hBa : Below wr.heap.size wr (wr.alloc (.cells #[.int .i64 u, .int .i64 lo, .int .i64 hi9] 107)) := (Below.refl _ _).alloc (Nat.le_refl _) _
      have HA := Lib.hid (And.intro (below3 HW.out.1 hBa (Nat.le_refl _)) (own_keep HW.out.2 hBa))
      rw [← HLN.out] at HA
      clear hBa
      by_cases hui : u = (i : Int)
      · subst hui
        have hb9 := HW.out.1.size
        have HLS : Hid ((sonsK c i (k + 1)).length = ln + 1 ∧ (sonsK c i (k + 1)).flatMap encN = (sonsK c i k).flatMap encN ++ encN k) := Lib.hid (by
          rw [sonsK_succ, if_pos HU.out.symm]
          exact ⟨by rw [List.length_append, HLN.out]; rfl, by rw [List.flatMap_append]; simp⟩)
        go_wp2_with (at_builtin; refine wpList_append_own_at _ rfl (.tmp 20) (.tmp 22) 22 rfl w1.heap.size 3 i0 (.int .i64 0) 1 8 Try.underlying22 hi.out.1 hi.out.2.1 hi.out.2.2.1 hi.out.2.2.2 rfl (by decide) (.slice A ln ca) ln ((sonsK c i k).flatMap encN) rfl (HA.out.2.alloc _) ⟨wr.heap.size + 1, 0, none⟩ 1 1 [.int .i64 (k : Int)] rfl rfl ?_ ?_ ?_ ?_ ?_ ?_)
        case _ =>
          intro j z hz
          match j, hz with
          | 0, hz =>
            simp only [List.getElem?_cons_zero, Option.some.injEq] at hz
            subst hz
            simp [Addr.add, go_sem]
        case _ => (intro z hz; simp only [List.mem_cons, List.mem_nil_iff, or_false] at hz; subst hz; rfl)
        case _ => simp only [maxLen]; have := HL14.out; omega
        case _ => have := HL14.out; omega
        case _ => simp only [World.size_alloc]; omega
        intro v' wy hown hg8 _ _
        obtain ⟨A9, c9, rfl⟩ := row_slice hown
        have HN9 : Hid (Below w1.heap.size w1 wy ∧ wy.ownsRow w1.heap.size 3 1 (.slice A9 (sonsK c i (k + 1)).length c9) (sonsK c i (k + 1)).length ((sonsK c i (k + 1)).flatMap encN)) := Lib.hid (by
          have h0 : Below (wr.alloc (.cells #[.int .i64 (i : Int), .int .i64 lo, .int .i64 hi9] 107)).heap.size (wr.alloc (.cells #[.int .i64 (i : Int), .int .i64 lo, .int .i64 hi9] 107)) ((wr.alloc (.cells #[.int .i64 (i : Int), .int .i64 lo, .int .i64 hi9] 107)).alloc (.cells #[.int .i64 (k : Int)] 3)) := (Below.refl _ _).alloc (Nat.le_refl _) _
          have h1 := below3 HA.out.1 h0 (Nat.le_refl _)
          have h2 := own_keep HA.out.2 h0
          rw [HLS.out.1, HLS.out.2]
          exact ⟨h1.grown hg8 h1.size (fun r e => (World.ownsRow.lt h2 r e).1), hown⟩)
        have HLS2 : Hid (ln + 1 = (sonsK c i (k + 1)).length) := Lib.hid HLS.out.1.symm
        clear hown hg8 hb9 HA
        go_wp2
        rw [HLS2.out]
        go_roundw
        case rel => exact ⟨k + 1, A9, c9, by have := HLT.out; omega, rfl, by go_num, HN9⟩
        case measure => have := HLT.out; simp [intOf]; omega
      · have HLS : Hid (sonsK c i (k + 1) = sonsK c i k) := Lib.hid (by rw [sonsK_succ, if_neg (by rw [← HU.out]; exact hui)])
        have HN9 : Hid (Below w1.heap.size w1 (wr.alloc (.cells #[.int .i64 u, .int .i64 lo, .int .i64 hi9] 107)) ∧ (wr.alloc (.cells #[.int .i64 u, .int .i64 lo, .int .i64 hi9] 107)).ownsRow w1.heap.size 3 1 (.slice A (sonsK c i (k + 1)).length ca) (sonsK c i (k + 1)).length ((sonsK c i (k + 1)).flatMap encN)) := Lib.hid (by rw [HLS.out, ← HLN.out]; exact HA.out)
        have HLS2 : Hid (ln = (sonsK c i (k + 1)).length) := Lib.hid (by rw [HLS.out]; exact HLN.out)
        clear HA
        go_wp2
        rw [HLS2.out]
        go_roundw
        case rel => exact ⟨k + 1, A, ca, by have := HLT.out; omega, rfl, by go_num, HN9⟩
        case measure => have := HLT.out; simp [intOf]; omega
    · obtain rfl : n = k := by omega
      have HF : Hid (Below w.heap.size w wr ∧ wr.ownsRow w.heap.size 3 1 (.slice A (sonsL c i).length ca) (sonsL c i).length ((sonsL c i).flatMap encN)) := Lib.hid (by
        have e : sonsL c i = sonsK c i n := by unfold sonsL sonsK; rw [HN.out.1]
        rw [e]
        exact ⟨below3 B0.out HW.out.1 (Nat.le_refl _), row_low HW.out.2 B0.out.size⟩)
      have HE : Hid ((sonsK c i n).length = (sonsL c i).length) := Lib.hid (by unfold sonsL sonsK; rw [HN.out.1])
      go_wp2
      go_ret
      rw [HE.out]
      exact ⟨A, ca, rfl, HF.out.2, HF.out.1⟩
end Go.Proofs.Ytcecbohaajocfaa
