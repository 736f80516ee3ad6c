/- law06: a load made of numbers. -/
import Derived.Test.YtnpkcipeacogcaaBkY

set_option linter.unusedSimpArgs false
set_option linter.unusedVariables false
namespace Go.Proofs.Ytnpkcipeacogcaa
open Go.RowKit

/-- Small numbers. -/
def encU (n : Int) : List Value := [.int .u8 n]
def U8s (l : List Int) : Prop := ∀ x ∈ l, 0 ≤ x ∧ x ≤ 255
theorem cellU {w : World} {b o k : Nat} {x : Int} (h : ∀ j u, (encU x)[j]? = some u → w.cell? ⟨b, o + k * 1 + j, none⟩ = some u) : w.cell? ⟨b, o + k, none⟩ = some (.int .u8 x) := by simpa using h 0 _ rfl
theorem U8s.at_ {l : List Int} {k : Nat} {x : Int} (h : U8s l) (hx : l[k]? = some x) : 0 ≤ x ∧ x ≤ 255 := h x (List.mem_of_getElem? hx)
theorem tmod_bd {x n : Int} (h : 0 ≤ x) (hn : 0 < n) : 0 ≤ x.tmod n ∧ x.tmod n < n := ⟨Int.tmod_nonneg _ h, Int.tmod_lt_of_pos _ hn⟩
def ldPhi (base : Nat) (lb : Nat) (lo : Nat) (ln : Nat) (lc : Nat) (j : Nat) (k : Nat) (cA : Option Addr) (cc : Nat) (x0 : Int) (y : Int) (s : Int) (xs : List Value) : Nat → Value → World → (Nat → Nat) → Prop
  | 0, v, _, _ => v = .slice cA k cc
  | 1, v, _, _ => v = .slice (some ⟨lb, lo, none⟩) ln lc
  | 2, v, _, _ => v = .int .i64 j
  | 3, v, _, _ => v = .pointer (some ⟨lb, lo + j, none⟩)
  | 4, v, _, _ => v = .int .u8 x0
  | 5, v, _, _ => v = .int .u8 (x0.tmod 40)
  | 6, v, _, _ => v = .int .i64 (x0.tmod 40)
  | 7, v, _, _ => v = .int .i64 s
  | 8, v, _, _ => v = .slice (some ⟨lb, lo, none⟩) ln lc
  | 9, v, _, _ => v = .int .i64 j
  | 10, v, _, _ => v = .int .i64 ((j : Int) + 1)
  | 11, v, _, _ => v = .pointer (some ⟨lb, lo + ((j : Int) + 1).toNat, none⟩)
  | 12, v, _, _ => v = .int .u8 y
  | 13, v, _, _ => v = .int .i64 y
  | 14, v, _, _ => v = .agg #[.int .i64 s, .int .i64 y]
  | 15, v, W, γ => ∃ B, v = .slice (some ⟨B, 0, none⟩) 1 1 ∧ (γ 0 = 0 → Blk W B 37 ([.int .i64 s, .int .i64 y]).toArray ∧ (.slice cA k cc : Value).ownBlock ≠ some B)
  | 16, v, W, γ => ∃ g' c', v = .slice (some ⟨g', 0, none⟩) (k + 1) c' ∧ γ 0 ≠ 0 ∧ (γ 0 = 2 ∨ W.ownsRow (base) 37 2 (.slice (some ⟨g', 0, none⟩) (k + 1) c') (k + 1) (xs ++ [.int .i64 s, .int .i64 y]))
  | 17, v, W, γ => ∃ g' c', v = .slice (some ⟨g', 0, none⟩) (k + 1) c' ∧ γ 0 ≠ 0 ∧ (γ 0 = 2 ∨ W.ownsRow (base) 37 2 (.slice (some ⟨g', 0, none⟩) (k + 1) c') (k + 1) (xs ++ [.int .i64 s, .int .i64 y]))
  | _, _, _, _ => True
section
variable {W W' : World} {γ : Nat → Nat} {i : Nat} {v : Value} {base : Nat} {lb : Nat} {lo : Nat} {ln : Nat} {lc : Nat} {j : Nat} {k : Nat} {cA : Option Addr} {cc : Nat} {x0 : Int} {y : Int} {s : Int} {xs : List Value}
theorem ldPhi_next (hb : Below W.heap.size W W') (h : ldPhi base lb lo ln lc j k cA cc x0 y s xs i v W γ) : ldPhi base lb lo ln lc j k cA cc x0 y s xs i v W' γ := by
  unfold ldPhi at h ⊢
  split at h
  all_goals first | exact h | trivial | skip
  · obtain ⟨B, h1, h2⟩ := h
    exact ⟨B, h1, fun h0 => ⟨(h2 h0).1.below hb (h2 h0).1.lt, (h2 h0).2⟩⟩
  · obtain ⟨g', c', h1, h2, h3⟩ := h
    exact ⟨g', c', h1, h2, h3.imp id fun h => row_next h hb⟩
  · obtain ⟨g', c', h1, h2, h3⟩ := h
    exact ⟨g', c', h1, h2, h3.imp id fun h => row_next h hb⟩
theorem ldPhi_1 (h0 : γ 0 = 0) (hi : i ≠ 16) (h : ldPhi base lb lo ln lc j k cA cc x0 y s xs i v W γ) : ldPhi base lb lo ln lc j k cA cc x0 y s xs i v W' (fun _ => 1) := by
  unfold ldPhi at h ⊢
  split at h
  all_goals first | exact h | trivial | exact absurd rfl hi | (exfalso; omega) | skip
  · obtain ⟨B, h1, h2⟩ := h
    exact ⟨B, h1, fun h0 => by cases h0⟩
end
def LdOk (s : Spn) : Prop := 1 ≤ s.secs ∧ s.secs ≤ 40 ∧ 0 ≤ s.power ∧ s.power ≤ 255
set_option maxRecDepth 100000 in
set_option maxHeartbeats 4000000 in
theorem Loaded_any (A : Option Addr) (n c : Nat) (l : List Int) (w : World) (hl : Rd w w.heap.size 1 encU A n l) (hu : U8s l) (hn : n ≤ 9223372036854775807) :
    Calls Try.prog 10 #[.slice A n c] w fun e w' => ∃ (A' : Option Addr) (c' : Nat) (L : List Spn), e = .returned (.slice A' L.length c') ∧ Below w.heap.size w w' ∧ w'.ownsRow w.heap.size 37 2 (.slice A' L.length c') L.length (L.flatMap Spn.enc) ∧ L.length ≤ 8 ∧ ∀ s ∈ L, LdOk s := by
  have HL := Lib.hid hl
  have HU := Lib.hid hu
  obtain ⟨i0, hi0, hi1, hi2, hi3⟩ := info_parts spnInfo
  have hi := Lib.hid (And.intro hi0 (And.intro hi1 (And.intro hi2 hi3)))
  clear hl hu hi0 hi1 hi2 hi3
  go_enter Try.func10, Try.ntmps10
  go_wp2
  go_loopw [3, 4] (fun v i wr => ∃ k : Nat, k ≤ 8 ∧ i = .int .i64 ((2 * k : Nat) : Int) ∧ ∃ cA cc, v = .slice cA k cc ∧ Hid (Below w.heap.size w wr) ∧ Hid (∃ L : List Spn, L.length = k ∧ (∀ s ∈ L, LdOk s) ∧ wr.ownsRow w.heap.size 37 2 (.slice cA k cc) k (L.flatMap Spn.enc))) (fun _ i _ => 16 - (intOf i).toNat)
  case atStart => exact ⟨0, by omega, rfl, none, 0, rfl, Lib.hid (by (repeat' (first | (with_reducible exact Below.refl _ _) | (with_reducible assumption) | (with_reducible refine below_drewN ?_ _) | (with_reducible refine below_after (by assumption) ?_ ?_) | (with_reducible refine Below.drew ?_) | (with_reducible refine Below.alloc ?_ ?_ _) | (with_reducible refine Below.setCell ?_ ?_ _) | omega | (simp; omega) | (simp; done)))), Lib.hid ⟨[], rfl, fun s h => by simp at h, World.ownsRow_nil _ _ _ _⟩⟩
  case round =>
    obtain ⟨k, hk, rfl, cA, cc, rfl, HLO, HR0⟩ := hrel
    by_cases hlt : 2 * k + 1 < n ∧ 2 * k < 16
    · obtain ⟨lb, lo, x0, e1, hlb, hx0, hcx⟩ := HL.out.at_ (show 2 * k < n by omega)
      obtain ⟨lb2, lo2, y, e2, hlb2, hy, hcy⟩ := HL.out.at_ (show 2 * k + 1 < n by omega)
      rw [e1] at e2
      obtain ⟨rfl, rfl⟩ : lb = lb2 ∧ lo = lo2 := by simpa using e2
      have hx1 := HU.out.at_ hx0
      have hy1 := HU.out.at_ hy
      obtain ⟨j, hj⟩ : ∃ j, j = 2 * k := ⟨_, rfl⟩
      rw [← hj] at hlt hcx hcy ⊢
      have X0 := Lib.hid (cellU hcx)
      have Y0 := Lib.hid (cellU hcy)
      have hm := tmod_bd (n := 40) hx1.1 (by omega)
      obtain ⟨s, hs⟩ : ∃ s, s = 1 + x0.tmod 40 := ⟨_, rfl⟩
      have w1 : IntKind.i64.wrap (x0.tmod 40) = x0.tmod 40 := IntWalk.i64_in _ (by omega)
      have w2 : IntKind.i64.wrap (1 + x0.tmod 40) = s := by rw [hs]; exact IntWalk.i64_in _ (by omega)
      have w4 : IntKind.i64.wrap y = y := IntWalk.i64_in _ (by omega)
      have w3 : IntKind.i64.wrap ((j : Int) + 1) = (j : Int) + 1 := IntWalk.i64_in _ (by omega)
      have j0 : (0 : Int) ≤ (j : Int) := by omega
      have j1 : (j : Int) < (n : Int) := by omega
      have j2 : (0 : Int) ≤ (j : Int) + 1 := by omega
      have j3 : (j : Int) + 1 < (n : Int) := by omega
      have d1 : decide ((j : Int) + 1 < (n : Int)) = true := decide_eq_true (by omega)
      have d2 : decide ((j : Int) < 16) = true := decide_eq_true (by omega)
      have hz0 := HLO.out.size
      obtain ⟨L, hL1, hL2, hL3⟩ := HR0.out
      obtain ⟨xs, hxs⟩ : ∃ z, z = L.flatMap Spn.enc := ⟨_, rfl⟩
      have HRW : Hid (wr.ownsRow w.heap.size 37 2 (.slice cA k cc) k xs) := Lib.hid (by rw [hxs]; exact hL3)
      have HXS : Hid (xs ++ [.int .i64 s, .int .i64 y] = (L ++ [(⟨s, y⟩ : Spn)]).flatMap Spn.enc) := Lib.hid (by rw [hxs]; simp [Spn.enc])
      have HLL : Hid ((L ++ [(⟨s, y⟩ : Spn)]).length = k + 1 ∧ ∀ z ∈ L ++ [(⟨s, y⟩ : Spn)], LdOk z) := Lib.hid ⟨by simp [hL1], fun z hz => by
        rcases List.mem_append.1 hz with hz | hz
        · exact hL2 z hz
        · rw [List.mem_singleton.1 hz]
          unfold LdOk
          dsimp only
          omega⟩
      subst e1
      clear e2 hx0 hy hcx hcy HR0 hL1 hL2 hL3 hxs HL HU hlb2
      have HJ := Lib.hid hj
      have HS := Lib.hid hs
      clear hj hs hm hx1 hy1
      go_wp2
      refine wp_region_free10 17 (by kernel_rfl) [some 16, some 17, some 18, some 19, some 20, some 21, some 22, some 23, some 24, some 25, some 26, some 27, some 28, some 29, some 30, some 31, some 32, some 3] [[], [], [], [1, 2], [3], [4], [5], [6], [], [], [9], [8, 10], [11], [12], [7, 13], [14], [0, 15], [16, 16, 0, 1, 2, 3, 4, 5, 6, 7, 8, 9, 10, 11, 12, 13, 14, 15, 16]] [(0, .slice (some ⟨lb, lo, none⟩) n c), (3, .slice cA k cc), (4, .int .i64 j)] (PhR (fun W => (Below w.heap.size w) W ∧ W.ownsRow (w.heap.size) 37 2 (.slice cA k cc) (k) (xs)) (Below w.heap.size w) (fun _ => False)) (ldPhi w.heap.size lb lo n c j k cA cc x0 y s xs) (phPsi 16) (by kernel_rfl) (by kernel_rfl) rfl (by kernel_rfl) ?_ ?_ ⟨fun _ => 0, PhR.begin ⟨HLO.out.drew, HRW.out⟩, fun i _ => phPsi_0⟩ ?_ ?_
      · intro z hz
        simp only [List.mem_cons, List.mem_nil_iff, or_false] at hz
        rcases hz with rfl | rfl | rfl
        all_goals exact ⟨by kernel_rfl, rfl⟩
      · intro i v W γ hi h
        rcases i with _ | _ | _ | _ | _ | _ | _ | _ | _ | _ | _ | _ | _ | _ | _ | _ | _ | _ | i
        all_goals first | exact h | (simp at hi)
      · refine ⟨?_, ?_, ?_, ?_, ?_, ?_, ?_, ?_, ?_, ?_, ?_, ?_, ?_, ?_, ?_, ?_, ?_, ?_, trivial⟩
        all_goals
          intro a W γ evv hcc hff hfx hR hψ hpre
          simp only [List.mem_cons, List.mem_nil_iff, or_false, forall_eq, forall_eq_or_imp] at hfx
          obtain ⟨f0, f1, f2⟩ := hfx
          have HR := Lib.hid hR
          clear hR
          refine ⟨fun _ K hK => ?_, trivial⟩

        · clear hpre hψ
          go_simp
          exact hK _ _ γ HR.out (fun _ _ _ _ h => h) (fun _ _ _ h => h) rfl
        · clear hpre hψ
          go_simp
          exact hK _ _ γ HR.out (fun _ _ _ _ h => h) (fun _ _ _ h => h) rfl
        · clear hpre hψ
          go_simp
          exact hK _ _ γ HR.out (fun _ _ _ _ h => h) (fun _ _ _ h => h) rfl
        · have q0 : evv (.tmp 17) = _ := hpre 1 (by decide)
          have q1 : evv (.tmp 18) = _ := hpre 2 (by decide)
          clear hpre hψ
          go_simp
          exact hK _ _ γ HR.out (fun _ _ _ _ h => h) (fun _ _ _ h => h) rfl
        · have q0 : evv (.tmp 19) = _ := hpre 3 (by decide)
          have HF := ap_F HR.out (hψ.2 (by decide))
          have hf := (ap_F HR.out (hψ.2 (by decide)) : Below w.heap.size w W)
          have hzz := hf.size
          have d0 : W.cell? ⟨lb, lo + j, none⟩ = some (.int .u8 x0) := (hf.cell (p := ⟨lb, lo + j, none⟩) hlb).trans X0.out
          have d1 : W.cell? ⟨lb, lo + (j + 1), none⟩ = some (.int .u8 y) := (hf.cell (p := ⟨lb, lo + (j + 1), none⟩) hlb).trans Y0.out
          have hzf : lb < W.heap.size := by omega
          clear hf
          clear hpre hψ
          go_simp
          exact hK _ _ γ HR.out (fun _ _ _ _ h => h) (fun _ _ _ h => h) rfl
        · have q0 : evv (.tmp 20) = _ := hpre 4 (by decide)
          clear hpre hψ
          go_simp
          exact hK _ _ γ HR.out (fun _ _ _ _ h => h) (fun _ _ _ h => h) rfl
        · have q0 : evv (.tmp 21) = _ := hpre 5 (by decide)
          clear hpre hψ
          go_simp
          exact hK _ _ γ HR.out (fun _ _ _ _ h => h) (fun _ _ _ h => h) rfl
        · have q0 : evv (.tmp 22) = _ := hpre 6 (by decide)
          clear hpre hψ
          go_simp
          exact hK _ _ γ HR.out (fun _ _ _ _ h => h) (fun _ _ _ h => h) rfl
        · clear hpre hψ
          go_simp
          exact hK _ _ γ HR.out (fun _ _ _ _ h => h) (fun _ _ _ h => h) rfl
        · clear hpre hψ
          go_simp
          exact hK _ _ γ HR.out (fun _ _ _ _ h => h) (fun _ _ _ h => h) rfl
        · have q0 : evv (.tmp 25) = _ := hpre 9 (by decide)
          clear hpre hψ
          go_simp
          exact hK _ _ γ HR.out (fun _ _ _ _ h => h) (fun _ _ _ h => h) rfl
        · have q0 : evv (.tmp 24) = _ := hpre 8 (by decide)
          have q1 : evv (.tmp 26) = _ := hpre 10 (by decide)
          clear hpre hψ
          go_simp
          exact hK _ _ γ HR.out (fun _ _ _ _ h => h) (fun _ _ _ h => h) rfl
        · have q0 : evv (.tmp 27) = _ := hpre 11 (by decide)
          have HF := ap_F HR.out (hψ.2 (by decide))
          have hf := (ap_F HR.out (hψ.2 (by decide)) : Below w.heap.size w W)
          have hzz := hf.size
          have d0 : W.cell? ⟨lb, lo + j, none⟩ = some (.int .u8 x0) := (hf.cell (p := ⟨lb, lo + j, none⟩) hlb).trans X0.out
          have d1 : W.cell? ⟨lb, lo + (j + 1), none⟩ = some (.int .u8 y) := (hf.cell (p := ⟨lb, lo + (j + 1), none⟩) hlb).trans Y0.out
          have hzf : lb < W.heap.size := by omega
          clear hf
          clear hpre hψ
          go_simp
          exact hK _ _ γ HR.out (fun _ _ _ _ h => h) (fun _ _ _ h => h) rfl
        · have q0 : evv (.tmp 28) = _ := hpre 12 (by decide)
          clear hpre hψ
          go_simp
          exact hK _ _ γ HR.out (fun _ _ _ _ h => h) (fun _ _ _ h => h) rfl
        · have q0 : evv (.tmp 23) = _ := hpre 7 (by decide)
          have q1 : evv (.tmp 29) = _ := hpre 13 (by decide)
          clear hpre hψ
          go_simp
          exact hK _ _ γ HR.out (fun _ _ _ _ h => h) (fun _ _ _ h => h) rfl
        · have q0 : evv (.tmp 30) = _ := hpre 14 (by decide)
          clear hpre
          go_simp
          have hB5 : Below W.heap.size W (W.alloc (.cells #[.int .i64 s, .int .i64 y] 37)) := (Below.refl _ _).alloc (Nat.le_refl _) _
          exact hK _ _ γ (ap_next (fun W W' h hb => h.trans (hb.mono h.size)) (fun W W' h k => row_next h k) (hψ.2 (by decide)) HR.out hB5) (fun j u _ _ h => ldPhi_next hB5 h) (fun _ _ _ h => h) ⟨W.heap.size, rfl, fun h0 => ⟨heap_alloc_new W _, ap_own_lt (PhR.is0 HR.out h0).2⟩⟩
        · have q0 : evv (.tmp 16) = _ := hpre 0 (by decide)
          have hγ : γ 0 = 0 := hψ.1 rfl
          obtain ⟨B, q1, hB⟩ := hpre 15 (by decide)
          obtain ⟨hB2, hB1⟩ := hB hγ
          replace q1 : evv (.tmp 31) = _ := q1
          have h0 := PhR.is0 HR.out hγ
          have hrow := h0.2
          obtain ⟨v', W', hr, h2, h3, _, _⟩ := run_append_own_at (P := Try.prog) W (w.heap.size) 28 28 37 i0 (.agg #[.int .i64 0, .int .i64 0]) 2 16 Try.underlying28 hi.out.1 hi.out.2.1 hi.out.2.2.1 hi.out.2.2.2 rfl (by decide) (.slice cA k cc) (k) (xs) hrow ⟨B, 0, none⟩ 1 1 ([.int .i64 s, .int .i64 y]) rfl (fun j u hj => by
            rw [add0, Blk.cell hB2]
            simpa using hj) (by intro u hu; simp only [List.mem_cons, List.mem_nil_iff, or_false] at hu; rcases hu with rfl | rfl <;> rfl) (by simp only [maxLen]; omega) (by omega) ((fun W (h : Below w.heap.size w W) => h.size) _ h0.1)
          unfold execOp
          simp only [resolve, invoke, builtin, Sem.run_bind, Sem.run_pure, Result.andThen_ok, List.map_toArray, List.map_cons, List.map_nil, q0, q1, hr]
          obtain ⟨g', c', e'⟩ := ownsRow_succ h2
          subst e'
          refine hK _ W' (fun _ => 1) (PhR.to1 ((fun (W W' : World) (h : Below w.heap.size w W) (hr : W.ownsRow w.heap.size 37 2 (.slice cA k cc) k xs) (hg : W.grownBy W' (Value.slice cA k cc).ownBlock) => h.grown hg h.size (fun r e => (World.ownsRow.lt hr r e).1)) _ _ h0.1 hrow h3)) (fun j u hj hne h => ldPhi_1 hγ hne h) (fun _ j h1 h2 => phPsi_1 h1) ⟨g', c', rfl, by decide, Or.inr h2⟩
        · obtain ⟨g', c', q0, hne, hrow⟩ := hpre 16 (by decide)
          replace q0 : evv (.tmp 32) = _ := q0
          go_simp
          exact hK _ W γ HR.out (fun _ _ _ _ h => h) (fun h => absurd rfl h) ⟨g', c', rfl, hne, hrow⟩
      · intro vs w' γ hvl hR hφ
        have qe := hφ 17 (by decide)
        have HR := Lib.hid hR
        clear hφ hR
        match vs, hvl with
        | [y0, y1, y2, y3, y4, y5, y6, y7, y8, y9, y10, y11, y12, y13, y14, y15, y16, y17], _ =>
        simp only [List.getD_cons_zero, List.getD_cons_succ] at qe
        obtain ⟨g', c', e17, hne, hrow⟩ := qe
        subst e17
        have hlow := ap_F HR.out (fun e2 => (PhR.is2 HR.out e2).elim)
        have hrow := hrow.resolve_left (fun e2 => (PhR.is2 HR.out e2).elim)
        have HLW := Lib.hid hlow
        have HRO := Lib.hid hrow
        clear hlow hrow HR hne
        simp [putAll]
        go_wp2
        go_roundw
        case rel => exact ⟨k + 1, by have := HJ.out; omega, (by have := HJ.out; go_num), _, _, rfl, HLW, Lib.hid ⟨_, HLL.out.1, HLL.out.2, by rw [← HXS.out]; exact HRO.out⟩⟩
        case measure => simp [intOf]; omega
    · have HJ := Lib.hid hlt
      have j0 : IntKind.i64.wrap (((2 * k : Nat) : Int) + 1) = ((2 * k : Nat) : Int) + 1 := IntWalk.i64_in _ (by omega)
      obtain ⟨j, hj⟩ : ∃ j, j = 2 * k := ⟨_, rfl⟩
      rw [← hj] at j0 HJ ⊢
      have HK := Lib.hid hj
      clear hj hlt
      by_cases d1 : j + 1 < n
      · have d2 : decide ((j : Int) + 1 < (n : Int)) = true := decide_eq_true (by omega)
        have d3 : decide ((j : Int) < 16) = false := decide_eq_false (by have := HJ.out; omega)
        go_wp2
        go_ret
        obtain ⟨L, h1, h2, h3⟩ := HR0.out
        subst h1
        exact ⟨cA, cc, L, rfl, HLO.out, h3, hk, h2⟩
      · have d2 : decide ((j : Int) + 1 < (n : Int)) = false := decide_eq_false (by omega)
        go_wp2
        go_ret
        obtain ⟨L, h1, h2, h3⟩ := HR0.out
        subst h1
        exact ⟨cA, cc, L, rfl, HLO.out, h3, hk, h2⟩
end Go.Proofs.Ytnpkcipeacogcaa
