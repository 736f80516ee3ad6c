/- keep: keeps, leastControl. -/
import Derived.Test.YtalngalikblgkaaKpB

set_option linter.unusedSimpArgs false
set_option linter.unusedVariables false
namespace Go.Proofs.Ytalngalikblgkaa
open Go.RowKit

/-- A certificate as a value: a game's five cells, and its own three. -/
def cvA (S C H : Nat) (nA gA iA cA rA : Option Addr) (nn nc gn gc iN ic cn cc rn rc : Nat) : Array Value := #[.int .i64 (S : Int), .int .i64 (C : Int), .int .i64 (H : Int), .slice nA nn nc, .slice gA gn gc, .slice iA iN ic, .slice cA cn cc, .slice rA rn rc]
def kpPhi (bx S C H s u : Nat) (nA gA iA cA rA : Option Addr) (nn nc gn gc iN ic cn cc rn rc : Nat) (sl : List Int) (r : Bool) : Nat → Value → World → (Nat → Nat) → Prop
  | 0, v, _, _ => v = .pointer (some ⟨bx, 0, none⟩)
  | 1, v, _, _ => v = .agg #[.int .i64 (S : Int), .int .i64 (C : Int), .int .i64 (H : Int), .slice nA nn nc, .slice gA gn gc]
  | 2, v, _, _ => v = .int .i64 (s : Int)
  | 3, v, _, _ => v = .int .i64 (u : Int)
  | 4, v, W, _ => ∃ A c, v = .slice A H c ∧ Rd W W.heap.size 1 encI A H sl
  | 5, v, _, _ => v = .agg #[.int .i64 (S : Int), .int .i64 (C : Int), .int .i64 (H : Int), .slice nA nn nc, .slice gA gn gc, .slice iA iN ic, .slice cA cn cc, .slice rA rn rc]
  | 6, v, _, _ => v = .func (.func 80) #[.agg #[.int .i64 (S : Int), .int .i64 (C : Int), .int .i64 (H : Int), .slice nA nn nc, .slice gA gn gc, .slice iA iN ic, .slice cA cn cc, .slice rA rn rc]] #[]
  | 7, v, _, _ => v = .bool r
  | 8, v, _, _ => v = .bool r
  | _, _, _, _ => True
theorem kpPhi_next {bx S C H s u : Nat} {nA gA iA cA rA : Option Addr} {nn nc gn gc iN ic cn cc rn rc : Nat} {sl : List Int} {r : Bool} {j : Nat} {v : Value} {W W' : World} {γ : Nat → Nat} (hb : Below W.heap.size W W') (h : kpPhi bx S C H s u nA gA iA cA rA nn nc gn gc iN ic cn cc rn rc sl r j v W γ) : kpPhi bx S C H s u nA gA iA cA rA nn nc gn gc iN ic cn cc rn rc sl r j v W' γ := by
  unfold kpPhi at h ⊢
  split at h
  all_goals first | exact h | trivial | skip
  obtain ⟨A, c, k1, k2⟩ := h
  exact ⟨A, c, k1, k2.next hb⟩
set_option maxRecDepth 100000 in
set_option maxHeartbeats 2000000 in
theorem keeps_any (nA gA iA cA rA : Option Addr) (nn nc gn gc iN ic cn cc rn rc : Nat) (g : Gm) (inn : List Bool) (s u : Nat) (w : World) (hin : GmIn w w.heap.size ⟨nA, gA, nn, nc, gn, gc⟩ g) (ok : GmOk g) (hI : Rd w w.heap.size 1 encB iA iN inn) (hiN : iN = g.S) (hs : s < g.S) (hu : u < g.C) :
    Calls Try.prog 72 #[.agg #[.int .i64 (g.S : Int), .int .i64 (g.C : Int), .int .i64 (g.H : Int), .slice nA nn nc, .slice gA gn gc, .slice iA iN ic, .slice cA cn cc, .slice rA rn rc], .int .i64 (s : Int), .int .i64 (u : Int)] w fun e w' => e = .returned (.bool (keepB g inn s u)) ∧ Below w.heap.size w w' := by
  obtain ⟨r, hr⟩ : ∃ r, r = keepB g inn s u := ⟨_, rfl⟩
  have KA0 := Lib.hid (fun W (h : Below w.heap.size w W) => (after_any nA gA nn nc gn gc g s u W (hin.next' h) ok hs hu).mono (R' := fun e w' => ∃ A c, e = .returned (.slice A g.H c) ∧ Below W.heap.size W w' ∧ Rd W W.heap.size 1 encI A g.H (subL g s u)) (fun e w' h => h))
  have KF0 := Lib.hid (fun (A : Option Addr) (c : Nat) W (h : Below w.heap.size w W) (hrd : Rd W W.heap.size 1 encI A g.H (subL g s u)) => by
    have h1 := all_any A g.H c (subL g s u) 80 (.agg #[.int .i64 (g.S : Int), .int .i64 (g.C : Int), .int .i64 (g.H : Int), .slice nA nn nc, .slice gA gn gc, .slice iA iN ic, .slice cA cn cc, .slice rA rn rc]) (isInB inn) W (enters_of Try.func80 (by kernel_rfl) rfl) hrd (by have := ok.h1; omega) (fun x hx W' hW' => isIn_any g.S g.C g.H nA gA iA cA rA nn nc gn gc iN ic cn cc rn rc inn x W' ((hI.next h).next hW') (by have := sub_bd ok hx; omega))
    have h2 : (subL g s u).all (isInB inn) = r := hr.symm
    rw [h2] at h1
    exact h1)
  rw [← hr]
  obtain ⟨S, C, H, next, good⟩ := g
  dsimp only at *
  clear hin ok hI hiN hs hu hr
  go_enter Try.func72, Try.ntmps72
  go_wp2
  obtain ⟨bx, hbx⟩ : ∃ z, z = w.heap.size := ⟨_, rfl⟩
  obtain ⟨w1, hw1⟩ : ∃ z, z = w.alloc (.cells #[.int .i64 (S : Int), .int .i64 (C : Int), .int .i64 (H : Int), .slice nA nn nc, .slice gA gn gc, .slice iA iN ic, .slice cA cn cc, .slice rA rn rc] 92) := ⟨_, rfl⟩
  have hi1 : Below w.heap.size w w1 := by rw [hw1]; exact (Below.refl _ _).alloc (Nat.le_refl _) _
  have HBX : Hid (Blk w1 bx 92 #[.int .i64 (S : Int), .int .i64 (C : Int), .int .i64 (H : Int), .slice nA nn nc, .slice gA gn gc, .slice iA iN ic, .slice cA cn cc, .slice rA rn rc]) := Lib.hid (by rw [hw1, hbx]; exact heap_alloc_new w _)
  rw [← hw1, ← hbx]
  have HL := Lib.hid hi1
  have KA := Lib.hid (fun W (h : Below w1.heap.size w1 W) => KA0.out W (below3 HL.out h (Nat.le_refl _)))
  have KF := Lib.hid (fun (A : Option Addr) (c : Nat) W (h : Below w1.heap.size w1 W) hrd => KF0.out A c W (below3 HL.out h (Nat.le_refl _)) hrd)
  clear hw1 hbx hi1 KA0 KF0
  refine wp_region_free10 8 (by kernel_rfl) [some 7, some 8, some 9, some 10, some 11, some 12, some 13, some 14, some 6] [[], [0], [], [], [1, 2, 3], [], [5], [4, 6, 4], [7, 7, 0, 1, 2, 3, 4, 5, 6, 7]] [(3, .pointer (some ⟨bx, 0, none⟩)), (1, .int .i64 (s : Int)), (2, .int .i64 (u : Int))] (fun W _ => Below w1.heap.size w1 W) (kpPhi bx S C H s u nA gA iA cA rA nn nc gn gc iN ic cn cc rn rc (subL ⟨S, C, H, next, good⟩ s u) r) (fun _ _ _ => True) (by kernel_rfl) (by kernel_rfl) rfl (by kernel_rfl) ?_ ?_ ⟨fun _ => 0, (Below.refl _ _).drew, fun i _ => trivial⟩ ?_ ?_
  · intro z hz
    simp only [List.mem_cons, List.mem_nil_iff, or_false] at hz
    rcases hz with rfl | rfl | rfl
    all_goals exact ⟨by kernel_rfl, rfl⟩
  · intro i v W γ hi h
    rcases i with _ | _ | _ | _ | _ | _ | _ | _ | _ | i
    all_goals first | exact h | (simp at hi)
  · refine ⟨?_, ?_, ?_, ?_, ?_, ?_, ?_, ?_, ?_, trivial⟩
    all_goals
      intro a W γ ev hcc hff hfx hR hψ hpre
      simp only [List.mem_cons, List.mem_nil_iff, or_false, forall_eq, forall_eq_or_imp] at hfx
      obtain ⟨f0, f1, f2⟩ := hfx
      have HR := Lib.hid hR
      clear hR
      refine ⟨fun _ K hK => ?_, trivial⟩

    · clear hpre hψ
      go_simp
      exact hK _ _ γ HR.out (fun _ _ _ _ h => h) (fun _ _ _ h => h) rfl
    · have q0 : ev (.tmp 7) = _ := hpre 0 (by decide)
      have hzz : bx < W.heap.size := Nat.lt_of_lt_of_le HBX.out.lt (HR.out : Below w1.heap.size w1 W).size
      have hbk := HBX.out.below (HR.out : Below w1.heap.size w1 W) HBX.out.lt
      have c0 := hbk.cell 0
      have c1 := hbk.cell 1
      have c2 := hbk.cell 2
      have c3 := hbk.cell 3
      have c4 := hbk.cell 4
      have c5 := hbk.cell 5
      have c6 := hbk.cell 6
      have c7 := hbk.cell 7
      simp only [List.getElem?_toArray, List.getElem?_cons_zero, List.getElem?_cons_succ] at c0 c1 c2 c3 c4 c5 c6 c7
      clear hbk
      clear hpre hψ
      go_simp
      exact hK _ _ γ HR.out (fun _ _ _ _ h => h) (fun _ _ _ h => h) rfl
    · clear hpre hψ
      go_simp
      exact hK _ _ γ HR.out (fun _ _ _ _ h => h) (fun _ _ _ h => h) rfl
    · clear hpre hψ
      go_simp
      exact hK _ _ γ HR.out (fun _ _ _ _ h => h) (fun _ _ _ h => h) rfl
    · have q0 : ev (.tmp 8) = _ := hpre 1 (by decide)
      have q1 : ev (.tmp 9) = _ := hpre 2 (by decide)
      have q2 : ev (.tmp 10) = _ := hpre 3 (by decide)
      have C := Lib.hid (KA.out W (HR.out : Below w1.heap.size w1 W))
      have HRW9 : Hid (Below w1.heap.size w1 W) := HR
      clear hpre
      go_simp
      refine C.out.mono ?_
      rintro e w5 ⟨A, c, rfl, hB5, hrd⟩
      exact hK _ w5 γ (below3 HRW9.out hB5 (Nat.le_refl _)) (fun j u _ _ h => kpPhi_next hB5 h) (fun _ _ _ h => h) ⟨A, c, rfl, hrd.next hB5⟩
    · have hzz : bx < W.heap.size := Nat.lt_of_lt_of_le HBX.out.lt (HR.out : Below w1.heap.size w1 W).size
      have hbk := HBX.out.below (HR.out : Below w1.heap.size w1 W) HBX.out.lt
      have c0 := hbk.cell 0
      have c1 := hbk.cell 1
      have c2 := hbk.cell 2
      have c3 := hbk.cell 3
      have c4 := hbk.cell 4
      have c5 := hbk.cell 5
      have c6 := hbk.cell 6
      have c7 := hbk.cell 7
      simp only [List.getElem?_toArray, List.getElem?_cons_zero, List.getElem?_cons_succ] at c0 c1 c2 c3 c4 c5 c6 c7
      clear hbk
      clear hpre hψ
      go_simp
      exact hK _ _ γ HR.out (fun _ _ _ _ h => h) (fun _ _ _ h => h) rfl
    · have q0 : ev (.tmp 12) = _ := hpre 5 (by decide)
      clear hpre hψ
      go_simp
      exact hK _ _ γ HR.out (fun _ _ _ _ h => h) (fun _ _ _ h => h) rfl
    · have q0 : ev (.tmp 13) = _ := hpre 6 (by decide)
      obtain ⟨A, c, q1, hrd⟩ := hpre 4 (by decide)
      replace q1 : ev (.tmp 11) = _ := q1
      have C := Lib.hid (KF.out A c W (HR.out : Below w1.heap.size w1 W) hrd)
      have HRW9 : Hid (Below w1.heap.size w1 W) := HR
      clear hpre hrd
      go_simp
      refine C.out.mono ?_
      rintro e w5 ⟨rfl, hB5⟩
      exact hK _ w5 γ (below3 HRW9.out hB5 (Nat.le_refl _)) (fun j u _ _ h => kpPhi_next hB5 h) (fun _ _ _ h => h) rfl
    · have q0 : ev (.tmp 14) = _ := hpre 7 (by decide)
      clear hpre hψ
      go_simp
      exact hK _ _ γ HR.out (fun _ _ _ _ h => h) (fun _ _ _ h => h) rfl
  · intro vs w' γ hvl hR hφ
    have q8 := hφ 8 (by decide)
    have HR := Lib.hid hR
    clear hφ hR
    match vs, hvl with
    | [y0, y1, y2, y3, y4, y5, y6, y7, y8], _ =>
    simp only [List.getD_cons_zero, List.getD_cons_succ] at q8
    subst q8
    have HLR := Lib.hid (below3 HL.out HR.out (Nat.le_refl _))
    clear HR
    simp [putAll]
    go_wp2
    go_ret
    exact ⟨rfl, HLR.out⟩
/-- The least number below n with which p is true, or -1. -/
def leastF (p : Nat → Bool) (n : Nat) : Int := match (List.range n).find? p with
  | some u => (u : Int)
  | none => -1
theorem leastF_yes {p : Nat → Bool} {n k : Nat} (hk : k < n) (h : ∀ u < k, p u = false) (hp : p k = true) : leastF p n = (k : Int) := by
  unfold leastF
  have : (List.range n).find? p = some k := by
    rw [List.find?_eq_some_iff_append]
    refine ⟨hp, List.range k, (List.range' (k + 1) (n - (k + 1))), ?_, fun a ha => by rw [h a (List.mem_range.1 ha)]; rfl⟩
    rw [List.range_eq_range', List.range_eq_range']
    have h1 := List.range'_append (s := 0) (m := k) (n := n - k) (step := 1)
    rw [show k + (n - k) = n by omega] at h1
    rw [← h1, show 0 + 1 * k = k by omega, show n - k = (n - (k + 1)) + 1 by omega, List.range'_succ]
  rw [this]
theorem leastF_no {p : Nat → Bool} {n : Nat} (h : ∀ u < n, p u = false) : leastF p n = -1 := by
  unfold leastF
  have : (List.range n).find? p = none := List.find?_eq_none.2 fun x hx => by rw [h x (List.mem_range.1 hx)]; decide
  rw [this]
set_option maxRecDepth 100000 in
theorem least_any (nA gA : Option Addr) (nn nc gn gc : Nat) (S C H s : Nat) (m : FuncId) (bv : Value) (p : Nat → Bool) (w : World) (eg : ∀ args W, Sem.run Try.prog (callFunc m args) W = .ok (.enter m args) W) (hC : C ≤ 16) (hp : ∀ u < C, ∀ W, Below w.heap.size w W → Calls Try.prog m #[bv, .int .i64 (s : Int), .int .i64 (u : Int)] W fun e w' => e = .returned (.bool (p u)) ∧ Below W.heap.size W w') :
    Calls Try.prog 71 #[.agg #[.int .i64 (S : Int), .int .i64 (C : Int), .int .i64 (H : Int), .slice nA nn nc, .slice gA gn gc], .int .i64 (s : Int), .func (.func m) #[bv] #[]] w fun e w' => e = .returned (.int .i64 (leastF p C)) ∧ Below w.heap.size w w' := by
  have HP := Lib.hid hp
  have EG := Lib.hid eg
  clear hp
  go_enter Try.func71, Try.ntmps71
  go_wp2
  have HL0 := Lib.hid ((Below.refl w.heap.size w).alloc (Nat.le_refl _) (.cells #[.int .i64 (S : Int), .int .i64 (C : Int), .int .i64 (H : Int), .slice nA nn nc, .slice gA gn gc] 25))
  go_loopw [10] (fun i wr => ∃ k : Nat, k ≤ C ∧ i = .int .i64 k ∧ Hid (Below w.heap.size w wr ∧ ∀ u < k, p u = false)) (fun i _ => C - (intOf i).toNat)
  case atStart => exact ⟨0, by omega, rfl, Lib.hid ⟨HL0.out, fun u hu => absurd hu (by omega)⟩⟩
  case round =>
    obtain ⟨k, hk, rfl, hB⟩ := hrel
    by_cases hlt : k < C
    · have K := Lib.hid (HP.out k hlt wr hB.out.1)
      have hkn : (k : Int) < (C : Int) := by omega
      obtain ⟨q, hq⟩ : ∃ q, q = p k := ⟨_, rfl⟩
      have HQ := Lib.hid hq
      rw [← hq] at K
      clear hq
      cases q
      · go_wp2_with fail
        refine K.out.mono ?_
        rintro e w2 ⟨rfl, hB2⟩
        have HB2 : Hid (Below w.heap.size w w2 ∧ ∀ u < k + 1, p u = false) := Lib.hid ⟨below3 hB.out.1 hB2 (Nat.le_refl _), fun u hu => by
          rcases Nat.lt_succ_iff_lt_or_eq.1 hu with h | h
          · exact hB.out.2 u h
          · rw [h]; exact HQ.out.symm⟩
        clear hB2
        go_wp2
        go_roundw
        case rel => exact ⟨k + 1, by omega, by go_num, HB2⟩
        case measure => simp [intOf]; omega
      · go_wp2_with fail
        refine K.out.mono ?_
        rintro e w2 ⟨rfl, hB2⟩
        have HB2 := Lib.hid (below3 hB.out.1 hB2 (Nat.le_refl _))
        clear hB2
        go_wp2
        go_ret
        exact ⟨by rw [leastF_yes hlt hB.out.2 HQ.out.symm]; rfl, HB2.out⟩
    · obtain rfl : C = k := by omega
      go_wp2
      go_ret
      exact ⟨by rw [leastF_no hB.out.2]; rfl, hB.out.1⟩
/-- The least control that keeps a state, or -1. -/
def leastK (g : Gm) (inn : List Bool) (s : Nat) : Int := leastF (keepB g inn s) g.C
theorem leastK_any (nA gA iA cA rA : Option Addr) (nn nc gn gc iN ic cn cc rn rc : Nat) (g : Gm) (inn : List Bool) (s : Nat) (w : World) (hin : GmIn w w.heap.size ⟨nA, gA, nn, nc, gn, gc⟩ g) (ok : GmOk g) (hI : Rd w w.heap.size 1 encB iA iN inn) (hiN : iN = g.S) (hs : s < g.S) :
    Calls Try.prog 71 #[.agg #[.int .i64 (g.S : Int), .int .i64 (g.C : Int), .int .i64 (g.H : Int), .slice nA nn nc, .slice gA gn gc], .int .i64 (s : Int), .func (.func 72) #[.agg #[.int .i64 (g.S : Int), .int .i64 (g.C : Int), .int .i64 (g.H : Int), .slice nA nn nc, .slice gA gn gc, .slice iA iN ic, .slice cA cn cc, .slice rA rn rc]] #[]] w fun e w' => e = .returned (.int .i64 (leastK g inn s)) ∧ Below w.heap.size w w' :=
  least_any nA gA nn nc gn gc g.S g.C g.H s _ _ (keepB g inn s) w (enters_of Try.func72 (by kernel_rfl) rfl) ok.c1 (fun u hu W hW => keeps_any nA gA iA cA rA nn nc gn gc iN ic cn cc rn rc g inn s u W (hin.next' hW) ok (hI.next hW) hiN hs hu)
end Go.Proofs.Ytalngalikblgkaa
