/- law07: sorted. -/
import Derived.Test.YtldbciflpnhfpaaHtQ
import Derived.Lib.MinMax

set_option linter.unusedSimpArgs false
set_option linter.unusedVariables false
namespace Go.Proofs.Ytldbciflpnhfpaa
open Go.RowKit

theorem rowI_at {w : World} {b : Nat} {T : TypeId} {A : Option Addr} {l : List Int} {k : Nat} {x : Int} (h : RowW w b T encI A l) (hx : l[k]? = some x) : w.cell? ⟨b, k, none⟩ = some (.int .i64 x) := by
  have h2 := (h.at_ (size := 1) (fun _ => rfl) hx).2.2.2 0 _ rfl
  simpa using h2
theorem rowI_set {w : World} {b : Nat} {T : TypeId} {A : Option Addr} {l : List Int} {k : Nat} {x : Int} (h : RowW w b T encI A l) (hx : l[k]? = some x) (y : Int) : RowW (w.setCell ⟨b, k, none⟩ (.int .i64 y)) b T encI A (l.set k y) := by
  have h2 := h.set_ (size := 1) (fun _ => rfl) (x' := y) (j := 0) (u := .int .i64 y) hx (by decide) rfl
  simpa using h2
theorem RowW.below9 {α : Type} {w w' : World} {b : Nat} {T : TypeId} {f : α → List Value} {A : Option Addr} {l : List α} (h : RowW w b T f A l) (hb : Below w.heap.size w w') : RowW w' b T f A l := h.kept (fun _ cur hc => hc.below hb hc.lt)
theorem RowW.apart {α : Type} {w w' : World} {b r : Nat} {T U : TypeId} {f : α → List Value} {A : Option Addr} {l : List α} {cs : Array Value} (h : RowW w b T f A l) (hk : Keep (fun z => z = r) w w') (hr : Blk w r U cs) (hT : T ≠ U) : RowW w' b T f A l := h.kept (fun _ cur hc => hk.blk hc (fun e => blk_ne hc hr hT e))
/-- A list of which so many numbers are new. -/
def smL (f : Nat → Int) (a : List Int) (n k : Nat) : List Int := (List.range n).map (fun i => if i < k then f i else a.getD i 0)
theorem smL_get {f : Nat → Int} {a : List Int} {n k i : Nat} (hi : i < n) : (smL f a n k)[i]? = some (if i < k then f i else a.getD i 0) := by simp [smL, hi]
theorem smL_len (f : Nat → Int) (a : List Int) (n k : Nat) : (smL f a n k).length = n := by simp [smL]
theorem smL_zero {f : Nat → Int} {a : List Int} {n : Nat} (h : a.length = n) : smL f a n 0 = a := by
  apply List.ext_getElem?
  intro i
  by_cases hi : i < n
  · rw [smL_get hi, if_neg (by omega), List.getD_eq_getElem?_getD, List.getElem?_eq_getElem (by omega)]; rfl
  · rw [List.getElem?_eq_none (by rw [smL_len]; omega), List.getElem?_eq_none (by omega)]
theorem smL_set {f : Nat → Int} {a : List Int} {n k : Nat} (hk : k < n) : (smL f a n k).set k (f k) = smL f a n (k + 1) := by
  apply List.ext_getElem?
  intro i
  by_cases hi : i < n
  · rw [smL_get hi, List.getElem?_set]
    by_cases e : k = i
    · subst e
      rw [if_pos rfl, if_pos (show k < (smL f a n k).length by rw [smL_len]; exact hi), if_pos (by omega)]
    · rw [if_neg e, smL_get hi]
      by_cases h2 : i < k
      · rw [if_pos h2, if_pos (by omega)]
      · rw [if_neg h2, if_neg (by omega)]
  · rw [List.getElem?_eq_none (by rw [List.length_set, smL_len]; omega), List.getElem?_eq_none (by rw [smL_len]; omega)]
def mnF (a b : List Int) (i : Nat) : Int := min (a.getD i 0) (b.getD i 0)
def mxF (a b : List Int) (i : Nat) : Int := max (a.getD i 0) (b.getD i 0)
def mnL (a b : List Int) : List Int := (List.range a.length).map (mnF a b)
def mxL (a b : List Int) : List Int := (List.range a.length).map (mxF a b)
theorem smL_all {f : Nat → Int} {a : List Int} {n : Nat} : smL f a n n = (List.range n).map f := by
  unfold smL
  apply List.map_congr_left
  intro i hi
  rw [if_pos (List.mem_range.1 hi)]
theorem mnL_len (a b : List Int) : (mnL a b).length = a.length := by simp [mnL]
theorem mxL_len (a b : List Int) : (mxL a b).length = a.length := by simp [mxL]
theorem mnL_get {a b : List Int} {i : Nat} (hi : i < a.length) : (mnL a b)[i]? = some (mnF a b i) := by simp [mnL, hi]
theorem mxL_get {a b : List Int} {i : Nat} (hi : i < a.length) : (mxL a b)[i]? = some (mxF a b i) := by simp [mxL, hi]
def soPhi (lb hb ab ao bb bo n ac bc lc hc k : Nat) (x y : Int) : Nat → Value → World → (Nat → Nat) → Prop
  | 0, v, _, _ => v = .slice (some ⟨lb, 0, none⟩) n lc
  | 1, v, _, _ => v = .int .i64 (k : Int)
  | 2, v, _, _ => v = .slice (some ⟨hb, 0, none⟩) n hc
  | 3, v, _, _ => v = .int .i64 (k : Int)
  | 4, v, _, _ => v = .slice (some ⟨ab, ao, none⟩) n ac
  | 5, v, _, _ => v = .int .i64 (k : Int)
  | 6, v, _, _ => v = .pointer (some ⟨ab, ao + k, none⟩)
  | 7, v, _, _ => v = .int .i64 x
  | 8, v, _, _ => v = .slice (some ⟨bb, bo, none⟩) n bc
  | 9, v, _, _ => v = .int .i64 (k : Int)
  | 10, v, _, _ => v = .pointer (some ⟨bb, bo + k, none⟩)
  | 11, v, _, _ => v = .int .i64 y
  | 12, v, _, _ => v = .int .i64 (min x y)
  | 13, v, _, _ => v = .slice (some ⟨ab, ao, none⟩) n ac
  | 14, v, _, _ => v = .int .i64 (k : Int)
  | 15, v, _, _ => v = .pointer (some ⟨ab, ao + k, none⟩)
  | 16, v, _, _ => v = .int .i64 x
  | 17, v, _, _ => v = .slice (some ⟨bb, bo, none⟩) n bc
  | 18, v, _, _ => v = .int .i64 (k : Int)
  | 19, v, _, _ => v = .pointer (some ⟨bb, bo + k, none⟩)
  | 20, v, _, _ => v = .int .i64 y
  | 21, v, _, _ => v = .int .i64 (max x y)
  | 22, v, _, _ => v = .pointer (some ⟨lb, k, none⟩)
  | 23, _, _, γ => γ 1 ≠ 0
  | 24, v, _, _ => v = .pointer (some ⟨hb, k, none⟩)
  | 25, _, _, γ => γ 0 ≠ 0
  | _, _, _, _ => True
theorem soPhi_w {lb hb ab ao bb bo n ac bc lc hc k : Nat} {x y : Int} {j : Nat} {v : Value} {W W' : World} {γ γ' : Nat → Nat} (h23 : j = 23 → γ 1 ≠ 0 → γ' 1 ≠ 0) (h25 : j = 25 → γ 0 ≠ 0 → γ' 0 ≠ 0) (h : soPhi lb hb ab ao bb bo n ac bc lc hc k x y j v W γ) : soPhi lb hb ab ao bb bo n ac bc lc hc k x y j v W' γ' := by
  unfold soPhi at h ⊢
  split at h <;> first | exact h | exact h23 rfl h | exact h25 rfl h | trivial
def soR (w : World) (lb hb : Nat) (L0 L1 H0 H1 : List Int) (W : World) (γ : Nat → Nat) : Prop :=
  Below w.heap.size w W ∧ RowW W lb 3 encI (some ⟨lb, 0, none⟩) (if γ 1 = 0 then L0 else L1) ∧ RowW W hb 3 encI (some ⟨hb, 0, none⟩) (if γ 0 = 0 then H0 else H1)
def soPsi (i : Nat) (_ : World) (γ : Nat → Nat) : Prop := (i = 23 → γ 1 = 0) ∧ (i = 25 → γ 0 = 0)
set_option maxRecDepth 100000 in
set_option maxHeartbeats 4000000 in
theorem sorted_any (A B : Option Addr) (n ac bc : Nat) (a b : List Int) (w : World) (hn : 1 ≤ n ∧ n ≤ 8) (ha : Rd w w.heap.size 1 encI A n a) (hb : Rd w w.heap.size 1 encI B n b) :
    Calls Try.prog 9 #[.slice A n ac, .slice B n bc] w fun e w' => ∃ lb hb lc hc, e = .returned (.tuple #[.slice (some ⟨lb, 0, none⟩) n lc, .slice (some ⟨hb, 0, none⟩) n hc]) ∧ RowW w' lb 3 encI (some ⟨lb, 0, none⟩) (mnL a b) ∧ RowW w' hb 3 encI (some ⟨hb, 0, none⟩) (mxL a b) ∧ Below w.heap.size w w' := by
  have HA := Lib.hid ha
  have HB := Lib.hid hb
  have HLA : Hid (a.length = n) := Lib.hid ha.1
  have HLB : Hid (b.length = n) := Lib.hid hb.1
  have HN := Lib.hid hn
  clear ha hb hn
  go_enter Try.func9, Try.ntmps9
  go_wp2_with fail
  refine (clone_ints A n ac a w HA.out (by have := HN.out; omega)).mono ?_
  rintro e w1 ⟨A1, lc, rfl, ho1, hB, _⟩
  have B0 := Lib.hid hB
  obtain ⟨A1', lc', lb, e1, hr1, hk1⟩ := RowW.of_own (by rw [HLA.out]; exact ho1)
  obtain ⟨k9, ho9⟩ := hk1 (by rw [HLA.out]; exact HN.out.1)
  obtain rfl : A1 = some ⟨lb, 0, none⟩ := by
    obtain ⟨x0, hx0⟩ : ∃ x0, a[0]? = some x0 := ⟨_, List.getElem?_eq_getElem (by rw [HLA.out]; exact HN.out.1)⟩
    have h9 := (hr1.at_ (size := 1) (fun _ => rfl) hx0).1
    simp only [Value.slice.injEq] at e1
    rw [e1.1, h9]
  have HLBK : Hid (w.heap.size ≤ lb) := Lib.hid k9
  have HA1 : Hid (A1' = some ⟨lb, 0, none⟩) := Lib.hid (by simp only [Value.slice.injEq] at e1; exact e1.1.symm)
  have HR1 : Hid (RowW w1 lb 3 encI (some ⟨lb, 0, none⟩) a) := Lib.hid (by rw [HA1.out] at hr1; exact hr1)
  clear hB ho1 e1 hr1 hk1 ho9 k9 HA1
  go_wp2_with fail
  refine (clone_ints B n bc b w1 (HB.out.next B0.out) (by have := HN.out; omega)).mono ?_
  rintro e w2 ⟨A2, hc, rfl, ho2, hB, _⟩
  have B1 := Lib.hid hB
  obtain ⟨A2', hc', hb, e2, hr2, hk2⟩ := RowW.of_own (by rw [HLB.out]; exact ho2)
  obtain ⟨k9, ho9⟩ := hk2 (by rw [HLB.out]; exact HN.out.1)
  obtain rfl : A2 = some ⟨hb, 0, none⟩ := by
    obtain ⟨x0, hx0⟩ : ∃ x0, b[0]? = some x0 := ⟨_, List.getElem?_eq_getElem (by rw [HLB.out]; exact HN.out.1)⟩
    have h9 := (hr2.at_ (size := 1) (fun _ => rfl) hx0).1
    simp only [Value.slice.injEq] at e2
    rw [e2.1, h9]
  have hlb1 : lb < w1.heap.size := by
    obtain ⟨x0, hx0⟩ : ∃ x0, a[0]? = some x0 := ⟨_, List.getElem?_eq_getElem (by rw [HLA.out]; exact HN.out.1)⟩
    exact (HR1.out.at_ (size := 1) (fun _ => rfl) hx0).2.1
  have HNE : Hid (lb ≠ hb) := Lib.hid (by omega)
  have HHBK : Hid (w.heap.size ≤ hb) := Lib.hid (by have := B0.out.size; omega)
  have HA2 : Hid (A2' = some ⟨hb, 0, none⟩) := Lib.hid (by simp only [Value.slice.injEq] at e2; exact e2.1.symm)
  have HR2 : Hid (RowW w2 hb 3 encI (some ⟨hb, 0, none⟩) b) := Lib.hid (by rw [HA2.out] at hr2; exact hr2)
  have HR12 : Hid (RowW w2 lb 3 encI (some ⟨lb, 0, none⟩) a) := Lib.hid (HR1.out.kept (fun _ cur hc9 => hc9.below B1.out hlb1))
  have HS : Hid (Below w.heap.size w w2 ∧ RowW w2 lb 3 encI (some ⟨lb, 0, none⟩) (smL (mnF a b) a n 0) ∧ RowW w2 hb 3 encI (some ⟨hb, 0, none⟩) (smL (mxF a b) b n 0)) := Lib.hid ⟨below3 B0.out B1.out (Nat.le_refl _), by rw [smL_zero HLA.out]; exact HR12.out, by rw [smL_zero HLB.out]; exact HR2.out⟩
  clear hB ho2 e2 hr2 hk2 ho9 k9 HA2 hlb1 HR1 HR2 HR12
  go_wp2
  go_loopw [15] (fun i wr => ∃ k : Nat, k ≤ n ∧ i = .int .i64 ((k : Nat) : Int) ∧ Hid (Below w.heap.size w wr ∧ RowW wr lb 3 encI (some ⟨lb, 0, none⟩) (smL (mnF a b) a n k) ∧ RowW wr hb 3 encI (some ⟨hb, 0, none⟩) (smL (mxF a b) b n k))) (fun i _ => n - (intOf i).toNat)
  case atStart => exact ⟨0, by omega, rfl, HS⟩
  case round =>
    obtain ⟨k, hk, rfl, HW⟩ := hrel
    by_cases hlt : k < n
    · obtain ⟨ab, ao, x, eA, hab, hx, hcx⟩ := HA.out.at_ hlt
      obtain ⟨bb, bo, y, eB, hbb, hy, hcy⟩ := HB.out.at_ hlt
      have cx := cellI hcx
      have cy := cellI hcy
      have HCX : Hid (∀ W, Below w.heap.size w W → W.cell? ⟨ab, ao + k, none⟩ = some (.int .i64 x) ∧ ab < W.heap.size) := Lib.hid (fun W hW => ⟨(hW.cell hab).trans cx, Nat.lt_of_lt_of_le hab hW.size⟩)
      have HCY : Hid (∀ W, Below w.heap.size w W → W.cell? ⟨bb, bo + k, none⟩ = some (.int .i64 y) ∧ bb < W.heap.size) := Lib.hid (fun W hW => ⟨(hW.cell hbb).trans cy, Nat.lt_of_lt_of_le hbb hW.size⟩)
      have hk0 : (0 : Int) ≤ (k : Int) := by omega
      have hkn : (k : Int) < (n : Int) := by omega
      have hk4 : k ≤ 400 := by have := HN.out; omega
      have HMN : Hid (mnF a b k = min x y ∧ mxF a b k = max x y) := Lib.hid (by unfold mnF mxF; rw [List.getD_eq_getElem?_getD, List.getD_eq_getElem?_getD, hx, hy]; exact ⟨rfl, rfl⟩)
      have HL0 : Hid ((smL (mnF a b) a n k)[k]? = some x) := Lib.hid (by rw [smL_get hlt, if_neg (by omega), List.getD_eq_getElem?_getD, hx]; rfl)
      have HH0 : Hid ((smL (mxF a b) b n k)[k]? = some y) := Lib.hid (by rw [smL_get hlt, if_neg (by omega), List.getD_eq_getElem?_getD, hy]; rfl)
      subst eA
      subst eB
      clear hab hx hcx hbb hy hcy cx cy
      go_wp2_with fail
      refine wp_region_free10 25 (by kernel_rfl) [some 18, some 19, some 20, some 21, some 22, some 23, some 24, some 25, some 26, some 27, some 28, some 29, some 30, some 31, some 32, some 33, some 34, some 35, some 36, some 37, some 38, some 39, some 40, none, some 41, none] [[], [], [], [], [], [], [4, 5], [6], [], [], [8, 9], [10], [7, 11], [], [], [13, 14], [15], [], [], [17, 18], [19], [16, 20], [0, 1, 0, 1, 4, 5, 6, 7, 8, 9, 10, 11, 12, 16, 20], [22, 12, 0, 1, 4, 5, 6, 7, 8, 9, 10, 11, 12, 16, 20], [2, 3, 0, 1, 2, 3, 4, 5, 6, 7, 8, 9, 10, 11, 12, 13, 14, 15, 16, 17, 18, 19, 20, 21, 22, 23], [24, 21, 23, 0, 1, 2, 3, 4, 5, 6, 7, 8, 9, 10, 11, 12, 13, 14, 15, 16, 17, 18, 19, 20, 21, 22, 23]] [(6, .slice (some ⟨lb, 0, none⟩) n lc), (8, .int .i64 (k : Int)), (7, .slice (some ⟨hb, 0, none⟩) n hc), (0, .slice (some ⟨ab, ao, none⟩) n ac), (1, .slice (some ⟨bb, bo, none⟩) n bc)] (soR w lb hb (smL (mnF a b) a n k) (smL (mnF a b) a n (k + 1)) (smL (mxF a b) b n k) (smL (mxF a b) b n (k + 1))) (soPhi lb hb ab ao bb bo n ac bc lc hc k x y) (soPsi) (by kernel_rfl) (by kernel_rfl) rfl (by kernel_rfl) ?_ ?_ ⟨fun _ => 0, ⟨HW.out.1.drew, HW.out.2.1.kept (fun _ cur hc9 => hc9.below (Below.refl _ _).drew hc9.lt), HW.out.2.2.kept (fun _ cur hc9 => hc9.below (Below.refl _ _).drew hc9.lt)⟩, fun i _ => ⟨fun _ => rfl, fun _ => rfl⟩⟩ ?_ ?_
      · intro z hz
        simp only [List.mem_cons, List.mem_nil_iff, or_false] at hz
        rcases hz with rfl | rfl | rfl | rfl | rfl
        all_goals exact ⟨by kernel_rfl, rfl⟩
      · intro i v W γ hi h
        rcases i with _ | _ | _ | _ | _ | _ | _ | _ | _ | _ | _ | _ | _ | _ | _ | _ | _ | _ | _ | _ | _ | _ | _ | _ | _ | _ | i
        all_goals first | exact h | (simp at hi)
      · refine ⟨?_, ?_, ?_, ?_, ?_, ?_, ?_, ?_, ?_, ?_, ?_, ?_, ?_, ?_, ?_, ?_, ?_, ?_, ?_, ?_, ?_, ?_, ?_, ?_, ?_, ?_, trivial⟩
        all_goals
          intro a9 W γ ev hcc hff hfx hR hψ hpre
          simp only [List.mem_cons, List.mem_nil_iff, or_false, forall_eq, forall_eq_or_imp] at hfx
          obtain ⟨f0, f1, f2, f3, f4⟩ := hfx
          have HR := Lib.hid hR
          clear hR
        · refine ⟨fun hg K hK => ?_, trivial⟩
          clear hg
          clear hpre hψ
          go_simp
          exact hK _ _ γ HR.out (fun _ _ _ _ h => h) (fun _ _ _ h => h) rfl
        · refine ⟨fun hg K hK => ?_, trivial⟩
          clear hg
          clear hpre hψ
          go_simp
          exact hK _ _ γ HR.out (fun _ _ _ _ h => h) (fun _ _ _ h => h) rfl
        · refine ⟨fun hg K hK => ?_, trivial⟩
          clear hg
          clear hpre hψ
          go_simp
          exact hK _ _ γ HR.out (fun _ _ _ _ h => h) (fun _ _ _ h => h) rfl
        · refine ⟨fun hg K hK => ?_, trivial⟩
          clear hg
          clear hpre hψ
          go_simp
          exact hK _ _ γ HR.out (fun _ _ _ _ h => h) (fun _ _ _ h => h) rfl
        · refine ⟨fun hg K hK => ?_, trivial⟩
          clear hg
          clear hpre hψ
          go_simp
          exact hK _ _ γ HR.out (fun _ _ _ _ h => h) (fun _ _ _ h => h) rfl
        · refine ⟨fun hg K hK => ?_, trivial⟩
          clear hg
          clear hpre hψ
          go_simp
          exact hK _ _ γ HR.out (fun _ _ _ _ h => h) (fun _ _ _ h => h) rfl
        · refine ⟨fun hg K hK => ?_, trivial⟩
          clear hg
          have q0 : ev (.tmp 22) = _ := hpre 4 (by decide)
          have q1 : ev (.tmp 23) = _ := hpre 5 (by decide)
          clear hpre hψ
          go_simp
          exact hK _ _ γ HR.out (fun _ _ _ _ h => h) (fun _ _ _ h => h) rfl
        · refine ⟨fun hg K hK => ?_, trivial⟩
          clear hg
          have q0 : ev (.tmp 24) = _ := hpre 6 (by decide)
          have cx := (HCX.out W HR.out.1).1
          have zx := (HCX.out W HR.out.1).2
          clear hpre hψ
          go_simp
          exact hK _ _ γ HR.out (fun _ _ _ _ h => h) (fun _ _ _ h => h) rfl
        · refine ⟨fun hg K hK => ?_, trivial⟩
          clear hg
          clear hpre hψ
          go_simp
          exact hK _ _ γ HR.out (fun _ _ _ _ h => h) (fun _ _ _ h => h) rfl
        · refine ⟨fun hg K hK => ?_, trivial⟩
          clear hg
          clear hpre hψ
          go_simp
          exact hK _ _ γ HR.out (fun _ _ _ _ h => h) (fun _ _ _ h => h) rfl
        · refine ⟨fun hg K hK => ?_, trivial⟩
          clear hg
          have q0 : ev (.tmp 26) = _ := hpre 8 (by decide)
          have q1 : ev (.tmp 27) = _ := hpre 9 (by decide)
          clear hpre hψ
          go_simp
          exact hK _ _ γ HR.out (fun _ _ _ _ h => h) (fun _ _ _ h => h) rfl
        · refine ⟨fun hg K hK => ?_, trivial⟩
          clear hg
          have q0 : ev (.tmp 28) = _ := hpre 10 (by decide)
          have cy := (HCY.out W HR.out.1).1
          have zy := (HCY.out W HR.out.1).2
          clear hpre hψ
          go_simp
          exact hK _ _ γ HR.out (fun _ _ _ _ h => h) (fun _ _ _ h => h) rfl
        · refine ⟨fun hg K hK => ?_, trivial⟩
          clear hg
          have q0 : ev (.tmp 25) = _ := hpre 7 (by decide)
          have q1 : ev (.tmp 29) = _ := hpre 11 (by decide)
          clear hpre hψ
          go_simp
          exact hK _ _ γ HR.out (fun _ _ _ _ h => h) (fun _ _ _ h => h) rfl
        · refine ⟨fun hg K hK => ?_, trivial⟩
          clear hg
          clear hpre hψ
          go_simp
          exact hK _ _ γ HR.out (fun _ _ _ _ h => h) (fun _ _ _ h => h) rfl
        · refine ⟨fun hg K hK => ?_, trivial⟩
          clear hg
          clear hpre hψ
          go_simp
          exact hK _ _ γ HR.out (fun _ _ _ _ h => h) (fun _ _ _ h => h) rfl
        · refine ⟨fun hg K hK => ?_, trivial⟩
          clear hg
          have q0 : ev (.tmp 31) = _ := hpre 13 (by decide)
          have q1 : ev (.tmp 32) = _ := hpre 14 (by decide)
          clear hpre hψ
          go_simp
          exact hK _ _ γ HR.out (fun _ _ _ _ h => h) (fun _ _ _ h => h) rfl
        · refine ⟨fun hg K hK => ?_, trivial⟩
          clear hg
          have q0 : ev (.tmp 33) = _ := hpre 15 (by decide)
          have cx := (HCX.out W HR.out.1).1
          have zx := (HCX.out W HR.out.1).2
          clear hpre hψ
          go_simp
          exact hK _ _ γ HR.out (fun _ _ _ _ h => h) (fun _ _ _ h => h) rfl
        · refine ⟨fun hg K hK => ?_, trivial⟩
          clear hg
          clear hpre hψ
          go_simp
          exact hK _ _ γ HR.out (fun _ _ _ _ h => h) (fun _ _ _ h => h) rfl
        · refine ⟨fun hg K hK => ?_, trivial⟩
          clear hg
          clear hpre hψ
          go_simp
          exact hK _ _ γ HR.out (fun _ _ _ _ h => h) (fun _ _ _ h => h) rfl
        · refine ⟨fun hg K hK => ?_, trivial⟩
          clear hg
          have q0 : ev (.tmp 35) = _ := hpre 17 (by decide)
          have q1 : ev (.tmp 36) = _ := hpre 18 (by decide)
          clear hpre hψ
          go_simp
          exact hK _ _ γ HR.out (fun _ _ _ _ h => h) (fun _ _ _ h => h) rfl
        · refine ⟨fun hg K hK => ?_, trivial⟩
          clear hg
          have q0 : ev (.tmp 37) = _ := hpre 19 (by decide)
          have cy := (HCY.out W HR.out.1).1
          have zy := (HCY.out W HR.out.1).2
          clear hpre hψ
          go_simp
          exact hK _ _ γ HR.out (fun _ _ _ _ h => h) (fun _ _ _ h => h) rfl
        · refine ⟨fun hg K hK => ?_, trivial⟩
          clear hg
          have q0 : ev (.tmp 34) = _ := hpre 16 (by decide)
          have q1 : ev (.tmp 38) = _ := hpre 20 (by decide)
          clear hpre hψ
          go_simp
          exact hK _ _ γ HR.out (fun _ _ _ _ h => h) (fun _ _ _ h => h) rfl
        · refine ⟨fun hg K hK => ?_, trivial⟩
          clear hg
          have q0 : ev (.tmp 18) = _ := hpre 0 (by decide)
          have q1 : ev (.tmp 19) = _ := hpre 1 (by decide)
          clear hpre hψ
          go_simp
          exact hK _ _ γ HR.out (fun _ _ _ _ h => h) (fun _ _ _ h => h) rfl
        · refine ⟨fun hg K hK => ?_, trivial⟩
          clear hg
          have q0 : ev (.tmp 30) = _ := hpre 12 (by decide)
          have q1 : ev (.tmp 40) = _ := hpre 22 (by decide)
          have hg : γ 1 = 0 := hψ.1 rfl
          obtain ⟨hw9, hl9, hh9⟩ := HR.out
          have hr9 := hl9
          rw [if_pos hg] at hr9
          have ca := rowI_at hr9 HL0.out
          have fz := (hr9.at_ (size := 1) (fun _ => rfl) HL0.out).2.2.1
          have zb := (hr9.at_ (size := 1) (fun _ => rfl) HL0.out).2.1
          have HX := Lib.hid (And.intro hw9 (And.intro hl9 (And.intro hh9 (And.intro hr9 hg))))
          have HP := Lib.hid hψ
          clear hpre hψ hw9 hl9 hh9 hr9 hg
          go_simp
          obtain ⟨hw9, hl9, hh9, hr9, hg⟩ := HX.out
          refine hK undef _ (fun i => if i = 1 then 1 else γ i) ⟨hw9.setCell HLBK.out _, by rw [if_neg (by simp)]; have h9 := rowI_set hr9 HL0.out (min x y); rw [← HMN.out.1, smL_set hlt] at h9; rw [← HMN.out.1]; exact h9, by show RowW _ _ _ _ _ (if γ 0 = 0 then _ else _); exact hh9.kept (fun _ cur hc9 => hc9.far (fun e => HNE.out e.symm) _)⟩ (fun j u h1 h2 h3 => soPhi_w (fun e z => by split <;> first | decide | exact z) (fun e z => by split <;> first | decide | exact z) h3) (fun _ j h1 h2 => ⟨fun e => absurd e h1, fun e => by simpa using h2.2 e⟩) (by simp [soPhi])
        · refine ⟨fun hg K hK => ?_, trivial⟩
          clear hg
          have q0 : ev (.tmp 20) = _ := hpre 2 (by decide)
          have q1 : ev (.tmp 21) = _ := hpre 3 (by decide)
          clear hpre hψ
          go_simp
          exact hK _ _ γ HR.out (fun _ _ _ _ h => h) (fun _ _ _ h => h) rfl
        · refine ⟨fun hg K hK => ?_, trivial⟩
          clear hg
          have q0 : ev (.tmp 39) = _ := hpre 21 (by decide)
          have q1 : ev (.tmp 41) = _ := hpre 24 (by decide)
          have hg : γ 0 = 0 := hψ.2 rfl
          obtain ⟨hw9, hl9, hh9⟩ := HR.out
          have hr9 := hh9
          rw [if_pos hg] at hr9
          have ca := rowI_at hr9 HH0.out
          have fz := (hr9.at_ (size := 1) (fun _ => rfl) HH0.out).2.2.1
          have zb := (hr9.at_ (size := 1) (fun _ => rfl) HH0.out).2.1
          have HX := Lib.hid (And.intro hw9 (And.intro hl9 (And.intro hh9 (And.intro hr9 hg))))
          have HP := Lib.hid hψ
          clear hpre hψ hw9 hl9 hh9 hr9 hg
          go_simp
          obtain ⟨hw9, hl9, hh9, hr9, hg⟩ := HX.out
          refine hK undef _ (fun i => if i = 0 then 1 else γ i) ⟨hw9.setCell HHBK.out _, by show RowW _ _ _ _ _ (if γ 1 = 0 then _ else _); exact hl9.kept (fun _ cur hc9 => hc9.far HNE.out _), by rw [if_neg (by simp)]; have h9 := rowI_set hr9 HH0.out (max x y); rw [← HMN.out.2, smL_set hlt] at h9; rw [← HMN.out.2]; exact h9⟩ (fun j u h1 h2 h3 => soPhi_w (fun e z => by split <;> first | decide | exact z) (fun e z => by split <;> first | decide | exact z) h3) (fun h => absurd rfl h) (by simp [soPhi])
      · intro vs wy γ hvl hR hφ
        have q23 := hφ 23 (by decide)
        have q25 := hφ 25 (by decide)
        have HR := Lib.hid hR
        clear hφ hR
        match vs, hvl with
        | [y0, y1, y2, y3, y4, y5, y6, y7, y8, y9, y10, y11, y12, y13, y14, y15, y16, y17, y18, y19, y20, y21, y22, y23, y24, y25], _ =>
        simp only [List.getD_cons_zero, List.getD_cons_succ] at q23 q25
        have h23 : γ 1 ≠ 0 := by simpa [soPhi] using q23
        have h25 : γ 0 ≠ 0 := by simpa [soPhi] using q25
        obtain ⟨r1, r2, r3⟩ := HR.out
        rw [if_neg h23] at r2
        rw [if_neg h25] at r3
        have HN9 : Hid (Below w.heap.size w wy ∧ RowW wy lb 3 encI (some ⟨lb, 0, none⟩) (smL (mnF a b) a n (k + 1)) ∧ RowW wy hb 3 encI (some ⟨hb, 0, none⟩) (smL (mxF a b) b n (k + 1))) := Lib.hid ⟨r1, r2, r3⟩
        clear HR q23 q25 h23 h25 r1 r2 r3
        simp [putAll]
        go_wp2
        go_roundw
        case rel => exact ⟨k + 1, by omega, by go_num, HN9⟩
        case measure => simp [intOf]; omega
    · obtain rfl : n = k := by omega
      have h1 := HW.out.2.1
      have h2 := HW.out.2.2
      rw [smL_all] at h1 h2
      have HF : Hid (RowW wr lb 3 encI (some ⟨lb, 0, none⟩) (mnL a b) ∧ RowW wr hb 3 encI (some ⟨hb, 0, none⟩) (mxL a b) ∧ Below w.heap.size w wr) := Lib.hid ⟨by unfold mnL; rw [HLA.out]; exact h1, by unfold mxL; rw [HLA.out]; exact h2, HW.out.1⟩
      clear h1 h2
      go_wp2
      refine bodyPost_ret (v := .tuple #[.slice (some ⟨lb, 0, none⟩) n lc, .slice (some ⟨hb, 0, none⟩) n hc]) (by simp [results, Try.results9, go_sem]) rfl ?_
      exact ⟨lb, hb, lc, hc, rfl, HF.out⟩
end Go.Proofs.Ytldbciflpnhfpaa

/- law07: classed. -/

set_option linter.unusedSimpArgs false
set_option linter.unusedVariables false
namespace Go.Proofs.Ytldbciflpnhfpaa
open Go.RowKit

set_option maxRecDepth 100000 in
set_option maxHeartbeats 4000000 in
theorem classed_any (A B : Option Addr) (n ac bc : Nat) (a b : List Int) (o1 p1 o2 p2 : Int) (w : World) (hn : 1 ≤ n ∧ n ≤ 8) (ha : Rd w w.heap.size 1 encI A n a) (hb : Rd w w.heap.size 1 encI B n b) :
    Calls Try.prog 11 #[.agg #[.slice A n ac, .int .i64 o1, .int .i64 p1], .agg #[.slice B n bc, .int .i64 o2, .int .i64 p2]] w fun e w' => ∃ lb hb lc hc, e = .returned (.agg #[.slice (some ⟨lb, 0, none⟩) n lc, .int .i64 (min o1 o2), .int .i64 (max p1 p2), .slice (some ⟨hb, 0, none⟩) n hc, .int .i64 (max o1 o2), .int .i64 (min p1 p2)]) ∧ RowW w' lb 3 encI (some ⟨lb, 0, none⟩) (mnL a b) ∧ RowW w' hb 3 encI (some ⟨hb, 0, none⟩) (mxL a b) ∧ Below w.heap.size w w' := by
  have KS := Lib.hid (fun W (hW : Below w.heap.size w W) => sorted_any A B n ac bc a b W hn (ha.next hW) (hb.next hW))
  have g1 : w.heap.size < w.heap.size + 1 := by omega
  have g2 : w.heap.size < w.heap.size + 1 + 1 := by omega
  have g3 : w.heap.size < w.heap.size + 1 + 1 + 1 := by omega
  have g4 : w.heap.size + 1 < w.heap.size + 1 + 1 + 1 := by omega
  clear ha hb hn
  go_enter Try.func11, Try.ntmps11
  go_wp2_with fail
  obtain ⟨x1, hx1⟩ : ∃ z, z = w.heap.size := ⟨_, rfl⟩
  obtain ⟨w1, hw1⟩ : ∃ z, z = w.alloc (.cells #[.slice A n ac, .int .i64 o1, .int .i64 p1] 35) := ⟨_, rfl⟩
  have X1 : Hid (Blk w1 x1 35 #[.slice A n ac, .int .i64 o1, .int .i64 p1]) := Lib.hid (by rw [hw1, hx1]; exact heap_alloc_new w _)
  have Sw1 : Hid (w1.heap.size = x1 + 1) := Lib.hid (by rw [hw1, hx1, World.size_alloc])
  have Zx1 : Hid (w.heap.size ≤ x1) := Lib.hid (by rw [hx1]; exact Nat.le_refl _)
  have hBn : Below w.heap.size w w1 := by rw [hw1]; exact (Below.refl _ _).alloc (Nat.le_refl _) _
  rw [← hw1, ← hx1]
  have B0 : Hid (Below w.heap.size w w1) := Lib.hid hBn
  clear hw1 hx1 hBn
  obtain ⟨x2, hx2⟩ : ∃ z, z = x1 + 1 := ⟨_, rfl⟩
  obtain ⟨w2, hw2⟩ : ∃ z, z = w1.alloc (.cells #[.slice B n bc, .int .i64 o2, .int .i64 p2] 35) := ⟨_, rfl⟩
  have X2 : Hid (Blk w2 x2 35 #[.slice B n bc, .int .i64 o2, .int .i64 p2]) := Lib.hid (by have e2 := heap_alloc_new w1 (.cells #[.slice B n bc, .int .i64 o2, .int .i64 p2] 35); rw [Sw1.out] at e2; rw [hw2, hx2]; exact e2)
  have Sw2 : Hid (w2.heap.size = x2 + 1) := Lib.hid (by rw [hw2, hx2, World.size_alloc, Sw1.out])
  have Zx2 : Hid (w1.heap.size = x2) := Lib.hid (by rw [Sw1.out, hx2])
  have hBn : Below w1.heap.size w1 w2 := by rw [hw2]; exact (Below.refl _ _).alloc (Nat.le_refl _) _
  rw [← hw2, ← hx2]
  have B1 : Hid (Below w1.heap.size w1 w2) := Lib.hid hBn
  clear hw2 hx2 hBn
  obtain ⟨rb, hrb⟩ : ∃ z, z = x2 + 1 := ⟨_, rfl⟩
  obtain ⟨w3, hw3⟩ : ∃ z, z = w2.alloc (.cells #[.slice none 0 0, .int .i64 0, .int .i64 0, .slice none 0 0, .int .i64 0, .int .i64 0] 37) := ⟨_, rfl⟩
  have RB : Hid (Blk w3 rb 37 #[.slice none 0 0, .int .i64 0, .int .i64 0, .slice none 0 0, .int .i64 0, .int .i64 0]) := Lib.hid (by have e2 := heap_alloc_new w2 (.cells #[.slice none 0 0, .int .i64 0, .int .i64 0, .slice none 0 0, .int .i64 0, .int .i64 0] 37); rw [Sw2.out] at e2; rw [hw3, hrb]; exact e2)
  have Sw3 : Hid (w3.heap.size = rb + 1) := Lib.hid (by rw [hw3, hrb, World.size_alloc, Sw2.out])
  have Zrb : Hid (w2.heap.size = rb) := Lib.hid (by rw [Sw2.out, hrb])
  have hBn : Below w2.heap.size w2 w3 := by rw [hw3]; exact (Below.refl _ _).alloc (Nat.le_refl _) _
  rw [← hw3, ← hrb]
  have B2 : Hid (Below w2.heap.size w2 w3) := Lib.hid hBn
  clear hw3 hrb hBn
  clear g1 g2 g3 g4
  refine (KS.out _ (below3 (below3 B0.out B1.out (Nat.le_refl _)) B2.out (Nat.le_refl _))).mono ?_
  rintro e w4 ⟨lb, hb, lc, hc, rfl, h1, h2, hB⟩
  have B3 : Hid (Below w3.heap.size w3 w4) := Lib.hid hB
  clear hB
  have HL := Lib.hid (And.intro h1 h2)
  clear h1 h2
  have hbk := X1.out.below (below3 (below3 B1.out B2.out (Nat.le_refl _)) B3.out (Nat.le_refl _)) X1.out.lt
  have s0 := hbk.cell 0
  have s1 := hbk.cell 1
  have s2 := hbk.cell 2
  simp only [List.getElem?_toArray, List.getElem?_cons_zero, List.getElem?_cons_succ] at s0 s1 s2
  have zs := hbk.lt
  clear hbk
  have hbk := X2.out.below (below3 B2.out B3.out (Nat.le_refl _)) X2.out.lt
  have t0 := hbk.cell 0
  have t1 := hbk.cell 1
  have t2 := hbk.cell 2
  simp only [List.getElem?_toArray, List.getElem?_cons_zero, List.getElem?_cons_succ] at t0 t1 t2
  have zt := hbk.lt
  clear hbk
  have hres := RB.out.below B3.out RB.out.lt
  have d0 := hres.cell 0
  have d1 := hres.cell 1
  have d2 := hres.cell 2
  have d3 := hres.cell 3
  have d4 := hres.cell 4
  have d5 := hres.cell 5
  simp only [List.getElem?_toArray, List.getElem?_cons_zero, List.getElem?_cons_succ] at d0 d1 d2 d3 d4 d5
  have zr := hres.lt
  have fr := hres.frozen
  obtain ⟨W', hW'⟩ : ∃ z, z = ((((((w4.setCell ⟨rb, 0, none⟩ (.slice (some ⟨lb, 0, none⟩) n lc)).setCell ⟨rb, 1, none⟩ (.int .i64 (min o1 o2))).setCell ⟨rb, 2, none⟩ (.int .i64 (max p1 p2))).setCell ⟨rb, 3, none⟩ (.slice (some ⟨hb, 0, none⟩) n hc)).setCell ⟨rb, 4, none⟩ (.int .i64 (max o1 o2))).setCell ⟨rb, 5, none⟩ (.int .i64 (min p1 p2))) := ⟨_, rfl⟩
  have hkk : Keep (fun b => b = rb) w4 W' := by rw [hW']; exact (((((((Keep.refl (fun b => b = rb) w4).setCell rfl _).setCell rfl _).setCell rfl _).setCell rfl _).setCell rfl _).setCell rfl _)
  have hrow : Blk W' rb 37 #[.slice (some ⟨lb, 0, none⟩) n lc, .int .i64 (min o1 o2), .int .i64 (max p1 p2), .slice (some ⟨hb, 0, none⟩) n hc, .int .i64 (max o1 o2), .int .i64 (min p1 p2)] := by
    have h := ((((((hres.set_ 0 (.slice (some ⟨lb, 0, none⟩) n lc)).set_ 1 (.int .i64 (min o1 o2))).set_ 2 (.int .i64 (max p1 p2))).set_ 3 (.slice (some ⟨hb, 0, none⟩) n hc)).set_ 4 (.int .i64 (max o1 o2))).set_ 5 (.int .i64 (min p1 p2)))
    rw [hW']
    simpa using h
  have HROW := Lib.hid hrow
  have HF : Hid (RowW W' lb 3 encI (some ⟨lb, 0, none⟩) (mnL a b) ∧ RowW W' hb 3 encI (some ⟨hb, 0, none⟩) (mxL a b) ∧ Below w.heap.size w W') := Lib.hid ⟨HL.out.1.apart hkk hres (by decide), HL.out.2.apart hkk hres (by decide), (below3 (below3 (below3 B0.out B1.out (Nat.le_refl _)) B2.out (Nat.le_refl _)) B3.out (Nat.le_refl _)).trans (hkk.below ((below3 (below3 (below3 B0.out B1.out (Nat.le_refl _)) B2.out (Nat.le_refl _)) B3.out (Nat.le_refl _))).size (fun b e => by rw [e]; have := Zrb.out; have := Zx2.out; have := Sw2.out; have := B0.out.size; have := B1.out.size; omega))⟩
  clear hres hkk hrow
  go_wp2
  rw [← hW']
  refine bodyPost_ret (results_cell_row rfl _ _ rb 37 _ _ _ rfl HROW.out Try.underlying37 rfl (by kernel_rfl)) rfl ?_
  exact ⟨lb, hb, lc, hc, rfl, HF.out⟩
end Go.Proofs.Ytldbciflpnhfpaa
