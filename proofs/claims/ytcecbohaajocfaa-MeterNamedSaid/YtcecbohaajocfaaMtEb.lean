/- slices.Sort of at most four numbers: by insertion. -/
import Derived.Test.YtcecbohaajocfaaMtEa
import Derived.Test.YtcecbohaajocfaaMtD
import Derived.Test.YtcecbohaajocfaaMtDb

set_option linter.unusedSimpArgs false
set_option linter.unusedVariables false
namespace Go.Proofs.Ytcecbohaajocfaa
open Go.RowKit

/-- The first numbers are in order, but for one that may be too far behind. -/
structure InsI (l0 : List Int) (n i j : Nat) (l : List Int) : Prop where
  perm : l.Perm l0
  len : l.length = n
  ok : ∀ p q, p < q → q ≤ i → p ≠ j → q ≠ j → l.getD p 0 ≤ l.getD q 0
  up : ∀ q, j < q → q ≤ i → l.getD j 0 ≤ l.getD q 0
  ji : j ≤ i
def SrtI (l0 : List Int) (n i : Nat) (l : List Int) : Prop := l.Perm l0 ∧ l.length = n ∧ ∀ p q, p < q → q < i → l.getD p 0 ≤ l.getD q 0
theorem InsI.first {l0 l : List Int} {n i : Nat} (h : SrtI l0 n i l) : InsI l0 n i i l :=
  ⟨h.1, h.2.1, fun p q h1 h2 h3 h4 => h.2.2 p q h1 (by omega), fun q h1 h2 => by omega, Nat.le_refl _⟩
theorem InsI.done {l0 l : List Int} {n i j : Nat} (h : InsI l0 n i j l) (hj : j = 0 ∨ l.getD (j - 1) 0 ≤ l.getD j 0) : SrtI l0 n (i + 1) l := by
  refine ⟨h.perm, h.len, fun p q hpq hq => ?_⟩
  by_cases e1 : q = j
  · subst e1
    rcases hj with hj | hj
    · omega
    · by_cases e2 : p = q - 1
      · rw [e2]; exact hj
      · have := h.ok p (q - 1) (by omega) (by have := h.ji; omega) (by omega) (by omega)
        omega
  · by_cases e2 : p = j
    · rw [e2]; exact h.up q (by omega) (by omega)
    · exact h.ok p q hpq (by omega) e2 e1
theorem InsI.swap {l0 l : List Int} {n i j : Nat} (h : InsI l0 n i j l) (hj : 0 < j) (hi : i < n) (hlt : l.getD j 0 < l.getD (j - 1) 0) : InsI l0 n i (j - 1) ((l.set j (l.getD (j - 1) 0)).set (j - 1) (l.getD j 0)) := by
  have hji := h.ji
  have hlen := h.len
  have hg : ∀ p, ((l.set j (l.getD (j - 1) 0)).set (j - 1) (l.getD j 0)).getD p 0 = if p = j - 1 then l.getD j 0 else if p = j then l.getD (j - 1) 0 else l.getD p 0 := fun p => by
    rw [put_getD (by rw [List.length_set]; omega), put_getD (by omega)]
  refine ⟨?_, by rw [List.length_set, List.length_set]; exact hlen, fun p q h1 h2 h3 h4 => ?_, fun q h1 h2 => ?_, by omega⟩
  · have e1 : l.getD (j - 1) 0 = l[j - 1]'(by omega) := by rw [List.getD_eq_getElem?_getD, List.getElem?_eq_getElem (by omega)]; rfl
    have e2 : l.getD j 0 = l[j]'(by omega) := by rw [List.getD_eq_getElem?_getD, List.getElem?_eq_getElem (by omega)]; rfl
    rw [e1, e2]
    exact (List.set_set_perm (by omega) (by omega)).trans h.perm
  · rw [hg, hg, if_neg h3, if_neg h4]
    by_cases e1 : p = j
    · rw [if_pos e1, if_neg (by omega)]
      exact h.ok (j - 1) q (by omega) h2 (by omega) (by omega)
    · rw [if_neg e1]
      by_cases e2 : q = j
      · rw [if_pos e2]; exact h.ok p (j - 1) (by omega) (by omega) (by omega) (by omega)
      · rw [if_neg e2]; exact h.ok p q h1 h2 e1 e2
  · rw [hg, hg, if_pos rfl, if_neg (by omega)]
    by_cases e2 : q = j
    · rw [if_pos e2]; omega
    · rw [if_neg e2]; exact h.up q (by omega) h2
/-- Numbers in memory that are sorted. -/
structure SoS (w : World) (b : Nat) (l : List Int) (W : World) : Prop where
  k : Keep (fun x => x = b) w W
  r : RowW W b 3 encI (some ⟨b, 0, none⟩) l
theorem SoS.drew {w W : World} {b : Nat} {l : List Int} (h : SoS w b l W) : SoS w b l W.drew := ⟨h.k.trans (Keep.of_below (Below.refl _ _).drew), h.r.below9 (Below.refl _ _).drew⟩
theorem SoS.at_ {w W : World} {b : Nat} {l : List Int} (h : SoS w b l W) {i : Nat} (hi : i < l.length) : W.cell? ⟨b, i, none⟩ = some (.int .i64 (l.getD i 0)) ∧ b < W.heap.size ∧ ∀ o, W.frozen? ⟨b, o, none⟩ = false := by
  have hx : l[i]? = some (l.getD i 0) := by rw [List.getD_eq_getElem?_getD, List.getElem?_eq_getElem hi]; rfl
  obtain ⟨_, h1, h2, h3⟩ := h.r.at_ (size := 1) (fun _ => rfl) hx
  have := h3 0 _ rfl
  rw [Nat.mul_one, Nat.add_zero] at this
  exact ⟨this, h1, h2⟩
theorem SoS.set_ {w W : World} {b : Nat} {l : List Int} (h : SoS w b l W) {i : Nat} (hi : i < l.length) (x : Int) : SoS w b (l.set i x) (W.setCell ⟨b, i, none⟩ (.int .i64 x)) := by
  have hx : l[i]? = some (l.getD i 0) := by rw [List.getD_eq_getElem?_getD, List.getElem?_eq_getElem hi]; rfl
  have h9 := h.r.set_ (size := 1) (fun _ => rfl) hx (j := 0) (u := .int .i64 x) (x' := x) (by omega) rfl
  rw [Nat.mul_one, Nat.add_zero] at h9
  exact ⟨h.k.setCell rfl _, h9⟩
def swPhi (b : Nat) (n c j : Nat) (x y : Int) : Nat → Value → World → (Nat → Nat) → Prop
  | 0, v, _, _ => v = .slice (some ⟨b, 0, none⟩) n c
  | 1, v, _, _ => v = .int .i64 (j : Int)
  | 2, v, _, _ => v = .slice (some ⟨b, 0, none⟩) n c
  | 3, v, _, _ => v = .int .i64 (j : Int)
  | 4, v, _, _ => v = .int .i64 ((j - 1 : Nat) : Int)
  | 5, v, _, _ => v = .slice (some ⟨b, 0, none⟩) n c
  | 6, v, _, _ => v = .int .i64 (j : Int)
  | 7, v, _, _ => v = .int .i64 ((j - 1 : Nat) : Int)
  | 8, v, _, _ => v = .pointer (some ⟨b, j - 1, none⟩)
  | 9, v, _, γ => v = .int .i64 y ∧ γ 9 = 1
  | 10, v, _, _ => v = .slice (some ⟨b, 0, none⟩) n c
  | 11, v, _, _ => v = .int .i64 (j : Int)
  | 12, v, _, _ => v = .pointer (some ⟨b, j, none⟩)
  | 13, v, _, γ => v = .int .i64 x ∧ γ 13 = 1
  | 14, v, _, _ => v = .pointer (some ⟨b, j, none⟩)
  | 16, v, _, _ => v = .pointer (some ⟨b, j - 1, none⟩)
  | 15, _, _, γ => γ 0 = 1 ∨ γ 0 = 2
  | 17, _, _, γ => γ 0 = 2
  | _, _, _, _ => True
theorem swPhi_w {b n c j : Nat} {x y : Int} {i : Nat} {v : Value} {W W' : World} {γ γ' : Nat → Nat} (h9 : i = 9 → γ' 9 = γ 9) (h13 : i = 13 → γ' 13 = γ 13) (h0 : (i = 15 ∨ i = 17) → γ' 0 = γ 0 ∨ γ' 0 = 2) (h : swPhi b n c j x y i v W γ) : swPhi b n c j x y i v W' γ' := by
  unfold swPhi at h ⊢
  split at h
  all_goals first | exact h | trivial | skip
  · rw [h9 rfl]; exact h
  · rw [h13 rfl]; exact h
  · have := h0 (Or.inl rfl); omega
  · have := h0 (Or.inr rfl); omega
def swR (w : World) (b j : Nat) (l : List Int) (x y : Int) (W : World) (γ : Nat → Nat) : Prop := (γ 0 = 0 → SoS w b l W) ∧ (γ 0 = 1 → SoS w b (l.set j y) W) ∧ (γ 0 = 2 → SoS w b ((l.set j y).set (j - 1) x) W) ∧ (γ 9 = 0 → γ 0 = 0) ∧ (γ 13 = 0 → γ 0 = 0)
def swPsi (i : Nat) (_ : World) (γ : Nat → Nat) : Prop := (i = 9 → γ 9 = 0) ∧ (i = 13 → γ 13 = 0) ∧ (i = 15 → γ 0 = 0) ∧ (i = 17 → γ 0 ≤ 1)
def lsPhi : Nat → Value → World → (Nat → Nat) → Prop
  | 0, v, _, _ => v = .int .i64 0
  | 1, v, _, _ => v = .int .i64 0
  | 2, v, _, _ => v = .bool false
  | 3, v, _, _ => v = .bool false
  | 14, v, _, _ => v = .bool false
  | _, _, _, _ => True
set_option maxRecDepth 100000 in
set_option maxHeartbeats 4000000 in
theorem insertion_any (b n c : Nat) (l0 : List Int) (w : World) (hl : l0.length = n) (hn : n ≤ 100) (hr : RowW w b 3 encI (some ⟨b, 0, none⟩) l0) :
    Calls Try.prog 70 #[.slice (some ⟨b, 0, none⟩) n c, .int .i64 0, .int .i64 (n : Int)] w fun e w' => ∃ (v : Value) (l : List Int), e = .returned v ∧ SrtI l0 n n l ∧ SoS w b l w' := by
  have HN := Lib.hid (And.intro hl hn)
  have HS0 : Hid (SrtI l0 n 1 l0 ∧ SoS w b l0 w) := Lib.hid ⟨⟨List.Perm.refl _, hl, fun p q h1 h2 => by omega⟩, ⟨Keep.refl _ _, hr⟩⟩
  clear hl hn hr
  go_enter Try.func70, Try.ntmps70
  go_wp2
  go_loopw [6] (fun iv wr => ∃ (i : Nat) (l : List Int), 1 ≤ i ∧ iv = .int .i64 ((i : Nat) : Int) ∧ Hid ((i ≤ n ∨ i = 1) ∧ SrtI l0 n i l ∧ SoS w b l wr)) (fun iv _ => n + 1 - (intOf iv).toNat)
  case atStart => exact ⟨1, l0, Nat.le_refl _, rfl, Lib.hid ⟨Or.inr rfl, HS0.out⟩⟩
  case round =>
    obtain ⟨i, l, hi1, rfl, HW⟩ := hrel
    by_cases hlt : i < n
    · have HI : Hid (1 ≤ i ∧ i < n) := Lib.hid ⟨hi1, hlt⟩
      have hin : (i : Int) < (n : Int) := by omega
      have HI0 : Hid (InsI l0 n i i l ∧ SoS w b l wr) := Lib.hid ⟨.first HW.out.2.1, HW.out.2.2⟩
      have wi : IntKind.i64.wrap ((i : Int) + 1) = (i : Int) + 1 := IntWalk.i64_in _ (by have := HN.out; omega)
      clear hlt hi1
      go_wp2_with fail
      go_loopw [7] (fun jv wr => ∃ (j : Nat) (l : List Int), jv = .int .i64 ((j : Nat) : Int) ∧ Hid (InsI l0 n i j l ∧ SoS w b l wr)) (fun jv _ => (intOf jv).toNat)
      case atStart => exact ⟨i, l, rfl, HI0⟩
      case round =>
        obtain ⟨j, l1, rfl, HJ⟩ := hrel
        have HJI : Hid (j ≤ i) := Lib.hid HJ.out.1.ji
        obtain ⟨x, hx⟩ : ∃ z, z = l1.getD j 0 := ⟨_, rfl⟩
        obtain ⟨y, hy⟩ : ∃ z, z = l1.getD (j - 1) 0 := ⟨_, rfl⟩
        have HXY := Lib.hid (And.intro hx hy)
        have HL1 : Hid (l1.length = n) := Lib.hid HJ.out.1.len
        clear hx hy
        have hjl : j < l1.length := by have := HJI.out; have := HI.out; have := HL1.out; omega
        by_cases hj0 : j = 0
        · have HF : Hid (SrtI l0 n (i + 1) l1) := Lib.hid (HJ.out.1.done (Or.inl hj0))
          subst hj0
          go_wp2
          refine wp_region_free10 14 (by kernel_rfl) [some 16, some 17, some 18, some 19, some 20, some 21, some 22, some 23, some 24, some 25, some 26, some 27, some 28, some 29, some 30] [[], [], [0, 1], [2], [3], [3], [4, 5, 3], [6, 3], [3], [3], [9, 3], [8, 10, 3], [11, 3], [7, 12, 3, 3], [3, 13]] [(7, .int .i64 0), (1, .int .i64 0), (0, .slice (some ⟨b, 0, none⟩) n c)] (fun W _ => SoS w b l1 W) (lsPhi) (fun _ _ _ => True) (by kernel_rfl) (by kernel_rfl) rfl (by kernel_rfl) ?_ ?_ ⟨fun _ => 0, HJ.out.2.drew, fun _ _ => trivial⟩ ?_ ?_
          · intro z hz
            simp only [List.mem_cons, List.mem_nil_iff, or_false] at hz
            rcases hz with rfl | rfl | rfl
            all_goals exact ⟨by kernel_rfl, rfl⟩
          · intro i v W γ hi h
            rcases i with _ | _ | _ | _ | _ | _ | _ | _ | _ | _ | _ | _ | _ | _ | _ | i
            all_goals first | exact h | (simp at hi)
          · refine ⟨?_, ?_, ?_, ?_, ?_, ?_, ?_, ?_, ?_, ?_, ?_, ?_, ?_, ?_, ?_, trivial⟩
            all_goals
              intro a9 W γ ev hcc hff hfx hR hψ hpre
              simp only [List.mem_cons, List.mem_nil_iff, or_false, forall_eq, forall_eq_or_imp] at hfx
              obtain ⟨f0, f1, f2⟩ := hfx
              have HR := Lib.hid hR
              clear hR
            · refine ⟨fun hg K hK => ?_, trivial⟩
              clear hg
              clear hpre hψ
              go_simp
              exact hK _ _ γ HR.out (fun _ _ _ _ h => h) (fun _ _ _ h => h) rfl
            · refine ⟨fun hg K hK => ?_, trivial⟩
              clear hg
              clear hpre hψ
              go_simp
              exact hK _ _ γ HR.out (fun _ _ _ _ h => h) (fun _ _ _ h => h) rfl
            · refine ⟨fun hg K hK => ?_, trivial⟩
              clear hg
              have q0 : ev (.tmp 16) = _ := hpre 0 (by decide)
              have q1 : ev (.tmp 17) = _ := hpre 1 (by decide)
              clear hpre hψ
              go_simp
              exact hK _ _ γ HR.out (fun _ _ _ _ h => h) (fun _ _ _ h => h) rfl
            · refine ⟨fun hg K hK => ?_, trivial⟩
              clear hg
              have q0 : ev (.tmp 18) = _ := hpre 2 (by decide)
              clear hpre hψ
              go_simp
              exact hK _ _ γ HR.out (fun _ _ _ _ h => h) (fun _ _ _ h => h) rfl
            · refine ⟨fun hg K hK => ?_, fun _ => trivial⟩
              have h := Eq.trans (Eq.symm (hpre 3 (by decide))) hg
              cases h
            · refine ⟨fun hg K hK => ?_, fun _ => trivial⟩
              have h := Eq.trans (Eq.symm (hpre 3 (by decide))) hg
              cases h
            · refine ⟨fun hg K hK => ?_, fun _ => trivial⟩
              have h := Eq.trans (Eq.symm (hpre 3 (by decide))) hg
              cases h
            · refine ⟨fun hg K hK => ?_, fun _ => trivial⟩
              have h := Eq.trans (Eq.symm (hpre 3 (by decide))) hg
              cases h
            · refine ⟨fun hg K hK => ?_, fun _ => trivial⟩
              have h := Eq.trans (Eq.symm (hpre 3 (by decide))) hg
              cases h
            · refine ⟨fun hg K hK => ?_, fun _ => trivial⟩
              have h := Eq.trans (Eq.symm (hpre 3 (by decide))) hg
              cases h
            · refine ⟨fun hg K hK => ?_, fun _ => trivial⟩
              have h := Eq.trans (Eq.symm (hpre 3 (by decide))) hg
              cases h
            · refine ⟨fun hg K hK => ?_, fun _ => trivial⟩
              have h := Eq.trans (Eq.symm (hpre 3 (by decide))) hg
              cases h
            · refine ⟨fun hg K hK => ?_, fun _ => trivial⟩
              have h := Eq.trans (Eq.symm (hpre 3 (by decide))) hg
              cases h
            · refine ⟨fun hg K hK => ?_, fun _ => trivial⟩
              have h := Eq.trans (Eq.symm (hpre 3 (by decide))) hg
              cases h
            · refine ⟨fun hg K hK => ?_, trivial⟩
              clear hg
              have q0 : ev (.tmp 19) = _ := hpre 3 (by decide)
              clear hpre hψ
              go_simp
              exact hK _ _ γ HR.out (fun _ _ _ _ h => h) (fun _ _ _ h => h) rfl
          · intro vs wy γ hvl hR hφ
            have q9 := hφ 14 (by decide)
            have HR := Lib.hid hR
            clear hφ hR
            match vs, hvl with
            | [y0, y1, y2, y3, y4, y5, y6, y7, y8, y9, y10, y11, y12, y13, y14], _ =>
            simp only [List.getD_cons_zero, List.getD_cons_succ] at q9
            obtain rfl : y14 = _ := q9
            have HG : Hid ((i + 1 ≤ n ∨ i + 1 = 1) ∧ SrtI l0 n (i + 1) l1 ∧ SoS w b l1 wy) := Lib.hid ⟨Or.inl HI.out.2, HF.out, HR.out⟩
            clear HR
            simp [putAll]
            go_wp2
            go_roundw
            case rel => exact ⟨i + 1, l1, by omega, by go_num, HG⟩
            case measure => have := HI.out; simp [intOf]; omega
        · have hz2 : 0 < j := by omega
          have hz1 : (0 : Int) < (j : Int) := by omega
          have hz3 : decide (0 < j) = true := decide_eq_true hz2
          have HJP : Hid (0 < j) := Lib.hid hz2
          have wv : IntKind.i64.wrap ((j : Int) - 1) = ((j - 1 : Nat) : Int) := by rw [IntWalk.i64_in _ (by have := HJI.out; have := HI.out; have := HN.out; omega)]; omega
          clear hj0
          go_wp2
          refine wp_region_free10 14 (by kernel_rfl) [some 16, some 17, some 18, some 19, some 20, some 21, some 22, some 23, some 24, some 25, some 26, some 27, some 28, some 29, some 30] [[], [], [0, 1], [2], [3], [3], [4, 5, 3], [6, 3], [3], [3], [9, 3], [8, 10, 3], [11, 3], [7, 12, 3, 3], [3, 13]] [(7, .int .i64 (j : Int)), (1, .int .i64 0), (0, .slice (some ⟨b, 0, none⟩) n c)] (fun W _ => SoS w b l1 W) (mdPhi (fun _ => True) (fun _ _ => True) 99 [.eq (.int .i64 (j : Int)), .eq (.int .i64 0), .eq (.bool true), .eq (.bool true), .eq (.slice (some ⟨b, 0, none⟩) n c), .eq (.int .i64 (j : Int)), .eq (.pointer (some ⟨b, j, none⟩)), .eq (.int .i64 x), .eq (.slice (some ⟨b, 0, none⟩) n c), .eq (.int .i64 (j : Int)), .eq (.int .i64 ((j - 1 : Nat) : Int)), .eq (.pointer (some ⟨b, j - 1, none⟩)), .eq (.int .i64 y), .eq (.bool (decide (x < y))), .eq (.bool (decide (x < y)))]) (fun _ _ _ => True) (by kernel_rfl) (by kernel_rfl) rfl (by kernel_rfl) ?_ ?_ ⟨fun _ => 0, HJ.out.2.drew, fun _ _ => trivial⟩ ?_ ?_
          · intro z hz
            simp only [List.mem_cons, List.mem_nil_iff, or_false] at hz
            rcases hz with rfl | rfl | rfl
            all_goals exact ⟨by kernel_rfl, rfl⟩
          · intro i v W γ hi h
            rcases i with _ | _ | _ | _ | _ | _ | _ | _ | _ | _ | _ | _ | _ | _ | _ | i
            all_goals first | exact h | (simp at hi)
          · refine ⟨?_, ?_, ?_, ?_, ?_, ?_, ?_, ?_, ?_, ?_, ?_, ?_, ?_, ?_, ?_, trivial⟩
            all_goals
              intro a9 W γ ev hcc hff hfx hR hψ hpre
              simp only [List.mem_cons, List.mem_nil_iff, or_false, forall_eq, forall_eq_or_imp] at hfx
              obtain ⟨f0, f1, f2⟩ := hfx
              have HR := Lib.hid hR
              clear hR
            · refine ⟨fun hg K hK => ?_, trivial⟩
              clear hg
              clear hpre hψ
              go_simp
              exact hK _ _ γ HR.out (fun _ _ _ _ h => h) (fun _ _ _ h => h) rfl
            · refine ⟨fun hg K hK => ?_, trivial⟩
              clear hg
              clear hpre hψ
              go_simp
              exact hK _ _ γ HR.out (fun _ _ _ _ h => h) (fun _ _ _ h => h) rfl
            · refine ⟨fun hg K hK => ?_, trivial⟩
              clear hg
              have q0 : ev (.tmp 16) = _ := hpre 0 (by decide)
              have q1 : ev (.tmp 17) = _ := hpre 1 (by decide)
              clear hpre hψ
              go_simp
              exact hK _ _ γ HR.out (fun _ _ _ _ h => h) (fun _ _ _ h => h) rfl
            · refine ⟨fun hg K hK => ?_, trivial⟩
              clear hg
              have q0 : ev (.tmp 18) = _ := hpre 2 (by decide)
              clear hpre hψ
              go_simp
              exact hK _ _ γ HR.out (fun _ _ _ _ h => h) (fun _ _ _ h => h) rfl
            · refine ⟨fun hg K hK => ?_, fun hg => (hg (hpre 3 (by decide))).elim⟩
              clear hg
              clear hpre hψ
              go_simp
              exact hK _ _ γ HR.out (fun _ _ _ _ h => h) (fun _ _ _ h => h) rfl
            · refine ⟨fun hg K hK => ?_, fun hg => (hg (hpre 3 (by decide))).elim⟩
              clear hg
              clear hpre hψ
              go_simp
              exact hK _ _ γ HR.out (fun _ _ _ _ h => h) (fun _ _ _ h => h) rfl
            · refine ⟨fun hg K hK => ?_, fun hg => (hg (hpre 3 (by decide))).elim⟩
              clear hg
              have q0 : ev (.tmp 20) = _ := hpre 4 (by decide)
              have q1 : ev (.tmp 21) = _ := hpre 5 (by decide)
              have k0 : (0 : Int) ≤ (j : Int) := by omega
              have k1 : (j : Int) < (n : Int) := by have := HJI.out; have := HI.out; omega
              clear hpre hψ
              go_simp
              exact hK _ _ γ HR.out (fun _ _ _ _ h => h) (fun _ _ _ h => h) rfl
            · refine ⟨fun hg K hK => ?_, fun hg => (hg (hpre 3 (by decide))).elim⟩
              clear hg
              have q0 : ev (.tmp 22) = _ := hpre 6 (by decide)
              obtain ⟨e0, z0, _⟩ := HR.out.at_ (i := j) (by have := HL1.out; have := HJI.out; have := HI.out; omega)
              rw [← HXY.out.1] at e0
              clear hpre hψ
              go_simp
              exact hK _ _ γ HR.out (fun _ _ _ _ h => h) (fun _ _ _ h => h) rfl
            · refine ⟨fun hg K hK => ?_, fun hg => (hg (hpre 3 (by decide))).elim⟩
              clear hg
              clear hpre hψ
              go_simp
              exact hK _ _ γ HR.out (fun _ _ _ _ h => h) (fun _ _ _ h => h) rfl
            · refine ⟨fun hg K hK => ?_, fun hg => (hg (hpre 3 (by decide))).elim⟩
              clear hg
              clear hpre hψ
              go_simp
              exact hK _ _ γ HR.out (fun _ _ _ _ h => h) (fun _ _ _ h => h) rfl
            · refine ⟨fun hg K hK => ?_, fun hg => (hg (hpre 3 (by decide))).elim⟩
              clear hg
              have q0 : ev (.tmp 25) = _ := hpre 9 (by decide)
              have wv : IntKind.i64.wrap ((j : Int) - 1) = ((j - 1 : Nat) : Int) := by rw [IntWalk.i64_in _ (by have := HJI.out; have := HI.out; have := HN.out; omega)]; omega
              clear hpre hψ
              go_simp
              exact hK _ _ γ HR.out (fun _ _ _ _ h => h) (fun _ _ _ h => h) rfl
            · refine ⟨fun hg K hK => ?_, fun hg => (hg (hpre 3 (by decide))).elim⟩
              clear hg
              have q0 : ev (.tmp 24) = _ := hpre 8 (by decide)
              have q1 : ev (.tmp 26) = _ := hpre 10 (by decide)
              have k0 : (0 : Int) ≤ ((j - 1 : Nat) : Int) := by omega
              have k1 : ((j - 1 : Nat) : Int) < (n : Int) := by have := HJI.out; have := HI.out; omega
              clear hpre hψ
              go_simp
              exact hK _ _ γ HR.out (fun _ _ _ _ h => h) (fun _ _ _ h => h) rfl
            · refine ⟨fun hg K hK => ?_, fun hg => (hg (hpre 3 (by decide))).elim⟩
              clear hg
              have q0 : ev (.tmp 27) = _ := hpre 11 (by decide)
              obtain ⟨e0, z0, _⟩ := HR.out.at_ (i := j - 1) (by have := HL1.out; have := HJI.out; have := HI.out; omega)
              rw [← HXY.out.2] at e0
              clear hpre hψ
              go_simp
              exact hK _ _ γ HR.out (fun _ _ _ _ h => h) (fun _ _ _ h => h) rfl
            · refine ⟨fun hg K hK => ?_, fun hg => (hg (hpre 3 (by decide))).elim⟩
              clear hg
              have q0 : ev (.tmp 23) = _ := hpre 7 (by decide)
              have q1 : ev (.tmp 28) = _ := hpre 12 (by decide)
              have HR9 := HR
              clear hpre hψ HR
              go_simp
              refine (less_int x y W).mono ?_
              rintro e w7 ⟨rfl, rfl⟩
              exact hK _ _ γ HR9.out (fun _ _ _ _ h => h) (fun _ _ _ h => h) rfl
            · refine ⟨fun hg K hK => ?_, trivial⟩
              clear hg
              have q0 : ev (.tmp 19) = _ := hpre 3 (by decide)
              have q1 : ev (.tmp 29) = _ := hpre 13 (by decide)
              clear hpre hψ
              go_simp
              exact hK _ _ γ HR.out (fun _ _ _ _ h => h) (fun _ _ _ h => h) rfl
          · intro vs wy γ hvl hR hφ
            have q9 := hφ 14 (by decide)
            have HR := Lib.hid hR
            clear hφ hR
            match vs, hvl with
            | [y0, y1, y2, y3, y4, y5, y6, y7, y8, y9, y10, y11, y12, y13, y14], _ =>
            simp only [List.getD_cons_zero, List.getD_cons_succ] at q9
            obtain rfl : y14 = _ := q9
            have HS1 := Lib.hid HR.out
            clear HR
            simp [putAll]
            by_cases hxy : x < y
            · have d1 : decide (x < y) = true := decide_eq_true hxy
              have HLT : Hid (x < y) := Lib.hid hxy
              go_wp2
              clear d1 hxy
              refine wp_region_free10 17 (by kernel_rfl) [some 33, some 34, some 35, some 36, some 37, some 38, some 39, some 40, some 41, some 42, some 43, some 44, some 45, some 46, some 47, none, some 48, none] [[], [], [], [], [3], [], [], [6], [5, 7], [8], [], [], [10, 11], [12], [0, 1, 0, 1, 5, 6, 7, 8, 9, 13], [14, 9, 0, 1, 5, 6, 7, 8, 9, 13], [2, 4, 0, 1, 2, 3, 4, 5, 6, 7, 8, 9, 10, 11, 12, 13, 14, 15], [16, 13, 15, 0, 1, 2, 3, 4, 5, 6, 7, 8, 9, 10, 11, 12, 13, 14, 15]] [(0, .slice (some ⟨b, 0, none⟩) n c), (7, .int .i64 (j : Int))] (swR w b j l1 x y) (swPhi b n c j x y) (swPsi) (by kernel_rfl) (by kernel_rfl) rfl (by kernel_rfl) ?_ ?_ ⟨fun _ => 0, ⟨fun _ => HS1.out.drew, fun e => by simp at e, fun e => by simp at e, fun _ => rfl, fun _ => rfl⟩, fun _ _ => ⟨fun _ => rfl, fun _ => rfl, fun _ => rfl, fun _ => Nat.zero_le _⟩⟩ ?_ ?_
              · intro z hz
                simp only [List.mem_cons, List.mem_nil_iff, or_false] at hz
                rcases hz with rfl | rfl
                all_goals exact ⟨by kernel_rfl, rfl⟩
              · intro i v W γ hi h
                rcases i with _ | _ | _ | _ | _ | _ | _ | _ | _ | _ | _ | _ | _ | _ | _ | _ | _ | _ | i
                all_goals first | exact h | (simp at hi)
              · refine ⟨?_, ?_, ?_, ?_, ?_, ?_, ?_, ?_, ?_, ?_, ?_, ?_, ?_, ?_, ?_, ?_, ?_, ?_, trivial⟩
                all_goals
                  intro a9 W γ ev hcc hff hfx hR hψ hpre
                  simp only [List.mem_cons, List.mem_nil_iff, or_false, forall_eq, forall_eq_or_imp] at hfx
                  obtain ⟨f0, f1⟩ := hfx
                  have HR := Lib.hid hR
                  clear hR
                · refine ⟨fun hg K hK => ?_, trivial⟩
                  clear hg
                  clear hpre hψ
                  go_simp
                  exact hK _ _ γ HR.out (fun _ _ _ _ h => h) (fun _ _ _ h => h) rfl
                · refine ⟨fun hg K hK => ?_, trivial⟩
                  clear hg
                  clear hpre hψ
                  go_simp
                  exact hK _ _ γ HR.out (fun _ _ _ _ h => h) (fun _ _ _ h => h) rfl
                · refine ⟨fun hg K hK => ?_, trivial⟩
                  clear hg
                  clear hpre hψ
                  go_simp
                  exact hK _ _ γ HR.out (fun _ _ _ _ h => h) (fun _ _ _ h => h) rfl
                · refine ⟨fun hg K hK => ?_, trivial⟩
                  clear hg
                  clear hpre hψ
                  go_simp
                  exact hK _ _ γ HR.out (fun _ _ _ _ h => h) (fun _ _ _ h => h) rfl
                · refine ⟨fun hg K hK => ?_, trivial⟩
                  clear hg
                  have q0 : ev (.tmp 36) = _ := hpre 3 (by decide)
                  have wv : IntKind.i64.wrap ((j : Int) - 1) = ((j - 1 : Nat) : Int) := by rw [IntWalk.i64_in _ (by have := HJI.out; have := HI.out; have := HN.out; omega)]; omega
                  clear hpre hψ
                  go_simp
                  exact hK _ _ γ HR.out (fun _ _ _ _ h => h) (fun _ _ _ h => h) rfl
                · refine ⟨fun hg K hK => ?_, trivial⟩
                  clear hg
                  clear hpre hψ
                  go_simp
                  exact hK _ _ γ HR.out (fun _ _ _ _ h => h) (fun _ _ _ h => h) rfl
                · refine ⟨fun hg K hK => ?_, trivial⟩
                  clear hg
                  clear hpre hψ
                  go_simp
                  exact hK _ _ γ HR.out (fun _ _ _ _ h => h) (fun _ _ _ h => h) rfl
                · refine ⟨fun hg K hK => ?_, trivial⟩
                  clear hg
                  have q0 : ev (.tmp 39) = _ := hpre 6 (by decide)
                  have wv : IntKind.i64.wrap ((j : Int) - 1) = ((j - 1 : Nat) : Int) := by rw [IntWalk.i64_in _ (by have := HJI.out; have := HI.out; have := HN.out; omega)]; omega
                  clear hpre hψ
                  go_simp
                  exact hK _ _ γ HR.out (fun _ _ _ _ h => h) (fun _ _ _ h => h) rfl
                · refine ⟨fun hg K hK => ?_, trivial⟩
                  clear hg
                  have q0 : ev (.tmp 38) = _ := hpre 5 (by decide)
                  have q1 : ev (.tmp 40) = _ := hpre 7 (by decide)
                  have k0 : (0 : Int) ≤ ((j - 1 : Nat) : Int) := by omega
                  have k1 : ((j - 1 : Nat) : Int) < (n : Int) := by have := HJI.out; have := HI.out; omega
                  clear hpre hψ
                  go_simp
                  exact hK _ _ γ HR.out (fun _ _ _ _ h => h) (fun _ _ _ h => h) rfl
                · refine ⟨fun hg K hK => ?_, trivial⟩
                  clear hg
                  have q0 : ev (.tmp 41) = _ := hpre 8 (by decide)
                  have hg := hψ.1 rfl
                  have hI := HR.out.1 (HR.out.2.2.2.1 hg)
                  obtain ⟨e0, z0, _⟩ := hI.at_ (i := j - 1) (by have := HL1.out; have := HJI.out; have := HI.out; omega)
                  rw [← HXY.out.2] at e0
                  have HX9 := Lib.hid (And.intro HR.out hg)
                  clear hpre hψ hI HR hg
                  go_simp
                  have hr := HX9.out.1
                  have hg := HX9.out.2
                  exact hK (.int .i64 y) _ (fun i => if i = 9 then 1 else γ i) ⟨fun e => hr.1 (by simpa using e), fun e => hr.2.1 (by simpa using e), fun e => hr.2.2.1 (by simpa using e), fun e => by simp at e, fun e => hr.2.2.2.2 (by simpa using e)⟩ (fun j u h1 h2 h3 => swPhi_w (fun e => by subst e; first | rfl | exact absurd rfl h2) (fun e => by subst e; first | rfl | exact absurd rfl h2) (fun _ => Or.inl rfl) h3) (fun _ j hj h => ⟨fun e => by subst e; first | (exact h.1 rfl) | exact absurd rfl hj, fun e => by subst e; first | (exact h.2.1 rfl) | exact absurd rfl hj, h.2.2.1, h.2.2.2⟩) ⟨rfl, rfl⟩
                · refine ⟨fun hg K hK => ?_, trivial⟩
                  clear hg
                  clear hpre hψ
                  go_simp
                  exact hK _ _ γ HR.out (fun _ _ _ _ h => h) (fun _ _ _ h => h) rfl
                · refine ⟨fun hg K hK => ?_, trivial⟩
                  clear hg
                  clear hpre hψ
                  go_simp
                  exact hK _ _ γ HR.out (fun _ _ _ _ h => h) (fun _ _ _ h => h) rfl
                · refine ⟨fun hg K hK => ?_, trivial⟩
                  clear hg
                  have q0 : ev (.tmp 43) = _ := hpre 10 (by decide)
                  have q1 : ev (.tmp 44) = _ := hpre 11 (by decide)
                  have k0 : (0 : Int) ≤ (j : Int) := by omega
                  have k1 : (j : Int) < (n : Int) := by have := HJI.out; have := HI.out; omega
                  clear hpre hψ
                  go_simp
                  exact hK _ _ γ HR.out (fun _ _ _ _ h => h) (fun _ _ _ h => h) rfl
                · refine ⟨fun hg K hK => ?_, trivial⟩
                  clear hg
                  have q0 : ev (.tmp 45) = _ := hpre 12 (by decide)
                  have hg := hψ.2.1 rfl
                  have hI := HR.out.1 (HR.out.2.2.2.2 hg)
                  obtain ⟨e0, z0, _⟩ := hI.at_ (i := j) (by have := HL1.out; have := HJI.out; have := HI.out; omega)
                  rw [← HXY.out.1] at e0
                  have HX9 := Lib.hid (And.intro HR.out hg)
                  clear hpre hψ hI HR hg
                  go_simp
                  have hr := HX9.out.1
                  have hg := HX9.out.2
                  exact hK (.int .i64 x) _ (fun i => if i = 13 then 1 else γ i) ⟨fun e => hr.1 (by simpa using e), fun e => hr.2.1 (by simpa using e), fun e => hr.2.2.1 (by simpa using e), fun e => hr.2.2.2.1 (by simpa using e), fun e => by simp at e⟩ (fun j u h1 h2 h3 => swPhi_w (fun e => by subst e; first | rfl | exact absurd rfl h2) (fun e => by subst e; first | rfl | exact absurd rfl h2) (fun _ => Or.inl rfl) h3) (fun _ j hj h => ⟨fun e => by subst e; first | (exact h.1 rfl) | exact absurd rfl hj, fun e => by subst e; first | (exact h.2.1 rfl) | exact absurd rfl hj, h.2.2.1, h.2.2.2⟩) ⟨rfl, rfl⟩
                · refine ⟨fun hg K hK => ?_, trivial⟩
                  clear hg
                  have q0 : ev (.tmp 33) = _ := hpre 0 (by decide)
                  have q1 : ev (.tmp 34) = _ := hpre 1 (by decide)
                  have k0 : (0 : Int) ≤ (j : Int) := by omega
                  have k1 : (j : Int) < (n : Int) := by have := HJI.out; have := HI.out; omega
                  clear hpre hψ
                  go_simp
                  exact hK _ _ γ HR.out (fun _ _ _ _ h => h) (fun _ _ _ h => h) rfl
                · refine ⟨fun hg K hK => ?_, trivial⟩
                  clear hg
                  have q0 : ev (.tmp 47) = _ := hpre 14 (by decide)
                  have q1 : ev (.tmp 42) = _ := (hpre 9 (by decide)).1
                  have hg9 := (hpre 9 (by decide)).2
                  have hg13 := (hpre 13 (by decide)).2
                  have h0 := hψ.2.2.1 rfl
                  have hI := HR.out.1 h0
                  obtain ⟨e0, zl, fl9⟩ := hI.at_ (i := j) (by have := HL1.out; have := HJI.out; have := HI.out; omega)
                  have HX9 := Lib.hid (And.intro (hI.set_ (i := j) (by have := HL1.out; have := HJI.out; have := HI.out; omega) y) (And.intro h0 (And.intro hg9 hg13)))
                  clear hpre hψ hI h0 HR hg9 hg13
                  go_simp
                  have hx := HX9.out.2
                  exact hK undef _ (fun i => if i = 0 then 1 else γ i) ⟨fun e => by simp at e, fun _ => HX9.out.1, fun e => by simp at e, fun e => by have h5 : γ 9 = 0 := e; omega, fun e => by have h5 : γ 13 = 0 := e; omega⟩ (fun j u h1 h2 h3 => swPhi_w (fun _ => rfl) (fun _ => rfl) (fun e => by rcases e with e | e; exact absurd e h2; subst e; exact absurd (by decide) h1) h3) (fun _ j hj h => ⟨h.1, h.2.1, fun e => absurd e hj, fun _ => Nat.le_refl _⟩) (Or.inl rfl)
                · refine ⟨fun hg K hK => ?_, trivial⟩
                  clear hg
                  have q0 : ev (.tmp 35) = _ := hpre 2 (by decide)
                  have q1 : ev (.tmp 37) = _ := hpre 4 (by decide)
                  have k0 : (0 : Int) ≤ ((j - 1 : Nat) : Int) := by omega
                  have k1 : ((j - 1 : Nat) : Int) < (n : Int) := by have := HJI.out; have := HI.out; omega
                  clear hpre hψ
                  go_simp
                  exact hK _ _ γ HR.out (fun _ _ _ _ h => h) (fun _ _ _ h => h) rfl
                · refine ⟨fun hg K hK => ?_, trivial⟩
                  clear hg
                  have q0 : ev (.tmp 48) = _ := hpre 16 (by decide)
                  have q1 : ev (.tmp 46) = _ := (hpre 13 (by decide)).1
                  have h1 : γ 0 = 1 := by
                    have h15 : γ 0 = 1 ∨ γ 0 = 2 := hpre 15 (by decide)
                    have h16 := hψ.2.2.2 rfl
                    omega
                  have hI := HR.out.2.1 h1
                  have hlen : (l1.set j y).length = n := by rw [List.length_set]; exact HL1.out
                  obtain ⟨e0, zl, fl9⟩ := hI.at_ (i := j - 1) (by have := HJI.out; have := HI.out; omega)
                  have HX9 := Lib.hid (And.intro (hI.set_ (i := j - 1) (by have := HJI.out; have := HI.out; omega) x) (And.intro HR.out h1))
                  clear hpre hψ hI h1 hlen HR
                  go_simp
                  have hr := HX9.out.2.1
                  have h1 := HX9.out.2.2
                  exact hK undef _ (fun i => if i = 0 then 2 else γ i) ⟨fun e => by simp at e, fun e => by simp at e, fun _ => HX9.out.1, fun e => by have h5 : γ 9 = 0 := e; have := hr.2.2.2.1 h5; omega, fun e => by have h5 : γ 13 = 0 := e; have := hr.2.2.2.2 h5; omega⟩ (fun j u h1 h2 h3 => swPhi_w (fun _ => rfl) (fun _ => rfl) (fun _ => Or.inr rfl) h3) (fun h => absurd rfl h) rfl
              · intro vs wz γ hvl hR hφ
                have q9 := hφ 17 (by decide)
                have HR := Lib.hid hR
                clear hφ hR
                match vs, hvl with
                | [y0, y1, y2, y3, y4, y5, y6, y7, y8, y9, y10, y11, y12, y13, y14, y15, y16, y17], _ =>
                simp only [List.getD_cons_zero, List.getD_cons_succ] at q9
                have HG : Hid (InsI l0 n i (j - 1) ((l1.set j y).set (j - 1) x) ∧ SoS w b ((l1.set j y).set (j - 1) x) wz) := Lib.hid ⟨by
                  have h := HJ.out.1.swap HJP.out HI.out.2 (by rw [← HXY.out.1, ← HXY.out.2]; exact HLT.out)
                  rw [← HXY.out.1, ← HXY.out.2] at h
                  exact h, HR.out.2.2.1 q9⟩
                clear HR q9
                simp [putAll]
                go_wp2
                go_roundw
                case rel => exact ⟨j - 1, _, rfl, HG⟩
                case measure => have := HJP.out; simp [intOf]; omega
            · have d1 : decide (x < y) = false := decide_eq_false hxy
              have HG : Hid ((i + 1 ≤ n ∨ i + 1 = 1) ∧ SrtI l0 n (i + 1) l1 ∧ SoS w b l1 wy) := Lib.hid ⟨Or.inl HI.out.2, HJ.out.1.done (Or.inr (by rw [← HXY.out.1, ← HXY.out.2]; omega)), HS1.out⟩
              go_wp2
              go_roundw
              case rel => exact ⟨i + 1, l1, by omega, by go_num, HG⟩
              case measure => have := HI.out; simp [intOf]; omega
    · have HF : Hid (SrtI l0 n n l ∧ SoS w b l wr) := Lib.hid ⟨⟨HW.out.2.1.1, HW.out.2.1.2.1, fun p q h1 h2 => HW.out.2.1.2.2 p q h1 (by have := HW.out.1; omega)⟩, HW.out.2.2⟩
      have hin : ¬ ((i : Int) < (n : Int)) := by omega
      clear hi1
      go_wp2
      go_end0
      exact ⟨⟨_, rfl⟩, l, HF.out⟩
theorem pdq_any (b n c : Nat) (r : Int) (l0 : List Int) (w : World) (hl : l0.length = n) (hn : n ≤ 4) (hr : RowW w b 3 encI (some ⟨b, 0, none⟩) l0) :
    Calls Try.prog 43 #[.slice (some ⟨b, 0, none⟩) n c, .int .i64 0, .int .i64 (n : Int), .int .i64 r] w fun e w' => ∃ (v : Value) (l : List Int), e = .returned v ∧ SrtI l0 n n l ∧ SoS w b l w' := by
  have K := Lib.hid (insertion_any b n c l0 w hl (by omega) hr)
  have h12 : (n : Int) ≤ 12 := by omega
  have wn : IntKind.i64.wrap (n : Int) = (n : Int) := IntWalk.i64_in _ (by omega)
  clear hl hn hr
  go_enter Try.func43, Try.ntmps43
  go_wp2
  go_loopw [1, 2] (fun av bv wr => av = .int .i64 0 ∧ bv = .int .i64 (n : Int) ∧ wr = w) (fun _ _ _ => 0)
  case atStart => exact ⟨rfl, rfl, rfl⟩
  case round =>
    obtain ⟨rfl, rfl, rfl⟩ := hrel
    go_wp2_with fail
    refine K.out.mono ?_
    rintro e w1 ⟨v, l, rfl, h1, h2⟩
    have H := Lib.hid (And.intro h1 h2)
    clear h1 h2
    go_wp2
    refine bodyPost_ret (results_none rfl _ _ _) rfl ?_
    exact ⟨_, l, rfl, H.out⟩
theorem Sort_any (b n c : Nat) (l0 : List Int) (w : World) (hl : l0.length = n) (hn : n ≤ 4) (hr : RowW w b 3 encI (some ⟨b, 0, none⟩) l0) :
    Calls Try.prog 13 #[.slice (some ⟨b, 0, none⟩) n c] w fun e w' => ∃ (v : Value) (l : List Int), e = .returned v ∧ SrtI l0 n n l ∧ SoS w b l w' := by
  have K := Lib.hid (fun r => pdq_any b n c r l0 w hl hn hr)
  have KL := Lib.hid (fun W => len_small n hn W)
  have wn : IntKind.u64.wrap (n : Int) = (n : Int) := IntWalk.u64_in _ (by omega)
  clear hl hn hr
  go_enter Try.func13, Try.ntmps13
  go_wp2_with fail
  refine (KL.out w).mono ?_
  rintro e w1 ⟨⟨r, rfl⟩, rfl⟩
  go_wp2_with fail
  refine (K.out r).mono ?_
  rintro e w2 ⟨v, l, rfl, h1, h2⟩
  have H := Lib.hid (And.intro h1 h2)
  clear h1 h2
  go_wp2
  go_end0
  exact ⟨_, l, rfl, H.out⟩
end Go.Proofs.Ytcecbohaajocfaa
