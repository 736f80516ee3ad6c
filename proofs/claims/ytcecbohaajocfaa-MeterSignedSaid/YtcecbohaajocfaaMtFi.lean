/- slices.Delete of a link. -/
import Derived.Test.YtcecbohaajocfaaMtFf
import Derived.Laws.CopyRow

set_option linter.unusedSimpArgs false
set_option linter.unusedVariables false
namespace Go.Proofs.Ytcecbohaajocfaa
open Go.RowKit

theorem zero_link (w : World) : (zeroValue 67).run Try.prog w = .ok (.agg #[.int .i64 0, .int .i64 0, .int .i64 0, .int .u64 0]) w := by
  obtain ⟨i0, hi, hz0, hz1, hz2⟩ := info_parts linkInfo
  simp [zeroValue, typeInfo, hi, hz0]
theorem clear_link (B g n c cap : Nat) (W : World) (xs : List Value) (hown : W.ownsRow B 67 4 (.slice (some ⟨g, 0, none⟩) n cap) n xs) (hroom : n + 1 ≤ cap) :
    ∃ W', (∀ ty, (Builtin.clear_ #[58] ty #[.slice (some ⟨g, n * 4, none⟩) 1 c]).run Try.prog W = .ok (.tuple #[]) W') ∧ W'.ownsRow B 67 4 (.slice (some ⟨g, 0, none⟩) n cap) n xs ∧ W.grownBy W' (some g) := by
  rcases hown.2 with ⟨h, _⟩ | ⟨g', cap', cur, h, hbg, hg, hnc, hcm, hcs, htake⟩
  · simp at h
  · simp only [Value.slice.injEq, Option.some.injEq, Addr.mk.injEq, and_true, true_and] at h
    obtain ⟨rfl, rfl⟩ := h
    obtain ⟨Z, hZ⟩ : ∃ z : List Value, z = [.int .i64 0, .int .i64 0, .int .i64 0, .int .u64 0] := ⟨_, rfl⟩
    have hZl : Z.length = 4 := by rw [hZ]; rfl
    have hst := run_storeCells_at (P := Try.prog) g (n * 4) 67 Z 0 cur W hg (by rw [hZl]; omega) (by intro v hv; rw [hZ] at hv; simp only [List.mem_cons, List.mem_nil_iff, or_false] at hv; rcases hv with rfl | rfl | rfl | rfl <;> rfl)
    have hz := fun W => zero_link W
    have hzc : (Builtin.zeroCells (Value.agg #[.int .i64 0, .int .i64 0, .int .i64 0, .int .u64 0]).cells 1).toList = Z := by rw [hZ]; kernel_rfl
    refine ⟨W.setRow g (cur.toList.take (n * 4 + 0) ++ Z ++ cur.toList.drop (n * 4 + 0 + Z.length)).toArray, fun ty => ?_, ⟨hown.1, .inr ⟨g, cap, _, rfl, hbg, setRow_heap W g cur _ 67 _ hg, hnc, hcm, ?_, ?_⟩⟩, ⟨rfl, rfl, rfl, by simp, fun k _ hk => setRow_other W g k _ (fun e => hk (by simp [e]))⟩⟩
    · simp only [Builtin.clear_, List.getElem?_toArray, List.getElem?_cons_zero, Sem.run_bind, run_underlying Try.underlying58, Result.andThen_ok, hz, hzc, hst, Sem.run_pure]
    · simp only [List.size_toArray, List.length_append, List.length_take, List.length_drop, Array.length_toList, hZl]
      omega
    · rw [Nat.add_zero, List.append_assoc, List.take_append_of_le_length (by rw [List.length_take, Array.length_toList]; omega), List.take_take, Nat.min_self]
      exact htake
/-- A row's front is a row. -/
theorem row_front {W : World} {B size n m c g : Nat} {e : TypeId} {xs : List Value} (h : W.ownsRow B e size (.slice (some ⟨g, 0, none⟩) n c) n xs) (hm : m ≤ n) : W.ownsRow B e size (.slice (some ⟨g, 0, none⟩) m c) m (xs.take (m * size)) := by
  have hmul : m * size ≤ n * size := Nat.mul_le_mul_right _ hm
  refine ⟨by rw [List.length_take, h.1]; omega, ?_⟩
  rcases h.2 with ⟨h1, _⟩ | ⟨g', cap', cur, h1, hbg, hg, hnc, hcm, hcs, htake⟩
  · simp at h1
  · simp only [Value.slice.injEq, Option.some.injEq, Addr.mk.injEq, and_true, true_and] at h1
    obtain ⟨rfl, rfl⟩ := h1
    exact .inr ⟨g, c, cur, rfl, hbg, hg, by omega, hcm, hcs, by rw [← htake, List.take_take, Nat.min_eq_left hmul]⟩
theorem row_cells {W : World} {B size n c g : Nat} {e : TypeId} {xs : List Value} (h : W.ownsRow B e size (.slice (some ⟨g, 0, none⟩) n c) n xs) (k : Nat) (u : Value) (hu : xs[k]? = some u) : W.cell? ⟨g, k, none⟩ = some u := by
  rcases h.2 with ⟨h1, _⟩ | ⟨g', cap', cur, h1, hbg, hg, hnc, hcm, hcs, htake⟩
  · simp at h1
  · simp only [Value.slice.injEq, Option.some.injEq, Addr.mk.injEq, and_true, true_and] at h1
    obtain ⟨rfl, rfl⟩ := h1
    have hk : k < xs.length := (List.getElem?_eq_some_iff.1 hu).1
    rw [← htake, List.getElem?_take] at hu
    split at hu
    · simp only [World.cell?, hg]
      simpa using hu
    · cases hu
theorem row_room {W : World} {B size n c g : Nat} {e : TypeId} {xs : List Value} (h : W.ownsRow B e size (.slice (some ⟨g, 0, none⟩) n c) n xs) : n ≤ c ∧ c ≤ maxLen ∧ B ≤ g ∧ g < W.heap.size := by
  rcases h.2 with ⟨h1, _⟩ | ⟨g', cap', cur, h1, hbg, hg, hnc, hcm, hcs, htake⟩
  · simp at h1
  · simp only [Value.slice.injEq, Option.some.injEq, Addr.mk.injEq, and_true, true_and] at h1
    obtain ⟨rfl, rfl⟩ := h1
    exact ⟨hnc, hcm, hbg, (Array.getElem?_eq_some_iff.1 hg).1⟩
def dlR (Q0 Q1 : World → Prop) (W : World) (γ : Nat → Nat) : Prop := (γ 0 = 0 ∧ Q0 W) ∨ (γ 0 = 1 ∧ Q1 W)
theorem dlR.at0 {Q0 Q1 : World → Prop} {W : World} {γ : Nat → Nat} (h : dlR Q0 Q1 W γ) (e : γ 0 = 0) : Q0 W := by rcases h with h | h; exact h.2; omega
theorem dlR.at1 {Q0 Q1 : World → Prop} {W : World} {γ : Nat → Nat} (h : dlR Q0 Q1 W γ) (e : γ 0 = 1) : Q1 W := by rcases h with h | h; omega; exact h.2
def dlPhi (g n c i j m d e : Nat) (oa : Option Addr) : Nat → Value → World → (Nat → Nat) → Prop
  | 0, v, _, _ => v = .slice (some ⟨g, 0, none⟩) n c
  | 1, v, _, _ => v = .int .i64 ((i : Nat) : Int)
  | 2, v, _, _ => v = .slice (some ⟨g, 0, none⟩) i c
  | 3, v, _, _ => v = .slice (some ⟨g, 0, none⟩) n c
  | 4, v, _, _ => v = .int .i64 ((j : Nat) : Int)
  | 5, v, _, _ => v = .slice oa d e
  | 6, v, _, γ => v = .slice (some ⟨g, 0, none⟩) m c ∧ γ 0 = 1
  | 7, v, _, _ => v = .slice (some ⟨g, 0, none⟩) m c
  | _, _, _, _ => True
theorem erase_flat (L : List Lk) (i : Nat) : (L.eraseIdx i).flatMap encLk = (L.flatMap encLk).take (i * 4) ++ (L.flatMap encLk).drop ((i + 1) * 4) := by
  induction L generalizing i with
  | nil => simp
  | cons x L ih =>
    cases i with
    | zero => rw [List.eraseIdx_cons_zero, List.flatMap_cons]; rfl
    | succ i =>
      rw [List.eraseIdx_cons_succ, List.flatMap_cons, List.flatMap_cons, ih i]
      have h4 : (encLk x).length = 4 := rfl
      rw [List.take_append, List.drop_append, h4, show (i + 1) * 4 - 4 = i * 4 by omega, show (i + 1 + 1) * 4 - 4 = (i + 1) * 4 by omega, List.take_of_length_le (l := encLk x) (by rw [h4]; omega), List.drop_of_length_le (l := encLk x) (by rw [h4]; omega), List.append_assoc]
      rfl
set_option maxRecDepth 100000 in
set_option maxHeartbeats 4000000 in
theorem Delete_any (B g n c i j : Nat) (L : List Lk) (w : World) (hj : j = i + 1) (hjn : j ≤ n) (hown : w.ownsRow B 67 4 (.slice (some ⟨g, 0, none⟩) n c) n (L.flatMap encLk)) (hl : L.length = n) (hn : n ≤ 1000000) :
    Calls Try.prog 25 #[.slice (some ⟨g, 0, none⟩) n c, .int .i64 ((i : Nat) : Int), .int .i64 ((j : Nat) : Int)] w fun e w' => e = .returned (.slice (some ⟨g, 0, none⟩) (n - 1) c) ∧ w'.ownsRow B 67 4 (.slice (some ⟨g, 0, none⟩) (n - 1) c) (n - 1) ((L.eraseIdx i).flatMap encLk) ∧ Keep (fun b => b = g) w w' := by
  have HR := Lib.hid (And.intro hown (And.intro hj (And.intro hjn (And.intro hl hn))))
  obtain ⟨i0, hi0, hz0, hz1, hz2⟩ := info_parts linkInfo
  have hi := Lib.hid (And.intro hi0 (And.intro hz0 (And.intro hz1 hz2)))
  obtain ⟨hnc, hcm, hBg, hgz⟩ := row_room hown
  have HC := Lib.hid (And.intro hnc (And.intro hcm (And.intro hBg hgz)))
  unfold maxLen at hcm
  obtain ⟨m, em⟩ : ∃ z, z = n - 1 := ⟨_, rfl⟩
  rw [← em]
  have HM := Lib.hid em
  have q1 : (0 : Int) ≤ ((i : Nat) : Int) := by omega
  have q2 : ((i : Nat) : Int) ≤ ((j : Nat) : Int) := by omega
  have q3 : ((j : Nat) : Int) ≤ ((n : Nat) : Int) := by omega
  have q4 : ((n : Nat) : Int) ≤ ((c : Nat) : Int) := by omega
  have q5 : ¬ (((i : Nat) : Int) = ((j : Nat) : Int)) := by omega
  have q6 : ¬ (i = j) := by omega
  have q7 : i ≤ j := by omega
  have q8 : (0 : Int) ≤ ((j : Nat) : Int) := by omega
  have q9 : i ≤ c := by omega
  have q0 : j ≤ c := by omega
  have b1 : (((i : Nat) : Int) == ((j : Nat) : Int)) = false := by rw [beq_eq_false_iff_ne]; exact q5
  have b2 : (i == j) = false := by rw [beq_eq_false_iff_ne]; exact q6
  clear hown hj hl hn em hi0 hz1 hz2 hgz hBg
  go_enter Try.func25, Try.ntmps25
  go_wp2
  refine wp_region_free10 7 (by kernel_rfl) [some 20, some 21, some 22, some 23, some 24, some 25, some 26, some 0] [[], [], [0, 1], [], [], [3, 4], [2, 5], [6, 6, 0, 1, 2, 3, 4, 5, 6]] [(0, .slice (some ⟨g, 0, none⟩) n c), (1, .int .i64 ((i : Nat) : Int)), (2, .int .i64 ((j : Nat) : Int))] (dlR (fun W => W.ownsRow B 67 4 (.slice (some ⟨g, 0, none⟩) n c) n (L.flatMap encLk) ∧ Keep (fun b => b = g) w W) (fun W => W.ownsRow B 67 4 (.slice (some ⟨g, 0, none⟩) m c) m ((L.eraseIdx i).flatMap encLk) ∧ Keep (fun b => b = g) w W)) (dlPhi g n c i j m (n - j) (c - j) (if c = j then some ⟨g, 0, none⟩ else some ⟨g, j * 4, none⟩)) (fun i _ γ => i = 6 → γ 0 = 0) (by kernel_rfl) (by kernel_rfl) rfl (by kernel_rfl) ?_ ?_ ⟨fun _ => 0, .inl ⟨rfl, row_next HR.out.1 (Below.refl _ _).drew, Keep.of_below (Below.refl _ _).drew⟩, fun _ _ _ => rfl⟩ ?_ ?_
  · intro z hz
    simp only [List.mem_cons, List.mem_nil_iff, or_false] at hz
    rcases hz with rfl | rfl | rfl
    all_goals exact ⟨by kernel_rfl, rfl⟩
  · intro i v W γ hi h
    rcases i with _ | _ | _ | _ | _ | _ | _ | _ | i
    all_goals first | exact h | (simp at hi)
  · refine ⟨?_, ?_, ?_, ?_, ?_, ?_, ?_, ?_, trivial⟩
    all_goals
      intro a9 W γ ev hcc hff hfx hR hψ hpre
      simp only [List.mem_cons, List.mem_nil_iff, or_false, forall_eq, forall_eq_or_imp] at hfx
      obtain ⟨f0, f1, f2⟩ := hfx
      have HR9 := Lib.hid hR
      clear hR
    · refine ⟨fun hg K hK => ?_, trivial⟩
      clear hg
      clear hpre hψ
      go_simp
      exact hK _ _ γ HR9.out (fun _ _ _ _ h => h) (fun _ _ _ h => h) rfl
    · refine ⟨fun hg K hK => ?_, trivial⟩
      clear hg
      clear hpre hψ
      go_simp
      exact hK _ _ γ HR9.out (fun _ _ _ _ h => h) (fun _ _ _ h => h) rfl
    · refine ⟨fun hg K hK => ?_, trivial⟩
      clear hg
      have q0 : ev (.tmp 20) = _ := hpre 0 (by decide)
      have q1 : ev (.tmp 21) = _ := hpre 1 (by decide)
      clear hpre hψ
      go_simp
      exact hK _ _ γ HR9.out (fun _ _ _ _ h => h) (fun _ _ _ h => h) rfl
    · refine ⟨fun hg K hK => ?_, trivial⟩
      clear hg
      clear hpre hψ
      go_simp
      exact hK _ _ γ HR9.out (fun _ _ _ _ h => h) (fun _ _ _ h => h) rfl
    · refine ⟨fun hg K hK => ?_, trivial⟩
      clear hg
      clear hpre hψ
      go_simp
      exact hK _ _ γ HR9.out (fun _ _ _ _ h => h) (fun _ _ _ h => h) rfl
    · refine ⟨fun hg K hK => ?_, trivial⟩
      clear hg
      have q0 : ev (.tmp 23) = _ := hpre 3 (by decide)
      have q1 : ev (.tmp 24) = _ := hpre 4 (by decide)
      clear hpre hψ
      go_simp
      exact hK _ _ γ HR9.out (fun _ _ _ _ h => h) (fun _ _ _ h => h) rfl
    · refine ⟨fun hg K hK => ?_, trivial⟩
      clear hg
      have hγ : γ 0 = 0 := hψ rfl
      have q2 : ev (.tmp 22) = _ := hpre 2 (by decide)
      have q5 : ev (.tmp 25) = _ := hpre 5 (by decide)
      have h0 := dlR.at0 HR9.out hγ
      have hfr := row_front h0.1 (m := i) (by have := HR.out; omega)
      have hnl : (L.flatMap encLk).length = n * 4 := h0.1.1
      obtain ⟨o, eo, ho⟩ : ∃ o, (if c = j then some (⟨g, 0, none⟩ : Addr) else some ⟨g, j * 4, none⟩) = some ⟨g, o, none⟩ ∧ (c ≠ j → o = j * 4) := by
        by_cases hcj : c = j
        · exact ⟨0, if_pos hcj, fun h => absurd hcj h⟩
        · exact ⟨j * 4, if_neg hcj, fun _ => rfl⟩
      rw [eo] at q5
      obtain ⟨W', hr, h2, h3⟩ := run_append_fits (P := Try.prog) W B 58 58 67 i0 4 Try.underlying58 hi.out.1 hi.out.2.2.1 g i c _ hfr ⟨g, o, none⟩ (n - j) (c - j) ((L.flatMap encLk).drop (j * 4)) (by rw [List.length_drop, hnl]; omega) (fun k u hu => by
        have hcj : c ≠ j := by
          intro e
          have h9 := (List.getElem?_eq_some_iff.1 hu).1
          rw [List.length_drop, hnl] at h9
          have := HC.out
          omega
        have ha : (⟨g, o, none⟩ : Addr).add k = ⟨g, o + k, none⟩ := by unfold Addr.add; split <;> simp_all
        rw [List.getElem?_drop] at hu
        rw [ha, ho hcj]
        exact row_cells h0.1 _ u hu) (by
        intro u hu
        refine one_flat (fun x _ u hu => ?_) u (List.mem_of_mem_drop hu)
        simp only [encLk, List.mem_cons, List.mem_nil_iff, or_false] at hu
        rcases hu with rfl | rfl | rfl | rfl <;> rfl) (by have := HR.out; have := HC.out; omega)
      have em : i + (n - j) = m := by have := HR.out; have := HM.out; omega
      rw [em] at hr h2
      rw [HR.out.2.1, ← erase_flat] at h2
      unfold execOp
      simp only [resolve, invoke, builtin, Sem.run_bind, Sem.run_pure, Result.andThen_ok, List.map_toArray, List.map_cons, List.map_nil, q2, q5, hr]
      exact hK _ W' (fun _ => 1) (.inr ⟨rfl, h2, h0.2.trans ⟨h3.os, h3.tape, h3.output, h3.size, fun k hk hne => h3.block k hk (fun e => hne (Option.some.inj e))⟩⟩) (fun j u hj hne h => by unfold dlPhi at h ⊢; split at h <;> first | exact h | trivial | exact absurd rfl hne) (fun _ j h1 h2 e => absurd e h1) ⟨rfl, rfl⟩
    · refine ⟨fun hg K hK => ?_, trivial⟩
      clear hg
      have q6 : ev (.tmp 26) = _ := (hpre 6 (by decide)).1
      clear hpre hψ
      go_simp
      exact hK _ _ γ HR9.out (fun _ _ _ _ h => h) (fun h => absurd rfl h) rfl
  · intro vs wy γ hvl hR hφ
    have q6 := hφ 6 (by decide)
    have q7 := hφ 7 (by decide)
    have HR5 := Lib.hid hR
    clear hφ hR
    match vs, hvl with
    | [y0, y1, y2, y3, y4, y5, y6, y7], _ =>
    simp only [List.getD_cons_zero, List.getD_cons_succ] at q6 q7
    obtain ⟨q6, hg1⟩ := q6
    have HW1 := Lib.hid (dlR.at1 HR5.out hg1)
    obtain ⟨W5, hW5, hown5, hgr5⟩ := clear_link B g m (c - m) c wy _ HW1.out.1 (by have := HC.out; have := HM.out; have := HR.out; omega)
    have HW5 := Lib.hid (And.intro hown5 (HW1.out.2.trans ⟨hgr5.os, hgr5.tape, hgr5.output, hgr5.size, fun k hk hne => hgr5.block k hk (fun e => hne (Option.some.inj e))⟩))
    have r1 : ((m : Nat) : Int) ≤ ((n : Nat) : Int) := by have := HM.out; omega
    have r2 : (0 : Int) ≤ ((m : Nat) : Int) := by omega
    have r3 : n - m = 1 := by have := HM.out; have := HR.out; omega
    have r4 : (0 : Int) ≤ ((n : Nat) : Int) := by omega
    have r5 : m ≤ n := by omega
    obtain rfl : y7 = _ := q7
    clear HR5 hg1 hown5 hgr5 q6
    simp [putAll]
    go_wp2
    go_ret
    exact ⟨rfl, HW5.out⟩
end Go.Proofs.Ytcecbohaajocfaa
