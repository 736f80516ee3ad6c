/- bank: advance. -/
import Derived.Test.YtnpkcipeacogcaaBkQ

set_option linter.unusedSimpArgs false
set_option linter.unusedVariables false
namespace Go.Proofs.Ytnpkcipeacogcaa
open Go.RowKit

theorem Fl.get {gs : List Gen} {fs : List Int} (h : Fl gs fs) {k : Nat} (hk : k < fs.length) : ∃ g f, gs[k]? = some g ∧ fs[k]? = some f ∧ 0 ≤ f ∧ f ≤ g.tries := by
  have hl := h.length
  exact ⟨gs[k], fs[k], List.getElem?_eq_getElem (by omega), List.getElem?_eq_getElem hk, h.ok.2 k _ _ (List.getElem?_eq_getElem (by omega)) (List.getElem?_eq_getElem hk)⟩
theorem sumI_take_bd {gs : List Gen} {fs : List Int} (hg : ∀ g ∈ gs, GenOk g) (h : Fl gs fs) (hn : fs.length ≤ 100) : ∀ k, 0 ≤ sumI (fs.take k) ∧ sumI (fs.take k) ≤ 5 * k := by
  intro k
  induction k with
  | zero => simp [sumI]
  | succ k ih =>
    by_cases hk : k < fs.length
    · obtain ⟨g, f, h1, h2, h3, h4⟩ := h.get hk
      have := (hg g (List.mem_of_getElem? h1)).t1
      rw [sumI_take h2]
      omega
    · rw [List.take_of_length_le (by omega)]
      rw [List.take_of_length_le (by omega)] at ih
      omega
/-- A list whose tail has been set to nothing. -/
def cutZ (fs : List Int) (k : Nat) : List Int := fs.take k ++ zer (fs.drop k)
theorem cutZ_end (fs : List Int) : cutZ fs fs.length = fs := by simp [cutZ, zer]
theorem cutZ_at {fs : List Int} {k : Nat} {f : Int} (h : fs[k]? = some f) : (cutZ fs (k + 1))[k]? = some f := by
  have hk := (List.getElem?_eq_some_iff.1 h).1
  unfold cutZ
  rw [take_at h, List.append_assoc, List.getElem?_append_right (by rw [List.length_take]; omega), List.length_take, Nat.min_eq_left (by omega), Nat.sub_self]
  rfl
theorem cutZ_set {fs : List Int} {k : Nat} {f x : Int} (h : fs[k]? = some f) : (cutZ fs (k + 1)).set k x = fs.take k ++ x :: zer (fs.drop (k + 1)) := by
  have hk := (List.getElem?_eq_some_iff.1 h).1
  have e : (fs.take k).length = k := by rw [List.length_take]; omega
  unfold cutZ
  rw [take_at h, List.append_assoc, List.set_append_right _ _ (by omega), e, Nat.sub_self]
  rfl
theorem cutZ_zero {fs : List Int} {k : Nat} {f : Int} (h : fs[k]? = some f) : fs.take k ++ (0 : Int) :: zer (fs.drop (k + 1)) = cutZ fs k := by
  unfold cutZ
  rw [drop_at h]
  simp [zer, List.replicate_succ]
theorem grown_setN (W : World) (q b o : Nat) (u : Value) : W.grownBy ((W.drewN q).setCell ⟨b, o, none⟩ u) (some b) :=
  have h := grown_set (W.drewN q) b o u
  ⟨h.os, h.tape, h.output, h.size, h.block⟩
def AdvEnd (gs : List Gen) (fs : List Int) (b : Int) (gF : Nat) (w : World) (e : Ending) (w' : World) : Prop :=
  ((∃ r, advL gs fs b = some r ∧ e = .returned (.bool true) ∧ Blk w' gF 3 (intsA r)) ∨ (advL gs fs b = none ∧ e = .returned (.bool false))) ∧ w.grownBy w' (some gF)
set_option maxRecDepth 100000 in
set_option maxHeartbeats 2000000 in
theorem advance_any (gA : Option Addr) (n gc gF : Nat) (gs : List Gen) (fs : List Int) (b : Int) (w : World) (B : Nat) (hg : Rd w B 5 Gen.enc gA n gs) (hB : B ≤ gF) (hf : Blk w gF 3 (intsA fs)) (hn : n ≤ 6) (ok : ∀ g ∈ gs, GenOk g) (hfl : Fl gs fs) (b0 : 0 ≤ b) (b1 : b ≤ 1000000) :
    Calls Try.prog 51 #[.slice gA n gc, .slice (some ⟨gF, 0, none⟩) n n, .int .i64 b] w (AdvEnd gs fs b gF w) := by
  have HG := Lib.hid hg
  have HF := Lib.hid hf
  have OK := Lib.hid ok
  have FL := Lib.hid hfl
  have hlen : fs.length = n := by rw [hfl.length]; exact hg.1
  have HLEN := Lib.hid hlen
  have HSB := Lib.hid (sumI_take_bd ok hfl (by omega))
  have zF := hf.lt
  clear hg hf ok hfl hlen
  go_enter Try.func51, Try.ntmps51
  go_wp2
  go_loop [7, 13] (fun t i => ∃ k : Nat, k ≤ n ∧ i = .int .i64 k ∧ t = .int .i64 (sumI (fs.take k))) (fun _ i => n - (intOf i).toNat)
  case atStart => exact ⟨0, by omega, rfl, rfl⟩
  case round =>
    obtain ⟨k, hk, rfl, rfl⟩ := hrel
    obtain ⟨s0, s1⟩ := HSB.out k
    by_cases hlt : k < n
    · obtain ⟨g, f, h1, h2, f0, f1⟩ := FL.out.get (k := k) (by rw [HLEN.out]; exact hlt)
      have t1 := (OK.out g (List.mem_of_getElem? h1)).t1
      have cf : w.cell? ⟨gF, k, none⟩ = some (.int .i64 f) := (HF.out.cell k).trans (by simp [intsA, h2])
      have HS := Lib.hid (sumI_take h2)
      obtain ⟨s, hs⟩ : ∃ z, z = sumI (fs.take k) := ⟨_, rfl⟩
      rw [← hs] at HS s0 s1 ⊢
      have hk0 : (0 : Int) ≤ (k : Int) := by omega
      have hkn : (k : Int) < (n : Int) := by omega
      clear h1 h2 hs
      go_wp2
      go_round
      case rel => exact ⟨k + 1, by omega, by go_num, by rw [HS.out]⟩
      case measure => simp [intOf]; omega
    · obtain rfl : k = n := by omega
      obtain ⟨s, hs⟩ : ∃ z, z = sumI (fs.take k) := ⟨_, rfl⟩
      have HS := Lib.hid hs
      rw [← hs] at s0 s1 ⊢
      clear hs
      go_wp2
      go_loopw [7, 10] (fun t i wr => ∃ j : Nat, j ≤ k ∧ i = .int .i64 ((j : Int) - 1) ∧ t = .int .i64 (sumI (fs.take j)) ∧ Hid (Blk wr gF 3 (intsA (cutZ fs j)) ∧ w.grownBy wr (some gF) ∧ advL (gs.drop j) (fs.drop j) (b - sumI (fs.take j)) = none)) (fun _ i _ => (intOf i + 1).toNat)
      case atStart =>
        refine ⟨k, Nat.le_refl _, rfl, by rw [HS.out], ?_, World.grownBy.refl _ _, ?_⟩
        · rw [show cutZ fs k = fs by rw [← HLEN.out]; exact cutZ_end fs]; exact HF.out
        · rw [List.drop_of_length_le (by rw [← FL.out.length, HLEN.out]; omega), List.drop_of_length_le (by rw [HLEN.out]; omega)]; rfl
      case round =>
        obtain ⟨j, hj, rfl, rfl, hH⟩ := hrel
        cases j with
        | zero =>
          have hn0 := hH.out.2.2
          simp only [List.drop_zero, List.take_zero, sumI, Int.sub_zero] at hn0
          have HN0 := Lib.hid hn0
          clear hn0
          go_wp2
          go_ret
          exact ⟨Or.inr ⟨HN0.out, rfl⟩, hH.out.2.1⟩
        | succ j =>
          rw [show ((j + 1 : Nat) : Int) - 1 = (j : Int) by omega]
          have hjk : j < k := by omega
          obtain ⟨g, f, h1, h2, f0, f1⟩ := FL.out.get (k := j) (by rw [HLEN.out]; exact hjk)
          have t1 := (OK.out g (List.mem_of_getElem? h1)).t1
          obtain ⟨s0, s1⟩ := HSB.out (j + 1)
          obtain ⟨i1, i2⟩ := advL_at FL.out h1 h2 hH.out.2.2
          have I1 := Lib.hid i1
          have I2 := Lib.hid i2
          have cf : wr.cell? ⟨gF, j, none⟩ = some (.int .i64 f) := (hH.out.1.cell j).trans (by simp [intsA, cutZ_at h2])
          have ff := hH.out.1.frozen j
          have zf := hH.out.1.lt
          obtain ⟨gb, go, x, e1, hb2, hx, hcx⟩ := HG.out.at_ hjk
          obtain rfl : x = g := by rw [h1] at hx; exact (Option.some.inj hx).symm
          have zb : gb < wr.heap.size := by omega
          have ct : wr.cell? ⟨gb, go + j * 5 + 4, none⟩ = some (.int .i64 x.tries) := by
            have h := hcx 4 _ rfl
            have e : wr.cell? ⟨gb, go + j * 5 + 4, none⟩ = w.cell? ⟨gb, go + j * 5 + 4, none⟩ := World.cell?_of_block (hH.out.2.1.block gb (by omega) (by intro e; cases e; omega))
            exact e.trans h
          have HX2 := Lib.hid h2
          have HS2 := Lib.hid (sumI_take h2)
          obtain ⟨s', hs'⟩ : ∃ z, z = sumI (fs.take (j + 1)) := ⟨_, rfl⟩
          rw [← hs'] at HS2 s0 s1 I1 I2 ⊢
          have hk0 : (0 : Int) ≤ (j : Int) := by omega
          have hkn : (j : Int) < (k : Int) := by omega
          have hkw : IntKind.i64.wrap (j : Int) = (j : Int) := IntWalk.i64_in _ (by omega)
          subst e1
          clear h1 h2 i1 i2 hx hcx hs' hj
          by_cases q1 : f < x.tries
          · have d1 : decide (f < x.tries) = true := decide_eq_true q1
            by_cases q2 : s' < b
            · have d2 : decide (s' < b) = true := decide_eq_true q2
              have hI := I1.out
              rw [if_pos ⟨q1, q2⟩] at hI
              have HI := Lib.hid hI
              clear hI
              go_wp2
              go_quiet (fail)
              go_wp2
              go_ret
              refine ⟨Or.inl ⟨_, HI.out, rfl, ?_⟩, ?_⟩
              · have h := hH.out.1.set_ j (.int .i64 (f + 1))
                rw [intsA_set, cutZ_set HX2.out] at h
                exact h
              · exact hH.out.2.1.trans (grown_setN _ _ _ _ _)
            · have d2 : decide (s' < b) = false := decide_eq_false q2
              have hI := I2.out (fun h => q2 h.2)
              have HI := Lib.hid hI
              clear hI
              go_wp2
              go_quiet (fail)
              go_wp2
              go_roundw
              case rel =>
                refine ⟨j, by omega, by go_num, by rw [HS2.out]; go_num, ?_, ?_, HI.out⟩
                · have h := hH.out.1.set_ j (.int .i64 0)
                  rw [intsA_set, cutZ_set HX2.out, cutZ_zero HX2.out] at h
                  exact h
                · exact hH.out.2.1.trans (grown_setN _ _ _ _ _)
              case measure => first | (simp [intOf]; done) | (simp [intOf]; omega)
          · have d1 : decide (f < x.tries) = false := decide_eq_false q1
            have hI := I2.out (fun h => q1 h.1)
            have HI := Lib.hid hI
            clear hI
            go_wp2
            go_quiet (fail)
            go_wp2
            go_roundw
            case rel =>
              refine ⟨j, by omega, by go_num, by rw [HS2.out]; go_num, ?_, ?_, HI.out⟩
              · have h := hH.out.1.set_ j (.int .i64 0)
                rw [intsA_set, cutZ_set HX2.out, cutZ_zero HX2.out] at h
                exact h
              · exact hH.out.2.1.trans (grown_setN _ _ _ _ _)
            case measure => first | (simp [intOf]; done) | (simp [intOf]; omega)
end Go.Proofs.Ytnpkcipeacogcaa
