/- law06: fails made of numbers. -/
import Derived.Test.YtnpkcipeacogcaaBkZ

set_option linter.unusedSimpArgs false
set_option linter.unusedVariables false
namespace Go.Proofs.Ytnpkcipeacogcaa
open Go.RowKit

theorem fails_snoc {gs : List Gen} {fs : List Int} {k : Nat} {x : Gen} {z : Int} (h1 : fs.length = k) (h2 : ∀ (i : Nat) (g : Gen) (f : Int), gs[i]? = some g → fs[i]? = some f → 0 ≤ f ∧ f ≤ g.tries) (hx : gs[k]? = some x) (hz : 0 ≤ z ∧ z ≤ x.tries) :
    ∀ (i : Nat) (g : Gen) (f : Int), gs[i]? = some g → (fs ++ [z])[i]? = some f → 0 ≤ f ∧ f ≤ g.tries := by
  intro i g f hg hf
  by_cases hi : i < fs.length
  · rw [List.getElem?_append_left hi] at hf
    exact h2 i g f hg hf
  · rw [List.getElem?_append_right (by omega)] at hf
    match hj : i - fs.length with
    | 0 =>
      obtain rfl : i = k := by omega
      rw [hj] at hf
      simp only [List.getElem?_cons_zero, Option.some.injEq] at hf
      rw [hx] at hg
      cases hg
      cases hf
      exact hz
    | j + 1 => rw [hj] at hf; simp at hf
theorem cell_one_at (w : World) (b : Nat) (u : Value) (T : TypeId) (h : w.heap.size = b) : ∀ j v, ([u] : List Value)[j]? = some v → (w.alloc (.cells #[u] T)).cell? ((⟨b, 0, none⟩ : Addr).add j) = some v := by
  subst h
  intro j v hj
  rw [add0, Blk.cell (heap_alloc_new w _)]
  simpa using hj
set_option maxRecDepth 100000 in
set_option maxHeartbeats 4000000 in
theorem Failed_any (bA gA A : Option Addr) (bn bc gn gc n c : Nat) (gs : List Gen) (l : List Int) (w : World) (hg : Rd w w.heap.size 5 Gen.enc gA gn gs) (hl : Rd w w.heap.size 1 encU A n l) (hu : U8s l) (hgn : gn ≤ 1000) (ok : ∀ g ∈ gs, GenOk g) (hn : n ≤ 9223372036854775807) :
    Calls Try.prog 11 #[.agg #[.slice bA bn bc, .slice gA gn gc], .slice A n c] w fun e w' => ∃ (A' : Option Addr) (c' : Nat) (fs : List Int), e = .returned (.slice A' gn c') ∧ Below w.heap.size w w' ∧ w'.ownsRow w.heap.size 3 1 (.slice A' gn c') gn (fs.flatMap encI) ∧ FailsOk gs fs := by
  have HG := Lib.hid hg
  have HL := Lib.hid hl
  have HU := Lib.hid hu
  have OK := Lib.hid ok
  have HGN := Lib.hid hg.1
  obtain ⟨i0, hi0, hi1, hi2, hi3⟩ := info_parts intInfo
  have hi := Lib.hid (And.intro hi0 (And.intro hi1 (And.intro hi2 hi3)))
  clear hg hl hu ok hi0 hi1 hi2 hi3
  go_enter Try.func11, Try.ntmps11
  go_wp2
  go_loopw [5, 12] (fun v i wr => ∃ k : Nat, k ≤ gn ∧ i = .int .i64 k ∧ ∃ fA fc, v = .slice fA k fc ∧ Hid (Below w.heap.size w wr) ∧ Hid (∃ fs : List Int, fs.length = k ∧ (∀ (i : Nat) (g : Gen) (f : Int), gs[i]? = some g → fs[i]? = some f → 0 ≤ f ∧ f ≤ g.tries) ∧ wr.ownsRow w.heap.size 3 1 (.slice fA k fc) k (fs.flatMap encI))) (fun _ i _ => gn - (intOf i).toNat)
  case atStart => exact ⟨0, by omega, rfl, none, 0, rfl, Lib.hid (by (repeat' (first | (with_reducible exact Below.refl _ _) | (with_reducible assumption) | (with_reducible refine below_drewN ?_ _) | (with_reducible refine below_after (by assumption) ?_ ?_) | (with_reducible refine Below.drew ?_) | (with_reducible refine Below.alloc ?_ ?_ _) | (with_reducible refine Below.setCell ?_ ?_ _) | omega | (simp; omega) | (simp; done)))), Lib.hid ⟨[], rfl, fun i g f h1 h2 => by simp at h2, World.ownsRow_nil _ _ _ _⟩⟩
  case round =>
    obtain ⟨k, hk, rfl, fA, fc, rfl, HLO, HR0⟩ := hrel
    by_cases hlt : k < gn
    · obtain ⟨b, off, x, e1, hb, hx, hcx⟩ := (HG.out.below HLO.out).at_ hlt
      have hxk := OK.out x (List.mem_of_getElem? hx)
      have ht : 1 ≤ x.tries ∧ x.tries ≤ 5 := ⟨hxk.t0, hxk.t1⟩
      obtain ⟨fs, hf1, hf2, hf3⟩ := HR0.out
      obtain ⟨xs, hxs⟩ : ∃ z, z = fs.flatMap encI := ⟨_, rfl⟩
      have HRW : Hid (wr.ownsRow w.heap.size 3 1 (.slice fA k fc) k xs) := Lib.hid (by rw [hxs]; exact hf3)
      have HQ : Hid (((wr.alloc (.cells #[.int .i64 x.power, .int .i64 x.ramp, .int .i64 x.delay, .int .i64 x.pause, .int .i64 x.tries] 66)).alloc (.cells #[.int .i64 0] 3)).ownsRow w.heap.size 3 1 (.slice fA k fc) k xs) := Lib.hid ((HRW.out.alloc _).alloc _)
      have HX := Lib.hid hx
      have x0 : wr.cell? ⟨b, off + k * 5, none⟩ = some (.int .i64 x.power) := by simpa using hcx 0 _ rfl
      have x1 : wr.cell? ⟨b, off + k * 5 + 1, none⟩ = some (.int .i64 x.ramp) := by simpa using hcx 1 _ rfl
      have x2 : wr.cell? ⟨b, off + k * 5 + 2, none⟩ = some (.int .i64 x.delay) := by simpa using hcx 2 _ rfl
      have x3 : wr.cell? ⟨b, off + k * 5 + 3, none⟩ = some (.int .i64 x.pause) := by simpa using hcx 3 _ rfl
      have x4 : wr.cell? ⟨b, off + k * 5 + 4, none⟩ = some (.int .i64 x.tries) := by simpa using hcx 4 _ rfl
      have zw := HLO.out.size
      have zb : b < wr.heap.size := by omega
      have hk0 : (0 : Int) ≤ (k : Int) := by omega
      have hkn : (k : Int) < (gn : Int) := by omega
      have hkw : IntKind.i64.wrap (k : Int) = (k : Int) := IntWalk.i64_in _ (by omega)
      subst e1
      by_cases hln : k < n
      · obtain ⟨lb, lo, y, e2, hlb, hy, hcy⟩ := (HL.out.below HLO.out).at_ hln
        have hyb := HU.out.at_ hy
        have y0 := cellU hcy
        have hm := tmod_bd (n := x.tries + 1) hyb.1 (by omega)
        have zl : lb < wr.heap.size := by omega
        have v1 : IntKind.i64.wrap y = y := IntWalk.i64_in _ (by omega)
        have v2 : IntKind.i64.wrap (x.tries + 1) = x.tries + 1 := IntWalk.i64_in _ (by omega)
        have v3 : ¬ (x.tries + 1 = 0) := by omega
        have v4 : IntKind.i64.wrap (y.tmod (x.tries + 1)) = y.tmod (x.tries + 1) := IntWalk.i64_in _ (by omega)
        have hnn : (k : Int) < (n : Int) := by omega
        have HLL : Hid ((fs ++ [(y.tmod (x.tries + 1))]).length = k + 1 ∧ ∀ (i : Nat) (g : Gen) (f : Int), gs[i]? = some g → (fs ++ [(y.tmod (x.tries + 1))])[i]? = some f → 0 ≤ f ∧ f ≤ g.tries) := Lib.hid ⟨by simp [hf1], fails_snoc hf1 hf2 hx (by omega)⟩
        have HXS : Hid (xs ++ [.int .i64 (y.tmod (x.tries + 1))] = (fs ++ [(y.tmod (x.tries + 1))]).flatMap encI) := Lib.hid (by rw [hxs]; simp [encI])
        have HM := Lib.hid hm
        subst e2
        clear hx hcx hy hcy hf1 hf2 hf3 hxs hm hxk hyb HR0 HG HL HU
        go_wp2
        go_quiet (fail)
        go_wp2_with (at_builtin; refine wpList_append_own_at _ rfl (.tmp 30) (.tmp 32) 30 rfl w.heap.size 3 i0 (.int .i64 0) 1 8 Try.underlying30 hi.out.1 hi.out.2.1 hi.out.2.2.1 hi.out.2.2.2 rfl (by decide) (.slice fA k fc) k xs rfl ?_ ⟨wr.heap.size + 1, 0, none⟩ 1 1 [.int .i64 (y.tmod (x.tries + 1))] rfl rfl (cell_one_at _ _ _ _ (by simp)) ?_ ?_ ?_ ?_ ?_)
        case _ => first | exact HQ.out | exact (HRW.out.alloc _).alloc _ | exact World.ownsRow.alloc (w := World.drewN _ _) (HRW.out.alloc _ : _) _
        case _ => (first | rfl | (intro u hu; simp only [List.mem_cons, List.mem_nil_iff, or_false] at hu; subst hu; rfl))
        case _ => simp only [maxLen]; omega
        case _ => omega
        case _ => first | omega | (simp; omega)
        intro v' w5 hown hg5 _ hat
        obtain ⟨A', c', rfl⟩ := row_slice hown
        have hB5 : Below w.heap.size w w5 := Below.grown (by have h1 := HLO.out; (repeat' (first | (with_reducible exact Below.refl _ _) | (with_reducible assumption) | (with_reducible refine below_drewN ?_ _) | (with_reducible refine below_after (by assumption) ?_ ?_) | (with_reducible refine Below.drew ?_) | (with_reducible refine Below.alloc ?_ ?_ _) | (with_reducible refine Below.setCell ?_ ?_ _) | omega | (simp; omega) | (simp; done)))) hg5 (by simp; omega) (fun r e => (World.ownsRow.lt HRW.out r e).1)
        have HO5 := Lib.hid hown
        have HB5 := Lib.hid hB5
        clear hown hg5 hat hB5
        go_wp2
        go_roundw
        case rel => exact ⟨k + 1, by omega, by go_num, _, _, rfl, HB5, Lib.hid ⟨fs ++ [(y.tmod (x.tries + 1))], HLL.out.1, HLL.out.2, by rw [← HXS.out]; exact HO5.out⟩⟩
        case measure => simp [intOf]; omega
      · have hnn : decide ((k : Int) < (n : Int)) = false := decide_eq_false (by omega)
        have HLL : Hid ((fs ++ [0]).length = k + 1 ∧ ∀ (i : Nat) (g : Gen) (f : Int), gs[i]? = some g → (fs ++ [0])[i]? = some f → 0 ≤ f ∧ f ≤ g.tries) := Lib.hid ⟨by simp [hf1], fails_snoc hf1 hf2 hx (by omega)⟩
        have HXS : Hid (xs ++ [.int .i64 0] = (fs ++ [0]).flatMap encI) := Lib.hid (by rw [hxs]; simp [encI])
        clear hx hcx hf1 hf2 hf3 hxs hxk HR0 HG HL HU
        go_wp2_with (at_builtin; refine wpList_append_own_at _ rfl (.tmp 30) (.tmp 32) 30 rfl w.heap.size 3 i0 (.int .i64 0) 1 8 Try.underlying30 hi.out.1 hi.out.2.1 hi.out.2.2.1 hi.out.2.2.2 rfl (by decide) (.slice fA k fc) k xs rfl ?_ ⟨wr.heap.size + 1, 0, none⟩ 1 1 [.int .i64 0] rfl rfl (cell_one_at _ _ _ _ (by simp)) ?_ ?_ ?_ ?_ ?_)
        case _ => first | exact HQ.out | exact (HRW.out.alloc _).alloc _ | exact World.ownsRow.alloc (w := World.drewN _ _) (HRW.out.alloc _ : _) _
        case _ => (first | rfl | (intro u hu; simp only [List.mem_cons, List.mem_nil_iff, or_false] at hu; subst hu; rfl))
        case _ => simp only [maxLen]; omega
        case _ => omega
        case _ => first | omega | (simp; omega)
        intro v' w5 hown hg5 _ hat
        obtain ⟨A', c', rfl⟩ := row_slice hown
        have hB5 : Below w.heap.size w w5 := Below.grown (by have h1 := HLO.out; (repeat' (first | (with_reducible exact Below.refl _ _) | (with_reducible assumption) | (with_reducible refine below_drewN ?_ _) | (with_reducible refine below_after (by assumption) ?_ ?_) | (with_reducible refine Below.drew ?_) | (with_reducible refine Below.alloc ?_ ?_ _) | (with_reducible refine Below.setCell ?_ ?_ _) | omega | (simp; omega) | (simp; done)))) hg5 (by simp; omega) (fun r e => (World.ownsRow.lt HRW.out r e).1)
        have HO5 := Lib.hid hown
        have HB5 := Lib.hid hB5
        clear hown hg5 hat hB5
        go_wp2
        go_roundw
        case rel => exact ⟨k + 1, by omega, by go_num, _, _, rfl, HB5, Lib.hid ⟨fs ++ [0], HLL.out.1, HLL.out.2, by rw [← HXS.out]; exact HO5.out⟩⟩
        case measure => simp [intOf]; omega
    · obtain rfl : k = gn := by omega
      go_wp2
      go_ret
      obtain ⟨fs, h1, h2, h3⟩ := HR0.out
      exact ⟨fA, fc, fs, rfl, HLO.out, h3, ⟨by rw [h1, HGN.out], h2⟩⟩
end Go.Proofs.Ytnpkcipeacogcaa
