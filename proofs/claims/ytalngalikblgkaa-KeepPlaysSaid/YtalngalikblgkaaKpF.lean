/- keep: leaveOut. -/
import Derived.Test.YtalngalikblgkaaKpE

set_option linter.unusedSimpArgs false
set_option linter.unusedVariables false
namespace Go.Proofs.Ytalngalikblgkaa
open Go.RowKit

/-- Of a row of flags, of a row of numbers: a cell, and what a store leaves. -/
theorem rowB_at {w : World} {b : Nat} {T : TypeId} {A : Option Addr} {l : List Bool} {k : Nat} {x : Bool} (h : RowW w b T encB A l) (hx : l[k]? = some x) : w.cell? ⟨b, k, none⟩ = some (.bool x) := by
  have := (h.at_ (size := 1) (fun _ => rfl) hx).2.2.2 0 (.bool x) rfl
  simpa using this
theorem rowI_at {w : World} {b : Nat} {T : TypeId} {A : Option Addr} {l : List Int} {k : Nat} {x : Int} (h : RowW w b T encI A l) (hx : l[k]? = some x) : w.cell? ⟨b, k, none⟩ = some (.int .i64 x) := by
  have := (h.at_ (size := 1) (fun _ => rfl) hx).2.2.2 0 (.int .i64 x) rfl
  simpa using this
theorem rowB_set {w : World} {b : Nat} {T : TypeId} {A : Option Addr} {l : List Bool} {k : Nat} {x : Bool} (h : RowW w b T encB A l) (hx : l[k]? = some x) (y : Bool) : RowW (w.setCell ⟨b, k, none⟩ (.bool y)) b T encB A (l.set k y) := by
  have := h.set_ (size := 1) (fun _ => rfl) (x' := y) (j := 0) (u := .bool y) hx (by omega) rfl
  simpa using this
theorem rowI_set {w : World} {b : Nat} {T : TypeId} {A : Option Addr} {l : List Int} {k : Nat} {x : Int} (h : RowW w b T encI A l) (hx : l[k]? = some x) (y : Int) : RowW (w.setCell ⟨b, k, none⟩ (.int .i64 y)) b T encI A (l.set k y) := by
  have := h.set_ (size := 1) (fun _ => rfl) (x' := y) (j := 0) (u := .int .i64 y) hx (by omega) rfl
  simpa using this
theorem rowW_keep {α : Type} {w w' : World} {b : Nat} {T : TypeId} {f : α → List Value} {A : Option Addr} {l : List α} {Sx : Nat → Prop} (h : RowW w b T f A l) (hk : Keep Sx w w') (hn : ¬ Sx b) : RowW w' b T f A l := h.kept (fun _ cur hb => hk.blk hb hn)
theorem rowW_set {α : Type} {w : World} {b : Nat} {T : TypeId} {f : α → List Value} {A : Option Addr} {l : List α} {p : Addr} (h : RowW w b T f A l) (hne : b ≠ p.block) (u : Value) : RowW (w.setCell p u) b T f A l := h.kept (fun _ cur hb => ((Keep.refl (fun b => b = p.block) w).setCell rfl u).blk hb hne)
/-- What leaveOut leaves of the flags, of the ranks. -/
def outI (inn : List Bool) (st : List Int) : List Bool := st.foldl (fun l x => l.set x.toNat false) inn
def outR (rnk : List Int) (st : List Int) (r : Int) : List Int := st.foldl (fun l x => l.set x.toNat r) rnk
theorem outI_len (st : List Int) (inn : List Bool) : (outI inn st).length = inn.length := by
  induction st generalizing inn with
  | nil => rfl
  | cons x st ih => exact (ih _).trans (List.length_set ..)
theorem outR_len (st : List Int) (rnk : List Int) (r : Int) : (outR rnk st r).length = rnk.length := by
  induction st generalizing rnk with
  | nil => rfl
  | cons x st ih => exact (ih _).trans (List.length_set ..)
theorem outI_snoc {st : List Int} {k : Nat} {x : Int} (h : st[k]? = some x) (inn : List Bool) : outI inn (st.take (k + 1)) = (outI inn (st.take k)).set x.toNat false := by
  rw [List.take_add_one, h]
  simp [outI]
theorem outR_snoc {st : List Int} {k : Nat} {x : Int} (h : st[k]? = some x) (rnk : List Int) (r : Int) : outR rnk (st.take (k + 1)) r = (outR rnk (st.take k) r).set x.toNat r := by
  rw [List.take_add_one, h]
  simp [outR]
def loR (ib rb k : Nat) (r : Int) (I : List Bool) (N : List Int) (wr : World) (W : World) (γ : Nat → Nat) : Prop :=
  Keep (fun b => b = ib ∨ b = rb) wr W ∧ RowW W ib 4 encB (some ⟨ib, 0, none⟩) (if γ 0 = 1 then I.set k false else I) ∧ RowW W rb 3 encI (some ⟨rb, 0, none⟩) (if γ 1 = 1 then N.set k r else N)
theorem loR_in {ib rb k : Nat} {r : Int} {I : List Bool} {N : List Int} {wr W : World} {γ : Nat → Nat} (h : loR ib rb k r I N wr W γ) (hk : k < I.length) (hne : ib ≠ rb) : (∃ x, W.cell? ⟨ib, k, none⟩ = some (.bool x)) ∧ ib < W.heap.size ∧ (∀ o, W.frozen? ⟨ib, o, none⟩ = false) ∧ loR ib rb k r I N wr (W.setCell ⟨ib, k, none⟩ (.bool false)) (fun i => if i = 0 then 1 else γ i) := by
  have hl : k < (if γ 0 = 1 then I.set k false else I).length := by split <;> first | omega | (rw [List.length_set]; omega)
  have hx := List.getElem?_eq_getElem hl
  have ha := h.2.1.at_ (size := 1) (fun _ => rfl) hx
  refine ⟨⟨_, rowB_at h.2.1 hx⟩, ha.2.1, ha.2.2.1, h.1.setCell (p := ⟨ib, k, none⟩) (.inl rfl) _, ?_, ?_⟩
  · have := rowB_set h.2.1 hx false
    rw [if_pos (show (if (0 : Nat) = 0 then 1 else γ 0) = 1 from rfl)]
    split at this
    · rw [List.set_set] at this
      exact this
    · exact this
  · exact rowW_set (p := ⟨ib, k, none⟩) h.2.2 (Ne.symm hne) _
theorem loR_rk {ib rb k : Nat} {r : Int} {I : List Bool} {N : List Int} {wr W : World} {γ : Nat → Nat} (h : loR ib rb k r I N wr W γ) (hk : k < N.length) (hne : ib ≠ rb) : (∃ x, W.cell? ⟨rb, k, none⟩ = some (.int .i64 x)) ∧ rb < W.heap.size ∧ (∀ o, W.frozen? ⟨rb, o, none⟩ = false) ∧ loR ib rb k r I N wr (W.setCell ⟨rb, k, none⟩ (.int .i64 r)) (fun i => if i = 1 then 1 else γ i) := by
  have hl : k < (if γ 1 = 1 then N.set k r else N).length := by split <;> first | omega | (rw [List.length_set]; omega)
  have hx := List.getElem?_eq_getElem hl
  have ha := h.2.2.at_ (size := 1) (fun _ => rfl) hx
  refine ⟨⟨_, rowI_at h.2.2 hx⟩, ha.2.1, ha.2.2.1, h.1.setCell (p := ⟨rb, k, none⟩) (.inr rfl) _, ?_, ?_⟩
  · exact rowW_set (p := ⟨rb, k, none⟩) h.2.1 hne _
  · have := rowI_set h.2.2 hx r
    rw [if_pos (show (if (1 : Nat) = 1 then 1 else γ 1) = 1 from rfl)]
    split at this
    · rw [List.set_set] at this
      exact this
    · exact this
def loPhi (bx ib rb S ic rc k : Nat) (r : Int) : Nat → Value → World → (Nat → Nat) → Prop
  | 0, v, _, _ => v = .pointer (some ⟨bx, 5, none⟩)
  | 1, v, _, _ => v = .pointer (some ⟨bx, 5, none⟩)
  | 2, v, _, _ => v = .slice (some ⟨ib, 0, none⟩) S ic
  | 3, v, _, _ => v = .int .i64 (k : Int)
  | 4, v, _, _ => v = .pointer (some ⟨bx, 5, none⟩)
  | 5, v, _, _ => v = .pointer (some ⟨bx, 7, none⟩)
  | 6, v, _, _ => v = .slice (some ⟨rb, 0, none⟩) S rc
  | 7, v, _, _ => v = .int .i64 (k : Int)
  | 8, v, _, _ => v = .int .i64 r
  | 9, v, _, _ => v = .pointer (some ⟨ib, k, none⟩)
  | 10, _, _, γ => γ 0 = 1
  | 11, v, _, _ => v = .pointer (some ⟨rb, k, none⟩)
  | 12, _, _, γ => γ 1 = 1
  | _, _, _, _ => True
theorem loPhi_g {bx ib rb S ic rc k : Nat} {r : Int} {j : Nat} {v : Value} {W W' : World} {γ γ' : Nat → Nat} (h0 : γ 0 = 1 → γ' 0 = 1) (h1 : γ 1 = 1 → γ' 1 = 1) (h : loPhi bx ib rb S ic rc k r j v W γ) : loPhi bx ib rb S ic rc k r j v W' γ' := by
  unfold loPhi at h ⊢
  split at h
  all_goals first | exact h | exact h0 h | exact h1 h | trivial
set_option maxRecDepth 100000 in
set_option maxHeartbeats 2000000 in
theorem leaveOut_any (nA gA cA sA : Option Addr) (nn nc gn gc ic cn cc rc sc ib rb lb S C H : Nat) (r : Int) (I : List Bool) (N st : List Int) (w : World) (hI : RowW w ib 4 encB (some ⟨ib, 0, none⟩) I) (hN : RowW w rb 3 encI (some ⟨rb, 0, none⟩) N) (hst : RowW w lb 3 encI sA st) (hne : ib ≠ rb) (hl1 : lb ≠ ib) (hl2 : lb ≠ rb) (hIl : I.length = S) (hNl : N.length = S) (hS : S ≤ 400) (hsl : st.length ≤ 400) (hbd : ∀ x ∈ st, 0 ≤ x ∧ x < S) (hib : ib < w.heap.size) (hrb : rb < w.heap.size) :
    Calls Try.prog 69 #[.agg #[.int .i64 (S : Int), .int .i64 (C : Int), .int .i64 (H : Int), .slice nA nn nc, .slice gA gn gc, .slice (some ⟨ib, 0, none⟩) S ic, .slice cA cn cc, .slice (some ⟨rb, 0, none⟩) S rc], .slice sA st.length sc, .int .i64 r] w fun e w' => (∃ v, e = .returned v) ∧ Keep (fun b => b = ib ∨ b = rb) w w' ∧ RowW w' ib 4 encB (some ⟨ib, 0, none⟩) (outI I st) ∧ RowW w' rb 3 encI (some ⟨rb, 0, none⟩) (outR N st r) := by
  have HI := Lib.hid hI
  have HN := Lib.hid hN
  have HST := Lib.hid hst
  have HNE := Lib.hid hne
  have HIL := Lib.hid hIl
  have HNL := Lib.hid hNl
  have HBD := Lib.hid hbd
  have HL := Lib.hid (And.intro hl1 hl2)
  have HZ := Lib.hid (And.intro hib hrb)
  obtain ⟨n, hn⟩ : ∃ z, z = st.length := ⟨_, rfl⟩
  rw [← hn] at hsl ⊢
  have HLEN := Lib.hid hn
  clear hI hN hst hne hIl hNl hbd hl1 hl2 hn hib hrb
  go_enter Try.func69, Try.ntmps69
  go_wp2
  obtain ⟨bx, hbx⟩ : ∃ z, z = w.heap.size := ⟨_, rfl⟩
  obtain ⟨w1, hw1⟩ : ∃ z, z = w.alloc (.cells #[.int .i64 (S : Int), .int .i64 (C : Int), .int .i64 (H : Int), .slice nA nn nc, .slice gA gn gc, .slice (some ⟨ib, 0, none⟩) S ic, .slice cA cn cc, .slice (some ⟨rb, 0, none⟩) S rc] 92) := ⟨_, rfl⟩
  have hk1 : Keep (fun b => b = ib ∨ b = rb) w w1 := by rw [hw1]; exact (Keep.refl _ _).alloc _
  have hbk1 : Blk w1 bx 92 #[.int .i64 (S : Int), .int .i64 (C : Int), .int .i64 (H : Int), .slice nA nn nc, .slice gA gn gc, .slice (some ⟨ib, 0, none⟩) S ic, .slice cA cn cc, .slice (some ⟨rb, 0, none⟩) S rc] := by rw [hw1, hbx]; exact heap_alloc_new w _
  have HNB : Hid (¬ (bx = ib ∨ bx = rb)) := Lib.hid (by have := HZ.out; rw [hbx]; omega)
  rw [← hw1, ← hbx]
  have hI1 : RowW w1 ib 4 encB (some ⟨ib, 0, none⟩) I := HI.out.kept (fun _ cur hb => by rw [hw1]; exact hb.alloc _)
  have hN1 : RowW w1 rb 3 encI (some ⟨rb, 0, none⟩) N := HN.out.kept (fun _ cur hb => by rw [hw1]; exact hb.alloc _)
  have H1 : Hid (Keep (fun b => b = ib ∨ b = rb) w w1 ∧ Blk w1 bx 92 #[.int .i64 (S : Int), .int .i64 (C : Int), .int .i64 (H : Int), .slice nA nn nc, .slice gA gn gc, .slice (some ⟨ib, 0, none⟩) S ic, .slice cA cn cc, .slice (some ⟨rb, 0, none⟩) S rc] ∧ RowW w1 ib 4 encB (some ⟨ib, 0, none⟩) (outI I (st.take 0)) ∧ RowW w1 rb 3 encI (some ⟨rb, 0, none⟩) (outR N (st.take 0) r)) := Lib.hid ⟨hk1, hbk1, hI1, hN1⟩
  clear hk1 hbk1 hw1 hbx hI1 hN1
  go_loopw [10] (fun i wr => ∃ j : Nat, j ≤ n ∧ i = .int .i64 j ∧ Hid (Keep (fun b => b = ib ∨ b = rb) w wr ∧ Blk wr bx 92 #[.int .i64 (S : Int), .int .i64 (C : Int), .int .i64 (H : Int), .slice nA nn nc, .slice gA gn gc, .slice (some ⟨ib, 0, none⟩) S ic, .slice cA cn cc, .slice (some ⟨rb, 0, none⟩) S rc] ∧ RowW wr ib 4 encB (some ⟨ib, 0, none⟩) (outI I (st.take j)) ∧ RowW wr rb 3 encI (some ⟨rb, 0, none⟩) (outR N (st.take j) r))) (fun i _ => n - (intOf i).toNat)
  case atStart => exact ⟨0, by omega, rfl, H1⟩
  case round =>
    obtain ⟨j, hj, rfl, hrel⟩ := hrel
    by_cases hlt : j < n
    · obtain ⟨x, hx⟩ : ∃ x, st[j]? = some x := ⟨_, List.getElem?_eq_getElem (by rw [← HLEN.out]; exact hlt)⟩
      obtain ⟨k, rfl⟩ : ∃ k : Nat, x = (k : Int) := ⟨x.toNat, by have := HBD.out x (List.mem_of_getElem? hx); omega⟩
      have hkS : (k : Int) < (S : Int) := (HBD.out _ (List.mem_of_getElem? hx)).2
      have hk0 : (0 : Int) ≤ (k : Int) := by omega
      have hstj := rowW_keep HST.out hrel.out.1 (by have := HL.out; omega)
      obtain ⟨hA, zlb, _, _⟩ := hstj.at_ (size := 1) (fun _ => rfl) hx
      have xc := rowI_at hstj hx
      subst hA
      have HX := Lib.hid hx
      have hk1 : (0 : Int) ≤ (j : Int) := by omega
      have hkn : (j : Int) < (n : Int) := by omega
      obtain ⟨hkk, hbk, hI0, hN0⟩ := hrel.out
      have HBX := Lib.hid hbk
      have HKK := Lib.hid hkk
      have HKI : Hid (k < (outI I (st.take j)).length) := Lib.hid (by rw [outI_len, HIL.out]; omega)
      have HKN : Hid (k < (outR N (st.take j) r).length) := Lib.hid (by rw [outR_len, HNL.out]; omega)
      clear hx hstj hkk hbk hrel
      go_wp2
      refine wp_region_free10 12 (by kernel_rfl) [some 14, some 15, some 16, some 17, some 18, some 19, some 20, some 21, some 22, some 23, none, some 24, none] [[], [0], [1], [], [], [4], [5], [], [], [2, 3, 0, 1, 2, 3], [9, 0, 1, 2, 3], [6, 7, 0, 1, 2, 3, 4, 5, 6, 7, 8, 9, 10], [11, 8, 10, 0, 1, 2, 3, 4, 5, 6, 7, 8, 9, 10]] [(3, .pointer (some ⟨bx, 0, none⟩)), (7, .int .i64 (k : Int)), (2, .int .i64 r)] (loR ib rb k r (outI I (st.take j)) (outR N (st.take j) r) wr) (loPhi bx ib rb S ic rc k r) (fun _ _ _ => True) (by kernel_rfl) (by kernel_rfl) rfl (by kernel_rfl) ?_ ?_ ⟨fun _ => 0, ⟨(Keep.refl _ _).drew, hI0, hN0⟩, fun i _ => trivial⟩ ?_ ?_
      · intro z hz
        simp only [List.mem_cons, List.mem_nil_iff, or_false] at hz
        rcases hz with rfl | rfl | rfl
        all_goals exact ⟨by kernel_rfl, rfl⟩
      · intro i v W γ hi h
        rcases i with _ | _ | _ | _ | _ | _ | _ | _ | _ | _ | _ | _ | _ | i
        all_goals first | exact h | (simp at hi)
      · refine ⟨?_, ?_, ?_, ?_, ?_, ?_, ?_, ?_, ?_, ?_, ?_, ?_, ?_, trivial⟩
        all_goals
          intro a W γ ev hcc hff hfx hR hψ hpre
          simp only [List.mem_cons, List.mem_nil_iff, or_false, forall_eq, forall_eq_or_imp] at hfx
          obtain ⟨f0, f1, f2⟩ := hfx
          have HR := Lib.hid hR
          clear hR
          refine ⟨fun _ K hK => ?_, trivial⟩

        · clear hpre hψ
          go_simp
          exact hK _ _ γ HR.out (fun _ _ _ _ h => h) (fun _ _ _ h => h) rfl
        · have q0 : ev (.tmp 14) = _ := hpre 0 (by decide)
          clear hpre hψ
          go_simp
          exact hK _ _ γ HR.out (fun _ _ _ _ h => h) (fun _ _ _ h => h) rfl
        · have q0 : ev (.tmp 15) = _ := hpre 1 (by decide)
          have hbk := HR.out.1.blk HBX.out HNB.out
          have hzz := hbk.lt
          have c5 := hbk.cell 5
          have c7 := hbk.cell 7
          simp only [List.getElem?_toArray, List.getElem?_cons_zero, List.getElem?_cons_succ] at c5 c7
          clear hbk
          clear hpre hψ
          go_simp
          exact hK _ _ γ HR.out (fun _ _ _ _ h => h) (fun _ _ _ h => h) rfl
        · clear hpre hψ
          go_simp
          exact hK _ _ γ HR.out (fun _ _ _ _ h => h) (fun _ _ _ h => h) rfl
        · clear hpre hψ
          go_simp
          exact hK _ _ γ HR.out (fun _ _ _ _ h => h) (fun _ _ _ h => h) rfl
        · have q0 : ev (.tmp 18) = _ := hpre 4 (by decide)
          clear hpre hψ
          go_simp
          exact hK _ _ γ HR.out (fun _ _ _ _ h => h) (fun _ _ _ h => h) rfl
        · have q0 : ev (.tmp 19) = _ := hpre 5 (by decide)
          have hbk := HR.out.1.blk HBX.out HNB.out
          have hzz := hbk.lt
          have c5 := hbk.cell 5
          have c7 := hbk.cell 7
          simp only [List.getElem?_toArray, List.getElem?_cons_zero, List.getElem?_cons_succ] at c5 c7
          clear hbk
          clear hpre hψ
          go_simp
          exact hK _ _ γ HR.out (fun _ _ _ _ h => h) (fun _ _ _ h => h) rfl
        · clear hpre hψ
          go_simp
          exact hK _ _ γ HR.out (fun _ _ _ _ h => h) (fun _ _ _ h => h) rfl
        · clear hpre hψ
          go_simp
          exact hK _ _ γ HR.out (fun _ _ _ _ h => h) (fun _ _ _ h => h) rfl
        · have q0 : ev (.tmp 16) = _ := hpre 2 (by decide)
          have q1 : ev (.tmp 17) = _ := hpre 3 (by decide)
          clear hpre hψ
          go_simp
          exact hK _ _ γ HR.out (fun _ _ _ _ h => h) (fun _ _ _ h => h) rfl
        · have q0 : ev (.tmp 23) = _ := hpre 9 (by decide)
          obtain ⟨⟨x9, c9⟩, z9, f9, hR9⟩ := loR_in HR.out HKI.out HNE.out
          have HR9 := Lib.hid hR9
          clear hpre hR9
          go_simp
          exact hK undef _ _ HR9.out (fun j u _ _ h => loPhi_g (fun _ => rfl) (fun h => h) h) (fun _ _ _ h => h) rfl
        · have q0 : ev (.tmp 20) = _ := hpre 6 (by decide)
          have q1 : ev (.tmp 21) = _ := hpre 7 (by decide)
          clear hpre hψ
          go_simp
          exact hK _ _ γ HR.out (fun _ _ _ _ h => h) (fun _ _ _ h => h) rfl
        · have q0 : ev (.tmp 24) = _ := hpre 11 (by decide)
          have q1 : ev (.tmp 22) = _ := hpre 8 (by decide)
          obtain ⟨⟨x9, c9⟩, z9, f9, hR9⟩ := loR_rk HR.out HKN.out HNE.out
          have HR9 := Lib.hid hR9
          clear hpre hR9
          go_simp
          exact hK undef _ _ HR9.out (fun j u _ _ h => loPhi_g (fun h => h) (fun _ => rfl) h) (fun _ _ _ h => h) rfl
      · intro vs w' γ hvl hR hφ
        have q10 := hφ 10 (by decide)
        have q12 := hφ 12 (by decide)
        have HR := Lib.hid hR
        clear hφ hR
        match vs, hvl with
        | [y0, y1, y2, y3, y4, y5, y6, y7, y8, y9, y10, y11, y12], _ =>
        simp only [List.getD_cons_zero, List.getD_cons_succ] at q10 q12
        have HLR := HR
        clear HR
        simp [putAll]
        go_wp2
        go_roundw
        case rel =>
          obtain ⟨r1, r2, r3⟩ := HLR.out
          rw [if_pos (show γ 0 = 1 from q10)] at r2
          rw [if_pos (show γ 1 = 1 from q12)] at r3
          refine ⟨j + 1, by omega, by go_num, Lib.hid ⟨HKK.out.trans r1, r1.blk HBX.out HNB.out, ?_, ?_⟩⟩
          · rw [outI_snoc HX.out]
            exact r2
          · rw [outR_snoc HX.out]
            exact r3
        case measure => simp [intOf]; omega
    · obtain rfl : n = j := by omega
      have HREL := hrel
      clear hrel
      go_wp2
      go_end0
      obtain ⟨r1, _, r2, r3⟩ := HREL.out
      rw [List.take_of_length_le (by rw [← HLEN.out]; exact Nat.le_refl _)] at r2 r3
      exact ⟨⟨_, rfl⟩, r1, r2, r3⟩
end Go.Proofs.Ytalngalikblgkaa
