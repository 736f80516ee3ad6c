/- keep: the clone of a list of flags; good. -/
import Derived.Test.YtalngalikblgkaaKpR

set_option linter.unusedSimpArgs false
set_option linter.unusedVariables false
namespace Go.Proofs.Ytalngalikblgkaa
open Go.RowKit
attribute [local go_sem] Oper.semAt_some

theorem boolInfo : (Try.prog.info? 4).map (fun i => (i.zero, i.size, i.bytes)) = some (some (.bool false), 1, 1) := by kernel_rfl
set_option maxRecDepth 100000 in
set_option maxHeartbeats 1000000 in
theorem clone_bools (A : Option Addr) (n c : Nat) (l : List Bool) (w : World) (hr : Rd w w.heap.size 1 encB A n l) (hn : n ≤ 1000000) :
    Calls Try.prog 26 #[.slice A n c] w fun e w' => ∃ (A' : Option Addr) (c' : Nat), e = .returned (.slice A' n c') ∧ w'.ownsRow w.heap.size 4 1 (.slice A' n c') n (l.flatMap encB) ∧ Below w.heap.size w w' ∧ (A.isSome = true → A'.isSome = true) := by
  have hlen := hr.1
  have hN := fun (W : World) => Lib.run_eql_slice_nil (P := Try.prog) W 23 4 A n c 0 0 Try.underlying23
  obtain ⟨i0, hi, hz0, hz1, hz2⟩ := info_parts boolInfo
  cases A with
  | none =>
    have hn0 : n = 0 := by
      rcases Nat.eq_zero_or_pos n with h | h
      · exact h
      · obtain ⟨_, _, e, _⟩ := hr.2 h
        cases e
    subst hn0
    have hl0 : l = [] := List.eq_nil_of_length_eq_zero hlen
    subst hl0
    clear hr hlen hn hi hz0 hz1 hz2
    simp only [Option.isNone_none] at hN
    go_enter Try.func26, Try.ntmps26
    go_wp2
    go_ret
    exact ⟨none, 0, rfl, World.ownsRow_nil _ _ _ _, Below.refl _ _, fun h => h⟩
  | some ad =>
    simp only [Option.isNone_some] at hN
    have hnews : Hid (∀ W, Below w.heap.size w W → ∀ j u, (l.flatMap encB)[j]? = some u → W.cell? (ad.add j) = some u) := fun W hW => (hr.below hW).news (fun _ _ => rfl)
    clear hr
    go_enter Try.func26, Try.ntmps26
    go_wp2_with (at_builtin; refine wpList_append_own_at _ rfl (.tmp 5) (.tmp 6) 23 rfl w.heap.size 4 i0 (.bool false) 1 1 Try.underlying23 hi hz0 hz1 hz2 rfl (by decide) (.slice (some ⟨w.heap.size, 0, none⟩) 0 0) 0 [] rfl (World.ownsRow_made w #[] 0 (Nat.le_refl _) (by simp [maxLen]) (by simp)) ad n c (l.flatMap encB) rfl ?_ (hnews.out _ (by (repeat' (first | (with_reducible exact Below.refl _ _) | (with_reducible assumption) | (with_reducible refine below_drewN ?_ _) | (with_reducible refine below_after (by assumption) ?_ ?_) | (with_reducible refine Below.drew ?_) | (with_reducible refine Below.alloc ?_ ?_ _) | (with_reducible refine Below.setCell ?_ ?_ _) | omega | (simp; omega) | (simp; done))))) ?_ ?_ ?_ ?_ ?_)
    case _ => rw [flatMap_size l (size := 1) (fun _ _ => rfl), hlen]
    case _ =>
      refine one_flat (fun x _ u hu => ?_)
      simp only [encB, List.mem_cons, List.mem_nil_iff, or_false] at hu
      rcases hu with rfl <;> rfl
    case _ => simp only [maxLen]; omega
    case _ => omega
    case _ => simp
    intro v' w1 hown hg hnil hat
    have hB : Below w.heap.size w w1 := Below.grown (w := w.alloc (.cells #[] 4)) (by (repeat' (first | (with_reducible exact Below.refl _ _) | (with_reducible assumption) | (with_reducible refine below_drewN ?_ _) | (with_reducible refine below_after (by assumption) ?_ ?_) | (with_reducible refine Below.drew ?_) | (with_reducible refine Below.alloc ?_ ?_ _) | (with_reducible refine Below.setCell ?_ ?_ _) | omega | (simp; omega) | (simp; done)))) hg (by simp) (fun k e => by simp [Value.ownBlock] at e; omega)
    have hown : World.ownsRow w1 w.heap.size 4 1 v' n (l.flatMap encB) := by simpa using hown
    obtain ⟨A', c', rfl⟩ := row_slice hown
    have hA' : A'.isSome = true := by
      rcases hat with h | h <;> (cases A' with | none => simp [Value.ownBlock] at h | some a => rfl)
    have HO := Lib.hid hown
    clear hown hat hg hnil
    go_wp2
    go_ret
    exact ⟨A', c', rfl, HO.out, hB, fun _ => hA'⟩
theorem notcells {W : World} {r : Nat} {o : Obj} (ho : W.heap[r]? = some o) (hc : o.isCells = false) : ∀ T cs, ¬ Blk W r T cs := fun T cs hb => by
  rw [show W.heap[r]? = _ from hb] at ho
  cases ho
  cases hc
/-- A clone that is not empty. -/
theorem clone_row (A : Option Addr) (n c : Nat) (l : List Bool) (w : World) (hr : Rd w w.heap.size 1 encB A n l) (hn : n ≤ 1000000) (h1 : 1 ≤ n) :
    Calls Try.prog 26 #[.slice A n c] w fun e w' => ∃ (b c' : Nat), e = .returned (.slice (some ⟨b, 0, none⟩) n c') ∧ RowW w' b 4 encB (some ⟨b, 0, none⟩) l ∧ w.heap.size ≤ b ∧ Below w.heap.size w w' :=
  (clone_bools A n c l w hr hn).mono (fun e w' ⟨A', c', he, hown, hB, _⟩ => by
    have hl : l.length = n := hr.1
    subst hl
    obtain ⟨A2, c2, b, e2, hw, hb⟩ := RowW.of_own hown
    cases e2
    have hx0 : l[0]? = some l[0] := List.getElem?_eq_getElem (by omega)
    have hA := (hw.at_ (size := 1) (fun _ => rfl) hx0).1
    subst hA
    exact ⟨b, c', he, hw, (hb (by omega)).1, hB⟩)
theorem rowW_own {β α : Type} (b : Nat) (T : TypeId) (f : α → List Value) (A : Option Addr) (l : List α) : Own (fun (_ : β) W => RowW W b T f A l) := fun s X Y row hs hg hrow =>
  hs.kept (fun _ cur hb => hb.kept hg (fun e' => by obtain ⟨o, ho, hc⟩ := hrow b e'.symm; rw [show X.heap[b]? = _ from hb] at ho; cases ho; cases hc))
def GRows (B : Nat) (W : World) (S : Nat) (good : List Bool) (ib cb rb : Nat) : Prop :=
  RowW W ib 4 encB (some ⟨ib, 0, none⟩) good ∧ Blk W cb 3 (intsA (List.replicate S (-1))) ∧ Blk W rb 3 (intsA (List.replicate S 0)) ∧ B ≤ ib ∧ B ≤ cb ∧ B ≤ rb
theorem rowW_next {α : Type} {w w' : World} {b : Nat} {T : TypeId} {f : α → List Value} {A : Option Addr} {l : List α} (h : RowW w b T f A l) (hb : Below w.heap.size w w') : RowW w' b T f A l := h.kept (fun _ cur hc => hc.below hb hc.lt)
theorem GRows.next {B : Nat} {W W' : World} {S : Nat} {good : List Bool} {ib cb rb : Nat} (h : GRows B W S good ib cb rb) (hb : Below W.heap.size W W') : GRows B W' S good ib cb rb :=
  ⟨rowW_next h.1 hb, h.2.1.below hb h.2.1.lt, h.2.2.1.below hb h.2.2.1.lt, h.2.2.2⟩
theorem GRows.keep {B : Nat} {W W' : World} {S g : Nat} {good : List Bool} {ib cb rb : Nat} {cs : Array Value} (h : GRows B W S good ib cb rb) (hk : Keep (fun b => b = g) W W') (hg : Blk W g 27 cs) : GRows B W' S good ib cb rb :=
  ⟨h.1.kept (fun _ cur hc => hk.blk hc (blk_ne hc hg (by decide))), hk.blk h.2.1 (blk_ne h.2.1 hg (by decide)), hk.blk h.2.2.1 (blk_ne h.2.2.1 hg (by decide)), h.2.2.2⟩
def goPhi (B bx S : Nat) (gA : Option Addr) (gc : Nat) (good : List Bool) : Nat → Value → World → (Nat → Nat) → Prop
  | 0, v, _, _ => v = .pointer (some ⟨bx, 4, none⟩)
  | 1, v, _, _ => v = .slice gA S gc
  | 2, v, W, _ => ∃ b c, v = .slice (some ⟨b, 0, none⟩) S c ∧ RowW W b 4 encB (some ⟨b, 0, none⟩) good ∧ B ≤ b
  | 3, v, W, _ => ∃ b, v = .slice (some ⟨b, 0, none⟩) 1 1 ∧ Blk W b 3 #[.int .i64 (-1)]
  | 4, v, _, _ => v = .pointer (some ⟨bx, 0, none⟩)
  | 5, v, _, _ => v = .int .i64 (S : Int)
  | 6, v, W, _ => ∃ b, v = .slice (some ⟨b, 0, none⟩) S S ∧ Blk W b 3 (intsA (List.replicate S (-1))) ∧ B ≤ b
  | 7, v, _, _ => v = .pointer (some ⟨bx, 0, none⟩)
  | 8, v, _, _ => v = .int .i64 (S : Int)
  | 9, v, W, _ => ∃ b, v = .slice (some ⟨b, 0, none⟩) S S ∧ Blk W b 3 (intsA (List.replicate S 0)) ∧ B ≤ b
  | 10, v, W, _ => ∃ ib c cb rb, v = .agg #[.slice (some ⟨ib, 0, none⟩) S c, .slice (some ⟨cb, 0, none⟩) S S, .slice (some ⟨rb, 0, none⟩) S S] ∧ GRows B W S good ib cb rb
  | 11, v, W, γ => v = .pointer (some ⟨γ 0, 0, none⟩) ∧ B ≤ γ 0 ∧ ∃ x0 x1 x2 : Value, Blk W (γ 0) 27 #[x0, x1, x2]
  | 12, _, W, γ => ∃ ib c cb rb, Blk W (γ 0) 27 #[.slice (some ⟨ib, 0, none⟩) S c, .slice (some ⟨cb, 0, none⟩) S S, .slice (some ⟨rb, 0, none⟩) S S] ∧ GRows B W S good ib cb rb
  | _, _, _, _ => True
theorem goPhi_next {B bx S : Nat} {gA : Option Addr} {gc : Nat} {good : List Bool} {j : Nat} {v : Value} {W W' : World} {γ : Nat → Nat} (hb : Below W.heap.size W W') (h : goPhi B bx S gA gc good j v W γ) : goPhi B bx S gA gc good j v W' γ := by
  unfold goPhi at h ⊢
  split at h
  all_goals first | exact h | trivial | skip
  · obtain ⟨b, c, e, hr, hB⟩ := h; exact ⟨b, c, e, rowW_next hr hb, hB⟩
  · obtain ⟨b, e, hr⟩ := h; exact ⟨b, e, hr.below hb hr.lt⟩
  · obtain ⟨b, e, hr, hB⟩ := h; exact ⟨b, e, hr.below hb hr.lt, hB⟩
  · obtain ⟨b, e, hr, hB⟩ := h; exact ⟨b, e, hr.below hb hr.lt, hB⟩
  · obtain ⟨ib, c, cb, rb, e, hr⟩ := h; exact ⟨ib, c, cb, rb, e, hr.next hb⟩
  · obtain ⟨e, hB, x0, x1, x2, hr⟩ := h; exact ⟨e, hB, x0, x1, x2, hr.below hb hr.lt⟩
  · obtain ⟨ib, c, cb, rb, hr, hg⟩ := h; exact ⟨ib, c, cb, rb, hr.below hb hr.lt, hg.next hb⟩
theorem goPhi_ghost {B bx S : Nat} {gA : Option Addr} {gc : Nat} {good : List Bool} {j : Nat} {v : Value} {W : World} {γ γ' : Nat → Nat} (h11 : j ≠ 11) (h12 : j ≠ 12) (h : goPhi B bx S gA gc good j v W γ) : goPhi B bx S gA gc good j v W γ' := by
  unfold goPhi at h ⊢
  split at h
  all_goals first | exact h | trivial | exact absurd rfl h11 | exact absurd rfl h12
theorem goPhi_store {B bx S : Nat} {gA : Option Addr} {gc : Nat} {good : List Bool} {j : Nat} {v : Value} {W W' : World} {γ : Nat → Nat} {cs : Array Value} {y0 y1 y2 : Value} (hk : Keep (fun b => b = γ 0) W W') (hg : Blk W (γ 0) 27 cs) (hg' : Blk W' (γ 0) 27 #[y0, y1, y2]) (h12 : j ≠ 12) (h : goPhi B bx S gA gc good j v W γ) : goPhi B bx S gA gc good j v W' γ := by
  unfold goPhi at h ⊢
  split at h
  all_goals first | exact h | trivial | exact absurd rfl h12 | skip
  · obtain ⟨b, c, e, hr, hB⟩ := h; exact ⟨b, c, e, hr.kept (fun _ cur hc => hk.blk hc (blk_ne hc hg (by decide))), hB⟩
  · obtain ⟨b, e, hr⟩ := h; exact ⟨b, e, hk.blk hr (blk_ne hr hg (by decide))⟩
  · obtain ⟨b, e, hr, hB⟩ := h; exact ⟨b, e, hk.blk hr (blk_ne hr hg (by decide)), hB⟩
  · obtain ⟨b, e, hr, hB⟩ := h; exact ⟨b, e, hk.blk hr (blk_ne hr hg (by decide)), hB⟩
  · obtain ⟨ib, c, cb, rb, e, hr⟩ := h; exact ⟨ib, c, cb, rb, e, hr.keep hk hg⟩
  · obtain ⟨e, hB, x0, x1, x2, hr⟩ := h; exact ⟨e, hB, y0, y1, y2, hg'⟩
/-- The ranks at the start, and after the good states below k. -/
def rkTo (S : Nat) (pre : List (Fin S)) : List Int := pre.foldl (fun l x => l.set x.val (-1)) (List.replicate S 0)
theorem rkTo_len (S : Nat) (pre : List (Fin S)) : (rkTo S pre).length = S := by
  unfold rkTo
  have h : ∀ (pre : List (Fin S)) (l : List Int), (pre.foldl (fun l x => l.set x.val (-1)) l).length = l.length := by
    intro pre
    induction pre with
    | nil => intro l; rfl
    | cons x pre ih => intro l; exact (ih _).trans (List.length_set ..)
  rw [h, List.length_replicate]
theorem rkTo_snoc (S : Nat) (pre : List (Fin S)) (x : Fin S) : rkTo S (pre ++ [x]) = (rkTo S pre).set x.val (-1) := by unfold rkTo; simp
set_option maxRecDepth 100000 in
set_option maxHeartbeats 4000000 in
theorem good_any (nA gA : Option Addr) (nn nc gc S C H : Nat) (good : List Bool) (w : World) (hg : Rd w w.heap.size 1 encB gA S good) (hS1 : 1 ≤ S) (hS : S ≤ 400) :
    Calls Try.prog 67 #[.agg #[.int .i64 (S : Int), .int .i64 (C : Int), .int .i64 (H : Int), .slice nA nn nc, .slice gA S gc]] w fun e w' => ∃ ib c cb rb, e = .returned (.agg #[.slice (some ⟨ib, 0, none⟩) S c, .slice (some ⟨cb, 0, none⟩) S S, .slice (some ⟨rb, 0, none⟩) S S]) ∧ RowW w' ib 4 encB (some ⟨ib, 0, none⟩) good ∧ Blk w' cb 3 (intsA (List.replicate S (-1))) ∧ Blk w' rb 3 (intsA (rkTo S (stTo S good S))) ∧ w.heap.size ≤ ib ∧ w.heap.size ≤ cb ∧ w.heap.size ≤ rb ∧ cb ≠ rb ∧ ib ≠ rb ∧ Below w.heap.size w w' := by
  have KC0 := Lib.hid (fun W (h : Below w.heap.size w W) => clone_row gA S gc good W (hg.next h) (by omega) hS1)
  have KR := Lib.hid (fun (b : Nat) W (h : Blk W b 3 #[.int .i64 (-1)]) => repeat_any b 1 S (-1) W h hS1 hS)
  have HGL := Lib.hid hg.1
  have hS0 := hS1
  clear hg
  refine (callsIn_wide (n := 9)).1 ?_
  refine callsIn_of_wp_marks Try.func67 rfl trivial ?_ rfl
  simp only [Try.ntmps67, List.size_toArray, List.length_cons, List.length_nil, Nat.reduceAdd, Nat.reduceSub, Array.replicate_succ, Array.replicate_zero, List.push_toArray, List.append_toArray, List.nil_append, List.cons_append]
  gi_wp2
  obtain ⟨bx, hbx⟩ : ∃ z, z = w.heap.size := ⟨_, rfl⟩
  obtain ⟨w1, hw1⟩ : ∃ z, z = (w.alloc (.cells #[.int .i64 (S : Int), .int .i64 (C : Int), .int .i64 (H : Int), .slice nA nn nc, .slice gA S gc] 25)).alloc (.cells #[.slice none 0 0, .slice none 0 0, .slice none 0 0] 27) := ⟨_, rfl⟩
  have hi1 : Below w.heap.size w w1 := by rw [hw1]; (repeat' (first | (with_reducible exact Below.refl _ _) | (with_reducible assumption) | (with_reducible refine below_drewN ?_ _) | (with_reducible refine below_after (by assumption) ?_ ?_) | (with_reducible refine Below.drew ?_) | (with_reducible refine Below.alloc ?_ ?_ _) | (with_reducible refine Below.setCell ?_ ?_ _) | omega | (simp; omega) | (simp; done)))
  have HBX : Hid (Blk w1 bx 25 #[.int .i64 (S : Int), .int .i64 (C : Int), .int .i64 (H : Int), .slice nA nn nc, .slice gA S gc]) := Lib.hid (by rw [hw1, hbx]; exact Blk.alloc (heap_alloc_new w _) _)
  have HRB : Hid (Blk w1 (bx + 1) 27 #[.slice none 0 0, .slice none 0 0, .slice none 0 0]) := Lib.hid (by
    have e2 := heap_alloc_new (w.alloc (.cells #[.int .i64 (S : Int), .int .i64 (C : Int), .int .i64 (H : Int), .slice nA nn nc, .slice gA S gc] 25)) (.cells #[.slice none 0 0, .slice none 0 0, .slice none 0 0] 27)
    simp only [World.size_alloc] at e2
    rw [hw1, hbx]
    exact e2)
  rw [← hw1, ← hbx]
  have HL := Lib.hid hi1
  have HZ : Hid (w.heap.size = bx ∧ w1.heap.size = bx + 2) := Lib.hid (by rw [hw1, hbx]; simp)
  have KC := Lib.hid (fun W (h : Below w1.heap.size w1 W) => KC0.out W (below3 HL.out h (Nat.le_refl _)))
  clear hw1 hbx hi1 KC0
  refine wpIn_wide.2 ?_
  refine wp_region_free10 12 (by kernel_rfl) [some 5, some 6, some 7, some 8, some 9, some 10, some 11, some 12, some 13, some 14, some 15, some 3, none] [[], [0], [1], [], [], [4], [3, 5, 2], [], [7], [8, 8], [2, 6, 9], [], [11, 10, 6, 0, 1, 2, 3, 4, 5, 6, 7, 8, 9, 10, 11]] [(1, .pointer (some ⟨bx, 0, none⟩))] (fun W _ => Below w1.heap.size w1 W) (goPhi w1.heap.size bx S gA gc good) (fun _ _ _ => True) (by kernel_rfl) (by kernel_rfl) rfl (by kernel_rfl) ?_ ?_ ⟨fun _ => 0, (Below.refl _ _).drew, fun i _ => trivial⟩ ?_ ?_
  · intro z hz
    simp only [List.mem_cons, List.mem_nil_iff, or_false] at hz
    subst hz
    all_goals exact ⟨by kernel_rfl, rfl⟩
  · intro i v W γ hi h
    rcases i with _ | _ | _ | _ | _ | _ | _ | _ | _ | _ | _ | _ | _ | i
    all_goals first | exact h | (simp at hi)
  · refine ⟨?_, ?_, ?_, ?_, ?_, ?_, ?_, ?_, ?_, ?_, ?_, ?_, ?_, trivial⟩
    all_goals
      intro a W γ ev hcc hff hfx hR hψ hpre
      simp only [List.mem_cons, List.mem_nil_iff, or_false, forall_eq, forall_eq_or_imp] at hfx
      have f0 := hfx
      clear hfx
      have HR := Lib.hid hR
      clear hR
      refine ⟨fun _ K hK => ?_, trivial⟩

    · clear hpre hψ
      go_simp
      exact hK _ _ γ HR.out (fun _ _ _ _ h => h) (fun _ _ _ h => h) rfl
    · have q0 : ev (.tmp 5) = _ := hpre 0 (by decide)
      have hzz : bx < W.heap.size := Nat.lt_of_lt_of_le HBX.out.lt (HR.out : Below w1.heap.size w1 W).size
      have hbk := HBX.out.below (HR.out : Below w1.heap.size w1 W) HBX.out.lt
      have c4 := hbk.cell 4
      simp only [List.getElem?_toArray, List.getElem?_cons_zero, List.getElem?_cons_succ] at c4
      clear hbk
      clear hpre hψ
      go_simp
      exact hK _ _ γ HR.out (fun _ _ _ _ h => h) (fun _ _ _ h => h) rfl
    · have q0 : ev (.tmp 6) = _ := hpre 1 (by decide)
      have C := Lib.hid (KC.out W (HR.out : Below w1.heap.size w1 W))
      have HRW9 : Hid (Below w1.heap.size w1 W) := HR
      clear hpre
      go_simp
      refine C.out.mono ?_
      rintro e w5 ⟨b, c, rfl, hrow, hb, hB5⟩
      exact hK _ w5 γ (below3 HRW9.out hB5 (Nat.le_refl _)) (fun j u _ _ h => goPhi_next hB5 h) (fun _ _ _ h => h) ⟨b, c, rfl, hrow, Nat.le_trans HRW9.out.size hb⟩
    · have HRW9 : Hid (Below w1.heap.size w1 W) := HR
      clear hpre
      go_simp
      have hB5 : Below W.heap.size W (W.alloc (.cells #[.int .i64 (-1)] 3)) := (Below.refl _ _).alloc (Nat.le_refl _) _
      exact hK _ _ γ (below3 HRW9.out hB5 (Nat.le_refl _)) (fun j u _ _ h => goPhi_next hB5 h) (fun _ _ _ h => h) ⟨_, rfl, heap_alloc_new W _⟩
    · clear hpre hψ
      go_simp
      exact hK _ _ γ HR.out (fun _ _ _ _ h => h) (fun _ _ _ h => h) rfl
    · have q0 : ev (.tmp 9) = _ := hpre 4 (by decide)
      have hzz : bx < W.heap.size := Nat.lt_of_lt_of_le HBX.out.lt (HR.out : Below w1.heap.size w1 W).size
      have hbk := HBX.out.below (HR.out : Below w1.heap.size w1 W) HBX.out.lt
      have c0 := hbk.cell 0
      simp only [List.getElem?_toArray, List.getElem?_cons_zero, List.getElem?_cons_succ] at c0
      clear hbk
      clear hpre hψ
      go_simp
      exact hK _ _ γ HR.out (fun _ _ _ _ h => h) (fun _ _ _ h => h) rfl
    · have q0 : ev (.tmp 10) = _ := hpre 5 (by decide)
      obtain ⟨b3, q3, hb3⟩ := hpre 3 (by decide)
      replace q3 : ev (.tmp 8) = _ := q3
      have C := Lib.hid (KR.out b3 W hb3)
      have HRW9 : Hid (Below w1.heap.size w1 W) := HR
      clear hpre hb3
      go_simp
      refine C.out.mono ?_
      rintro e w5 ⟨rfl, hrow, hB5⟩
      exact hK _ w5 γ (below3 HRW9.out hB5 (Nat.le_refl _)) (fun j u _ _ h => goPhi_next hB5 h) (fun _ _ _ h => h) ⟨_, rfl, hrow, HRW9.out.size⟩
    · clear hpre hψ
      go_simp
      exact hK _ _ γ HR.out (fun _ _ _ _ h => h) (fun _ _ _ h => h) rfl
    · have q0 : ev (.tmp 12) = _ := hpre 7 (by decide)
      have hzz : bx < W.heap.size := Nat.lt_of_lt_of_le HBX.out.lt (HR.out : Below w1.heap.size w1 W).size
      have hbk := HBX.out.below (HR.out : Below w1.heap.size w1 W) HBX.out.lt
      have c0 := hbk.cell 0
      simp only [List.getElem?_toArray, List.getElem?_cons_zero, List.getElem?_cons_succ] at c0
      clear hbk
      clear hpre hψ
      go_simp
      exact hK _ _ γ HR.out (fun _ _ _ _ h => h) (fun _ _ _ h => h) rfl
    · have q0 : ev (.tmp 13) = _ := hpre 8 (by decide)
      have hmk := run_makeInts S (by omega)
      have HRW9 : Hid (Below w1.heap.size w1 W) := HR
      clear hpre
      go_simp
      have hB5 : Below W.heap.size W (W.alloc (.cells (intsA (List.replicate S 0)) 3)) := (Below.refl _ _).alloc (Nat.le_refl _) _
      exact hK _ _ γ (below3 HRW9.out hB5 (Nat.le_refl _)) (fun j u _ _ h => goPhi_next hB5 h) (fun _ _ _ h => h) ⟨_, rfl, heap_alloc_new W _, HRW9.out.size⟩
    · obtain ⟨ib, c, q2, h2, h2b⟩ := hpre 2 (by decide)
      obtain ⟨cb, q6, h6, h6b⟩ := hpre 6 (by decide)
      obtain ⟨rb, q9, h9, h9b⟩ := hpre 9 (by decide)
      replace q2 : ev (.tmp 7) = _ := q2
      replace q6 : ev (.tmp 11) = _ := q6
      replace q9 : ev (.tmp 14) = _ := q9
      have HG : Hid (GRows w1.heap.size W S good ib cb rb) := Lib.hid ⟨h2, h6, h9, h2b, h6b, h9b⟩
      clear hpre h2 h6 h9 h2b h6b h9b
      go_simp
      exact hK _ _ γ HR.out (fun _ _ _ _ h => h) (fun _ _ _ h => h) ⟨ib, c, cb, rb, rfl, HG.out⟩
    · have HRW9 : Hid (Below w1.heap.size w1 W) := HR
      clear hpre
      go_simp
      have hB5 : Below W.heap.size W (W.alloc (.cells #[.slice none 0 0, .slice none 0 0, .slice none 0 0] 27)) := (Below.refl _ _).alloc (Nat.le_refl _) _
      exact hK _ _ (fun i => if i = 0 then W.heap.size else γ i) (below3 HRW9.out hB5 (Nat.le_refl _)) (fun j u hj hne h => goPhi_ghost hne (fun e => by subst e; exact absurd (by decide) hj) (goPhi_next hB5 h)) (fun _ _ _ h => h) ⟨rfl, HRW9.out.size, _, _, _, heap_alloc_new W _⟩
    · obtain ⟨q11, h11B, x0, x1, x2, h11⟩ := hpre 11 (by decide)
      obtain ⟨ib, c, cb, rb, q10, hg10⟩ := hpre 10 (by decide)
      replace q11 : ev (.tmp 3) = _ := q11
      replace q10 : ev (.tmp 15) = _ := q10
      obtain ⟨g1, hg1⟩ : ∃ z, z = γ 0 := ⟨_, rfl⟩
      rw [← hg1] at q11 h11B h11
      have z11 := h11.lt
      have f11 := h11.frozen
      have HG1 := Lib.hid hg1
      have HX : Hid (Blk W g1 27 #[x0, x1, x2] ∧ w1.heap.size ≤ g1 ∧ GRows w1.heap.size W S good ib cb rb) := Lib.hid ⟨h11, h11B, hg10⟩
      have c0 := h11.cell 0
      have c1 := h11.cell 1
      have c2 := h11.cell 2
      simp only [List.getElem?_toArray, List.getElem?_cons_zero, List.getElem?_cons_succ] at c0 c1 c2
      have HRW9 : Hid (Below w1.heap.size w1 W) := HR
      clear hpre h11 hg10 h11B hg1
      go_simp
      obtain ⟨hb1, hb2, hgr⟩ := HX.out
      have hkk : Keep (fun b => b = γ 0) W (((W.setCell ⟨g1, 0, none⟩ (.slice (some ⟨ib, 0, none⟩) S c)).setCell ⟨g1, 1, none⟩ (.slice (some ⟨cb, 0, none⟩) S S)).setCell ⟨g1, 2, none⟩ (.slice (some ⟨rb, 0, none⟩) S S)) := (((Keep.refl (fun b => b = γ 0) W).setCell HG1.out _).setCell HG1.out _).setCell HG1.out _
      have hnb : Blk (((W.setCell ⟨g1, 0, none⟩ (.slice (some ⟨ib, 0, none⟩) S c)).setCell ⟨g1, 1, none⟩ (.slice (some ⟨cb, 0, none⟩) S S)).setCell ⟨g1, 2, none⟩ (.slice (some ⟨rb, 0, none⟩) S S)) g1 27 #[.slice (some ⟨ib, 0, none⟩) S c, .slice (some ⟨cb, 0, none⟩) S S, .slice (some ⟨rb, 0, none⟩) S S] := by
        have h := ((hb1.set_ 0 (.slice (some ⟨ib, 0, none⟩) S c)).set_ 1 (.slice (some ⟨cb, 0, none⟩) S S)).set_ 2 (.slice (some ⟨rb, 0, none⟩) S S)
        simpa using h
      rw [HG1.out] at hb1 hb2 hnb
      refine hK undef _ γ (HRW9.out.trans (hkk.below HRW9.out.size (fun b e => by rw [e]; exact hb2))) (fun j u _ hne h => goPhi_store hkk hb1 (by rw [HG1.out]; exact hnb) hne h) (fun _ _ _ h => h) ⟨ib, c, cb, rb, (by rw [HG1.out]; exact hnb), (hgr.keep hkk hb1)⟩
  · intro vs w' γ hvl hR hφ
    have q11 := hφ 11 (by decide)
    have q12 := hφ 12 (by decide)
    have HR := Lib.hid hR
    clear hφ hR
    match vs, hvl with
    | [y0, y1, y2, y3, y4, y5, y6, y7, y8, y9, y10, y11, y12], _ =>
    simp only [List.getD_cons_zero, List.getD_cons_succ] at q11 q12
    obtain ⟨e11, h11B, _, _, _, _⟩ := q11
    obtain ⟨ib, c, cb, rb, hbk, hgr⟩ := q12
    obtain ⟨g1, hg1⟩ : ∃ z, z = γ 0 := ⟨_, rfl⟩
    rw [← hg1] at e11 h11B hbk
    obtain rfl : y11 = _ := e11
    have z1 := hbk.lt
    have c0 := hbk.cell 0
    have c1 := hbk.cell 1
    have c2 := hbk.cell 2
    simp only [List.getElem?_toArray, List.getElem?_cons_zero, List.getElem?_cons_succ] at c0 c1 c2
    have HW := Lib.hid (And.intro hbk (And.intro hgr h11B))
    clear hbk hgr h11B hg1
    simp [putAll]
    gi_wp2_with fail
    refine ⟨trivial, ?_⟩
    refine (states_in Fence.wide _ trivial rfl _ _ _ _).mono ?_
    rintro e w2 ⟨rfl, rfl⟩
    gi_wp2
    obtain ⟨Bp, hBp⟩ : ∃ z, z = w'.heap.size := ⟨_, rfl⟩
    obtain ⟨W0, hW0⟩ : ∃ z, z = w'.alloc (.cells #[.slice (some ⟨ib, 0, none⟩) S c, .slice (some ⟨cb, 0, none⟩) S S, .slice (some ⟨rb, 0, none⟩) S S] 27) := ⟨_, rfl⟩
    have hb0 : Below w'.heap.size w' W0 := by rw [hW0]; exact (Below.refl _ _).alloc (Nat.le_refl _) _
    have hbp : Blk W0 Bp 27 #[.slice (some ⟨ib, 0, none⟩) S c, .slice (some ⟨cb, 0, none⟩) S S, .slice (some ⟨rb, 0, none⟩) S S] := by rw [hW0, hBp]; exact heap_alloc_new w' _
    rw [← hW0, ← hBp]
    obtain ⟨hbk, hgr, h11B⟩ := HW.out
    have hbk0 := hbk.below hb0 hbk.lt
    have hgr0 := hgr.next hb0
    have hres : Blk W0 (bx + 1) 27 #[.slice none 0 0, .slice none 0 0, .slice none 0 0] := (HRB.out.below HR.out HRB.out.lt).below hb0 (HRB.out.below HR.out HRB.out.lt).lt
    have hB0 : Below w1.heap.size w1 W0 := below3 HR.out hb0 (Nat.le_refl _)
    have hne1 : cb ≠ rb := by
      rintro rfl
      have h1 := hgr.2.1.cell 0
      have h2 := hgr.2.2.1.cell 0
      rw [h1] at h2
      simp [intsA, List.getElem?_replicate, show 0 < S by omega] at h2
    obtain ⟨xg, hxg⟩ : ∃ x, good[0]? = some x := ⟨_, List.getElem?_eq_getElem (by rw [HGL.out]; omega)⟩
    obtain ⟨_, zib, _, _⟩ := hgr0.1.at_ (size := 1) (fun _ => rfl) hxg
    have hne2 : ib ≠ rb := by
      rcases hgr.1 with h | ⟨_, cur, hb, _⟩
      · rw [h] at hxg; simp at hxg
      · exact blk_ne hb hgr.2.2.1 (by decide)
    have hlow : Bp ≠ rb ∧ ¬ (g1 = rb) ∧ ¬ (bx + 1 = rb) := by
      have h2 := hgr.2.2.1.lt
      have h3 := hgr.2.2.2.2.2
      have h4 := HZ.out
      refine ⟨by omega, blk_ne hbk hgr.2.2.1 (by decide), by omega⟩
    have zrb := hgr0.2.2.1.lt
    have hci : ∀ (i : Nat) (b : Bool), good[i]? = some b → W0.cell? ⟨ib, 0 + i, none⟩ = some (.bool b) := fun i b e => by rw [Nat.zero_add]; exact rowB_at hgr0.1 e
    obtain ⟨Sf, hSf⟩ : ∃ Sf : Nat → Prop, Sf = fun b => b ≠ rb := ⟨_, rfl⟩
    have HSF := Lib.hid hSf
    clear hSf
    have HFR := Lib.hid (And.intro hgr0.2.2.2 (And.intro hne1 (And.intro hne2 hlow)))
    have hszB : w1.heap.size ≤ W0.heap.size := hB0.size
    have hrk0 : rkTo S [] = List.replicate S 0 := rfl
    have hi0 : (((((Blk W0 rb 3 (intsA (rkTo S [])) ∧ RowW W0 ib 4 encB (some ⟨ib, 0, none⟩) good) ∧ Blk W0 cb 3 (intsA (List.replicate S (-1)))) ∧ Blk W0 g1 27 #[.slice (some ⟨ib, 0, none⟩) S c, .slice (some ⟨cb, 0, none⟩) S S, .slice (some ⟨rb, 0, none⟩) S S]) ∧ Blk W0 (bx + 1) 27 #[.slice none 0 0, .slice none 0 0, .slice none 0 0]) ∧ Below w1.heap.size w1 W0) := ⟨⟨⟨⟨⟨hgr0.2.2.1, hgr0.1⟩, hgr0.2.1⟩, hbk0⟩, hres⟩, hB0⟩
    have HI0 := Lib.hid hi0
    have HCI := Lib.hid hci
    have cbp := hbp.cell 0
    simp only [List.getElem?_toArray, List.getElem?_cons_zero, List.getElem?_cons_succ] at cbp
    clear hi0 hci hbk0 hgr0 hres hb0 hbk hgr h11B hW0 hBp hxg c0 c1 c2 z1 hB0 hbp hrk0
    refine wpIn_rangeFunc_ownG rfl (by omega) (gf := 79) (lb := #[.pointer (some ⟨Bp, 0, none⟩)]) rfl trivial (enters_of Try.func79 (by kernel_rfl) rfl)
      (states_stops Fence.wide (9 - 1) trivial rfl (by omega) Bp ib 0 c S Sf good HGL.out (by omega) (by rw [HSF.out]; exact hlow.1) (by rw [HSF.out]; exact hne2) W0 cbp HCI.out)
      (fun h k => KpS.trans h k) (fun W l o o' _ ho hc _ => KpS.putObj W l o o' ho hc) (Below.refl _ _) (fun _ => rfl)
      (fun pre W => (((((Blk W rb 3 (intsA (rkTo S pre)) ∧ RowW W ib 4 encB (some ⟨ib, 0, none⟩) good) ∧ Blk W cb 3 (intsA (List.replicate S (-1)))) ∧ Blk W g1 27 #[.slice (some ⟨ib, 0, none⟩) S c, .slice (some ⟨cb, 0, none⟩) S S, .slice (some ⟨rb, 0, none⟩) S S]) ∧ Blk W (bx + 1) 27 #[.slice none 0 0, .slice none 0 0, .slice none 0 0]) ∧ Below w1.heap.size w1 W))
      (fun _ _ _ => False)
      (OwnFrom.and (OwnFrom.and (OwnFrom.and (OwnFrom.and (OwnFrom.and (Own.from (blk_own _ _ _) _) (Own.from (rowW_own _ _ _ _ _) _)) (Own.from (blk_own _ _ _) _)) (Own.from (blk_own _ _ _) _)) (Own.from (blk_own _ _ _) _)) (ownFrom_below (Nat.le_refl _) hszB))
      (fun _ _ _ _ _ hs _ _ => hs)
      HI0.out
      (fun x => { tmps := #[.agg #[.int .i64 (S : Int), .int .i64 (C : Int), .int .i64 (H : Int), .slice nA nn nc, .slice gA S gc], .pointer (some ⟨bx, 0, none⟩), .pointer (some ⟨bx + 1, 0, none⟩), .pointer (some ⟨g1, 0, none⟩), .int .i64 (x.val : Int), y0, y1, y2, y3, y4, y5, y6, y7, y8, y9, y10, .agg #[.slice (some ⟨ib, 0, none⟩) S c, .slice (some ⟨cb, 0, none⟩) S S, .slice (some ⟨rb, 0, none⟩) S S], .func (.func 79) #[] #[.pointer (some ⟨Bp, 0, none⟩)], .int .i64 (x.val : Int), undef, undef, undef, undef, undef], defers := [] }) ?assign ?body ?done ?stop
    case assign =>
      rintro l x W K hK
      gi_wp2
      exact hK
    case body =>
      rintro l pre x W ⟨⟨⟨⟨⟨b1, b2⟩, b3⟩, b4⟩, b5⟩, hB⟩ hlt
      have hx := x.isLt
      obtain ⟨v, hv⟩ : ∃ v, (rkTo S pre)[x.val]? = some v := ⟨_, List.getElem?_eq_getElem (by rw [rkTo_len]; exact hx)⟩
      have cv := b1.intAt hv
      have zv := b1.lt
      have fv := b1.frozen
      have c0 := b4.cell 0
      have c1 := b4.cell 1
      have c2 := b4.cell 2
      simp only [List.getElem?_toArray, List.getElem?_cons_zero, List.getElem?_cons_succ] at c0 c1 c2
      have z4 := b4.lt
      have hb1 : Blk (W.setCell ⟨rb, x.val, none⟩ (.int .i64 (-1))) rb 3 (intsA (rkTo S (pre ++ [x]))) := by
        rw [rkTo_snoc, ← intsA_set]
        exact b1.set_ _ _
      have hkk : Keep (fun b => b = rb) W (W.setCell ⟨rb, x.val, none⟩ (.int .i64 (-1))) := (Keep.refl (fun b => b = rb) W).setCell rfl _
      have HFIN : Hid (KeepsFrom W0.heap.size W (W.setCell ⟨rb, x.val, none⟩ (.int .i64 (-1))) ∧ KpS Sf W (W.setCell ⟨rb, x.val, none⟩ (.int .i64 (-1))) ∧ (((((Blk (W.setCell ⟨rb, x.val, none⟩ (.int .i64 (-1))) rb 3 (intsA (rkTo S (pre ++ [x]))) ∧ RowW (W.setCell ⟨rb, x.val, none⟩ (.int .i64 (-1))) ib 4 encB (some ⟨ib, 0, none⟩) good) ∧ Blk (W.setCell ⟨rb, x.val, none⟩ (.int .i64 (-1))) cb 3 (intsA (List.replicate S (-1)))) ∧ Blk (W.setCell ⟨rb, x.val, none⟩ (.int .i64 (-1))) g1 27 #[.slice (some ⟨ib, 0, none⟩) S c, .slice (some ⟨cb, 0, none⟩) S S, .slice (some ⟨rb, 0, none⟩) S S]) ∧ Blk (W.setCell ⟨rb, x.val, none⟩ (.int .i64 (-1))) (bx + 1) 27 #[.slice none 0 0, .slice none 0 0, .slice none 0 0]) ∧ Below w1.heap.size w1 (W.setCell ⟨rb, x.val, none⟩ (.int .i64 (-1))))) := Lib.hid
        ⟨KeepsFrom.of_grownBy (grown_set W rb x.val _) (fun j e => by cases e; exact zrb), KpS.grown (grown_set W rb x.val _) (fun r e hs => by cases e; rw [HSF.out] at hs; exact hs rfl),
          ⟨⟨⟨⟨hb1, rowW_keep b2 hkk HFR.out.2.2.1⟩, hkk.blk b3 HFR.out.2.1⟩, hkk.blk b4 HFR.out.2.2.2.2.1⟩, hkk.blk b5 HFR.out.2.2.2.2.2⟩, hB.trans (hkk.below hB.size (fun b e => by rw [e]; exact HFR.out.1.2.2))⟩
      clear b1 b2 b3 b4 b5 hB hb1 hkk hv
      gi_wp2
      exact HFIN.out
    case done =>
      rintro D ys W hD hys ⟨⟨⟨⟨⟨b1, b2⟩, b3⟩, b4⟩, b5⟩, hB⟩ hK
      rw [hys] at b1
      have c0 := b4.cell 0
      have c1 := b4.cell 1
      have c2 := b4.cell 2
      have d0 := b5.cell 0
      have d1 := b5.cell 1
      have d2 := b5.cell 2
      simp only [List.getElem?_toArray, List.getElem?_cons_zero, List.getElem?_cons_succ] at c0 c1 c2 d0 d1 d2
      have z4 := b4.lt
      have z5 := b5.lt
      have f5 := b5.frozen
      obtain ⟨W', hW'⟩ : ∃ z, z = (((W.setCell ⟨bx + 1, 0, none⟩ (.slice (some ⟨ib, 0, none⟩) S c)).setCell ⟨bx + 1, 1, none⟩ (.slice (some ⟨cb, 0, none⟩) S S)).setCell ⟨bx + 1, 2, none⟩ (.slice (some ⟨rb, 0, none⟩) S S)) := ⟨_, rfl⟩
      have hkk : Keep (fun b => b = bx + 1) W W' := by rw [hW']; exact (((Keep.refl (fun b => b = bx + 1) W).setCell rfl _).setCell rfl _).setCell rfl _
      have hrow : Blk W' (bx + 1) 27 #[.slice (some ⟨ib, 0, none⟩) S c, .slice (some ⟨cb, 0, none⟩) S S, .slice (some ⟨rb, 0, none⟩) S S] := by
        have h := ((b5.set_ 0 (.slice (some ⟨ib, 0, none⟩) S c)).set_ 1 (.slice (some ⟨cb, 0, none⟩) S S)).set_ 2 (.slice (some ⟨rb, 0, none⟩) S S)
        rw [hW']
        simpa using h
      have hD1 : D < W.heap.size := (Array.getElem?_eq_some_iff.1 hK).1
      have hDn : D ≠ bx + 1 := fun e => notcells hK rfl _ _ (e ▸ b5)
      have HKD : Hid (W'.heap[D]? = some (.deferred (some []))) := Lib.hid ((hkk.block D hD1 hDn).trans hK)
      have hg := grownBy_putObj' W' D (.deferred none)
      have hn := notcells HKD.out rfl
      have hib5 : ib ≠ bx + 1 := by have := HFR.out.1.1; have := HZ.out; omega
      have hcb5 : cb ≠ bx + 1 := by have := HFR.out.1.2.1; have := HZ.out; omega
      have hrb5 : rb ≠ bx + 1 := by have := HFR.out.1.2.2; have := HZ.out; omega
      have HFIN : Hid (RowW (W'.putObj D (.deferred none)) ib 4 encB (some ⟨ib, 0, none⟩) good ∧ Blk (W'.putObj D (.deferred none)) cb 3 (intsA (List.replicate S (-1))) ∧ Blk (W'.putObj D (.deferred none)) rb 3 (intsA (rkTo S (stTo S good S))) ∧ Blk (W'.putObj D (.deferred none)) (bx + 1) 27 #[.slice (some ⟨ib, 0, none⟩) S c, .slice (some ⟨cb, 0, none⟩) S S, .slice (some ⟨rb, 0, none⟩) S S] ∧ Below w.heap.size w (W'.putObj D (.deferred none))) := Lib.hid
        ⟨(rowW_keep b2 hkk hib5).kept (fun _ cur hb => hb.kept hg (by intro e; cases e; exact hn _ _ hb)), Blk.kept (hkk.blk b3 hcb5) hg (by intro e; cases e; exact hn _ _ (hkk.blk b3 hcb5)), Blk.kept (hkk.blk b1 hrb5) hg (by intro e; cases e; exact hn _ _ (hkk.blk b1 hrb5)), Blk.kept hrow hg (by intro e; cases e; exact hn _ _ hrow),
          ((HL.out.trans (hB.mono HL.out.size)).trans (hkk.below (Nat.le_trans HL.out.size hB.size) (fun b e => by rw [e]; have := HZ.out; omega))).trans (belowK_b (w := w) (Nat.le_refl _) W' D _ _ (by have := HL.out.size; omega) HKD.out rfl rfl)⟩
      clear b1 b2 b3 b4 b5 hB hK hys hkk hg hn hD1 hDn hib5 hcb5 hrb5 hrow
      gi_wp2
      rw [← hW']
      refine ⟨by simp, .inl ⟨_, _, rfl, run_takeDeferred HKD.out, ?_⟩⟩
      refine ⟨_, results_cell_row rfl _ _ (bx + 1) 27 _ _ _ rfl HFIN.out.2.2.2.1 Try.underlying27 rfl (by kernel_rfl), ?_⟩
      obtain ⟨r1, r2, r3, _, r5⟩ := HFIN.out
      obtain ⟨⟨e1, e2, e3⟩, e4, e5, _⟩ := HFR.out
      have hz := HL.out.size
      exact ⟨ib, c, cb, rb, rfl, r1, r2, r3, by omega, by omega, by omega, e4, e5, r5⟩
    case stop =>
      rintro D c pre W _ _ h _
      exact h.elim
end Go.Proofs.Ytalngalikblgkaa
