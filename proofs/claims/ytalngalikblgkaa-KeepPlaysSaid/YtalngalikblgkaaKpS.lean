/- keep: solve. -/
import Derived.Test.YtalngalikblgkaaKpI
import Derived.Test.YtalngalikblgkaaFreeB

set_option linter.unusedSimpArgs false
set_option linter.unusedVariables false
namespace Go.Proofs.Ytalngalikblgkaa
open Go.RowKit
attribute [local go_sem] Oper.semAt_some

theorem rowW_ownL {β α : Type} (b : Nat) (T : TypeId) (f : α → List Value) (A : Option Addr) (l : β → List α) : Own (fun (s : β) W => RowW W b T f A (l s)) := fun s X Y row hs hg hrow =>
  hs.kept (fun _ cur hb => hb.kept hg (fun e' => by obtain ⟨o, ho, hc⟩ := hrow b e'.symm; rw [show X.heap[b]? = _ from hb] at ho; cases ho; cases hc))
/-- The rows of a certificate under way. -/
def SRows (B : Nat) (W : World) (inn : List Bool) (ctl rnk : List Int) (ib cb rb : Nat) : Prop :=
  RowW W ib 4 encB (some ⟨ib, 0, none⟩) inn ∧ RowW W cb 3 encI (some ⟨cb, 0, none⟩) ctl ∧ RowW W rb 3 encI (some ⟨rb, 0, none⟩) rnk ∧ B ≤ ib ∧ B ≤ cb ∧ B ≤ rb ∧ cb ≠ rb ∧ ib ≠ rb ∧ ib ≠ cb
theorem SRows.next {B : Nat} {W W' : World} {inn : List Bool} {ctl rnk : List Int} {ib cb rb : Nat} (h : SRows B W inn ctl rnk ib cb rb) (hb : Below W.heap.size W W') : SRows B W' inn ctl rnk ib cb rb :=
  ⟨rowW_next h.1 hb, rowW_next h.2.1 hb, rowW_next h.2.2.1 hb, h.2.2.2⟩
theorem SRows.keep {B : Nat} {W W' : World} {inn : List Bool} {ctl rnk : List Int} {ib cb rb : Nat} {Sx : Nat → Prop} (h : SRows B W inn ctl rnk ib cb rb) (hk : Keep Sx W W') (h1 : ¬ Sx ib) (h2 : ¬ Sx cb) (h3 : ¬ Sx rb) : SRows B W' inn ctl rnk ib cb rb :=
  ⟨rowW_keep h.1 hk h1, rowW_keep h.2.1 hk h2, rowW_keep h.2.2.1 hk h3, h.2.2.2⟩
/-- A row that is not empty lies in a block of its type. -/
theorem rowW_blk {α : Type} {W : World} {b : Nat} {T : TypeId} {f : α → List Value} {A : Option Addr} {l : List α} (h : RowW W b T f A l) (hl : 1 ≤ l.length) : ∃ cur, Blk W b T cur := by
  rcases h with rfl | ⟨_, cur, hb, _⟩
  · simp at hl
  · exact ⟨cur, hb⟩
def soPhi (B : Nat) (inn : List Bool) (ctl rnk : List Int) (g : Gm) (nA gA : Option Addr) (nn nc gc : Nat) : Nat → Value → World → (Nat → Nat) → Prop
  | 0, v, _, _ => v = .agg #[.int .i64 (g.S : Int), .int .i64 (g.C : Int), .int .i64 (g.H : Int), .slice nA nn nc, .slice gA g.S gc]
  | 1, v, _, _ => v = .agg #[.int .i64 (g.S : Int), .int .i64 (g.C : Int), .int .i64 (g.H : Int), .slice nA nn nc, .slice gA g.S gc]
  | 2, v, W, _ => ∃ ib ic cb rb, v = .agg #[.slice (some ⟨ib, 0, none⟩) g.S ic, .slice (some ⟨cb, 0, none⟩) g.S g.S, .slice (some ⟨rb, 0, none⟩) g.S g.S] ∧ SRows B W inn ctl rnk ib cb rb
  | 3, v, W, _ => ∃ ib ic cb rb, v = .agg #[.int .i64 (g.S : Int), .int .i64 (g.C : Int), .int .i64 (g.H : Int), .slice nA nn nc, .slice gA g.S gc, .slice (some ⟨ib, 0, none⟩) g.S ic, .slice (some ⟨cb, 0, none⟩) g.S g.S, .slice (some ⟨rb, 0, none⟩) g.S g.S] ∧ SRows B W inn ctl rnk ib cb rb
  | 4, v, W, γ => v = .pointer (some ⟨γ 0, 0, none⟩) ∧ B ≤ γ 0 ∧ ∃ x0 x1 x2 x3 x4 x5 x6 x7 : Value, Blk W (γ 0) 92 #[x0, x1, x2, x3, x4, x5, x6, x7]
  | 5, _, W, γ => ∃ ib ic cb rb, Blk W (γ 0) 92 #[.int .i64 (g.S : Int), .int .i64 (g.C : Int), .int .i64 (g.H : Int), .slice nA nn nc, .slice gA g.S gc, .slice (some ⟨ib, 0, none⟩) g.S ic, .slice (some ⟨cb, 0, none⟩) g.S g.S, .slice (some ⟨rb, 0, none⟩) g.S g.S] ∧ SRows B W inn ctl rnk ib cb rb
  | _, _, _, _ => True
section
variable {B : Nat} {inn : List Bool} {ctl rnk : List Int} {g : Gm} {nA gA : Option Addr} {nn nc gc : Nat}
theorem soPhi_next {j : Nat} {v : Value} {W W' : World} {γ : Nat → Nat} (hb : Below W.heap.size W W') (h : soPhi B inn ctl rnk g nA gA nn nc gc j v W γ) : soPhi B inn ctl rnk g nA gA nn nc gc j v W' γ := by
  unfold soPhi at h ⊢
  split at h
  all_goals first | exact h | trivial | skip
  · obtain ⟨ib, ic, cb, rb, e, hr⟩ := h; exact ⟨ib, ic, cb, rb, e, hr.next hb⟩
  · obtain ⟨ib, ic, cb, rb, e, hr⟩ := h; exact ⟨ib, ic, cb, rb, e, hr.next hb⟩
  · obtain ⟨e, hB, x0, x1, x2, x3, x4, x5, x6, x7, hr⟩ := h; exact ⟨e, hB, x0, x1, x2, x3, x4, x5, x6, x7, hr.below hb hr.lt⟩
  · obtain ⟨ib, ic, cb, rb, hr, hg⟩ := h; exact ⟨ib, ic, cb, rb, hr.below hb hr.lt, hg.next hb⟩
theorem soPhi_ghost {j : Nat} {v : Value} {W : World} {γ γ' : Nat → Nat} (h4 : j ≠ 4) (h5 : j ≠ 5) (h : soPhi B inn ctl rnk g nA gA nn nc gc j v W γ) : soPhi B inn ctl rnk g nA gA nn nc gc j v W γ' := by
  unfold soPhi at h ⊢
  split at h
  all_goals first | exact h | trivial | exact absurd rfl h4 | exact absurd rfl h5
theorem soPhi_store {j : Nat} {v : Value} {W W' : World} {γ : Nat → Nat} {cs : Array Value} {y0 y1 y2 y3 y4 y5 y6 y7 : Value} (hl : 1 ≤ inn.length ∧ 1 ≤ ctl.length ∧ 1 ≤ rnk.length) (hk : Keep (fun b => b = γ 0) W W') (hg : Blk W (γ 0) 92 cs) (hg' : Blk W' (γ 0) 92 #[y0, y1, y2, y3, y4, y5, y6, y7]) (h5 : j ≠ 5) (h : soPhi B inn ctl rnk g nA gA nn nc gc j v W γ) : soPhi B inn ctl rnk g nA gA nn nc gc j v W' γ := by
  have hs : ∀ ib cb rb, SRows B W inn ctl rnk ib cb rb → SRows B W' inn ctl rnk ib cb rb := fun ib cb rb h => by
    obtain ⟨c1, k1⟩ := rowW_blk h.1 hl.1
    obtain ⟨c2, k2⟩ := rowW_blk h.2.1 hl.2.1
    obtain ⟨c3, k3⟩ := rowW_blk h.2.2.1 hl.2.2
    exact h.keep hk (blk_ne k1 hg (by decide)) (blk_ne k2 hg (by decide)) (blk_ne k3 hg (by decide))
  unfold soPhi at h ⊢
  split at h
  all_goals first | exact h | trivial | exact absurd rfl h5 | skip
  · obtain ⟨ib, ic, cb, rb, e, hr⟩ := h; exact ⟨ib, ic, cb, rb, e, hs _ _ _ hr⟩
  · obtain ⟨ib, ic, cb, rb, e, hr⟩ := h; exact ⟨ib, ic, cb, rb, e, hs _ _ _ hr⟩
  · obtain ⟨e, hB, _⟩ := h; exact ⟨e, hB, y0, y1, y2, y3, y4, y5, y6, y7, hg'⟩
end
def sbR (cb xi : Nat) (q : Int) (L : List Int) (B : Nat) (W V : World) (γ : Nat → Nat) : Prop :=
  Keep (fun b => b = cb) W V ∧ KeepsFrom B W V ∧ RowW V cb 3 encI (some ⟨cb, 0, none⟩) (if γ 0 = 1 then L.set xi q else L)
theorem sbR_st {cb xi : Nat} {q : Int} {L : List Int} {B : Nat} {W V : World} {γ : Nat → Nat} (h : sbR cb xi q L B W V γ) (hk : xi < L.length) (hcb : cb < B) : (∃ x, V.cell? ⟨cb, xi, none⟩ = some (.int .i64 x)) ∧ cb < V.heap.size ∧ (∀ o, V.frozen? ⟨cb, o, none⟩ = false) ∧ sbR cb xi q L B W (V.setCell ⟨cb, xi, none⟩ (.int .i64 q)) (fun i => if i = 0 then 1 else γ i) := by
  have hl : xi < (if γ 0 = 1 then L.set xi q else L).length := by split <;> first | omega | (rw [List.length_set]; omega)
  have hx := List.getElem?_eq_getElem hl
  have ha := h.2.2.at_ (size := 1) (fun _ => rfl) hx
  refine ⟨⟨_, rowI_at h.2.2 hx⟩, ha.2.1, ha.2.2.1, h.1.setCell (p := ⟨cb, xi, none⟩) rfl _, h.2.1.trans (KeepsFrom.of_grownBy (grown_set V cb xi _) (fun j e => by cases e; exact hcb)), ?_⟩
  have := rowI_set h.2.2 hx q
  rw [if_pos (show (if (0 : Nat) = 0 then 1 else γ 0) = 1 from rfl)]
  split at this
  · rw [List.set_set] at this
    exact this
  · exact this
def sbPhi (g1 cb xi : Nat) (g : Gm) (ib rb ic : Nat) (q : Int) (nA gA : Option Addr) (nn nc gc : Nat) : Nat → Value → World → (Nat → Nat) → Prop
  | 0, v, _, _ => v = .pointer (some ⟨g1, 5, none⟩)
  | 1, v, _, _ => v = .pointer (some ⟨g1, 6, none⟩)
  | 2, v, _, _ => v = .slice (some ⟨cb, 0, none⟩) g.S g.S
  | 3, v, _, _ => v = .int .i64 (xi : Int)
  | 4, v, _, _ => v = .pointer (some ⟨g1, 0, none⟩)
  | 5, v, _, _ => v = .agg #[.int .i64 (g.S : Int), .int .i64 (g.C : Int), .int .i64 (g.H : Int), .slice nA nn nc, .slice gA g.S gc]
  | 6, v, _, _ => v = .int .i64 (xi : Int)
  | 7, v, _, _ => v = .agg #[.int .i64 (g.S : Int), .int .i64 (g.C : Int), .int .i64 (g.H : Int), .slice nA nn nc, .slice gA g.S gc, .slice (some ⟨ib, 0, none⟩) g.S ic, .slice (some ⟨cb, 0, none⟩) g.S g.S, .slice (some ⟨rb, 0, none⟩) g.S g.S]
  | 8, v, _, _ => v = .func (.func 72) #[.agg #[.int .i64 (g.S : Int), .int .i64 (g.C : Int), .int .i64 (g.H : Int), .slice nA nn nc, .slice gA g.S gc, .slice (some ⟨ib, 0, none⟩) g.S ic, .slice (some ⟨cb, 0, none⟩) g.S g.S, .slice (some ⟨rb, 0, none⟩) g.S g.S]] #[]
  | 9, v, _, _ => v = .int .i64 q
  | 10, v, _, _ => v = .pointer (some ⟨cb, xi, none⟩)
  | 11, _, _, γ => γ 0 = 1
  | _, _, _, _ => True
theorem sbPhi_g {g1 cb xi : Nat} {g : Gm} {ib rb ic : Nat} {q : Int} {nA gA : Option Addr} {nn nc gc : Nat} {j : Nat} {v : Value} {W W' : World} {γ γ' : Nat → Nat} (hne : j ≠ 11) (h : sbPhi g1 cb xi g ib rb ic q nA gA nn nc gc j v W γ) : sbPhi g1 cb xi g ib rb ic q nA gA nn nc gc j v W' γ' := by
  unfold sbPhi at h ⊢
  split at h
  all_goals first | exact h | trivial | exact absurd rfl hne
theorem sbPhi_w {g1 cb xi : Nat} {g : Gm} {ib rb ic : Nat} {q : Int} {nA gA : Option Addr} {nn nc gc : Nat} {j : Nat} {v : Value} {W W' : World} {γ : Nat → Nat} (h : sbPhi g1 cb xi g ib rb ic q nA gA nn nc gc j v W γ) : sbPhi g1 cb xi g ib rb ic q nA gA nn nc gc j v W' γ := by
  unfold sbPhi at h ⊢
  split at h
  all_goals first | exact h | trivial
theorem kpS_keep {Sf Sx : Nat → Prop} {W V : World} (hk : Keep Sx W V) (hS : ∀ b, Sf b → ¬ Sx b) : KpS Sf W V := ⟨hk.size, fun p v hp e => by
  have hb := hk.block p.block (block_of_cell e) (hS _ hp)
  simp only [World.cell?] at e ⊢
  rw [hb]
  exact e⟩
set_option maxRecDepth 100000 in
set_option maxHeartbeats 4000000 in
theorem solve_any (nA gA : Option Addr) (nn nc gc : Nat) (g : Gm) (w : World) (hin : GmIn w w.heap.size ⟨nA, gA, nn, nc, g.S, gc⟩ g) (ok : GmOk g) :
    Calls Try.prog 49 #[.agg #[.int .i64 (g.S : Int), .int .i64 (g.C : Int), .int .i64 (g.H : Int), .slice nA nn nc, .slice gA g.S gc]] w fun e w' => ∃ ib ic cb rb k, e = .returned (.agg #[.slice (some ⟨ib, 0, none⟩) g.S ic, .slice (some ⟨cb, 0, none⟩) g.S g.S, .slice (some ⟨rb, 0, none⟩) g.S g.S]) ∧ Solved g k ∧ SRows w.heap.size w' (itR g k).1 (ctL g (itR g k).1) (itR g k).2 ib cb rb ∧ Below w.heap.size w w' := by
  have KG0 := Lib.hid (fun W (h : Below w.heap.size w W) => good_any nA gA nn nc gc g.S g.C g.H g.good W (hin.good.next h) ok.s0 ok.s1)
  have HIN := Lib.hid hin
  have HOK := Lib.hid ok
  have HLN : Hid (1 ≤ g.good.length ∧ 1 ≤ (List.replicate g.S (-1 : Int)).length ∧ 1 ≤ (rkTo g.S (stTo g.S g.good g.S)).length) := Lib.hid ⟨by rw [ok.gl]; exact ok.s0, by rw [List.length_replicate]; exact ok.s0, by rw [rkTo_len]; exact ok.s0⟩
  have hs1 := ok.s1
  have hs0 := ok.s0
  clear hin ok
  refine (callsIn_wide (n := 9)).1 ?_
  refine callsIn_of_wp_marks Try.func49 rfl trivial ?_ rfl
  simp only [Try.ntmps49, List.size_toArray, List.length_cons, List.length_nil, Nat.reduceAdd, Nat.reduceSub, Array.replicate_succ, Array.replicate_zero, List.push_toArray, List.append_toArray, List.nil_append, List.cons_append]
  gi_wp2
  refine wpIn_wide.2 ?_
  apply wp_scope_straight
  refine (wpIn_wide (n := 9)).1 ?_
  gi_wp2
  obtain ⟨bx, hbx⟩ : ∃ z, z = w.heap.size := ⟨_, rfl⟩
  obtain ⟨w1, hw1⟩ : ∃ z, z = (w.alloc (.cells #[.int .i64 (g.S : Int), .int .i64 (g.C : Int), .int .i64 (g.H : Int), .slice nA nn nc, .slice gA g.S gc] 25)).alloc (.cells #[.slice none 0 0, .slice none 0 0, .slice none 0 0] 27) := ⟨_, rfl⟩
  have hi1 : Below w.heap.size w w1 := by rw [hw1]; (repeat' (first | (with_reducible exact Below.refl _ _) | (with_reducible assumption) | (with_reducible refine below_drewN ?_ _) | (with_reducible refine below_after (by assumption) ?_ ?_) | (with_reducible refine Below.drew ?_) | (with_reducible refine Below.alloc ?_ ?_ _) | (with_reducible refine Below.setCell ?_ ?_ _) | omega | (simp; omega) | (simp; done)))
  have HBX : Hid (Blk w1 bx 25 #[.int .i64 (g.S : Int), .int .i64 (g.C : Int), .int .i64 (g.H : Int), .slice nA nn nc, .slice gA g.S gc]) := Lib.hid (by rw [hw1, hbx]; exact Blk.alloc (heap_alloc_new w _) _)
  have HRB : Hid (Blk w1 (bx + 1) 27 #[.slice none 0 0, .slice none 0 0, .slice none 0 0]) := Lib.hid (by
    have e2 := heap_alloc_new (w.alloc (.cells #[.int .i64 (g.S : Int), .int .i64 (g.C : Int), .int .i64 (g.H : Int), .slice nA nn nc, .slice gA g.S gc] 25)) (.cells #[.slice none 0 0, .slice none 0 0, .slice none 0 0] 27)
    simp only [World.size_alloc] at e2
    rw [hw1, hbx]
    exact e2)
  rw [← hw1, ← hbx]
  have HL := Lib.hid hi1
  have HZ : Hid (w.heap.size = bx ∧ w1.heap.size = bx + 2) := Lib.hid (by rw [hw1, hbx]; simp)
  have KG := Lib.hid (fun W (h : Below w1.heap.size w1 W) => KG0.out W (below3 HL.out h (Nat.le_refl _)))
  clear hw1 hbx hi1 KG0
  refine wpIn_wide.2 ?_
  refine wp_region_free10 5 (by kernel_rfl) [some 7, some 8, some 9, some 10, some 3, none] [[], [], [1], [0, 2], [], [4, 3, 2, 0, 1, 2, 3, 4]] [(1, .pointer (some ⟨bx, 0, none⟩))] (fun W _ => Below w1.heap.size w1 W) (soPhi w1.heap.size g.good (List.replicate g.S (-1)) (rkTo g.S (stTo g.S g.good g.S)) g nA gA nn nc gc) (fun _ _ _ => True) (by kernel_rfl) (by kernel_rfl) rfl (by kernel_rfl) ?_ ?_ ⟨fun _ => 0, (Below.refl _ _).drew, fun i _ => trivial⟩ ?_ ?_
  · intro z hz
    simp only [List.mem_cons, List.mem_nil_iff, or_false] at hz
    subst hz
    all_goals exact ⟨by kernel_rfl, rfl⟩
  · intro i v W γ hi h
    rcases i with _ | _ | _ | _ | _ | _ | i
    all_goals first | exact h | (simp at hi)
  · refine ⟨?_, ?_, ?_, ?_, ?_, ?_, trivial⟩
    all_goals
      intro a W γ ev hcc hff hfx hR hψ hpre
      simp only [List.mem_cons, List.mem_nil_iff, or_false, forall_eq, forall_eq_or_imp] at hfx
      have f0 := hfx
      clear hfx
      have HR := Lib.hid hR
      clear hR
      refine ⟨fun _ K hK => ?_, trivial⟩

    · have hzz : bx < W.heap.size := Nat.lt_of_lt_of_le HBX.out.lt (HR.out : Below w1.heap.size w1 W).size
      have hbk := HBX.out.below (HR.out : Below w1.heap.size w1 W) HBX.out.lt
      have c0 := hbk.cell 0
      have c1 := hbk.cell 1
      have c2 := hbk.cell 2
      have c3 := hbk.cell 3
      have c4 := hbk.cell 4
      simp only [List.getElem?_toArray, List.getElem?_cons_zero, List.getElem?_cons_succ] at c0 c1 c2 c3 c4
      clear hbk
      clear hpre hψ
      go_simp
      exact hK _ _ γ HR.out (fun _ _ _ _ h => h) (fun _ _ _ h => h) rfl
    · have hzz : bx < W.heap.size := Nat.lt_of_lt_of_le HBX.out.lt (HR.out : Below w1.heap.size w1 W).size
      have hbk := HBX.out.below (HR.out : Below w1.heap.size w1 W) HBX.out.lt
      have c0 := hbk.cell 0
      have c1 := hbk.cell 1
      have c2 := hbk.cell 2
      have c3 := hbk.cell 3
      have c4 := hbk.cell 4
      simp only [List.getElem?_toArray, List.getElem?_cons_zero, List.getElem?_cons_succ] at c0 c1 c2 c3 c4
      clear hbk
      clear hpre hψ
      go_simp
      exact hK _ _ γ HR.out (fun _ _ _ _ h => h) (fun _ _ _ h => h) rfl
    · have q0 : ev (.tmp 8) = _ := hpre 1 (by decide)
      have C := Lib.hid (KG.out W (HR.out : Below w1.heap.size w1 W))
      have HRW9 : Hid (Below w1.heap.size w1 W) := HR
      clear hpre
      go_simp
      refine C.out.mono ?_
      rintro e w5 ⟨ib, ic, cb, rb, rfl, r1, r2, r3, r4, r5, r6, r7, r8, hB5⟩
      have hz := HRW9.out.size
      obtain ⟨c9, k9⟩ := rowW_blk r1 HLN.out.1
      have r9 := blk_ne k9 r2 (by decide)
      exact hK _ w5 γ (below3 HRW9.out hB5 (Nat.le_refl _)) (fun j u _ _ h => soPhi_next hB5 h) (fun _ _ _ h => h) ⟨ib, ic, cb, rb, rfl, r1, blk_rowI r2, blk_rowI r3, by omega, by omega, by omega, r7, r8, r9⟩
    · have q0 : ev (.tmp 7) = _ := hpre 0 (by decide)
      obtain ⟨ib, ic, cb, rb, q2, h2⟩ := hpre 2 (by decide)
      replace q2 : ev (.tmp 9) = _ := q2
      have H2 := Lib.hid h2
      clear hpre h2
      go_simp
      exact hK _ _ γ HR.out (fun _ _ _ _ h => h) (fun _ _ _ h => h) ⟨ib, ic, cb, rb, rfl, H2.out⟩
    · have HRW9 : Hid (Below w1.heap.size w1 W) := HR
      clear hpre
      go_simp
      have hB5 : Below W.heap.size W (W.alloc (.cells #[.int .i64 0, .int .i64 0, .int .i64 0, .slice none 0 0, .slice none 0 0, .slice none 0 0, .slice none 0 0, .slice none 0 0] 92)) := (Below.refl _ _).alloc (Nat.le_refl _) _
      exact hK _ _ (fun i => if i = 0 then W.heap.size else γ i) (below3 HRW9.out hB5 (Nat.le_refl _)) (fun j u hj hne h => soPhi_ghost hne (fun e => by subst e; exact absurd (by decide) hj) (soPhi_next hB5 h)) (fun _ _ _ h => h) ⟨rfl, HRW9.out.size, _, _, _, _, _, _, _, _, heap_alloc_new W _⟩
    · obtain ⟨q4, h4B, x0, x1, x2, x3, x4, x5, x6, x7, h4⟩ := hpre 4 (by decide)
      obtain ⟨ib, ic, cb, rb, q3, h3⟩ := hpre 3 (by decide)
      replace q4 : ev (.tmp 3) = _ := q4
      replace q3 : ev (.tmp 10) = _ := q3
      obtain ⟨g1, hg1⟩ : ∃ z, z = γ 0 := ⟨_, rfl⟩
      rw [← hg1] at q4 h4B h4
      have z11 := h4.lt
      have f11 := h4.frozen
      have HG1 := Lib.hid hg1
      have HX : Hid (Blk W g1 92 #[x0, x1, x2, x3, x4, x5, x6, x7] ∧ w1.heap.size ≤ g1 ∧ SRows w1.heap.size W g.good (List.replicate g.S (-1)) (rkTo g.S (stTo g.S g.good g.S)) ib cb rb) := Lib.hid ⟨h4, h4B, h3⟩
      have c0 := h4.cell 0
      have c1 := h4.cell 1
      have c2 := h4.cell 2
      have c3 := h4.cell 3
      have c4 := h4.cell 4
      have c5 := h4.cell 5
      have c6 := h4.cell 6
      have c7 := h4.cell 7
      simp only [List.getElem?_toArray, List.getElem?_cons_zero, List.getElem?_cons_succ] at c0 c1 c2 c3 c4 c5 c6 c7
      have HRW9 : Hid (Below w1.heap.size w1 W) := HR
      clear hpre h4 h3 h4B hg1
      go_simp
      obtain ⟨hb1, hb2, hgr⟩ := HX.out
      have hkk : Keep (fun b => b = γ 0) W ((((((((W.setCell ⟨g1, 0, none⟩ (.int .i64 (g.S : Int))).setCell ⟨g1, 1, none⟩ (.int .i64 (g.C : Int))).setCell ⟨g1, 2, none⟩ (.int .i64 (g.H : Int))).setCell ⟨g1, 3, none⟩ (.slice nA nn nc)).setCell ⟨g1, 4, none⟩ (.slice gA g.S gc)).setCell ⟨g1, 5, none⟩ (.slice (some ⟨ib, 0, none⟩) g.S ic)).setCell ⟨g1, 6, none⟩ (.slice (some ⟨cb, 0, none⟩) g.S g.S)).setCell ⟨g1, 7, none⟩ (.slice (some ⟨rb, 0, none⟩) g.S g.S)) := (((((((((Keep.refl (fun b => b = γ 0) W).setCell HG1.out _).setCell HG1.out _).setCell HG1.out _).setCell HG1.out _).setCell HG1.out _).setCell HG1.out _).setCell HG1.out _).setCell HG1.out _)
      have hnb : Blk ((((((((W.setCell ⟨g1, 0, none⟩ (.int .i64 (g.S : Int))).setCell ⟨g1, 1, none⟩ (.int .i64 (g.C : Int))).setCell ⟨g1, 2, none⟩ (.int .i64 (g.H : Int))).setCell ⟨g1, 3, none⟩ (.slice nA nn nc)).setCell ⟨g1, 4, none⟩ (.slice gA g.S gc)).setCell ⟨g1, 5, none⟩ (.slice (some ⟨ib, 0, none⟩) g.S ic)).setCell ⟨g1, 6, none⟩ (.slice (some ⟨cb, 0, none⟩) g.S g.S)).setCell ⟨g1, 7, none⟩ (.slice (some ⟨rb, 0, none⟩) g.S g.S)) g1 92 #[.int .i64 (g.S : Int), .int .i64 (g.C : Int), .int .i64 (g.H : Int), .slice nA nn nc, .slice gA g.S gc, .slice (some ⟨ib, 0, none⟩) g.S ic, .slice (some ⟨cb, 0, none⟩) g.S g.S, .slice (some ⟨rb, 0, none⟩) g.S g.S] := by
        have h := ((((((((hb1.set_ 0 (.int .i64 (g.S : Int))).set_ 1 (.int .i64 (g.C : Int))).set_ 2 (.int .i64 (g.H : Int))).set_ 3 (.slice nA nn nc)).set_ 4 (.slice gA g.S gc)).set_ 5 (.slice (some ⟨ib, 0, none⟩) g.S ic)).set_ 6 (.slice (some ⟨cb, 0, none⟩) g.S g.S)).set_ 7 (.slice (some ⟨rb, 0, none⟩) g.S g.S))
        simpa using h
      rw [HG1.out] at hb1 hb2 hnb
      have hgr2 : SRows w1.heap.size ((((((((W.setCell ⟨g1, 0, none⟩ (.int .i64 (g.S : Int))).setCell ⟨g1, 1, none⟩ (.int .i64 (g.C : Int))).setCell ⟨g1, 2, none⟩ (.int .i64 (g.H : Int))).setCell ⟨g1, 3, none⟩ (.slice nA nn nc)).setCell ⟨g1, 4, none⟩ (.slice gA g.S gc)).setCell ⟨g1, 5, none⟩ (.slice (some ⟨ib, 0, none⟩) g.S ic)).setCell ⟨g1, 6, none⟩ (.slice (some ⟨cb, 0, none⟩) g.S g.S)).setCell ⟨g1, 7, none⟩ (.slice (some ⟨rb, 0, none⟩) g.S g.S)) g.good (List.replicate g.S (-1)) (rkTo g.S (stTo g.S g.good g.S)) ib cb rb := by
        obtain ⟨c1, k1⟩ := rowW_blk hgr.1 HLN.out.1
        obtain ⟨c2, k2⟩ := rowW_blk hgr.2.1 HLN.out.2.1
        obtain ⟨c3, k3⟩ := rowW_blk hgr.2.2.1 HLN.out.2.2
        exact hgr.keep hkk (blk_ne k1 hb1 (by decide)) (blk_ne k2 hb1 (by decide)) (blk_ne k3 hb1 (by decide))
      refine hK undef _ γ (HRW9.out.trans (hkk.below HRW9.out.size (fun b e => by rw [e]; exact hb2))) (fun j u _ hne h => soPhi_store HLN.out hkk hb1 (by rw [HG1.out]; exact hnb) hne h) (fun _ _ _ h => h) ⟨ib, ic, cb, rb, (by rw [HG1.out]; exact hnb), hgr2⟩
  · intro vs w' γ hvl hR hφ
    have q4 := hφ 4 (by decide)
    have q5 := hφ 5 (by decide)
    have HR := Lib.hid hR
    clear hφ hR
    match vs, hvl with
    | [y0, y1, y2, y3, y4, y5], _ =>
    simp only [List.getD_cons_zero, List.getD_cons_succ] at q4 q5
    obtain ⟨e4, h4B, _⟩ := q4
    obtain ⟨ib, ic, cb, rb, hbk, hsr⟩ := q5
    obtain ⟨g1, hg1⟩ : ∃ z, z = γ 0 := ⟨_, rfl⟩
    rw [← hg1] at e4 h4B hbk
    obtain rfl : y4 = _ := e4
    have hne : g1 ≠ ib ∧ g1 ≠ cb ∧ g1 ≠ rb := by
      obtain ⟨c1, k1⟩ := rowW_blk hsr.1 HLN.out.1
      obtain ⟨c2, k2⟩ := rowW_blk hsr.2.1 HLN.out.2.1
      obtain ⟨c3, k3⟩ := rowW_blk hsr.2.2.1 HLN.out.2.2
      exact ⟨blk_ne hbk k1 (by decide), blk_ne hbk k2 (by decide), blk_ne hbk k3 (by decide)⟩
    have HNE := Lib.hid (And.intro hne (And.intro h4B hsr.2.2.2))
    have HW : Hid (0 + (itR g 0).1.count true ≤ g.S ∧ (∀ j < 0, lostL g (itR g j).1 ≠ []) ∧ Blk w' g1 92 #[.int .i64 (g.S : Int), .int .i64 (g.C : Int), .int .i64 (g.H : Int), .slice nA nn nc, .slice gA g.S gc, .slice (some ⟨ib, 0, none⟩) g.S ic, .slice (some ⟨cb, 0, none⟩) g.S g.S, .slice (some ⟨rb, 0, none⟩) g.S g.S] ∧ SRows w1.heap.size w' (itR g 0).1 (List.replicate g.S (-1)) (itR g 0).2 ib cb rb ∧ Below w1.heap.size w1 w') := Lib.hid ⟨by rw [Nat.zero_add]; exact Nat.le_trans List.count_le_length (by rw [(itR_len g HOK.out 0).1]; exact Nat.le_refl _), fun j h => by omega, hbk, hsr, HR.out⟩
    clear hbk hsr h4B hg1 hne HR
    simp [putAll]
    gi_wp2_with fail
    refine wpIn_wide.2 ?_
    apply wp_label
    gi_wp2_with fail
    gi_loopw [4] (fun i wr => ∃ k : Nat, i = .int .i64 ((k : Int) + 1) ∧ Hid (k + (itR g k).1.count true ≤ g.S ∧ (∀ j < k, lostL g (itR g j).1 ≠ []) ∧ Blk wr g1 92 #[.int .i64 (g.S : Int), .int .i64 (g.C : Int), .int .i64 (g.H : Int), .slice nA nn nc, .slice gA g.S gc, .slice (some ⟨ib, 0, none⟩) g.S ic, .slice (some ⟨cb, 0, none⟩) g.S g.S, .slice (some ⟨rb, 0, none⟩) g.S g.S] ∧ SRows w1.heap.size wr (itR g k).1 (List.replicate g.S (-1)) (itR g k).2 ib cb rb ∧ Below w1.heap.size w1 wr)) (fun i _ => (itR g ((intOf i).toNat - 1)).1.count true)
    case atStart => exact ⟨0, rfl, HW⟩
    case round =>
      obtain ⟨k, rfl, hrel⟩ := hrel
      obtain ⟨inn, hinn⟩ : ∃ z, z = (itR g k).1 := ⟨_, rfl⟩
      obtain ⟨rnk, hrnk⟩ : ∃ z, z = (itR g k).2 := ⟨_, rfl⟩
      have HIT := Lib.hid (And.intro hinn hrnk)
      rw [← hinn, ← hrnk] at hrel
      have hli : inn.length = g.S := by rw [hinn]; exact (itR_len g HOK.out k).1
      have hlr : rnk.length = g.S := by rw [hrnk]; exact (itR_len g HOK.out k).2
      obtain ⟨hcnt, hbef, hbk, hsr, hB⟩ := hrel.out
      have hBw : Below w.heap.size w wr := HL.out.trans (hB.mono HL.out.size)
      have KL := Lib.hid (lost_any nA gA (some ⟨ib, 0, none⟩) (some ⟨cb, 0, none⟩) (some ⟨rb, 0, none⟩) nn nc g.S gc g.S ic g.S g.S g.S g.S g inn wr (HIN.out.next' hBw) HOK.out (hsr.1.rd (size := 1) (fun _ => rfl) hli) rfl)
      obtain ⟨ls, hls⟩ : ∃ z, z = lostL g inn := ⟨_, rfl⟩
      have hls2 : ls = lostTo g inn (stTo g.S inn g.S) := hls
      rw [← hls2] at KL
      obtain ⟨n, hn⟩ : ∃ z, z = ls.length := ⟨_, rfl⟩
      rw [← hn] at KL
      have HLS := Lib.hid (And.intro hls (And.intro hn (And.intro hli hlr)))
      have c0 := hbk.cell 0
      have c1 := hbk.cell 1
      have c2 := hbk.cell 2
      have c3 := hbk.cell 3
      have c4 := hbk.cell 4
      have c5 := hbk.cell 5
      have c6 := hbk.cell 6
      have c7 := hbk.cell 7
      simp only [List.getElem?_toArray, List.getElem?_cons_zero, List.getElem?_cons_succ] at c0 c1 c2 c3 c4 c5 c6 c7
      have zg := hbk.lt
      have HREL := hrel
      have hk400 : k ≤ 400 := by omega
      clear hinn hrnk hrel hli hlr hcnt hbef hbk hsr hB hBw hls hls2 hn
      gi_wp2_with fail
      refine ⟨trivial, ?_⟩
      refine (callsIn_wide.2 KL.out).mono ?_
      rintro e w2 ⟨A, c, rfl, hB2, hown⟩
      have HB2 := Lib.hid hB2
      have HOWN := Lib.hid hown
      clear hB2 hown
      have hbk2 := HREL.out.2.2.1.below HB2.out HREL.out.2.2.1.lt
      have zg2 := hbk2.lt
      have d0 := hbk2.cell 0
      have d1 := hbk2.cell 1
      have d2 := hbk2.cell 2
      have d3 := hbk2.cell 3
      have d4 := hbk2.cell 4
      have d5 := hbk2.cell 5
      have d6 := hbk2.cell 6
      have d7 := hbk2.cell 7
      simp only [List.getElem?_toArray, List.getElem?_cons_zero, List.getElem?_cons_succ] at d0 d1 d2 d3 d4 d5 d6 d7
      have HBK2 := Lib.hid hbk2
      have HSR2 := Lib.hid (HREL.out.2.2.2.1.next HB2.out)
      have HBB2 : Hid (Below w1.heap.size w1 w2) := Lib.hid (HREL.out.2.2.2.2.trans (HB2.out.mono HREL.out.2.2.2.2.size))
      clear hbk2 c0 c1 c2 c3 c4 c5 c6 c7
      by_cases hn0 : n = 0
      · have HSV : Hid (Solved g k) := Lib.hid ⟨by
          have h1 := HLS.out.2.1
          rw [hn0] at h1
          have h2 := List.eq_nil_of_length_eq_zero h1.symm
          rw [← HIT.out.1, ← HLS.out.1]
          exact h2, HREL.out.2.1⟩
        subst hn0
        gi_wp2_with fail
        refine ⟨trivial, ?_⟩
        refine (states_in Fence.wide _ trivial rfl _ _ _ _).mono ?_
        rintro e w3 ⟨rfl, rfl⟩
        gi_wp2
        obtain ⟨Bp, hBp⟩ : ∃ z, z = w2.heap.size := ⟨_, rfl⟩
        obtain ⟨W0, hW0⟩ : ∃ z, z = w2.alloc (.cells #[.slice (some ⟨ib, 0, none⟩) g.S ic, .slice (some ⟨cb, 0, none⟩) g.S g.S, .slice (some ⟨rb, 0, none⟩) g.S g.S] 27) := ⟨_, rfl⟩
        have hb0 : Below w2.heap.size w2 W0 := by rw [hW0]; exact (Below.refl _ _).alloc (Nat.le_refl _) _
        have hbp : Blk W0 Bp 27 #[.slice (some ⟨ib, 0, none⟩) g.S ic, .slice (some ⟨cb, 0, none⟩) g.S g.S, .slice (some ⟨rb, 0, none⟩) g.S g.S] := by rw [hW0, hBp]; exact heap_alloc_new w2 _
        rw [← hW0, ← hBp]
        have hbk0 := HBK2.out.below hb0 HBK2.out.lt
        have hsr0 := HSR2.out.next hb0
        have hli : inn.length = g.S := HLS.out.2.2.1
        have hlr : rnk.length = g.S := HLS.out.2.2.2
        have hres : Blk W0 (bx + 1) 27 #[.slice none 0 0, .slice none 0 0, .slice none 0 0] := (HRB.out.below HBB2.out HRB.out.lt).below hb0 (HRB.out.below HBB2.out HRB.out.lt).lt
        have hB0 : Below w1.heap.size w1 W0 := HBB2.out.trans (hb0.mono HBB2.out.size)
        obtain ⟨n1, n2, n3, n4, n5, n6, n7, n8⟩ := HNE.out
        obtain ⟨_, kc⟩ := rowW_blk HSR2.out.2.1 HLN.out.2.1
        have hlow : Bp ≠ cb ∧ ¬ (g1 = cb) ∧ ¬ (bx + 1 = cb) := ⟨by have := kc.lt; omega, n1.2.1, by have := HZ.out; omega⟩
        obtain ⟨_, ki⟩ := rowW_blk hsr0.1 (by rw [hli]; exact hs0)
        obtain ⟨_, kc0⟩ := rowW_blk hsr0.2.1 HLN.out.2.1
        have zcb := kc0.lt
        have zib := ki.lt
        have hci : ∀ (i : Nat) (b : Bool), inn[i]? = some b → W0.cell? ⟨ib, 0 + i, none⟩ = some (.bool b) := fun i b e => by rw [Nat.zero_add]; exact rowB_at hsr0.1 e
        obtain ⟨Sf, hSf⟩ : ∃ Sf : Nat → Prop, Sf = fun b => b ≠ cb := ⟨_, rfl⟩
        have HSF := Lib.hid hSf
        clear hSf
        have hszB : w1.heap.size ≤ W0.heap.size := hB0.size
        have HI0 : Hid (((((RowW W0 cb 3 encI (some ⟨cb, 0, none⟩) (ctTo g inn []) ∧ RowW W0 ib 4 encB (some ⟨ib, 0, none⟩) inn) ∧ RowW W0 rb 3 encI (some ⟨rb, 0, none⟩) rnk) ∧ Blk W0 g1 92 #[.int .i64 (g.S : Int), .int .i64 (g.C : Int), .int .i64 (g.H : Int), .slice nA nn nc, .slice gA g.S gc, .slice (some ⟨ib, 0, none⟩) g.S ic, .slice (some ⟨cb, 0, none⟩) g.S g.S, .slice (some ⟨rb, 0, none⟩) g.S g.S]) ∧ Blk W0 (bx + 1) 27 #[.slice none 0 0, .slice none 0 0, .slice none 0 0]) ∧ Below w1.heap.size w1 W0) := Lib.hid ⟨⟨⟨⟨⟨hsr0.2.1, hsr0.1⟩, hsr0.2.2.1⟩, hbk0⟩, hres⟩, hB0⟩
        have HCI := Lib.hid hci
        have HLOW := Lib.hid hlow
        have HLI := Lib.hid hli
        have HLR := Lib.hid hlr
        have HN8 := Lib.hid (And.intro n4 (And.intro n5 (And.intro n6 (And.intro n7 (And.intro n8 n2)))))
        have HN9 := Lib.hid (And.intro n1 n3)
        have cbp := hbp.cell 0
        simp only [List.getElem?_toArray, List.getElem?_cons_zero, List.getElem?_cons_succ] at cbp
        clear hci hbk0 hsr0 hres hb0 hW0 hBp hB0 hbp hlow hli hlr n1 n2 n3 n4 n5 n6 n7 n8 kc ki kc0 d0 d1 d2 d3 d4 d5 d6 d7 zg zg2
        refine wpIn_rangeFunc_ownG rfl (by omega) (gf := 79) (lb := #[.pointer (some ⟨Bp, 0, none⟩)]) rfl trivial (enters_of Try.func79 (by kernel_rfl) rfl)
          (states_stops Fence.wide (9 - 1) trivial rfl (by omega) Bp ib 0 ic g.S Sf inn HLI.out (by omega) (by rw [HSF.out]; exact HLOW.out.1) (by rw [HSF.out]; exact HN8.out.2.2.2.2.1) W0 cbp HCI.out)
          (fun h k => KpS.trans h k) (fun W l o o' _ ho hc _ => KpS.putObj W l o o' ho hc) (Below.refl _ _) (fun _ => rfl)
          (fun pre W => (((((RowW W cb 3 encI (some ⟨cb, 0, none⟩) (ctTo g inn pre) ∧ RowW W ib 4 encB (some ⟨ib, 0, none⟩) inn) ∧ RowW W rb 3 encI (some ⟨rb, 0, none⟩) rnk) ∧ Blk W g1 92 #[.int .i64 (g.S : Int), .int .i64 (g.C : Int), .int .i64 (g.H : Int), .slice nA nn nc, .slice gA g.S gc, .slice (some ⟨ib, 0, none⟩) g.S ic, .slice (some ⟨cb, 0, none⟩) g.S g.S, .slice (some ⟨rb, 0, none⟩) g.S g.S]) ∧ Blk W (bx + 1) 27 #[.slice none 0 0, .slice none 0 0, .slice none 0 0]) ∧ Below w1.heap.size w1 W))
          (fun _ _ _ => False)
          (OwnFrom.and (OwnFrom.and (OwnFrom.and (OwnFrom.and (OwnFrom.and (Own.from (rowW_ownL _ _ _ _ _) _) (Own.from (rowW_own _ _ _ _ _) _)) (Own.from (rowW_own _ _ _ _ _) _)) (Own.from (blk_own _ _ _) _)) (Own.from (blk_own _ _ _) _)) (ownFrom_below (Nat.le_refl _) hszB))
          (fun _ _ _ _ _ hs _ _ => hs)
          HI0.out
          (fun x => { tmps := #[.agg #[.int .i64 (g.S : Int), .int .i64 (g.C : Int), .int .i64 (g.H : Int), .slice nA nn nc, .slice gA g.S gc], .pointer (some ⟨bx, 0, none⟩), .pointer (some ⟨bx + 1, 0, none⟩), .pointer (some ⟨g1, 0, none⟩), .int .i64 ((k : Int) + 1), .slice A 0 c, .int .i64 (x.val : Int), y0, y1, y2, y3, u11, u12, .agg #[.int .i64 (g.S : Int), .int .i64 (g.C : Int), .int .i64 (g.H : Int), .slice nA nn nc, .slice gA g.S gc, .slice (some ⟨ib, 0, none⟩) g.S ic, .slice (some ⟨cb, 0, none⟩) g.S g.S, .slice (some ⟨rb, 0, none⟩) g.S g.S], .slice A 0 c, .slice A 0 c, .int .i64 0, u17, u18, u19, u20, .bool true, .bool true, .pointer (some ⟨g1, 5, none⟩), .agg #[.slice (some ⟨ib, 0, none⟩) g.S ic, .slice (some ⟨cb, 0, none⟩) g.S g.S, .slice (some ⟨rb, 0, none⟩) g.S g.S], .func (.func 79) #[] #[.pointer (some ⟨Bp, 0, none⟩)], .int .i64 (x.val : Int), undef, undef, undef, undef, undef, undef, undef, undef, undef, undef, undef, undef, undef], defers := [] }) ?assign ?body ?done ?stop
        case assign =>
          rintro l x W K hK
          gi_wp2
          exact hK
        case body =>
          rintro l pre x W ⟨⟨⟨⟨⟨b1, b2⟩, b3⟩, b4⟩, b5⟩, hB⟩ hlt
          have hx := x.isLt
          obtain ⟨xi, hxi⟩ : ∃ z, z = x.val := ⟨_, rfl⟩
          obtain ⟨q, hq⟩ : ∃ z, z = leastK g inn x.val := ⟨_, rfl⟩
          obtain ⟨L, hL⟩ : ∃ z, z = ctTo g inn pre := ⟨_, rfl⟩
          have HSN : Hid (ctTo g inn (pre ++ [x]) = L.set xi q) := Lib.hid (by rw [ctTo_snoc, hL, hq, hxi])
          have HLL : Hid (L.length = g.S) := Lib.hid (by rw [hL]; exact ctTo_len g inn pre)
          rw [← hL] at b1
          have hWb : Below w.heap.size w W := HL.out.trans (hB.mono HL.out.size)
          have KA := Lib.hid (fun V (hk : Keep (fun b => b = cb) W V) => leastK_any nA gA (some ⟨ib, 0, none⟩) (some ⟨cb, 0, none⟩) (some ⟨rb, 0, none⟩) nn nc g.S gc g.S ic g.S g.S g.S g.S g inn x.val V (HIN.out.next' (hWb.trans (hk.below hWb.size (fun b e => by rw [e]; have := HN8.out.1; have := HZ.out; omega)))) HOK.out ((rowW_keep b2 hk HN8.out.2.2.2.2.1).rd (size := 1) (fun _ => rfl) HLI.out) rfl x.isLt)
          rw [← hq, ← hxi] at KA
          rw [← hxi]
          rw [← hxi] at hx
          have hx0 : (0 : Int) ≤ (xi : Int) := by omega
          have hxS : (xi : Int) < (g.S : Int) := by omega
          have HXS := Lib.hid hx
          have HB1 := Lib.hid b1
          have HB4 := Lib.hid b4
          have HBR := Lib.hid (And.intro b2 (And.intro b3 (And.intro b5 hB)))
          clear b1 b2 b3 b4 b5 hB hxi hq hL hWb hx
          gi_wp2
          refine wpIn_round_free10 (by kernel_rfl) 11 (by kernel_rfl) [some 27, some 28, some 29, some 30, some 31, some 32, some 33, some 34, some 35, some 36, some 37, none] [[], [0], [1], [], [], [4], [], [], [7], [5, 6, 8], [2, 3, 0, 1, 2, 3, 4, 5, 6, 7, 8, 9], [10, 9, 9, 0, 1, 2, 3, 4, 5, 6, 7, 8, 9]] [(3, .pointer (some ⟨g1, 0, none⟩)), (6, .int .i64 (xi : Int))] (sbR cb xi q L W0.heap.size W) (sbPhi g1 cb xi g ib rb ic q nA gA nn nc gc) (fun _ _ _ => True) (by kernel_rfl) (by kernel_rfl) rfl (by kernel_rfl) ?_ ?_ ⟨fun _ => 0, ⟨(Keep.refl _ _).drew, (KeepsOthers.drew _).from _, HB1.out⟩, fun i _ => trivial⟩ ?_ ?_
          · intro z hz
            simp only [List.mem_cons, List.mem_nil_iff, or_false] at hz
            rcases hz with rfl | rfl
            all_goals exact ⟨by kernel_rfl, rfl⟩
          · intro i v W γ hi h
            rcases i with _ | _ | _ | _ | _ | _ | _ | _ | _ | _ | _ | _ | i
            all_goals first | exact h | (simp at hi)
          · refine ⟨?_, ?_, ?_, ?_, ?_, ?_, ?_, ?_, ?_, ?_, ?_, ?_, trivial⟩
            all_goals
              intro a W γ ev hcc hff hfx hR hψ hpre
              simp only [List.mem_cons, List.mem_nil_iff, or_false, forall_eq, forall_eq_or_imp] at hfx
              obtain ⟨f0, f1⟩ := hfx
              have HR := Lib.hid hR
              clear hR
              refine ⟨fun _ K hK => ?_, trivial⟩

            · clear hpre hψ
              go_simp
              exact hK _ _ γ HR.out (fun _ _ _ _ h => h) (fun _ _ _ h => h) rfl
            · have q0 : ev (.tmp 27) = _ := hpre 0 (by decide)
              clear hpre hψ
              go_simp
              exact hK _ _ γ HR.out (fun _ _ _ _ h => h) (fun _ _ _ h => h) rfl
            · have q0 : ev (.tmp 28) = _ := hpre 1 (by decide)
              have hbk := HR.out.1.blk HB4.out HLOW.out.2.1
              have hzz := hbk.lt
              have c0 := hbk.cell 0
              have c1 := hbk.cell 1
              have c2 := hbk.cell 2
              have c3 := hbk.cell 3
              have c4 := hbk.cell 4
              have c5 := hbk.cell 5
              have c6 := hbk.cell 6
              have c7 := hbk.cell 7
              simp only [List.getElem?_toArray, List.getElem?_cons_zero, List.getElem?_cons_succ] at c0 c1 c2 c3 c4 c5 c6 c7
              clear hbk
              clear hpre hψ
              go_simp
              exact hK _ _ γ HR.out (fun _ _ _ _ h => h) (fun _ _ _ h => h) rfl
            · clear hpre hψ
              go_simp
              exact hK _ _ γ HR.out (fun _ _ _ _ h => h) (fun _ _ _ h => h) rfl
            · clear hpre hψ
              go_simp
              exact hK _ _ γ HR.out (fun _ _ _ _ h => h) (fun _ _ _ h => h) rfl
            · have q0 : ev (.tmp 31) = _ := hpre 4 (by decide)
              have hbk := HR.out.1.blk HB4.out HLOW.out.2.1
              have hzz := hbk.lt
              have c0 := hbk.cell 0
              have c1 := hbk.cell 1
              have c2 := hbk.cell 2
              have c3 := hbk.cell 3
              have c4 := hbk.cell 4
              have c5 := hbk.cell 5
              have c6 := hbk.cell 6
              have c7 := hbk.cell 7
              simp only [List.getElem?_toArray, List.getElem?_cons_zero, List.getElem?_cons_succ] at c0 c1 c2 c3 c4 c5 c6 c7
              clear hbk
              clear hpre hψ
              go_simp
              exact hK _ _ γ HR.out (fun _ _ _ _ h => h) (fun _ _ _ h => h) rfl
            · clear hpre hψ
              go_simp
              exact hK _ _ γ HR.out (fun _ _ _ _ h => h) (fun _ _ _ h => h) rfl
            · have hbk := HR.out.1.blk HB4.out HLOW.out.2.1
              have hzz := hbk.lt
              have c0 := hbk.cell 0
              have c1 := hbk.cell 1
              have c2 := hbk.cell 2
              have c3 := hbk.cell 3
              have c4 := hbk.cell 4
              have c5 := hbk.cell 5
              have c6 := hbk.cell 6
              have c7 := hbk.cell 7
              simp only [List.getElem?_toArray, List.getElem?_cons_zero, List.getElem?_cons_succ] at c0 c1 c2 c3 c4 c5 c6 c7
              clear hbk
              clear hpre hψ
              go_simp
              exact hK _ _ γ HR.out (fun _ _ _ _ h => h) (fun _ _ _ h => h) rfl
            · have q0 : ev (.tmp 34) = _ := hpre 7 (by decide)
              clear hpre hψ
              go_simp
              exact hK _ _ γ HR.out (fun _ _ _ _ h => h) (fun _ _ _ h => h) rfl
            · have q0 : ev (.tmp 32) = _ := hpre 5 (by decide)
              have q1 : ev (.tmp 33) = _ := hpre 6 (by decide)
              have q2 : ev (.tmp 35) = _ := hpre 8 (by decide)
              have C := Lib.hid (KA.out W (HR.out.1))
              have HRW9 := HR
              clear hpre
              go_simp
              refine C.out.mono ?_
              rintro e w5 ⟨rfl, hB5⟩
              obtain ⟨r1, r2, r3⟩ := HRW9.out
              exact hK _ w5 γ ⟨r1.trans (Keep.of_below hB5), r2.trans (KeepsFrom.of_grownBy (grown_of_below hB5) (fun j e => by cases e)), rowW_next r3 hB5⟩ (fun j u _ _ h => sbPhi_w h) (fun _ _ _ h => h) rfl
            · have q0 : ev (.tmp 29) = _ := hpre 2 (by decide)
              have q1 : ev (.tmp 30) = _ := hpre 3 (by decide)
              clear hpre hψ
              go_simp
              exact hK _ _ γ HR.out (fun _ _ _ _ h => h) (fun _ _ _ h => h) rfl
            · have q0 : ev (.tmp 37) = _ := hpre 10 (by decide)
              have q1 : ev (.tmp 36) = _ := hpre 9 (by decide)
              obtain ⟨⟨x9, c9⟩, z9, f9, hR9⟩ := sbR_st HR.out (by rw [HLL.out]; exact HXS.out) zcb
              have HR9 := Lib.hid hR9
              clear hpre hR9
              go_simp
              exact hK undef _ _ HR9.out (fun j u _ hne h => sbPhi_g hne h) (fun _ _ _ h => h) rfl
          · intro vs V9 γ hvl hR hφ
            have q11 := hφ 11 (by decide)
            have HR := Lib.hid hR
            clear hφ hR
            match vs, hvl with
            | [v0, v1, v2, v3, v4, v5, v6, v7, v8, v9, v10, v11], _ =>
            simp only [List.getD_cons_zero, List.getD_cons_succ] at q11
            have HR9 := HR
            clear HR
            simp [putAll]
            gi_wp2
            obtain ⟨r1, r2, r3⟩ := HR9.out
            rw [if_pos (show γ 0 = 1 from q11)] at r3
            obtain ⟨b2, b3, b5, hB⟩ := HBR.out
            refine ⟨r2, ?_, ⟨⟨⟨⟨?_, rowW_keep b2 r1 HN8.out.2.2.2.2.1⟩, rowW_keep b3 r1 (fun e => HN8.out.2.2.1 e.symm)⟩, r1.blk HB4.out HLOW.out.2.1⟩, r1.blk b5 HLOW.out.2.2⟩, hB.trans (r1.below hB.size (fun b e => by rw [e]; exact HN8.out.1))⟩
            · have h := kpS_keep (Sf := Sf) r1 (fun b hs => by rw [HSF.out] at hs; exact hs)
              first | exact h | (rw [HSF.out] at h; exact h)
            · rw [HSN.out]
              exact r3
        case done =>
          rintro D ys W hD hys ⟨⟨⟨⟨⟨b1, b2⟩, b3⟩, b4⟩, b5⟩, hB⟩ hK
          rw [hys] at b1
          have c5 := b4.cell 5
          have c6 := b4.cell 6
          have c7 := b4.cell 7
          have d0 := b5.cell 0
          have d1 := b5.cell 1
          have d2 := b5.cell 2
          simp only [List.getElem?_toArray, List.getElem?_cons_zero, List.getElem?_cons_succ] at c5 c6 c7 d0 d1 d2
          have z4 := b4.lt
          have z5 := b5.lt
          have f5 := b5.frozen
          obtain ⟨W', hW'⟩ : ∃ z, z = (((W.setCell ⟨bx + 1, 0, none⟩ (.slice (some ⟨ib, 0, none⟩) g.S ic)).setCell ⟨bx + 1, 1, none⟩ (.slice (some ⟨cb, 0, none⟩) g.S g.S)).setCell ⟨bx + 1, 2, none⟩ (.slice (some ⟨rb, 0, none⟩) g.S g.S)) := ⟨_, rfl⟩
          have hkk : Keep (fun b => b = bx + 1) W W' := by rw [hW']; exact (((Keep.refl (fun b => b = bx + 1) W).setCell rfl _).setCell rfl _).setCell rfl _
          have hrow : Blk W' (bx + 1) 27 #[.slice (some ⟨ib, 0, none⟩) g.S ic, .slice (some ⟨cb, 0, none⟩) g.S g.S, .slice (some ⟨rb, 0, none⟩) g.S g.S] := by
            have h := ((b5.set_ 0 (.slice (some ⟨ib, 0, none⟩) g.S ic)).set_ 1 (.slice (some ⟨cb, 0, none⟩) g.S g.S)).set_ 2 (.slice (some ⟨rb, 0, none⟩) g.S g.S)
            rw [hW']
            simpa using h
          have hD1 : D < W.heap.size := (Array.getElem?_eq_some_iff.1 hK).1
          have hDn : D ≠ bx + 1 := fun e => notcells hK rfl _ _ (e ▸ b5)
          have HKD : Hid (W'.heap[D]? = some (.deferred (some []))) := Lib.hid ((hkk.block D hD1 hDn).trans hK)
          have hg := grownBy_putObj' W' D (.deferred none)
          have hn := notcells HKD.out rfl
          have hib5 : ib ≠ bx + 1 := by have := HN8.out.1; have := HZ.out; have := HNE.out.2.2.1; omega
          have hcb5 : cb ≠ bx + 1 := by have := HNE.out.2.2.2.1; have := HZ.out; omega
          have hrb5 : rb ≠ bx + 1 := by have := HNE.out.2.2.2.2.1; have := HZ.out; omega
          have HFIN : Hid (SRows w1.heap.size (W'.putObj D (.deferred none)) inn (ctL g inn) rnk ib cb rb ∧ Blk (W'.putObj D (.deferred none)) (bx + 1) 27 #[.slice (some ⟨ib, 0, none⟩) g.S ic, .slice (some ⟨cb, 0, none⟩) g.S g.S, .slice (some ⟨rb, 0, none⟩) g.S g.S] ∧ Below w.heap.size w (W'.putObj D (.deferred none))) := Lib.hid
            ⟨⟨(rowW_keep b2 hkk hib5).kept (fun _ cur hb => hb.kept hg (by intro e; cases e; exact hn _ _ hb)), (rowW_keep b1 hkk hcb5).kept (fun _ cur hb => hb.kept hg (by intro e; cases e; exact hn _ _ hb)), (rowW_keep b3 hkk hrb5).kept (fun _ cur hb => hb.kept hg (by intro e; cases e; exact hn _ _ hb)), HNE.out.2.2⟩, Blk.kept hrow hg (by intro e; cases e; exact hn _ _ hrow),
              ((HL.out.trans (hB.mono HL.out.size)).trans (hkk.below (Nat.le_trans HL.out.size hB.size) (fun b e => by rw [e]; have := HZ.out; omega))).trans (belowK_b (w := w) (Nat.le_refl _) W' D _ _ (by have := HL.out.size; omega) HKD.out rfl rfl)⟩
          clear b1 b2 b3 b4 b5 hB hK hys hkk hg hn hD1 hDn hib5 hcb5 hrb5 hrow
          gi_wp2
          rw [← hW']
          refine ⟨by simp, .inl ⟨_, _, rfl, run_takeDeferred HKD.out, ?_⟩⟩
          refine ⟨_, results_cell_row rfl _ _ (bx + 1) 27 _ _ _ rfl HFIN.out.2.1 Try.underlying27 rfl (by kernel_rfl), ?_⟩
          obtain ⟨⟨r1, r2, r3, e1, e2, e3, e4, e5, e6⟩, _, r5⟩ := HFIN.out
          have hz := HL.out.size
          refine ⟨ib, ic, cb, rb, k, rfl, HSV.out, ?_, r5⟩
          rw [← HIT.out.1, ← HIT.out.2]
          exact ⟨r1, r2, r3, by omega, by omega, by omega, e4, e5, e6⟩
        case stop =>
          rintro D c pre W _ _ h _
          exact h.elim
      · have hn1 : ((n : Int) == 0) = false := by rw [beq_eq_false_iff_ne]; omega
        have K2 : Hid (Calls Try.prog 69 #[.agg #[.int .i64 (g.S : Int), .int .i64 (g.C : Int), .int .i64 (g.H : Int), .slice nA nn nc, .slice gA g.S gc, .slice (some ⟨ib, 0, none⟩) g.S ic, .slice (some ⟨cb, 0, none⟩) g.S g.S, .slice (some ⟨rb, 0, none⟩) g.S g.S], .slice A n c, .int .i64 ((k : Int) + 1)] w2 fun e w' => (∃ v, e = .returned v) ∧ Keep (fun b => b = ib ∨ b = rb) w2 w' ∧ RowW w' ib 4 encB (some ⟨ib, 0, none⟩) (outI inn ls) ∧ RowW w' rb 3 encI (some ⟨rb, 0, none⟩) (outR rnk ls ((k : Int) + 1))) := Lib.hid (by
          obtain ⟨l1, l2, l3, l4⟩ := HLS.out
          have ho := HOWN.out
          rw [l2, ← encI_flat] at ho
          obtain ⟨A', c', lb, e2, hw, hb⟩ := RowW.of_own ho
          cases e2
          obtain ⟨s1, s2, s3, s4, s5, s6, s7, s8, s9⟩ := HSR2.out
          obtain ⟨_, k1⟩ := rowW_blk s1 (by rw [l3]; exact hs0)
          obtain ⟨_, k3⟩ := rowW_blk s3 (by rw [l4]; exact hs0)
          obtain ⟨_, j1⟩ := rowW_blk HREL.out.2.2.2.1.1 (by rw [l3]; exact hs0)
          obtain ⟨_, j3⟩ := rowW_blk HREL.out.2.2.2.1.2.2.1 (by rw [l4]; exact hs0)
          have z1 := j1.lt
          have z3 := j3.lt
          have hlb := (hb (by omega)).1
          have h := leaveOut_any nA gA (some ⟨cb, 0, none⟩) A nn nc g.S gc ic g.S g.S g.S c ib rb lb g.S g.C g.H ((k : Int) + 1) inn rnk ls w2 s1 s3 hw s8 (by omega) (by omega) l3 l4 hs1 (by rw [l1]; exact Nat.le_trans (lostL_len g inn) hs1) (fun x hx => lostL_bd (g := g) (inn := inn) (by rw [← l1]; exact hx)) k1.lt k3.lt
          rw [← l2] at h
          exact h)
        have hw4 : IntKind.i64.wrap ((k : Int) + 1 + 1) = (k : Int) + 1 + 1 := IntWalk.i64_in _ (by omega)
        gi_wp2_with fail
        refine ⟨trivial, ?_⟩
        refine (callsIn_wide.2 K2.out).mono ?_
        rintro e w3 ⟨⟨v, rfl⟩, hk3, hI3, hN3⟩
        have H3 := Lib.hid (And.intro hk3 (And.intro hI3 hN3))
        clear hk3 hI3 hN3
        gi_wp2
        go_roundw
        case rel =>
          obtain ⟨hk3, hI3, hN3⟩ := H3.out
          obtain ⟨l1, l2, l3, l4⟩ := HLS.out
          obtain ⟨t1, t2⟩ := HIT.out
          obtain ⟨n1, n2, n3⟩ := HNE.out
          obtain ⟨s1, s2, s3, s4, s5, s6, s7, s8, s9⟩ := HSR2.out
          have hlne : lostL g inn ≠ [] := by
            intro h
            rw [l1, h] at l2
            exact hn0 l2
          have hc := cnt_lost hlne
          have he1 : (itR g (k + 1)).1 = outI inn ls := by rw [l1, t1]; rfl
          have he2 : (itR g (k + 1)).2 = outR rnk ls ((k : Int) + 1) := by rw [l1, t2, t1]; rfl
          refine ⟨k + 1, by push_cast; rfl, Lib.hid ⟨?_, ?_, hk3.blk HBK2.out (fun h => h.elim n1.1 n1.2.2), ?_, HBB2.out.trans (hk3.below HBB2.out.size (fun b h => by rcases h with rfl | rfl <;> assumption))⟩⟩
          · have := HREL.out.1
            rw [he1, l1]
            omega
          · intro j hj
            rcases Nat.lt_succ_iff_lt_or_eq.1 hj with h | h
            · exact HREL.out.2.1 j h
            · rw [h, ← t1]
              exact hlne
          · rw [he1, he2]
            exact ⟨hI3, rowW_keep s2 hk3 (fun h => h.elim (fun e => s9 e.symm) s7), hN3, s4, s5, s6, s7, s8, s9⟩
        case measure =>
          obtain ⟨l1, l2, l3, l4⟩ := HLS.out
          obtain ⟨t1, t2⟩ := HIT.out
          have hlne : lostL g inn ≠ [] := by
            intro h
            rw [l1, h] at l2
            exact hn0 l2
          have hc := cnt_lost hlne
          have he1 : (itR g (k + 1)).1 = outI inn ls := by rw [l1, t1]; rfl
          have e1 : ((intOf (.int .i64 ((k : Int) + 1))).toNat - 1) = k := by simp [intOf]
          have e2 : ((intOf (.int .i64 ((k : Int) + 1 + 1))).toNat - 1) = k + 1 := by simp only [intOf]; omega
          rw [e1, e2, he1, l1, ← t1]
          exact hc
end Go.Proofs.Ytalngalikblgkaa
