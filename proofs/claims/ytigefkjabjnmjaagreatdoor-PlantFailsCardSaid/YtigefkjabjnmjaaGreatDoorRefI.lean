/- The reference's Initial. -/
import Derived.Test.YtigefkjabjnmjaaGreatDoorRefK
import Derived.Test.YtigefkjabjnmjaaGreatDoorFree4
import Derived.Test.YtigefkjabjnmjaaGreatDoorInit
import Derived.Test.YtigefkjabjnmjaaGreatDoorPart
namespace Go.Proofs.YtigefkjabjnmjaaGreatDoor
open Go.RowKit

theorem Row.keptG {T : TypeId} {w w' : World} {base : Nat} {γ γ' : Nat → Nat} {i : Nat} {v : Value} {l : List Value} {row : Option Nat} (h : Row T w base γ i v l) (hi : i ≠ 17) (hg : w.grownBy w' row) (hr : ∀ g, row = some g → γ g = 17)
    (hγ : ∀ g, g < w.heap.size → γ g ≠ 17 → γ' g = γ g) : Row T w' base γ' i v l := by
  refine ⟨h.1.kept hg ?_, fun g e => ⟨(hγ g (h.2 g e).2 (by rw [(h.2 g e).1]; exact hi)).trans (h.2 g e).1, Nat.lt_of_lt_of_le (h.2 g e).2 hg.size⟩⟩
  cases hv : v.ownBlock with
  | none => exact .inl rfl
  | some g =>
    refine .inr fun e => ?_
    have h1 := hr g e.symm
    have h2 := (h.2 g hv).1
    omega
theorem RowsAre.keptG {T : TypeId} {w w' : World} {base : Nat} {γ γ' : Nat → Nat} {row : Option Nat} (hg : w.grownBy w' row) (hr : ∀ g, row = some g → γ g = 17) (hγ : ∀ g, g < w.heap.size → γ g ≠ 17 → γ' g = γ g) :
    ∀ {vs : List Value} {rs : List (Nat × List Value)}, (∀ r ∈ rs, r.1 ≠ 17) → RowsAre T w base γ vs rs → RowsAre T w' base γ' vs rs := by
  intro vs
  induction vs with
  | nil => intro rs _ h; cases rs <;> exact h
  | cons v vs ih =>
    intro rs hn h
    cases rs with
    | nil => exact h
    | cons r rs => exact ⟨h.1.keptG (hn r (by simp)) hg hr hγ, ih (fun r hr => hn r (by simp [hr])) h.2⟩
def sBoxI (s : Stt) : Array Value := #[.slice s.closed.A s.closed.n s.closed.c, .slice s.locked.A s.locked.n s.locked.c, .slice s.badLink.A s.badLink.n s.badLink.c, .slice s.on.A s.on.n s.on.c, .slice s.badSource.A s.badSource.n s.badSource.c, .slice s.earthed.A s.earthed.n s.earthed.c, .slice s.badBus.A s.badBus.n s.badBus.c]
def initAf : List (List Nat) := [[], [0, 0], [], [2, 2], [], [4, 4], [], [6, 6], [], [8, 8], [], [10], [11, 11], [], [13], [14, 14], [1, 3, 5, 7, 9, 12, 15], [], [17, 16, 0, 1, 2, 3, 4, 5, 6, 7, 8, 9, 10, 11, 12, 13, 14, 15, 16, 17]]
def initDs : List (Option Nat) := [some 21, some 22, some 23, some 24, some 25, some 26, some 27, some 28, some 29, some 30, some 31, some 32, some 33, some 34, some 35, some 36, some 37, some 7, none]
def initRows (p : Plt) (B : Nat) : List (Nat × List Value) := [(1, (noB p.ln).map Value.bool), (3, (noB p.ln).map Value.bool), (5, (noB p.ln).map Value.bool), (7, (noB p.sn).map Value.bool), (9, (noB p.sn).map Value.bool), (12, (noB B).map Value.bool), (15, (noB B).map Value.bool)]
/-- What operation i has left. -/
inductive If where
  | is (v : Value)
  | row (l : List Value)
  | agg
def initFs (N : Nat) (p : Plt) (B : Nat) : List If :=
  [.is (.int .i64 p.ln), .row ((noB p.ln).map Value.bool), .is (.int .i64 p.ln), .row ((noB p.ln).map Value.bool), .is (.int .i64 p.ln), .row ((noB p.ln).map Value.bool), .is (.int .i64 p.sn), .row ((noB p.sn).map Value.bool), .is (.int .i64 p.sn), .row ((noB p.sn).map Value.bool),
   .is (.pointer (some ⟨N, 0, none⟩)), .is (.int .i64 B), .row ((noB B).map Value.bool), .is (.pointer (some ⟨N, 0, none⟩)), .is (.int .i64 B), .row ((noB B).map Value.bool), .agg]
def If.ok (p : Plt) (B base i : Nat) (v : Value) (w : World) (γ : Nat → Nat) : If → Prop
  | .is u => v = u
  | .row l => Row 4 w base γ i v l
  | .agg => ∃ vs : List Value, v = .agg vs.toArray ∧ RowsAre 4 w base γ vs (initRows p B)
def Seven (W : World) (g : Nat) : Prop := ∃ c0 c1 c2 c3 c4 c5 c6 : Value, Blk W g 29 #[c0, c1, c2, c3, c4, c5, c6]
def initPhi (N base : Nat) (p : Plt) (B i : Nat) (v : Value) (W : World) (γ : Nat → Nat) : Prop :=
  if i = 17 then ∃ g, v = .pointer (some ⟨g, 0, none⟩) ∧ base ≤ g ∧ γ g = 17 ∧ (∀ g', γ g' = 17 → g' = g) ∧ Seven W g
  else if i = 18 then ∃ (g : Nat) (vs : List Value), γ g = 17 ∧ Blk W g 29 vs.toArray ∧ RowsAre 4 W base γ vs (initRows p B)
  else match (initFs N p B)[i]? with | some f => f.ok p B base i v W γ | none => True
theorem initRows_ne (p : Plt) (B : Nat) : ∀ r ∈ initRows p B, r.1 ≠ 17 := by
  intro r hr
  simp only [initRows, List.mem_cons, List.mem_nil_iff, or_false] at hr
  rcases hr with rfl | rfl | rfl | rfl | rfl | rfl | rfl <;> simp
theorem Seven.kept {W W' : World} {g : Nat} {row : Option Nat} (h : Seven W g) (hg : W.grownBy W' row) (hr : ∀ k, row = some k → Seven W' k) : Seven W' g := by
  by_cases e : row = some g
  · exact hr g e
  · obtain ⟨c0, c1, c2, c3, c4, c5, c6, hb⟩ := h
    exact ⟨c0, c1, c2, c3, c4, c5, c6, (hg.block g (Blk.lt hb) (fun e' => e e'.symm)).trans hb⟩
/-- What is kept by an operation that lays a block, or stores in the block of 17. -/
theorem initPhi_kept {N base : Nat} {p : Plt} {B : Nat} {W W' : World} {γ γ' : Nat → Nat} {row : Option Nat} (hg : W.grownBy W' row) (hr : ∀ g, row = some g → γ g = 17 ∧ Seven W' g) (hγ : ∀ g, g < W.heap.size → γ g ≠ 17 → γ' g = γ g)
    (j : Nat) (u : Value) (hj : j ≠ 18) (h17 : j = 17 → ∀ (g : Nat), γ g = 17 → (∀ g', γ g' = 17 → g' = g) → g < W.heap.size → γ' g = 17 ∧ ∀ g', γ' g' = 17 → g' = g)
    (h : initPhi N base p B j u W γ) : initPhi N base p B j u W' γ' := by
  unfold initPhi at h ⊢
  split at h
  · rename_i e
    rw [if_pos e]
    obtain ⟨g, rfl, hb, h1, h2, h3⟩ := h
    have hlt : g < W.heap.size := by obtain ⟨_, _, _, _, _, _, _, hb⟩ := h3; exact Blk.lt hb
    obtain ⟨q1, q2⟩ := h17 e g h1 h2 hlt
    exact ⟨g, rfl, hb, q1, q2, h3.kept hg (fun k e => (hr k e).2)⟩
  · rename_i e
    rw [if_neg e]
    rw [if_neg hj]
    split
    · rename_i f hf
      rw [hf] at h
      cases f with
      | is v => exact h
      | row l => exact Row.keptG h e hg (fun g e => (hr g e).1) hγ
      | agg =>
        obtain ⟨vs, e1, h1⟩ := h
        exact ⟨vs, e1, h1.keptG hg (fun g e => (hr g e).1) hγ (initRows_ne p B)⟩
    · trivial
structure InitR (w0 : World) (N B : Nat) (w : World) (γ : Nat → Nat) : Prop where
  below : Below w0.heap.size w0 w
  p0 : w.cell? ⟨N, 0, none⟩ = some (.int .i64 B)
  hN : N < w0.heap.size
theorem InitR.alloc {w0 : World} {N B : Nat} {w : World} {γ γ' : Nat → Nat} (h : InitR w0 N B w γ) (o : Obj) : InitR w0 N B (w.alloc o) γ' := by
  have hz := h.below.size
  have hN := h.hN
  exact ⟨h.below.alloc (by omega) _, (World.cell?_alloc_past _ _ _ (show N < w.heap.size by omega)).trans h.p0, h.hN⟩
theorem also_17 {γ : Nat → Nat} {b i g : Nat} (hi : i ≠ 17) (h : also γ b i g = 17) : γ g = 17 ∧ g ≠ b := by
  unfold also at h
  split at h
  · exact absurd h hi
  · exact ⟨h, by assumption⟩
theorem init_made {N base : Nat} {p : Plt} {B : Nat} {W : World} {γ : Nat → Nat} (i : Nat) (hi : i ≠ 17) (h18 : i ∈ initAf.getD 18 []) (o : Obj) : ∀ j u, i ∉ initAf.getD j [] → j ≠ i → initPhi N base p B j u W γ → initPhi N base p B j u (W.alloc o) (also γ W.heap.size i) := by
  intro j u h1 h2 h
  refine initPhi_kept (World.grownBy_alloc _ _ none) (fun g e => by cases e) (fun g hg _ => also_old _ _ _ g hg) j u (by rintro rfl; exact h1 h18) (fun _ g hg hu hlt => ⟨(also_old _ _ _ g hlt).trans hg, fun g' hg' => hu g' (also_17 hi hg').1⟩) h
theorem init_same {N base : Nat} {p : Plt} {B : Nat} {W : World} {γ : Nat → Nat} (i : Nat) : ∀ j u, i ∉ initAf.getD j [] → j ≠ i → initPhi N base p B j u W γ → initPhi N base p B j u W γ := fun _ _ _ _ h => h
def mark17 (γ : Nat → Nat) (b : Nat) : Nat → Nat := fun g => if g = b then 17 else if γ g = 17 then 0 else γ g
theorem init_box {N base : Nat} {p : Plt} {B : Nat} {W : World} {γ : Nat → Nat} (o : Obj) : ∀ j u, 17 ∉ initAf.getD j [] → j ≠ 17 → initPhi N base p B j u W γ → initPhi N base p B j u (W.alloc o) (mark17 γ W.heap.size) := by
  intro j u h1 h2 h
  refine initPhi_kept (World.grownBy_alloc _ _ none) (fun g e => by cases e) (fun g hg hn => ?_) j u (by rintro rfl; exact h1 (by decide)) (fun e => absurd e h2) h
  unfold mark17
  rw [if_neg (by omega), if_neg hn]
theorem mark17_iff {γ : Nat → Nat} {b : Nat} : ∀ g', mark17 γ b g' = 17 → g' = b := by
  intro g' h
  unfold mark17 at h
  split at h
  · assumption
  · split at h
    · omega
    · contradiction

set_option maxRecDepth 100000 in
set_option maxHeartbeats 8000000 in
theorem refInitial_ok (p : Plt) (B : Nat) (w : World) (hp : PltIn w w.heap.size p) (hc : check p = 0) (hB : p.buses = B) (hB24 : B ≤ 24) :
    Calls Tryz.prog 28 #[p.val] w fun e w' => ∃ t : Stt, e = .returned (.tuple #[t.val, .int .i64 0]) ∧ Below w.heap.size w w' ∧ SttOwn w' w.heap.size t ∧ t.cont = initCont p B := by
  have hsm := check_small hc hp
  have HP := Lib.hid hp
  have C := Lib.hid (fun W hp => refCheck_any p W hp)
  rw [hc] at C
  clear hp hc
  have hB0 : Below w.heap.size w ((w.alloc (.cells #[.int .i64 B, .slice p.sA p.sn p.sc, .slice p.lA p.ln p.lc, .slice p.rA p.rn p.rc] 26)).alloc (.cells #[.slice none 0 0, .slice none 0 0, .slice none 0 0, .slice none 0 0, .slice none 0 0, .slice none 0 0, .slice none 0 0] 29)) := by (repeat' (first | (with_reducible exact Below.refl _ _) | (with_reducible assumption) | (with_reducible refine below_drewN ?_ _) | (with_reducible refine below_after (by assumption) ?_ ?_) | (with_reducible refine Below.drew ?_) | (with_reducible refine Below.alloc ?_ ?_ _) | (with_reducible refine Below.setCell ?_ ?_ _) | omega | (simp; omega) | (simp; done)))
  unfold Plt.val at C ⊢
  rw [hB] at C ⊢
  go_enter Tryz.func28, Tryz.ntmps28
  go_wp2_with fail
  refine (C.out _ (HP.out.next hB0)).mono ?_
  rintro e w1 ⟨rfl, hB1⟩
  have hz1 := hB1.size
  simp only [World.size_alloc] at hz1
  have bP : Blk w1 w.heap.size 26 #[.int .i64 B, .slice p.sA p.sn p.sc, .slice p.lA p.ln p.lc, .slice p.rA p.rn p.rc] := ((show Blk _ _ _ _ from heap_alloc_new w _).alloc _).below hB1 (by simp; omega)
  have bO : Blk w1 (w.heap.size + 1) 29 #[.slice none 0 0, .slice none 0 0, .slice none 0 0, .slice none 0 0, .slice none 0 0, .slice none 0 0, .slice none 0 0] := by
    have h := heap_alloc_new (w.alloc (.cells #[.int .i64 B, .slice p.sA p.sn p.sc, .slice p.lA p.ln p.lc, .slice p.rA p.rn p.rc] 26)) (.cells #[.slice none 0 0, .slice none 0 0, .slice none 0 0, .slice none 0 0, .slice none 0 0, .slice none 0 0, .slice none 0 0] 29)
    rw [World.size_alloc] at h
    exact (show Blk _ _ _ _ from h).below hB1 (by simp)
  have p0 : w1.cell? ⟨w.heap.size, 0, none⟩ = some (.int .i64 B) := bP.cell 0
  have p1 : w1.cell? ⟨w.heap.size, 1, none⟩ = some (.slice p.sA p.sn p.sc) := bP.cell 1
  have p2 : w1.cell? ⟨w.heap.size, 2, none⟩ = some (.slice p.lA p.ln p.lc) := bP.cell 2
  have HPB := Lib.hid bP
  have HOB := Lib.hid bO
  have hBw1 : Below w.heap.size w w1 := hB0.trans (hB1.mono (by simp; omega))
  clear bP bO hB1 hB0 C
  go_wp2_with fail
  go_quiet (fail)
  clear p0 p1 p2
  go_wp2_with fail
  refine wp_region_free5 initDs initAf [(1, .pointer (some ⟨w.heap.size, 0, none⟩)), (5, .int .i64 p.ln), (6, .int .i64 p.sn)] (InitR w1 w.heap.size B) (initPhi w.heap.size w1.heap.size p B) (by kernel_rfl) (by kernel_rfl) rfl rfl ?_ ?_ ⟨fun _ => 0, ?_⟩ ?_ ?_
  · intro x hx
    simp only [List.mem_cons, List.mem_nil_iff, or_false] at hx
    rcases hx with rfl | rfl | rfl <;> exact ⟨rfl, rfl⟩
  · intro i v W γ hi h
    rcases Nat.lt_or_ge i 19 with hlt | hge
    · match i, hlt, hi, h with
      | 18, _, _, h => simpa [initPhi] using h
    · rw [List.getElem?_eq_none (by simpa [initDs] using hge)] at hi
      cases hi
  · exact ⟨by (repeat' (first | (with_reducible exact Below.refl _ _) | (with_reducible assumption) | (with_reducible refine below_drewN ?_ _) | (with_reducible refine below_after (by assumption) ?_ ?_) | (with_reducible refine Below.drew ?_) | (with_reducible refine Below.alloc ?_ ?_ _) | (with_reducible refine Below.setCell ?_ ?_ _) | omega | (simp; omega) | (simp; done))), HPB.out.cell 0, by omega⟩
  · refine ⟨?_, ?_, ?_, ?_, ?_, ?_, ?_, ?_, ?_, ?_, ?_, ?_, ?_, ?_, ?_, ?_, ?_, ?_, ?_, trivial⟩
    rotate_right 3
    · -- the literal
      intro a W γ ev hc hf hfx hR hpre K hK
      simp [left, initDs, initPhi, initFs, If.ok] at hpre
      obtain ⟨r0, r1, r2, r3, r4, r5, r6⟩ := hpre
      obtain ⟨A0, n0, c0, e0⟩ := r0.form
      obtain ⟨A1, n1, c1, e1⟩ := r1.form
      obtain ⟨A2, n2, c2, e2⟩ := r2.form
      obtain ⟨A3, n3, c3, e3⟩ := r3.form
      obtain ⟨A4, n4, c4, e4⟩ := r4.form
      obtain ⟨A5, n5, c5, e5⟩ := r5.form
      obtain ⟨A6, n6, c6, e6⟩ := r6.form
      rw [e0] at r0
      rw [e1] at r1
      rw [e2] at r2
      rw [e3] at r3
      rw [e4] at r4
      rw [e5] at r5
      rw [e6] at r6
      have HR : Hid (RowsAre 4 W w1.heap.size γ [.slice A0 n0 c0, .slice A1 n1 c1, .slice A2 n2 c2, .slice A3 n3 c3, .slice A4 n4 c4, .slice A5 n5 c5, .slice A6 n6 c6] (initRows p B)) := ⟨r0, r1, r2, r3, r4, r5, r6, trivial⟩
      clear r0 r1 r2 r3 r4 r5 r6
      go_simp
      refine hK _ _ _ hR (init_same _) ?_
      simp only [initPhi, initFs]
      exact ⟨_, rfl, HR.out⟩
    · -- the box
      intro a W γ ev hc hf hfx hR hpre K hK
      clear hpre
      have hz : w1.heap.size ≤ W.heap.size := hR.below.size
      go_simp
      refine hK _ _ (mark17 γ W.heap.size) (hR.alloc _) (init_box _) ?_
      unfold initPhi
      rw [if_pos rfl]
      exact ⟨W.heap.size, rfl, hz, by simp [mark17], mark17_iff, _, _, _, _, _, _, _, heap_alloc_new W _⟩
    · -- the store
      intro a W γ ev hc hf hfx hR hpre K hK
      have h17 := hpre 17 (by simp)
      have h16 := hpre 16 (by simp)
      unfold initPhi at h16 h17
      rw [if_pos rfl] at h17
      rw [if_neg (by decide), if_neg (by decide)] at h16
      obtain ⟨g, e7, hbg, hg17, hu, c0, c1, c2, c3, c4, c5, c6, hb⟩ := h17
      obtain ⟨vs, e3, hr⟩ := h16
      obtain ⟨t, rfl, -⟩ := rows_stt hr (by decide)
      have S := store7 hb (Value.slice t.closed.A t.closed.n t.closed.c) (Value.slice t.locked.A t.locked.n t.locked.c) (Value.slice t.badLink.A t.badLink.n t.badLink.c) (Value.slice t.on.A t.on.n t.on.c) (Value.slice t.badSource.A t.badSource.n t.badSource.c) (Value.slice t.earthed.A t.earthed.n t.earthed.c) (Value.slice t.badBus.A t.badBus.n t.badBus.c)
      obtain ⟨S1, S2⟩ := S
      have HR := Lib.hid hr
      have HS1 := Lib.hid S1
      have HS2 := Lib.hid S2
      clear hr S1 S2 hpre
      replace e3 : ev (.tmp 37) = .agg #[Value.slice t.closed.A t.closed.n t.closed.c, Value.slice t.locked.A t.locked.n t.locked.c, Value.slice t.badLink.A t.badLink.n t.badLink.c, Value.slice t.on.A t.on.n t.on.c, Value.slice t.badSource.A t.badSource.n t.badSource.c, Value.slice t.earthed.A t.earthed.n t.earthed.c, Value.slice t.badBus.A t.badBus.n t.badBus.c] := e3
      replace e7 : ev (.tmp 7) = .pointer (some ⟨g, 0, none⟩) := e7
      have d0 := hb.cell 0
      have d1 := hb.cell 1
      have d2 := hb.cell 2
      have d3 := hb.cell 3
      have d4 := hb.cell 4
      have d5 := hb.cell 5
      have d6 := hb.cell 6
      simp at d0 d1 d2 d3 d4 d5 d6
      have fz := hb.frozen
      have HB := Lib.hid hb
      have hN := hR.hN
      clear hb
      go_simp
      have hp0 := HS2.out.cell hR.p0 (by intro e; simp at e; omega)
      refine hK undef _ γ ⟨hR.below.grown HS2.out hR.below.size (fun k e => by cases e; exact hbg), hp0, hN⟩ (fun j u h1 h2 h => initPhi_kept HS2.out (fun k e => by cases e; exact ⟨hg17, _, _, _, _, _, _, _, HS1.out⟩) (fun _ _ _ => rfl) j u h2 (fun _ g' h3 h4 _ => ⟨h3, h4⟩) h) ?_
      unfold initPhi
      rw [if_neg (by decide), if_pos rfl]
      exact ⟨g, t.vals, hg17, HS1.out, HR.out.keptG HS2.out (fun k e => by cases e; exact hg17) (fun _ _ _ => rfl) (initRows_ne p B)⟩
    all_goals
      intro a W γ ev hc hf hfx hR hpre K hK
      simp only [List.mem_cons, List.mem_nil_iff, or_false, forall_eq, forall_eq_or_imp] at hfx
      obtain ⟨e1, e5, e6⟩ := hfx
      simp [left, initDs, initPhi, initFs, If.ok] at hpre
      have hp0 := hR.p0
      have m1 := run_makeBools p.ln (by omega) W
      have m2 := run_makeBools p.sn (by omega) W
      have m3 := run_makeBools B (by omega) W
      have hz : w1.heap.size ≤ W.heap.size := hR.below.size
      go_simp
      first
        | exact hK _ _ _ hR (init_same _) (by simp [initPhi, initFs, If.ok])
        | (refine hK _ _ _ (hR.alloc _) (init_made _ (by decide) (by decide) _) ?_
           simp only [initPhi, initFs]
           exact row_made (by omega) hz (also_same _ _ _))
  · intro vs W γ hvl hR hφ
    have q17 := hφ 17 (by decide)
    have q18 := hφ 18 (by decide)
    clear hφ
    match vs, hvl with
    | [v0, v1, v2, v3, v4, v5, v6, v7, v8, v9, v10, v11, v12, v13, v14, v15, v16, v17, v18], _ =>
    unfold initPhi at q17 q18
    rw [if_pos rfl] at q17
    rw [if_neg (by decide), if_pos rfl] at q18
    obtain ⟨g, e7, hbg, hg17, hu, -⟩ := q17
    obtain ⟨g', vs', hg', hb, hr⟩ := q18
    obtain rfl := hu g' hg'
    obtain ⟨t, rfl, l0, l1, l2, l3, l4, l5, l6, ho⟩ := rows_stt hr (by decide)
    replace e7 : v17 = .pointer (some ⟨g', 0, none⟩) := e7
    subst e7
    simp only [initDs, putAll, List.setIfInBounds_toArray, List.set_cons_succ, List.set_cons_zero]
    have hcl : ∀ gc, t.closed.blk = some gc → gc ≠ g' := fun gc e e' => by
      have h := (hr.1.2 gc e).1
      rw [e', hg17] at h
      exact absurd h (by simp)
    have hBW := hR.below
    have HBP := Lib.hid (Blk.below HPB.out hBW (Blk.lt HPB.out))
    have HBO := Lib.hid (Blk.below HOB.out hBW (Blk.lt HOB.out))
    have HBS : Hid (Blk W g' 29 (sBoxI t)) := hb
    have HO : Hid (SttOwn W w1.heap.size { t with closed := { t.closed with l := cablesTo p 0 } }) := by
      show SttOwn _ _ _
      rw [cablesTo_zero, ← l0]
      exact ho
    have HL : Hid (t.locked.l = noB p.ln ∧ t.badLink.l = noB p.ln ∧ t.on.l = noB p.sn ∧ t.badSource.l = noB p.sn ∧ t.earthed.l = noB B ∧ t.badBus.l = noB B) := ⟨l1, l2, l3, l4, l5, l6⟩
    have hsl : t.closed.n = p.ln := by
      have h := (ho.own t.closed (by simp [Stt.lists])).len
      rw [l0] at h
      simpa [noB] using h.symm
    have HSL := Lib.hid hsl
    have hgW : g' < W.heap.size := Blk.lt hb
    have hBwW : Below w.heap.size w W := hBw1.trans (hBW.mono (by omega))
    have hzW := hBW.size
    have hlen := HP.out.lnk.1
    clear hb hr ho l0 l1 l2 l3 l4 l5 l6 hR hu hg' hg17 hBW
    go_wp2
    go_loopw [8] (fun i wr => ∃ k : Nat, k ≤ p.ln ∧ i = .int .i64 k ∧ Below w.heap.size w wr ∧ W.heap.size ≤ wr.heap.size ∧ Blk wr w.heap.size 26 #[.int .i64 B, .slice p.sA p.sn p.sc, .slice p.lA p.ln p.lc, .slice p.rA p.rn p.rc] ∧ Blk wr (w.heap.size + 1) 29 #[.slice none 0 0, .slice none 0 0, .slice none 0 0, .slice none 0 0, .slice none 0 0, .slice none 0 0, .slice none 0 0] ∧ Blk wr g' 29 (sBoxI t) ∧ Hid (SttOwn wr w1.heap.size { t with closed := { t.closed with l := cablesTo p k } })) (fun i _ => p.ln - (intOf i).toNat)
    case atStart => exact ⟨0, by omega, rfl, hBwW, Nat.le_refl _, HBP.out, HBO.out, HBS.out, HO⟩
    case round =>
      obtain ⟨k, hk, rfl, hB, hz, bP, bO, bS, hown⟩ := hrel
      have p0 : wr.cell? ⟨w.heap.size, 2, none⟩ = some (.slice p.lA p.ln p.lc) := bP.cell 2
      obtain ⟨q0, q1, q2, q3, q4, q5, q6⟩ := cells7 bS
      obtain ⟨o0, o1, o2, o3, o4, o5, o6⟩ := cells7 bO
      have fz := bO.frozen
      have BP := Lib.hid bP
      have BO := Lib.hid bO
      have BS := Lib.hid bS
      clear bP bO bS
      by_cases hlt : k < p.ln
      · obtain ⟨b, off, x, e1, hb, hx, hcx⟩ := (HP.out.lnk.below hB).at_ hlt
        obtain ⟨c0, c1, c2, c3, c4, c5⟩ := Lnk.cells hcx
        have hC := hown.out.own { t.closed with l := cablesTo p k } (by simp [Stt.lists])
        obtain ⟨gc, hA, hbgc⟩ : ∃ g, t.closed.A = some ⟨g, 0, none⟩ ∧ w1.heap.size ≤ g := by
          rcases hC.own.2 with ⟨_, h0⟩ | ⟨g, cap, cur, e, hb, _⟩
          · simp only at h0; omega
          · simp only [Value.slice.injEq] at e
            exact ⟨g, e.1, hb⟩
        have hC' := hC.own
        simp only at hC'
        rw [hA] at hC'
        have hnl : (cablesTo p k).length = p.ln := by simp [cablesTo]
        have cg : wr.cell? ⟨gc, k, none⟩ = some (.bool ((cablesTo p k)[k]?.getD false)) := by
          rw [hC'.cellAt k (by omega), List.getElem?_map, List.getElem?_eq_getElem (by omega)]
          rfl
        have fg := hC'.frozenAt k
        have zg : gc < wr.heap.size := (hC'.lt gc rfl).2
        have hne : gc ≠ g' := hcl gc (by unfold Bs.blk; rw [hA]; rfl)
        have hi0 : (0 : Int) ≤ (k : Int) := by omega
        have hin : (k : Int) < (t.closed.n : Int) := by omega
        have hin' : (k : Int) < (p.ln : Int) := by omega
        have S := lists_stored hown.out.own hown.out.apart (j := 0) (b := { t.closed with l := cablesTo p k }) rfl hA k (isCable p k)
        have hkind : Hid (decide (x.kind = 1) = isCable p k) := by unfold isCable; rw [hx]; rfl
        have S' : Hid (SttOwn (wr.setCell ⟨gc, k, none⟩ (.bool (isCable p k))) w1.heap.size { t with closed := { t.closed with l := cablesTo p (k + 1) } }) := by
          have h : SttOwn (wr.setCell ⟨gc, k, none⟩ (.bool (isCable p k))) w1.heap.size { t with closed := { t.closed with l := (cablesTo p k).set k (isCable p k) } } := ⟨S.1, S.2⟩
          rw [cablesTo_succ] at h
          exact h
        rw [hA] at q0
        rw [e1] at p0
        have HA := Lib.hid hA
        have HE1 := Lib.hid e1
        clear hC hC' S hcx hx hA e1
        by_cases hkd : x.kind = 1
        · have hic : isCable p k = true := by rw [← hkind.out]; simp [hkd]
          rw [hic] at S'
          clear hic hkind
          go_wp2
          go_roundw
          case rel => exact ⟨k + 1, by omega, by go_num, by (repeat' (first | (with_reducible exact Below.refl _ _) | (with_reducible assumption) | (with_reducible refine below_drewN ?_ _) | (with_reducible refine below_after (by assumption) ?_ ?_) | (with_reducible refine Below.drew ?_) | (with_reducible refine Below.alloc ?_ ?_ _) | (with_reducible refine Below.setCell ?_ ?_ _) | omega | (simp; omega) | (simp; done))), by simp; omega, BP.out.far (by simp; omega) _, BO.out.far (by simp; omega) _, BS.out.far (by simpa using hne.symm) _, S'⟩
          case measure => simp [intOf]; omega
        · have hic : isCable p k = false := by rw [← hkind.out]; simp [hkd]
          have hsame : cablesTo p (k + 1) = cablesTo p k := by
            rw [← cablesTo_succ, hic]
            apply List.ext_getElem
            · simp
            · intro i h1 h2
              rw [List.getElem_set]
              split
              · rename_i h; subst h; simp [cablesTo]
              · rfl
          have hown' : Hid (SttOwn wr w1.heap.size { t with closed := { t.closed with l := cablesTo p (k + 1) } }) := by rw [hsame]; exact hown
          clear hic hkind S' hsame hown
          go_wp2
          go_roundw
          case rel => exact ⟨k + 1, by omega, by go_num, by (repeat' (first | (with_reducible exact Below.refl _ _) | (with_reducible assumption) | (with_reducible refine below_drewN ?_ _) | (with_reducible refine below_after (by assumption) ?_ ?_) | (with_reducible refine Below.drew ?_) | (with_reducible refine Below.alloc ?_ ?_ _) | (with_reducible refine Below.setCell ?_ ?_ _) | omega | (simp; omega) | (simp; done))), hz, BP.out, BO.out, BS.out, hown'⟩
          case measure => simp [intOf]; omega
      · obtain rfl : k = p.ln := by omega
        have z1 : w.heap.size + 1 < wr.heap.size := by omega
        have z2 : g' < wr.heap.size := by omega
        (repeat' (first | go_values | go_skip | go_guarded | go_step | go_upon))
        refine bodyPost_ret (v := .tuple #[Stt.val { t with closed := { t.closed with l := cablesTo p p.ln } }, .int .i64 0]) ?_ rfl ⟨_, rfl, by (repeat' (first | (with_reducible exact Below.refl _ _) | (with_reducible assumption) | (with_reducible refine below_drewN ?_ _) | (with_reducible refine below_after (by assumption) ?_ ?_) | (with_reducible refine Below.drew ?_) | (with_reducible refine Below.alloc ?_ ?_ _) | (with_reducible refine Below.setCell ?_ ?_ _) | omega | (simp; omega) | (simp; done))), ?_, ?_⟩
        · simp [results, Tryz.results28, go_sem, Stt.val, o0, o1, o2, o3, o4, o5, o6, z1]
          exact HSL.out.symm
        · refine SttOwn.mono_base (((((((hown.out.below ?_ _).below ?_ _).below ?_ _).below ?_ _).below ?_ _).below ?_ _).below ?_ _) ?_ <;> omega
        · obtain ⟨l1, l2, l3, l4, l5, l6⟩ := HL.out
          simp only [Stt.cont, Stt.lists, List.map_cons, List.map_nil, initCont, l1, l2, l3, l4, l5, l6]
end Go.Proofs.YtigefkjabjnmjaaGreatDoor
