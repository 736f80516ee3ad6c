/- slices.Clone at []bool; plant.twin: an equal state in memory of its own. -/
import Derived.Test.YtcnmfblbfpcghaaGreatDoorBlank
import Derived.Laws.AppendOwnNone
import Derived.Lib.LazyBuf

set_option linter.unusedSimpArgs false
set_option linter.unusedVariables false
namespace Go.Proofs.YtcnmfblbfpcghaaGreatDoor
open Go.RowKit

theorem Bs.blk_val (b : Bs) : b.val.ownBlock = b.blk := rfl
set_option maxRecDepth 100000 in
set_option maxHeartbeats 1000000 in
theorem clone_any (b : Bs) (w : World) (hb : BsIn w w.heap.size b) (hn : b.n ≤ 140737488351232) :
    Calls Tryz.prog 130 #[.slice b.A b.n b.c] w fun e w' => ∃ b' : Bs, e = .returned (.slice b'.A b'.n b'.c) ∧ b'.l = b.l ∧ BsOwn w' w.heap.size b' ∧ Below w.heap.size w w' := by
  obtain ⟨A, n, c, l⟩ := b
  obtain ⟨hr, hm⟩ := hb
  have hlen := hr.1
  have hN := fun (W : World) => Lib.run_eql_slice_nil (P := Tryz.prog) W 27 4 A n c 0 0 Tryz.underlying27
  obtain ⟨i0, hi, hz0, hz1, hz2⟩ := info_parts boolInfo
  cases A with
  | none =>
    have hn0 : n = 0 := by
      rcases Nat.eq_zero_or_pos n with h | h
      · exact h
      · obtain ⟨_, _, e, _⟩ := hr.2 h
        cases e
    simp only at hlen hn
    subst hn0
    have hl0 : l = [] := List.eq_nil_of_length_eq_zero hlen
    clear hr hm hlen hn hi hz0 hz1 hz2
    simp only [Option.isNone_none] at hN
    go_enter Tryz.func130, Tryz.ntmps130
    go_wp2
    go_ret
    exact ⟨⟨none, 0, 0, []⟩, rfl, hl0.symm, ⟨⟨by simp, .inl ⟨rfl, rfl⟩⟩, rfl⟩, Below.refl _ _⟩
  | some ad =>
    simp only [Option.isNone_some] at hN
    simp only at hlen hn hr hm
    have hnews : Hid (∀ W, Below w.heap.size w W → ∀ j u, (l.map Value.bool)[j]? = some u → W.cell? (ad.add j) = some u) := by
      intro W hW j u hu
      replace hr := hr.below hW
      rw [List.getElem?_map] at hu
      obtain ⟨x, hx, rfl⟩ := Option.map_eq_some_iff.1 hu
      have hj := (List.getElem?_eq_some_iff.1 hx).1
      obtain ⟨b, off, e, hb, hc⟩ := hr.2 (by omega)
      cases e
      have := hc j x hx 0 _ rfl
      unfold Addr.add
      split
      · rename_i h0; subst h0; simpa using this
      · simpa using this
    clear hr
    go_enter Tryz.func130, Tryz.ntmps130
    go_wp2_with (at_builtin; refine wpList_append_own_at _ rfl (.tmp 5) (.tmp 6) 27 rfl w.heap.size 4 i0 (.bool false) 1 1 Tryz.underlying27 hi hz0 hz1 hz2 rfl (by decide) (.slice (some ⟨w.heap.size, 0, none⟩) 0 0) 0 [] rfl (World.ownsRow_made w #[] 0 (Nat.le_refl _) (by simp [maxLen]) (by simp)) ad n c (l.map Value.bool) rfl ?_ (hnews.out _ (by (repeat' (first | (with_reducible exact Below.refl _ _) | (with_reducible assumption) | (with_reducible refine below_drewN ?_ _) | (with_reducible refine below_after (by assumption) ?_ ?_) | (with_reducible refine Below.drew ?_) | (with_reducible refine Below.alloc ?_ ?_ _) | (with_reducible refine Below.setCell ?_ ?_ _) | omega | (simp; omega) | (simp; done))))) ?_ ?_ ?_ ?_ ?_)
    case _ => simp [hlen]
    case _ =>
      intro u hu
      obtain ⟨x, _, rfl⟩ := List.mem_map.1 hu
      rfl
    case _ => simp only [maxLen]; omega
    case _ => omega
    case _ => simp
    intro v' w1 hown hg _ hat
    have hB : Below w.heap.size w w1 := Below.grown (w := w.alloc (.cells #[] 4)) (by (repeat' (first | (with_reducible exact Below.refl _ _) | (with_reducible assumption) | (with_reducible refine below_drewN ?_ _) | (with_reducible refine below_after (by assumption) ?_ ?_) | (with_reducible refine Below.drew ?_) | (with_reducible refine Below.alloc ?_ ?_ _) | (with_reducible refine Below.setCell ?_ ?_ _) | omega | (simp; omega) | (simp; done)))) hg (by simp) (fun k e => by simp [Value.ownBlock] at e; omega)
    obtain ⟨A', c', rfl⟩ : ∃ A' c', v' = .slice A' n c' := by
      rcases hown.2 with ⟨e, h0⟩ | ⟨g, cap, cur, e, _⟩
      · exact ⟨none, 0, by rw [e, h0]⟩
      · exact ⟨_, _, e⟩
    have HO := Lib.hid hown
    clear hown hat hg
    go_wp2
    go_ret
    exact ⟨⟨A', n, c', l⟩, rfl, rfl, ⟨HO.out, hlen⟩, hB⟩

theorem grown_of_below {w w' : World} (h : Below w.heap.size w w') : w.grownBy w' none := ⟨h.os, h.tape, h.output, h.size, fun k hk _ => h.block k hk⟩
/-- γ with all the blocks from n on. -/
def alsoN (γ : Nat → Nat) (n i : Nat) : Nat → Nat := fun g => if g < n then γ g else i
theorem alsoN_old (γ : Nat → Nat) (n i : Nat) : ∀ g, g < n → alsoN γ n i g = γ g := fun g h => by simp [alsoN, h]
theorem row_clone {w w' : World} {base i : Nat} {γ : Nat → Nat} {b' : Bs} {m : List Bool} (h : BsOwn w' w.heap.size b') (hl : b'.l = m) (hb : base ≤ w.heap.size) : Row 4 w' base (alsoN γ w.heap.size i) i (.slice b'.A b'.n b'.c) (m.map Value.bool) := by
  subst hl
  refine ⟨?_, fun g e => ?_⟩
  · rw [List.length_map, h.len]
    exact h.own.mono_base hb
  · obtain ⟨h1, h2⟩ := h.own.lt g e
    exact ⟨by simp [alsoN]; omega, h2⟩
def twinDs : List (Option Nat) := [some 3, some 4, some 5, some 6, some 7, some 8, some 9, some 10, some 11, some 12, some 13, some 14, some 15, some 16, some 17, some 18, some 19, some 20, some 21, some 22, some 23, some 24, none]
def twinRows (s : Stt) : List (Nat × List Value) := [(2, s.closed.l.map Value.bool), (5, s.locked.l.map Value.bool), (8, s.badLink.l.map Value.bool), (11, s.on.l.map Value.bool), (14, s.badSource.l.map Value.bool), (17, s.earthed.l.map Value.bool), (20, s.badBus.l.map Value.bool)]
def twinF (N i : Nat) (b : Bs) : List Lf := [.is (.pointer (some ⟨N, i, none⟩)), .is (.slice b.A b.n b.c), .row 4 (b.l.map Value.bool)]
def twinFs (N : Nat) (s : Stt) : List Lf :=
  [.is (.pointer (some ⟨N, 0, none⟩)), .is (.slice s.closed.A s.closed.n s.closed.c), .row 4 (s.closed.l.map Value.bool), .is (.pointer (some ⟨N, 1, none⟩)), .is (.slice s.locked.A s.locked.n s.locked.c), .row 4 (s.locked.l.map Value.bool),
   .is (.pointer (some ⟨N, 2, none⟩)), .is (.slice s.badLink.A s.badLink.n s.badLink.c), .row 4 (s.badLink.l.map Value.bool), .is (.pointer (some ⟨N, 3, none⟩)), .is (.slice s.on.A s.on.n s.on.c), .row 4 (s.on.l.map Value.bool),
   .is (.pointer (some ⟨N, 4, none⟩)), .is (.slice s.badSource.A s.badSource.n s.badSource.c), .row 4 (s.badSource.l.map Value.bool), .is (.pointer (some ⟨N, 5, none⟩)), .is (.slice s.earthed.A s.earthed.n s.earthed.c), .row 4 (s.earthed.l.map Value.bool),
   .is (.pointer (some ⟨N, 6, none⟩)), .is (.slice s.badBus.A s.badBus.n s.badBus.c), .row 4 (s.badBus.l.map Value.bool), .agg 4 (twinRows s), .cells (N + 1) 4 29 (twinRows s)]
/-- Between the operations of twin's literal. -/
structure TwinR (w0 : World) (s : Stt) (w : World) (γ : Nat → Nat) : Prop where
  below : Below w0.heap.size w0 w
  size : w0.heap.size + 2 ≤ w.heap.size
  has : Has w (sttCells w0.heap.size s)
  out : ∃ c0 c1 c2 c3 c4 c5 c6 : Value, w.heap[w0.heap.size + 1]? = some (.cells #[c0, c1, c2, c3, c4, c5, c6] 29 (0, 0))
theorem TwinR.next {w0 : World} {s : Stt} {w w' : World} {γ γ' : Nat → Nat} (h : TwinR w0 s w γ) (hb : Below w.heap.size w w') : TwinR w0 s w' γ' := by
  obtain ⟨h1, h2, h3, c0, c1, c2, c3, c4, c5, c6, h6⟩ := h
  exact ⟨h1.trans (hb.mono h1.size), Nat.le_trans h2 hb.size, h3.next hb, c0, c1, c2, c3, c4, c5, c6, (hb.block _ (by omega)).trans h6⟩
theorem TwinR.store {w0 : World} {s : Stt} {w w' : World} {γ : Nat → Nat} (h : TwinR w0 s w γ) (hg : w.grownBy w' (some (w0.heap.size + 1))) {c0 c1 c2 c3 c4 c5 c6 : Value} (hb : Blk w' (w0.heap.size + 1) 29 #[c0, c1, c2, c3, c4, c5, c6]) : TwinR w0 s w' γ := by
  obtain ⟨h1, h2, h3, -⟩ := h
  refine ⟨h1.grown hg (by omega) (fun k e => by cases e; omega), Nat.le_trans h2 hg.size, fun x hx => ?_, c0, c1, c2, c3, c4, c5, c6, hb⟩
  obtain ⟨a, b⟩ := h3 x hx
  refine ⟨Nat.lt_of_lt_of_le a hg.size, hg.cell b ?_⟩
  have : x.1 = w0.heap.size := by
    simp only [sttCells, bsCell, List.mem_cons, List.mem_nil_iff, or_false] at hx
    rcases hx with rfl | rfl | rfl | rfl | rfl | rfl | rfl <;> rfl
  simp [this]
/-- Small enough to be copied. -/
def SttFit (s : Stt) : Prop := ∀ b ∈ s.lists, b.n ≤ 140737488351232
set_option maxRecDepth 100000 in
set_option maxHeartbeats 4000000 in
theorem twin_any (s : Stt) (w : World) (hs : SttIn w w.heap.size s) (hf : SttFit s) :
    Calls Tryz.prog 98 #[s.val] w fun e w' => ∃ t : Stt, e = .returned t.val ∧ Below w.heap.size w w' ∧ SttOwn w' w.heap.size t ∧ t.closed.l = s.closed.l ∧ t.locked.l = s.locked.l ∧ t.badLink.l = s.badLink.l ∧ t.on.l = s.on.l ∧ t.badSource.l = s.badSource.l ∧ t.earthed.l = s.earthed.l ∧ t.badBus.l = s.badBus.l := by
  have HS := Lib.hid hs
  have HF := Lib.hid hf
  clear hs hf
  unfold Stt.val
  go_enter Tryz.func98, Tryz.ntmps98
  go_wp2
  refine wp_region_free twinDs [(1, .pointer (some ⟨w.heap.size, 0, none⟩)), (2, .pointer (some ⟨w.heap.size + 1, 0, none⟩))] (TwinR w s) (lfs (w.heap.size + 2) (twinFs w.heap.size s)) (by kernel_rfl) (by kernel_rfl) rfl ?_ ?_ ⟨fun _ => 0, ?_⟩ ?_ ?_
  · intro x hx
    simp only [List.mem_cons, List.mem_nil_iff, or_false] at hx
    rcases hx with rfl | rfl <;> exact ⟨rfl, rfl⟩
  · intro i v W γ hi h
    rcases Nat.lt_or_ge i 23 with hlt | hge
    · match i, hlt, hi, h with
      | 22, _, _, h => exact h
    · unfold lfs
      rw [List.getElem?_eq_none (by simpa [twinFs] using hge)]
      trivial
  · refine ⟨(Below.refl _ _).alloc (Nat.le_refl _) _ |>.alloc (by simp) _ |>.drew, by simp, ?_, .slice none 0 0, .slice none 0 0, .slice none 0 0, .slice none 0 0, .slice none 0 0, .slice none 0 0, .slice none 0 0, ?_⟩
    · unfold sttCells bsCell
      repeat' (first | exact Has.nil _ | refine Has.cons ?_ ?_ ?_)
      all_goals (first | (simp; done) | (simp; omega) | (simp [go_sem]; done))
    · have h := heap_alloc_new (w.alloc (.cells #[.slice s.closed.A s.closed.n s.closed.c, .slice s.locked.A s.locked.n s.locked.c, .slice s.badLink.A s.badLink.n s.badLink.c, .slice s.on.A s.on.n s.on.c, .slice s.badSource.A s.badSource.n s.badSource.c, .slice s.earthed.A s.earthed.n s.earthed.c, .slice s.badBus.A s.badBus.n s.badBus.c] 29)) (.cells #[.slice none 0 0, .slice none 0 0, .slice none 0 0, .slice none 0 0, .slice none 0 0, .slice none 0 0, .slice none 0 0] 29)
      rw [World.size_alloc] at h
      exact h
  · refine ⟨?_, ?_, ?_, ?_, ?_, ?_, ?_, ?_, ?_, ?_, ?_, ?_, ?_, ?_, ?_, ?_, ?_, ?_, ?_, ?_, ?_, ?_, ?_, trivial⟩
    rotate_right 2
    · -- the literal
      intro a W γ ev hc hf hfx hR hpre K hK
      simp [left, twinDs, lfs, twinFs, Lf.ok] at hpre
      obtain ⟨r0, r1, r2, r3, r4, r5, r6⟩ := hpre
      obtain ⟨A0, n0, c0, e0⟩ := r0.form
      obtain ⟨A1, n1, c1, e1⟩ := r1.form
      obtain ⟨A2, n2, c2, e2⟩ := r2.form
      obtain ⟨A3, n3, c3, e3⟩ := r3.form
      obtain ⟨A4, n4, c4, e4⟩ := r4.form
      obtain ⟨A5, n5, c5, e5⟩ := r5.form
      obtain ⟨A6, n6, c6, e6⟩ := r6.form
      rw [e0] at r0
      rw [e1] at r1
      rw [e2] at r2
      rw [e3] at r3
      rw [e4] at r4
      rw [e5] at r5
      rw [e6] at r6
      have HR : Hid (RowsAre 4 W (w.heap.size + 2) γ [.slice A0 n0 c0, .slice A1 n1 c1, .slice A2 n2 c2, .slice A3 n3 c3, .slice A4 n4 c4, .slice A5 n5 c5, .slice A6 n6 c6] (twinRows s)) := ⟨r0, r1, r2, r3, r4, r5, r6, trivial⟩
      clear r0 r1 r2 r3 r4 r5 r6
      go_simp
      exact hK _ _ _ hR (fun _ _ h => h) ⟨_, rfl, HR.out⟩
    · -- the store
      intro a W γ ev hc hf hfx hR hpre K hK
      simp only [List.mem_cons, List.mem_nil_iff, or_false, forall_eq, forall_eq_or_imp] at hfx
      obtain ⟨e1, e2⟩ := hfx
      have hpre := hpre 21 (by simp)
      obtain ⟨vs, e3, hr⟩ := hpre
      replace e3 : ev (.tmp 24) = .agg vs.toArray := e3
      obtain ⟨t, rfl, -⟩ := rows_stt hr (by decide)
      obtain ⟨c0, c1, c2, c3, c4, c5, c6, hb⟩ := hR.out
      have hb : Blk W _ _ _ := hb
      have S := store7 hb (Value.slice t.closed.A t.closed.n t.closed.c) (Value.slice t.locked.A t.locked.n t.locked.c) (Value.slice t.badLink.A t.badLink.n t.badLink.c) (Value.slice t.on.A t.on.n t.on.c) (Value.slice t.badSource.A t.badSource.n t.badSource.c) (Value.slice t.earthed.A t.earthed.n t.earthed.c) (Value.slice t.badBus.A t.badBus.n t.badBus.c)
      obtain ⟨S1, S2⟩ := S
      have HR := Lib.hid hr
      have HS1 := Lib.hid S1
      have HS2 := Lib.hid S2
      clear hr S1 S2
      replace e3 : ev (.tmp 24) = .agg #[Value.slice t.closed.A t.closed.n t.closed.c, Value.slice t.locked.A t.locked.n t.locked.c, Value.slice t.badLink.A t.badLink.n t.badLink.c, Value.slice t.on.A t.on.n t.on.c, Value.slice t.badSource.A t.badSource.n t.badSource.c, Value.slice t.earthed.A t.earthed.n t.earthed.c, Value.slice t.badBus.A t.badBus.n t.badBus.c] := e3
      have d0 := hb.cell 0
      have d1 := hb.cell 1
      have d2 := hb.cell 2
      have d3 := hb.cell 3
      have d4 := hb.cell 4
      have d5 := hb.cell 5
      have d6 := hb.cell 6
      simp at d0 d1 d2 d3 d4 d5 d6
      have fz := hb.frozen
      have HB := Lib.hid hb
      clear hb
      go_simp
      have HRr := (HR.out.kept HS2.out (fun k e => by cases e; omega) (fun _ _ => rfl) : RowsAre _ _ _ γ _ _)
      refine hK undef _ γ (hR.store HS2.out HS1.out) (lfs_store HS2.out (by omega) ?_) ⟨_, HS1.out, HRr⟩
      intro k T T' rs hmem
      simp [twinFs] at hmem
      obtain ⟨rfl, rfl, rfl, rfl⟩ := hmem
      exact ⟨_, HS1.out, HRr⟩
    all_goals
      intro a W γ ev hc hf hfx hR hpre K hK
      simp only [List.mem_cons, List.mem_nil_iff, or_false, forall_eq, forall_eq_or_imp] at hfx
      obtain ⟨e1, e2⟩ := hfx
      simp [left, twinDs, lfs, twinFs, Lf.ok] at hpre
      have hS := hR.has
      unfold sttCells bsCell at hS
      obtain ⟨-, s0, hS⟩ := hS.head
      obtain ⟨-, s1, hS⟩ := hS.head
      obtain ⟨-, s2, hS⟩ := hS.head
      obtain ⟨-, s3, hS⟩ := hS.head
      obtain ⟨-, s4, hS⟩ := hS.head
      obtain ⟨-, s5, hS⟩ := hS.head
      obtain ⟨-, s6, hS⟩ := hS.head
      clear hS
      have hz := hR.size
      have I := HS.out
      have hb := hR.below
      have C0 := Lib.hid (clone_any s.closed W ((I.closed.below hb).more hb.size) (HF.out _ (by simp [Stt.lists])))
      have C1 := Lib.hid (clone_any s.locked W ((I.locked.below hb).more hb.size) (HF.out _ (by simp [Stt.lists])))
      have C2 := Lib.hid (clone_any s.badLink W ((I.badLink.below hb).more hb.size) (HF.out _ (by simp [Stt.lists])))
      have C3 := Lib.hid (clone_any s.on W ((I.on.below hb).more hb.size) (HF.out _ (by simp [Stt.lists])))
      have C4 := Lib.hid (clone_any s.badSource W ((I.badSource.below hb).more hb.size) (HF.out _ (by simp [Stt.lists])))
      have C5 := Lib.hid (clone_any s.earthed W ((I.earthed.below hb).more hb.size) (HF.out _ (by simp [Stt.lists])))
      have C6 := Lib.hid (clone_any s.badBus W ((I.badBus.below hb).more hb.size) (HF.out _ (by simp [Stt.lists])))
      clear I hb
      go_simp
      first
        | exact hK _ _ _ hR (fun _ _ h => h) rfl
        | ((first | (with_reducible refine C0.out.mono ?_) | (with_reducible refine C1.out.mono ?_) | (with_reducible refine C2.out.mono ?_) | (with_reducible refine C3.out.mono ?_) | (with_reducible refine C4.out.mono ?_) | (with_reducible refine C5.out.mono ?_) | (with_reducible refine C6.out.mono ?_))
           rintro e w' ⟨b', rfl, hl, ho, hB⟩
           exact hK _ w' (alsoN γ W.heap.size _) (hR.next hB) (lfs_kept (grown_of_below hB) (alsoN_old _ _ _)) (row_clone ho hl hz))
  · intro a' w' γ h1 h2 h3 h4 h5
    obtain ⟨vs, hb, hr⟩ := h5 22 (by decide)
    obtain ⟨t, rfl, l0, l1, l2, l3, l4, l5, l6, ho⟩ := rows_stt hr (by decide)
    have e2 : a'.tmps[2]?.getD undef = .pointer (some ⟨w.heap.size + 1, 0, none⟩) := by simpa using h3 (2, .pointer (some ⟨w.heap.size + 1, 0, none⟩)) (by simp)
    have hb : Blk w' (w.heap.size + 1) 29 #[.slice t.closed.A t.closed.n t.closed.c, .slice t.locked.A t.locked.n t.locked.c, .slice t.badLink.A t.badLink.n t.badLink.c, .slice t.on.A t.on.n t.on.c, .slice t.badSource.A t.badSource.n t.badSource.c, .slice t.earthed.A t.earthed.n t.earthed.c, .slice t.badBus.A t.badBus.n t.badBus.c] := hb
    have d0 := hb.cell 0
    have d1 := hb.cell 1
    have d2 := hb.cell 2
    have d3 := hb.cell 3
    have d4 := hb.cell 4
    have d5 := hb.cell 5
    have d6 := hb.cell 6
    simp at d0 d1 d2 d3 d4 d5 d6
    clear hb hr h5 h3
    go_wp2
    refine bodyPost_ret (v := t.val) ?_ h1 ⟨t, rfl, h4.below, ⟨fun b hb => ⟨(ho.own b hb).own.mono_base (by omega), (ho.own b hb).len⟩, ho.apart⟩, l0, l1, l2, l3, l4, l5, l6⟩
    simp [results, Tryz.results98, go_sem, e2, d0, d1, d2, d3, d4, d5, d6, Stt.val]
end Go.Proofs.YtcnmfblbfpcghaaGreatDoor
