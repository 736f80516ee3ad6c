/- plant.rows, plant.Show. -/
import Derived.Test.YtcnmfblbfpcghaaGreatDoorFmtB
import Derived.Test.YtcnmfblbfpcghaaGreatDoorCutP
import Derived.Test.YtcnmfblbfpcghaaGreatDoorState2
import Derived.Test.YtcnmfblbfpcghaaGreatDoorRdrN
import Derived.Test.YtcnmfblbfpcghaaGreatDoorPart
import Derived.StillTailTactics
import Derived.Test.YtcnmfblbfpcghaaGreatDoorBig

set_option linter.unusedSimpArgs false
set_option linter.unusedVariables false
namespace Go.Proofs.YtcnmfblbfpcghaaGreatDoor
open Go.RowKit Go.Shelf

/-- The rows of a state's text. -/
def stRows (s : Stt) : List (List UInt8 × Bs) := [(wOn, s.on), (wBadSource, s.badSource), (wClosed, s.closed), (wLocked, s.locked), (wBadLink, s.badLink), (wEarthed, s.earthed), (wBadBus, s.badBus)]
def encRw (x : List UInt8 × Bs) : List Value := [.string (ba x.1), .slice x.2.A x.2.n x.2.c]
def showL (s : Stt) : List UInt8 := rowsL ((stRows s).map fun x => (x.1, x.2.l))
theorem rowsL_snoc : ∀ (l : List (List UInt8 × List Bool)) (x : List UInt8 × List Bool), rowsL (l ++ [x]) = rowsL l ++ rowL x.1 x.2 := by
  intro l
  induction l with
  | nil => intro x; simp [rowsL]
  | cons y l ih => intro x; rw [List.cons_append, rowsL, rowsL, ih, List.append_assoc]
set_option maxRecDepth 100000 in
set_option maxHeartbeats 4000000 in
theorem rows_any (s : Stt) (w : World) :
    Calls Tryz.prog 59 #[s.val] w fun e w' => ∃ g, e = .returned (.slice (some ⟨g, 0, none⟩) 7 7) ∧ Below w.heap.size w w' ∧ w.heap.size ≤ g ∧ Rd w' w'.heap.size 2 encRw (some ⟨g, 0, none⟩) 7 (stRows s) ∧ Blk w' g 121 ((stRows s).flatMap encRw).toArray := by
  unfold Stt.val
  go_enter Tryz.func59, Tryz.ntmps59
  go_wp2
  have hb : Below w.heap.size w ((w.alloc (.cells #[.slice s.closed.A s.closed.n s.closed.c, .slice s.locked.A s.locked.n s.locked.c, .slice s.badLink.A s.badLink.n s.badLink.c, .slice s.on.A s.on.n s.on.c, .slice s.badSource.A s.badSource.n s.badSource.c, .slice s.earthed.A s.earthed.n s.earthed.c, .slice s.badBus.A s.badBus.n s.badBus.c] 29)).alloc (.cells ((stRows s).flatMap encRw).toArray 121)) := by (repeat' (first | (with_reducible exact Below.refl _ _) | (with_reducible assumption) | (with_reducible refine below_drewN ?_ _) | (with_reducible refine below_after (by assumption) ?_ ?_) | (with_reducible refine Below.drew ?_) | (with_reducible refine Below.alloc ?_ ?_ _) | (with_reducible refine Below.setCell ?_ ?_ _) | omega | (simp; omega) | (simp; done)))
  obtain ⟨W0, hW0⟩ : ∃ z, z = w.alloc (.cells #[.slice s.closed.A s.closed.n s.closed.c, .slice s.locked.A s.locked.n s.locked.c, .slice s.badLink.A s.badLink.n s.badLink.c, .slice s.on.A s.on.n s.on.c, .slice s.badSource.A s.badSource.n s.badSource.c, .slice s.earthed.A s.earthed.n s.earthed.c, .slice s.badBus.A s.badBus.n s.badBus.c] 29) := ⟨_, rfl⟩
  have hr := (Rd.lit W0 121 encRw 2 (stRows s) (fun _ _ => rfl)).more (B' := (W0.alloc (.cells ((stRows s).flatMap encRw).toArray 121)).heap.size) (by simp)
  have hbk := heap_alloc_new W0 (.cells ((stRows s).flatMap encRw).toArray 121)
  have hg : W0.heap.size = w.heap.size + 1 := by rw [hW0]; simp
  rw [hg] at hr hbk
  rw [hW0] at hr hbk
  exact bodyPost_ret (results_tmp rfl _ _ _) rfl ⟨w.heap.size + 1, rfl, hb, by omega, hr, hbk⟩
theorem wstr_any (B b : Nat) (l x : List UInt8) (w : World) (h : Bld B b l w) (hl : l.length + x.length ≤ 1000000) (hB : B ≤ w.heap.size) :
    Calls Tryz.prog 47 #[.pointer (some ⟨b, 0, none⟩), .string (ba x)] w fun e w' => (∃ v, e = .returned v) ∧ Bld B b (l ++ x) w' ∧ Below B w w' ∧ Lib.OthersKept 5 (some b) w w' := by
  refine (Any.Builder_WriteString_k lays166 Builder_Extra_156 B b _ (ba x) w h (by rw [Lib.byteCells_length, ba_size]; omega) hB).mono ?_
  rintro e w2 ⟨rfl, hb2, hB2, ho2⟩
  refine ⟨⟨_, rfl⟩, ?_, hB2, ho2⟩
  unfold Bld
  rw [Lib.byteCells_append]
  exact .inr hb2
theorem wbyte_any (B b : Nat) (l : List UInt8) (c : UInt8) (n : Int) (hn : n = (c.toNat : Int)) (w : World) (h : Bld B b l w) (hl : l.length ≤ 900000) (hB : B ≤ w.heap.size) :
    Calls Tryz.prog 49 #[.pointer (some ⟨b, 0, none⟩), .int .u8 n] w fun e w' => (∃ v, e = .returned v) ∧ Bld B b (l ++ [c]) w' ∧ Below B w w' ∧ Lib.OthersKept 5 (some b) w w' := by
  subst hn
  refine (Any.Builder_WriteByte_k lays167 Builder_Extra_167 B b _ (c.toNat : Int) w h (by rw [Lib.byteCells_length]; omega) hB).mono ?_
  rintro e w2 ⟨rfl, hb2, hB2, ho2⟩
  refine ⟨⟨_, rfl⟩, ?_, hB2, ho2⟩
  unfold Bld
  rw [Lib.byteCells_append]
  exact .inr hb2
theorem Blk.rd {α : Type} {W : World} {g size : Nat} {T : TypeId} {f : α → List Value} {l : List α} (h : Blk W g T (l.flatMap f).toArray) (hf : ∀ x ∈ l, (f x).length = size) : Rd W W.heap.size size f (some ⟨g, 0, none⟩) l.length l := by
  refine ⟨rfl, fun _ => ⟨g, 0, rfl, h.lt, fun i x hx j u hu => ?_⟩⟩
  rw [cell_of_row _ _ _ _ _ _ h, Nat.zero_add]
  simpa using flatMap_get l hf i x hx j u hu
theorem stRows_in {w : World} {B : Nat} {s : Stt} (h : SttIn w B s) : ∀ x ∈ stRows s, BsIn w B x.2 := by
  intro x hx
  simp only [stRows, List.mem_cons, List.mem_nil_iff, or_false] at hx
  rcases hx with rfl | rfl | rfl | rfl | rfl | rfl | rfl
  · exact h.on
  · exact h.badSource
  · exact h.closed
  · exact h.locked
  · exact h.badLink
  · exact h.earthed
  · exact h.badBus
theorem stRows_small {p : Plt} {s : Stt} {w : World} {B : Nat} (hp : PltIn w B p) (h : checkState p s = 0) : ∀ x ∈ stRows s, x.1.length ≤ 20 ∧ x.2.n ≤ 64 := by
  unfold checkState at h
  split at h
  · rename_i hc
    obtain ⟨h1, h2, h3⟩ := check_small hc hp
    have hb : p.buses ≤ 24 := by
      unfold check at hc
      split at hc
      · rename_i hb
        have hbb : 1 ≤ p.buses ∧ p.buses ≤ 24 := by simpa [within] using hb
        omega
      · cases hc
    split at h
    · rename_i ho
      unfold stateOk at ho
      simp only [Bool.and_eq_true] at ho
      obtain ⟨⟨⟨o1, o2⟩, o3⟩, _⟩ := ho
      simp [linkLists] at o1
      simp [sourceLists] at o2
      simp [busLists] at o3
      intro x hx
      simp only [stRows, List.mem_cons, List.mem_nil_iff, or_false] at hx
      rcases hx with rfl | rfl | rfl | rfl | rfl | rfl | rfl
      all_goals exact ⟨by simp [wOn, wBadSource, wClosed, wLocked, wBadLink, wEarthed, wBadBus], by dsimp only; omega⟩
    · cases h
  · rename_i hc
    exact absurd h hc
structure ShwW (w : World) (gB gR : Nat) (s : Stt) (l : List UInt8) (W : World) : Prop where
  low : Below w.heap.size w W
  bld : Bld w.heap.size gB l W
  rows : Blk W gR 121 ((stRows s).flatMap encRw).toArray
theorem ShwW.next {w : World} {gB gR : Nat} {s : Stt} {l : List UInt8} {W W' : World} (h : ShwW w gB gR s l W) (hb : Below W.heap.size W W') : ShwW w gB gR s l W' :=
  ⟨h.low.trans (hb.mono h.low.size), h.bld.below hb, h.rows.below hb h.rows.lt⟩
theorem ShwW.put {w : World} {gB gR : Nat} {s : Stt} {l l' : List UInt8} {W W' : World} (h : ShwW w gB gR s l W) (hn : gR ≠ gB) (hb : Bld w.heap.size gB l' W') (hl : Below w.heap.size W W') (ho : Lib.OthersKept 5 (some gB) W W') : ShwW w gB gR s l' W' :=
  ⟨h.low.trans hl, hb, blk_others h.rows ho (by decide) hn⟩
theorem ShwW.rd {w : World} {gB gR : Nat} {s : Stt} {l : List UInt8} {W : World} (h : ShwW w gB gR s l W) : Rd W W.heap.size 2 encRw (some ⟨gR, 0, none⟩) 7 (stRows s) := h.rows.rd (fun _ _ => rfl)
set_option maxRecDepth 100000 in
set_option maxHeartbeats 4000000 in
theorem show_any (p : Plt) (s : Stt) (w : World) (hp : PltIn w w.heap.size p) (hs : SttIn w w.heap.size s) :
    Calls Tryz.prog 21 #[p.val, s.val] w fun e w' => e = .returned (.tuple #[.string (ba (if checkState p s = 0 then showL s else [])), .int .i64 (checkState p s)]) ∧ Below w.heap.size w w' := by
  have HP := Lib.hid hp
  have HS := Lib.hid hs
  have C := Lib.hid (fun W hp hs => checkState_any p s W hp hs)
  have RW := Lib.hid (fun W => rows_any s W)
  by_cases hc : checkState p s = 0
  · have HSM := Lib.hid (stRows_small hp hc)
    rw [if_pos hc]
    rw [hc] at C ⊢
    clear hp hs hc
    unfold Plt.val Stt.val at C ⊢
    unfold Stt.val at RW
    go_enter Tryz.func21, Tryz.ntmps21
    go_wp2_with fail
    refine (C.out _ (HP.out.next (by (repeat' (first | (with_reducible exact Below.refl _ _) | (with_reducible assumption) | (with_reducible refine below_drewN ?_ _) | (with_reducible refine below_after (by assumption) ?_ ?_) | (with_reducible refine Below.drew ?_) | (with_reducible refine Below.alloc ?_ ?_ _) | (with_reducible refine Below.setCell ?_ ?_ _) | omega | (simp; omega) | (simp; done))))) (HS.out.next (by (repeat' (first | (with_reducible exact Below.refl _ _) | (with_reducible assumption) | (with_reducible refine below_drewN ?_ _) | (with_reducible refine below_after (by assumption) ?_ ?_) | (with_reducible refine Below.drew ?_) | (with_reducible refine Below.alloc ?_ ?_ _) | (with_reducible refine Below.setCell ?_ ?_ _) | omega | (simp; omega) | (simp; done)))))).mono ?_
    rintro e w1 ⟨rfl, hB1⟩
    have hL1 : Hid (Below w.heap.size w w1) := Lib.hid (by (repeat' (first | (with_reducible exact Below.refl _ _) | (with_reducible assumption) | (with_reducible refine below_drewN ?_ _) | (with_reducible refine below_after (by assumption) ?_ ?_) | (with_reducible refine Below.drew ?_) | (with_reducible refine Below.alloc ?_ ?_ _) | (with_reducible refine Below.setCell ?_ ?_ _) | omega | (simp; omega) | (simp; done))))
    obtain ⟨hc1, hf1⟩ := bcell hB1
    have hz1 := hB1.size
    simp only [World.size_alloc] at hz1
    have y0 : w.heap.size + 1 < w1.heap.size := by omega
    clear hB1
    go_wp2_with fail
    obtain ⟨wa, hwa⟩ : ∃ wa, w1.alloc (.cells #[.pointer none, .slice none 0 0] 95) = wa := ⟨_, rfl⟩
    have hL2 : Hid (Below w.heap.size w wa ∧ Bld w.heap.size w1.heap.size [] wa) := by
      rw [← hwa]
      exact Lib.hid ⟨hL1.out.alloc hL1.out.size _, bld_new w1 w.heap.size hL1.out.size⟩
    have hza : Hid (wa.heap.size = w1.heap.size + 1) := by rw [← hwa]; exact Lib.hid (by simp)
    rw [hwa]
    clear hwa hc1 hf1
    refine (RW.out wa).mono ?_
    rintro e w2 ⟨gR, rfl, hB2, hgR, _, hbk⟩
    have HW0 : Hid (ShwW w w1.heap.size gR s [] w2 ∧ gR ≠ w1.heap.size ∧ w.heap.size ≤ w1.heap.size) := Lib.hid ⟨⟨hL2.out.1.trans (hB2.mono hL2.out.1.size), hL2.out.2.below hB2, hbk⟩, by have := hza.out; omega, hL1.out.size⟩
    clear hB2 hgR hbk
    obtain ⟨gB, hgB⟩ : ∃ z, z = w1.heap.size := ⟨_, rfl⟩
    rw [← hgB] at HW0 hz1 ⊢
    obtain ⟨A, hA⟩ : ∃ z, z = (some ⟨gR, 0, none⟩ : Option Addr) := ⟨_, rfl⟩
    rw [← hA]
    have HA := Lib.hid hA
    have HG := Lib.hid hgB
    clear hL1 hL2 hza RW C y0 hA hgB
    have hzB := HW0.out.1.bld.lt
    go_wp2_with fail
    go_loopw [21] (fun i wr => ∃ k : Nat, k ≤ 7 ∧ i = .int .i64 k ∧ gB < wr.heap.size ∧ Hid (ShwW w gB gR s (rowsL (((stRows s).take k).map fun x => (x.1, x.2.l))) wr) ∧ (rowsL (((stRows s).take k).map fun x => (x.1, x.2.l))).length ≤ 100 * k) (fun i _ => 7 - (intOf i).toNat)
    case atStart => exact ⟨0, by omega, rfl, by omega, by simpa [rowsL] using Lib.hid HW0.out.1, by simp [rowsL]⟩
    case round =>
    obtain ⟨k, hk, rfl, hz', hE, hln⟩ := hrel
    obtain ⟨l, hl⟩ : ∃ l, rowsL (((stRows s).take k).map fun x => (x.1, x.2.l)) = l := ⟨_, rfl⟩
    rw [hl] at hE hln
    have HLL := Lib.hid hl
    clear hl
    obtain ⟨wr1, ewr⟩ : ∃ x, x = wr := ⟨wr, rfl⟩
    subst ewr
    by_cases hlt : k < 7
    · have hrd := hE.out.rd
      rw [← HA.out] at hrd
      obtain ⟨b, off, x, e1, hb, hx, hcx⟩ := hrd.at_ hlt
      have d0 : wr1.cell? ⟨b, off + k * 2, none⟩ = some (.string (ba x.1)) := hcx 0 _ rfl
      have d1 : wr1.cell? ⟨b, off + k * 2 + 1, none⟩ = some (.slice x.2.A x.2.n x.2.c) := hcx 1 _ rfl
      have hxs := HSM.out x (List.mem_of_getElem? hx)
      have HX := Lib.hid (And.intro hx (stRows_in HS.out x (List.mem_of_getElem? hx)))
      have hk0 : (0 : Int) ≤ (k : Int) := by omega
      have hkn : (k : Int) < 7 := by omega
      rw [e1]
      clear hx hcx hrd
      have hbb := hE.out.bld.lt
      go_wp2_with fail
      have HW1 : Hid (ShwW w gB gR s l (wr1.alloc (.cells #[.string (ba x.1), .slice x.2.A x.2.n x.2.c] 121))) := Lib.hid (hE.out.next ((Below.refl _ _).alloc (Nat.le_refl _) _))
      refine (wstr_any w.heap.size gB l x.1 _ HW1.out.bld (by omega) HW1.out.low.size).mono ?_
      rintro e w3 ⟨⟨v3, rfl⟩, hb3, hB3, ho3⟩
      have HW3 : Hid (ShwW w gB gR s (l ++ x.1) w3 ∧ Blk w3 wr1.heap.size 121 #[.string (ba x.1), .slice x.2.A x.2.n x.2.c]) := Lib.hid ⟨HW1.out.put HW0.out.2.1 hb3 hB3 ho3, blk_others (heap_alloc_new wr1 _) ho3 (by decide) (by omega)⟩
      clear hb3 hB3 ho3 d0 d1
      go_wp2_with fail
      refine (wbyte_any w.heap.size gB (l ++ x.1) 32 32 rfl _ HW3.out.1.bld (by rw [List.length_append]; omega) HW3.out.1.low.size).mono ?_
      rintro e w4 ⟨⟨v4, rfl⟩, hb4, hB4, ho4⟩
      have HW4 : Hid (ShwW w gB gR s (l ++ x.1 ++ [32]) w4 ∧ Blk w4 wr1.heap.size 121 #[.string (ba x.1), .slice x.2.A x.2.n x.2.c]) := Lib.hid ⟨HW3.out.1.put HW0.out.2.1 hb4 hB4 ho4, blk_others HW3.out.2 ho4 (by decide) (by omega)⟩
      have d1 : w4.cell? ⟨wr1.heap.size, 1, none⟩ = some (.slice x.2.A x.2.n x.2.c) := HW4.out.2.cell 1
      have hz4 := HW4.out.1.bld.lt
      clear hb4 hB4 ho4
      have HLX : Hid ((l ++ x.1 ++ [32]).length ≤ 100 * k + 21) := Lib.hid (by simp only [List.length_append, List.length_cons, List.length_nil]; omega)
      obtain ⟨l4, hl4⟩ : ∃ z, z = l ++ x.1 ++ [32] := ⟨_, rfl⟩
      rw [← hl4] at HW4 HLX
      have HL4 := Lib.hid hl4
      clear hl4
      go_wp2
      clear d1
      go_loopw [32] (fun i wr => ∃ j : Nat, j ≤ x.2.n ∧ i = .int .i64 j ∧ gB < wr.heap.size ∧ Hid (ShwW w gB gR s (l4 ++ (x.2.l.take j).map bitL) wr)) (fun i _ => x.2.n - (intOf i).toNat)
      case atStart => exact ⟨0, by omega, rfl, by omega, by simpa using Lib.hid HW4.out.1⟩
      case round =>
      obtain ⟨j, hj, rfl, hzq, hEq⟩ := hrel
      have hj0 : (0 : Int) ≤ (j : Int) := by omega
      have hl2 := HX.out.2.1.1
      have HB : Hid (l4.length + ((x.2.l.take j).map bitL).length ≤ 900000) := Lib.hid (by have := HLX.out; simp only [List.length_map, List.length_take]; omega)
      obtain ⟨m, hm⟩ : ∃ z, z = l4 ++ (x.2.l.take j).map bitL := ⟨_, rfl⟩
      have hmB : m.length ≤ 900000 := by rw [hm, List.length_append]; exact HB.out
      rw [← hm] at hEq
      have HM := Lib.hid hm
      clear hm
      by_cases hjlt : j < x.2.n
      · obtain ⟨b2, off2, f, e2, hb2, hf, hcf⟩ := (HX.out.2.1.below hEq.out.low).at_ hjlt
        have d2 : wr.cell? ⟨b2, off2 + j, none⟩ = some (.bool f) := by have := hcf 0 _ rfl; simpa using this
        have hjn : (j : Int) < (x.2.n : Int) := by omega
        have HF := Lib.hid hf
        rw [e2]
        clear hcf hf
        cases f
        · go_wp2_with fail
          refine (wbyte_any w.heap.size gB m 48 48 rfl _ hEq.out.bld hmB hEq.out.low.size).mono ?_
          rintro e w5 ⟨⟨v5, rfl⟩, hb5, hB5, ho5⟩
          have HW5 : Hid (ShwW w gB gR s (m ++ [48]) w5) := Lib.hid (hEq.out.put HW0.out.2.1 hb5 hB5 ho5)
          have hz5 := HW5.out.bld.lt
          clear hb5 hB5 ho5 d2
          go_wp2
          go_roundw
          case rel =>
            refine ⟨j + 1, by omega, by go_num, by omega, ?_⟩
            rw [List.take_add_one, HF.out]
            have h := HW5
            rw [HM.out] at h
            simpa [bitL] using h
          case measure => simp [intOf]; omega
        · go_wp2_with fail
          refine (wbyte_any w.heap.size gB m 49 49 rfl _ hEq.out.bld hmB hEq.out.low.size).mono ?_
          rintro e w5 ⟨⟨v5, rfl⟩, hb5, hB5, ho5⟩
          have HW5 : Hid (ShwW w gB gR s (m ++ [49]) w5) := Lib.hid (hEq.out.put HW0.out.2.1 hb5 hB5 ho5)
          have hz5 := HW5.out.bld.lt
          clear hb5 hB5 ho5 d2
          go_wp2
          go_roundw
          case rel =>
            refine ⟨j + 1, by omega, by go_num, by omega, ?_⟩
            rw [List.take_add_one, HF.out]
            have h := HW5
            rw [HM.out] at h
            simpa [bitL] using h
          case measure => simp [intOf]; omega
      · obtain rfl : x.2.n = j := by omega
        have htk : x.2.l.take x.2.n = x.2.l := by rw [← hl2]; exact List.take_length
        have hzw := hEq.out.bld.lt
        go_wp2_with fail
        refine (wbyte_any w.heap.size gB m 10 10 rfl _ hEq.out.bld hmB hEq.out.low.size).mono ?_
        rintro e w5 ⟨⟨v5, rfl⟩, hb5, hB5, ho5⟩
        have HW5 : Hid (ShwW w gB gR s (m ++ [10]) w5) := Lib.hid (hEq.out.put HW0.out.2.1 hb5 hB5 ho5)
        have hz5 := HW5.out.bld.lt
        have hm2 : m ++ [10] = l ++ rowL x.1 x.2.l := by rw [HM.out, htk, HL4.out]; simp [rowL]
        have hm3 : (l ++ rowL x.1 x.2.l).length ≤ 100 * k + 100 := by
          have h1 := HLX.out
          rw [← hm2, HM.out, htk]
          simp only [List.length_append, List.length_map, List.length_cons, List.length_nil]
          omega
        have HM3 := Lib.hid (And.intro hm2 hm3)
        clear hb5 hB5 ho5 hm2 hm3 htk
        go_wp2
        go_roundw
        case rel =>
          have e3 : rowsL (((stRows s).take (k + 1)).map fun x => (x.1, x.2.l)) = l ++ rowL x.1 x.2.l := by
            rw [List.take_add_one, HX.out.1, Option.toList_some, List.map_append, List.map_cons, List.map_nil, rowsL_snoc, HLL.out]
          refine ⟨k + 1, by omega, by go_num, by omega, ?_⟩
          rw [e3]
          have h := HW5
          rw [HM3.out.1] at h
          exact ⟨h, by have := HM3.out.2; omega⟩
        case measure => simp [intOf]; omega
    · obtain rfl : k = 7 := by omega
      have e0 : l = showL s := by rw [← HLL.out]; rfl
      rw [e0] at hE
      have HSB := Lib.hid (Any.Builder_String_any_k lays169 Builder_Extra_169 w.heap.size gB (showL s) wr1 hE.out.bld hE.out.low.size)
      clear e0
      go_wp2_with fail
      refine HSB.out.mono ?_
      rintro e W5 ⟨rfl, _, hB5, _⟩
      go_wp2
      exact bodyPost_ret (results_tmp2 rfl _ _ _) rfl ⟨rfl, hE.out.low.trans hB5⟩
  · have HC := Lib.hid hc
    have hcq : (checkState p s == 0) = false := beq_eq_false_iff_ne.2 hc
    rw [if_neg hc]
    obtain ⟨c, hcc⟩ : ∃ z, z = checkState p s := ⟨_, rfl⟩
    rw [← hcc] at C hcq ⊢
    clear hp hs hc hcc
    unfold Plt.val Stt.val at C ⊢
    go_enter Tryz.func21, Tryz.ntmps21
    go_wp2_with fail
    refine (C.out _ (HP.out.next (by (repeat' (first | (with_reducible exact Below.refl _ _) | (with_reducible assumption) | (with_reducible refine below_drewN ?_ _) | (with_reducible refine below_after (by assumption) ?_ ?_) | (with_reducible refine Below.drew ?_) | (with_reducible refine Below.alloc ?_ ?_ _) | (with_reducible refine Below.setCell ?_ ?_ _) | omega | (simp; omega) | (simp; done))))) (HS.out.next (by (repeat' (first | (with_reducible exact Below.refl _ _) | (with_reducible assumption) | (with_reducible refine below_drewN ?_ _) | (with_reducible refine below_after (by assumption) ?_ ?_) | (with_reducible refine Below.drew ?_) | (with_reducible refine Below.alloc ?_ ?_ _) | (with_reducible refine Below.setCell ?_ ?_ _) | omega | (simp; omega) | (simp; done)))))).mono ?_
    rintro e w1 ⟨rfl, hB1⟩
    have hL1 : Hid (Below w.heap.size w w1) := Lib.hid (by (repeat' (first | (with_reducible exact Below.refl _ _) | (with_reducible assumption) | (with_reducible refine below_drewN ?_ _) | (with_reducible refine below_after (by assumption) ?_ ?_) | (with_reducible refine Below.drew ?_) | (with_reducible refine Below.alloc ?_ ?_ _) | (with_reducible refine Below.setCell ?_ ?_ _) | omega | (simp; omega) | (simp; done))))
    clear hB1
    go_wp2
    exact bodyPost_ret (results_tmp2 rfl _ _ _) rfl ⟨rfl, hL1.out⟩
end Go.Proofs.YtcnmfblbfpcghaaGreatDoor

/- (plant.row).read. -/

set_option linter.unusedSimpArgs false
set_option linter.unusedVariables false
namespace Go.Proofs.YtcnmfblbfpcghaaGreatDoor
open Go.RowKit Go.Shelf

def Bs.with_ (b : Bs) (m : List Bool) : Bs := { b with l := m }
/-- What row.read leaves. -/
def RowEnd (W : World) (base : Nat) (b : Bs) (e : Ending) : Option (List Bool × List UInt8) → Prop
  | some (m, rest) => e = .returned (.string (ba rest)) ∧ BsOwn W base (b.with_ m)
  | none => e = formP
theorem cutp_any (x wd : List UInt8) (w : World) : Calls Tryz.prog 116 #[.string (ba x), .string (ba wd ++ ⟨#[32]⟩)] w fun e w' => e = .returned (.tuple #[.string (ba (Lib.trimPrefix x (wd ++ [32]))), .bool (Lib.hasPrefix x (wd ++ [32]))]) ∧ w = w' := by
  have h : (ba wd ++ ⟨#[32]⟩ : ByteArray) = ba (wd ++ [32]) := ba_app wd [32]
  rw [h]
  exact (strings_CutPrefix (ba x) (ba (wd ++ [32])) w).mono fun _ _ h => ⟨h.1, h.2.symm⟩
theorem BsOwn.grown {w w' : World} {base : Nat} {b : Bs} {row : Option Nat} (h : BsOwn w base b) (hg : w.grownBy w' row) (hr : b.blk = none ∨ b.blk ≠ row) : BsOwn w' base b :=
  ⟨h.own.kept hg hr, h.len⟩
theorem BsOwn.blk_lt {w : World} {base : Nat} {b : Bs} (h : BsOwn w base b) {g : Nat} (hg : b.blk = some g) : base ≤ g ∧ g < w.heap.size ∧ b.A = some ⟨g, 0, none⟩ := by
  rcases h.own.2 with ⟨e, _⟩ | ⟨g', cap, cur, e, h1, h2, _⟩
  · simp only [Value.slice.injEq] at e
    unfold Bs.blk at hg
    rw [e.1] at hg
    simp [Value.ownBlock] at hg
  · simp only [Value.slice.injEq] at e
    unfold Bs.blk at hg
    rw [e.1] at hg
    simp [Value.ownBlock] at hg
    subst hg
    exact ⟨h1, (Array.getElem?_eq_some_iff.1 h2).1, e.1⟩
theorem BsOwn.at_ {w : World} {base : Nat} {b : Bs} (h : BsOwn w base b) {j : Nat} (hj : j < b.n) : ∃ g v, b.A = some ⟨g, 0, none⟩ ∧ b.blk = some g ∧ base ≤ g ∧ g < w.heap.size ∧ w.cell? ⟨g, j, none⟩ = some (.bool v) ∧ w.frozen? ⟨g, j, none⟩ = false := by
  rcases h.own.2 with ⟨e, h0⟩ | ⟨g', cap, cur, e, h1, h2, h3, h4, h5, h6⟩
  · omega
  · simp only [Value.slice.injEq] at e
    have hl := h.len
    have h7 := h.own
    rw [e.1] at h7
    refine ⟨g', b.l[j], e.1, by unfold Bs.blk; rw [e.1]; rfl, h1, (Array.getElem?_eq_some_iff.1 h2).1, ?_, Blk.frozen (show Blk w g' _ cur from h2) j⟩
    exact row_cell h7 (k := j) (u := .bool b.l[j]) (by rw [List.getElem?_map, List.getElem?_eq_getElem (by omega)]; rfl)
theorem BsOwn.put {w : World} {base : Nat} {b : Bs} {m : List Bool} (h : BsOwn w base (b.with_ m)) {g : Nat} (hA : b.A = some ⟨g, 0, none⟩) (j : Nat) (u : Bool) : BsOwn (w.setCell ⟨g, j, none⟩ (.bool u)) base (b.with_ (m.set j u)) ∧ w.grownBy (w.setCell ⟨g, j, none⟩ (.bool u)) (some g) := by
  have h2 : w.ownsRow base 4 1 (.slice b.A b.n b.c) b.n (m.map Value.bool) := h.own
  rw [hA] at h2
  have h3 := h2.stored j (.bool u)
  refine ⟨⟨?_, ?_⟩, h3.2⟩
  · show World.ownsRow _ _ _ _ (.slice b.A b.n b.c) b.n ((m.set j u).map Value.bool)
    rw [hA, List.map_set]
    exact h3.1
  · have := h.len
    simpa [Bs.with_] using this
theorem drop_flags {n j : Nat} {m : List Bool} {x : Bool} (D : List UInt8) (hm : m.length = n) (hj : j < n) (hD : D.length = n) (hx : ∃ c, D[j]? = some c ∧ x = (c == 49)) : ((D.take j).map (fun b => b == 49) ++ m.drop j).set j x = (D.take (j + 1)).map (fun b => b == 49) ++ m.drop (j + 1) := by
  obtain ⟨c, hc, rfl⟩ := hx
  have hl : ((D.take j).map (fun b => b == 49)).length = j := by simp; omega
  rw [List.set_append_right _ _ (by omega), hl, Nat.sub_self, List.take_add_one, hc, Option.toList_some, List.map_append, List.append_assoc]
  congr 1
  rw [List.drop_eq_getElem_cons (by omega : j < m.length), List.set_cons_zero]
  rfl
theorem rowStep {w wr : World} {b : Bs} {base j g : Nat} {wd D : List UInt8} {c : UInt8} {x : Bool} (h1 : w.grownBy wr b.blk) (h2 : Blk wr w.heap.size 121 #[.string (ba wd), .slice b.A b.n b.c]) (h3 : BsOwn wr base (b.with_ ((D.take j).map (fun b => b == 49) ++ b.l.drop j))) (h4 : (D.take j).all (fun b => b == 48 || b == 49) = true)
    (hbl : b.l.length = b.n) (hD : D.length = b.n) (hj : j < b.n) (hA : b.A = some ⟨g, 0, none⟩) (hbk : b.blk = some g) (hne : w.heap.size ≠ g) (hc : D[j]? = some c) (hx : x = (c == 49)) (hbit : (c == 48 || c == 49) = true := by rfl) :
    w.grownBy (wr.drew.setCell ⟨g, j, none⟩ (.bool x)) b.blk ∧ Blk (wr.drew.setCell ⟨g, j, none⟩ (.bool x)) w.heap.size 121 #[.string (ba wd), .slice b.A b.n b.c] ∧ BsOwn (wr.drew.setCell ⟨g, j, none⟩ (.bool x)) base (b.with_ ((D.take (j + 1)).map (fun b => b == 49) ++ b.l.drop (j + 1))) ∧ (D.take (j + 1)).all (fun b => b == 48 || b == 49) = true := by
  have h5 := (show BsOwn wr.drew base (b.with_ _) from ⟨h3.own.drew, h3.len⟩).put hA j x
  have h6 : w.grownBy wr.drew (some g) := by
    rw [hbk] at h1
    exact ⟨h1.os, h1.tape, h1.output, h1.size, h1.block⟩
  refine ⟨hbk ▸ h6.trans h5.2, ?_, ?_, ?_⟩
  · exact Blk.kept (show Blk wr.drew _ _ _ from h2) h5.2 (fun e => hne (Option.some.inj e))
  · rw [← drop_flags D hbl hj hD ⟨c, hc, hx⟩]
    exact h5.1
  · rw [List.take_add_one, hc, Option.toList_some, List.all_append, h4]
    simpa using hbit
set_option maxRecDepth 100000 in
set_option maxHeartbeats 4000000 in
theorem rowRead_any (wd : List UInt8) (b : Bs) (t : List UInt8) (base : Nat) (w : World) (hb : BsOwn w base b) (hT : Tabs w) (ht : t.length ≤ 200000) (hn : b.n ≤ 1000) (hwl : wd.length ≤ 100) :
    Calls Tryz.prog 70 #[.agg #[.string (ba wd), .slice b.A b.n b.c], .string (ba t)] w fun e w' => w.grownBy w' b.blk ∧ RowEnd w' base b e (rowR wd b.n t) := by
  have HB := Lib.hid hb
  have HT := Lib.hid hT
  have CU := Lib.hid (fun W hT => cut_any 10 t W hT ht)
  have CP := Lib.hid (fun x W => cutp_any x wd W)
  have MY := Lib.hid must_yes
  have MN := Lib.hid must_no
  obtain ⟨ln, hln⟩ : ∃ z, z = (cutC 10 t).1 := ⟨_, rfl⟩
  obtain ⟨rest, hrest⟩ : ∃ z, z = (cutC 10 t).2.1 := ⟨_, rfl⟩
  obtain ⟨en, hen⟩ : ∃ z, z = (cutC 10 t).2.2 := ⟨_, rfl⟩
  obtain ⟨D, hD⟩ : ∃ z, z = Lib.trimPrefix ln (wd ++ [32]) := ⟨_, rfl⟩
  obtain ⟨nm, hnm⟩ : ∃ z, z = Lib.hasPrefix ln (wd ++ [32]) := ⟨_, rfl⟩
  have CP1 := Lib.hid (CP.out ln)
  rw [← hln, ← hrest, ← hen] at CU
  rw [← hD, ← hnm] at CP1
  have key : Hid (rowR wd b.n t = if en = true ∧ nm = true ∧ D.length = b.n ∧ D.all (fun b => b == 48 || b == 49) = true then some (D.map (fun b => b == 49), rest) else none) := by
    refine Lib.hid ?_
    unfold rowR
    rw [← hln, ← hrest, ← hen]
    by_cases h1 : nm = true
    · have h2 : D = ln.drop (wd.length + 1) := by
        rw [hD]
        unfold Lib.trimPrefix
        rw [← hnm, if_pos h1]
        simp
      have h3 : (wd ++ [32]).isPrefixOf ln = true := by rw [← h1, hnm]; rfl
      rw [h2, h1, h3]
    · have h3 : ¬ (wd ++ [32]).isPrefixOf ln = true := by intro h; exact h1 (by rw [hnm]; exact h)
      rw [if_neg (fun h => h3 h.2.1), if_neg (fun h => h1 h.2.1)]
  clear hb hT CP hln hrest hen hD hnm
  go_enter Tryz.func70, Tryz.ntmps70
  go_wp2_with fail
  obtain ⟨wa, hwa⟩ : ∃ z, w.alloc (.cells #[.string (ba wd), .slice b.A b.n b.c] 121) = z := ⟨_, rfl⟩
  have hBa : Hid (Below w.heap.size w wa ∧ Blk wa w.heap.size 121 #[.string (ba wd), .slice b.A b.n b.c]) := by
    rw [← hwa]
    exact Lib.hid ⟨(Below.refl _ _).alloc (Nat.le_refl _) _, heap_alloc_new w _⟩
  rw [hwa]
  clear hwa
  refine (CU.out wa (HT.out.next hBa.out.1)).mono ?_
  rintro e w1 ⟨rfl, hB1⟩
  have H1 : Hid (Below w.heap.size w w1 ∧ Blk w1 w.heap.size 121 #[.string (ba wd), .slice b.A b.n b.c]) := Lib.hid ⟨hBa.out.1.trans (hB1.mono hBa.out.1.size), hBa.out.2.below hB1 hBa.out.2.lt⟩
  have c0 := H1.out.2.cell 0
  have c1 := H1.out.2.cell 1
  have hz1 := H1.out.2.lt
  clear hB1 hBa
  have hsz : (ba wd).size ≤ 100 := by rw [ba_size]; exact hwl
  go_wp2_with fail
  refine (CP1.out _).mono ?_
  rintro e w2 ⟨rfl, rfl⟩
  have HG : Hid (w.grownBy w1 b.blk) := Lib.hid ((grown_of_below H1.out.1).but _)
  have hDn : ((ba D).size : Int) = D.length := by rw [ba_len]
  cases en
  · have k2 : Hid (rowR wd b.n t = none) := by rw [key.out, if_neg (by simp)]; exact Lib.hid rfl
    go_wp2_with fail
    refine (MN.out _).mono ?_
    rintro e w3 ⟨rfl, rfl⟩
    go_wp2_with fail
    exact ⟨rfl, HG.out, by rw [k2.out]; exact rfl⟩
  cases nm
  · have k2 : Hid (rowR wd b.n t = none) := by rw [key.out, if_neg (by simp)]; exact Lib.hid rfl
    go_wp2_with fail
    refine (MN.out _).mono ?_
    rintro e w3 ⟨rfl, rfl⟩
    go_wp2_with fail
    exact ⟨rfl, HG.out, by rw [k2.out]; exact rfl⟩
  by_cases hlen : D.length = b.n
  · have hq : (((ba D).size : Int) == (b.n : Int)) = true := by rw [hDn]; exact beq_iff_eq.2 (by omega)
    clear hDn
    go_wp2_with fail
    refine (MY.out _).mono ?_
    rintro e w3 ⟨rfl, rfl⟩
    go_wp2_with fail
    have HLEN := Lib.hid hlen
    have h0 : Hid (BsOwn w1 base (b.with_ ((D.take 0).map (fun b => b == 49) ++ b.l.drop 0))) := Lib.hid (by
      have h := HB.out.grown (grown_of_below H1.out.1) (by
        by_cases h : b.blk = none
        · exact .inl h
        · exact .inr h)
      simpa [Bs.with_] using h)
    clear hlen hq
    go_loopw [41] (fun i wr => ∃ j : Nat, j ≤ b.n ∧ i = .int .i64 j ∧ w.heap.size < wr.heap.size ∧ Hid (w.grownBy wr b.blk ∧ Blk wr w.heap.size 121 #[.string (ba wd), .slice b.A b.n b.c] ∧ BsOwn wr base (b.with_ ((D.take j).map (fun b => b == 49) ++ b.l.drop j)) ∧ (D.take j).all (fun b => b == 48 || b == 49) = true)) (fun i _ => b.n - (intOf i).toNat)
    case atStart => exact ⟨0, by omega, rfl, hz1, Lib.hid ⟨HG.out, H1.out.2, h0.out, by simp⟩⟩
    case round =>
    obtain ⟨j, hj, rfl, hzr, hE⟩ := hrel
    have hj0 : (0 : Int) ≤ (j : Int) := by omega
    by_cases hlt : j < b.n
    · obtain ⟨c, hc⟩ : ∃ c, D[j]? = some c := ⟨_, List.getElem?_eq_getElem (by have := HLEN.out; omega)⟩
      have hjn : (j : Int) < (b.n : Int) := by omega
      have hjD : (j : Int) < ((ba D).size : Int) := by rw [ba_size, HLEN.out]; exact hjn
      have hjb : j < (ba D).size := by omega
      have hcv : (ba D)[j]'hjb = c := by
        have h := List.getElem?_eq_some_iff.1 hc
        obtain ⟨h1, h2⟩ := h
        exact h2
      have HC := Lib.hid hc
      clear hc
      obtain ⟨g, v, hA, hbk, hbg, hgl, cg, fg⟩ := hE.out.2.2.1.at_ (b := b.with_ _) hlt
      have hA' : b.A = some ⟨g, 0, none⟩ := hA
      have b1 := hE.out.2.1.cell 1
      have HBK : Hid (b.blk = some g) := Lib.hid hbk
      have hz0 : w.heap.size ≠ g := by have := (HB.out.blk_lt hbk).2.1; omega
      clear hbk hA
      by_cases e8 : c = 48
      · subst e8
        have q8 : ((((ba D)[j]'hjb).toNat : Int) == 48) = true := by rw [hcv]; rfl
        have q9 : ((((ba D)[j]'hjb).toNat : Int) == 49) = false := by rw [hcv]; rfl
        clear hcv
        go_wp2_with fail
        refine (MY.out _).mono ?_
        rintro e w3 ⟨rfl, rfl⟩
        go_wp2
        go_still_tail 8, (by kernel_rfl)
        change wpList _ _ _ _ _ wr.drew
        go_wp2
        have HA2 := Lib.hid hA'
        rw [← hA']
        clear hA'
        go_roundw
        case rel =>
          refine ⟨j + 1, by omega, by go_num, by simp; omega, ?_⟩
          exact Lib.hid (rowStep (x := false) hE.out.1 hE.out.2.1 hE.out.2.2.1 hE.out.2.2.2 HB.out.len HLEN.out hlt HA2.out HBK.out hz0 HC.out rfl)
        case measure => simp [intOf]; omega
      by_cases e9 : c = 49
      · subst e9
        have q8 : ((((ba D)[j]'hjb).toNat : Int) == 48) = false := by rw [hcv]; rfl
        have q9 : ((((ba D)[j]'hjb).toNat : Int) == 49) = true := by rw [hcv]; rfl
        clear hcv
        go_wp2_with fail
        refine (MY.out _).mono ?_
        rintro e w3 ⟨rfl, rfl⟩
        go_wp2
        go_still_tail 8, (by kernel_rfl)
        change wpList _ _ _ _ _ wr.drew
        go_wp2
        have HA2 := Lib.hid hA'
        rw [← hA']
        clear hA'
        go_roundw
        case rel =>
          refine ⟨j + 1, by omega, by go_num, by simp; omega, ?_⟩
          exact Lib.hid (rowStep (x := true) hE.out.1 hE.out.2.1 hE.out.2.2.1 hE.out.2.2.2 HB.out.len HLEN.out hlt HA2.out HBK.out hz0 HC.out rfl)
        case measure => simp [intOf]; omega
      · have q8 : ((((ba D)[j]'hjb).toNat : Int) == 48) = false := by
          rw [hcv]
          exact beq_eq_false_iff_ne.2 (fun h => e8 (UInt8.toNat_inj.1 (by simpa using Int.ofNat.inj h)))
        have q9 : ((((ba D)[j]'hjb).toNat : Int) == 49) = false := by
          rw [hcv]
          exact beq_eq_false_iff_ne.2 (fun h => e9 (UInt8.toNat_inj.1 (by simpa using Int.ofNat.inj h)))
        have k2 : Hid (rowR wd b.n t = none) := by
          rw [key.out, if_neg (fun h => ?_)]
          · exact Lib.hid rfl
          · have h1 := List.all_eq_true.1 h.2.2.2 c (List.mem_of_getElem? HC.out)
            simp [e8, e9] at h1
        clear hcv b1 cg fg
        go_wp2_with fail
        refine (MN.out _).mono ?_
        rintro e w3 ⟨rfl, rfl⟩
        go_wp2_with fail
        exact ⟨rfl, hE.out.1, by rw [k2.out]; exact rfl⟩
    · obtain rfl : b.n = j := by omega
      have htk : D.take b.n = D := by rw [← HLEN.out]; exact List.take_length
      have hdr : b.l.drop b.n = [] := by rw [← HB.out.len]; exact List.drop_length
      have k2 : Hid (rowR wd b.n t = some (D.map (fun b => b == 49), rest)) := by
        have h := hE.out.2.2.2
        rw [htk] at h
        rw [key.out, if_pos ⟨by trivial, by trivial, HLEN.out, h⟩]
        exact Lib.hid rfl
      have HF : Hid (BsOwn wr base (b.with_ (D.map (fun b => b == 49)))) := by
        have h := hE.out.2.2.1
        rw [htk, hdr, List.append_nil] at h
        exact Lib.hid h
      clear htk hdr
      go_wp2
      exact bodyPost_ret (results_tmp rfl _ _ _) rfl ⟨hE.out.1, by rw [k2.out]; exact ⟨rfl, HF.out⟩⟩
  · have k2 : Hid (rowR wd b.n t = none) := by rw [key.out, if_neg (fun h => hlen h.2.2.1)]; exact Lib.hid rfl
    have hq : (((ba D).size : Int) == (b.n : Int)) = false := by rw [hDn]; exact beq_eq_false_iff_ne.2 (by omega)
    clear hDn hlen
    go_wp2_with fail
    refine (MN.out _).mono ?_
    rintro e w3 ⟨rfl, rfl⟩
    go_wp2_with fail
    exact ⟨rfl, HG.out, by rw [k2.out]; exact rfl⟩
end Go.Proofs.YtcnmfblbfpcghaaGreatDoor

/- plant.Read of a text that Show writes. -/

set_option linter.unusedSimpArgs false
set_option linter.unusedVariables false
namespace Go.Proofs.YtcnmfblbfpcghaaGreatDoor
open Go.RowKit Go.Shelf

theorem catch_idleR (a b : Addr) (w : World) :
    CallsD Tryz.prog 69 #[.pointer (some a), .pointer (some b)] .returning w fun e u' w' => e = .returned (.tuple #[]) ∧ u' = .returning ∧ w' = w := by
  refine callsD_of_wpS Tryz.func69 rfl fun c₀ cs hu => ?_
  apply wpS_seq
  apply wpS_region
  simp [wpOpsS, go_sem, recoverD, hu, Tryz.ntmps69, Exit.thenS]
  refine wpS_cond (t := false) (by simp [Act.eval, Array.replicate]) ?_
  simp only [Bool.false_eq_true, if_false]
  refine wpS_of_wp (wp_skip ?_)
  cases c₀
  simp_all [bodyPostS, results, Tryz.results69]
theorem checkState_eqn (p : Plt) : ∀ (s q : Stt), q.closed.n = s.closed.n → q.locked.n = s.locked.n → q.badLink.n = s.badLink.n → q.on.n = s.on.n → q.badSource.n = s.badSource.n → q.earthed.n = s.earthed.n → q.badBus.n = s.badBus.n → q.closed.l = s.closed.l → q.locked.l = s.locked.l → checkState p q = checkState p s := by
  rintro ⟨⟨A0, n0, c0, l0⟩, ⟨A1, n1, c1, l1⟩, ⟨A2, n2, c2, l2⟩, ⟨A3, n3, c3, l3⟩, ⟨A4, n4, c4, l4⟩, ⟨A5, n5, c5, l5⟩, ⟨A6, n6, c6, l6⟩⟩ ⟨⟨B0, m0, d0, k0⟩, ⟨B1, m1, d1, k1⟩, ⟨B2, m2, d2, k2⟩, ⟨B3, m3, d3, k3⟩, ⟨B4, m4, d4, k4⟩, ⟨B5, m5, d5, k5⟩, ⟨B6, m6, d6, k6⟩⟩ h0 h1 h2 h3 h4 h5 h6 e0 e1
  simp only at h0 h1 h2 h3 h4 h5 h6 e0 e1
  subst h0 h1 h2 h3 h4 h5 h6 e0 e1
  rfl
theorem valid_of {p : Plt} {s : Stt} {w : World} {b : Nat} (hc : checkState p s = 0) (hp : PltIn w b p) : check p = 0 ∧ p.sn ≤ 8 ∧ p.ln ≤ 40 ∧ p.rn ≤ 24 := by
  unfold checkState at hc
  split at hc
  · rename_i h
    exact ⟨h, check_small h hp⟩
  · rename_i h
    exact absurd hc h
theorem lens_of {p : Plt} {s : Stt} (h : checkState p s = 0) : s.closed.n = p.ln ∧ s.locked.n = p.ln ∧ s.badLink.n = p.ln ∧ s.on.n = p.sn ∧ s.badSource.n = p.sn ∧ (s.earthed.n : Int) = p.buses ∧ (s.badBus.n : Int) = p.buses := by
  unfold checkState at h
  split at h
  · split at h
    · rename_i ho
      simp [stateOk, linkLists, sourceLists, busLists] at ho
      omega
    · omega
  · rename_i hc
    exact absurd h hc
/-- The state with other contents. -/
def Stt.fill (t s : Stt) : Stt := ⟨t.closed.with_ s.closed.l, t.locked.with_ s.locked.l, t.badLink.with_ s.badLink.l, t.on.with_ s.on.l, t.badSource.with_ s.badSource.l, t.earthed.with_ s.earthed.l, t.badBus.with_ s.badBus.l⟩
theorem stRows_apart {w : World} {base : Nat} {t : Stt} (h : SttOwn w base t) : (stRows t).Pairwise fun a b => ∀ g, a.2.blk = some g → b.2.blk ≠ some g := by
  have h1 : ((stRows t).map (·.2)).Pairwise (fun a b => ∀ g, a.blk = some g → b.blk ≠ some g) := by
    refine (List.Perm.pairwise_iff (fun {a b} h g h1 h2 => h g h2 h1) ?_).1 h.apart
    show [t.closed, t.locked, t.badLink, t.on, t.badSource, t.earthed, t.badBus].Perm [t.on, t.badSource, t.closed, t.locked, t.badLink, t.earthed, t.badBus]
    exact (List.perm_append_comm (l₁ := [t.closed, t.locked, t.badLink]) (l₂ := [t.on, t.badSource])).append_right [t.earthed, t.badBus]
  exact List.pairwise_map.1 h1
/-- A state's lists, the first k rows read. -/
def RowsAt (W : World) (base : Nat) (t s : Stt) (k : Nat) : Prop := ∀ (i : Nat) (x y : List UInt8 × Bs), (stRows t)[i]? = some x → (stRows s)[i]? = some y → BsOwn W base (x.2.with_ (if i < k then y.2.l else x.2.l))
theorem rowsAt_zero {W : World} {base : Nat} {t s : Stt} (h : SttOwn W base t) : RowsAt W base t s 0 := by
  intro i x y hx hy
  rw [if_neg (by omega)]
  show BsOwn W base x.2
  have hm := List.mem_of_getElem? hx
  simp only [stRows, List.mem_cons, List.mem_nil_iff, or_false] at hm
  rcases hm with rfl | rfl | rfl | rfl | rfl | rfl | rfl
  all_goals exact h.own _ (by simp [Stt.lists])
theorem rowsAt_step {W W' : World} {base k : Nat} {t s : Stt} {x y : List UInt8 × Bs} (h : RowsAt W base t s k) (ha : (stRows t).Pairwise fun a b => ∀ g, a.2.blk = some g → b.2.blk ≠ some g) (hx : (stRows t)[k]? = some x) (hy : (stRows s)[k]? = some y) (hg : W.grownBy W' x.2.blk) (ho : BsOwn W' base (x.2.with_ y.2.l)) : RowsAt W' base t s (k + 1) := by
  intro i u v hu hv
  by_cases hik : i = k
  · subst hik
    rw [hx] at hu
    rw [hy] at hv
    cases hu
    cases hv
    rw [if_pos (by omega)]
    exact ho
  · have e : (if i < k + 1 then v.2.l else u.2.l) = (if i < k then v.2.l else u.2.l) := by
      by_cases h1 : i < k
      · rw [if_pos h1, if_pos (by omega)]
      · rw [if_neg h1, if_neg (by omega)]
    rw [e]
    refine (h i u v hu hv).grown hg ?_
    show u.2.blk = none ∨ u.2.blk ≠ x.2.blk
    cases hub : u.2.blk with
    | none => exact .inl rfl
    | some g =>
      refine .inr fun eq => ?_
      rw [List.pairwise_iff_getElem] at ha
      obtain ⟨hi, hi2⟩ := List.getElem?_eq_some_iff.1 hu
      obtain ⟨hk, hk2⟩ := List.getElem?_eq_some_iff.1 hx
      rcases Nat.lt_or_ge i k with h1 | h1
      · exact ha i k hi hk h1 g (by rw [hi2]; exact hub) (by rw [hk2]; exact eq.symm)
      · exact ha k i hk hi (by omega) g (by rw [hk2]; exact eq.symm) (by rw [hi2]; exact hub)
theorem rowsAt_end {W W0 : World} {base b0 : Nat} {t s : Stt} (h : RowsAt W base t s 7) (h0 : SttOwn W0 b0 t) : SttOwn W base (t.fill s) := by
  refine ⟨fun b hb => ?_, ?_⟩
  · simp only [Stt.lists, Stt.fill, List.mem_cons, List.mem_nil_iff, or_false] at hb
    rcases hb with rfl | rfl | rfl | rfl | rfl | rfl | rfl
    · exact h 2 _ _ rfl rfl
    · exact h 3 _ _ rfl rfl
    · exact h 4 _ _ rfl rfl
    · exact h 0 _ _ rfl rfl
    · exact h 1 _ _ rfl rfl
    · exact h 5 _ _ rfl rfl
    · exact h 6 _ _ rfl rfl
  · have h1 : (t.lists.map Bs.blk).Pairwise (fun a b => ∀ g, a = some g → b ≠ some g) := List.pairwise_map.2 h0.apart
    exact List.pairwise_map.1 (show ((t.fill s).lists.map Bs.blk).Pairwise (fun a b => ∀ g, a = some g → b ≠ some g) from h1)
theorem stRows_words (s t : Stt) {k : Nat} {x y : List UInt8 × Bs} (hx : (stRows t)[k]? = some x) (hy : (stRows s)[k]? = some y) : x.1 = y.1 ∧ (10 : UInt8) ∉ x.1 ∧ x.1.length ≤ 100 := by
  match k with
  | 0 | 1 | 2 | 3 | 4 | 5 | 6 =>
    simp only [stRows, List.getElem?_cons_zero, List.getElem?_cons_succ, Option.some.injEq] at hx hy
    subst hx hy
    exact ⟨rfl, by simp [wOn, wBadSource, wClosed, wLocked, wBadLink, wEarthed, wBadBus], by simp [wOn, wBadSource, wClosed, wLocked, wBadLink, wEarthed, wBadBus]⟩
  | k + 7 => simp [stRows] at hx
theorem stRows_n {s t : Stt} {k : Nat} {x y : List UInt8 × Bs} (hn : t.closed.n = s.closed.n ∧ t.locked.n = s.locked.n ∧ t.badLink.n = s.badLink.n ∧ t.on.n = s.on.n ∧ t.badSource.n = s.badSource.n ∧ t.earthed.n = s.earthed.n ∧ t.badBus.n = s.badBus.n) (hx : (stRows t)[k]? = some x) (hy : (stRows s)[k]? = some y) : x.2.n = y.2.n := by
  obtain ⟨h0, h1, h2, h3, h4, h5, h6⟩ := hn
  match k with
  | 0 | 1 | 2 | 3 | 4 | 5 | 6 =>
    simp only [stRows, List.getElem?_cons_zero, List.getElem?_cons_succ, Option.some.injEq] at hx hy
    subst hx hy
    assumption
  | k + 7 => simp [stRows] at hx
/-- What is left of a state's text behind so many rows. -/
def leftL (s : Stt) (k : Nat) : List UInt8 := rowsL (((stRows s).drop k).map fun x => (x.1, x.2.l))
theorem leftL_step {s t : Stt} {k : Nat} {x y : List UInt8 × Bs} (hx : (stRows t)[k]? = some x) (hy : (stRows s)[k]? = some y) (hl : y.2.l.length = x.2.n) : rowR x.1 x.2.n (leftL s k) = some (y.2.l, leftL s (k + 1)) := by
  obtain ⟨h1, h2, _⟩ := stRows_words s t hx hy
  obtain ⟨hk, hk2⟩ := List.getElem?_eq_some_iff.1 hy
  have e : leftL s k = rowL y.1 y.2.l ++ leftL s (k + 1) := by
    unfold leftL
    rw [List.drop_eq_getElem_cons hk, hk2]
    rfl
  rw [e, ← hl, h1]
  rw [h1] at h2
  exact rowR_rowL y.1 y.2.l _ h2
theorem rowL_length (w : List UInt8) (l : List Bool) : (rowL w l).length = w.length + l.length + 2 := by simp [rowL]; omega
theorem rowsL_length : ∀ (r : List (List UInt8 × List Bool)) (n : Nat), (∀ x ∈ r, x.1.length ≤ 20 ∧ x.2.length ≤ n) → (rowsL r).length ≤ r.length * (n + 22) := by
  intro r n
  induction r with
  | nil => intro _; simp [rowsL]
  | cons x r ih =>
    intro h
    have h1 := h x (List.mem_cons_self ..)
    have h2 := ih fun z hz => h z (List.mem_cons_of_mem _ hz)
    rw [rowsL, List.length_append, rowL_length, List.length_cons, Nat.succ_mul]
    omega
theorem leftL_length {p : Plt} {s : Stt} {w : World} {B : Nat} (hp : PltIn w B p) (hs : SttIn w B s) (h : checkState p s = 0) (k : Nat) : (leftL s k).length ≤ 1000 := by
  have h1 := rowsL_length (((stRows s).drop k).map fun x => (x.1, x.2.l)) 64 (by
    intro z hz
    obtain ⟨x, hx, rfl⟩ := List.mem_map.1 hz
    have hm := List.mem_of_mem_drop hx
    have h2 := stRows_small hp h x hm
    have h3 := (stRows_in hs x hm).1.1
    exact ⟨h2.1, by dsimp only; omega⟩)
  have h4 : (((stRows s).drop k).map fun x => (x.1, x.2.l)).length ≤ 7 := by simp [stRows]
  unfold leftL
  have h5 := Nat.mul_le_mul_right 86 h4
  omega
abbrev pltArr (p : Plt) : Array Value := #[.int .i64 p.buses, .slice p.sA p.sn p.sc, .slice p.lA p.ln p.lc, .slice p.rA p.rn p.rc]
abbrev nil7s : Array Value := #[.slice none 0 0, .slice none 0 0, .slice none 0 0, .slice none 0 0, .slice none 0 0, .slice none 0 0, .slice none 0 0]
abbrev sttArr (t : Stt) : Array Value := #[.slice t.closed.A t.closed.n t.closed.c, .slice t.locked.A t.locked.n t.locked.c, .slice t.badLink.A t.badLink.n t.badLink.c, .slice t.on.A t.on.n t.on.c, .slice t.badSource.A t.badSource.n t.badSource.c, .slice t.earthed.A t.earthed.n t.earthed.c, .slice t.badBus.A t.badBus.n t.badBus.c]
/-- What Read keeps while it reads rows. -/
structure RdM (w : World) (base gR gT : Nat) (p : Plt) (t s : Stt) (k : Nat) (W : World) : Prop where
  low : Below w.heap.size w W
  bp : Blk W w.heap.size 26 (pltArr p)
  bs : Blk W (w.heap.size + 1) 29 nil7s
  be : Blk W (w.heap.size + 1 + 1) 35 #[.int .i64 0]
  bt : Blk W gT 29 (sttArr t)
  rows : Blk W gR 121 ((stRows t).flatMap encRw).toArray
  lists : RowsAt W base t s k
theorem RowsAt.next {W W' : World} {base k : Nat} {t s : Stt} (h : RowsAt W base t s k) (hb : Below W.heap.size W W') : RowsAt W' base t s k := fun i x y hx hy =>
  (h i x y hx hy).grown (grown_of_below hb) (by
    by_cases e : (x.2.with_ (if i < k then y.2.l else x.2.l)).blk = none
    · exact .inl e
    · exact .inr e)
theorem RdM.next {w : World} {base gR gT : Nat} {p : Plt} {t s : Stt} {k : Nat} {W W' : World} (h : RdM w base gR gT p t s k W) (hb : Below W.heap.size W W') : RdM w base gR gT p t s k W' :=
  ⟨h.low.trans (hb.mono h.low.size), h.bp.below hb h.bp.lt, h.bs.below hb h.bs.lt, h.be.below hb h.be.lt, h.bt.below hb h.bt.lt, h.rows.below hb h.rows.lt, h.lists.next hb⟩
theorem RdM.step {w : World} {base gR gT : Nat} {p : Plt} {t s : Stt} {k : Nat} {W W' : World} {x y : List UInt8 × Bs} (h : RdM w base gR gT p t s k W) (ha : (stRows t).Pairwise fun a b => ∀ g, a.2.blk = some g → b.2.blk ≠ some g) (hb : w.heap.size ≤ base) (hx : (stRows t)[k]? = some x) (hy : (stRows s)[k]? = some y) (hg : W.grownBy W' x.2.blk) (ho : BsOwn W' base (x.2.with_ y.2.l)) : RdM w base gR gT p t s (k + 1) W' := by
  have h0 := h.lists k x y hx hy
  have hne : ∀ (g : Nat) (T : TypeId) (cs : Array Value), Blk W g T cs → T ≠ 4 → some g ≠ x.2.blk := fun g T cs hB hT => own_ne h0.own hB hT
  refine ⟨h.low.grown hg h.low.size (fun j e => ?_), Blk.kept h.bp hg (hne _ _ _ h.bp (by decide)), Blk.kept h.bs hg (hne _ _ _ h.bs (by decide)), Blk.kept h.be hg (hne _ _ _ h.be (by decide)), Blk.kept h.bt hg (hne _ _ _ h.bt (by decide)), Blk.kept h.rows hg (hne _ _ _ h.rows (by decide)), rowsAt_step h.lists ha hx hy hg ho⟩
  have := (h0.blk_lt (g := j) e).1
  omega
end Go.Proofs.YtcnmfblbfpcghaaGreatDoor

/- plant.Read of a text that Show writes: the function. -/

set_option linter.unusedSimpArgs false
set_option linter.unusedVariables false
namespace Go.Proofs.YtcnmfblbfpcghaaGreatDoor
open Go.RowKit Go.Shelf

set_option maxRecDepth 100000 in
set_option maxHeartbeats 8000000 in
theorem read_ok (p : Plt) (s : Stt) (w : World) (hp : PltIn w w.heap.size p) (hs : SttIn w w.heap.size s) (hc : checkState p s = 0) (hT : Tabs w) :
    Calls Tryz.prog 26 #[p.val, .string (ba (showL s))] w fun e w' => ∃ q : Stt, e = .returned (.tuple #[q.val, .int .i64 0]) ∧ Below w.heap.size w w' ∧ SttOwn w' w.heap.size q ∧ q.cont = s.cont := by
  have hmf : ∀ (fn : Fn) (first cap : Array Value) (w : World), (Instr.makeFunc fn first cap).run Tryz.prog w = .ok (.func fn first cap) w := fun _ _ _ _ => rfl
  have HP := Lib.hid hp
  have HS := Lib.hid hs
  have HT := Lib.hid hT
  have HC := Lib.hid hc
  have HV := Lib.hid (valid_of hc hp)
  have HN := Lib.hid (lens_of hc)
  have CK := Lib.hid (fun W h => check_any p W h)
  rw [HV.out.1] at CK
  have hbu : 0 ≤ p.buses ∧ p.buses ≤ 24 := by
    have h := HV.out.1
    unfold check at h
    split at h
    · rename_i hb
      have hbb : 1 ≤ p.buses ∧ p.buses ≤ 24 := by simpa [within] using hb
      omega
    · cases h
  obtain ⟨B, hB⟩ : ∃ B : Nat, p.buses = B := ⟨p.buses.toNat, by omega⟩
  have BL := Lib.hid (fun W => blank_any p W (by have := HV.out; omega) (by have := HV.out; omega) B hB (by omega))
  have CS := Lib.hid (fun t W hp ht => checkState_any p t W hp ht)
  have HBU := Lib.hid hB
  clear hp hs hc hT hbu hB
  unfold Plt.val at CK BL CS ⊢
  obtain ⟨wa, hwa⟩ : ∃ x, ((w.alloc (.cells #[.int .i64 p.buses, .slice p.sA p.sn p.sc, .slice p.lA p.ln p.lc, .slice p.rA p.rn p.rc] 26)).alloc (.cells #[.slice none 0 0, .slice none 0 0, .slice none 0 0, .slice none 0 0, .slice none 0 0, .slice none 0 0, .slice none 0 0] 29)).alloc (.cells #[.int .i64 0] 35) = x := ⟨_, rfl⟩
  have HZA : Hid (wa.heap.size = w.heap.size + 3) := Lib.hid (by rw [← hwa]; simp)
  have hBa : Below w.heap.size w wa := by rw [← hwa]; (repeat' (first | (with_reducible exact Below.refl _ _) | (with_reducible assumption) | (with_reducible refine below_drewN ?_ _) | (with_reducible refine below_after (by assumption) ?_ ?_) | (with_reducible refine Below.drew ?_) | (with_reducible refine Below.alloc ?_ ?_ _) | (with_reducible refine Below.setCell ?_ ?_ _) | omega | (simp; omega) | (simp; done)))
  have BX : Hid (Blk wa w.heap.size 26 #[.int .i64 p.buses, .slice p.sA p.sn p.sc, .slice p.lA p.ln p.lc, .slice p.rA p.rn p.rc] ∧ Blk wa (w.heap.size + 1) 29 #[.slice none 0 0, .slice none 0 0, .slice none 0 0, .slice none 0 0, .slice none 0 0, .slice none 0 0, .slice none 0 0] ∧ Blk wa (w.heap.size + 1 + 1) 35 #[.int .i64 0]) := by
    rw [← hwa]
    refine Lib.hid ⟨Blk.alloc (Blk.alloc (heap_alloc_new w _) _) _, Blk.alloc ?_ _, ?_⟩
    · have h := heap_alloc_new (w.alloc (.cells #[.int .i64 p.buses, .slice p.sA p.sn p.sc, .slice p.lA p.ln p.lc, .slice p.rA p.rn p.rc] 26)) (.cells #[.slice none 0 0, .slice none 0 0, .slice none 0 0, .slice none 0 0, .slice none 0 0, .slice none 0 0, .slice none 0 0] 29)
      rw [World.size_alloc] at h
      exact h
    · have h := heap_alloc_new ((w.alloc (.cells #[.int .i64 p.buses, .slice p.sA p.sn p.sc, .slice p.lA p.ln p.lc, .slice p.rA p.rn p.rc] 26)).alloc (.cells #[.slice none 0 0, .slice none 0 0, .slice none 0 0, .slice none 0 0, .slice none 0 0, .slice none 0 0, .slice none 0 0] 29)) (.cells #[.int .i64 0] 35)
      rw [World.size_alloc, World.size_alloc] at h
      exact h
  have HBA := Lib.hid hBa
  have a0 := BX.out.1.cell 0
  have a1 := BX.out.1.cell 1
  have a2 := BX.out.1.cell 2
  have a3 := BX.out.1.cell 3
  clear hBa
  go_enter_defers Tryz.func26, Tryz.ntmps26
  go_wp2_with fail
  clear hwa
  refine (CK.out _ (HP.out.next HBA.out)).mono ?_
  rintro e w1 ⟨rfl, hB1⟩
  have BX1 : Hid (Below w.heap.size w w1 ∧ Blk w1 w.heap.size 26 #[.int .i64 p.buses, .slice p.sA p.sn p.sc, .slice p.lA p.ln p.lc, .slice p.rA p.rn p.rc] ∧ Blk w1 (w.heap.size + 1) 29 #[.slice none 0 0, .slice none 0 0, .slice none 0 0, .slice none 0 0, .slice none 0 0, .slice none 0 0, .slice none 0 0] ∧ Blk w1 (w.heap.size + 1 + 1) 35 #[.int .i64 0]) := Lib.hid ⟨HBA.out.trans (hB1.mono HBA.out.size), BX.out.1.below hB1 BX.out.1.lt, BX.out.2.1.below hB1 BX.out.2.1.lt, BX.out.2.2.below hB1 BX.out.2.2.lt⟩
  replace a0 := BX1.out.2.1.cell 0
  replace a1 := BX1.out.2.1.cell 1
  replace a2 := BX1.out.2.1.cell 2
  replace a3 := BX1.out.2.1.cell 3
  clear hB1
  go_wp2_with fail
  refine (BL.out _).mono ?_
  rintro e w2 ⟨t, rfl, hB2, hO2, e0, e1, e2, e3, e4, e5, e6⟩
  have HNN : Hid (t.closed.n = s.closed.n ∧ t.locked.n = s.locked.n ∧ t.badLink.n = s.badLink.n ∧ t.on.n = s.on.n ∧ t.badSource.n = s.badSource.n ∧ t.earthed.n = s.earthed.n ∧ t.badBus.n = s.badBus.n) := by
    obtain ⟨n0, n1, n2, n3, n4, n5, n6⟩ := HN.out
    have hb := HBU.out
    have f : ∀ b ∈ t.lists, b.l.length = b.n := fun b hb => (hO2.own b hb).len
    have f0 := f t.closed (by simp [Stt.lists])
    have f1 := f t.locked (by simp [Stt.lists])
    have f2 := f t.badLink (by simp [Stt.lists])
    have f3 := f t.on (by simp [Stt.lists])
    have f4 := f t.badSource (by simp [Stt.lists])
    have f5 := f t.earthed (by simp [Stt.lists])
    have f6 := f t.badBus (by simp [Stt.lists])
    rw [e0] at f0
    rw [e1] at f1
    rw [e2] at f2
    rw [e3] at f3
    rw [e4] at f4
    rw [e5] at f5
    rw [e6] at f6
    simp only [noB, List.length_replicate] at f0 f1 f2 f3 f4 f5 f6
    exact Lib.hid (by omega)
  have HO2 := Lib.hid hO2
  have BX2 : Hid (Below w.heap.size w w2 ∧ Blk w2 w.heap.size 26 #[.int .i64 p.buses, .slice p.sA p.sn p.sc, .slice p.lA p.ln p.lc, .slice p.rA p.rn p.rc] ∧ Blk w2 (w.heap.size + 1) 29 #[.slice none 0 0, .slice none 0 0, .slice none 0 0, .slice none 0 0, .slice none 0 0, .slice none 0 0, .slice none 0 0] ∧ Blk w2 (w.heap.size + 1 + 1) 35 #[.int .i64 0]) := Lib.hid ⟨BX1.out.1.trans (hB2.mono BX1.out.1.size), BX1.out.2.1.below hB2 BX1.out.2.1.lt, BX1.out.2.2.1.below hB2 BX1.out.2.2.1.lt, BX1.out.2.2.2.below hB2 BX1.out.2.2.2.lt⟩
  have HLow : Hid (w1.heap.size ≤ w2.heap.size) := Lib.hid hB2.size
  have HZ1 : Hid (w.heap.size + 3 ≤ w1.heap.size) := Lib.hid (by have := BX1.out.2.2.2.lt; omega)
  have RW := Lib.hid (fun W => rows_any t W)
  have HST : Hid (∀ W : World, Blk (W.alloc (.cells (sttArr t) 29)) W.heap.size 29 (sttArr t)) := Lib.hid (fun W => heap_alloc_new W _)
  clear hB2 hO2 e0 e1 e2 e3 e4 e5 e6 a0 a1 a2 a3
  unfold Stt.val at RW ⊢
  dsimp only
  go_wp2_with fail
  refine (RW.out _).mono ?_
  rintro e w3 ⟨gR, rfl, hB3, hgR, _, hbk⟩
  have hBt : Below w2.heap.size w2 (w2.alloc (.cells (sttArr t) 29)) := (Below.refl _ _).alloc (Nat.le_refl _) _
  have hB23 : Below w2.heap.size w2 w3 := hBt.trans (hB3.mono hBt.size)
  have HM0 : Hid (RdM w w1.heap.size gR w2.heap.size p t s 0 w3 ∧ w1.heap.size ≤ w3.heap.size) := Lib.hid ⟨⟨BX2.out.1.trans (hB23.mono BX2.out.1.size), BX2.out.2.1.below hB23 BX2.out.2.1.lt, BX2.out.2.2.1.below hB23 BX2.out.2.2.1.lt, BX2.out.2.2.2.below hB23 BX2.out.2.2.2.lt, (HST.out w2).below hB3 (HST.out w2).lt, hbk, (rowsAt_zero HO2.out).next hB23⟩, by have := hB23.size; have := HLow.out; omega⟩
  have HAP := Lib.hid (stRows_apart HO2.out)
  clear hBt hB23 hB3 hgR hbk HST BX BX1 BX2 RW BL CK
  obtain ⟨gT, hgT⟩ : ∃ z, z = w2.heap.size := ⟨_, rfl⟩
  obtain ⟨base, hbase⟩ : ∃ z, z = w1.heap.size := ⟨_, rfl⟩
  rw [← hgT, ← hbase] at HM0
  rw [← hgT]
  rw [← hbase] at HZ1
  obtain ⟨A, hA⟩ : ∃ z, z = (some ⟨gR, 0, none⟩ : Option Addr) := ⟨_, rfl⟩
  rw [← hA]
  have HA := Lib.hid hA
  have hs0 : showL s = leftL s 0 := rfl
  rw [hs0]
  clear hgT hbase hA hs0
  have RR := Lib.hid (fun wd b t W hb hT ht hn hw => rowRead_any wd b t base W hb hT ht hn hw)
  have hzT := HM0.out.1.bt.lt
  go_wp2_with fail
  go_loopw [1, 22] (fun v i wr => ∃ k : Nat, k ≤ 7 ∧ v = .string (ba (leftL s k)) ∧ i = .int .i64 k ∧ gT < wr.heap.size ∧ Hid (RdM w base gR gT p t s k wr)) (fun _ i _ => 7 - (intOf i).toNat)
  case atStart => exact ⟨0, by omega, rfl, rfl, hzT, Lib.hid HM0.out.1⟩
  case round =>
  obtain ⟨k, hk, rfl, rfl, hzr, hE⟩ := hrel
  by_cases hlt : k < 7
  · have hrd := hE.out.rows.rd (size := 2) (f := encRw) (fun _ _ => rfl)
    rw [← HA.out] at hrd
    obtain ⟨b, off, x, e1, hb, hx, hcx⟩ := hrd.at_ (n := (stRows t).length) hlt
    obtain ⟨y, hy⟩ : ∃ y, (stRows s)[k]? = some y := ⟨_, List.getElem?_eq_getElem (show k < (stRows s).length from hlt)⟩
    have d0 : wr.cell? ⟨b, off + k * 2, none⟩ = some (.string (ba x.1)) := hcx 0 _ rfl
    have d1 : wr.cell? ⟨b, off + k * 2 + 1, none⟩ = some (.slice x.2.A x.2.n x.2.c) := hcx 1 _ rfl
    have hk0 : (0 : Int) ≤ (k : Int) := by omega
    have hkn : (k : Int) < 7 := by omega
    have HX := Lib.hid (And.intro hx hy)
    have hxn : x.2.n ≤ 64 := by
      have h1 := stRows_n HNN.out hx hy
      have h2 := (stRows_small HP.out HC.out y (List.mem_of_getElem? hy)).2
      omega
    have HO : Hid (BsOwn wr base x.2) := by
      have h := hE.out.lists k x y hx hy
      rw [if_neg (by omega)] at h
      exact Lib.hid h
    have HROW : Hid (rowR x.1 x.2.n (leftL s k) = some (y.2.l, leftL s (k + 1))) := Lib.hid (leftL_step hx hy (by
      have h1 := (stRows_in HS.out y (List.mem_of_getElem? hy)).1.1
      have h2 := stRows_n HNN.out hx hy
      omega))
    have HWL := Lib.hid (stRows_words s t hx hy)
    rw [e1]
    clear hx hy hcx hrd
    go_wp2_with fail
    have HE1 : Hid (RdM w base gR gT p t s k (wr.alloc (.cells #[.string (ba x.1), .slice x.2.A x.2.n x.2.c] 121))) := Lib.hid (hE.out.next ((Below.refl _ _).alloc (Nat.le_refl _) _))
    have HO1 : Hid (BsOwn (wr.alloc (.cells #[.string (ba x.1), .slice x.2.A x.2.n x.2.c] 121)) base x.2) := Lib.hid ⟨HO.out.own.alloc _, HO.out.len⟩
    refine (RR.out x.1 x.2 (leftL s k) _ HO1.out (HT.out.from_ HE1.out.low (Nat.le_refl _)) (by have := leftL_length HP.out HS.out HC.out k; omega) (by omega) HWL.out.2.2).mono ?_
    rintro e w4 ⟨hg4, hE4⟩
    rw [HROW.out] at hE4
    obtain ⟨rfl, ho4⟩ := hE4
    have HE4 : Hid (RdM w base gR gT p t s (k + 1) w4) := Lib.hid (HE1.out.step HAP.out (by have := HZ1.out; omega) HX.out.1 HX.out.2 hg4 ho4)
    have hz4 := HE4.out.bt.lt
    clear hg4 ho4 d0 d1
    go_wp2
    exact ⟨⟨k + 1, by omega, rfl, by go_num, hz4, HE4⟩, by simp [intOf]; omega⟩
  · obtain rfl : k = 7 := by omega
    have e7 : leftL s 7 = [] := rfl
    rw [e7]
    have HQ : Hid (SttOwn wr base (t.fill s)) := Lib.hid (rowsAt_end hE.out.lists HO2.out)
    have HCQ : Hid (checkState p (t.fill s) = 0) := by
      obtain ⟨n0, n1, n2, n3, n4, n5, n6⟩ := HNN.out
      exact Lib.hid ((checkState_eqn p s (t.fill s) n0 n1 n2 n3 n4 n5 n6 rfl rfl).trans HC.out)
    have CSQ := Lib.hid (CS.out (t.fill s))
    rw [HCQ.out] at CSQ
    have a0 := hE.out.bp.cell 0
    have a1 := hE.out.bp.cell 1
    have a2 := hE.out.bp.cell 2
    have a3 := hE.out.bp.cell 3
    have b0 := hE.out.bt.cell 0
    have b1 := hE.out.bt.cell 1
    have b2 := hE.out.bt.cell 2
    have b3 := hE.out.bt.cell 3
    have b4 := hE.out.bt.cell 4
    have b5 := hE.out.bt.cell 5
    have b6 := hE.out.bt.cell 6
    have hq : (ba []).toList.isEmpty = true := by rw [Lib.toList_data]; rfl
    clear e7
    go_wp2_with fail
    refine (CSQ.out _ (HP.out.next hE.out.low) (sttIn_of HQ.out)).mono ?_
    rintro e w4 ⟨rfl, hB4⟩
    have HE4 := Lib.hid (hE.out.next hB4)
    have HQ4 : Hid (SttOwn w4 base (t.fill s)) := Lib.hid (rowsAt_end HE4.out.lists HO2.out)
    clear hB4
    go_wp2_with fail
    refine (must_yes _).mono ?_
    rintro e w5 ⟨rfl, rfl⟩
    replace b0 := HE4.out.bt.cell 0
    replace b1 := HE4.out.bt.cell 1
    replace b2 := HE4.out.bt.cell 2
    replace b3 := HE4.out.bt.cell 3
    replace b4 := HE4.out.bt.cell 4
    replace b5 := HE4.out.bt.cell 5
    replace b6 := HE4.out.bt.cell 6
    have s0 := HE4.out.bs.cell 0
    have s1 := HE4.out.bs.cell 1
    have s2 := HE4.out.bs.cell 2
    have s3 := HE4.out.bs.cell 3
    have s4 := HE4.out.bs.cell 4
    have s5 := HE4.out.bs.cell 5
    have s6 := HE4.out.bs.cell 6
    have s7 := HE4.out.be.cell 0
    have f1 := HE4.out.bs.frozen
    have f2 := HE4.out.be.frozen
    clear hq
    go_wp2
    obtain ⟨S1, S2⟩ := store7 HE4.out.bs (.slice t.closed.A t.closed.n t.closed.c) (.slice t.locked.A t.locked.n t.locked.c) (.slice t.badLink.A t.badLink.n t.badLink.c) (.slice t.on.A t.on.n t.on.c) (.slice t.badSource.A t.badSource.n t.badSource.c) (.slice t.earthed.A t.earthed.n t.earthed.c) (.slice t.badBus.A t.badBus.n t.badBus.c)
    have hzb := HZ1.out
    have HQ5 := Lib.hid ((((((((HQ4.out.below (b := w.heap.size + 1) (i := 0) (by omega) (.slice t.closed.A t.closed.n t.closed.c)).below (b := w.heap.size + 1) (i := 1) (by omega) (.slice t.locked.A t.locked.n t.locked.c)).below (b := w.heap.size + 1) (i := 2) (by omega) (.slice t.badLink.A t.badLink.n t.badLink.c)).below (b := w.heap.size + 1) (i := 3) (by omega) (.slice t.on.A t.on.n t.on.c)).below (b := w.heap.size + 1) (i := 4) (by omega) (.slice t.badSource.A t.badSource.n t.badSource.c)).below (b := w.heap.size + 1) (i := 5) (by omega) (.slice t.earthed.A t.earthed.n t.earthed.c)).below (b := w.heap.size + 1) (i := 6) (by omega) (.slice t.badBus.A t.badBus.n t.badBus.c)).below (b := w.heap.size + 1 + 1) (i := 0) (by omega) (.int .i64 0))
    have hL5 := HE4.out.low.grown S2 HE4.out.low.size (fun j e => by cases e; omega)
    have hbe := Blk.kept HE4.out.be S2 (fun e => by have := Option.some.inj e; omega)
    generalize ((((((w4.setCell ⟨w.heap.size + 1, 0, none⟩ (.slice t.closed.A t.closed.n t.closed.c)).setCell ⟨w.heap.size + 1, 1, none⟩ (.slice t.locked.A t.locked.n t.locked.c)).setCell ⟨w.heap.size + 1, 2, none⟩ (.slice t.badLink.A t.badLink.n t.badLink.c)).setCell ⟨w.heap.size + 1, 3, none⟩ (.slice t.on.A t.on.n t.on.c)).setCell ⟨w.heap.size + 1, 4, none⟩ (.slice t.badSource.A t.badSource.n t.badSource.c)).setCell ⟨w.heap.size + 1, 5, none⟩ (.slice t.earthed.A t.earthed.n t.earthed.c)).setCell ⟨w.heap.size + 1, 6, none⟩ (.slice t.badBus.A t.badBus.n t.badBus.c) = w5 at S1 S2 HQ5 hL5 hbe ⊢
    have g6 := only_setCell (World.grownBy.refl w5 (some (w.heap.size + 1 + 1))) (p := ⟨w.heap.size + 1 + 1, 0, none⟩) rfl (.int .i64 0)
    have hL6 := hL5.grown g6 hL5.size (fun j e => by cases e; omega)
    have S6 := Blk.kept S1 g6 (fun e => by have := Option.some.inj e; omega)
    have E6 : Blk (w5.setCell ⟨w.heap.size + 1 + 1, 0, none⟩ (.int .i64 0)) (w.heap.size + 1 + 1) 35 #[.int .i64 0] := by simpa using hbe.set_ 0 (.int .i64 0)
    generalize w5.setCell ⟨w.heap.size + 1 + 1, 0, none⟩ (.int .i64 0) = w6 at g6 hL6 S6 E6 HQ5 ⊢
    refine leaves_cons (f := 69) (args := #[.pointer (some ⟨w.heap.size + 1, 0, none⟩), .pointer (some ⟨w.heap.size + 1 + 1, 0, none⟩)]) (by simp) (by simp [go_sem]) ?_
    refine (catch_idleR _ _ _).mono ?_
    rintro e u' w'' ⟨rfl, rfl, rfl⟩
    have x0 := S6.cell 0
    have x1 := S6.cell 1
    have x2 := S6.cell 2
    have x3 := S6.cell 3
    have x4 := S6.cell 4
    have x5 := S6.cell 5
    have x6 := S6.cell 6
    have x7 := E6.cell 0
    simp [Leaves, settle, results, Tryz.results26, go_sem, x0, x1, x2, x3, x4, x5, x6, x7]
    exact ⟨t.fill s, rfl, hL6, HQ5.out.mono_base (by omega), rfl⟩
end Go.Proofs.YtcnmfblbfpcghaaGreatDoor
