/- plant.Format. -/
import Derived.Test.YtcnmfblbfpcghaaGreatDoorFmtA

set_option linter.unusedSimpArgs false
set_option linter.unusedVariables false
namespace Go.Proofs.YtcnmfblbfpcghaaGreatDoor
open Go.RowKit Go.Shelf

/-- What Format needs of a plant's numbers. -/
structure FmtOk (p : Plt) : Prop where
  buses : Int64 p.buses
  sn : p.sn ≤ 8
  ln : p.ln ≤ 40
  rn : p.rn ≤ 24
  srcs : ∀ x ∈ p.srcs, (1 ≤ x.kind ∧ x.kind ≤ 3) ∧ Int64 x.bus ∧ Int64 x.power ∧ Int64 x.sync ∧ Int64 x.ohm
  lnks : ∀ x ∈ p.lnks, (1 ≤ x.kind ∧ x.kind ≤ 3) ∧ (Int64 x.a ∧ Int64 x.b ∧ Int64 x.most ∧ Int64 x.ohm) ∧ x.trip.length ≤ 6 ∧ ∀ t ∈ x.trip, Int64 t.amps ∧ Int64 t.millis
  rcks : ∀ x ∈ p.rcks, Int64 x.f0 ∧ Int64 x.f1 ∧ Int64 x.power ∧ Int64 x.paths
theorem fmtOk_of {p : Plt} {w : World} {b : Nat} (h : check p = 0) (hp : PltIn w b p) : FmtOk p := by
  obtain ⟨h1, h2, h3⟩ := check_small h hp
  unfold check at h
  split at h
  · rename_i hb
    split at h
    · rename_i hs
      split at h
      · rename_i hl
        split at h
        · rename_i hr
          have hbb : 1 ≤ p.buses ∧ p.buses ≤ 24 := by simpa [within] using hb
          refine ⟨⟨by omega, by omega⟩, h1, h2, h3, ?_, ?_, ?_⟩
          · intro x hx
            unfold srcsOk at hs
            simp only [Bool.and_eq_true, List.all_eq_true] at hs
            have h4 := hs.2 x hx
            unfold srcOk isBus within at h4
            simp only [Bool.and_eq_true, decide_eq_true_eq] at h4
            refine ⟨by omega, ⟨by omega, by omega⟩, ⟨by omega, by omega⟩, ⟨by omega, by omega⟩, ⟨by omega, by omega⟩⟩
          · intro x hx
            unfold lnksOk at hl
            simp only [Bool.and_eq_true, List.all_eq_true] at hl
            have h4 := hl.2 x hx
            unfold lnkOk isBus within at h4
            simp only [Bool.and_eq_true, decide_eq_true_eq] at h4
            have h5 := h4.2
            unfold tripsOk at h5
            simp only [Bool.and_eq_true, List.all_eq_true, decide_eq_true_eq, List.mem_range] at h5
            refine ⟨by omega, ⟨⟨by omega, by omega⟩, ⟨by omega, by omega⟩, ⟨by omega, by omega⟩, ⟨by omega, by omega⟩⟩, h5.1, ?_⟩
            intro t ht
            obtain ⟨k, hk⟩ := List.getElem?_of_mem ht
            have h6 := h5.2 k (List.getElem?_eq_some_iff.1 hk).1
            unfold tripAt at h6
            rw [hk] at h6
            simp only [Bool.and_eq_true, within, decide_eq_true_eq] at h6
            refine ⟨⟨by omega, by omega⟩, ⟨by omega, by omega⟩⟩
          · intro x hx
            unfold rcksOk at hr
            simp only [Bool.and_eq_true, List.all_eq_true] at hr
            have h4 := hr.2 x hx
            unfold rckOk isBus within at h4
            simp only [Bool.and_eq_true, Bool.or_eq_true, decide_eq_true_eq] at h4
            obtain ⟨⟨⟨h5, h6⟩, h7⟩, h8⟩ := h4
            have h9 : x.paths ≤ 2 := by
              have := h8.2
              split at this <;> omega
            refine ⟨⟨by omega, by omega⟩, ⟨by omega, by omega⟩, ⟨by omega, by omega⟩, ⟨by omega, by omega⟩⟩
        · cases h
      · cases h
    · cases h
  · cases h
theorem rd_new (w : World) (xs : List Int) : Rd (w.alloc (.cells (ints xs) 3)) (w.alloc (.cells (ints xs) 3)).heap.size 1 encI (some ⟨w.heap.size, 0, none⟩) xs.length xs :=
  IntB.rd (g := w.heap.size) (show IntB _ _ _ from heap_alloc_new w _) (by simp)
theorem bld_new (w : World) (B : Nat) (hB : B ≤ w.heap.size) : Bld B w.heap.size [] (w.alloc (.cells #[.pointer none, .slice none 0 0] 95)) :=
  .inl ⟨hB, _, heap_alloc_new w _, World.ownsRowF_nil _ _ _ _, by simp [Value.ownBlock]⟩
theorem obj_others {w w' : World} {b k : Nat} {u : TypeId} {es : Array MapEntry} {c : Nat} (h : w.heap[k]? = some (.map es c)) (ho : Lib.OthersKept u (some b) w w') (hk : k ≠ b) : w'.heap[k]? = some (.map es c) :=
  ho k _ h (fun e => hk (by cases e; rfl)) (fun c fz e => by cases e)
set_option maxRecDepth 100000 in
set_option maxHeartbeats 4000000 in
theorem format_ok (p : Plt) (w : World) (hp : PltIn w w.heap.size p) (hc : check p = 0) (hP : Pow w) :
    Calls Tryz.prog 19 #[p.val] w fun e w' => e = .returned (.tuple #[.string (ba (formatL p)), .int .i64 0]) ∧ Below w.heap.size w w' := by
  have HF := Lib.hid (fmtOk_of hc hp)
  have HP := Lib.hid hp
  have HPow := Lib.hid hP
  have C := Lib.hid (fun W hp => check_any p W hp)
  rw [hc] at C
  have SP := Lib.hid (fun A n c l w hl hn h64 hP => spaced_any A n c l w hl hn h64 hP)
  have LI := Lib.hid (fun base B b n c A ws l w h hn hl hb => line_any base B b n c A ws l w h hn hl hb)
  have SW := Lib.hid (fun W => sourceWords_any W)
  have LW := Lib.hid (fun W => linkWords_any W)
  clear hp hc hP
  unfold Plt.val at C ⊢
  go_enter Tryz.func19, Tryz.ntmps19
  go_wp2_with fail
  refine (C.out _ (HP.out.next (by (repeat' (first | (with_reducible exact Below.refl _ _) | (with_reducible assumption) | (with_reducible refine below_drewN ?_ _) | (with_reducible refine below_after (by assumption) ?_ ?_) | (with_reducible refine Below.drew ?_) | (with_reducible refine Below.alloc ?_ ?_ _) | (with_reducible refine Below.setCell ?_ ?_ _) | omega | (simp; omega) | (simp; done)))))).mono ?_
  rintro e w1 ⟨rfl, hB1⟩
  obtain ⟨hc1, hf1⟩ := bcell hB1
  have hz1 := hB1.size
  simp only [World.size_alloc] at hz1
  have y0 : w.heap.size < w1.heap.size := by omega
  go_wp2_with fail
  obtain ⟨wa, hwa⟩ : ∃ wa, ((w1.alloc (.cells #[.pointer none, .slice none 0 0] 95)).alloc (.cells #[.int .i64 p.buses] 3)) = wa := ⟨_, rfl⟩
  have hBa : Below w.heap.size w wa := by rw [← hwa]; (repeat' (first | (with_reducible exact Below.refl _ _) | (with_reducible assumption) | (with_reducible refine below_drewN ?_ _) | (with_reducible refine below_after (by assumption) ?_ ?_) | (with_reducible refine Below.drew ?_) | (with_reducible refine Below.alloc ?_ ?_ _) | (with_reducible refine Below.setCell ?_ ?_ _) | omega | (simp; omega) | (simp; done)))
  have hbl : Bld w.heap.size w1.heap.size [] wa := by
    have h1 := bld_new w1 w.heap.size (by omega)
    rw [← hwa]
    exact h1.below ((Below.refl _ _).alloc (Nat.le_refl _) _)
  have hrd : Rd wa wa.heap.size 1 encI (some ⟨w1.heap.size + 1, 0, none⟩) 1 [p.buses] := by
    have h1 := rd_new (w1.alloc (.cells #[.pointer none, .slice none 0 0] 95)) [p.buses]
    simp only [World.size_alloc] at h1
    rw [← hwa]
    simpa [ints] using h1
  have hbx : Blk wa w.heap.size 26 #[.int .i64 p.buses, .slice p.sA p.sn p.sc, .slice p.lA p.ln p.lc, .slice p.rA p.rn p.rc] := by
    have h0 := heap_alloc_new w (.cells #[.int .i64 p.buses, .slice p.sA p.sn p.sc, .slice p.lA p.ln p.lc, .slice p.rA p.rn p.rc] 26)
    have h1 : Blk w1 w.heap.size 26 #[.int .i64 p.buses, .slice p.sA p.sn p.sc, .slice p.lA p.ln p.lc, .slice p.rA p.rn p.rc] := (hB1.block _ (by simp)).trans h0
    rw [← hwa]
    exact (h1.alloc _).alloc _
  have hza : wa.heap.size = w1.heap.size + 2 := by rw [← hwa]; simp
  rw [hwa]
  clear hwa hc1 hf1 C hB1
  have HA := Lib.hid (And.intro hBa (And.intro hbl hbx))
  refine (SP.out _ _ 1 _ _ hrd (by omega) (by intro x hx; simp only [List.mem_cons, List.mem_nil_iff, or_false] at hx; subst hx; exact HF.out.buses) (HPow.out.from_ hBa (Nat.le_refl _))).mono ?_
  rintro e w2 ⟨rfl, hB2⟩
  clear hBa hbl hbx hrd
  have hz2 := hB2.size
  have HB2 := Lib.hid hB2
  have hlw : ∀ x ∈ [wPlant, spacedL [p.buses]], x.length ≤ 100 := by
    intro x hx
    simp only [List.mem_cons, List.mem_nil_iff, or_false] at hx
    rcases hx with rfl | rfl
    · decide
    · have h1 := spacedL_length [p.buses] (by intro x hx; simp only [List.mem_cons, List.mem_nil_iff, or_false] at hx; subst hx; exact HF.out.buses)
      simp only [List.length_cons, List.length_nil] at h1
      omega
  have HL := Lib.hid (lineOf_length _ hlw)
  clear hB2 hlw
  go_wp2_with fail
  have hL1 := HL.out
  simp only [List.length_cons, List.length_nil] at hL1
  refine (LI.out w2.heap.size w.heap.size w1.heap.size 2 2 (some ⟨w2.heap.size, 0, none⟩) [wPlant, spacedL [p.buses]] [] _ (own_new w2 w2.heap.size 2 9 (strVals [wPlant, spacedL [p.buses]]) (Nat.le_refl _) rfl (by decide)) (by omega) (by simp only [List.length_nil]; omega) ((HA.out.2.1.below HB2.out).below ((Below.refl _ _).alloc (Nat.le_refl _) _))).mono ?_
  rintro e w3 ⟨rfl, hb3, hB3, ho3⟩
  have hz3 := hB3.size
  have HB3 : Hid (Below w.heap.size w w3 ∧ Bld w.heap.size w1.heap.size (headL p) w3 ∧ Blk w3 w.heap.size 26 #[.int .i64 p.buses, .slice p.sA p.sn p.sc, .slice p.lA p.ln p.lc, .slice p.rA p.rn p.rc] ∧ (headL p).length ≤ 1000) := by
    refine Lib.hid ⟨?_, ?_, ?_, ?_⟩
    · have h1 := HA.out.1.trans (HB2.out.mono (by omega))
      exact (h1.alloc h1.size _).trans hB3
    · simpa [headL] using hb3
    · have h1 : Blk w2 w.heap.size 26 _ := HA.out.2.2.below HB2.out HA.out.2.2.lt
      exact blk_others (h1.alloc _) ho3 (by decide) (by omega)
    · unfold headL
      omega
  clear hb3 hB3 ho3 HL hL1
  go_wp2_with fail
  refine (SW.out _).mono ?_
  rintro e w4 ⟨rfl, hB4, hm4⟩
  have hz4 := hB4.size
  have HM4 := Lib.hid (And.intro hB4 hm4)
  clear hB4 hm4
  go_wp2_with fail
  refine (LW.out _).mono ?_
  rintro e w5 ⟨rfl, hB5, hm5⟩
  have zbx := HB3.out.2.2.1.lt
  have zbb := HB3.out.2.1.lt
  have HX : Hid (Below w.heap.size w w5 ∧ Blk w5 w.heap.size 26 #[.int .i64 p.buses, .slice p.sA p.sn p.sc, .slice p.lA p.ln p.lc, .slice p.rA p.rn p.rc] ∧ w5.heap[w3.heap.size]? = some (.map srcMap 3) ∧ w5.heap[w4.heap.size]? = some (.map lnkMap 3) ∧ Bld w.heap.size w1.heap.size (headL p) w5 ∧ (headL p).length ≤ 1000) := by
    obtain ⟨h1, h2, h3, h4⟩ := HB3.out
    obtain ⟨h5, h6⟩ := HM4.out
    have h35 := h5.trans (hB5.mono h5.size)
    have hlt : w3.heap.size < w4.heap.size := (Array.getElem?_eq_some_iff.1 h6).1
    exact Lib.hid ⟨h1.trans (h35.mono h1.size), h3.below h35 h3.lt, (hB5.block _ hlt).trans h6, hm5, h2.below h35, h4⟩
  have hz5 := hB5.size
  have hlt34 : w3.heap.size < w4.heap.size := (Array.getElem?_eq_some_iff.1 HM4.out.2).1
  have hlt45 : w4.heap.size < w5.heap.size := (Array.getElem?_eq_some_iff.1 hm5).1
  have c1 : w5.cell? ⟨w.heap.size, 1, none⟩ = some (.slice p.sA p.sn p.sc) := HX.out.2.1.cell 1
  clear hB5 hm5 HM4 HB3 HB2 HA SW LW
  have HW0 : Hid (FmtW w w1.heap.size w3.heap.size w4.heap.size p (headL p) w5) := ⟨HX.out.1, HX.out.2.1, HX.out.2.2.1, HX.out.2.2.2.1, HX.out.2.2.2.2.1⟩
  have hhl := HX.out.2.2.2.2.2
  have hmb1 : w3.heap.size ≠ w1.heap.size := by omega
  have hmb2 : w4.heap.size ≠ w1.heap.size := by omega
  have hpb : w.heap.size ≠ w1.heap.size := by omega
  have IT := Lib.hid (fun n h0 h1 w hP => itoa_any n h0 h1 w hP)
  clear HX
  go_wp2
  go_loopw [36] (fun i wr => ∃ k : Nat, k ≤ p.sn ∧ i = .int .i64 k ∧ w5.heap.size ≤ wr.heap.size ∧ Hid (FmtW w w1.heap.size w3.heap.size w4.heap.size p (headL p ++ (p.srcs.take k).flatMap (fun x => lineOf (srcWs x))) wr) ∧ (headL p ++ (p.srcs.take k).flatMap (fun x => lineOf (srcWs x))).length ≤ 1000 + 1000 * k) (fun i _ => p.sn - (intOf i).toNat)
  case atStart => exact ⟨0, by omega, rfl, Nat.le_refl _, by simpa using HW0, by simpa using hhl⟩
  case round =>
    obtain ⟨k, hk, rfl, hz', hE, hln⟩ := hrel
    obtain ⟨l, hl⟩ : ∃ l, headL p ++ (p.srcs.take k).flatMap (fun x => lineOf (srcWs x)) = l := ⟨_, rfl⟩
    rw [hl] at hE hln
    have HLL := Lib.hid hl
    by_cases hlt : k < p.sn
    · obtain ⟨b, off, x, e1, hb, hx, hcx⟩ := (HP.out.below hE.out.below).src.at_ hlt
      obtain ⟨d0, d1, d2, d3, d4⟩ := Src.cells hcx
      have hx6 := HF.out.srcs x (List.mem_of_getElem? hx)
      have hsn := HF.out.sn
      have HXX := Lib.hid hx
      rw [e1]
      have hk0 : (0 : Int) ≤ (k : Int) := by omega
      have hkn : (k : Int) < (p.sn : Int) := by omega
      have HFA : Hid (FmtW w w1.heap.size w3.heap.size w4.heap.size p l (wr.alloc (.cells #[.int .i64 x.bus, .int .i64 x.kind, .int .i64 x.power, .int .i64 x.sync, .int .i64 x.ohm] 110))) := hE.out.next ((Below.refl _ _).alloc (Nat.le_refl _) _)
      have HBx : Hid (Blk (wr.alloc (.cells #[.int .i64 x.bus, .int .i64 x.kind, .int .i64 x.power, .int .i64 x.sync, .int .i64 x.ohm] 110)) wr.heap.size 110 #[.int .i64 x.bus, .int .i64 x.kind, .int .i64 x.power, .int .i64 x.sync, .int .i64 x.ohm]) := Lib.hid (heap_alloc_new wr _)
      have HM := Lib.hid HFA.out.m1
      have hbb := hE.out.text.lt
      have hBxb : wr.heap.size ≠ w1.heap.size := by omega
      have HL : Hid ((Lib.join (srcWs x) [32]).length ≤ (srcWs x).length * 101 ∧ (lineOf (srcWs x)).length ≤ (srcWs x).length * 101 + 1) := Lib.hid (lineOf_length _ (by
        intro z hz
        simp only [srcWs, List.mem_cons, List.mem_nil_iff, or_false] at hz
        rcases hz with rfl | rfl | rfl | rfl
        · decide
        · have h1 := spacedL_length [x.bus] (by intro z hz; simp only [List.mem_cons, List.mem_nil_iff, or_false] at hz; subst hz; exact hx6.2.1)
          simp only [List.length_cons, List.length_nil] at h1
          omega
        · exact srcWord_length _
        · have h1 := spacedL_length [x.power, x.sync, x.ohm] (by intro z hz; simp only [List.mem_cons, List.mem_nil_iff, or_false] at hz; rcases hz with rfl | rfl | rfl; exact hx6.2.2.1; exact hx6.2.2.2.1; exact hx6.2.2.2.2)
          simp only [List.length_cons, List.length_nil] at h1
          omega))
      clear hx hcx hl
      go_wp2
      refine wp_region_free3 [some 40, some 41, some 42, some 43, some 44, some 45, some 46, some 47, some 48, some 49, some 50, some 51, some 52, some 53, some 54, some 55, some 56, some 57, some 58] [(6, .func (.func 46) #[] #[.pointer (some ⟨w1.heap.size, 0, none⟩)]), (7, .map (some w3.heap.size)), (10, .pointer (some ⟨wr.heap.size, 0, none⟩))] [] 18 (LineR w (wr.alloc (.cells #[.int .i64 x.bus, .int .i64 x.kind, .int .i64 x.power, .int .i64 x.sync, .int .i64 x.ohm] 110)) w1.heap.size l (l ++ lineOf (srcWs x))) (lgs (wr.heap.size + 1) [.is (.func (.func 46) #[] #[.pointer (some ⟨w1.heap.size, 0, none⟩)]), .is (.pointer (some ⟨wr.heap.size, 0, none⟩)), .is (.int .i64 x.bus), .ints [x.bus], .is (.string (ba (spacedL [x.bus]))), .is (.map (some w3.heap.size)), .is (.pointer (some ⟨wr.heap.size, 1, none⟩)), .is (.int .i64 x.kind), .is (.string (ba (srcWord x.kind))), .is (.pointer (some ⟨wr.heap.size, 2, none⟩)), .is (.int .i64 x.power), .is (.pointer (some ⟨wr.heap.size, 3, none⟩)), .is (.int .i64 x.sync), .is (.pointer (some ⟨wr.heap.size, 4, none⟩)), .is (.int .i64 x.ohm), .ints [x.power, x.sync, x.ohm], .is (.string (ba (spacedL [x.power, x.sync, x.ohm]))), .strs (srcWs x), .any]) (by kernel_rfl) (by kernel_rfl) rfl ?_ (by kernel_rfl) ?_ ?_ (by kernel_rfl) ?_ ?_
      · intro q hq
        simp only [List.mem_cons, List.mem_nil_iff, or_false] at hq
        rcases hq with rfl | rfl | rfl <;> rfl
      · intro i v W hi h
        exact absurd hi (by
          intro e
          have := List.mem_of_getElem? e
          simp at this)
      · exact ⟨⟨HFA.out.below.drew, fun _ _ h _ _ => h, Nat.le_refl _⟩, HFA.out.text⟩
      · refine ⟨?_, ?_, ?_, ?_, ?_, ?_, ?_, ?_, ?_, ?_, ?_, ?_, ?_, ?_, ?_, ?_, ?_, ?_, ?_, trivial⟩
        · intro a W c ev hct hc0 hfn hfx hR hpre K hK
          have f6 := hfx (6, .func (.func 46) #[] #[.pointer (some ⟨w1.heap.size, 0, none⟩)]) (by simp) (by kernel_rfl)
          replace f6 : ev (.tmp 6) = .func (.func 46) #[] #[.pointer (some ⟨w1.heap.size, 0, none⟩)] := f6
          have f7 := hfx (7, .map (some w3.heap.size)) (by simp) (by kernel_rfl)
          replace f7 : ev (.tmp 7) = .map (some w3.heap.size) := f7
          have f10 := hfx (10, .pointer (some ⟨wr.heap.size, 0, none⟩)) (by simp) (by kernel_rfl)
          replace f10 : ev (.tmp 10) = .pointer (some ⟨wr.heap.size, 0, none⟩) := f10
          clear hfx
          clear hpre hfn
          go_simp
          exact hK _ _ (by simpa using hR) (fun _ _ _ h => h) rfl
        · intro a W c ev hct hc0 hfn hfx hR hpre K hK
          have f6 := hfx (6, .func (.func 46) #[] #[.pointer (some ⟨w1.heap.size, 0, none⟩)]) (by simp) (by kernel_rfl)
          replace f6 : ev (.tmp 6) = .func (.func 46) #[] #[.pointer (some ⟨w1.heap.size, 0, none⟩)] := f6
          have f7 := hfx (7, .map (some w3.heap.size)) (by simp) (by kernel_rfl)
          replace f7 : ev (.tmp 7) = .map (some w3.heap.size) := f7
          have f10 := hfx (10, .pointer (some ⟨wr.heap.size, 0, none⟩)) (by simp) (by kernel_rfl)
          replace f10 : ev (.tmp 10) = .pointer (some ⟨wr.heap.size, 0, none⟩) := f10
          clear hfx
          clear hpre hfn
          go_simp
          exact hK _ _ (by simpa using hR) (fun _ _ _ h => h) rfl
        · intro a W c ev hct hc0 hfn hfx hR hpre K hK
          have f6 := hfx (6, .func (.func 46) #[] #[.pointer (some ⟨w1.heap.size, 0, none⟩)]) (by simp) (by kernel_rfl)
          replace f6 : ev (.tmp 6) = .func (.func 46) #[] #[.pointer (some ⟨w1.heap.size, 0, none⟩)] := f6
          have f7 := hfx (7, .map (some w3.heap.size)) (by simp) (by kernel_rfl)
          replace f7 : ev (.tmp 7) = .map (some w3.heap.size) := f7
          have f10 := hfx (10, .pointer (some ⟨wr.heap.size, 0, none⟩)) (by simp) (by kernel_rfl)
          replace f10 : ev (.tmp 10) = .pointer (some ⟨wr.heap.size, 0, none⟩) := f10
          clear hfx
          have p := hpre 1 (by simp)
          replace p : ev (.tmp 41) = .pointer (some ⟨wr.heap.size, 0, none⟩) := p
          have cx : W.cell? ⟨wr.heap.size, 0, none⟩ = some (.int .i64 x.bus) := (blk_others HBx.out hR.1.2.1 (by decide) hBxb).cell 0
          clear hpre hfn
          go_simp
          exact hK _ _ (by simpa using hR) (fun _ _ _ h => h) rfl
        · intro a W c ev hct hc0 hfn hfx hR hpre K hK
          have f6 := hfx (6, .func (.func 46) #[] #[.pointer (some ⟨w1.heap.size, 0, none⟩)]) (by simp) (by kernel_rfl)
          replace f6 : ev (.tmp 6) = .func (.func 46) #[] #[.pointer (some ⟨w1.heap.size, 0, none⟩)] := f6
          have f7 := hfx (7, .map (some w3.heap.size)) (by simp) (by kernel_rfl)
          replace f7 : ev (.tmp 7) = .map (some w3.heap.size) := f7
          have f10 := hfx (10, .pointer (some ⟨wr.heap.size, 0, none⟩)) (by simp) (by kernel_rfl)
          replace f10 : ev (.tmp 10) = .pointer (some ⟨wr.heap.size, 0, none⟩) := f10
          clear hfx
          have p0 := hpre 2 (by simp)
          replace p0 : ev (.tmp 42) = .int .i64 x.bus := p0
          have hz : (wr.heap.size + 1) ≤ W.heap.size := by simpa using hR.1.2.2
          clear hpre hfn
          go_simp
          exact hK _ _ (by simpa using hR.next ((Below.refl _ _).alloc (Nat.le_refl _) _)) (fun j u _ => lgs_grown (World.grownBy_alloc _ _ none) j u) (own_new W _ 1 3 (([x.bus]).map (Value.int .i64)) hz rfl (by decide))
        · intro a W c ev hct hc0 hfn hfx hR hpre K hK
          have f6 := hfx (6, .func (.func 46) #[] #[.pointer (some ⟨w1.heap.size, 0, none⟩)]) (by simp) (by kernel_rfl)
          replace f6 : ev (.tmp 6) = .func (.func 46) #[] #[.pointer (some ⟨w1.heap.size, 0, none⟩)] := f6
          have f7 := hfx (7, .map (some w3.heap.size)) (by simp) (by kernel_rfl)
          replace f7 : ev (.tmp 7) = .map (some w3.heap.size) := f7
          have f10 := hfx (10, .pointer (some ⟨wr.heap.size, 0, none⟩)) (by simp) (by kernel_rfl)
          replace f10 : ev (.tmp 10) = .pointer (some ⟨wr.heap.size, 0, none⟩) := f10
          clear hfx
          have p := hpre 3 (by simp)
          obtain ⟨A, cc, e, rd⟩ := ints_rd (n := 1) (show W.ownsRow (wr.heap.size + 1) 3 1 (ev (.tmp 43)) _ _ from p) rfl
          have CC := Lib.hid (SP.out A 1 cc _ W rd (by omega) (by intro z hz; simp only [List.mem_cons, List.mem_nil_iff, or_false] at hz; subst hz; exact hx6.2.1) (HPow.out.from_ (hR.1.1) (Nat.le_refl _)))
          clear p rd hpre
          go_simp
          refine CC.out.mono ?_
          rintro e5 W5 ⟨rfl, hB5⟩
          exact hK _ _ (by simpa using hR.next hB5) (fun j u _ => lgs_grown (grown_of_below hB5) j u) rfl
        · intro a W c ev hct hc0 hfn hfx hR hpre K hK
          have f6 := hfx (6, .func (.func 46) #[] #[.pointer (some ⟨w1.heap.size, 0, none⟩)]) (by simp) (by kernel_rfl)
          replace f6 : ev (.tmp 6) = .func (.func 46) #[] #[.pointer (some ⟨w1.heap.size, 0, none⟩)] := f6
          have f7 := hfx (7, .map (some w3.heap.size)) (by simp) (by kernel_rfl)
          replace f7 : ev (.tmp 7) = .map (some w3.heap.size) := f7
          have f10 := hfx (10, .pointer (some ⟨wr.heap.size, 0, none⟩)) (by simp) (by kernel_rfl)
          replace f10 : ev (.tmp 10) = .pointer (some ⟨wr.heap.size, 0, none⟩) := f10
          clear hfx
          clear hpre hfn
          go_simp
          exact hK _ _ (by simpa using hR) (fun _ _ _ h => h) rfl
        · intro a W c ev hct hc0 hfn hfx hR hpre K hK
          have f6 := hfx (6, .func (.func 46) #[] #[.pointer (some ⟨w1.heap.size, 0, none⟩)]) (by simp) (by kernel_rfl)
          replace f6 : ev (.tmp 6) = .func (.func 46) #[] #[.pointer (some ⟨w1.heap.size, 0, none⟩)] := f6
          have f7 := hfx (7, .map (some w3.heap.size)) (by simp) (by kernel_rfl)
          replace f7 : ev (.tmp 7) = .map (some w3.heap.size) := f7
          have f10 := hfx (10, .pointer (some ⟨wr.heap.size, 0, none⟩)) (by simp) (by kernel_rfl)
          replace f10 : ev (.tmp 10) = .pointer (some ⟨wr.heap.size, 0, none⟩) := f10
          clear hfx
          clear hpre hfn
          go_simp
          exact hK _ _ (by simpa using hR) (fun _ _ _ h => h) rfl
        · intro a W c ev hct hc0 hfn hfx hR hpre K hK
          have f6 := hfx (6, .func (.func 46) #[] #[.pointer (some ⟨w1.heap.size, 0, none⟩)]) (by simp) (by kernel_rfl)
          replace f6 : ev (.tmp 6) = .func (.func 46) #[] #[.pointer (some ⟨w1.heap.size, 0, none⟩)] := f6
          have f7 := hfx (7, .map (some w3.heap.size)) (by simp) (by kernel_rfl)
          replace f7 : ev (.tmp 7) = .map (some w3.heap.size) := f7
          have f10 := hfx (10, .pointer (some ⟨wr.heap.size, 0, none⟩)) (by simp) (by kernel_rfl)
          replace f10 : ev (.tmp 10) = .pointer (some ⟨wr.heap.size, 0, none⟩) := f10
          clear hfx
          have p := hpre 6 (by simp)
          replace p : ev (.tmp 46) = .pointer (some ⟨wr.heap.size, 1, none⟩) := p
          have cx : W.cell? ⟨wr.heap.size, 1, none⟩ = some (.int .i64 x.kind) := (blk_others HBx.out hR.1.2.1 (by decide) hBxb).cell 1
          clear hpre hfn
          go_simp
          exact hK _ _ (by simpa using hR) (fun _ _ _ h => h) rfl
        · intro a W c ev hct hc0 hfn hfx hR hpre K hK
          have f6 := hfx (6, .func (.func 46) #[] #[.pointer (some ⟨w1.heap.size, 0, none⟩)]) (by simp) (by kernel_rfl)
          replace f6 : ev (.tmp 6) = .func (.func 46) #[] #[.pointer (some ⟨w1.heap.size, 0, none⟩)] := f6
          have f7 := hfx (7, .map (some w3.heap.size)) (by simp) (by kernel_rfl)
          replace f7 : ev (.tmp 7) = .map (some w3.heap.size) := f7
          have f10 := hfx (10, .pointer (some ⟨wr.heap.size, 0, none⟩)) (by simp) (by kernel_rfl)
          replace f10 : ev (.tmp 10) = .pointer (some ⟨wr.heap.size, 0, none⟩) := f10
          clear hfx
          have p := hpre 5 (by simp)
          replace p : ev (.tmp 45) = .map (some w3.heap.size) := p
          have q := hpre 7 (by simp)
          replace q : ev (.tmp 47) = .int .i64 x.kind := q
          have e9 := look_src (obj_others HM.out hR.1.2.1 hmb1) x.kind hx6.1.1 hx6.1.2
          clear hpre hfn
          go_simp
          exact hK _ _ (by simpa using hR) (fun _ _ _ h => h) rfl
        · intro a W c ev hct hc0 hfn hfx hR hpre K hK
          have f6 := hfx (6, .func (.func 46) #[] #[.pointer (some ⟨w1.heap.size, 0, none⟩)]) (by simp) (by kernel_rfl)
          replace f6 : ev (.tmp 6) = .func (.func 46) #[] #[.pointer (some ⟨w1.heap.size, 0, none⟩)] := f6
          have f7 := hfx (7, .map (some w3.heap.size)) (by simp) (by kernel_rfl)
          replace f7 : ev (.tmp 7) = .map (some w3.heap.size) := f7
          have f10 := hfx (10, .pointer (some ⟨wr.heap.size, 0, none⟩)) (by simp) (by kernel_rfl)
          replace f10 : ev (.tmp 10) = .pointer (some ⟨wr.heap.size, 0, none⟩) := f10
          clear hfx
          clear hpre hfn
          go_simp
          exact hK _ _ (by simpa using hR) (fun _ _ _ h => h) rfl
        · intro a W c ev hct hc0 hfn hfx hR hpre K hK
          have f6 := hfx (6, .func (.func 46) #[] #[.pointer (some ⟨w1.heap.size, 0, none⟩)]) (by simp) (by kernel_rfl)
          replace f6 : ev (.tmp 6) = .func (.func 46) #[] #[.pointer (some ⟨w1.heap.size, 0, none⟩)] := f6
          have f7 := hfx (7, .map (some w3.heap.size)) (by simp) (by kernel_rfl)
          replace f7 : ev (.tmp 7) = .map (some w3.heap.size) := f7
          have f10 := hfx (10, .pointer (some ⟨wr.heap.size, 0, none⟩)) (by simp) (by kernel_rfl)
          replace f10 : ev (.tmp 10) = .pointer (some ⟨wr.heap.size, 0, none⟩) := f10
          clear hfx
          have p := hpre 9 (by simp)
          replace p : ev (.tmp 49) = .pointer (some ⟨wr.heap.size, 2, none⟩) := p
          have cx : W.cell? ⟨wr.heap.size, 2, none⟩ = some (.int .i64 x.power) := (blk_others HBx.out hR.1.2.1 (by decide) hBxb).cell 2
          clear hpre hfn
          go_simp
          exact hK _ _ (by simpa using hR) (fun _ _ _ h => h) rfl
        · intro a W c ev hct hc0 hfn hfx hR hpre K hK
          have f6 := hfx (6, .func (.func 46) #[] #[.pointer (some ⟨w1.heap.size, 0, none⟩)]) (by simp) (by kernel_rfl)
          replace f6 : ev (.tmp 6) = .func (.func 46) #[] #[.pointer (some ⟨w1.heap.size, 0, none⟩)] := f6
          have f7 := hfx (7, .map (some w3.heap.size)) (by simp) (by kernel_rfl)
          replace f7 : ev (.tmp 7) = .map (some w3.heap.size) := f7
          have f10 := hfx (10, .pointer (some ⟨wr.heap.size, 0, none⟩)) (by simp) (by kernel_rfl)
          replace f10 : ev (.tmp 10) = .pointer (some ⟨wr.heap.size, 0, none⟩) := f10
          clear hfx
          clear hpre hfn
          go_simp
          exact hK _ _ (by simpa using hR) (fun _ _ _ h => h) rfl
        · intro a W c ev hct hc0 hfn hfx hR hpre K hK
          have f6 := hfx (6, .func (.func 46) #[] #[.pointer (some ⟨w1.heap.size, 0, none⟩)]) (by simp) (by kernel_rfl)
          replace f6 : ev (.tmp 6) = .func (.func 46) #[] #[.pointer (some ⟨w1.heap.size, 0, none⟩)] := f6
          have f7 := hfx (7, .map (some w3.heap.size)) (by simp) (by kernel_rfl)
          replace f7 : ev (.tmp 7) = .map (some w3.heap.size) := f7
          have f10 := hfx (10, .pointer (some ⟨wr.heap.size, 0, none⟩)) (by simp) (by kernel_rfl)
          replace f10 : ev (.tmp 10) = .pointer (some ⟨wr.heap.size, 0, none⟩) := f10
          clear hfx
          have p := hpre 11 (by simp)
          replace p : ev (.tmp 51) = .pointer (some ⟨wr.heap.size, 3, none⟩) := p
          have cx : W.cell? ⟨wr.heap.size, 3, none⟩ = some (.int .i64 x.sync) := (blk_others HBx.out hR.1.2.1 (by decide) hBxb).cell 3
          clear hpre hfn
          go_simp
          exact hK _ _ (by simpa using hR) (fun _ _ _ h => h) rfl
        · intro a W c ev hct hc0 hfn hfx hR hpre K hK
          have f6 := hfx (6, .func (.func 46) #[] #[.pointer (some ⟨w1.heap.size, 0, none⟩)]) (by simp) (by kernel_rfl)
          replace f6 : ev (.tmp 6) = .func (.func 46) #[] #[.pointer (some ⟨w1.heap.size, 0, none⟩)] := f6
          have f7 := hfx (7, .map (some w3.heap.size)) (by simp) (by kernel_rfl)
          replace f7 : ev (.tmp 7) = .map (some w3.heap.size) := f7
          have f10 := hfx (10, .pointer (some ⟨wr.heap.size, 0, none⟩)) (by simp) (by kernel_rfl)
          replace f10 : ev (.tmp 10) = .pointer (some ⟨wr.heap.size, 0, none⟩) := f10
          clear hfx
          clear hpre hfn
          go_simp
          exact hK _ _ (by simpa using hR) (fun _ _ _ h => h) rfl
        · intro a W c ev hct hc0 hfn hfx hR hpre K hK
          have f6 := hfx (6, .func (.func 46) #[] #[.pointer (some ⟨w1.heap.size, 0, none⟩)]) (by simp) (by kernel_rfl)
          replace f6 : ev (.tmp 6) = .func (.func 46) #[] #[.pointer (some ⟨w1.heap.size, 0, none⟩)] := f6
          have f7 := hfx (7, .map (some w3.heap.size)) (by simp) (by kernel_rfl)
          replace f7 : ev (.tmp 7) = .map (some w3.heap.size) := f7
          have f10 := hfx (10, .pointer (some ⟨wr.heap.size, 0, none⟩)) (by simp) (by kernel_rfl)
          replace f10 : ev (.tmp 10) = .pointer (some ⟨wr.heap.size, 0, none⟩) := f10
          clear hfx
          have p := hpre 13 (by simp)
          replace p : ev (.tmp 53) = .pointer (some ⟨wr.heap.size, 4, none⟩) := p
          have cx : W.cell? ⟨wr.heap.size, 4, none⟩ = some (.int .i64 x.ohm) := (blk_others HBx.out hR.1.2.1 (by decide) hBxb).cell 4
          clear hpre hfn
          go_simp
          exact hK _ _ (by simpa using hR) (fun _ _ _ h => h) rfl
        · intro a W c ev hct hc0 hfn hfx hR hpre K hK
          have f6 := hfx (6, .func (.func 46) #[] #[.pointer (some ⟨w1.heap.size, 0, none⟩)]) (by simp) (by kernel_rfl)
          replace f6 : ev (.tmp 6) = .func (.func 46) #[] #[.pointer (some ⟨w1.heap.size, 0, none⟩)] := f6
          have f7 := hfx (7, .map (some w3.heap.size)) (by simp) (by kernel_rfl)
          replace f7 : ev (.tmp 7) = .map (some w3.heap.size) := f7
          have f10 := hfx (10, .pointer (some ⟨wr.heap.size, 0, none⟩)) (by simp) (by kernel_rfl)
          replace f10 : ev (.tmp 10) = .pointer (some ⟨wr.heap.size, 0, none⟩) := f10
          clear hfx
          have p0 := hpre 10 (by simp)
          replace p0 : ev (.tmp 50) = .int .i64 x.power := p0
          have p1 := hpre 12 (by simp)
          replace p1 : ev (.tmp 52) = .int .i64 x.sync := p1
          have p2 := hpre 14 (by simp)
          replace p2 : ev (.tmp 54) = .int .i64 x.ohm := p2
          have hz : (wr.heap.size + 1) ≤ W.heap.size := by simpa using hR.1.2.2
          clear hpre hfn
          go_simp
          exact hK _ _ (by simpa using hR.next ((Below.refl _ _).alloc (Nat.le_refl _) _)) (fun j u _ => lgs_grown (World.grownBy_alloc _ _ none) j u) (own_new W _ 3 3 (([x.power, x.sync, x.ohm]).map (Value.int .i64)) hz rfl (by decide))
        · intro a W c ev hct hc0 hfn hfx hR hpre K hK
          have f6 := hfx (6, .func (.func 46) #[] #[.pointer (some ⟨w1.heap.size, 0, none⟩)]) (by simp) (by kernel_rfl)
          replace f6 : ev (.tmp 6) = .func (.func 46) #[] #[.pointer (some ⟨w1.heap.size, 0, none⟩)] := f6
          have f7 := hfx (7, .map (some w3.heap.size)) (by simp) (by kernel_rfl)
          replace f7 : ev (.tmp 7) = .map (some w3.heap.size) := f7
          have f10 := hfx (10, .pointer (some ⟨wr.heap.size, 0, none⟩)) (by simp) (by kernel_rfl)
          replace f10 : ev (.tmp 10) = .pointer (some ⟨wr.heap.size, 0, none⟩) := f10
          clear hfx
          have p := hpre 15 (by simp)
          obtain ⟨A, cc, e, rd⟩ := ints_rd (n := 3) (show W.ownsRow (wr.heap.size + 1) 3 1 (ev (.tmp 55)) _ _ from p) rfl
          have CC := Lib.hid (SP.out A 3 cc _ W rd (by omega) (by intro z hz; simp only [List.mem_cons, List.mem_nil_iff, or_false] at hz; rcases hz with rfl | rfl | rfl; exact hx6.2.2.1; exact hx6.2.2.2.1; exact hx6.2.2.2.2) (HPow.out.from_ (hR.1.1) (Nat.le_refl _)))
          clear p rd hpre
          go_simp
          refine CC.out.mono ?_
          rintro e5 W5 ⟨rfl, hB5⟩
          exact hK _ _ (by simpa using hR.next hB5) (fun j u _ => lgs_grown (grown_of_below hB5) j u) rfl
        · intro a W c ev hct hc0 hfn hfx hR hpre K hK
          have f6 := hfx (6, .func (.func 46) #[] #[.pointer (some ⟨w1.heap.size, 0, none⟩)]) (by simp) (by kernel_rfl)
          replace f6 : ev (.tmp 6) = .func (.func 46) #[] #[.pointer (some ⟨w1.heap.size, 0, none⟩)] := f6
          have f7 := hfx (7, .map (some w3.heap.size)) (by simp) (by kernel_rfl)
          replace f7 : ev (.tmp 7) = .map (some w3.heap.size) := f7
          have f10 := hfx (10, .pointer (some ⟨wr.heap.size, 0, none⟩)) (by simp) (by kernel_rfl)
          replace f10 : ev (.tmp 10) = .pointer (some ⟨wr.heap.size, 0, none⟩) := f10
          clear hfx
          have p0 := hpre 4 (by simp)
          replace p0 : ev (.tmp 44) = .string (ba (spacedL [x.bus])) := p0
          have p1 := hpre 8 (by simp)
          replace p1 : ev (.tmp 48) = .string (ba (srcWord x.kind)) := p1
          have p2 := hpre 16 (by simp)
          replace p2 : ev (.tmp 56) = .string (ba (spacedL [x.power, x.sync, x.ohm])) := p2
          have hz : (wr.heap.size + 1) ≤ W.heap.size := by simpa using hR.1.2.2
          clear hpre hfn
          go_simp
          exact hK _ _ (by simpa using hR.next ((Below.refl _ _).alloc (Nat.le_refl _) _)) (fun j u _ => lgs_grown (World.grownBy_alloc _ _ none) j u) (own_new W _ 4 9 (strVals (srcWs x)) hz rfl (by decide))
        · intro a W c ev hct hc0 hfn hfx hR hpre K hK
          have f6 := hfx (6, .func (.func 46) #[] #[.pointer (some ⟨w1.heap.size, 0, none⟩)]) (by simp) (by kernel_rfl)
          replace f6 : ev (.tmp 6) = .func (.func 46) #[] #[.pointer (some ⟨w1.heap.size, 0, none⟩)] := f6
          have f7 := hfx (7, .map (some w3.heap.size)) (by simp) (by kernel_rfl)
          replace f7 : ev (.tmp 7) = .map (some w3.heap.size) := f7
          have f10 := hfx (10, .pointer (some ⟨wr.heap.size, 0, none⟩)) (by simp) (by kernel_rfl)
          replace f10 : ev (.tmp 10) = .pointer (some ⟨wr.heap.size, 0, none⟩) := f10
          clear hfx
          have p := hpre 0 (by simp)
          replace p : ev (.tmp 40) = .func (.func 46) #[] #[.pointer (some ⟨w1.heap.size, 0, none⟩)] := p
          have q := hpre 17 (by simp)
          replace q : W.ownsRow (wr.heap.size + 1) 9 1 (ev (.tmp 57)) 4 (strVals (srcWs x)) := q
          obtain ⟨A, cc, e⟩ := row_slice q
          rw [e] at q
          obtain rfl := hct rfl
          have CC := Lib.hid (LI.out (wr.heap.size + 1) w.heap.size w1.heap.size 4 cc A (srcWs x) l W q (by omega) (by have h4 : (srcWs x).length = 4 := rfl; have := HL.out.1; rw [h4] at this; omega) hR.2)
          clear q hpre hfn
          go_simp
          refine CC.out.mono ?_
          rintro e5 W5 ⟨rfl, hb5, hB5, ho5⟩
          exact hK _ _ (hR.line hB5 ho5 hb5) (fun j u _ => lgs_others ho5 (by omega) (by simp) j u) trivial
      intro vs W c hct hvl hR hφ
      obtain rfl := hct (by decide)
      clear hφ
      match vs, hvl with
      | [v0, v1, v2, v3, v4, v5, v6, v7, v8, v9, v10, v11, v12, v13, v14, v15, v16, v17, v18], _ =>
      simp only [putAll, List.setIfInBounds_toArray, List.set_cons_succ, List.set_cons_zero]
      have HR := Lib.hid hR
      have hzR := hR.1.2.2
      clear hR
      go_wp2
      go_roundw
      case rel =>
        refine ⟨k + 1, by omega, by go_num, by simp at hzR; omega, ?_, ?_⟩
        · refine Lib.hid ?_
          have h := HFA.out.line hpb hmb1 hmb2 HR.out
          rw [List.take_add_one, HXX.out]
          simpa [← HLL.out] using h
        · have h1 := HL.out.2
          have h4 : (srcWs x).length = 4 := rfl
          have h2 := congrArg List.length HLL.out
          rw [List.take_add_one, HXX.out]
          rw [h4] at h1
          simp only [List.length_append, List.flatMap_append, Option.toList_some, List.flatMap_cons, List.flatMap_nil, List.append_nil] at h2 ⊢
          omega
      case measure => simp [intOf]; omega
    · obtain rfl : p.sn = k := by omega
      obtain ⟨wr0, ewr⟩ : ∃ x, x = wr := ⟨wr, rfl⟩
      subst ewr
      have htk : p.srcs.take p.sn = p.srcs := by rw [← HP.out.src.1]; exact List.take_length
      obtain ⟨L0, hL0⟩ : ∃ L0, headL p ++ p.srcs.flatMap (fun x => lineOf (srcWs x)) = L0 := ⟨_, rfl⟩
      have e0 : l = L0 := by rw [← hL0, ← HLL.out, htk]
      have HL0 := Lib.hid hL0
      rw [e0] at hE hln
      clear e0 htk hL0 HW0 HLL
      have hln0 : L0.length ≤ 10000 := by have := HF.out.sn; omega
      have c2 : wr0.cell? ⟨w.heap.size, 2, none⟩ = some (.slice p.lA p.ln p.lc) := hE.out.plant.cell 2
      go_wp2
      clear c2
      go_loopw [63] (fun i wr => ∃ k : Nat, k ≤ p.ln ∧ i = .int .i64 k ∧ wr0.heap.size ≤ wr.heap.size ∧ Hid (FmtW w w1.heap.size w3.heap.size w4.heap.size p (L0 ++ (p.lnks.take k).flatMap (fun x => lineOf (lnkWs x))) wr) ∧ (L0 ++ (p.lnks.take k).flatMap (fun x => lineOf (lnkWs x))).length ≤ 10000 + 2000 * k) (fun i _ => p.ln - (intOf i).toNat)
      case atStart => exact ⟨0, by omega, rfl, Nat.le_refl _, by simpa using hE, by simpa using hln0⟩
      case round =>
      obtain ⟨k, hk, rfl, hzq, hEq, hlnq⟩ := hrel
      obtain ⟨l, hl⟩ : ∃ l, L0 ++ (p.lnks.take k).flatMap (fun x => lineOf (lnkWs x)) = l := ⟨_, rfl⟩
      rw [hl] at hEq hlnq
      have HLL := Lib.hid hl
      by_cases hltq : k < p.ln
      · obtain ⟨b, off, x, e1, hb, hx, hcx⟩ := (HP.out.below hEq.out.below).lnk.at_ hltq
        obtain ⟨d0, d1, d2, d3, d4, d5⟩ := Lnk.cells hcx
        have hx6 := HF.out.lnks x (List.mem_of_getElem? hx)
        have hxm := List.mem_of_getElem? hx
        have hlnn := HF.out.ln
        have HXX := Lib.hid hx
        have HXM := Lib.hid hxm
        have htn := (HP.out.trip x hxm).1
        rw [e1]
        have hk0 : (0 : Int) ≤ (k : Int) := by omega
        have hkn : (k : Int) < (p.ln : Int) := by omega
        have HFA : Hid (FmtW w w1.heap.size w3.heap.size w4.heap.size p l (wr.alloc (.cells #[.int .i64 x.a, .int .i64 x.b, .int .i64 x.kind, .int .i64 x.most, .int .i64 x.ohm, .slice x.tA x.tn x.tc] 79))) := hEq.out.next ((Below.refl _ _).alloc (Nat.le_refl _) _)
        have HBx : Hid (Blk (wr.alloc (.cells #[.int .i64 x.a, .int .i64 x.b, .int .i64 x.kind, .int .i64 x.most, .int .i64 x.ohm, .slice x.tA x.tn x.tc] 79)) wr.heap.size 79 #[.int .i64 x.a, .int .i64 x.b, .int .i64 x.kind, .int .i64 x.most, .int .i64 x.ohm, .slice x.tA x.tn x.tc]) := Lib.hid (heap_alloc_new wr _)
        have HM := Lib.hid HFA.out.m2
        have hbb := hEq.out.text.lt
        have hBxb : wr.heap.size ≠ w1.heap.size := by omega
        clear hx hcx hl hxm
        go_wp2
        refine wp_region_free3 [some 67, some 68, some 69, some 70, some 71, some 72, some 73, some 74, some 75, some 76, some 77, some 78, some 79, some 80, some 81, some 82, some 83, some 13] [(8, .map (some w4.heap.size)), (12, .pointer (some ⟨wr.heap.size, 0, none⟩))] [] 99 (LineR w (wr.alloc (.cells #[.int .i64 x.a, .int .i64 x.b, .int .i64 x.kind, .int .i64 x.most, .int .i64 x.ohm, .slice x.tA x.tn x.tc] 79)) w1.heap.size l l) (lgs (wr.heap.size + 1) [.is (.pointer (some ⟨wr.heap.size, 0, none⟩)), .is (.int .i64 x.a), .is (.pointer (some ⟨wr.heap.size, 1, none⟩)), .is (.int .i64 x.b), .ints [x.a, x.b], .is (.string (ba (spacedL [x.a, x.b]))), .is (.map (some w4.heap.size)), .is (.pointer (some ⟨wr.heap.size, 2, none⟩)), .is (.int .i64 x.kind), .is (.string (ba (lnkWord x.kind))), .is (.pointer (some ⟨wr.heap.size, 3, none⟩)), .is (.int .i64 x.most), .is (.pointer (some ⟨wr.heap.size, 4, none⟩)), .is (.int .i64 x.ohm), .ints [x.most, x.ohm], .is (.string (ba (spacedL [x.most, x.ohm]))), .strs (lnkHead x), .strs (lnkHead x)]) (by kernel_rfl) (by kernel_rfl) rfl ?_ (by kernel_rfl) ?_ ?_ (by kernel_rfl) ?_ ?_
        · intro q hq
          simp only [List.mem_cons, List.mem_nil_iff, or_false] at hq
          rcases hq with rfl | rfl <;> rfl
        · intro i v W hi h
          exact absurd hi (by
            intro e
            have := List.mem_of_getElem? e
            simp at this)
        · exact ⟨⟨HFA.out.below.drew, fun _ _ h _ _ => h, Nat.le_refl _⟩, by rw [ite_self]; exact HFA.out.text⟩
        · refine ⟨?_, ?_, ?_, ?_, ?_, ?_, ?_, ?_, ?_, ?_, ?_, ?_, ?_, ?_, ?_, ?_, ?_, ?_, trivial⟩
          · intro a W c ev hct hc0 hfn hfx hR hpre K hK
            have f8 := hfx (8, .map (some w4.heap.size)) (by simp) (by kernel_rfl)
            replace f8 : ev (.tmp 8) = .map (some w4.heap.size) := f8
            have f12 := hfx (12, .pointer (some ⟨wr.heap.size, 0, none⟩)) (by simp) (by kernel_rfl)
            replace f12 : ev (.tmp 12) = .pointer (some ⟨wr.heap.size, 0, none⟩) := f12
            clear hfx
            clear hpre hfn
            go_simp
            exact hK _ _ (by simpa using hR) (fun _ _ _ h => h) rfl
          · intro a W c ev hct hc0 hfn hfx hR hpre K hK
            have f8 := hfx (8, .map (some w4.heap.size)) (by simp) (by kernel_rfl)
            replace f8 : ev (.tmp 8) = .map (some w4.heap.size) := f8
            have f12 := hfx (12, .pointer (some ⟨wr.heap.size, 0, none⟩)) (by simp) (by kernel_rfl)
            replace f12 : ev (.tmp 12) = .pointer (some ⟨wr.heap.size, 0, none⟩) := f12
            clear hfx
            have p := hpre 0 (by simp)
            replace p : ev (.tmp 67) = .pointer (some ⟨wr.heap.size, 0, none⟩) := p
            have cx : W.cell? ⟨wr.heap.size, 0, none⟩ = some (.int .i64 x.a) := (blk_others HBx.out hR.1.2.1 (by decide) hBxb).cell 0
            clear hpre hfn
            go_simp
            exact hK _ _ (by simpa using hR) (fun _ _ _ h => h) rfl
          · intro a W c ev hct hc0 hfn hfx hR hpre K hK
            have f8 := hfx (8, .map (some w4.heap.size)) (by simp) (by kernel_rfl)
            replace f8 : ev (.tmp 8) = .map (some w4.heap.size) := f8
            have f12 := hfx (12, .pointer (some ⟨wr.heap.size, 0, none⟩)) (by simp) (by kernel_rfl)
            replace f12 : ev (.tmp 12) = .pointer (some ⟨wr.heap.size, 0, none⟩) := f12
            clear hfx
            clear hpre hfn
            go_simp
            exact hK _ _ (by simpa using hR) (fun _ _ _ h => h) rfl
          · intro a W c ev hct hc0 hfn hfx hR hpre K hK
            have f8 := hfx (8, .map (some w4.heap.size)) (by simp) (by kernel_rfl)
            replace f8 : ev (.tmp 8) = .map (some w4.heap.size) := f8
            have f12 := hfx (12, .pointer (some ⟨wr.heap.size, 0, none⟩)) (by simp) (by kernel_rfl)
            replace f12 : ev (.tmp 12) = .pointer (some ⟨wr.heap.size, 0, none⟩) := f12
            clear hfx
            have p := hpre 2 (by simp)
            replace p : ev (.tmp 69) = .pointer (some ⟨wr.heap.size, 1, none⟩) := p
            have cx : W.cell? ⟨wr.heap.size, 1, none⟩ = some (.int .i64 x.b) := (blk_others HBx.out hR.1.2.1 (by decide) hBxb).cell 1
            clear hpre hfn
            go_simp
            exact hK _ _ (by simpa using hR) (fun _ _ _ h => h) rfl
          · intro a W c ev hct hc0 hfn hfx hR hpre K hK
            have f8 := hfx (8, .map (some w4.heap.size)) (by simp) (by kernel_rfl)
            replace f8 : ev (.tmp 8) = .map (some w4.heap.size) := f8
            have f12 := hfx (12, .pointer (some ⟨wr.heap.size, 0, none⟩)) (by simp) (by kernel_rfl)
            replace f12 : ev (.tmp 12) = .pointer (some ⟨wr.heap.size, 0, none⟩) := f12
            clear hfx
            have p0 := hpre 1 (by simp)
            replace p0 : ev (.tmp 68) = .int .i64 x.a := p0
            have p1 := hpre 3 (by simp)
            replace p1 : ev (.tmp 70) = .int .i64 x.b := p1
            have hz : (wr.heap.size + 1) ≤ W.heap.size := by simpa using hR.1.2.2
            clear hpre hfn
            go_simp
            exact hK _ _ (by simpa using hR.next ((Below.refl _ _).alloc (Nat.le_refl _) _)) (fun j u _ => lgs_grown (World.grownBy_alloc _ _ none) j u) (own_new W _ 2 3 (([x.a, x.b]).map (Value.int .i64)) hz rfl (by decide))
          · intro a W c ev hct hc0 hfn hfx hR hpre K hK
            have f8 := hfx (8, .map (some w4.heap.size)) (by simp) (by kernel_rfl)
            replace f8 : ev (.tmp 8) = .map (some w4.heap.size) := f8
            have f12 := hfx (12, .pointer (some ⟨wr.heap.size, 0, none⟩)) (by simp) (by kernel_rfl)
            replace f12 : ev (.tmp 12) = .pointer (some ⟨wr.heap.size, 0, none⟩) := f12
            clear hfx
            have p := hpre 4 (by simp)
            obtain ⟨A, cc, e, rd⟩ := ints_rd (n := 2) (show W.ownsRow (wr.heap.size + 1) 3 1 (ev (.tmp 71)) _ _ from p) rfl
            have CC := Lib.hid (SP.out A 2 cc _ W rd (by omega) (by intro z hz; simp only [List.mem_cons, List.mem_nil_iff, or_false] at hz; rcases hz with rfl | rfl; exact hx6.2.1.1; exact hx6.2.1.2.1) (HPow.out.from_ (hR.1.1) (Nat.le_refl _)))
            clear p rd hpre
            go_simp
            refine CC.out.mono ?_
            rintro e5 W5 ⟨rfl, hB5⟩
            exact hK _ _ (by simpa using hR.next hB5) (fun j u _ => lgs_grown (grown_of_below hB5) j u) rfl
          · intro a W c ev hct hc0 hfn hfx hR hpre K hK
            have f8 := hfx (8, .map (some w4.heap.size)) (by simp) (by kernel_rfl)
            replace f8 : ev (.tmp 8) = .map (some w4.heap.size) := f8
            have f12 := hfx (12, .pointer (some ⟨wr.heap.size, 0, none⟩)) (by simp) (by kernel_rfl)
            replace f12 : ev (.tmp 12) = .pointer (some ⟨wr.heap.size, 0, none⟩) := f12
            clear hfx
            clear hpre hfn
            go_simp
            exact hK _ _ (by simpa using hR) (fun _ _ _ h => h) rfl
          · intro a W c ev hct hc0 hfn hfx hR hpre K hK
            have f8 := hfx (8, .map (some w4.heap.size)) (by simp) (by kernel_rfl)
            replace f8 : ev (.tmp 8) = .map (some w4.heap.size) := f8
            have f12 := hfx (12, .pointer (some ⟨wr.heap.size, 0, none⟩)) (by simp) (by kernel_rfl)
            replace f12 : ev (.tmp 12) = .pointer (some ⟨wr.heap.size, 0, none⟩) := f12
            clear hfx
            clear hpre hfn
            go_simp
            exact hK _ _ (by simpa using hR) (fun _ _ _ h => h) rfl
          · intro a W c ev hct hc0 hfn hfx hR hpre K hK
            have f8 := hfx (8, .map (some w4.heap.size)) (by simp) (by kernel_rfl)
            replace f8 : ev (.tmp 8) = .map (some w4.heap.size) := f8
            have f12 := hfx (12, .pointer (some ⟨wr.heap.size, 0, none⟩)) (by simp) (by kernel_rfl)
            replace f12 : ev (.tmp 12) = .pointer (some ⟨wr.heap.size, 0, none⟩) := f12
            clear hfx
            have p := hpre 7 (by simp)
            replace p : ev (.tmp 74) = .pointer (some ⟨wr.heap.size, 2, none⟩) := p
            have cx : W.cell? ⟨wr.heap.size, 2, none⟩ = some (.int .i64 x.kind) := (blk_others HBx.out hR.1.2.1 (by decide) hBxb).cell 2
            clear hpre hfn
            go_simp
            exact hK _ _ (by simpa using hR) (fun _ _ _ h => h) rfl
          · intro a W c ev hct hc0 hfn hfx hR hpre K hK
            have f8 := hfx (8, .map (some w4.heap.size)) (by simp) (by kernel_rfl)
            replace f8 : ev (.tmp 8) = .map (some w4.heap.size) := f8
            have f12 := hfx (12, .pointer (some ⟨wr.heap.size, 0, none⟩)) (by simp) (by kernel_rfl)
            replace f12 : ev (.tmp 12) = .pointer (some ⟨wr.heap.size, 0, none⟩) := f12
            clear hfx
            have p := hpre 6 (by simp)
            replace p : ev (.tmp 73) = .map (some w4.heap.size) := p
            have q := hpre 8 (by simp)
            replace q : ev (.tmp 75) = .int .i64 x.kind := q
            have e9 := look_lnk (obj_others HM.out hR.1.2.1 hmb2) x.kind hx6.1.1 hx6.1.2
            clear hpre hfn
            go_simp
            exact hK _ _ (by simpa using hR) (fun _ _ _ h => h) rfl
          · intro a W c ev hct hc0 hfn hfx hR hpre K hK
            have f8 := hfx (8, .map (some w4.heap.size)) (by simp) (by kernel_rfl)
            replace f8 : ev (.tmp 8) = .map (some w4.heap.size) := f8
            have f12 := hfx (12, .pointer (some ⟨wr.heap.size, 0, none⟩)) (by simp) (by kernel_rfl)
            replace f12 : ev (.tmp 12) = .pointer (some ⟨wr.heap.size, 0, none⟩) := f12
            clear hfx
            clear hpre hfn
            go_simp
            exact hK _ _ (by simpa using hR) (fun _ _ _ h => h) rfl
          · intro a W c ev hct hc0 hfn hfx hR hpre K hK
            have f8 := hfx (8, .map (some w4.heap.size)) (by simp) (by kernel_rfl)
            replace f8 : ev (.tmp 8) = .map (some w4.heap.size) := f8
            have f12 := hfx (12, .pointer (some ⟨wr.heap.size, 0, none⟩)) (by simp) (by kernel_rfl)
            replace f12 : ev (.tmp 12) = .pointer (some ⟨wr.heap.size, 0, none⟩) := f12
            clear hfx
            have p := hpre 10 (by simp)
            replace p : ev (.tmp 77) = .pointer (some ⟨wr.heap.size, 3, none⟩) := p
            have cx : W.cell? ⟨wr.heap.size, 3, none⟩ = some (.int .i64 x.most) := (blk_others HBx.out hR.1.2.1 (by decide) hBxb).cell 3
            clear hpre hfn
            go_simp
            exact hK _ _ (by simpa using hR) (fun _ _ _ h => h) rfl
          · intro a W c ev hct hc0 hfn hfx hR hpre K hK
            have f8 := hfx (8, .map (some w4.heap.size)) (by simp) (by kernel_rfl)
            replace f8 : ev (.tmp 8) = .map (some w4.heap.size) := f8
            have f12 := hfx (12, .pointer (some ⟨wr.heap.size, 0, none⟩)) (by simp) (by kernel_rfl)
            replace f12 : ev (.tmp 12) = .pointer (some ⟨wr.heap.size, 0, none⟩) := f12
            clear hfx
            clear hpre hfn
            go_simp
            exact hK _ _ (by simpa using hR) (fun _ _ _ h => h) rfl
          · intro a W c ev hct hc0 hfn hfx hR hpre K hK
            have f8 := hfx (8, .map (some w4.heap.size)) (by simp) (by kernel_rfl)
            replace f8 : ev (.tmp 8) = .map (some w4.heap.size) := f8
            have f12 := hfx (12, .pointer (some ⟨wr.heap.size, 0, none⟩)) (by simp) (by kernel_rfl)
            replace f12 : ev (.tmp 12) = .pointer (some ⟨wr.heap.size, 0, none⟩) := f12
            clear hfx
            have p := hpre 12 (by simp)
            replace p : ev (.tmp 79) = .pointer (some ⟨wr.heap.size, 4, none⟩) := p
            have cx : W.cell? ⟨wr.heap.size, 4, none⟩ = some (.int .i64 x.ohm) := (blk_others HBx.out hR.1.2.1 (by decide) hBxb).cell 4
            clear hpre hfn
            go_simp
            exact hK _ _ (by simpa using hR) (fun _ _ _ h => h) rfl
          · intro a W c ev hct hc0 hfn hfx hR hpre K hK
            have f8 := hfx (8, .map (some w4.heap.size)) (by simp) (by kernel_rfl)
            replace f8 : ev (.tmp 8) = .map (some w4.heap.size) := f8
            have f12 := hfx (12, .pointer (some ⟨wr.heap.size, 0, none⟩)) (by simp) (by kernel_rfl)
            replace f12 : ev (.tmp 12) = .pointer (some ⟨wr.heap.size, 0, none⟩) := f12
            clear hfx
            have p0 := hpre 11 (by simp)
            replace p0 : ev (.tmp 78) = .int .i64 x.most := p0
            have p1 := hpre 13 (by simp)
            replace p1 : ev (.tmp 80) = .int .i64 x.ohm := p1
            have hz : (wr.heap.size + 1) ≤ W.heap.size := by simpa using hR.1.2.2
            clear hpre hfn
            go_simp
            exact hK _ _ (by simpa using hR.next ((Below.refl _ _).alloc (Nat.le_refl _) _)) (fun j u _ => lgs_grown (World.grownBy_alloc _ _ none) j u) (own_new W _ 2 3 (([x.most, x.ohm]).map (Value.int .i64)) hz rfl (by decide))
          · intro a W c ev hct hc0 hfn hfx hR hpre K hK
            have f8 := hfx (8, .map (some w4.heap.size)) (by simp) (by kernel_rfl)
            replace f8 : ev (.tmp 8) = .map (some w4.heap.size) := f8
            have f12 := hfx (12, .pointer (some ⟨wr.heap.size, 0, none⟩)) (by simp) (by kernel_rfl)
            replace f12 : ev (.tmp 12) = .pointer (some ⟨wr.heap.size, 0, none⟩) := f12
            clear hfx
            have p := hpre 14 (by simp)
            obtain ⟨A, cc, e, rd⟩ := ints_rd (n := 2) (show W.ownsRow (wr.heap.size + 1) 3 1 (ev (.tmp 81)) _ _ from p) rfl
            have CC := Lib.hid (SP.out A 2 cc _ W rd (by omega) (by intro z hz; simp only [List.mem_cons, List.mem_nil_iff, or_false] at hz; rcases hz with rfl | rfl; exact hx6.2.1.2.2.1; exact hx6.2.1.2.2.2) (HPow.out.from_ (hR.1.1) (Nat.le_refl _)))
            clear p rd hpre
            go_simp
            refine CC.out.mono ?_
            rintro e5 W5 ⟨rfl, hB5⟩
            exact hK _ _ (by simpa using hR.next hB5) (fun j u _ => lgs_grown (grown_of_below hB5) j u) rfl
          · intro a W c ev hct hc0 hfn hfx hR hpre K hK
            have f8 := hfx (8, .map (some w4.heap.size)) (by simp) (by kernel_rfl)
            replace f8 : ev (.tmp 8) = .map (some w4.heap.size) := f8
            have f12 := hfx (12, .pointer (some ⟨wr.heap.size, 0, none⟩)) (by simp) (by kernel_rfl)
            replace f12 : ev (.tmp 12) = .pointer (some ⟨wr.heap.size, 0, none⟩) := f12
            clear hfx
            have p0 := hpre 5 (by simp)
            replace p0 : ev (.tmp 72) = .string (ba (spacedL [x.a, x.b])) := p0
            have p1 := hpre 9 (by simp)
            replace p1 : ev (.tmp 76) = .string (ba (lnkWord x.kind)) := p1
            have p2 := hpre 15 (by simp)
            replace p2 : ev (.tmp 82) = .string (ba (spacedL [x.most, x.ohm])) := p2
            have hz : (wr.heap.size + 1) ≤ W.heap.size := by simpa using hR.1.2.2
            clear hpre hfn
            go_simp
            exact hK _ _ (by simpa using hR.next ((Below.refl _ _).alloc (Nat.le_refl _) _)) (fun j u _ => lgs_grown (World.grownBy_alloc _ _ none) j u) (own_new W _ 4 9 (strVals (lnkHead x)) hz rfl (by decide))
          · intro a W c ev hct hc0 hfn hfx hR hpre K hK
            have f8 := hfx (8, .map (some w4.heap.size)) (by simp) (by kernel_rfl)
            replace f8 : ev (.tmp 8) = .map (some w4.heap.size) := f8
            have f12 := hfx (12, .pointer (some ⟨wr.heap.size, 0, none⟩)) (by simp) (by kernel_rfl)
            replace f12 : ev (.tmp 12) = .pointer (some ⟨wr.heap.size, 0, none⟩) := f12
            clear hfx
            have p := hpre 16 (by simp)
            have P : Hid (W.ownsRow (wr.heap.size + 1) 9 1 (ev (.tmp 83)) 4 (strVals (lnkHead x))) := p
            clear p hpre hfn
            go_simp
            exact hK _ _ (by simpa using hR) (fun _ _ _ h => h) P.out
        intro vs W c hct hvl hR hφ
        have hφ17 := hφ 17 (by decide)
        clear hφ hct
        match vs, hvl with
        | [v0, v1, v2, v3, v4, v5, v6, v7, v8, v9, v10, v11, v12, v13, v14, v15, v16, v17], _ =>
        replace hφ17 : W.ownsRow (wr.heap.size + 1) 9 1 v17 4 (strVals (lnkHead x)) := hφ17
        simp only [putAll, List.setIfInBounds_toArray, List.set_cons_succ, List.set_cons_zero]
        have HR := Lib.hid (HFA.out.line hpb hmb1 hmb2 hR.same)
        have HB2 := Lib.hid (blk_others HBx.out hR.1.2.1 (by decide) hBxb)
        have HV := Lib.hid hφ17
        have hzR := hR.1.2.2
        simp only [World.size_alloc] at hzR
        clear hR hφ17
        have c5 : W.cell? ⟨wr.heap.size, 5, none⟩ = some (.slice x.tA x.tn x.tc) := HB2.out.cell 5
        go_wp2
        obtain ⟨wr1, ewr⟩ : ∃ x, x = wr := ⟨wr, rfl⟩
        subst ewr
        clear c5
        go_loopw [13, 87] (fun v i wr => ∃ j : Nat, j ≤ x.tn ∧ i = .int .i64 j ∧ W.heap.size ≤ wr.heap.size ∧ Hid (FmtW w w1.heap.size w3.heap.size w4.heap.size p l wr ∧ wr.ownsRow (wr1.heap.size + 1) 9 1 v (lnkHead x ++ (x.trip.take j).map tripW).length (strVals (lnkHead x ++ (x.trip.take j).map tripW)))) (fun _ i _ => x.tn - (intOf i).toNat)
        case atStart => exact ⟨0, by omega, rfl, Nat.le_refl _, HR.out, by simpa [lnkHead] using HV.out⟩
        case round =>
        obtain ⟨j, hj, rfl, hz3', hE3⟩ := hrel
        have htl : x.trip.length = x.tn := htn
        by_cases hlt3 : j < x.tn
        · obtain ⟨b', off', t, e2, hb', ht, hct'⟩ := ((HP.out.trip x HXM.out).below (hE3.out.1.below)).at_ hlt3
          obtain ⟨t0, t1⟩ := Trp.cells hct'
          have ht6 := hx6.2.2.2 t (List.mem_of_getElem? ht)
          have hx3 := hx6.2.2.1
          have HTT := Lib.hid ht
          rw [e2]
          have hj0 : (0 : Int) ≤ (j : Int) := by omega
          have hjn : (j : Int) < (x.tn : Int) := by omega
          obtain ⟨ws, hws⟩ : ∃ ws, lnkHead x ++ (x.trip.take j).map tripW = ws := ⟨_, rfl⟩
          have HWS := Lib.hid hws
          have hwl : ws.length = 4 + j := by rw [← hws]; simp [lnkHead]; omega
          rw [hws] at hE3
          have HFT : Hid (FmtW w w1.heap.size w3.heap.size w4.heap.size p l (wr.alloc (.cells #[.int .i64 t.amps, .int .i64 t.millis] 112))) := hE3.out.1.next ((Below.refl _ _).alloc (Nat.le_refl _) _)
          have HBt : Hid (Blk (wr.alloc (.cells #[.int .i64 t.amps, .int .i64 t.millis] 112)) wr.heap.size 112 #[.int .i64 t.amps, .int .i64 t.millis]) := Lib.hid (heap_alloc_new wr _)
          have HVR := Lib.hid hE3.out.2
          have hvlt : Hid (∀ g, u13.ownBlock = some g → wr1.heap.size + 1 ≤ g ∧ g < wr.heap.size) := fun g e => hE3.out.2.lt g e
          obtain ⟨i0, hi, hz0, hz1, hz2⟩ := info_parts strInfo
          have hHI := Lib.hid (And.intro hi (And.intro hz0 (And.intro hz1 hz2)))
          have hia := Lib.itoa_length_le t.amps ht6.1.1 ht6.1.2
          have him := Lib.itoa_length_le t.millis ht6.2.1 ht6.2.2
          have hcat : ¬ 9223372036854775807 < (ba (Lib.itoa t.amps ++ [58])).size + (ba (Lib.itoa t.millis)).size := by rw [ba_size, ba_size, List.length_append]; simp; omega
          have hcat2 : ¬ 9223372036854775807 < (ba (Lib.itoa t.amps)).size + 1 := by rw [ba_size]; omega
          clear ht hct' hws hi hz0 hz1 hz2
          go_wp2
          refine wp_region_free3 [some 91, some 92, some 93, some 94, some 95, some 96, some 97, some 98, some 99, some 100, some 101, some 13] [(13, u13), (15, .pointer (some ⟨wr.heap.size, 0, none⟩))] [(13, 0)] 10 (TripR w w1.heap.size w3.heap.size w4.heap.size p l (wr1.heap.size + 1) u13 ws wr.heap.size t (wr.heap.size + 1)) (lgs (wr.heap.size + 1) [.is (u13), .is (.pointer (some ⟨wr.heap.size, 0, none⟩)), .is (.int .i64 t.amps), .is (.string (ba (Lib.itoa (t.amps)))), .is (.string (ba (Lib.itoa t.amps ++ [58]))), .is (.pointer (some ⟨wr.heap.size, 1, none⟩)), .is (.int .i64 t.millis), .is (.string (ba (Lib.itoa (t.millis)))), .is (.string (ba (tripW t))), .strs [tripW t], .low (wr1.heap.size + 1) (ws ++ [tripW t]), .low (wr1.heap.size + 1) (ws ++ [tripW t])]) (by kernel_rfl) (by kernel_rfl) rfl ?_ (by kernel_rfl) ?_ ?_ (by kernel_rfl) ?_ ?_
          · intro q hq
            simp only [List.mem_cons, List.mem_nil_iff, or_false] at hq
            rcases hq with rfl | rfl <;> rfl
          · intro i v W hi h
            exact absurd hi (by
              intro e
              have := List.mem_of_getElem? e
              simp at this)
          · exact ⟨⟨HFT.out.next ((Below.refl _ _).drew), HBt.out, by simp⟩, fun _ => (HVR.out.alloc _).kept (grownBy_drew _) (by by_cases hu : u13.ownBlock = none; exact .inl hu; exact .inr hu)⟩
          · refine ⟨?_, ?_, ?_, ?_, ?_, ?_, ?_, ?_, ?_, ?_, ?_, ?_, trivial⟩
            · intro a W c ev hct hc0 hfn hfx hR hpre K hK
              have f13 := hfx (13, u13) (by simp) (by kernel_rfl)
              replace f13 : ev (.tmp 13) = u13 := f13
              have f15 := hfx (15, .pointer (some ⟨wr.heap.size, 0, none⟩)) (by simp) (by kernel_rfl)
              replace f15 : ev (.tmp 15) = .pointer (some ⟨wr.heap.size, 0, none⟩) := f15
              clear hfx
              clear hpre hfn
              go_simp
              exact hK _ _ (by simpa using hR) (fun _ _ _ h => h) rfl
            · intro a W c ev hct hc0 hfn hfx hR hpre K hK
              have f15 := hfx (15, .pointer (some ⟨wr.heap.size, 0, none⟩)) (by simp) (by kernel_rfl)
              replace f15 : ev (.tmp 15) = .pointer (some ⟨wr.heap.size, 0, none⟩) := f15
              clear hfx
              clear hpre hfn
              go_simp
              exact hK _ _ (by simpa using hR) (fun _ _ _ h => h) rfl
            · intro a W c ev hct hc0 hfn hfx hR hpre K hK
              have f15 := hfx (15, .pointer (some ⟨wr.heap.size, 0, none⟩)) (by simp) (by kernel_rfl)
              replace f15 : ev (.tmp 15) = .pointer (some ⟨wr.heap.size, 0, none⟩) := f15
              clear hfx
              have p := hpre 1 (by simp)
              replace p : ev (.tmp 92) = .pointer (some ⟨wr.heap.size, 0, none⟩) := p
              have cx : W.cell? ⟨wr.heap.size, 0, none⟩ = some (.int .i64 t.amps) := hR.1.2.1.cell 0
              clear hpre hfn
              go_simp
              exact hK _ _ (by simpa using hR) (fun _ _ _ h => h) rfl
            · intro a W c ev hct hc0 hfn hfx hR hpre K hK
              have f15 := hfx (15, .pointer (some ⟨wr.heap.size, 0, none⟩)) (by simp) (by kernel_rfl)
              replace f15 : ev (.tmp 15) = .pointer (some ⟨wr.heap.size, 0, none⟩) := f15
              clear hfx
              have p := hpre 2 (by simp)
              replace p : ev (.tmp 93) = .int .i64 t.amps := p
              have CC := Lib.hid (IT.out _ (ht6.1.1) (ht6.1.2) W (HPow.out.from_ (hR.1.1.below) (Nat.le_refl _)))
              clear hpre
              go_simp
              refine CC.out.mono ?_
              rintro e5 W5 ⟨rfl, hB5⟩
              exact hK _ _ (by simpa using hR.next hB5) (fun j u _ => lgs_grown (grown_of_below hB5) j u) rfl
            · intro a W c ev hct hc0 hfn hfx hR hpre K hK
              have f15 := hfx (15, .pointer (some ⟨wr.heap.size, 0, none⟩)) (by simp) (by kernel_rfl)
              replace f15 : ev (.tmp 15) = .pointer (some ⟨wr.heap.size, 0, none⟩) := f15
              clear hfx
              have p0 := hpre 3 (by simp)
              replace p0 : ev (.tmp 94) = .string (ba (Lib.itoa (t.amps))) := p0
              clear hpre hfn
              go_simp
              exact hK _ _ (by simpa using hR) (fun _ _ _ h => h) (congrArg Value.string (ba_app (Lib.itoa t.amps) [58]))
            · intro a W c ev hct hc0 hfn hfx hR hpre K hK
              have f15 := hfx (15, .pointer (some ⟨wr.heap.size, 0, none⟩)) (by simp) (by kernel_rfl)
              replace f15 : ev (.tmp 15) = .pointer (some ⟨wr.heap.size, 0, none⟩) := f15
              clear hfx
              clear hpre hfn
              go_simp
              exact hK _ _ (by simpa using hR) (fun _ _ _ h => h) rfl
            · intro a W c ev hct hc0 hfn hfx hR hpre K hK
              have f15 := hfx (15, .pointer (some ⟨wr.heap.size, 0, none⟩)) (by simp) (by kernel_rfl)
              replace f15 : ev (.tmp 15) = .pointer (some ⟨wr.heap.size, 0, none⟩) := f15
              clear hfx
              have p := hpre 5 (by simp)
              replace p : ev (.tmp 96) = .pointer (some ⟨wr.heap.size, 1, none⟩) := p
              have cx : W.cell? ⟨wr.heap.size, 1, none⟩ = some (.int .i64 t.millis) := hR.1.2.1.cell 1
              clear hpre hfn
              go_simp
              exact hK _ _ (by simpa using hR) (fun _ _ _ h => h) rfl
            · intro a W c ev hct hc0 hfn hfx hR hpre K hK
              have f15 := hfx (15, .pointer (some ⟨wr.heap.size, 0, none⟩)) (by simp) (by kernel_rfl)
              replace f15 : ev (.tmp 15) = .pointer (some ⟨wr.heap.size, 0, none⟩) := f15
              clear hfx
              have p := hpre 6 (by simp)
              replace p : ev (.tmp 97) = .int .i64 t.millis := p
              have CC := Lib.hid (IT.out _ (ht6.2.1) (ht6.2.2) W (HPow.out.from_ (hR.1.1.below) (Nat.le_refl _)))
              clear hpre
              go_simp
              refine CC.out.mono ?_
              rintro e5 W5 ⟨rfl, hB5⟩
              exact hK _ _ (by simpa using hR.next hB5) (fun j u _ => lgs_grown (grown_of_below hB5) j u) rfl
            · intro a W c ev hct hc0 hfn hfx hR hpre K hK
              have f15 := hfx (15, .pointer (some ⟨wr.heap.size, 0, none⟩)) (by simp) (by kernel_rfl)
              replace f15 : ev (.tmp 15) = .pointer (some ⟨wr.heap.size, 0, none⟩) := f15
              clear hfx
              have p0 := hpre 4 (by simp)
              replace p0 : ev (.tmp 95) = .string (ba (Lib.itoa t.amps ++ [58])) := p0
              have p1 := hpre 7 (by simp)
              replace p1 : ev (.tmp 98) = .string (ba (Lib.itoa (t.millis))) := p1
              clear hpre hfn
              go_simp
              exact hK _ _ (by simpa using hR) (fun _ _ _ h => h) (congrArg Value.string (ba_app (Lib.itoa t.amps ++ [58]) (Lib.itoa t.millis)))
            · intro a W c ev hct hc0 hfn hfx hR hpre K hK
              have f15 := hfx (15, .pointer (some ⟨wr.heap.size, 0, none⟩)) (by simp) (by kernel_rfl)
              replace f15 : ev (.tmp 15) = .pointer (some ⟨wr.heap.size, 0, none⟩) := f15
              clear hfx
              have p0 := hpre 8 (by simp)
              replace p0 : ev (.tmp 99) = .string (ba (tripW t)) := p0
              have hz : (wr.heap.size + 1) ≤ W.heap.size := hR.1.2.2
              clear hpre hfn
              go_simp
              exact hK _ _ (by simpa using hR.next ((Below.refl _ _).alloc (Nat.le_refl _) _)) (fun j u _ => lgs_grown (World.grownBy_alloc _ _ none) j u) (own_new W _ 1 9 (strVals [tripW t]) hz rfl (by decide))
            · intro a W c ev hct hc0 hfn hfx hR hpre K hK
              have f15 := hfx (15, .pointer (some ⟨wr.heap.size, 0, none⟩)) (by simp) (by kernel_rfl)
              replace f15 : ev (.tmp 15) = .pointer (some ⟨wr.heap.size, 0, none⟩) := f15
              clear hfx
              have p := hpre 0 (by simp)
              replace p : ev (.tmp 91) = u13 := p
              have q := hpre 9 (by simp)
              replace q : W.ownsRow (wr.heap.size + 1) 9 1 (ev (.tmp 100)) 1 (strVals [tripW t]) := q
              obtain ⟨ga, cc, e⟩ := row_some q (by omega)
              rw [e] at q
              have hq := row_cell q (k := 0) (u := .string (ba (tripW t))) rfl
              obtain rfl := hct rfl
              have hv := hR.2 rfl
              obtain ⟨v', W', hr, h2, h3, _, _⟩ := run_append_own_at (P := Tryz.prog) W (wr1.heap.size + 1) 50 50 9 i0 (.string ⟨#[]⟩) 1 16 Tryz.underlying50 hHI.out.1 hHI.out.2.1 hHI.out.2.2.1 hHI.out.2.2.2 rfl (by decide) u13 ws.length (strVals ws) hv ⟨ga, 0, none⟩ 1 cc (strVals [tripW t]) rfl (fun j u hj => by
                match j, hj with
                | 0, hj =>
                  simp only [strVals, List.map_cons, List.map_nil, List.getElem?_cons_zero, Option.some.injEq] at hj
                  subst hj
                  simpa [Addr.add] using hq) (fun u hu => by simp only [strVals, List.map_cons, List.map_nil, List.mem_cons, List.mem_nil_iff, or_false] at hu; subst hu; rfl) (by simp only [maxLen]; omega) (by omega) (by have := hR.1.2.2; omega)
              unfold execOp
              simp only [resolve, invoke, builtin, Sem.run_bind, Sem.run_pure, Result.andThen_ok, List.map_toArray, List.map_cons, List.map_nil, p, e, hr]
              have hlt5 : ∀ g, u13.ownBlock = some g → g < wr.heap.size + 1 := fun g e => by have := (hvlt.out g e).2; omega
              refine hK v' W' ⟨⟨hR.1.1.row hv (by omega) h3, hR.1.2.1.kept h3 (own_ne hv hR.1.2.1 (by decide)), Nat.le_trans hR.1.2.2 h3.size⟩, fun e => by cases e⟩ (fun j u hj => lgs_row (t := 10) h3 hlt5 (fun j n ws' e => ?_) j u (hj rfl)) ?_
              · match j, e with
                | 10, _ => omega
                | 11, _ => omega
              · show W'.ownsRow _ _ _ _ _ _
                have : strVals (ws ++ [tripW t]) = strVals ws ++ strVals [tripW t] := by simp [strVals]
                rw [this, List.length_append]
                exact h2
            · intro a W c ev hct hc0 hfn hfx hR hpre K hK
              have f15 := hfx (15, .pointer (some ⟨wr.heap.size, 0, none⟩)) (by simp) (by kernel_rfl)
              replace f15 : ev (.tmp 15) = .pointer (some ⟨wr.heap.size, 0, none⟩) := f15
              clear hfx
              have q := hpre 10 (by simp)
              have Q5 : Hid (W.ownsRow (wr1.heap.size + 1) 9 1 (ev (.tmp 101)) (ws ++ [tripW t]).length (strVals (ws ++ [tripW t]))) := q
              clear q hpre hfn
              go_simp
              exact hK _ _ (by simpa using hR) (fun _ _ _ h => h) Q5.out
          intro vs W3 c hct hvl hR hφ
          obtain rfl := hct (by decide)
          have hφ11 := hφ 11 (by decide)
          clear hφ
          match vs, hvl with
          | [v18, v19, v20, v21, v22, v23, v24, v25, v26, v27, v28, v29], _ =>
          replace hφ11 : W3.ownsRow (wr1.heap.size + 1) 9 1 v29 (ws ++ [tripW t]).length (strVals (ws ++ [tripW t])) := hφ11
          simp only [putAll, List.setIfInBounds_toArray, List.set_cons_succ, List.set_cons_zero]
          have HR3 := Lib.hid (And.intro hR.1.1 hφ11)
          have hzR3 := hR.1.2.2
          clear hR hφ11
          go_wp2
          go_roundw
          case rel =>
            refine ⟨j + 1, by omega, by go_num, by omega, ?_⟩
            refine Lib.hid ⟨HR3.out.1, ?_⟩
            have h := HR3.out.2
            rw [← HWS.out] at h
            rw [List.take_add_one, HTT.out]
            simpa using h
          case measure => simp [intOf]; omega
        · obtain rfl : x.tn = j := by omega
          have htk : x.trip.take x.tn = x.trip := by rw [← htl]; exact List.take_length
          rw [htk] at hE3
          have hE4 : Hid (FmtW w w1.heap.size w3.heap.size w4.heap.size p l wr ∧ wr.ownsRow (wr1.heap.size + 1) 9 1 u13 (lnkWs x).length (strVals (lnkWs x))) := hE3
          have hwl : (lnkWs x).length = 4 + x.tn := by simp [lnkWs, htl]; omega
          obtain ⟨A, cc, eA⟩ := row_slice hE4.out.2
          subst eA
          have hx3 := hx6.2.2.1
          have HL : Hid ((Lib.join (lnkWs x) [32]).length ≤ (lnkWs x).length * 101 ∧ (lineOf (lnkWs x)).length ≤ (lnkWs x).length * 101 + 1) := Lib.hid (lineOf_length _ (by
            intro z hz
            simp only [lnkWs, List.mem_append, List.mem_cons, List.mem_nil_iff, or_false, List.mem_map] at hz
            rcases hz with (rfl | rfl | rfl | rfl) | ⟨t, ht, rfl⟩
            · decide
            · have h1 := spacedL_length [x.a, x.b] (by intro z hz; simp only [List.mem_cons, List.mem_nil_iff, or_false] at hz; rcases hz with rfl | rfl; exact hx6.2.1.1; exact hx6.2.1.2.1)
              simp only [List.length_cons, List.length_nil] at h1
              omega
            · exact lnkWord_length _
            · have h1 := spacedL_length [x.most, x.ohm] (by intro z hz; simp only [List.mem_cons, List.mem_nil_iff, or_false] at hz; rcases hz with rfl | rfl; exact hx6.2.1.2.2.1; exact hx6.2.1.2.2.2)
              simp only [List.length_cons, List.length_nil] at h1
              omega
            · have h5 := hx6.2.2.2 t ht
              have h1 := Lib.itoa_length_le t.amps h5.1.1 h5.1.2
              have h2 := Lib.itoa_length_le t.millis h5.2.1 h5.2.2
              simp only [tripW, List.length_append, List.length_cons, List.length_nil]
              omega))
          have CC := Lib.hid (LI.out (wr1.heap.size + 1) w.heap.size w1.heap.size (lnkWs x).length cc A (lnkWs x) l wr hE4.out.2 (by omega) (by have := HL.out.1; rw [hwl] at this; omega) hE4.out.1.text)
          have HWL := Lib.hid hwl
          clear htk hE3 hwl
          go_wp2_with fail
          refine CC.out.mono ?_
          rintro e W5 ⟨rfl, hb5, hB5, ho5⟩
          have HZ : Hid (FmtW w w1.heap.size w3.heap.size w4.heap.size p (l ++ lineOf (lnkWs x)) W5 ∧ wr.heap.size ≤ W5.heap.size) := Lib.hid ⟨hE4.out.1.line hpb hmb1 hmb2 (l2 := l) ⟨⟨hE4.out.1.below.trans hB5, ho5, hB5.size⟩, hb5⟩, hB5.size⟩
          have hzz := HZ.out.2
          clear hb5 hB5 ho5
          go_wp2
          go_roundw
          case rel =>
            refine ⟨k + 1, by omega, by go_num, by omega, ?_, ?_⟩
            · refine Lib.hid ?_
              have h := HZ.out.1
              rw [List.take_add_one, HXX.out]
              simpa [← HLL.out] using h
            · have h1 := HL.out.2
              have h2 := congrArg List.length HLL.out
              rw [List.take_add_one, HXX.out]
              rw [HWL.out] at h1
              simp only [List.length_append, List.flatMap_append, Option.toList_some, List.flatMap_cons, List.flatMap_nil, List.append_nil] at h2 ⊢
              omega
          case measure => simp [intOf]; omega
      · obtain rfl : p.ln = k := by omega
        obtain ⟨wr2, ewr⟩ : ∃ x, x = wr := ⟨wr, rfl⟩
        subst ewr
        have htk : p.lnks.take p.ln = p.lnks := by rw [← HP.out.lnk.1]; exact List.take_length
        obtain ⟨L1, hL1⟩ : ∃ L1, L0 ++ p.lnks.flatMap (fun x => lineOf (lnkWs x)) = L1 := ⟨_, rfl⟩
        have e0 : l = L1 := by rw [← hL1, ← HLL.out, htk]
        have HL1 := Lib.hid hL1
        rw [e0] at hEq hlnq
        clear e0 htk hL1 HLL
        have hln1 : L1.length ≤ 100000 := by have := HF.out.ln; omega
        have c3 : wr2.cell? ⟨w.heap.size, 3, none⟩ = some (.slice p.rA p.rn p.rc) := hEq.out.plant.cell 3
        go_wp2
        clear c3
        go_loopw [110] (fun i wr => ∃ k : Nat, k ≤ p.rn ∧ i = .int .i64 k ∧ wr2.heap.size ≤ wr.heap.size ∧ Hid (FmtW w w1.heap.size w3.heap.size w4.heap.size p (L1 ++ (p.rcks.take k).flatMap (fun x => lineOf (rckWs x))) wr) ∧ (L1 ++ (p.rcks.take k).flatMap (fun x => lineOf (rckWs x))).length ≤ 100000 + 1000 * k) (fun i _ => p.rn - (intOf i).toNat)
        case atStart => exact ⟨0, by omega, rfl, Nat.le_refl _, by simpa using hEq, by simpa using hln1⟩
        case round =>
        obtain ⟨k, hk, rfl, hz4', hE4, hln4⟩ := hrel
        obtain ⟨l, hl⟩ : ∃ l, L1 ++ (p.rcks.take k).flatMap (fun x => lineOf (rckWs x)) = l := ⟨_, rfl⟩
        rw [hl] at hE4 hln4
        have HLL := Lib.hid hl
        by_cases hlt4 : k < p.rn
        · obtain ⟨b, off, x, e1, hb, hx, hcx⟩ := (HP.out.below hE4.out.below).rck.at_ hlt4
          obtain ⟨d0, d1, d2, d3⟩ := Rck.cells hcx
          have hx6 := HF.out.rcks x (List.mem_of_getElem? hx)
          have hrn := HF.out.rn
          have HXX := Lib.hid hx
          rw [e1]
          have hk0 : (0 : Int) ≤ (k : Int) := by omega
          have hkn : (k : Int) < (p.rn : Int) := by omega
          have hbb := hE4.out.text.lt
          clear hx hcx hl
          go_wp2_with fail
          obtain ⟨wa, hwa⟩ : ∃ wa, ((wr.alloc (.cells #[.int .i64 x.f0, .int .i64 x.f1, .int .i64 x.power, .int .i64 x.paths] 115)).alloc (.cells #[.int .i64 x.f0, .int .i64 x.f1, .int .i64 x.power, .int .i64 x.paths] 3)) = wa := ⟨_, rfl⟩
          have hBa : Below wr.heap.size wr wa := by rw [← hwa]; exact ((Below.refl _ _).alloc (Nat.le_refl _) _).alloc (by simp) _
          have hrd : Rd wa wa.heap.size 1 encI (some ⟨wr.heap.size + 1, 0, none⟩) 4 [x.f0, x.f1, x.power, x.paths] := by
            have h1 := rd_new (wr.alloc (.cells #[.int .i64 x.f0, .int .i64 x.f1, .int .i64 x.power, .int .i64 x.paths] 115)) [x.f0, x.f1, x.power, x.paths]
            simp only [World.size_alloc] at h1
            rw [← hwa]
            simpa [ints] using h1
          have hza : wa.heap.size = wr.heap.size + 2 := by rw [← hwa]; simp
          rw [hwa]
          clear hwa
          have HA := Lib.hid hBa
          refine (SP.out _ _ 4 _ _ hrd (by omega) (by intro z hz; simp only [List.mem_cons, List.mem_nil_iff, or_false] at hz; rcases hz with rfl | rfl | rfl | rfl; exact hx6.1; exact hx6.2.1; exact hx6.2.2.1; exact hx6.2.2.2) (HPow.out.from_ (hE4.out.below.trans (hBa.mono (by have := hE4.out.below.size; omega))) (Nat.le_refl _))).mono ?_
          rintro e W2 ⟨rfl, hB2⟩
          have hz2' := hB2.size
          have HF2 : Hid (FmtW w w1.heap.size w3.heap.size w4.heap.size p l W2) := (hE4.out.next HA.out).next hB2
          clear hBa hrd hB2
          have HL : Hid ((Lib.join (rckWs x) [32]).length ≤ (rckWs x).length * 101 ∧ (lineOf (rckWs x)).length ≤ (rckWs x).length * 101 + 1) := Lib.hid (lineOf_length _ (by
            intro z hz
            simp only [rckWs, List.mem_cons, List.mem_nil_iff, or_false] at hz
            rcases hz with rfl | rfl
            · decide
            · have h1 := spacedL_length [x.f0, x.f1, x.power, x.paths] (by intro z hz; simp only [List.mem_cons, List.mem_nil_iff, or_false] at hz; rcases hz with rfl | rfl | rfl | rfl; exact hx6.1; exact hx6.2.1; exact hx6.2.2.1; exact hx6.2.2.2)
              simp only [List.length_cons, List.length_nil] at h1
              omega))
          have h4 : (rckWs x).length = 2 := rfl
          go_wp2_with fail
          refine (LI.out W2.heap.size w.heap.size w1.heap.size 2 2 (some ⟨W2.heap.size, 0, none⟩) (rckWs x) l _ (own_new W2 W2.heap.size 2 9 (strVals (rckWs x)) (Nat.le_refl _) rfl (by decide)) (by omega) (by have := HL.out.1; rw [h4] at this; omega) (HF2.out.text.below ((Below.refl _ _).alloc (Nat.le_refl _) _))).mono ?_
          rintro e W5 ⟨rfl, hb5, hB5, ho5⟩
          have HZ : Hid (FmtW w w1.heap.size w3.heap.size w4.heap.size p (l ++ lineOf (rckWs x)) W5 ∧ W2.heap.size + 1 ≤ W5.heap.size) := by
            have hn := HF2.out.next ((Below.refl _ _).alloc (Nat.le_refl _) (.cells (strVals (rckWs x)).toArray 9))
            have hs5 := hB5.size
            rw [World.size_alloc] at hs5
            exact Lib.hid ⟨hn.line hpb hmb1 hmb2 (l2 := l) ⟨⟨hn.below.trans hB5, ho5, hB5.size⟩, hb5⟩, hs5⟩
          have hzz := HZ.out.2
          clear hb5 hB5 ho5
          go_wp2
          go_roundw
          case rel =>
            refine ⟨k + 1, by omega, by go_num, by omega, ?_, ?_⟩
            · refine Lib.hid ?_
              have h := HZ.out.1
              rw [List.take_add_one, HXX.out]
              simpa [← HLL.out] using h
            · have h1 := HL.out.2
              have h2 := congrArg List.length HLL.out
              rw [List.take_add_one, HXX.out]
              rw [h4] at h1
              simp only [List.length_append, List.flatMap_append, Option.toList_some, List.flatMap_cons, List.flatMap_nil, List.append_nil] at h2 ⊢
              omega
          case measure => simp [intOf]; omega
        · obtain rfl : p.rn = k := by omega
          have htk : p.rcks.take p.rn = p.rcks := by rw [← HP.out.rck.1]; exact List.take_length
          have e0 : l = formatL p := by rw [← HLL.out, htk, ← HL1.out, ← HL0.out]; rfl
          rw [e0] at hE4
          have HSB := Lib.hid (Any.Builder_String_any_k lays169 Builder_Extra_169 w.heap.size w1.heap.size (formatL p) wr hE4.out.text hE4.out.below.size)
          clear e0 htk
          go_wp2_with fail
          refine HSB.out.mono ?_
          rintro e W5 ⟨rfl, _, hB5, _⟩
          go_wp2
          exact bodyPost_ret (results_tmp2 rfl _ _ _) rfl ⟨rfl, hE4.out.below.trans hB5⟩
end Go.Proofs.YtcnmfblbfpcghaaGreatDoor
