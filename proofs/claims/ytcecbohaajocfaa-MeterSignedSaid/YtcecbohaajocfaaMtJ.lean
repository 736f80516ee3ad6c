/- meter: awake. -/
import Derived.Test.YtcecbohaajocfaaMtI

set_option linter.unusedSimpArgs false
set_option linter.unusedVariables false
namespace Go.Proofs.Ytcecbohaajocfaa
open Go.RowKit

def exT : Trf := ⟨List.replicate 24 10, 100, [(30, 10), (120, 25)], 20⟩
theorem exT_ok : TrfOk exT := by
  refine ⟨by decide, fun x hx => ?_, by decide, by decide, fun i x hx => ?_, by decide⟩
  · have : x = 10 := List.eq_of_mem_replicate hx
    subst this; decide
  · have hi : i < 2 := (List.getElem?_eq_some_iff.1 hx).1
    rcases (show i = 0 ∨ i = 1 by omega) with rfl | rfl
    · have : x = (30, 10) := (Option.some.inj hx).symm
      subst this; decide
    · have : x = (120, 25) := (Option.some.inj hx).symm
      subst this; decide
theorem exB_bill : billK (List.replicate 24 10) (List.replicate 24 5) 100 [(30, 10), (120, 25)] 20 150 = #[.int .i64 120, .int .i64 1300, .int .i64 260, .int .i64 1040] := by
  have e1 : engK (List.replicate 24 5) 24 = 120 := by decide +kernel
  have e2 : amtK (List.replicate 24 10) (List.replicate 24 5) 100 24 = 1300 := by decide +kernel
  have e3 : crdK (List.replicate 24 10) (List.replicate 24 5) 100 [(30, 10), (120, 25)] 20 150 = 260 := by decide +kernel
  unfold billK
  rw [List.length_replicate, e1, e2, e3]
  rfl
theorem all5 : ∀ x ∈ List.replicate 24 (5 : Int), 0 ≤ x ∧ x ≤ 100000 := fun x hx => by
  have : x = 5 := List.eq_of_mem_replicate hx
  subst this; decide
theorem rd_nat {w : World} {b : Nat} {A : Option Addr} {s : List Nat} (h : RowW w b 3 encN A s) : Rd w w.heap.size 1 encI A s.length (s.map fun i : Nat => (i : Int)) :=
  RowW.rd (T := 3) (b := b) (fun _ => rfl) (by simp) (by
    rcases h with h | ⟨h1, cur, h2, h3⟩
    · exact .inl (by rw [h]; rfl)
    · exact .inr ⟨h1, cur, h2, fun j u hu => h3 j u (by rw [List.flatMap_map] at hu; exact hu)⟩)
/-- What Least returns, as SameLists reads it. -/
theorem least_ones {W : World} {z : Nat} {v : Value} (h : LeastV W z exK v) : ∃ a ca p c, v = .slice (some ⟨a, 0, none⟩) 3 ca ∧ Ones W W.heap.size a 3 [[0], [1], [2]] p c := by
  obtain ⟨A, ca, k, L, rfl, hl, ho, hr⟩ := h
  obtain ⟨e, rfl⟩ := exK_least hl
  have hlen : L.length = 3 := by have := congrArg List.length e; simpa using this
  obtain ⟨A2, c2, b, e2, hrow, _⟩ := RowW.of_own ho
  simp only [Value.slice.injEq] at e2
  obtain ⟨e3, _, _⟩ := e2
  subst e3
  have hx0 := List.getElem?_eq_getElem (show 0 < L.length by omega)
  obtain ⟨q1, q2, _, _⟩ := hrow.at_ (size := 1) (fun _ => rfl) hx0
  refine ⟨b, ca, fun j => (L.getD j ((none, 0), [])).1.1, fun j => (L.getD j ((none, 0), [])).1.2, by rw [q1, hlen], q2, rfl, fun j l hj => ?_⟩
  have hj3 : j < 3 := (List.getElem?_eq_some_iff.1 hj).1
  have hx := List.getElem?_eq_getElem (show j < L.length by omega)
  obtain ⟨x, hxe⟩ : ∃ x, x = L[j]'(by omega) := ⟨_, rfl⟩
  rw [← hxe] at hx
  obtain ⟨_, _, _, q3⟩ := hrow.at_ (size := 1) (fun _ => rfl) hx
  have q4 := q3 0 _ rfl
  rw [Nat.mul_one, Nat.add_zero] at q4
  have hs : (L.map Prod.snd)[j]? = some x.2 := by rw [List.getElem?_map, hx]; rfl
  have hm : l = x.2.map fun i : Nat => (i : Int) := by
    rw [e] at hs
    rcases (show j = 0 ∨ j = 1 ∨ j = 2 by omega) with rfl | rfl | rfl <;> (rw [← Option.some.inj hs]; exact (Option.some.inj hj).symm)
  have h1 : x.2.length = 1 := by
    rw [e] at hs
    rcases (show j = 0 ∨ j = 1 ∨ j = 2 by omega) with rfl | rfl | rfl <;> (rw [← Option.some.inj hs]; rfl)
  obtain ⟨b9, hb9⟩ := hr x (List.mem_of_getElem? hx)
  have hg : L.getD j ((none, 0), []) = x := by rw [List.getD_eq_getElem?_getD, hx]; rfl
  have hl1 : l.length = 1 := by rw [hm, List.length_map, h1]
  dsimp only
  rw [hg, hl1]
  refine ⟨q4, ?_, by omega⟩
  have := rd_nat hb9
  rw [h1, ← hm] at this
  exact this
theorem Ones.next {w w' : World} {a n : Nat} {L : List (List Int)} {p : Nat → Option Addr} {c : Nat → Nat} (h : Ones w w.heap.size a n L p c) (hb : Below w.heap.size w w') : Ones w' w'.heap.size a n L p c :=
  ⟨Nat.lt_of_lt_of_le h.1 hb.size, h.2.1, fun j l hj => ⟨(hb.cell (p := ⟨a, j, none⟩) h.1).trans (h.2.2 j l hj).1, (h.2.2 j l hj).2.1.next hb, (h.2.2 j l hj).2.2⟩⟩
set_option maxRecDepth 100000 in
set_option maxHeartbeats 4000000 in
theorem awake_yes (w : World) : Calls Try.prog 9 #[] w fun e w' => e = .returned (.bool true) ∧ Below w.heap.size w w' := by
  have KL := Lib.hid (fun (nb vb : Nat) W (h : KsIn W W.heap.size 3 (some ⟨nb, 0, none⟩) (some ⟨vb, 0, none⟩) exK) => Least_any exK exK_ok _ _ 3 3 3 W h)
  have KP := Lib.hid (fun (nb vb ab : Nat) W (h : KsIn W W.heap.size 3 (some ⟨nb, 0, none⟩) (some ⟨vb, 0, none⟩) exK) (hs : Rd W W.heap.size 1 encN (some ⟨ab, 0, none⟩) 1 [1]) => Repair_any exK exK_ok _ _ _ 3 3 3 1 1 [1] W h (vc_one (by decide)) hs)
  have KR := Lib.hid (fun (xb xc : Nat) W (h : Blk W xb 3 (encI 5).toArray) => repeatI_any xb xc 24 5 W h (by omega))
  have KM := Lib.hid (fun (pb tb ub : Nat) W (h : TrfIn W W.heap.size 2 (some ⟨pb, 0, none⟩) (some ⟨tb, 0, none⟩) exT) (hu : Rd W W.heap.size 1 encI (some ⟨ub, 0, none⟩) 24 (List.replicate 24 5)) => Make_yes (List.replicate 24 10) 100 [(30, 10), (120, 25)] 20 (List.replicate 24 5) 150 _ _ _ 24 2 2 24 24 W exT_ok h (by decide) all5 (by decide) hu)
  rw [exB_bill] at KM
  go_enter Try.func9, Try.ntmps9
  go_wp2_with fail
  refine (example_any _).mono ?_
  rintro e w1 ⟨n1, v1, rfl, hin, _, _, hB⟩
  have HI1 := Lib.hid hin
  clear hin
  have B0 : Hid (Below w.heap.size w w1) := Lib.hid hB
  clear hB
  go_wp2_with fail
  refine (KL.out n1 v1 _ HI1.out).mono ?_
  rintro e w2 ⟨hd, hB⟩
  have B1 : Hid (Below w1.heap.size w1 w2) := Lib.hid hB
  clear hB
  have hd2 : ∃ v, e = .returned (.tuple #[v, .int .i64 0]) ∧ LeastV w2 w1.heap.size exK v := by
    rcases hd with h | ⟨_, h⟩
    · exact h
    · have := h [0] (vc_one (by decide))
      rw [exK_can.2.1] at this
      exact absurd this (by decide)
  obtain ⟨v, rfl, hlv⟩ := hd2
  obtain ⟨la, lc, lp, lcc, rfl, hones⟩ := least_ones hlv
  have HO := Lib.hid hones
  clear hd hlv hones
  go_wp2_with fail
  refine (example_any _).mono ?_
  rintro e w3 ⟨n2, v2, rfl, hin, _, _, hB⟩
  have HI3 := Lib.hid hin
  clear hin
  have B2 : Hid (Below w2.heap.size w2 w3) := Lib.hid hB
  clear hB
  go_wp2_with fail
  obtain ⟨ab, hab⟩ : ∃ z, z = w3.heap.size := ⟨_, rfl⟩
  obtain ⟨w4, hw4⟩ : ∃ z, z = w3.alloc (.cells #[.int .i64 1] 3) := ⟨_, rfl⟩
  have AB : Hid (Blk w4 ab 3 #[.int .i64 1]) := Lib.hid (by rw [hw4, hab]; exact heap_alloc_new w3 _)
  have Sw4 : Hid (w4.heap.size = ab + 1) := Lib.hid (by rw [hw4, hab, World.size_alloc])
  have Zab : Hid (w3.heap.size ≤ ab) := Lib.hid (by rw [hab]; exact Nat.le_refl _)
  have hBn : Below w3.heap.size w3 w4 := by rw [hw4]; exact (Below.refl _ _).alloc (Nat.le_refl _) _
  rw [← hw4, ← hab]
  have B3 : Hid (Below w3.heap.size w3 w4) := Lib.hid hBn
  clear hw4 hab hBn
  have HS4 : Hid (Rd w4 w4.heap.size 1 encN (some ⟨ab, 0, none⟩) 1 [1]) := Lib.hid (RowW.rd (T := 3) (b := ab) (l := [1]) (fun _ => rfl) rfl (.inr ⟨rfl, _, AB.out, fun j u h => by rw [List.getElem?_toArray]; exact h⟩))
  refine (KP.out n2 v2 ab _ (HI3.out.next B3.out) HS4.out).mono ?_
  rintro e w5 ⟨hd, hB⟩
  have B4 : Hid (Below w4.heap.size w4 w5) := Lib.hid hB
  clear hB
  have hd2 : ∃ v, e = .returned (.tuple #[v, .int .i64 0]) ∧ RepV w5 w4.heap.size 3 exK [1] v := by
    rcases hd with ⟨_, h⟩ | ⟨h, _⟩
    · exact h
    · rw [exK_can.2.2.1] at h
      exact absurd h (by decide)
  obtain ⟨v, rfl, rb, L, rfl, hrb, hrk, _⟩ := hd2
  obtain rfl := exK_rep hrk
  have HRB := Lib.hid hrb
  clear hd hrk hrb
  go_wp2_with fail
  refine (tariff_any _).mono ?_
  rintro e w6 ⟨pb, tb, rfl, hin, hB⟩
  have HT6 : Hid (TrfIn w6 w6.heap.size 2 (some ⟨pb, 0, none⟩) (some ⟨tb, 0, none⟩) exT) := Lib.hid hin
  clear hin
  have B5 : Hid (Below w5.heap.size w5 w6) := Lib.hid hB
  clear hB
  go_wp2_with fail
  obtain ⟨fb, hfb⟩ : ∃ z, z = w6.heap.size := ⟨_, rfl⟩
  obtain ⟨w7, hw7⟩ : ∃ z, z = w6.alloc (.cells #[.int .i64 5] 3) := ⟨_, rfl⟩
  have FB : Hid (Blk w7 fb 3 #[.int .i64 5]) := Lib.hid (by rw [hw7, hfb]; exact heap_alloc_new w6 _)
  have Sw7 : Hid (w7.heap.size = fb + 1) := Lib.hid (by rw [hw7, hfb, World.size_alloc])
  have Zfb : Hid (w6.heap.size ≤ fb) := Lib.hid (by rw [hfb]; exact Nat.le_refl _)
  have hBn : Below w6.heap.size w6 w7 := by rw [hw7]; exact (Below.refl _ _).alloc (Nat.le_refl _) _
  rw [← hw7, ← hfb]
  have B6 : Hid (Below w6.heap.size w6 w7) := Lib.hid hBn
  clear hw7 hfb hBn
  refine (KR.out fb 1 _ FB.out).mono ?_
  rintro e w8 ⟨ub, rfl, _, hub, hB⟩
  have HU8 : Hid (Rd w8 w8.heap.size 1 encI (some ⟨ub, 0, none⟩) 24 (List.replicate 24 5)) := Lib.hid (RowW.rd (T := 3) (b := ub) (l := List.replicate 24 5) (fun _ => rfl) rfl (.inr ⟨rfl, _, hub, fun j u h => by rw [List.getElem?_toArray]; exact h⟩))
  clear hub
  have B7 : Hid (Below w7.heap.size w7 w8) := Lib.hid hB
  clear hB
  go_wp2_with fail
  refine (KM.out pb tb ub _ (HT6.out.next (below3 B6.out B7.out (Nat.le_refl _))) HU8.out).mono ?_
  rintro e w9 ⟨rfl, hB⟩
  have B8 : Hid (Below w8.heap.size w8 w9) := Lib.hid hB
  clear hB
  have g1 : w9.heap.size < w9.heap.size + 1 := by omega
  go_wp2_with fail
  obtain ⟨z, hz⟩ : ∃ z, z = w9.heap.size := ⟨_, rfl⟩
  rw [← hz]
  obtain ⟨wa, hwa⟩ : ∃ W, W = w9.alloc (.cells #[.int .i64 120, .int .i64 1300, .int .i64 260, .int .i64 1040] 77) := ⟨_, rfl⟩
  rw [← hwa]
  have swa : wa.heap.size = z + 1 := by rw [hwa, World.size_alloc, ← hz]
  have b0 : Blk wa (z) 77 #[.int .i64 120, .int .i64 1300, .int .i64 260, .int .i64 1040] := by
    have e2 := heap_alloc_new w9 (.cells #[.int .i64 120, .int .i64 1300, .int .i64 260, .int .i64 1040] 77)
    rw [← hz] at e2
    rw [hwa]
    exact e2
  have l0 : Below w9.heap.size w9 wa := by rw [hwa]; exact (Below.refl _ _).alloc (Nat.le_refl _) _
  obtain ⟨wb, hwb⟩ : ∃ W, W = wa.alloc (.cells #[.int .i64 0] 3) := ⟨_, rfl⟩
  rw [← hwb]
  have swb : wb.heap.size = z + 1 + 1 := by rw [hwb, World.size_alloc, swa]
  have b1 : Blk wb (z + 1) 3 #[.int .i64 0] := by
    have e2 := heap_alloc_new wa (.cells #[.int .i64 0] 3)
    rw [swa] at e2
    rw [hwb]
    exact e2
  have l1 : Below wa.heap.size wa wb := by rw [hwb]; exact (Below.refl _ _).alloc (Nat.le_refl _) _
  obtain ⟨wc, hwc⟩ : ∃ W, W = wb.alloc (.cells #[.int .i64 1] 3) := ⟨_, rfl⟩
  rw [← hwc]
  have swc : wc.heap.size = z + 1 + 1 + 1 := by rw [hwc, World.size_alloc, swb]
  have b2 : Blk wc (z + 1 + 1) 3 #[.int .i64 1] := by
    have e2 := heap_alloc_new wb (.cells #[.int .i64 1] 3)
    rw [swb] at e2
    rw [hwc]
    exact e2
  have l2 : Below wb.heap.size wb wc := by rw [hwc]; exact (Below.refl _ _).alloc (Nat.le_refl _) _
  obtain ⟨wd, hwd⟩ : ∃ W, W = wc.alloc (.cells #[.int .i64 2] 3) := ⟨_, rfl⟩
  rw [← hwd]
  have swd : wd.heap.size = z + 1 + 1 + 1 + 1 := by rw [hwd, World.size_alloc, swc]
  have b3 : Blk wd (z + 1 + 1 + 1) 3 #[.int .i64 2] := by
    have e2 := heap_alloc_new wc (.cells #[.int .i64 2] 3)
    rw [swc] at e2
    rw [hwd]
    exact e2
  have l3 : Below wc.heap.size wc wd := by rw [hwd]; exact (Below.refl _ _).alloc (Nat.le_refl _) _
  obtain ⟨w10, hw10⟩ : ∃ W, W = wd.alloc (.cells #[.slice (some ⟨z + 1, 0, none⟩) 1 1, .slice (some ⟨z + 1 + 1, 0, none⟩) 1 1, .slice (some ⟨z + 1 + 1 + 1, 0, none⟩) 1 1] 22) := ⟨_, rfl⟩
  rw [← hw10]
  have sw10 : w10.heap.size = z + 1 + 1 + 1 + 1 + 1 := by rw [hw10, World.size_alloc, swd]
  have b4 : Blk w10 (z + 1 + 1 + 1 + 1) 22 #[.slice (some ⟨z + 1, 0, none⟩) 1 1, .slice (some ⟨z + 1 + 1, 0, none⟩) 1 1, .slice (some ⟨z + 1 + 1 + 1, 0, none⟩) 1 1] := by
    have e2 := heap_alloc_new wd (.cells #[.slice (some ⟨z + 1, 0, none⟩) 1 1, .slice (some ⟨z + 1 + 1, 0, none⟩) 1 1, .slice (some ⟨z + 1 + 1 + 1, 0, none⟩) 1 1] 22)
    rw [swd] at e2
    rw [hw10]
    exact e2
  have l4 : Below wd.heap.size wd w10 := by rw [hw10]; exact (Below.refl _ _).alloc (Nat.le_refl _) _
  have L4 := l4
  have L3 := below3 l3 L4 (Nat.le_refl _)
  have L2 := below3 l2 L3 (Nat.le_refl _)
  have L1 := below3 l1 L2 (Nat.le_refl _)
  have L0 := below3 l0 L1 (Nat.le_refl _)
  have HBB : Hid (Blk w10 z 77 #[.int .i64 120, .int .i64 1300, .int .i64 260, .int .i64 1040]) := Lib.hid (b0.below L1 b0.lt)
  have HQ : Hid (Ones w10 w10.heap.size (z + 1 + 1 + 1 + 1) 3 [[0], [1], [2]] (fun j => if j = 0 then some ⟨z + 1, 0, none⟩ else if j = 1 then some ⟨z + 1 + 1, 0, none⟩ else some ⟨z + 1 + 1 + 1, 0, none⟩) (fun _ => 1)) := Lib.hid (by
    refine ⟨by omega, rfl, fun j l hj => ?_⟩
    have hj3 : j < 3 := (List.getElem?_eq_some_iff.1 hj).1
    have c := b4.cell j
    have r : ∀ (b : Nat) (x : Int), Blk w10 b 3 #[.int .i64 x] → Rd w10 w10.heap.size 1 encI (some ⟨b, 0, none⟩) 1 [x] := fun b x h => RowW.rd (T := 3) (b := b) (l := [x]) (fun _ => rfl) rfl (.inr ⟨rfl, _, h, fun j u h => by rw [List.getElem?_toArray]; exact h⟩)
    rcases (show j = 0 ∨ j = 1 ∨ j = 2 by omega) with rfl | rfl | rfl
    · obtain rfl := Option.some.inj hj
      exact ⟨c, r _ _ (b1.below L2 b1.lt), by decide⟩
    · obtain rfl := Option.some.inj hj
      exact ⟨c, r _ _ (b2.below L3 b2.lt), by decide⟩
    · obtain rfl := Option.some.inj hj
      exact ⟨c, r _ _ (b3.below L4 b3.lt), by decide⟩)
  have hBn := L0
  clear b0 b1 b2 b3 b4 l0 l1 l2 l3 l4 L1 L2 L3 L4 L0 hwa hwb hwc hwd hw10 swa swb swc swd
  have B9 : Hid (Below w9.heap.size w9 w10) := Lib.hid hBn
  clear hBn
  refine (SameLists_yes la (z + 1 + 1 + 1 + 1) 3 lc 3 [[0], [1], [2]] lp _ lcc _ w10 (by decide) (HO.out.next (below3 (below3 (below3 (below3 (below3 (below3 (below3 B2.out B3.out (Nat.le_refl _)) B4.out (Nat.le_refl _)) B5.out (Nat.le_refl _)) B6.out (Nat.le_refl _)) B7.out (Nat.le_refl _)) B8.out (Nat.le_refl _)) B9.out (Nat.le_refl _))) HQ.out).mono ?_
  rintro e w11 ⟨rfl, hB⟩
  have B10 : Hid (Below w10.heap.size w10 w11) := Lib.hid hB
  clear hB sw10 hz
  have g2 : w11.heap.size < w11.heap.size + 1 := by omega
  go_wp2_with fail
  obtain ⟨eb, heb⟩ : ∃ z, z = w11.heap.size := ⟨_, rfl⟩
  obtain ⟨w12, hw12⟩ : ∃ z, z = w11.alloc (.cells #[.int .i64 100, .int .i64 45, .int .i64 50] 3) := ⟨_, rfl⟩
  have EB : Hid (Blk w12 eb 3 #[.int .i64 100, .int .i64 45, .int .i64 50]) := Lib.hid (by rw [hw12, heb]; exact heap_alloc_new w11 _)
  have Sw12 : Hid (w12.heap.size = eb + 1) := Lib.hid (by rw [hw12, heb, World.size_alloc])
  have Zeb : Hid (w11.heap.size ≤ eb) := Lib.hid (by rw [heb]; exact Nat.le_refl _)
  have hBn : Below w11.heap.size w11 w12 := by rw [hw12]; exact (Below.refl _ _).alloc (Nat.le_refl _) _
  rw [← hw12, ← heb]
  have B11 : Hid (Below w11.heap.size w11 w12) := Lib.hid hBn
  clear hw12 heb hBn
  have HE12 : Hid (Rd w12 w12.heap.size 1 encI (some ⟨eb, 0, none⟩) 3 [100, 45, 50]) := Lib.hid (RowW.rd (T := 3) (b := eb) (l := [100, 45, 50]) (fun _ => rfl) rfl (.inr ⟨rfl, _, EB.out, fun j u h => by rw [List.getElem?_toArray]; exact h⟩))
  have HR5 : Hid (Rd w5 w5.heap.size 1 encI (some ⟨rb, 0, none⟩) 3 [100, 45, 50]) := Lib.hid (RowW.rd (T := 3) (b := rb) (l := [100, 45, 50]) (fun _ => rfl) rfl (.inr ⟨rfl, _, HRB.out, fun j u h => by rw [← flat_encI, List.getElem?_toArray]; exact h⟩))
  refine (Equal_yes _ _ 3 3 3 [100, 45, 50] w12 (HR5.out.next (below3 (below3 (below3 (below3 (below3 (below3 B5.out B6.out (Nat.le_refl _)) B7.out (Nat.le_refl _)) B8.out (Nat.le_refl _)) B9.out (Nat.le_refl _)) B10.out (Nat.le_refl _)) B11.out (Nat.le_refl _))) HE12.out (by decide)).mono ?_
  rintro e w13 ⟨rfl, hB⟩
  have B12 : Hid (Below w12.heap.size w12 w13) := Lib.hid hB
  clear hB
  have hbk := HBB.out.below (below3 (below3 B10.out B11.out (Nat.le_refl _)) B12.out (Nat.le_refl _)) HBB.out.lt
  have t0 := hbk.cell 0
  have t1 := hbk.cell 1
  have t2 := hbk.cell 2
  have t3 := hbk.cell 3
  simp only [List.getElem?_toArray, List.getElem?_cons_zero, List.getElem?_cons_succ] at t0 t1 t2 t3
  have zt := hbk.lt
  clear hbk
  go_wp2
  go_ret
  exact ⟨rfl, (below3 (below3 (below3 (below3 (below3 (below3 (below3 (below3 (below3 (below3 (below3 (below3 B0.out B1.out (Nat.le_refl _)) B2.out (Nat.le_refl _)) B3.out (Nat.le_refl _)) B4.out (Nat.le_refl _)) B5.out (Nat.le_refl _)) B6.out (Nat.le_refl _)) B7.out (Nat.le_refl _)) B8.out (Nat.le_refl _)) B9.out (Nat.le_refl _)) B10.out (Nat.le_refl _)) B11.out (Nat.le_refl _)) B12.out (Nat.le_refl _))⟩
end Go.Proofs.Ytcecbohaajocfaa
