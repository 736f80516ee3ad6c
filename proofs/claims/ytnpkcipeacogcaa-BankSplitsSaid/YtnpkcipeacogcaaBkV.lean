/- bank: Worst, Hold. -/
import Derived.Test.YtnpkcipeacogcaaBkU

set_option linter.unusedSimpArgs false
set_option linter.unusedVariables false
namespace Go.Proofs.Ytnpkcipeacogcaa
open Go.RowKit

/-- What a search for the worst fails leaves. -/
def WoEnd (bs : List Bat) (gs : List Gen) (l : List Spn) (b : Int) (n bn : Nat) (w : World) (A : Option Addr) (c : Nat) (fs : List Int) (g1 g2 : Nat) (w' : World) : Prop :=
  Below w.heap.size w w' ∧ w'.ownsRow w.heap.size 3 1 (.slice A n c) n (fs.flatMap encI) ∧ ResIn w.heap.size w' g1 g2 (runOf bs gs l fs) ∧ Fl gs fs ∧ sumI fs ≤ b ∧ ∀ ts, Fl gs ts → sumI ts ≤ b → ¬ earlierP (runOf bs gs l ts).dark (runOf bs gs l fs).dark
set_option maxRecDepth 100000 in
set_option maxHeartbeats 1000000 in
theorem Worst_any (bA gA lA : Option Addr) (bn bc n gc ln lc : Nat) (bs : List Bat) (gs : List Gen) (l : List Spn) (b : Int) (w : World)
    (hin : ArgsIn w w.heap.size bA bn bs gA n gs lA ln l) (ok : ArgsOk bs gs l) (b0 : 0 ≤ b) (b1 : b ≤ 1000000) (hs : cntL gs * ((secsL l).length : Nat) ≤ 4194304) :
    Calls Try.prog 20 #[.agg #[.slice bA bn bc, .slice gA n gc], .slice lA ln lc, .int .i64 b] w fun e w' => ∃ A c fs g1 g2, e = .returned (.tuple #[.slice A n c, .agg #[.int .i64 (runOf bs gs l fs).dark, .slice (some ⟨g1, 0, none⟩) bn bn, .slice (some ⟨g2, 0, none⟩) n n, .int .i64 (runOf bs gs l fs).served], .int .i64 0]) ∧ WoEnd bs gs l b n bn w A c fs g1 g2 w' := by
  have HIN := Lib.hid hin
  have KC := Lib.hid (fun W h => checkSearch_any bA gA lA bn bc n gc ln lc bs gs l b W h ok b0 hs)
  have KW := Lib.hid (fun W h => worst_any bA gA lA bn bc n gc ln lc bs gs l b W h ok b0 b1)
  unfold WoEnd
  obtain ⟨run, hrun⟩ : ∃ z, z = runOf bs gs l := ⟨_, rfl⟩
  rw [← hrun] at KW ⊢
  clear hin ok hs hrun b0 b1
  go_enter Try.func20, Try.ntmps20
  go_wp2_with fail
  refine (KC.out _ (HIN.out.next (by (repeat' (first | (with_reducible exact Below.refl _ _) | (with_reducible assumption) | (with_reducible refine below_drewN ?_ _) | (with_reducible refine below_after (by assumption) ?_ ?_) | (with_reducible refine Below.drew ?_) | (with_reducible refine Below.alloc ?_ ?_ _) | (with_reducible refine Below.setCell ?_ ?_ _) | omega | (simp; omega) | (simp; done)))))).mono ?_
  rintro e w1 ⟨rfl, hB1⟩
  have HL : Hid (Below w.heap.size w w1) := Lib.hid (below3 (((Below.refl w.heap.size w).alloc (Nat.le_refl _) _).alloc (by simp) _) hB1 (Nat.le_refl _))
  have HRB : Hid (Blk w1 (w.heap.size + 1) 40 #[.int .i64 0, .slice none 0 0, .slice none 0 0, .int .i64 0]) := Lib.hid (by
    have h := heap_alloc_new (w.alloc (.cells #[.slice bA bn bc, .slice gA n gc] 26)) (.cells #[.int .i64 0, .slice none 0 0, .slice none 0 0, .int .i64 0] 40)
    rw [World.size_alloc] at h
    exact Blk.below h hB1 (by simp))
  have c0 : w1.cell? ⟨w.heap.size, 0, none⟩ = some (.slice bA bn bc) := (hB1.cell (p := ⟨w.heap.size, 0, none⟩) (by simp; omega)).trans (by simp [go_sem])
  have c1 : w1.cell? ⟨w.heap.size, 1, none⟩ = some (.slice gA n gc) := (hB1.cell (p := ⟨w.heap.size, 1, none⟩) (by simp; omega)).trans (by simp [go_sem])
  have z1 : w.heap.size < w1.heap.size := by have := HRB.out.lt; omega
  clear hB1
  go_wp2_with fail
  refine (KW.out _ (HIN.out.next HL.out)).mono ?_
  rintro e w2 ⟨A, c, fs, g1, g2, rfl, hB2, hrow, hre, hfl, hsm, hall⟩
  have HB2 := Lib.hid hB2
  have HE := Lib.hid (And.intro hrow (And.intro hre (And.intro hfl (And.intro hsm hall))))
  have HRB2 := Lib.hid (HRB.out.below hB2 HRB.out.lt)
  clear hB2 hrow hre hfl hsm hall
  go_wp2
  obtain ⟨W3, hW3⟩ : ∃ z, z = w2.alloc (.cells #[.int .i64 (run fs).dark, .slice (some ⟨g1, 0, none⟩) bn bn, .slice (some ⟨g2, 0, none⟩) n n, .int .i64 (run fs).served] 40) := ⟨_, rfl⟩
  have hB3 : Below w2.heap.size w2 W3 := by rw [hW3]; exact (Below.refl _ _).alloc (Nat.le_refl _) _
  have hX : Blk W3 w2.heap.size 40 #[.int .i64 (run fs).dark, .slice (some ⟨g1, 0, none⟩) bn bn, .slice (some ⟨g2, 0, none⟩) n n, .int .i64 (run fs).served] := by rw [hW3]; exact heap_alloc_new w2 _
  rw [← hW3]
  clear hW3
  have hR3 := HRB2.out.below hB3 HRB2.out.lt
  have x0 : W3.cell? ⟨w2.heap.size, 0, none⟩ = some (.int .i64 (run fs).dark) := hX.cell 0
  have x1 : W3.cell? ⟨w2.heap.size, 1, none⟩ = some (.slice (some ⟨g1, 0, none⟩) bn bn) := hX.cell 1
  have x2 : W3.cell? ⟨w2.heap.size, 2, none⟩ = some (.slice (some ⟨g2, 0, none⟩) n n) := hX.cell 2
  have x3 : W3.cell? ⟨w2.heap.size, 3, none⟩ = some (.int .i64 (run fs).served) := hX.cell 3
  have r0 : W3.cell? ⟨w.heap.size + 1, 0, none⟩ = some (.int .i64 0) := hR3.cell 0
  have r1 : W3.cell? ⟨w.heap.size + 1, 1, none⟩ = some (.slice none 0 0) := hR3.cell 1
  have r2 : W3.cell? ⟨w.heap.size + 1, 2, none⟩ = some (.slice none 0 0) := hR3.cell 2
  have r3 : W3.cell? ⟨w.heap.size + 1, 3, none⟩ = some (.int .i64 0) := hR3.cell 3
  have f0 := hR3.frozen 0
  have f1 := hR3.frozen 1
  have f2 := hR3.frozen 2
  have f3 := hR3.frozen 3
  have zx := hX.lt
  have zr := hR3.lt
  have HR3 := Lib.hid hR3
  have HB3 := Lib.hid hB3
  clear hX hR3 hB3
  go_still_tail 3, (by kernel_rfl)
  change wpList _ _ _ _ _ W3.drew
  go_wp2
  obtain ⟨W', hW'⟩ : ∃ z, z = (((W3.setCell ⟨w.heap.size + 1, 0, none⟩ (.int .i64 (run fs).dark)).setCell ⟨w.heap.size + 1, 1, none⟩ (.slice (some ⟨g1, 0, none⟩) bn bn)).setCell ⟨w.heap.size + 1, 2, none⟩ (.slice (some ⟨g2, 0, none⟩) n n)).setCell ⟨w.heap.size + 1, 3, none⟩ (.int .i64 (run fs).served) := ⟨_, rfl⟩
  have hrw : Blk W' (w.heap.size + 1) 40 #[.int .i64 (run fs).dark, .slice (some ⟨g1, 0, none⟩) bn bn, .slice (some ⟨g2, 0, none⟩) n n, .int .i64 (run fs).served] := by
    have k := (((HR3.out.set_ 0 (.int .i64 (run fs).dark)).set_ 1 (.slice (some ⟨g1, 0, none⟩) bn bn)).set_ 2 (.slice (some ⟨g2, 0, none⟩) n n)).set_ 3 (.int .i64 (run fs).served)
    rw [hW']
    simpa only [List.setIfInBounds_toArray, List.set_cons_zero, List.set_cons_succ] using k
  have hkeep : Keep (fun b => b = w.heap.size + 1) W3 W' := by rw [hW']; exact ((((Keep.refl (fun b => b = w.heap.size + 1) W3).setCell (p := ⟨w.heap.size + 1, 0, none⟩) rfl _).setCell (p := ⟨w.heap.size + 1, 1, none⟩) rfl _).setCell (p := ⟨w.heap.size + 1, 2, none⟩) rfl _).setCell (p := ⟨w.heap.size + 1, 3, none⟩) rfl _
  rw [← hW']
  clear hW'
  have hz := HL.out.size
  have hz2 := HB2.out.size
  have hz3 := HB3.out.size
  obtain ⟨e1, e2, e3⟩ := HE.out
  refine bodyPost_ret (v := .tuple #[.slice A n c, .agg #[.int .i64 (run fs).dark, .slice (some ⟨g1, 0, none⟩) bn bn, .slice (some ⟨g2, 0, none⟩) n n, .int .i64 (run fs).served], .int .i64 0]) ?_ rfl ⟨A, c, fs, g1, g2, rfl, ?_, ?_, ?_, e3⟩
  · have q0 := hrw.cell 0
    have q1 := hrw.cell 1
    have q2 := hrw.cell 2
    have q3 := hrw.cell 3
    simp at q0 q1 q2 q3
    simp [results, Try.results20, go_sem, q0, q1, q2, q3]
  · exact (below3 (below3 HL.out HB2.out (Nat.le_refl _)) HB3.out (Nat.le_refl _)).trans ((hkeep.below (Nat.le_trans (Nat.le_trans hz hz2) hz3) (fun b hb => by omega)).drew)
  · have h3 := row_next e1 HB3.out
    exact ⟨h3.1, h3.2.imp id fun ⟨g, cap, cu, k1, k2, k3, k4⟩ => ⟨g, cap, cu, k1, by omega, hkeep.blk (show Blk W3 g _ cu from k3) (blk_ne (show Blk W3 g _ cu from k3) HR3.out (by decide)), k4⟩⟩
  · have k1 := e2.e.below HB3.out e2.e.lt
    have k2 := e2.b.below HB3.out e2.b.lt
    have := e2.b1
    have := e2.b2
    exact ⟨by omega, by omega, hkeep.blk k1 (blk_ne k1 HR3.out (by decide)), hkeep.blk k2 (blk_ne k2 HR3.out (by decide))⟩
/-- What Hold asks. -/
def holdL (power : Int) : List Spn := [⟨3600, power⟩, ⟨400, power⟩]
theorem holdL_secs (power : Int) : secsL (holdL power) = List.replicate 4000 power := by
  unfold secsL holdL
  simp only [List.flatMap_cons, List.flatMap_nil, List.append_nil]
  rw [show ((3600 : Int).toNat) = 3600 from rfl, show ((400 : Int).toNat) = 400 from rfl, List.replicate_append_replicate]
def HoldEnd (bs : List Bat) (gs : List Gen) (power b : Int) (m : Int) : Prop :=
  ∃ fs, Fl gs fs ∧ sumI fs ≤ b ∧ (∀ ts, Fl gs ts → sumI ts ≤ b → ¬ earlierP (runOf bs gs (holdL power) ts).dark (runOf bs gs (holdL power) fs).dark) ∧ m = if (runOf bs gs (holdL power) fs).dark = -1 then 4000 else (runOf bs gs (holdL power) fs).dark
set_option maxRecDepth 100000 in
set_option maxHeartbeats 1000000 in
theorem Hold_any (bA gA : Option Addr) (bn bc n gc : Nat) (bs : List Bat) (gs : List Gen) (power b : Int) (w : World)
    (hb : Rd w w.heap.size 4 Bat.enc bA bn bs) (hg : Rd w w.heap.size 5 Gen.enc gA n gs) (ok : ArgsOk bs gs (holdL power)) (b0 : 0 ≤ b) (b1 : b ≤ 1000000) (hs : cntL gs * 4000 ≤ 4194304) :
    Calls Try.prog 24 #[.agg #[.slice bA bn bc, .slice gA n gc], .int .i64 power, .int .i64 b] w fun e w' => ∃ m, e = .returned (.tuple #[.int .i64 m, .int .i64 0]) ∧ Below w.heap.size w w' ∧ HoldEnd bs gs power b m := by
  have KW := Lib.hid (fun (lA : Option Addr) W h => Worst_any bA gA lA bn bc n gc 2 2 bs gs (holdL power) b W h ok b0 b1 (by rw [holdL_secs, List.length_replicate]; exact hs))
  have HB := Lib.hid hb
  have HG := Lib.hid hg
  unfold HoldEnd
  have HD := Lib.hid (fun fs => runOf_dark bs gs (holdL power) fs)
  obtain ⟨run, hrun⟩ : ∃ z, z = runOf bs gs (holdL power) := ⟨_, rfl⟩
  unfold WoEnd at KW
  rw [← hrun] at KW HD ⊢
  clear hb hg ok hs hrun b0 b1
  go_enter Try.func24, Try.ntmps24
  go_wp2_with fail
  refine (KW.out _ _ ⟨HB.out.next (by (repeat' (first | (with_reducible exact Below.refl _ _) | (with_reducible assumption) | (with_reducible refine below_drewN ?_ _) | (with_reducible refine below_after (by assumption) ?_ ?_) | (with_reducible refine Below.drew ?_) | (with_reducible refine Below.alloc ?_ ?_ _) | (with_reducible refine Below.setCell ?_ ?_ _) | omega | (simp; omega) | (simp; done)))), HG.out.next (by (repeat' (first | (with_reducible exact Below.refl _ _) | (with_reducible assumption) | (with_reducible refine below_drewN ?_ _) | (with_reducible refine below_after (by assumption) ?_ ?_) | (with_reducible refine Below.drew ?_) | (with_reducible refine Below.alloc ?_ ?_ _) | (with_reducible refine Below.setCell ?_ ?_ _) | omega | (simp; omega) | (simp; done)))), ?_⟩).mono ?_
  · have h := Rd.lit (w.alloc (.cells #[.slice bA bn bc, .slice gA n gc] 26)) 37 Spn.enc 2 (holdL power) (fun _ _ => rfl)
    rw [World.size_alloc] at h
    exact (h.more (by simp))
  rintro e w1 ⟨A, c, fs, g1, g2, rfl, hB1, hrow, hre, hfl, hsm, hall⟩
  have HL : Hid (Below w.heap.size w w1) := Lib.hid (below3 (((Below.refl w.heap.size w).alloc (Nat.le_refl _) _).alloc (by simp) _) hB1 (Nat.le_refl _))
  have HE := Lib.hid (And.intro hfl (And.intro hsm hall))
  obtain ⟨d0, d1⟩ := HD.out fs
  clear hB1 hrow hre hfl hsm hall KW
  by_cases hd : (run fs).dark = -1
  · have e1 : ((run fs).dark == -1) = true := by simp [hd]
    have HDD := Lib.hid hd
    clear hd
    go_wp2
    refine bodyPost_ret (results_tmp2 rfl _ _ _) rfl ⟨_, rfl, HL.out.alloc HL.out.size _, fs, HE.out.1, HE.out.2.1, HE.out.2.2, ?_⟩
    rw [if_pos HDD.out]
  · have e1 : ((run fs).dark == -1) = false := by simp [hd]
    have HDD := Lib.hid hd
    clear hd
    go_wp2
    refine bodyPost_ret (results_tmp2 rfl _ _ _) rfl ⟨_, rfl, HL.out.alloc HL.out.size _, fs, HE.out.1, HE.out.2.1, HE.out.2.2, ?_⟩
    rw [if_neg HDD.out]
end Go.Proofs.Ytnpkcipeacogcaa
