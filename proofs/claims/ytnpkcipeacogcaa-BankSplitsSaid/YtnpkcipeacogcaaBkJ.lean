/- bank: Run, Lack, Trace. -/
import Derived.Test.YtnpkcipeacogcaaBkI

set_option linter.unusedSimpArgs false
set_option linter.unusedVariables false
namespace Go.Proofs.Ytnpkcipeacogcaa
open Go.RowKit

set_option maxRecDepth 100000 in
theorem run_any (bA gA lA fA : Option Addr) (bn bc gn gc ln lc fn fc : Nat) (bs : List Bat) (gs : List Gen) (l : List Spn) (fs : List Int) (w : World)
    (hin : ArgsIn w w.heap.size bA bn bs gA gn gs lA ln l) (hf : Rd w w.heap.size 1 encI fA fn fs) (ok : ArgsOk bs gs l) (okf : FailsOk gs fs) :
    Calls Try.prog 15 #[.agg #[.slice bA bn bc, .slice gA gn gc], .slice lA ln lc, .slice fA fn fc] w fun e w' => ∃ g1 g2, e = .returned (.tuple #[resVal g1 g2 (runL 0 (ply0 bs gs fs) (secsL l)), .int .i64 0]) ∧ Below w.heap.size w w' ∧ ResIn w.heap.size w' g1 g2 (runL 0 (ply0 bs gs fs) (secsL l)) := by
  have HIN := Lib.hid hin
  have HF := Lib.hid hf
  have KC := Lib.hid (fun W h1 h2 => checkRun_any bA gA lA fA bn bc gn gc ln lc fn fc bs gs l fs W h1 h2 ok okf)
  have KR := Lib.hid (fun W h1 h2 => result_any bA gA lA fA bn bc gn gc ln lc fn fc bs gs l fs W h1 h2 ok okf)
  obtain ⟨p, hp⟩ : ∃ z, z = runL 0 (ply0 bs gs fs) (secsL l) := ⟨_, rfl⟩
  rw [← hp] at KR ⊢
  unfold resVal at KR ⊢
  obtain ⟨nc, hnc⟩ : ∃ z, z = p.cs.length := ⟨_, rfl⟩
  obtain ⟨ne, hne⟩ : ∃ z, z = p.es.length := ⟨_, rfl⟩
  rw [← hnc, ← hne] at KR ⊢
  clear hin hf ok okf hp hnc hne
  go_enter Try.func15, Try.ntmps15
  go_wp2_with fail
  refine (KC.out _ (HIN.out.next (by (repeat' (first | (with_reducible exact Below.refl _ _) | (with_reducible assumption) | (with_reducible refine below_drewN ?_ _) | (with_reducible refine below_after (by assumption) ?_ ?_) | (with_reducible refine Below.drew ?_) | (with_reducible refine Below.alloc ?_ ?_ _) | (with_reducible refine Below.setCell ?_ ?_ _) | omega | (simp; omega) | (simp; done))))) (HF.out.next (by (repeat' (first | (with_reducible exact Below.refl _ _) | (with_reducible assumption) | (with_reducible refine below_drewN ?_ _) | (with_reducible refine below_after (by assumption) ?_ ?_) | (with_reducible refine Below.drew ?_) | (with_reducible refine Below.alloc ?_ ?_ _) | (with_reducible refine Below.setCell ?_ ?_ _) | omega | (simp; omega) | (simp; done)))))).mono ?_
  rintro e w1 ⟨rfl, hB1⟩
  have HL : Hid (Below w.heap.size w w1) := Lib.hid (below3 (((Below.refl w.heap.size w).alloc (Nat.le_refl _) _).alloc (by simp) _) hB1 (Nat.le_refl _))
  have HRB : Hid (Blk w1 (w.heap.size + 1) 40 #[.int .i64 0, .slice none 0 0, .slice none 0 0, .int .i64 0]) := Lib.hid (by
    have h := heap_alloc_new (w.alloc (.cells #[.slice bA bn bc, .slice gA gn gc] 26)) (.cells #[.int .i64 0, .slice none 0 0, .slice none 0 0, .int .i64 0] 40)
    rw [World.size_alloc] at h
    exact Blk.below h hB1 (by simp))
  have c0 : w1.cell? ⟨w.heap.size, 0, none⟩ = some (.slice bA bn bc) := (hB1.cell (p := ⟨w.heap.size, 0, none⟩) (by simp; omega)).trans (by simp [go_sem])
  have c1 : w1.cell? ⟨w.heap.size, 1, none⟩ = some (.slice gA gn gc) := (hB1.cell (p := ⟨w.heap.size, 1, none⟩) (by simp; omega)).trans (by simp [go_sem])
  have z1 : w.heap.size < w1.heap.size := by have := HRB.out.lt; omega
  clear hB1
  go_wp2_with fail
  refine (KR.out _ (HIN.out.next HL.out) (HF.out.next HL.out)).mono ?_
  rintro e w2 ⟨g1, g2, rfl, hB2, hR⟩
  have HL2 := Lib.hid (below3 HL.out hB2 (Nat.le_refl _))
  have HR := Lib.hid hR
  have HRB2 := Lib.hid (HRB.out.below hB2 HRB.out.lt)
  have d0 : w2.cell? ⟨w.heap.size + 1, 0, none⟩ = some (.int .i64 0) := HRB2.out.cell 0
  have d1 : w2.cell? ⟨w.heap.size + 1, 1, none⟩ = some (.slice none 0 0) := HRB2.out.cell 1
  have d2 : w2.cell? ⟨w.heap.size + 1, 2, none⟩ = some (.slice none 0 0) := HRB2.out.cell 2
  have d3 : w2.cell? ⟨w.heap.size + 1, 3, none⟩ = some (.int .i64 0) := HRB2.out.cell 3
  have hfz := HRB2.out.frozen
  have zr := HRB2.out.lt
  have hrow : Hid (Blk ((((w2.setCell ⟨w.heap.size + 1, 0, none⟩ (.int .i64 p.dark)).setCell ⟨w.heap.size + 1, 1, none⟩ (.slice (some ⟨g1, 0, none⟩) nc nc)).setCell ⟨w.heap.size + 1, 2, none⟩ (.slice (some ⟨g2, 0, none⟩) ne ne)).setCell ⟨w.heap.size + 1, 3, none⟩ (.int .i64 p.served)) (w.heap.size + 1) 40 #[.int .i64 p.dark, .slice (some ⟨g1, 0, none⟩) nc nc, .slice (some ⟨g2, 0, none⟩) ne ne, .int .i64 p.served]) := Lib.hid (by
    have k := (((HRB2.out.set_ 0 (.int .i64 p.dark)).set_ 1 (.slice (some ⟨g1, 0, none⟩) nc nc)).set_ 2 (.slice (some ⟨g2, 0, none⟩) ne ne)).set_ 3 (.int .i64 p.served)
    simpa only [List.setIfInBounds_toArray, List.set_cons_zero, List.set_cons_succ] using k)
  clear hB2 hR
  go_wp2
  refine bodyPost_ret (v := .tuple #[.agg #[.int .i64 p.dark, .slice (some ⟨g1, 0, none⟩) nc nc, .slice (some ⟨g2, 0, none⟩) ne ne, .int .i64 p.served], .int .i64 0]) ?_ rfl ⟨g1, g2, rfl, ?_, ?_⟩
  · have q0 := hrow.out.cell 0
    have q1 := hrow.out.cell 1
    have q2 := hrow.out.cell 2
    have q3 := hrow.out.cell 3
    simp at q0 q1 q2 q3
    simp [results, Try.results15, go_sem, q0, q1, q2, q3]
  · exact (((HL2.out.setCell (p := ⟨w.heap.size + 1, 0, none⟩) (by simp) _).setCell (p := ⟨w.heap.size + 1, 1, none⟩) (by simp) _).setCell (p := ⟨w.heap.size + 1, 2, none⟩) (by simp) _).setCell (p := ⟨w.heap.size + 1, 3, none⟩) (by simp) _
  · have h := HR.out
    have n1 := blk_ne h.e HRB2.out (by decide)
    have n2 := blk_ne h.b HRB2.out (by decide)
    have hs := HL.out.size
    exact ⟨Nat.le_trans hs h.b1, Nat.le_trans hs h.b2, (((h.e.far n1 _).far n1 _).far n1 _).far n1 _, (((h.b.far n2 _).far n2 _).far n2 _).far n2 _⟩
set_option maxRecDepth 100000 in
theorem Lack_any (bA gA lA fA : Option Addr) (bn bc gn gc ln lc fn fc : Nat) (bs : List Bat) (gs : List Gen) (l : List Spn) (fs : List Int) (w : World)
    (hin : ArgsIn w w.heap.size bA bn bs gA gn gs lA ln l) (hf : Rd w w.heap.size 1 encI fA fn fs) (ok : ArgsOk bs gs l) (okf : FailsOk gs fs) :
    Calls Try.prog 23 #[.agg #[.slice bA bn bc, .slice gA gn gc], .slice lA ln lc, .slice fA fn fc] w fun e w' => e = .returned (.tuple #[.int .i64 (anyL 0 (ply0 bs gs fs) (secsL l)).lacking, .int .i64 0]) ∧ Below w.heap.size w w' := by
  have HIN := Lib.hid hin
  have HF := Lib.hid hf
  have KC := Lib.hid (fun W h1 h2 => checkRun_any bA gA lA fA bn bc gn gc ln lc fn fc bs gs l fs W h1 h2 ok okf)
  have KR := Lib.hid (fun W h1 h2 => lack_any bA gA lA fA bn bc gn gc ln lc fn fc bs gs l fs W h1 h2 ok okf)
  obtain ⟨p, hp⟩ : ∃ z, z = (anyL 0 (ply0 bs gs fs) (secsL l)).lacking := ⟨_, rfl⟩
  rw [← hp] at KR ⊢
  clear hin hf ok okf hp
  go_enter Try.func23, Try.ntmps23
  go_wp2_with fail
  refine (KC.out _ (HIN.out.next (by (repeat' (first | (with_reducible exact Below.refl _ _) | (with_reducible assumption) | (with_reducible refine below_drewN ?_ _) | (with_reducible refine below_after (by assumption) ?_ ?_) | (with_reducible refine Below.drew ?_) | (with_reducible refine Below.alloc ?_ ?_ _) | (with_reducible refine Below.setCell ?_ ?_ _) | omega | (simp; omega) | (simp; done))))) (HF.out.next (by (repeat' (first | (with_reducible exact Below.refl _ _) | (with_reducible assumption) | (with_reducible refine below_drewN ?_ _) | (with_reducible refine below_after (by assumption) ?_ ?_) | (with_reducible refine Below.drew ?_) | (with_reducible refine Below.alloc ?_ ?_ _) | (with_reducible refine Below.setCell ?_ ?_ _) | omega | (simp; omega) | (simp; done)))))).mono ?_
  rintro e w1 ⟨rfl, hB1⟩
  have HL : Hid (Below w.heap.size w w1) := Lib.hid (below3 ((Below.refl w.heap.size w).alloc (Nat.le_refl _) _) hB1 (Nat.le_refl _))
  have c0 : w1.cell? ⟨w.heap.size, 0, none⟩ = some (.slice bA bn bc) := (hB1.cell (p := ⟨w.heap.size, 0, none⟩) (by simp)).trans (by simp [go_sem])
  have c1 : w1.cell? ⟨w.heap.size, 1, none⟩ = some (.slice gA gn gc) := (hB1.cell (p := ⟨w.heap.size, 1, none⟩) (by simp)).trans (by simp [go_sem])
  have z1 : w.heap.size < w1.heap.size := by have := hB1.size; simp at this; omega
  clear hB1
  go_wp2_with fail
  refine (KR.out _ (HIN.out.next HL.out) (HF.out.next HL.out)).mono ?_
  rintro e w2 ⟨rfl, hB2⟩
  have HL2 := Lib.hid (below3 HL.out hB2 (Nat.le_refl _))
  clear hB2
  go_wp2
  exact bodyPost_ret (results_tmp2 rfl _ _ _) rfl ⟨rfl, HL2.out⟩
theorem TrR.ownd {W : World} {base lv nc : Nat} {rows : List (List Int)} (h : TrR W base lv nc rows) : ∃ v gl, W.cell? ⟨lv, 0, none⟩ = some v ∧ lv < W.heap.size ∧ (∃ A c, v = .slice A gl.length c) ∧ W.ownsRow base 30 1 v gl.length (gl.map (slV nc)) ∧ RowsB W base gl rows := by
  obtain ⟨v, gl, h1, h2, h3⟩ := h
  exact ⟨v, gl, h1.cell 0, h1.lt, row_slice h2, h2, h3⟩
theorem trace_thr {base : Nat} {a : Adr} {p0 : Ply} {pv lv : Nat} {l : List Int} {W : World} (h : Thr (TrJ base a p0 pv lv) (TrX base a p0 lv) l W) : TrR W base lv a.nc (traceL 0 p0 l) := by
  rcases h with ⟨_, _, h⟩ | ⟨pre, hp, p1, x, rfl, h1, h2, h3⟩
  · exact h
  · obtain ⟨m, rfl⟩ := hp
    rw [List.append_assoc, show [x] ++ m = x :: m from rfl, traceL_dark p1 m x 0 p0 h1 (by rwa [Int.zero_add])]
    exact h3
set_option maxRecDepth 100000 in
set_option maxHeartbeats 1000000 in
theorem trace_any (bA gA lA fA : Option Addr) (bn bc gn gc ln lc fn fc : Nat) (bs : List Bat) (gs : List Gen) (l : List Spn) (fs : List Int) (w : World)
    (hin : ArgsIn w w.heap.size bA bn bs gA gn gs lA ln l) (hf : Rd w w.heap.size 1 encI fA fn fs) (ok : ArgsOk bs gs l) (okf : FailsOk gs fs) :
    Calls Try.prog 16 #[.agg #[.slice bA bn bc, .slice gA gn gc], .slice lA ln lc, .slice fA fn fc] w fun e w' => ∃ A c gl, e = .returned (.tuple #[.slice A gl.length c, .int .i64 0]) ∧ Below w.heap.size w w' ∧ w'.ownsRow w.heap.size 30 1 (.slice A gl.length c) gl.length (gl.map (slV bs.length)) ∧ RowsB w' w.heap.size gl (traceL 0 (ply0 bs gs fs) (secsL l)) := by
  have HIN := Lib.hid hin
  have HF := Lib.hid hf
  have OK := Lib.hid ok
  have OKF := Lib.hid okf
  have hbn : bn ≤ 100 := by have := ok.nb; have := hin.bat.1; omega
  have hgn : gn ≤ 100 := by have := ok.ng; have := hin.gen.1; omega
  have hln : ln ≤ 100 := by have := ok.nl; have := hin.load.1; omega
  have hfn : fn = gn := by have := okf.1; have := hin.gen.1; have := hf.1; omega
  have KC := Lib.hid (fun W h1 h2 => checkRun_any bA gA lA fA bn bc gn gc ln lc fn fc bs gs l fs W h1 h2 ok okf)
  have KN := Lib.hid (fun W (hb : BankIn W W.heap.size bA bn bs gA gn gs) (hf : Rd W W.heap.size 1 encI fA fn fs) => newPlay_any bA gA fA bn bc gn gc fn fc bs gs fs W hb hf hbn hgn hfn ok.gen (okf.bd ok.gen))
  obtain ⟨p0, hp0⟩ : ∃ z, z = ply0 bs gs fs := ⟨_, rfl⟩
  have HOK0 : Hid (PlyOk 0 p0) := Lib.hid (by rw [hp0]; exact ply0_ok ok.bat ok.gen (okf.bd ok.gen))
  have HNB : Hid (p0.cs.length = bs.length) := Lib.hid (by rw [hp0]; simp [ply0])
  rw [← hp0] at KN ⊢
  clear hin hf ok okf hp0 hfn
  go_enter Try.func16, Try.ntmps16
  go_wp2_with fail
  refine (KC.out _ (HIN.out.next (by (repeat' (first | (with_reducible exact Below.refl _ _) | (with_reducible assumption) | (with_reducible refine below_drewN ?_ _) | (with_reducible refine below_after (by assumption) ?_ ?_) | (with_reducible refine Below.drew ?_) | (with_reducible refine Below.alloc ?_ ?_ _) | (with_reducible refine Below.setCell ?_ ?_ _) | omega | (simp; omega) | (simp; done))))) (HF.out.next (by (repeat' (first | (with_reducible exact Below.refl _ _) | (with_reducible assumption) | (with_reducible refine below_drewN ?_ _) | (with_reducible refine below_after (by assumption) ?_ ?_) | (with_reducible refine Below.drew ?_) | (with_reducible refine Below.alloc ?_ ?_ _) | (with_reducible refine Below.setCell ?_ ?_ _) | omega | (simp; omega) | (simp; done)))))).mono ?_
  rintro e w1 ⟨rfl, hB1⟩
  have HL : Hid (Below w.heap.size w w1) := Lib.hid (below3 ((Below.refl w.heap.size w).alloc (Nat.le_refl _) _) hB1 (Nat.le_refl _))
  have c0 : w1.cell? ⟨w.heap.size, 0, none⟩ = some (.slice bA bn bc) := (hB1.cell (p := ⟨w.heap.size, 0, none⟩) (by simp)).trans (by simp [go_sem])
  have c1 : w1.cell? ⟨w.heap.size, 1, none⟩ = some (.slice gA gn gc) := (hB1.cell (p := ⟨w.heap.size, 1, none⟩) (by simp)).trans (by simp [go_sem])
  have z1 : w.heap.size < w1.heap.size := by have := hB1.size; simp at this; omega
  clear hB1
  go_wp2_with fail
  refine (KN.out _ ⟨HIN.out.bat.next HL.out, HIN.out.gen.next HL.out⟩ (HF.out.next HL.out)).mono ?_
  rintro e w2 ⟨a, rfl, hP2, hB2, hm2⟩
  have HL2 := Lib.hid (below3 HL.out hB2 (Nat.le_refl _))
  have HP2 := Lib.hid hP2
  have HM2 : Hid (∀ b, a.mine b → w.heap.size ≤ b) := Lib.hid (fun b hb => Nat.le_trans HL.out.size (hm2 b hb))
  have HNA : Hid (a.nc = bs.length) := Lib.hid (by rw [← HNB.out]; exact hP2.nc.symm)
  clear hP2 hm2 hB2
  unfold Adr.ptr
  obtain ⟨W3, hW3⟩ : ∃ z, z = (w2.alloc (.cells #[.pointer (some ⟨a.bp, 0, none⟩)] 69)).alloc (.cells #[.slice none 0 0] 44) := ⟨_, rfl⟩
  have hB3 : Below w2.heap.size w2 W3 := by rw [hW3]; exact ((Below.refl _ _).alloc (Nat.le_refl _) _).alloc (by simp) _
  have hpv : Blk W3 w2.heap.size 69 #[a.ptr] := by rw [hW3]; exact Blk.alloc (heap_alloc_new w2 _) _
  have hlv : Blk W3 (w2.heap.size + 1) 44 #[.slice none 0 0] := by
    have h := heap_alloc_new (w2.alloc (.cells #[.pointer (some ⟨a.bp, 0, none⟩)] 69)) (.cells #[.slice none 0 0] 44)
    rw [World.size_alloc] at h
    rw [hW3]
    exact h
  have HJ0 : Hid (TrJ (w2.heap.size + 2) a p0 w2.heap.size (w2.heap.size + 1) [] W3) := Lib.hid ⟨⟨HP2.out.next hB3, trivial⟩, hpv, _, [], hlv, World.ownsRow_nil _ _ _ _, rfl, fun i g r h => by simp at h⟩
  have HL3 := Lib.hid (below3 HL2.out hB3 (Nat.le_refl _))
  have hz2 := HL2.out.size
  have hlt3 := hlv.lt
  have KT := Lib.hid (through_any 30 (enters_of Try.func30 (by kernel_rfl) rfl) #[] #[.pointer (some ⟨w2.heap.size, 0, none⟩), .pointer (some ⟨w2.heap.size + 1, 0, none⟩)] lA ln lc l w.heap.size (TrJ (w2.heap.size + 2) a p0 w2.heap.size (w2.heap.size + 1)) (TrX (w2.heap.size + 2) a p0 (w2.heap.size + 1)) W3 (HIN.out.load.below HL3.out) hln OK.out.spn OK.out.len HL3.out.size HJ0.out (fun pre W o h => ⟨⟨h.1.1.alloc o, h.1.2⟩, h.2.1.alloc o, h.2.2.alloc o⟩)
    (fun pre x W hJ hp x0 x1 t ht => trace_step HOK0.out OK.out.spn OK.out.len HM2.out (by omega) (by omega) pre x W hJ hp x0 x1 t ht (by obtain ⟨_, _, _, _, h, _⟩ := hJ.2.2.ownd; omega)))
  have cv : W3.cell? ⟨w2.heap.size, 0, none⟩ = some (.pointer (some ⟨a.bp, 0, none⟩)) := hpv.cell 0
  clear hpv hlv hB3 KN KC
  go_wp2_with fail
  rw [← hW3]
  clear hW3
  refine KT.out.mono ?_
  rintro e w4 ⟨rfl, hT, hK⟩
  obtain ⟨v, gl, cl, zl, ⟨A, c, rfl⟩, hrow, hrows⟩ := (trace_thr hT).ownd
  have HL4 := Lib.hid (HL3.out.trans (hK.below HL3.out.size))
  have HROW := Lib.hid hrow
  have HROWS := Lib.hid hrows
  clear hT hK hrow hrows KT
  go_wp2
  refine bodyPost_ret (results_tmp2 rfl _ _ _) rfl ⟨A, c, gl, rfl, HL4.out, ?_, ?_⟩
  · rw [← HNA.out]
    have h := HROW.out
    exact ⟨h.1, h.2.imp id fun ⟨g, cap, cur, h1, h2, h3⟩ => ⟨g, cap, cur, h1, by omega, h3⟩⟩
  · exact ⟨HROWS.out.1, fun i g r h1 h2 => ⟨by have := (HROWS.out.2 i g r h1 h2).1; omega, (HROWS.out.2 i g r h1 h2).2⟩⟩
end Go.Proofs.Ytnpkcipeacogcaa
