/- For the law of the texts: facts on plants that Check allows; Format of one that it does not. -/
import Derived.Test.YtcnmfblbfpcghaaGreatDoorFmtB
import Derived.Test.YtcnmfblbfpcghaaGreatDoorRdrN
import Derived.Test.YtcnmfblbfpcghaaGreatDoorPltO
import Derived.Test.YtcnmfblbfpcghaaGreatDoorShow
import Derived.Test.YtcnmfblbfpcghaaGreatDoorSame
import Derived.Test.YtcnmfblbfpcghaaGreatDoorSames
import Derived.Test.YtcnmfblbfpcghaaGreatDoorBig

set_option linter.unusedSimpArgs false
set_option linter.unusedVariables false
namespace Go.Proofs.YtcnmfblbfpcghaaGreatDoor
open Go.RowKit Go.Shelf

theorem check_parts {p : Plt} (h : check p = 0) : within p.buses 1 24 = true ∧ srcsOk p = true ∧ lnksOk p = true ∧ rcksOk p = true := by
  unfold check at h
  split at h
  · rename_i hb
    split at h
    · rename_i hs
      split at h
      · rename_i hl
        split at h
        · rename_i hr
          exact ⟨hb, hs, hl, hr⟩
        · cases h
      · cases h
    · cases h
  · cases h
theorem plLens_of {w : World} {B : Nat} {p : Plt} (h : PltIn w B p) : PlLens p := ⟨h.src.1, h.lnk.1, h.rck.1, fun x hx => (h.trip x hx).1⟩
theorem short_of {p : Plt} (h : check p = 0) : Short p.data := by
  obtain ⟨hb, hs, hl, hr⟩ := check_parts h
  have hbb : 1 ≤ p.buses ∧ p.buses ≤ 24 := by simpa [within] using hb
  refine ⟨⟨by show _ < p.buses; omega, by show p.buses < _; omega⟩, ?_, ?_, ?_⟩
  · intro x hx
    unfold srcsOk at hs
    simp only [Bool.and_eq_true, List.all_eq_true] at hs
    have h4 := hs.2 x hx
    unfold srcOk isBus within at h4
    simp only [Bool.and_eq_true, decide_eq_true_eq] at h4
    refine ⟨by omega, ⟨by omega, by omega⟩, ⟨by omega, by omega⟩, ⟨by omega, by omega⟩, ⟨by omega, by omega⟩⟩
  · intro y hy
    obtain ⟨x, hx, rfl⟩ := List.mem_map.1 (show y ∈ p.lnks.map Lnk.data from hy)
    unfold lnksOk at hl
    simp only [Bool.and_eq_true, List.all_eq_true] at hl
    have h4 := hl.2 x hx
    unfold lnkOk isBus within at h4
    simp only [Bool.and_eq_true, decide_eq_true_eq] at h4
    have h5 := h4.2
    unfold tripsOk at h5
    simp only [Bool.and_eq_true, List.all_eq_true, decide_eq_true_eq, List.mem_range] at h5
    have h6 := h4.1
    refine ⟨⟨by show 1 ≤ x.kind; omega, by show x.kind ≤ 3; omega⟩, ⟨⟨by show _ < x.a; omega, by show x.a < _; omega⟩, ⟨by show _ < x.b; omega, by show x.b < _; omega⟩, ⟨by show _ < x.most; omega, by show x.most < _; omega⟩, ⟨by show _ < x.ohm; omega, by show x.ohm < _; omega⟩⟩, ?_⟩
    intro t ht
    obtain ⟨k, hk⟩ := List.getElem?_of_mem (show t ∈ x.trip from ht)
    have h6 := h5.2 k (List.getElem?_eq_some_iff.1 hk).1
    unfold tripAt at h6
    rw [hk] at h6
    simp only [Bool.and_eq_true, within, decide_eq_true_eq] at h6
    refine ⟨⟨by omega, by omega⟩, ⟨by omega, by omega⟩⟩
  · intro x hx
    unfold rcksOk at hr
    simp only [Bool.and_eq_true, List.all_eq_true] at hr
    have h4 := hr.2 x hx
    unfold rckOk isBus within at h4
    simp only [Bool.and_eq_true, Bool.or_eq_true, decide_eq_true_eq] at h4
    obtain ⟨⟨⟨h5, h6⟩, h7⟩, h8⟩ := h4
    have h9 : x.paths ≤ 2 := by
      have := h8.2
      split at this <;> omega
    refine ⟨⟨by omega, by omega⟩, ⟨by omega, by omega⟩, ⟨by omega, by omega⟩, ⟨by omega, by omega⟩⟩
theorem flatMap_length_le {α : Type} (f : α → List UInt8) (n : Nat) : ∀ (l : List α), (∀ x ∈ l, (f x).length ≤ n) → (l.flatMap f).length ≤ l.length * n := by
  intro l
  induction l with
  | nil => intro _; simp
  | cons x l ih =>
    intro h
    have h1 := h x (List.mem_cons_self ..)
    have h2 := ih fun z hz => h z (List.mem_cons_of_mem _ hz)
    rw [List.flatMap_cons, List.length_append, List.length_cons, Nat.succ_mul]
    omega
theorem format_length {p : Plt} {w : World} {B : Nat} (hc : check p = 0) (hp : PltIn w B p) : (formatL p).length ≤ 60000 := by
  have F := fmtOk_of hc hp
  have hw1 : ∀ (l : List Int), l.length ≤ 4 → (∀ x ∈ l, Int64 x) → (spacedL l).length ≤ 100 := fun l h0 h => by
    have h1 := spacedL_length l h
    omega
  have k0 : (headL p).length ≤ 203 := by
    refine Nat.le_trans (lineOf_length [wPlant, spacedL [p.buses]] ?_).2 (by simp)
    intro x hx
    simp only [List.mem_cons, List.mem_nil_iff, or_false] at hx
    rcases hx with rfl | rfl
    · decide
    · exact hw1 _ (by simp) (by intro z hz; simp only [List.mem_cons, List.mem_nil_iff, or_false] at hz; subst hz; exact F.buses)
  have k1 := flatMap_length_le (fun x => lineOf (srcWs x)) 405 p.srcs (by
    intro x hx
    have hx6 := F.srcs x hx
    refine Nat.le_trans (lineOf_length (srcWs x) ?_).2 (by simp [srcWs])
    intro z hz
    simp only [srcWs, List.mem_cons, List.mem_nil_iff, or_false] at hz
    rcases hz with rfl | rfl | rfl | rfl
    · decide
    · exact hw1 _ (by simp) (by intro z hz; simp only [List.mem_cons, List.mem_nil_iff, or_false] at hz; subst hz; exact hx6.2.1)
    · exact srcWord_length _
    · exact hw1 _ (by simp) (by intro z hz; simp only [List.mem_cons, List.mem_nil_iff, or_false] at hz; rcases hz with rfl | rfl | rfl; exact hx6.2.2.1; exact hx6.2.2.2.1; exact hx6.2.2.2.2))
  have k2 := flatMap_length_le (fun x => lineOf (lnkWs x)) 1011 p.lnks (by
    intro x hx
    have hx6 := F.lnks x hx
    have h0 := (lineOf_length (lnkWs x) (by
      intro z hz
      simp only [lnkWs, List.mem_append, List.mem_cons, List.mem_nil_iff, or_false, List.mem_map] at hz
      rcases hz with (rfl | rfl | rfl | rfl) | ⟨t, ht, rfl⟩
      · decide
      · exact hw1 _ (by simp) (by intro z hz; simp only [List.mem_cons, List.mem_nil_iff, or_false] at hz; rcases hz with rfl | rfl; exact hx6.2.1.1; exact hx6.2.1.2.1)
      · exact lnkWord_length _
      · exact hw1 _ (by simp) (by intro z hz; simp only [List.mem_cons, List.mem_nil_iff, or_false] at hz; rcases hz with rfl | rfl; exact hx6.2.1.2.2.1; exact hx6.2.1.2.2.2)
      · have h5 := hx6.2.2.2 t ht
        have h1 := Lib.itoa_length_le t.amps h5.1.1 h5.1.2
        have h2 := Lib.itoa_length_le t.millis h5.2.1 h5.2.2
        simp only [tripW, List.length_append, List.length_cons, List.length_nil]
        omega)).2
    have h9 : (lnkWs x).length = 4 + x.trip.length := by simp [lnkWs]; omega
    have h8 := hx6.2.2.1
    omega)
  have k3 := flatMap_length_le (fun x => lineOf (rckWs x)) 203 p.rcks (by
    intro x hx
    have hx6 := F.rcks x hx
    refine Nat.le_trans (lineOf_length (rckWs x) ?_).2 (by simp [rckWs])
    intro z hz
    simp only [rckWs, List.mem_cons, List.mem_nil_iff, or_false] at hz
    rcases hz with rfl | rfl
    · decide
    · exact hw1 _ (by simp) (by intro z hz; simp only [List.mem_cons, List.mem_nil_iff, or_false] at hz; rcases hz with rfl | rfl | rfl | rfl; exact hx6.1; exact hx6.2.1; exact hx6.2.2.1; exact hx6.2.2.2))
  have e1 := hp.src.1
  have e2 := hp.lnk.1
  have e3 := hp.rck.1
  have f1 := F.sn
  have f2 := F.ln
  have f3 := F.rn
  unfold formatL
  simp only [List.length_append]
  have m1 := Nat.mul_le_mul_right 405 (show p.srcs.length ≤ 8 by omega)
  have m2 := Nat.mul_le_mul_right 1011 (show p.lnks.length ≤ 40 by omega)
  have m3 := Nat.mul_le_mul_right 203 (show p.rcks.length ≤ 24 by omega)
  omega
theorem copy_of_data {p q : Plt} (hp : PlLens p) (hq : PlLens q) (h : q.data = p.data) : CopyOf p q := by
  have h1 : q.buses = p.buses := congrArg PlD.buses h
  have h2 : q.srcs = p.srcs := congrArg PlD.srcs h
  have h3 : q.lnks.map Lnk.data = p.lnks.map Lnk.data := congrArg PlD.lnks h
  have h4 : q.rcks = p.rcks := congrArg PlD.rcks h
  have h5 : q.lnks.length = p.lnks.length := by simpa using congrArg List.length h3
  refine ⟨h1, by rw [← hq.src, ← hp.src, h2], by rw [← hq.lnk, ← hp.lnk, h5], by rw [← hq.rck, ← hp.rck, h4], h2, ⟨h5, fun i x hx => ?_⟩, h4⟩
  obtain ⟨hi, hi2⟩ := List.getElem?_eq_some_iff.1 hx
  obtain ⟨y, hy⟩ : ∃ y, q.lnks[i]? = some y := ⟨_, List.getElem?_eq_getElem (by omega)⟩
  have h6 : y.data = x.data := by
    have h7 := congrArg (fun l => l[i]?) h3
    simp only [List.getElem?_map, hx, hy, Option.map_some, Option.some.injEq] at h7
    exact h7
  have t1 := hq.trip y (List.mem_of_getElem? hy)
  have t2 := hp.trip x (List.mem_of_getElem? hx)
  refine ⟨y.tA, y.tc, ?_⟩
  rw [hy]
  obtain ⟨ya, yb, yk, ym, yo, yA, yn, yc, yt⟩ := y
  obtain ⟨xa, xb, xk, xm, xo, xA, xn, xc, xt⟩ := x
  simp only [Lnk.data, LnkD.mk.injEq] at h6
  obtain ⟨rfl, rfl, rfl, rfl, rfl, rfl⟩ := h6
  dsimp only at t1 t2
  subst t1 t2
  rfl
set_option maxRecDepth 100000 in
theorem format_bad (p : Plt) (w : World) (hp : PltIn w w.heap.size p) (hc : ¬ check p = 0) :
    Calls Tryz.prog 19 #[p.val] w fun e w' => e = .returned (.tuple #[.string ⟨#[]⟩, .int .i64 (check p)]) ∧ Below w.heap.size w w' := by
  have HP := Lib.hid hp
  have C := Lib.hid (fun W hp => check_any p W hp)
  have hcq : (check p == 0) = false := beq_eq_false_iff_ne.2 hc
  obtain ⟨c, hcc⟩ : ∃ z, z = check p := ⟨_, rfl⟩
  rw [← hcc] at C hcq ⊢
  clear hp hc hcc
  unfold Plt.val at C ⊢
  go_enter Tryz.func19, Tryz.ntmps19
  go_wp2_with fail
  refine (C.out _ (HP.out.next (by (repeat' (first | (with_reducible exact Below.refl _ _) | (with_reducible assumption) | (with_reducible refine below_drewN ?_ _) | (with_reducible refine below_after (by assumption) ?_ ?_) | (with_reducible refine Below.drew ?_) | (with_reducible refine Below.alloc ?_ ?_ _) | (with_reducible refine Below.setCell ?_ ?_ _) | omega | (simp; omega) | (simp; done)))))).mono ?_
  rintro e w1 ⟨rfl, hB1⟩
  have hL1 : Hid (Below w.heap.size w w1) := Lib.hid (by (repeat' (first | (with_reducible exact Below.refl _ _) | (with_reducible assumption) | (with_reducible refine below_drewN ?_ _) | (with_reducible refine below_after (by assumption) ?_ ?_) | (with_reducible refine Below.drew ?_) | (with_reducible refine Below.alloc ?_ ?_ _) | (with_reducible refine Below.setCell ?_ ?_ _) | omega | (simp; omega) | (simp; done))))
  clear hB1
  go_wp2
  exact bodyPost_ret (results_tmp2 rfl _ _ _) rfl ⟨rfl, hL1.out⟩
/-- What Parse says of a text that Format writes. -/
theorem parseR_format {p : Plt} {w : World} {B : Nat} (hc : check p = 0) (hp : PltIn w B p) : parseR (formatL p) = (0, 0, some p.data) := by
  obtain ⟨i, l, h⟩ := parse_format p.data (short_of hc)
  unfold parseR
  rw [if_neg (by have := format_length hc hp; omega), formatL_data, h]
  dsimp only
  rw [if_pos (by rw [← check_data (plLens_of hp)]; exact hc)]
/-- What Parse reads is written as it stood. -/
theorem parseR_some {t : List UInt8} {c i : Int} {d : PlD} (h : parseR t = (c, i, some d)) : c = 0 ∧ checkD d = 0 ∧ formatD d = t := by
  unfold parseR at h
  split at h
  · cases h
  · split at h
    · cases h
    · rename_i k s hk
      split at h
      · rename_i h0
        cases h
        exact ⟨rfl, h0, format_parse hk⟩
      · cases h
theorem parseR_none {t : List UInt8} {c i : Int} (h : parseR t = (c, i, none)) : c ≠ 0 := by
  unfold parseR at h
  split at h
  · cases h
    decide
  · split at h
    · cases h
      decide
    · split at h
      · cases h
      · rename_i h0
        cases h
        exact h0
end Go.Proofs.YtcnmfblbfpcghaaGreatDoor

/- The law that what is written is read. (printed by wip/gen/gen_round.py) -/

set_option linter.unusedSimpArgs false
set_option linter.unusedVariables false
namespace Go.Proofs.YtcnmfblbfpcghaaGreatDoor
open Go.RowKit Go.Shelf

/-- What the law keeps: the plant, the state, their boxes. -/
structure RnR (w : World) (p : Plt) (s : Stt) (W : World) : Prop where
  low : Below w.heap.size w W
  plt : PltIn W W.heap.size p
  stt : SttIn W W.heap.size s
  bp : Blk W w.heap.size 26 (pltArr p)
  bs : Blk W (w.heap.size + 1) 29 (sttArr s)
theorem RnR.next {w : World} {p : Plt} {s : Stt} {W W' : World} (h : RnR w p s W) (hb : Below W.heap.size W W') : RnR w p s W' :=
  ⟨below_after hb (Nat.le_refl _) h.low, h.plt.next hb, h.stt.next hb, h.bp.below hb h.bp.lt, h.bs.below hb h.bs.lt⟩
theorem RnR.alloc {w : World} {p : Plt} {s : Stt} {W : World} (h : RnR w p s W) (o : Obj) : RnR w p s (W.alloc o) := h.next ((Below.refl _ _).alloc (Nat.le_refl _) _)
theorem RnR.pc {w : World} {p : Plt} {s : Stt} {W : World} (h : RnR w p s W) : W.cell? ⟨w.heap.size, 0, none⟩ = some (.int .i64 p.buses) ∧ W.cell? ⟨w.heap.size, 1, none⟩ = some (.slice p.sA p.sn p.sc) ∧ W.cell? ⟨w.heap.size, 2, none⟩ = some (.slice p.lA p.ln p.lc) ∧ W.cell? ⟨w.heap.size, 3, none⟩ = some (.slice p.rA p.rn p.rc) :=
  ⟨h.bp.cell 0, h.bp.cell 1, h.bp.cell 2, h.bp.cell 3⟩
theorem RnR.sc {w : World} {p : Plt} {s : Stt} {W : World} (h : RnR w p s W) : W.cell? ⟨w.heap.size + 1, 0, none⟩ = some (.slice s.closed.A s.closed.n s.closed.c) ∧ W.cell? ⟨w.heap.size + 1, 1, none⟩ = some (.slice s.locked.A s.locked.n s.locked.c) ∧ W.cell? ⟨w.heap.size + 1, 2, none⟩ = some (.slice s.badLink.A s.badLink.n s.badLink.c) ∧ W.cell? ⟨w.heap.size + 1, 3, none⟩ = some (.slice s.on.A s.on.n s.on.c) ∧ W.cell? ⟨w.heap.size + 1, 4, none⟩ = some (.slice s.badSource.A s.badSource.n s.badSource.c) ∧ W.cell? ⟨w.heap.size + 1, 5, none⟩ = some (.slice s.earthed.A s.earthed.n s.earthed.c) ∧ W.cell? ⟨w.heap.size + 1, 6, none⟩ = some (.slice s.badBus.A s.badBus.n s.badBus.c) :=
  ⟨h.bs.cell 0, h.bs.cell 1, h.bs.cell 2, h.bs.cell 3, h.bs.cell 4, h.bs.cell 5, h.bs.cell 6⟩
theorem sameS_filled {s t : Stt} (h : t.cont = s.cont) : sameS s t = true := by
  simp only [Stt.cont, Stt.lists, List.map_cons, List.map_nil, List.cons.injEq, and_true] at h
  obtain ⟨e0, e1, e2, e3, e4, e5, e6⟩ := h
  simp [sameS, sameL, e0, e1, e2, e3, e4, e5, e6]
theorem rnr_zero {w : World} {p : Plt} {s : Stt} (hp : PltIn w w.heap.size p) (hs : SttIn w w.heap.size s) : RnR w p s ((w.alloc (.cells (pltArr p) 26)).alloc (.cells (sttArr s) 29)) := by
  have hb : Below w.heap.size w ((w.alloc (.cells (pltArr p) 26)).alloc (.cells (sttArr s) 29)) := by (repeat' (first | (with_reducible exact Below.refl _ _) | (with_reducible assumption) | (with_reducible refine below_drewN ?_ _) | (with_reducible refine below_after (by assumption) ?_ ?_) | (with_reducible refine Below.drew ?_) | (with_reducible refine Below.alloc ?_ ?_ _) | (with_reducible refine Below.setCell ?_ ?_ _) | omega | (simp; omega) | (simp; done)))
  refine ⟨hb, hp.next hb, hs.next hb, Blk.alloc (heap_alloc_new w _) _, ?_⟩
  have := heap_alloc_new (w.alloc (.cells (pltArr p) 26)) (.cells (sttArr s) 29)
  rw [World.size_alloc] at this
  exact this
set_option maxRecDepth 100000 in
set_option maxHeartbeats 8000000 in
theorem round_1 (p : Plt) (s : Stt) (t : List UInt8) (w : World) (hT : Tabs w) (hp : PltIn w w.heap.size p) (hs : SttIn w w.heap.size s) (hb : bigP p = false) (ht : t.length ≤ 4000) (hc : check p = 0) (hsb : checkState p s = 0) (hpr : ∃ c i d, parseR t = (c, i, some d)) :
    Calls Tryz.prog 6 #[p.val, s.val, .string (ba t)] w fun e w' => e = .returned (.bool true) ∧ Below w.heap.size w w' := by
  have AW := Lib.hid (fun W h => awake_any W h)
  have BIG := Lib.hid (fun W hp => big_any p W hp)
  rw [hb] at BIG
  have HK := Lib.hid (big_bounds hb)
  have HT := Lib.hid hT
  have HL0 := Lib.hid (rnr_zero hp hs)
  have SH := Lib.hid (fun W hp hs => show_any p s W hp hs)
  have PT := Lib.hid (fun W hT => parse_any t W (by omega) hT)
  have FM := Lib.hid (fun W hp hP => format_ok p W hp hc hP)
  have PF := Lib.hid (fun W hT => parse_any (formatL p) W (by have := format_length hc hp; omega) hT)
  rw [parseR_format hc hp] at PF
  have HLP := Lib.hid (plLens_of hp)
  have RD := Lib.hid (fun W hp hs hT => read_ok p s W hp hs hsb hT)
  have SS := Lib.hid (fun t W hs ht => SameState_any s t W hs ht)
  rw [if_pos hsb, hsb] at SH
  obtain ⟨c2, i2, d2, hpr⟩ := hpr
  obtain ⟨rfl, hd0, hdt⟩ := parseR_some hpr
  rw [hpr] at PT
  have HD := Lib.hid (And.intro hd0 hdt)
  have hlen : decide ((4000 : Int) < ((ba t).size : Int)) = false := decide_eq_false (by rw [ba_size]; omega)
  clear hT hp hs hb hc hsb hpr hd0 hdt
  unfold Plt.val at BIG FM SH
  unfold Stt.val at SH
  unfold Plt.val at RD
  unfold Stt.val at SS
  unfold Plt.val Stt.val
  go_enter Tryz.func6, Tryz.ntmps6
  go_wp2_with fail
  refine (BIG.out _ HL0.out.plt).mono ?_
  rintro e w1 ⟨rfl, hB1⟩
  have HL1 := Lib.hid (HL0.out.next hB1)
  obtain ⟨p0, p1, p2, p3⟩ := HL1.out.pc
  clear hB1 HL0
  go_wp2_with fail
  refine (FM.out _ HL1.out.plt (HT.out.from_ HL1.out.low (Nat.le_refl _)).pow).mono ?_
  rintro e w2 ⟨rfl, hB2⟩
  have HL2 := Lib.hid (HL1.out.next hB2)
  clear hB2 p0 p1 p2 p3
  go_wp2_with fail
  refine (PF.out _ (HT.out.from_ HL2.out.low (Nat.le_refl _))).mono ?_
  rintro e w3 ⟨hB3, q, rfl, hO3, hQ3, hD3⟩
  have HL3 := Lib.hid (HL2.out.next hB3)
  have HQ3 : Hid (PltIn w3 w3.heap.size q ∧ CopyOf p q) := Lib.hid ⟨hO3.inn hQ3, copy_of_data HLP.out hQ3 hD3⟩
  have SP := Lib.hid (fun W hp hq => SamePlant_yes p q W hp hq HQ3.out.2 HK.out.1 HK.out.2.1 HK.out.2.2.1 HK.out.2.2.2)
  obtain ⟨p0, p1, p2, p3⟩ := HL3.out.pc
  have y0 := HL3.out.bp.lt
  have y1 := HL3.out.bs.lt
  clear hB3 hO3 hQ3 hD3
  unfold Plt.val at SP ⊢
  dsimp only
  go_wp2_with fail
  have HL4 := Lib.hid (HL3.out.alloc (.cells (pltArr q) 26))
  have HQ4 := Lib.hid (HQ3.out.1.next ((Below.refl _ _).alloc (Nat.le_refl _) (.cells (pltArr q) 26)))
  refine (SP.out _ HL4.out.plt HQ4.out).mono ?_
  rintro e w5 ⟨rfl, hB5⟩
  have HL5 := Lib.hid (HL4.out.next hB5)
  clear hB5 p0 p1 p2 p3 y0 y1
  obtain ⟨p0, p1, p2, p3⟩ := HL5.out.pc
  obtain ⟨s0, s1, s2, s3, s4, s5, s6⟩ := HL5.out.sc
  go_wp2_with fail
  refine (SH.out _ HL5.out.plt HL5.out.stt).mono ?_
  rintro e w6 ⟨rfl, hB6⟩
  have HL6 := Lib.hid (HL5.out.next hB6)
  clear hB6 p0 p1 p2 p3
  clear s0 s1 s2 s3 s4 s5 s6
  obtain ⟨p0, p1, p2, p3⟩ := HL6.out.pc
  go_wp2_with fail
  refine (RD.out _ HL6.out.plt HL6.out.stt (HT.out.from_ HL6.out.low (Nat.le_refl _))).mono ?_
  rintro e w7 ⟨q2, rfl, hB7, hO7, hQ7⟩
  have HL7 := Lib.hid (HL6.out.next hB7)
  have HQ7 := Lib.hid (sttIn_of hO7)
  have SSQ := Lib.hid (SS.out q2)
  rw [sameS_filled hQ7] at SSQ
  obtain ⟨s0, s1, s2, s3, s4, s5, s6⟩ := HL7.out.sc
  have y0 := HL7.out.bp.lt
  have y1 := HL7.out.bs.lt
  clear hB7 hO7 hQ7 p0 p1 p2 p3
  unfold Stt.val
  dsimp only
  go_wp2_with fail
  have HL8 := Lib.hid (HL7.out.alloc (.cells (sttArr q2) 29))
  have HQ8 := Lib.hid (HQ7.out.next ((Below.refl _ _).alloc (Nat.le_refl _) (.cells (sttArr q2) 29)))
  refine (SSQ.out _ HL8.out.stt HQ8.out).mono ?_
  rintro e w9 ⟨rfl, hB9⟩
  have HL9 := Lib.hid (HL8.out.next hB9)
  clear hB9 s0 s1 s2 s3 s4 s5 s6 y0 y1
  go_wp2_with fail
  refine (PT.out _ (HT.out.from_ HL9.out.low (Nat.le_refl _))).mono ?_
  rintro e w10 ⟨hB10, q3, rfl, hO10, hQ10, hD10⟩
  have HL10 := Lib.hid (HL9.out.next hB10)
  have HQ10 := Lib.hid (hO10.inn hQ10)
  have hcq3 : check q3 = 0 := by rw [check_data hQ10, hD10]; exact HD.out.1
  have hft : formatL q3 = t := by rw [formatL_data, hD10]; exact HD.out.2
  have F3 := Lib.hid (fun W hp hP => format_ok q3 W hp hcq3 hP)
  rw [hft] at F3
  clear hB10 hO10 hQ10 hD10 hcq3 hft
  unfold Plt.val at F3 ⊢
  dsimp only
  go_wp2_with fail
  have HL11 := Lib.hid (HL10.out.alloc (.cells (pltArr q3) 26))
  have HQ11 := Lib.hid (HQ10.out.next ((Below.refl _ _).alloc (Nat.le_refl _) (.cells (pltArr q3) 26)))
  refine (F3.out _ HQ11.out (HT.out.from_ HL11.out.low (Nat.le_refl _)).pow).mono ?_
  rintro e w12 ⟨rfl, hB12⟩
  have HL12 := Lib.hid (HL11.out.next hB12)
  clear hB12
  go_wp2_with fail
  refine (AW.out _ (HT.out.from_ HL12.out.low (Nat.le_refl _)).pow).mono ?_
  rintro e w13 ⟨rfl, hB13⟩
  go_wp2_with fail
  go_ret
  exact ⟨rfl, below_after hB13 (Nat.le_refl _) HL12.out.low⟩
set_option maxRecDepth 100000 in
set_option maxHeartbeats 8000000 in
theorem round_2 (p : Plt) (s : Stt) (t : List UInt8) (w : World) (hT : Tabs w) (hp : PltIn w w.heap.size p) (hs : SttIn w w.heap.size s) (hb : bigP p = false) (ht : t.length ≤ 4000) (hc : check p = 0) (hsb : checkState p s = 0) (hpr : ∃ c i, parseR t = (c, i, none)) :
    Calls Tryz.prog 6 #[p.val, s.val, .string (ba t)] w fun e w' => e = .returned (.bool true) ∧ Below w.heap.size w w' := by
  have AW := Lib.hid (fun W h => awake_any W h)
  have BIG := Lib.hid (fun W hp => big_any p W hp)
  rw [hb] at BIG
  have HK := Lib.hid (big_bounds hb)
  have HT := Lib.hid hT
  have HL0 := Lib.hid (rnr_zero hp hs)
  have SH := Lib.hid (fun W hp hs => show_any p s W hp hs)
  have PT := Lib.hid (fun W hT => parse_any t W (by omega) hT)
  have FM := Lib.hid (fun W hp hP => format_ok p W hp hc hP)
  have PF := Lib.hid (fun W hT => parse_any (formatL p) W (by have := format_length hc hp; omega) hT)
  rw [parseR_format hc hp] at PF
  have HLP := Lib.hid (plLens_of hp)
  have RD := Lib.hid (fun W hp hs hT => read_ok p s W hp hs hsb hT)
  have SS := Lib.hid (fun t W hs ht => SameState_any s t W hs ht)
  rw [if_pos hsb, hsb] at SH
  obtain ⟨c2, i2, hpr⟩ := hpr
  have hc2 : (c2 == 0) = false := beq_eq_false_iff_ne.2 (parseR_none hpr)
  rw [hpr] at PT
  have hlen : decide ((4000 : Int) < ((ba t).size : Int)) = false := decide_eq_false (by rw [ba_size]; omega)
  clear hT hp hs hb hc hsb hpr
  unfold Plt.val at BIG FM SH
  unfold Stt.val at SH
  unfold Plt.val at RD
  unfold Stt.val at SS
  unfold Plt.val Stt.val
  go_enter Tryz.func6, Tryz.ntmps6
  go_wp2_with fail
  refine (BIG.out _ HL0.out.plt).mono ?_
  rintro e w1 ⟨rfl, hB1⟩
  have HL1 := Lib.hid (HL0.out.next hB1)
  obtain ⟨p0, p1, p2, p3⟩ := HL1.out.pc
  clear hB1 HL0
  go_wp2_with fail
  refine (FM.out _ HL1.out.plt (HT.out.from_ HL1.out.low (Nat.le_refl _)).pow).mono ?_
  rintro e w2 ⟨rfl, hB2⟩
  have HL2 := Lib.hid (HL1.out.next hB2)
  clear hB2 p0 p1 p2 p3
  go_wp2_with fail
  refine (PF.out _ (HT.out.from_ HL2.out.low (Nat.le_refl _))).mono ?_
  rintro e w3 ⟨hB3, q, rfl, hO3, hQ3, hD3⟩
  have HL3 := Lib.hid (HL2.out.next hB3)
  have HQ3 : Hid (PltIn w3 w3.heap.size q ∧ CopyOf p q) := Lib.hid ⟨hO3.inn hQ3, copy_of_data HLP.out hQ3 hD3⟩
  have SP := Lib.hid (fun W hp hq => SamePlant_yes p q W hp hq HQ3.out.2 HK.out.1 HK.out.2.1 HK.out.2.2.1 HK.out.2.2.2)
  obtain ⟨p0, p1, p2, p3⟩ := HL3.out.pc
  have y0 := HL3.out.bp.lt
  have y1 := HL3.out.bs.lt
  clear hB3 hO3 hQ3 hD3
  unfold Plt.val at SP ⊢
  dsimp only
  go_wp2_with fail
  have HL4 := Lib.hid (HL3.out.alloc (.cells (pltArr q) 26))
  have HQ4 := Lib.hid (HQ3.out.1.next ((Below.refl _ _).alloc (Nat.le_refl _) (.cells (pltArr q) 26)))
  refine (SP.out _ HL4.out.plt HQ4.out).mono ?_
  rintro e w5 ⟨rfl, hB5⟩
  have HL5 := Lib.hid (HL4.out.next hB5)
  clear hB5 p0 p1 p2 p3 y0 y1
  obtain ⟨p0, p1, p2, p3⟩ := HL5.out.pc
  obtain ⟨s0, s1, s2, s3, s4, s5, s6⟩ := HL5.out.sc
  go_wp2_with fail
  refine (SH.out _ HL5.out.plt HL5.out.stt).mono ?_
  rintro e w6 ⟨rfl, hB6⟩
  have HL6 := Lib.hid (HL5.out.next hB6)
  clear hB6 p0 p1 p2 p3
  clear s0 s1 s2 s3 s4 s5 s6
  obtain ⟨p0, p1, p2, p3⟩ := HL6.out.pc
  go_wp2_with fail
  refine (RD.out _ HL6.out.plt HL6.out.stt (HT.out.from_ HL6.out.low (Nat.le_refl _))).mono ?_
  rintro e w7 ⟨q2, rfl, hB7, hO7, hQ7⟩
  have HL7 := Lib.hid (HL6.out.next hB7)
  have HQ7 := Lib.hid (sttIn_of hO7)
  have SSQ := Lib.hid (SS.out q2)
  rw [sameS_filled hQ7] at SSQ
  obtain ⟨s0, s1, s2, s3, s4, s5, s6⟩ := HL7.out.sc
  have y0 := HL7.out.bp.lt
  have y1 := HL7.out.bs.lt
  clear hB7 hO7 hQ7 p0 p1 p2 p3
  unfold Stt.val
  dsimp only
  go_wp2_with fail
  have HL8 := Lib.hid (HL7.out.alloc (.cells (sttArr q2) 29))
  have HQ8 := Lib.hid (HQ7.out.next ((Below.refl _ _).alloc (Nat.le_refl _) (.cells (sttArr q2) 29)))
  refine (SSQ.out _ HL8.out.stt HQ8.out).mono ?_
  rintro e w9 ⟨rfl, hB9⟩
  have HL9 := Lib.hid (HL8.out.next hB9)
  clear hB9 s0 s1 s2 s3 s4 s5 s6 y0 y1
  go_wp2_with fail
  refine (PT.out _ (HT.out.from_ HL9.out.low (Nat.le_refl _))).mono ?_
  rintro e w10 ⟨hB10, rfl⟩
  have HL10 := Lib.hid (HL9.out.next hB10)
  have HL11 := Lib.hid (HL10.out.alloc (.cells #[.int .i64 0, .slice none 0 0, .slice none 0 0, .slice none 0 0] 26))
  clear hB10
  go_wp2_with fail
  refine (AW.out _ (HT.out.from_ HL11.out.low (Nat.le_refl _)).pow).mono ?_
  rintro e w12 ⟨rfl, hB12⟩
  go_wp2_with fail
  go_ret
  exact ⟨rfl, below_after hB12 (Nat.le_refl _) HL11.out.low⟩
set_option maxRecDepth 100000 in
set_option maxHeartbeats 8000000 in
theorem round_3 (p : Plt) (s : Stt) (t : List UInt8) (w : World) (hT : Tabs w) (hp : PltIn w w.heap.size p) (hs : SttIn w w.heap.size s) (hb : bigP p = false) (ht : t.length ≤ 4000) (hc : check p = 0) (hsb : ¬ checkState p s = 0) (hpr : ∃ c i d, parseR t = (c, i, some d)) :
    Calls Tryz.prog 6 #[p.val, s.val, .string (ba t)] w fun e w' => e = .returned (.bool true) ∧ Below w.heap.size w w' := by
  have AW := Lib.hid (fun W h => awake_any W h)
  have BIG := Lib.hid (fun W hp => big_any p W hp)
  rw [hb] at BIG
  have HK := Lib.hid (big_bounds hb)
  have HT := Lib.hid hT
  have HL0 := Lib.hid (rnr_zero hp hs)
  have SH := Lib.hid (fun W hp hs => show_any p s W hp hs)
  have PT := Lib.hid (fun W hT => parse_any t W (by omega) hT)
  have FM := Lib.hid (fun W hp hP => format_ok p W hp hc hP)
  have PF := Lib.hid (fun W hT => parse_any (formatL p) W (by have := format_length hc hp; omega) hT)
  rw [parseR_format hc hp] at PF
  have HLP := Lib.hid (plLens_of hp)
  have hcq : (checkState p s == 0) = false := beq_eq_false_iff_ne.2 hsb
  rw [if_neg hsb] at SH
  obtain ⟨c, hcc⟩ : ∃ z, z = checkState p s := ⟨_, rfl⟩
  rw [← hcc] at SH hcq
  obtain ⟨c2, i2, d2, hpr⟩ := hpr
  obtain ⟨rfl, hd0, hdt⟩ := parseR_some hpr
  rw [hpr] at PT
  have HD := Lib.hid (And.intro hd0 hdt)
  have hlen : decide ((4000 : Int) < ((ba t).size : Int)) = false := decide_eq_false (by rw [ba_size]; omega)
  clear hT hp hs hb hc hsb hcc hpr hd0 hdt
  unfold Plt.val at BIG FM SH
  unfold Stt.val at SH
  unfold Plt.val Stt.val
  go_enter Tryz.func6, Tryz.ntmps6
  go_wp2_with fail
  refine (BIG.out _ HL0.out.plt).mono ?_
  rintro e w1 ⟨rfl, hB1⟩
  have HL1 := Lib.hid (HL0.out.next hB1)
  obtain ⟨p0, p1, p2, p3⟩ := HL1.out.pc
  clear hB1 HL0
  go_wp2_with fail
  refine (FM.out _ HL1.out.plt (HT.out.from_ HL1.out.low (Nat.le_refl _)).pow).mono ?_
  rintro e w2 ⟨rfl, hB2⟩
  have HL2 := Lib.hid (HL1.out.next hB2)
  clear hB2 p0 p1 p2 p3
  go_wp2_with fail
  refine (PF.out _ (HT.out.from_ HL2.out.low (Nat.le_refl _))).mono ?_
  rintro e w3 ⟨hB3, q, rfl, hO3, hQ3, hD3⟩
  have HL3 := Lib.hid (HL2.out.next hB3)
  have HQ3 : Hid (PltIn w3 w3.heap.size q ∧ CopyOf p q) := Lib.hid ⟨hO3.inn hQ3, copy_of_data HLP.out hQ3 hD3⟩
  have SP := Lib.hid (fun W hp hq => SamePlant_yes p q W hp hq HQ3.out.2 HK.out.1 HK.out.2.1 HK.out.2.2.1 HK.out.2.2.2)
  obtain ⟨p0, p1, p2, p3⟩ := HL3.out.pc
  have y0 := HL3.out.bp.lt
  have y1 := HL3.out.bs.lt
  clear hB3 hO3 hQ3 hD3
  unfold Plt.val at SP ⊢
  dsimp only
  go_wp2_with fail
  have HL4 := Lib.hid (HL3.out.alloc (.cells (pltArr q) 26))
  have HQ4 := Lib.hid (HQ3.out.1.next ((Below.refl _ _).alloc (Nat.le_refl _) (.cells (pltArr q) 26)))
  refine (SP.out _ HL4.out.plt HQ4.out).mono ?_
  rintro e w5 ⟨rfl, hB5⟩
  have HL5 := Lib.hid (HL4.out.next hB5)
  clear hB5 p0 p1 p2 p3 y0 y1
  obtain ⟨p0, p1, p2, p3⟩ := HL5.out.pc
  obtain ⟨s0, s1, s2, s3, s4, s5, s6⟩ := HL5.out.sc
  go_wp2_with fail
  refine (SH.out _ HL5.out.plt HL5.out.stt).mono ?_
  rintro e w6 ⟨rfl, hB6⟩
  have HL6 := Lib.hid (HL5.out.next hB6)
  clear hB6 p0 p1 p2 p3
  clear s0 s1 s2 s3 s4 s5 s6
  go_wp2_with fail
  refine (PT.out _ (HT.out.from_ HL6.out.low (Nat.le_refl _))).mono ?_
  rintro e w7 ⟨hB7, q3, rfl, hO7, hQ7, hD7⟩
  have HL7 := Lib.hid (HL6.out.next hB7)
  have HQ7 := Lib.hid (hO7.inn hQ7)
  have hcq3 : check q3 = 0 := by rw [check_data hQ7, hD7]; exact HD.out.1
  have hft : formatL q3 = t := by rw [formatL_data, hD7]; exact HD.out.2
  have F3 := Lib.hid (fun W hp hP => format_ok q3 W hp hcq3 hP)
  rw [hft] at F3
  clear hB7 hO7 hQ7 hD7 hcq3 hft
  unfold Plt.val at F3 ⊢
  dsimp only
  go_wp2_with fail
  have HL8 := Lib.hid (HL7.out.alloc (.cells (pltArr q3) 26))
  have HQ8 := Lib.hid (HQ7.out.next ((Below.refl _ _).alloc (Nat.le_refl _) (.cells (pltArr q3) 26)))
  refine (F3.out _ HQ8.out (HT.out.from_ HL8.out.low (Nat.le_refl _)).pow).mono ?_
  rintro e w9 ⟨rfl, hB9⟩
  have HL9 := Lib.hid (HL8.out.next hB9)
  clear hB9
  go_wp2_with fail
  refine (AW.out _ (HT.out.from_ HL9.out.low (Nat.le_refl _)).pow).mono ?_
  rintro e w10 ⟨rfl, hB10⟩
  go_wp2_with fail
  go_ret
  exact ⟨rfl, below_after hB10 (Nat.le_refl _) HL9.out.low⟩
set_option maxRecDepth 100000 in
set_option maxHeartbeats 8000000 in
theorem round_4 (p : Plt) (s : Stt) (t : List UInt8) (w : World) (hT : Tabs w) (hp : PltIn w w.heap.size p) (hs : SttIn w w.heap.size s) (hb : bigP p = false) (ht : t.length ≤ 4000) (hc : check p = 0) (hsb : ¬ checkState p s = 0) (hpr : ∃ c i, parseR t = (c, i, none)) :
    Calls Tryz.prog 6 #[p.val, s.val, .string (ba t)] w fun e w' => e = .returned (.bool true) ∧ Below w.heap.size w w' := by
  have AW := Lib.hid (fun W h => awake_any W h)
  have BIG := Lib.hid (fun W hp => big_any p W hp)
  rw [hb] at BIG
  have HK := Lib.hid (big_bounds hb)
  have HT := Lib.hid hT
  have HL0 := Lib.hid (rnr_zero hp hs)
  have SH := Lib.hid (fun W hp hs => show_any p s W hp hs)
  have PT := Lib.hid (fun W hT => parse_any t W (by omega) hT)
  have FM := Lib.hid (fun W hp hP => format_ok p W hp hc hP)
  have PF := Lib.hid (fun W hT => parse_any (formatL p) W (by have := format_length hc hp; omega) hT)
  rw [parseR_format hc hp] at PF
  have HLP := Lib.hid (plLens_of hp)
  have hcq : (checkState p s == 0) = false := beq_eq_false_iff_ne.2 hsb
  rw [if_neg hsb] at SH
  obtain ⟨c, hcc⟩ : ∃ z, z = checkState p s := ⟨_, rfl⟩
  rw [← hcc] at SH hcq
  obtain ⟨c2, i2, hpr⟩ := hpr
  have hc2 : (c2 == 0) = false := beq_eq_false_iff_ne.2 (parseR_none hpr)
  rw [hpr] at PT
  have hlen : decide ((4000 : Int) < ((ba t).size : Int)) = false := decide_eq_false (by rw [ba_size]; omega)
  clear hT hp hs hb hc hsb hcc hpr
  unfold Plt.val at BIG FM SH
  unfold Stt.val at SH
  unfold Plt.val Stt.val
  go_enter Tryz.func6, Tryz.ntmps6
  go_wp2_with fail
  refine (BIG.out _ HL0.out.plt).mono ?_
  rintro e w1 ⟨rfl, hB1⟩
  have HL1 := Lib.hid (HL0.out.next hB1)
  obtain ⟨p0, p1, p2, p3⟩ := HL1.out.pc
  clear hB1 HL0
  go_wp2_with fail
  refine (FM.out _ HL1.out.plt (HT.out.from_ HL1.out.low (Nat.le_refl _)).pow).mono ?_
  rintro e w2 ⟨rfl, hB2⟩
  have HL2 := Lib.hid (HL1.out.next hB2)
  clear hB2 p0 p1 p2 p3
  go_wp2_with fail
  refine (PF.out _ (HT.out.from_ HL2.out.low (Nat.le_refl _))).mono ?_
  rintro e w3 ⟨hB3, q, rfl, hO3, hQ3, hD3⟩
  have HL3 := Lib.hid (HL2.out.next hB3)
  have HQ3 : Hid (PltIn w3 w3.heap.size q ∧ CopyOf p q) := Lib.hid ⟨hO3.inn hQ3, copy_of_data HLP.out hQ3 hD3⟩
  have SP := Lib.hid (fun W hp hq => SamePlant_yes p q W hp hq HQ3.out.2 HK.out.1 HK.out.2.1 HK.out.2.2.1 HK.out.2.2.2)
  obtain ⟨p0, p1, p2, p3⟩ := HL3.out.pc
  have y0 := HL3.out.bp.lt
  have y1 := HL3.out.bs.lt
  clear hB3 hO3 hQ3 hD3
  unfold Plt.val at SP ⊢
  dsimp only
  go_wp2_with fail
  have HL4 := Lib.hid (HL3.out.alloc (.cells (pltArr q) 26))
  have HQ4 := Lib.hid (HQ3.out.1.next ((Below.refl _ _).alloc (Nat.le_refl _) (.cells (pltArr q) 26)))
  refine (SP.out _ HL4.out.plt HQ4.out).mono ?_
  rintro e w5 ⟨rfl, hB5⟩
  have HL5 := Lib.hid (HL4.out.next hB5)
  clear hB5 p0 p1 p2 p3 y0 y1
  obtain ⟨p0, p1, p2, p3⟩ := HL5.out.pc
  obtain ⟨s0, s1, s2, s3, s4, s5, s6⟩ := HL5.out.sc
  go_wp2_with fail
  refine (SH.out _ HL5.out.plt HL5.out.stt).mono ?_
  rintro e w6 ⟨rfl, hB6⟩
  have HL6 := Lib.hid (HL5.out.next hB6)
  clear hB6 p0 p1 p2 p3
  clear s0 s1 s2 s3 s4 s5 s6
  go_wp2_with fail
  refine (PT.out _ (HT.out.from_ HL6.out.low (Nat.le_refl _))).mono ?_
  rintro e w7 ⟨hB7, rfl⟩
  have HL7 := Lib.hid (HL6.out.next hB7)
  have HL8 := Lib.hid (HL7.out.alloc (.cells #[.int .i64 0, .slice none 0 0, .slice none 0 0, .slice none 0 0] 26))
  clear hB7
  go_wp2_with fail
  refine (AW.out _ (HT.out.from_ HL8.out.low (Nat.le_refl _)).pow).mono ?_
  rintro e w9 ⟨rfl, hB9⟩
  go_wp2_with fail
  go_ret
  exact ⟨rfl, below_after hB9 (Nat.le_refl _) HL8.out.low⟩
set_option maxRecDepth 100000 in
set_option maxHeartbeats 8000000 in
theorem round_5 (p : Plt) (s : Stt) (t : List UInt8) (w : World) (hT : Tabs w) (hp : PltIn w w.heap.size p) (hs : SttIn w w.heap.size s) (hb : bigP p = false) (ht : t.length ≤ 4000) (hc : ¬ check p = 0) (hpr : ∃ c i d, parseR t = (c, i, some d)) :
    Calls Tryz.prog 6 #[p.val, s.val, .string (ba t)] w fun e w' => e = .returned (.bool true) ∧ Below w.heap.size w w' := by
  have AW := Lib.hid (fun W h => awake_any W h)
  have BIG := Lib.hid (fun W hp => big_any p W hp)
  rw [hb] at BIG
  have HK := Lib.hid (big_bounds hb)
  have HT := Lib.hid hT
  have HL0 := Lib.hid (rnr_zero hp hs)
  have SH := Lib.hid (fun W hp hs => show_any p s W hp hs)
  have PT := Lib.hid (fun W hT => parse_any t W (by omega) hT)
  have FM := Lib.hid (fun W hp => format_bad p W hp hc)
  have hcq : (check p == 0) = false := beq_eq_false_iff_ne.2 hc
  have hsc : checkState p s = check p := by unfold checkState; rw [if_neg hc]
  rw [hsc, if_neg hc] at SH
  obtain ⟨c, hcc⟩ : ∃ z, z = check p := ⟨_, rfl⟩
  rw [← hcc] at FM SH hcq
  obtain ⟨c2, i2, d2, hpr⟩ := hpr
  obtain ⟨rfl, hd0, hdt⟩ := parseR_some hpr
  rw [hpr] at PT
  have HD := Lib.hid (And.intro hd0 hdt)
  have hlen : decide ((4000 : Int) < ((ba t).size : Int)) = false := decide_eq_false (by rw [ba_size]; omega)
  clear hT hp hs hb hc hsc hcc hpr hd0 hdt
  unfold Plt.val at BIG FM SH
  unfold Stt.val at SH
  unfold Plt.val Stt.val
  go_enter Tryz.func6, Tryz.ntmps6
  go_wp2_with fail
  refine (BIG.out _ HL0.out.plt).mono ?_
  rintro e w1 ⟨rfl, hB1⟩
  have HL1 := Lib.hid (HL0.out.next hB1)
  obtain ⟨p0, p1, p2, p3⟩ := HL1.out.pc
  clear hB1 HL0
  go_wp2_with fail
  refine (FM.out _ HL1.out.plt).mono ?_
  rintro e w2 ⟨rfl, hB2⟩
  have HL2 := Lib.hid (HL1.out.next hB2)
  clear hB2 p0 p1 p2 p3
  obtain ⟨p0, p1, p2, p3⟩ := HL2.out.pc
  obtain ⟨s0, s1, s2, s3, s4, s5, s6⟩ := HL2.out.sc
  go_wp2_with fail
  refine (SH.out _ HL2.out.plt HL2.out.stt).mono ?_
  rintro e w3 ⟨rfl, hB3⟩
  have HL3 := Lib.hid (HL2.out.next hB3)
  clear hB3 p0 p1 p2 p3
  clear s0 s1 s2 s3 s4 s5 s6
  go_wp2_with fail
  refine (PT.out _ (HT.out.from_ HL3.out.low (Nat.le_refl _))).mono ?_
  rintro e w4 ⟨hB4, q3, rfl, hO4, hQ4, hD4⟩
  have HL4 := Lib.hid (HL3.out.next hB4)
  have HQ4 := Lib.hid (hO4.inn hQ4)
  have hcq3 : check q3 = 0 := by rw [check_data hQ4, hD4]; exact HD.out.1
  have hft : formatL q3 = t := by rw [formatL_data, hD4]; exact HD.out.2
  have F3 := Lib.hid (fun W hp hP => format_ok q3 W hp hcq3 hP)
  rw [hft] at F3
  clear hB4 hO4 hQ4 hD4 hcq3 hft
  unfold Plt.val at F3 ⊢
  dsimp only
  go_wp2_with fail
  have HL5 := Lib.hid (HL4.out.alloc (.cells (pltArr q3) 26))
  have HQ5 := Lib.hid (HQ4.out.next ((Below.refl _ _).alloc (Nat.le_refl _) (.cells (pltArr q3) 26)))
  refine (F3.out _ HQ5.out (HT.out.from_ HL5.out.low (Nat.le_refl _)).pow).mono ?_
  rintro e w6 ⟨rfl, hB6⟩
  have HL6 := Lib.hid (HL5.out.next hB6)
  clear hB6
  go_wp2_with fail
  refine (AW.out _ (HT.out.from_ HL6.out.low (Nat.le_refl _)).pow).mono ?_
  rintro e w7 ⟨rfl, hB7⟩
  go_wp2_with fail
  go_ret
  exact ⟨rfl, below_after hB7 (Nat.le_refl _) HL6.out.low⟩
set_option maxRecDepth 100000 in
set_option maxHeartbeats 8000000 in
theorem round_6 (p : Plt) (s : Stt) (t : List UInt8) (w : World) (hT : Tabs w) (hp : PltIn w w.heap.size p) (hs : SttIn w w.heap.size s) (hb : bigP p = false) (ht : t.length ≤ 4000) (hc : ¬ check p = 0) (hpr : ∃ c i, parseR t = (c, i, none)) :
    Calls Tryz.prog 6 #[p.val, s.val, .string (ba t)] w fun e w' => e = .returned (.bool true) ∧ Below w.heap.size w w' := by
  have AW := Lib.hid (fun W h => awake_any W h)
  have BIG := Lib.hid (fun W hp => big_any p W hp)
  rw [hb] at BIG
  have HK := Lib.hid (big_bounds hb)
  have HT := Lib.hid hT
  have HL0 := Lib.hid (rnr_zero hp hs)
  have SH := Lib.hid (fun W hp hs => show_any p s W hp hs)
  have PT := Lib.hid (fun W hT => parse_any t W (by omega) hT)
  have FM := Lib.hid (fun W hp => format_bad p W hp hc)
  have hcq : (check p == 0) = false := beq_eq_false_iff_ne.2 hc
  have hsc : checkState p s = check p := by unfold checkState; rw [if_neg hc]
  rw [hsc, if_neg hc] at SH
  obtain ⟨c, hcc⟩ : ∃ z, z = check p := ⟨_, rfl⟩
  rw [← hcc] at FM SH hcq
  obtain ⟨c2, i2, hpr⟩ := hpr
  have hc2 : (c2 == 0) = false := beq_eq_false_iff_ne.2 (parseR_none hpr)
  rw [hpr] at PT
  have hlen : decide ((4000 : Int) < ((ba t).size : Int)) = false := decide_eq_false (by rw [ba_size]; omega)
  clear hT hp hs hb hc hsc hcc hpr
  unfold Plt.val at BIG FM SH
  unfold Stt.val at SH
  unfold Plt.val Stt.val
  go_enter Tryz.func6, Tryz.ntmps6
  go_wp2_with fail
  refine (BIG.out _ HL0.out.plt).mono ?_
  rintro e w1 ⟨rfl, hB1⟩
  have HL1 := Lib.hid (HL0.out.next hB1)
  obtain ⟨p0, p1, p2, p3⟩ := HL1.out.pc
  clear hB1 HL0
  go_wp2_with fail
  refine (FM.out _ HL1.out.plt).mono ?_
  rintro e w2 ⟨rfl, hB2⟩
  have HL2 := Lib.hid (HL1.out.next hB2)
  clear hB2 p0 p1 p2 p3
  obtain ⟨p0, p1, p2, p3⟩ := HL2.out.pc
  obtain ⟨s0, s1, s2, s3, s4, s5, s6⟩ := HL2.out.sc
  go_wp2_with fail
  refine (SH.out _ HL2.out.plt HL2.out.stt).mono ?_
  rintro e w3 ⟨rfl, hB3⟩
  have HL3 := Lib.hid (HL2.out.next hB3)
  clear hB3 p0 p1 p2 p3
  clear s0 s1 s2 s3 s4 s5 s6
  go_wp2_with fail
  refine (PT.out _ (HT.out.from_ HL3.out.low (Nat.le_refl _))).mono ?_
  rintro e w4 ⟨hB4, rfl⟩
  have HL4 := Lib.hid (HL3.out.next hB4)
  have HL5 := Lib.hid (HL4.out.alloc (.cells #[.int .i64 0, .slice none 0 0, .slice none 0 0, .slice none 0 0] 26))
  clear hB4
  go_wp2_with fail
  refine (AW.out _ (HT.out.from_ HL5.out.low (Nat.le_refl _)).pow).mono ?_
  rintro e w6 ⟨rfl, hB6⟩
  go_wp2_with fail
  go_ret
  exact ⟨rfl, below_after hB6 (Nat.le_refl _) HL5.out.low⟩
set_option maxRecDepth 100000 in
set_option maxHeartbeats 4000000 in
theorem round_far (p : Plt) (s : Stt) (t : List UInt8) (w : World) (hT : Tabs w) (hp : PltIn w w.heap.size p) (hs : SttIn w w.heap.size s) (hb : bigP p = true ∨ 4000 < t.length) :
    Calls Tryz.prog 6 #[p.val, s.val, .string (ba t)] w fun e w' => e = .returned (.bool true) ∧ Below w.heap.size w w' := by
  have AW := Lib.hid (fun W h => awake_any W h)
  have BIG := Lib.hid (fun W hp => big_any p W hp)
  have HT := Lib.hid hT
  have HL0 := Lib.hid (rnr_zero hp hs)
  have HB := Lib.hid hb
  obtain ⟨x, hx⟩ : ∃ z, z = bigP p := ⟨_, rfl⟩
  have HX := Lib.hid hx
  rw [← hx] at BIG
  clear hT hp hs hb hx
  unfold Plt.val at BIG
  unfold Plt.val Stt.val
  cases x
  · have hlen : decide ((4000 : Int) < ((ba t).size : Int)) = true := by
      rcases HB.out with h | h
      · rw [h] at HX
        exact absurd HX.out (by decide)
      · exact decide_eq_true (by rw [ba_size]; omega)
    go_enter Tryz.func6, Tryz.ntmps6
    go_wp2_with fail
    refine (BIG.out _ HL0.out.plt).mono ?_
    rintro e w1 ⟨rfl, hB1⟩
    have HL1 := Lib.hid (HL0.out.next hB1)
    clear hB1 HL0
    go_wp2_with fail
    refine (AW.out _ (HT.out.from_ HL1.out.low (Nat.le_refl _)).pow).mono ?_
    rintro e w2 ⟨rfl, hB2⟩
    go_wp2_with fail
    go_ret
    exact ⟨rfl, below_after hB2 (Nat.le_refl _) HL1.out.low⟩
  · go_enter Tryz.func6, Tryz.ntmps6
    go_wp2_with fail
    refine (BIG.out _ HL0.out.plt).mono ?_
    rintro e w1 ⟨rfl, hB1⟩
    have HL1 := Lib.hid (HL0.out.next hB1)
    clear hB1 HL0
    go_wp2_with fail
    refine (AW.out _ (HT.out.from_ HL1.out.low (Nat.le_refl _)).pow).mono ?_
    rintro e w2 ⟨rfl, hB2⟩
    go_wp2_with fail
    go_ret
    exact ⟨rfl, below_after hB2 (Nat.le_refl _) HL1.out.low⟩
theorem round_any (p : Plt) (s : Stt) (t : List UInt8) (w : World) (hT : Tabs w) (hp : PltIn w w.heap.size p) (hs : SttIn w w.heap.size s) :
    Calls Tryz.prog 6 #[p.val, s.val, .string (ba t)] w fun e w' => e = .returned (.bool true) ∧ Below w.heap.size w w' := by
  by_cases hb : bigP p = true
  · exact round_far p s t w hT hp hs (.inl hb)
  have hbf : bigP p = false := by simpa using hb
  by_cases ht : t.length ≤ 4000
  · obtain ⟨c, i, d, hpr⟩ : ∃ c i d, parseR t = (c, i, d) := ⟨_, _, _, rfl⟩
    by_cases hc : check p = 0
    · by_cases hsb : checkState p s = 0
      · cases d with
        | some d => exact round_1 p s t w hT hp hs hbf ht hc hsb ⟨c, i, d, hpr⟩
        | none => exact round_2 p s t w hT hp hs hbf ht hc hsb ⟨c, i, hpr⟩
      · cases d with
        | some d => exact round_3 p s t w hT hp hs hbf ht hc hsb ⟨c, i, d, hpr⟩
        | none => exact round_4 p s t w hT hp hs hbf ht hc hsb ⟨c, i, hpr⟩
    · cases d with
      | some d => exact round_5 p s t w hT hp hs hbf ht hc ⟨c, i, d, hpr⟩
      | none => exact round_6 p s t w hT hp hs hbf ht hc ⟨c, i, hpr⟩
  · exact round_far p s t w hT hp hs (.inr (by omega))
end Go.Proofs.YtcnmfblbfpcghaaGreatDoor
