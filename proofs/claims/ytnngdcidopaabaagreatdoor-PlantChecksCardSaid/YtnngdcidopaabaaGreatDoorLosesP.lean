/- What breaking a part means. -/
import Derived.Test.YtnngdcidopaabaaGreatDoorClash
import Derived.Test.YtnngdcidopaabaaGreatDoorConn
import Derived.Test.YtnngdcidopaabaaGreatDoorPart2
import Derived.Test.YtnngdcidopaabaaGreatDoorAwKit

set_option linter.unusedSimpArgs false
set_option linter.unusedVariables false
namespace Go.Proofs.YtnngdcidopaabaaGreatDoor
open Go.RowKit

theorem mem_feeds {p : Plt} {s : Stt} {B : Nat} {L : List (LnkOf B)} (S : Sound p s B L) (k : Nat) (m : Fin B) :
    (k, m) ∈ feedTo s p.srcs (homeL p s L) p.sn ↔ k < p.sn ∧ ∃ x, Feeds p s k x ∧ rootOf (joinAll (List.range B) (condTo s L p.ln)) x.bus.toNat = m.val := by
  rw [mem_feedTo]
  constructor
  · rintro ⟨hk, x, hx, hon, hbad, hisl⟩
    have hxb := S.srcs x (List.mem_of_getElem? hx)
    have hxB : x.bus.toNat < B := by omega
    rw [homeL_get p s L _ hxB] at hisl
    simp only [Option.getD_some] at hisl
    obtain ⟨h3, h4⟩ := (isl_home _ s _ m hxB).1 hisl
    exact ⟨hk, x, ⟨hx, hon, hbad, h3⟩, h4⟩
  · rintro ⟨hk, x, ⟨hx, hon, hbad, h3⟩, h4⟩
    have hxb := S.srcs x (List.mem_of_getElem? hx)
    have hxB : x.bus.toNat < B := by omega
    refine ⟨hk, x, hx, hon, hbad, ?_⟩
    rw [homeL_get p s L _ hxB]
    simp only [Option.getD_some]
    exact (isl_home _ s _ m hxB).2 ⟨h3, h4⟩
theorem mem_clash {p : Plt} {s : Stt} {B : Nat} {L : List (LnkOf B)} (S : Sound p s B L) (c : Int × Int) :
    c ∈ clashL p s L ↔ ∃ (k1 k2 : Nat) (x1 x2 : Src), c = ((k1 : Int), (k2 : Int)) ∧ k1 < k2 ∧ k1 < p.sn ∧ k2 < p.sn ∧ Feeds p s k1 x1 ∧ Feeds p s k2 x2 ∧ Joined (condTo s L p.ln) x1.bus.toNat x2.bus.toNat ∧ syncd x1 x2 = false := by
  unfold clashL clashOf clashRow
  simp only [List.mem_flatMap]
  constructor
  · rintro ⟨⟨k1, m1⟩, h1, ⟨k2, m2⟩, h2, h3⟩
    obtain ⟨g1, x1, f1, r1⟩ := (mem_feeds S k1 m1).1 h1
    obtain ⟨g2, x2, f2, r2⟩ := (mem_feeds S k2 m2).1 h2
    unfold clashAt at h3
    split at h3
    · rename_i hb
      unfold clashB at hb
      simp only [f1.1, f2.1, Bool.and_eq_true, decide_eq_true_eq, Bool.not_eq_true'] at hb
      simp only [List.mem_cons, List.mem_nil_iff, or_false] at h3
      refine ⟨k1, k2, x1, x2, h3, hb.1.1, g1, g2, f1, f2, ?_, hb.2⟩
      rw [← root_joined, r1, r2, hb.1.2]
    · simp at h3
  · rintro ⟨k1, k2, x1, x2, rfl, hlt, g1, g2, f1, f2, hj, hs⟩
    have hxb1 := S.srcs x1 (List.mem_of_getElem? f1.1)
    have hxB1 : x1.bus.toNat < B := by omega
    have hxb2 := S.srcs x2 (List.mem_of_getElem? f2.1)
    have hxB2 : x2.bus.toNat < B := by omega
    rw [← root_joined] at hj
    refine ⟨(k1, ⟨rootOf (joinAll (List.range B) (condTo s L p.ln)) x1.bus.toNat, Nat.lt_of_le_of_lt (rootOf_le _ _) hxB1⟩), (mem_feeds S _ _).2 ⟨g1, x1, f1, rfl⟩, (k2, ⟨rootOf (joinAll (List.range B) (condTo s L p.ln)) x2.bus.toNat, Nat.lt_of_le_of_lt (rootOf_le _ _) hxB2⟩), (mem_feeds S _ _).2 ⟨g2, x2, f2, rfl⟩, ?_⟩
    unfold clashAt clashB
    simp [f1.1, f2.1, hlt, hj, hs]
theorem Worse.clash {s t : Stt} (h : Worse s t) {p : Plt} {B : Nat} {L : List (LnkOf B)} (S : Sound p s B L) (T : Sound p t B L) (c : Int × Int) (hc : c ∈ clashL p t L) : c ∈ clashL p s L := by
  obtain ⟨k1, k2, x1, x2, e, hlt, g1, g2, ⟨a1, b1, c1, d1⟩, ⟨a2, b2, c2, d2⟩, hj, hs⟩ := (mem_clash T c).1 hc
  exact (mem_clash S c).2 ⟨k1, k2, x1, x2, e, hlt, g1, g2, ⟨a1, h.on _ b1, h.badSource _ c1, h.badBus _ d1⟩, ⟨a2, h.on _ b2, h.badSource _ c2, h.badBus _ d2⟩, h.joined hj, hs⟩

/-- The state with a part broken or mended. -/
def brk (s : Stt) (K : Int) (i : Nat) (x : Bool) : Stt :=
  if K = 1 then { s with badBus := { s.badBus with l := s.badBus.l.set i x } } else if K = 2 then { s with badSource := { s.badSource with l := s.badSource.l.set i x } } else { s with badLink := { s.badLink with l := s.badLink.l.set i x } }
def badAt (s : Stt) (K : Int) (i : Nat) : Bool := if K = 1 then bit s.badBus i else if K = 2 then bit s.badSource i else bit s.badLink i
def PartIn (s : Stt) (K : Int) (i : Nat) : Prop := (K = 1 ∧ i < s.badBus.l.length) ∨ (K = 2 ∧ i < s.badSource.l.length) ∨ (K = 3 ∧ i < s.badLink.l.length)
theorem cont_eq {s t : Stt} (h : t.cont = s.cont) : t.closed.l = s.closed.l ∧ t.locked.l = s.locked.l ∧ t.badLink.l = s.badLink.l ∧ t.on.l = s.on.l ∧ t.badSource.l = s.badSource.l ∧ t.earthed.l = s.earthed.l ∧ t.badBus.l = s.badBus.l := by
  simpa [Stt.cont, Stt.lists] using h
theorem eq_cont {s t : Stt} (h : t.closed.l = s.closed.l ∧ t.locked.l = s.locked.l ∧ t.badLink.l = s.badLink.l ∧ t.on.l = s.on.l ∧ t.badSource.l = s.badSource.l ∧ t.earthed.l = s.earthed.l ∧ t.badBus.l = s.badBus.l) : t.cont = s.cont := by
  simpa [Stt.cont, Stt.lists] using h
theorem Worse.cont {s t u : Stt} (h : Worse s t) (e : u.cont = t.cont) : Worse s u := by
  obtain ⟨e0, e1, e2, e3, e4, e5, e6⟩ := cont_eq e
  exact ⟨fun i hi => h.closed i (by unfold bit at hi ⊢; rwa [e0] at hi), fun i hi => h.on i (by unfold bit at hi ⊢; rwa [e3] at hi), fun i hi => h.badLink i (by unfold bit at hi ⊢; rwa [e2] at hi), fun i hi => h.badSource i (by unfold bit at hi ⊢; rwa [e4] at hi), fun i hi => h.badBus i (by unfold bit at hi ⊢; rwa [e6] at hi)⟩
theorem Worse.cont' {s t u : Stt} (h : Worse s t) (e : u.cont = s.cont) : Worse u t := by
  obtain ⟨e0, e1, e2, e3, e4, e5, e6⟩ := cont_eq e
  exact ⟨fun i hi => by have := h.closed i hi; unfold bit at this ⊢; rwa [e0], fun i hi => by have := h.on i hi; unfold bit at this ⊢; rwa [e3], fun i hi => by have := h.badLink i hi; unfold bit at this ⊢; rwa [e2], fun i hi => by have := h.badSource i hi; unfold bit at this ⊢; rwa [e4], fun i hi => by have := h.badBus i hi; unfold bit at this ⊢; rwa [e6]⟩
theorem brk_worse {s : Stt} {K : Int} {i : Nat} (h : PartIn s K i) : Worse s (brk s K i true) := by
  unfold brk
  rcases h with ⟨rfl, h⟩ | ⟨rfl, h⟩ | ⟨rfl, h⟩
  · exact Worse.break_bus s i h
  · exact Worse.break_source s i h
  · exact Worse.break_link s i h
/-- Each list is as long as its slice. -/
def Sized (s : Stt) : Prop := ∀ b ∈ s.lists, b.l.length = b.n
theorem SttIn.sized {w : World} {B : Nat} {s : Stt} (h : SttIn w B s) : Sized s := by
  intro b hb
  simp only [Stt.lists, List.mem_cons, List.mem_nil_iff, or_false] at hb
  rcases hb with rfl | rfl | rfl | rfl | rfl | rfl | rfl
  · exact h.closed.1.1
  · exact h.locked.1.1
  · exact h.badLink.1.1
  · exact h.on.1.1
  · exact h.badSource.1.1
  · exact h.earthed.1.1
  · exact h.badBus.1.1
theorem SttOwn.sized {w : World} {base : Nat} {s : Stt} (h : SttOwn w base s) : Sized s := fun b hb => (h.own b hb).len
/-- Lists of one length have one size. -/
theorem sized_same {s t : Stt} (hs : Sized s) (ht : Sized t) (e : t.cont.map List.length = s.cont.map List.length) : t.closed.n = s.closed.n ∧ t.locked.n = s.locked.n ∧ t.badLink.n = s.badLink.n ∧ t.on.n = s.on.n ∧ t.badSource.n = s.badSource.n ∧ t.earthed.n = s.earthed.n ∧ t.badBus.n = s.badBus.n := by
  simp only [Sized, Stt.lists, List.mem_cons, List.mem_nil_iff, or_false, forall_eq_or_imp, forall_eq] at hs ht
  simp only [Stt.cont, Stt.lists, List.map_cons, List.map_nil, List.cons.injEq, and_true] at e
  obtain ⟨a0, a1, a2, a3, a4, a5, a6⟩ := hs
  obtain ⟨b0, b1, b2, b3, b4, b5, b6⟩ := ht
  obtain ⟨c0, c1, c2, c3, c4, c5, c6⟩ := e
  refine ⟨?_, ?_, ?_, ?_, ?_, ?_, ?_⟩ <;> omega
theorem brk_lens (s : Stt) (K : Int) (i : Nat) (x : Bool) : (brk s K i x).cont.map List.length = s.cont.map List.length := by
  unfold brk
  split
  · simp [Stt.cont, Stt.lists]
  · split <;> simp [Stt.cont, Stt.lists]
theorem brk_keeps (s : Stt) (K : Int) (i : Nat) (x : Bool) : (brk s K i x).closed = s.closed ∧ (brk s K i x).locked = s.locked := by
  unfold brk
  split
  · exact ⟨rfl, rfl⟩
  · split <;> exact ⟨rfl, rfl⟩
/-- A state that has the sizes and keeps the cables passes. -/
theorem checkState_same {p : Plt} {s t : Stt} (hs : Sized s) (ht : Sized t) (e : t.cont.map List.length = s.cont.map List.length) (hc : ∀ i : Nat, s.closed.l[i]?.getD false = true → t.closed.l[i]?.getD false = true) (hl : t.locked.l = s.locked.l) (h : checkState p s = 0) : checkState p t = 0 := by
  obtain ⟨n0, n1, n2, n3, n4, n5, n6⟩ := sized_same hs ht e
  unfold checkState at h ⊢
  split at h
  · rename_i hp
    rw [if_pos hp]
    split at h
    · rename_i ho
      rw [if_pos]
      unfold stateOk at ho ⊢
      simp only [Bool.and_eq_true] at ho ⊢
      obtain ⟨⟨⟨o1, o2⟩, o3⟩, o4⟩ := ho
      refine ⟨⟨⟨?_, ?_⟩, ?_⟩, ?_⟩
      · simpa [linkLists, n0, n1, n2] using o1
      · simpa [sourceLists, n3, n4] using o2
      · simpa [busLists, n5, n6] using o3
      · unfold cablesOk at o4 ⊢
        rw [List.all_eq_true] at o4 ⊢
        intro i hi
        have := o4 i hi
        unfold cableAt at this ⊢
        split
        · rfl
        · rename_i x hx
          rw [hx] at this
          simp only [Bool.or_eq_true, Bool.and_eq_true] at this ⊢
          rcases this with h1 | ⟨h1, h2⟩
          · exact .inl h1
          · exact .inr ⟨hc i h1, by rw [hl]; exact h2⟩
    · omega
  · rename_i hp
    exact absurd h hp
theorem break_part (p : Plt) (s : Stt) (K : Int) (i : Nat) (w : World) (hp : PltIn w w.heap.size p) (hs : SttIn w w.heap.size s) (hfit : SttFit s) (hc : checkState p s = 0) (hx : PartIn s K i) :
    Calls Tryz.prog 32 #[p.val, s.val, .agg #[.int .i64 K, .int .i64 i]] w fun e w' => ∃ t : Stt, e = .returned (.tuple #[t.val, .int .i64 0]) ∧ Below w.heap.size w w' ∧ SttOwn w' w.heap.size t ∧ t.cont = (brk s K i true).cont := by
  rcases hx with ⟨rfl, h⟩ | ⟨rfl, h⟩ | ⟨rfl, h⟩
  · exact break_of p s 1 i (fun t => t.cont = (brk s 1 i true).cont) w hp hs (fun W hp hs => withPart_ok1 p s i true W hp hs hfit hc h)
  · exact break_of p s 2 i (fun t => t.cont = (brk s 2 i true).cont) w hp hs (fun W hp hs => withPart_ok2 p s i true W hp hs hfit hc h)
  · exact break_of p s 3 i (fun t => t.cont = (brk s 3 i true).cont) w hp hs (fun W hp hs => withPart_ok3 p s i true W hp hs hfit hc h)
theorem mend_part (p : Plt) (s : Stt) (K : Int) (i : Nat) (w : World) (hp : PltIn w w.heap.size p) (hs : SttIn w w.heap.size s) (hfit : SttFit s) (hc : checkState p s = 0) (hx : PartIn s K i) :
    Calls Tryz.prog 34 #[p.val, s.val, .agg #[.int .i64 K, .int .i64 i]] w fun e w' => ∃ t : Stt, e = .returned (.tuple #[t.val, .int .i64 0]) ∧ Below w.heap.size w w' ∧ SttOwn w' w.heap.size t ∧ t.cont = (brk s K i false).cont := by
  rcases hx with ⟨rfl, h⟩ | ⟨rfl, h⟩ | ⟨rfl, h⟩
  · exact mend_of p s 1 i (fun t => t.cont = (brk s 1 i false).cont) w hp hs (fun W hp hs => withPart_ok1 p s i false W hp hs hfit hc h)
  · exact mend_of p s 2 i (fun t => t.cont = (brk s 2 i false).cont) w hp hs (fun W hp hs => withPart_ok2 p s i false W hp hs hfit hc h)
  · exact mend_of p s 3 i (fun t => t.cont = (brk s 3 i false).cont) w hp hs (fun W hp hs => withPart_ok3 p s i false W hp hs hfit hc h)
/-- Mending what was broken gives back what was. -/
theorem set_back (l : List Bool) (i : Nat) (h : l[i]?.getD false = false) : (l.set i true).set i false = l := by
  apply List.ext_getElem?
  intro k
  rw [List.set_set, List.getElem?_set]
  split
  · rename_i e
    subst e
    split
    · rename_i hi
      rw [List.getElem?_eq_getElem hi] at h ⊢
      simpa using h.symm
    · rename_i hi
      rw [List.getElem?_eq_none (by omega)]
  · rfl
theorem mend_back {s t u : Stt} {K : Int} {i : Nat} (hx : PartIn s K i) (ht : t.cont = (brk s K i true).cont) (hu : u.cont = (brk t K i false).cont) (hb : badAt s K i = false) : sameS u s = true := by
  obtain ⟨a0, a1, a2, a3, a4, a5, a6⟩ := cont_eq ht
  obtain ⟨b0, b1, b2, b3, b4, b5, b6⟩ := cont_eq hu
  have : u.closed.l = s.closed.l ∧ u.locked.l = s.locked.l ∧ u.badLink.l = s.badLink.l ∧ u.on.l = s.on.l ∧ u.badSource.l = s.badSource.l ∧ u.earthed.l = s.earthed.l ∧ u.badBus.l = s.badBus.l := by
    unfold badAt bit at hb
    unfold brk at a0 a1 a2 a3 a4 a5 a6 b0 b1 b2 b3 b4 b5 b6
    rcases hx with ⟨rfl, h⟩ | ⟨rfl, h⟩ | ⟨rfl, h⟩
    · simp only [if_pos] at a0 a1 a2 a3 a4 a5 a6 b0 b1 b2 b3 b4 b5 b6 hb
      exact ⟨b0.trans a0, b1.trans a1, b2.trans a2, b3.trans a3, b4.trans a4, b5.trans a5, by rw [b6, a6]; exact set_back _ _ hb⟩
    · simp only [show ¬ ((2 : Int) = 1) by decide, if_false, if_pos] at a0 a1 a2 a3 a4 a5 a6 b0 b1 b2 b3 b4 b5 b6 hb
      exact ⟨b0.trans a0, b1.trans a1, b2.trans a2, b3.trans a3, by rw [b4, a4]; exact set_back _ _ hb, b5.trans a5, b6.trans a6⟩
    · simp only [show ¬ ((3 : Int) = 1) by decide, show ¬ ((3 : Int) = 2) by decide, if_false] at a0 a1 a2 a3 a4 a5 a6 b0 b1 b2 b3 b4 b5 b6 hb
      exact ⟨b0.trans a0, b1.trans a1, by rw [b2, a2]; exact set_back _ _ hb, b3.trans a3, b4.trans a4, b5.trans a5, b6.trans a6⟩
  obtain ⟨c0, c1, c2, c3, c4, c5, c6⟩ := this
  simp [sameS, sameL, c0, c1, c2, c3, c4, c5, c6]
end Go.Proofs.YtnngdcidopaabaaGreatDoor

/- What the law on a worse plant keeps. -/
namespace Go.Proofs.YtnngdcidopaabaaGreatDoor
open Go.RowKit

def pBox (p : Plt) : Array Value := #[.int .i64 p.buses, .slice p.sA p.sn p.sc, .slice p.lA p.ln p.lc, .slice p.rA p.rn p.rc]
structure Lo (w : World) (p : Plt) (s : Stt) (q r : Nat) (W : World) : Prop where
  low : Below w.heap.size w W
  plt : PltIn W W.heap.size p
  stt : SttIn W W.heap.size s
  bp : Blk W q 26 (pBox p)
  bs : Blk W r 29 (sBox s)
theorem Lo.next {w : World} {p : Plt} {s : Stt} {q r : Nat} {W W' : World} (h : Lo w p s q r W) (hb : Below W.heap.size W W') : Lo w p s q r W' :=
  ⟨below_after hb (Nat.le_refl _) h.low, h.plt.next hb, h.stt.next hb, h.bp.below hb h.bp.lt, h.bs.below hb h.bs.lt⟩
theorem Lo.alloc {w : World} {p : Plt} {s : Stt} {q r : Nat} {W : World} (h : Lo w p s q r W) (o : Obj) : Lo w p s q r (W.alloc o) := h.next ((Below.refl _ _).alloc (Nat.le_refl _) _)
theorem Lo.pc {w : World} {p : Plt} {s : Stt} {q r : Nat} {W : World} (h : Lo w p s q r W) : W.cell? ⟨q, 0, none⟩ = some (.int .i64 p.buses) ∧ W.cell? ⟨q, 1, none⟩ = some (.slice p.sA p.sn p.sc) ∧ W.cell? ⟨q, 2, none⟩ = some (.slice p.lA p.ln p.lc) ∧ W.cell? ⟨q, 3, none⟩ = some (.slice p.rA p.rn p.rc) :=
  ⟨h.bp.cell 0, h.bp.cell 1, h.bp.cell 2, h.bp.cell 3⟩
theorem sBox_cells {W : World} {g : Nat} {s : Stt} (h : Blk W g 29 (sBox s)) : W.cell? ⟨g, 0, none⟩ = some (.slice s.closed.A s.closed.n s.closed.c) ∧ W.cell? ⟨g, 1, none⟩ = some (.slice s.locked.A s.locked.n s.locked.c) ∧ W.cell? ⟨g, 2, none⟩ = some (.slice s.badLink.A s.badLink.n s.badLink.c) ∧ W.cell? ⟨g, 3, none⟩ = some (.slice s.on.A s.on.n s.on.c)
    ∧ W.cell? ⟨g, 4, none⟩ = some (.slice s.badSource.A s.badSource.n s.badSource.c) ∧ W.cell? ⟨g, 5, none⟩ = some (.slice s.earthed.A s.earthed.n s.earthed.c) ∧ W.cell? ⟨g, 6, none⟩ = some (.slice s.badBus.A s.badBus.n s.badBus.c) :=
  ⟨h.cell 0, h.cell 1, h.cell 2, h.cell 3, h.cell 4, h.cell 5, h.cell 6⟩
structure Lt (w : World) (p : Plt) (s t : Stt) (q r gp gt : Nat) (K : Int) (i : Nat) (W : World) : Prop where
  lo : Lo w p s q r W
  part : Blk W gp 60 #[.int .i64 K, .int .i64 i]
  tb : Blk W gt 29 (sBox t)
  tin : SttIn W W.heap.size t
theorem Lt.next {w : World} {p : Plt} {s t : Stt} {q r gp gt i : Nat} {K : Int} {W W' : World} (h : Lt w p s t q r gp gt K i W) (hb : Below W.heap.size W W') : Lt w p s t q r gp gt K i W' :=
  ⟨h.lo.next hb, h.part.below hb h.part.lt, h.tb.below hb h.tb.lt, h.tin.next hb⟩
theorem Sound.same {p : Plt} {s t : Stt} {B : Nat} {L : List (LnkOf B)} (S : Sound p s B L) (hs : Sized s) (ht : Sized t) (e : t.cont.map List.length = s.cont.map List.length) : Sound p t B L := by
  obtain ⟨n0, n1, n2, n3, n4, n5, n6⟩ := sized_same hs ht e
  have l := S.lens
  exact ⟨S.buses, S.pos, S.small, S.lnks, S.srcs, ⟨n0.trans l.closed, n2.trans l.badLink, n6.trans l.badBus, n3.trans l.on, n4.trans l.badSource⟩⟩
theorem clashL_length {B : Nat} (p : Plt) (s : Stt) (L : List (LnkOf B)) (h : p.sn ≤ 8) : (clashL p s L).length ≤ 64 := by
  have h1 := clashOf_length p.srcs (feedTo (B := B) s p.srcs (homeL p s L) p.sn) (feedTo (B := B) s p.srcs (homeL p s L) p.sn)
  have h2 := feedTo_length (B := B) s p.srcs (homeL p s L) p.sn
  have h3 : (feedTo (B := B) s p.srcs (homeL p s L) p.sn).length ≤ 8 := by omega
  have h4 := Nat.mul_le_mul h3 h3
  unfold clashL
  omega
theorem PartIn.same {s t : Stt} {K : Int} {i : Nat} (h : PartIn s K i) (e : t.cont.map List.length = s.cont.map List.length) : PartIn t K i := by
  simp only [Stt.cont, Stt.lists, List.map_cons, List.map_nil, List.cons.injEq, and_true] at e
  obtain ⟨c0, c1, c2, c3, c4, c5, c6⟩ := e
  rcases h with ⟨rfl, h⟩ | ⟨rfl, h⟩ | ⟨rfl, h⟩
  · exact .inl ⟨rfl, by omega⟩
  · exact .inr (.inl ⟨rfl, by omega⟩)
  · exact .inr (.inr ⟨rfl, by omega⟩)
def partL (B n m : Nat) : List (Int × Int) := (List.range B).map (fun i : Nat => ((1 : Int), (i : Int))) ++ (List.range n).map (fun i : Nat => ((2 : Int), (i : Int))) ++ (List.range m).map (fun i : Nat => ((3 : Int), (i : Int)))
theorem partL_cells (B n m : Nat) : kindCells 1 B ++ kindCells 2 n ++ kindCells 3 m = pairCells (partL B n m) := by
  simp only [kindCells, pairCells, partL, List.flatMap_append, List.flatMap_map]
  rfl
theorem partL_length (B n m : Nat) : (partL B n m).length = B + n + m := by simp [partL]; omega
theorem partL_in {p : Plt} {s : Stt} {B : Nat} {L : List (LnkOf B)} (S : Sound p s B L) (hz : Sized s) {k : Nat} {x : Int × Int} (h : (partL B p.sn p.ln)[k]? = some x) : ∃ (K : Int) (i : Nat), x = (K, (i : Int)) ∧ PartIn s K i := by
  have hm := List.mem_of_getElem? h
  simp only [Sized, Stt.lists, List.mem_cons, List.mem_nil_iff, or_false, forall_eq_or_imp, forall_eq] at hz
  obtain ⟨z0, z1, z2, z3, z4, z5, z6⟩ := hz
  have l1 := S.lens.badBus
  have l2 := S.lens.badSource
  have l3 := S.lens.badLink
  simp only [partL, List.mem_append, List.mem_map, List.mem_range] at hm
  rcases hm with (⟨i, hi, rfl⟩ | ⟨i, hi, rfl⟩) | ⟨i, hi, rfl⟩
  · exact ⟨1, i, rfl, .inl ⟨rfl, by omega⟩⟩
  · exact ⟨2, i, rfl, .inr (.inl ⟨rfl, by omega⟩)⟩
  · exact ⟨3, i, rfl, .inr (.inr ⟨rfl, by omega⟩)⟩
theorem rd_row2 {w : World} {base : Nat} {T : TypeId} {A : Option Addr} {c n : Nat} {l : List (Int × Int)} (h : w.ownsRow base T 2 (.slice A n c) n (pairCells l)) (hl : l.length = n) : Rd w w.heap.size 2 encP A n l := by
  refine ⟨hl, fun hn => ?_⟩
  obtain ⟨g, cap, e⟩ := row_some h hn
  simp only [Value.slice.injEq] at e
  obtain ⟨e, _, _⟩ := e
  subst e
  refine ⟨g, 0, rfl, (h.lt g rfl).2, fun i x hx j u hu => ?_⟩
  rw [Nat.zero_add]
  exact row_cell h (flatMap_get (f := encP) (size := 2) l (fun _ _ => rfl) i x hx j u hu)
theorem fit_of {p : Plt} {s : Stt} {w : World} {b : Nat} (hp : PltIn w b p) (h : checkState p s = 0) : SttFit s := by
  unfold checkState at h
  split at h
  · rename_i hc
    obtain ⟨k1, k2, k3⟩ := check_small hc hp
    split at h
    · rename_i ho
      unfold stateOk at ho
      simp only [Bool.and_eq_true] at ho
      obtain ⟨⟨⟨o1, o2⟩, o3⟩, o4⟩ := ho
      have hb : p.buses ≤ 24 := by
        unfold check at hc
        split at hc
        · rename_i hw
          simp [within] at hw
          omega
        · omega
      simp [linkLists] at o1
      simp [sourceLists] at o2
      simp [busLists] at o3
      intro x hx
      simp only [Stt.lists, List.mem_cons, List.mem_nil_iff, or_false] at hx
      rcases hx with rfl | rfl | rfl | rfl | rfl | rfl | rfl <;> omega
    · omega
  · rename_i hc
    exact absurd h hc
end Go.Proofs.YtnngdcidopaabaaGreatDoor
