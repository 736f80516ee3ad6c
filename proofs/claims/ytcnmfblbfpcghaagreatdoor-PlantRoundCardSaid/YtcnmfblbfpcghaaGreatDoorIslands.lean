/- plant.Islands. -/
import Derived.Test.YtcnmfblbfpcghaaGreatDoorBusRow
import Derived.Test.YtcnmfblbfpcghaaGreatDoorPairs

set_option linter.unusedSimpArgs false
set_option linter.unusedVariables false
namespace Go.Proofs.YtcnmfblbfpcghaaGreatDoor
open Go.RowKit Go.Shelf
attribute [local go_sem] Oper.semAt_some

theorem islandInfo : (Tryz.prog.info? 156).map (fun i => (i.zero, i.size, i.bytes)) = some (some (.agg #[.slice none 0 0, .slice none 0 0]), 2, 48) := by kernel_rfl
/-- What a list of islands holds, pointwise. -/
def IslP (R : List Nat) (bo so : Nat → List Int) (fl : List (List Int)) (P : List Int) : Prop := ∀ (j r : Nat), R[j]? = some r → fl[j * 2]? = some (bo r) ∧ fl[j * 2 + 1]? = some (so r) ∧ P[r]? = some (j : Int)
def srcsOf {B : Nat} (F : List (Nat × Fin B)) (r : Nat) : List Int := (F.filter fun x => x.2.val = r).map fun x => (x.1 : Int)
def islesOf {B : Nat} (H : List Int) (F : List (Nat × Fin B)) : List (List Int × List Int) := (rootsTo H B).map fun r => (busesTo H B r, srcsOf F r)
theorem nodup_get {R : List Nat} (h : R.Nodup) {i j r : Nat} (hi : R[i]? = some r) (hj : R[j]? = some r) : i = j := by
  obtain ⟨a, ha⟩ := List.getElem?_eq_some_iff.1 hi
  obtain ⟨b, hb⟩ := List.getElem?_eq_some_iff.1 hj
  have hp := List.pairwise_iff_getElem.1 h
  rcases Nat.lt_trichotomy i j with h1 | h1 | h1
  · exact absurd (ha.trans hb.symm) (hp i j a b h1)
  · exact h1
  · exact absurd (hb.trans ha.symm) (hp j i b a h1)
theorem grownBy_drewN (W : World) (n : Nat) : W.grownBy (W.drewN n) none := ⟨rfl, rfl, rfl, Nat.le_refl _, fun _ _ _ => rfl⟩
theorem IslP.bus {R : List Nat} {bo bo' so : Nat → List Int} {fl : List (List Int)} {P : List Int} {j r : Nat} (h : IslP R bo so fl P) (hR : R.Nodup) (hj : R[j]? = some r) (hs : ∀ r', r' ≠ r → bo' r' = bo r') : IslP R bo' so (fl.set (j * 2) (bo' r)) P := by
  intro i q hi
  obtain ⟨h1, h2, h3⟩ := h i q hi
  have hl := (List.getElem?_eq_some_iff.1 (h j r hj).1).1
  refine ⟨?_, ?_, h3⟩
  · by_cases e : j = i
    · subst e
      obtain rfl : r = q := Option.some.inj (hj.symm.trans hi)
      rw [List.getElem?_set, if_pos rfl, if_pos hl]
    · rw [List.getElem?_set, if_neg (by omega), h1, hs q (fun e2 => e (nodup_get hR hj (e2 ▸ hi)))]
  · rw [List.getElem?_set, if_neg (by omega), h2]
theorem IslP.src {R : List Nat} {bo so so' : Nat → List Int} {fl : List (List Int)} {P : List Int} {j r : Nat} (h : IslP R bo so fl P) (hR : R.Nodup) (hj : R[j]? = some r) (hs : ∀ r', r' ≠ r → so' r' = so r') : IslP R bo so' (fl.set (j * 2 + 1) (so' r)) P := by
  intro i q hi
  obtain ⟨h1, h2, h3⟩ := h i q hi
  have hl := (List.getElem?_eq_some_iff.1 (h j r hj).2.1).1
  refine ⟨?_, ?_, h3⟩
  · rw [List.getElem?_set, if_neg (by omega), h1]
  · by_cases e : j = i
    · subst e
      obtain rfl : r = q := Option.some.inj (hj.symm.trans hi)
      rw [List.getElem?_set, if_pos rfl, if_pos hl]
    · rw [List.getElem?_set, if_neg (by omega), h2, hs q (fun e2 => e (nodup_get hR hj (e2 ▸ hi)))]
theorem row_cell {W : World} {n₀ gl n cap size k : Nat} {e : TypeId} {u : Value} {vs : List Value} (h : W.ownsRow n₀ e size (.slice (some ⟨gl, 0, none⟩) n cap) n vs) (hu : vs[k]? = some u) : W.cell? ⟨gl, k, none⟩ = some u := by
  have := h.cells (g := gl) rfl k u hu
  by_cases hk0 : k = 0
  · subst hk0
    simpa [Addr.add] using this
  · simpa [Addr.add, hk0] using this
theorem row_some {W : World} {n₀ size n : Nat} {e : TypeId} {v : Value} {vs : List Value} (h : W.ownsRow n₀ e size v n vs) (hn : 0 < n) : ∃ gl cap, v = .slice (some ⟨gl, 0, none⟩) n cap := by
  obtain ⟨m, rfl⟩ : ∃ m, n = m + 1 := ⟨n - 1, by omega⟩
  exact ownsRow_succ h
theorem IslP.more {R : List Nat} {bo so : Nat → List Int} {fl : List (List Int)} {P : List Int} {k : Nat} (h : IslP R bo so fl P) (hfl : fl.length = 2 * R.length) (hk : k ∉ R) (hP : k < P.length) (hb : bo k = []) (hs : so k = []) : IslP (R ++ [k]) bo so (fl ++ [[], []]) (P.set k (R.length : Int)) := by
  intro i q hi
  rw [List.getElem?_append] at hi
  split at hi
  · rename_i hl
    obtain ⟨h1, h2, h3⟩ := h i q hi
    have hq : k ≠ q := fun e => hk (e ▸ List.mem_of_getElem? hi)
    refine ⟨?_, ?_, ?_⟩
    · rw [List.getElem?_append_left (by omega), h1]
    · rw [List.getElem?_append_left (by omega), h2]
    · rw [List.getElem?_set, if_neg hq, h3]
  · rename_i hl
    have hi1 : i = R.length := by
      have := (List.getElem?_eq_some_iff.1 hi).1
      simp at this
      omega
    subst hi1
    simp only [Nat.sub_self, List.getElem?_cons_zero, Option.some.injEq] at hi
    subst hi
    refine ⟨?_, ?_, ?_⟩
    · rw [List.getElem?_append_right (by omega), hb, show R.length * 2 - fl.length = 0 by omega]
      rfl
    · rw [List.getElem?_append_right (by omega), hs, show R.length * 2 + 1 - fl.length = 1 by omega]
      rfl
    · rw [List.getElem?_set, if_pos rfl, if_pos hP]
theorem row_slice {W : World} {n₀ size n : Nat} {e : TypeId} {v : Value} {vs : List Value} (h : W.ownsRow n₀ e size v n vs) : ∃ A c, v = .slice A n c := by
  rcases h.2 with ⟨e, h0⟩ | ⟨g, cap, cur, e, _⟩
  · exact ⟨none, 0, by rw [e, h0]⟩
  · exact ⟨_, _, e⟩
theorem row_rd {W : World} {n₀ : Nat} {v : Value} {xs : List Int} (h : W.ownsRow n₀ 3 1 v xs.length (xs.map (Value.int .i64))) : ∃ A c, v = .slice A xs.length c ∧ Rd W W.heap.size 1 encI A xs.length xs := by
  rcases h.2 with ⟨rfl, h0⟩ | ⟨g, cap, cur, rfl, _, hgb, _⟩
  · exact ⟨none, 0, by rw [h0], rfl, fun hn => by omega⟩
  · refine ⟨_, _, rfl, rfl, fun _ => ⟨g, 0, rfl, (Array.getElem?_eq_some_iff.1 hgb).1, fun i x hx j u hu => ?_⟩⟩
    unfold encI at hu
    match j, hu with
    | 0, hu =>
      simp only [List.getElem?_cons_zero, Option.some.injEq] at hu
      subst hu
      have h1 := row_cell h (k := i) (u := .int .i64 x) (by rw [List.getElem?_map, hx]; rfl)
      simpa using h1
theorem isles_out {W : World} {n₀ Bl pg : Nat} {R : List Nat} {bo so : Nat → List Int} {v : Value} {vs : List Value} {fl : List (List Int)} {P : List Int} (h : IslC n₀ Bl pg R.length v vs fl P W) (hI : IslP R bo so fl P) (hn : R.length ≤ 9223372036854775807) (hb : ∀ r, (bo r).length ≤ 9223372036854775807) (hs : ∀ r, (so r).length ≤ 9223372036854775807) :
    ∃ (l : List Isle) (A : Option Addr) (c : Nat), v = .slice A R.length c ∧ IslesIn W W.heap.size A R.length l ∧ l.map Isle.two = R.map fun r => (bo r, so r) := by
  obtain ⟨A, c, rfl⟩ := row_slice h.own
  have hvl : vs.length = R.length * 2 := h.own.1
  have hx : ∀ (j r : Nat), R[j]? = some r → ∃ x : Isle, vs[j * 2]? = some (.slice x.bA x.bn x.bc) ∧ vs[j * 2 + 1]? = some (.slice x.sA x.sn x.sc) ∧ x.bl = bo r ∧ x.sl = so r ∧ (Rd W W.heap.size 1 encI x.bA x.bn x.bl ∧ x.bn ≤ 9223372036854775807) ∧ Rd W W.heap.size 1 encI x.sA x.sn x.sl ∧ x.sn ≤ 9223372036854775807 := by
    intro j r hj
    obtain ⟨h1, h2, _⟩ := hI j r hj
    have hjl := (List.getElem?_eq_some_iff.1 hj).1
    obtain ⟨a, ha⟩ : ∃ a, vs[j * 2]? = some a := ⟨_, List.getElem?_eq_getElem (by omega)⟩
    obtain ⟨b, hb'⟩ : ∃ b, vs[j * 2 + 1]? = some b := ⟨_, List.getElem?_eq_getElem (by omega)⟩
    obtain ⟨A1, c1, e1, r1⟩ := row_rd (h.rows.own _ _ _ ha h1)
    obtain ⟨A2, c2, e2, r2⟩ := row_rd (h.rows.own _ _ _ hb' h2)
    exact ⟨⟨A1, _, c1, bo r, A2, _, c2, so r⟩, by rw [ha, e1], by rw [hb', e2], rfl, rfl, ⟨r1, hb r⟩, r2, hs r⟩
  obtain ⟨l, hl⟩ : ∃ l : List Isle, l.length = R.length ∧ ∀ (j r : Nat) (x : Isle), R[j]? = some r → l[j]? = some x → vs[j * 2]? = some (.slice x.bA x.bn x.bc) ∧ vs[j * 2 + 1]? = some (.slice x.sA x.sn x.sc) ∧ x.bl = bo r ∧ x.sl = so r ∧ (Rd W W.heap.size 1 encI x.bA x.bn x.bl ∧ x.bn ≤ 9223372036854775807) ∧ Rd W W.heap.size 1 encI x.sA x.sn x.sl ∧ x.sn ≤ 9223372036854775807 := by
    have hex : ∀ j : Fin R.length, ∃ x : Isle, vs[j.val * 2]? = some (.slice x.bA x.bn x.bc) ∧ vs[j.val * 2 + 1]? = some (.slice x.sA x.sn x.sc) ∧ x.bl = bo R[j.val] ∧ x.sl = so R[j.val] ∧ (Rd W W.heap.size 1 encI x.bA x.bn x.bl ∧ x.bn ≤ 9223372036854775807) ∧ Rd W W.heap.size 1 encI x.sA x.sn x.sl ∧ x.sn ≤ 9223372036854775807 := fun j => hx j.val R[j.val] (List.getElem?_eq_getElem j.isLt)
    refine ⟨List.ofFn fun j => Classical.choose (hex j), by simp, fun j r x hj hxx => ?_⟩
    have hjl := (List.getElem?_eq_some_iff.1 hj).1
    have hr : R[j] = r := (List.getElem?_eq_some_iff.1 hj).2
    rw [List.getElem?_ofFn, dif_pos hjl] at hxx
    have hsp := Classical.choose_spec (hex ⟨j, hjl⟩)
    simp only [Option.some.injEq] at hxx
    rw [hxx] at hsp
    rw [← hr]
    exact hsp
  have hat : ∀ (i : Nat) (x : Isle), l[i]? = some x → ∃ r, R[i]? = some r := fun i x hi => ⟨_, List.getElem?_eq_getElem (by rw [← hl.1]; exact (List.getElem?_eq_some_iff.1 hi).1)⟩
  refine ⟨l, A, c, rfl, ⟨⟨hl.1, fun hpos => ?_⟩, hn, ?_, ?_⟩, ?_⟩
  · obtain ⟨gl, cap, e⟩ := row_some h.own hpos
    simp only [Value.slice.injEq] at e
    obtain ⟨rfl, _, rfl⟩ := e
    refine ⟨gl, 0, rfl, (h.own.lt gl rfl).2, fun i x hi j u hu => ?_⟩
    obtain ⟨r, hr⟩ := hat i x hi
    obtain ⟨h1, h2, _⟩ := hl.2 i r x hr hi
    unfold Isle.enc at hu
    match j, hu with
    | 0, hu =>
      simp only [List.getElem?_cons_zero, Option.some.injEq] at hu
      subst hu
      simpa using row_cell h.own h1
    | 1, hu =>
      simp only [List.getElem?_cons_succ, List.getElem?_cons_zero, Option.some.injEq] at hu
      subst hu
      simpa using row_cell h.own h2
  · intro x hxm
    obtain ⟨i, hi⟩ := List.getElem?_of_mem hxm
    obtain ⟨r, hr⟩ := hat i x hi
    exact (hl.2 i r x hr hi).2.2.2.2.1
  · intro x hxm
    obtain ⟨i, hi⟩ := List.getElem?_of_mem hxm
    obtain ⟨r, hr⟩ := hat i x hi
    exact (hl.2 i r x hr hi).2.2.2.2.2
  · apply List.ext_getElem?
    intro i
    rw [List.getElem?_map, List.getElem?_map]
    cases hr : R[i]? with
    | none =>
      have : l[i]? = none := List.getElem?_eq_none (by rw [hl.1]; exact List.getElem?_eq_none_iff.1 hr)
      rw [this]
      rfl
    | some r =>
      obtain ⟨x, hxi⟩ : ∃ x, l[i]? = some x := ⟨_, List.getElem?_eq_getElem (by rw [hl.1]; exact (List.getElem?_eq_some_iff.1 hr).1)⟩
      obtain ⟨_, _, h3, h4, _⟩ := hl.2 i r x hr hxi
      rw [hxi]
      simp [Isle.two, h3, h4]
theorem srcsOf_length {B : Nat} (F : List (Nat × Fin B)) (r : Nat) : (srcsOf F r).length ≤ F.length := by
  unfold srcsOf
  rw [List.length_map]
  exact List.length_filter_le _ _
theorem srcsOf_snoc {B : Nat} (F : List (Nat × Fin B)) (x : Nat × Fin B) (r : Nat) : srcsOf (F ++ [x]) r = srcsOf F r ++ if x.2.val = r then [(x.1 : Int)] else [] := by
  unfold srcsOf
  rw [List.filter_append, List.map_append]
  congr 1
  by_cases h : x.2.val = r <;> simp [h]
/-- The islands so far. -/
def IslI (n₀ Bl pg B : Nat) (R : List Nat) (bo so : Nat → List Int) (W : World) : Prop :=
  ∃ v vs fl P, IslC n₀ Bl pg R.length v vs fl P W ∧ P.length = B ∧ fl.length = 2 * R.length ∧ IslP R bo so fl P
theorem islI_own {β : Type} (n₀ Bl pg B : Nat) (R : List Nat) (bo : Nat → List Int) (so : β → Nat → List Int) : Own (fun t W => IslI n₀ Bl pg B R bo (so t) W) := fun t X Y row hs hg hr => by
  obtain ⟨v, vs, fl, P, h1, h2⟩ := hs
  exact ⟨v, vs, fl, P, h1.keep hg hr, h2⟩
theorem Rd.putObj {α : Type} {W : World} {B size n : Nat} {f : α → List Value} {A : Option Addr} {l : List α} (h : Rd W B size f A n l) {D : Nat} {o : Obj} (o' : Obj) (hl : W.heap[D]? = some o) (ho : o.isCells = false) : Rd (W.putObj D o') B size f A n l :=
  h.ks (KpS.putObj (Sf := fun _ => True) W D o o' hl ho) (fun _ _ => trivial)
theorem IslesIn.putObj {W : World} {A : Option Addr} {n : Nat} {l : List Isle} (h : IslesIn W W.heap.size A n l) {D : Nat} {o o' : Obj} (hl : W.heap[D]? = some o) (ho : o.isCells = false) : IslesIn (W.putObj D o') (W.putObj D o').heap.size A n l := by
  have hz : (W.putObj D o').heap.size = W.heap.size := by simp [World.putObj]
  rw [hz]
  exact ⟨h.rd.putObj o' hl ho, h.fit, fun x hx => ⟨(h.bus x hx).1.putObj o' hl ho, (h.bus x hx).2⟩, fun x hx => ⟨(h.src x hx).1.putObj o' hl ho, (h.src x hx).2⟩⟩
set_option maxRecDepth 100000 in
set_option maxHeartbeats 4000000 in
theorem islands_ok (p : Plt) (s : Stt) (B : Nat) (L : List (LnkOf B)) (S : Sound p s B L) (hsn : p.sn ≤ 24) (w : World) (hc : checkState p s = 0) (hp : PltIn w w.heap.size p) (hs : SttIn w w.heap.size s) :
    Calls Tryz.prog 32 #[p.val, s.val] w fun e w' => ∃ (l : List Isle) (A : Option Addr) (n c : Nat), e = .returned (.tuple #[.slice A n c, .int .i64 0]) ∧ Below w.heap.size w w' ∧ IslesIn w' w'.heap.size A n l ∧ l.map Isle.two = islesOf (homeL p s L) (feedTo (B := B) s p.srcs (homeL p s L) p.sn) := by
  refine (callsIn_wide (n := 12)).1 ?_
  have C := Lib.hid (fun W hp hs => checkState_any p s W hp hs)
  rw [hc] at C
  have N := Lib.hid (fun W hp hs => homes_any p s B W L S.lnks S.buses S.small S.lens hp hs)
  have K := Lib.hid (fun F n (hf : Fence.fn F _) hr A m c W => feeding_in F n hf hr p s A m c W)
  have HP := Lib.hid hp
  have HS := Lib.hid hs
  have HI := Lib.hid (homeL_isls p s L)
  have HO := Lib.hid (homesOk p s L)
  have hB := S.buses
  have hB24 := S.small
  generalize homeL p s L = H at HI HO N ⊢
  clear hp hs hc
  unfold Plt.val Stt.val at C N K ⊢
  rw [hB] at C N K ⊢
  refine callsIn_of_wp_marks Tryz.func32 rfl trivial ?_ rfl
  simp only [Tryz.ntmps32, List.size_toArray, List.length_cons, List.length_nil, Nat.reduceAdd, Nat.reduceSub, Array.replicate_succ, Array.replicate_zero, List.push_toArray, List.append_toArray, List.nil_append, List.cons_append]
  gi_wp2_with fail
  refine ⟨trivial, ?_⟩
  refine (callsIn_wide.2 (C.out _ (HP.out.next (by (repeat' (first | (with_reducible exact Below.refl _ _) | (with_reducible assumption) | (with_reducible refine below_drewN ?_ _) | (with_reducible refine below_after (by assumption) ?_ ?_) | (with_reducible refine Below.drew ?_) | (with_reducible refine Below.alloc ?_ ?_ _) | (with_reducible refine Below.setCell ?_ ?_ _) | omega | (simp; omega) | (simp; done))))) (HS.out.next (by (repeat' (first | (with_reducible exact Below.refl _ _) | (with_reducible assumption) | (with_reducible refine below_drewN ?_ _) | (with_reducible refine below_after (by assumption) ?_ ?_) | (with_reducible refine Below.drew ?_) | (with_reducible refine Below.alloc ?_ ?_ _) | (with_reducible refine Below.setCell ?_ ?_ _) | omega | (simp; omega) | (simp; done))))))).mono ?_
  rintro e w1 ⟨rfl, hB1⟩
  obtain ⟨hc1, hf1⟩ := bcell hB1
  have hz1 := hB1.size
  simp only [World.size_alloc] at hz1
  have y0 : w.heap.size < w1.heap.size := by omega
  have y1 : w.heap.size + 1 < w1.heap.size := by omega
  gi_wp2_with fail
  refine ⟨trivial, ?_⟩
  refine (callsIn_wide.2 (N.out _ (HP.out.next (by (repeat' (first | (with_reducible exact Below.refl _ _) | (with_reducible assumption) | (with_reducible refine below_drewN ?_ _) | (with_reducible refine below_after (by assumption) ?_ ?_) | (with_reducible refine Below.drew ?_) | (with_reducible refine Below.alloc ?_ ?_ _) | (with_reducible refine Below.setCell ?_ ?_ _) | omega | (simp; omega) | (simp; done))))) (HS.out.next (by (repeat' (first | (with_reducible exact Below.refl _ _) | (with_reducible assumption) | (with_reducible refine below_drewN ?_ _) | (with_reducible refine below_after (by assumption) ?_ ?_) | (with_reducible refine Below.drew ?_) | (with_reducible refine Below.alloc ?_ ?_ _) | (with_reducible refine Below.setCell ?_ ?_ _) | omega | (simp; omega) | (simp; done))))))).mono ?_
  rintro e w2 ⟨g, rfl, hB2, hg2, hN2⟩
  have hz2 := hB2.size
  have hB12 := hB1.trans (hB2.mono hB1.size)
  clear hc1 hf1
  obtain ⟨hc1, hf1⟩ := bcell hB12
  have zg := hN2.lt
  have HN := Lib.hid hN2
  have y0 : w.heap.size < w2.heap.size := by omega
  have y1 : w.heap.size + 1 < w2.heap.size := by omega
  have HB1 := Lib.hid hB1
  have HB2 := Lib.hid hB2
  clear hN2 hB1 hB2
  gi_wp2
  rw [show ∀ V, Sem.run Tryz.prog (Instr.makeSlice 56 (.int .i64 B) (.int .i64 B)) V = _ from run_makeInts B (by omega)]
  rw [nums_zero]
  gi_wp2
  obtain ⟨Wl, hWl⟩ : ∃ Wl, (((w2.alloc (.cells (ints (List.replicate B 0)) 3)).alloc (.cells #[.slice (some ⟨w2.heap.size, 0, none⟩) B B] 56)).alloc (.cells #[.slice none 0 0] 63)) = Wl := ⟨_, rfl⟩
  have hWs : Wl.heap.size = w2.heap.size + 3 := by rw [← hWl]; simp
  have e5 := heap_alloc_new w (.cells #[.int .i64 (B : Int), .slice p.sA p.sn p.sc, .slice p.lA p.ln p.lc, .slice p.rA p.rn p.rc] 26)
  have e6 := heap_alloc_new (w.alloc (.cells #[.int .i64 (B : Int), .slice p.sA p.sn p.sc, .slice p.lA p.ln p.lc, .slice p.rA p.rn p.rc] 26)) (.cells #[.slice s.closed.A s.closed.n s.closed.c, .slice s.locked.A s.locked.n s.locked.c, .slice s.badLink.A s.badLink.n s.badLink.c, .slice s.on.A s.on.n s.on.c, .slice s.badSource.A s.badSource.n s.badSource.c, .slice s.earthed.A s.earthed.n s.earthed.c, .slice s.badBus.A s.badBus.n s.badBus.c] 29)
  have e1 := heap_alloc_new w2 (.cells (ints (List.replicate B 0)) 3)
  have e2 := heap_alloc_new (w2.alloc (.cells (ints (List.replicate B 0)) 3)) (.cells #[.slice (some ⟨w2.heap.size, 0, none⟩) B B] 56)
  have e3 := heap_alloc_new ((w2.alloc (.cells (ints (List.replicate B 0)) 3)).alloc (.cells #[.slice (some ⟨w2.heap.size, 0, none⟩) B B] 56)) (.cells #[.slice none 0 0] 63)
  simp only [World.size_alloc] at e2 e3 e6
  have b1 : Blk Wl w.heap.size 26 #[.int .i64 (B : Int), .slice p.sA p.sn p.sc, .slice p.lA p.ln p.lc, .slice p.rA p.rn p.rc] := by
    have b4 : Blk w2 w.heap.size 26 #[.int .i64 (B : Int), .slice p.sA p.sn p.sc, .slice p.lA p.ln p.lc, .slice p.rA p.rn p.rc] := (hB12.block _ (by simp; omega)).trans ((Below.heap_alloc _ _ _ (by simp)).trans e5)
    rw [← hWl]
    exact ((b4.alloc _).alloc _).alloc _
  have b2 : Blk Wl (w.heap.size + 1) 29 #[.slice s.closed.A s.closed.n s.closed.c, .slice s.locked.A s.locked.n s.locked.c, .slice s.badLink.A s.badLink.n s.badLink.c, .slice s.on.A s.on.n s.on.c, .slice s.badSource.A s.badSource.n s.badSource.c, .slice s.earthed.A s.earthed.n s.earthed.c, .slice s.badBus.A s.badBus.n s.badBus.c] := by
    have b4 : Blk w2 (w.heap.size + 1) 29 #[.slice s.closed.A s.closed.n s.closed.c, .slice s.locked.A s.locked.n s.locked.c, .slice s.badLink.A s.badLink.n s.badLink.c, .slice s.on.A s.on.n s.on.c, .slice s.badSource.A s.badSource.n s.badSource.c, .slice s.earthed.A s.earthed.n s.earthed.c, .slice s.badBus.A s.badBus.n s.badBus.c] := (hB12.block _ (by simp)).trans e6
    rw [← hWl]
    exact ((b4.alloc _).alloc _).alloc _
  have b3 : IntB Wl g H := by
    rw [← hWl]
    exact Blk.alloc (Blk.alloc (Blk.alloc HN.out _) _) _
  have b4 : Blk Wl (w2.heap.size + 1) 56 #[.slice (some ⟨w2.heap.size, 0, none⟩) B B] := by
    rw [← hWl]
    exact Blk.alloc e2 _
  have bC : IslC (w2.heap.size + 3) (w2.heap.size + 2) w2.heap.size 0 (.slice none 0 0) [] [] (List.replicate B 0) Wl := by
    refine ⟨?_, World.ownsRow_nil _ _ _ _, Rows.nil _ _, ?_⟩
    · rw [← hWl]; exact e3
    · rw [← hWl]; exact Blk.alloc (Blk.alloc e1 _) _
  have hBw : Below w.heap.size w Wl := by rw [← hWl]; have := HB1.out; have := HB2.out; (repeat' (first | (with_reducible exact Below.refl _ _) | (with_reducible assumption) | (with_reducible refine below_drewN ?_ _) | (with_reducible refine below_after (by assumption) ?_ ?_) | (with_reducible refine Below.drew ?_) | (with_reducible refine Below.alloc ?_ ?_ _) | (with_reducible refine Below.setCell ?_ ?_ _) | omega | (simp; omega) | (simp; done)))
  rw [hWl]
  clear hWl e1 e2 e3 e5 e6 hc1 hf1 hB12 HB1 HB2 C N
  have HX0 := Lib.hid (And.intro hBw (And.intro b1 (And.intro b2 (And.intro b3 (And.intro b4 bC)))))
  clear hBw b1 b2 b3 b4 bC
  gi_loopw [30] (fun i wr => ∃ k : Nat, k ≤ B ∧ i = .int .i64 k ∧ Below w.heap.size w wr ∧ w2.heap.size + 3 ≤ wr.heap.size ∧ Hid ((Blk wr w.heap.size 26 #[.int .i64 (B : Int), .slice p.sA p.sn p.sc, .slice p.lA p.ln p.lc, .slice p.rA p.rn p.rc] ∧ Blk wr (w.heap.size + 1) 29 #[.slice s.closed.A s.closed.n s.closed.c, .slice s.locked.A s.locked.n s.locked.c, .slice s.badLink.A s.badLink.n s.badLink.c, .slice s.on.A s.on.n s.on.c, .slice s.badSource.A s.badSource.n s.badSource.c, .slice s.earthed.A s.earthed.n s.earthed.c, .slice s.badBus.A s.badBus.n s.badBus.c] ∧ IntB wr g H ∧ Blk wr (w2.heap.size + 1) 56 #[.slice (some ⟨w2.heap.size, 0, none⟩) B B]) ∧ ∃ v vs fl P, IslC (w2.heap.size + 3) (w2.heap.size + 2) w2.heap.size (rootsTo H k).length v vs fl P wr ∧ P.length = B ∧ fl.length = 2 * (rootsTo H k).length ∧ IslP (rootsTo H k) (busesTo H k) (fun _ => []) fl P)) (fun i _ => B - (intOf i).toNat)
  case atStart =>
    obtain ⟨hBw, b1, b2, b3, b4, bC⟩ := HX0.out
    exact ⟨0, by omega, rfl, hBw, by omega, ⟨b1, b2, b3, b4⟩, _, _, _, _, bC, by simp, by simp [rootsTo], fun j r h => by simp [rootsTo] at h⟩
  case round =>
    obtain ⟨k, hk, rfl, hB', hz', hq⟩ := hrel
    obtain ⟨⟨b1, b2, b3, b4⟩, v, vs, fl, P, hC, hP, hfl, hI⟩ := hq.out
    have c8 : wr.cell? ⟨w2.heap.size + 1, 0, none⟩ = some (.slice (some ⟨w2.heap.size, 0, none⟩) B B) := b4.cell 0
    have cl := hC.box.cell
    have fb := hC.box.frozen
    have hkv : Hid (Blk wr w.heap.size 26 #[.int .i64 (B : Int), .slice p.sA p.sn p.sc, .slice p.lA p.ln p.lc, .slice p.rA p.rn p.rc] ∧ Blk wr (w.heap.size + 1) 29 #[.slice s.closed.A s.closed.n s.closed.c, .slice s.locked.A s.locked.n s.locked.c, .slice s.badLink.A s.badLink.n s.badLink.c, .slice s.on.A s.on.n s.on.c, .slice s.badSource.A s.badSource.n s.badSource.c, .slice s.earthed.A s.earthed.n s.earthed.c, .slice s.badBus.A s.badBus.n s.badBus.c] ∧ IntB wr g H ∧ Blk wr (w2.heap.size + 1) 56 #[.slice (some ⟨w2.heap.size, 0, none⟩) B B]) := ⟨b1, b2, b3, b4⟩
    by_cases hlt : k < B
    · have hk0 : (0 : Int) ≤ (k : Int) := by omega
      have hkn : (k : Int) < (B : Int) := by omega
      have hkH : k < H.length := by rw [HI.out.1]; exact hlt
      obtain ⟨h, hh⟩ : ∃ h, H[k]? = some h := ⟨_, List.getElem?_eq_getElem hkH⟩
      have ch := b3.cell hh
      have HC := Lib.hid hC
      have HIP := Lib.hid hI
      have HH := Lib.hid hh
      have HLN := Lib.hid (And.intro hP hfl)
      have hcase := HO.out.2 _ _ hh
      clear b1 b2 b3 b4 hC hI hq hP hfl hh
      by_cases hm : h = -1
      · subst hm
        clear hcase
        gi_wp2
        go_roundw
        case rel =>
          have er : rootsTo H (k + 1) = rootsTo H k := by rw [rootsTo_succ, HH.out, if_neg (by simp), List.append_nil]
          have eb : ∀ r, busesTo H (k + 1) r = busesTo H k r := fun r => by rw [busesTo_succ, HH.out, if_neg (by simp), List.append_nil]
          refine ⟨k + 1, by omega, by go_num, hB', hz', hkv.out, v, vs, fl, P, ?_⟩
          rw [er]
          exact ⟨HC.out, HLN.out.1, HLN.out.2, fun j r hj => by rw [eb]; exact HIP.out j r hj⟩
        case measure => simp [intOf]; omega
      · obtain ⟨r, hrk, rfl, hr⟩ := hcase.resolve_left hm
        have HR := Lib.hid hr
        have hm0 : ((r : Int) = -1) = False := by simp
        clear hcase hm hr
        by_cases hrr : r = k
        · subst hrr
          have hRl := rootsTo_length H r
          obtain ⟨A, c, rfl⟩ := row_slice HC.out.own
          obtain ⟨x, hx⟩ : ∃ x, P[r]? = some x := ⟨_, List.getElem?_eq_getElem (by rw [HLN.out.1]; exact hlt)⟩
          have cx := HC.out.plc.cell hx
          have fx := Blk.frozen HC.out.plc r
          obtain ⟨n, hn⟩ : ∃ n, (rootsTo H r).length = n := ⟨_, rfl⟩
          have HE := Lib.hid hn
          rw [hn] at HC hRl
          rw [hn] at cl
          have hnot : r ∉ rootsTo H r := fun h => by have := (mem_rootsTo.1 h).1; omega
          have HP2 := Lib.hid ((HIP.out.more HLN.out.2 hnot (by rw [HLN.out.1]; exact hlt) (busesTo_none HO.out r) rfl))
          rw [hn] at HP2
          have HCa := Lib.hid (HC.out.place (by omega) (by omega) r (n : Int))
          have HGa := Lib.hid (grownBy_setAt wr w2.heap.size r (.int .i64 (n : Int)))
          have HWa := Lib.hid HCa.out.own
          have clA := HCa.out.box.cell
          have hza : (wr.setCell ⟨w2.heap.size, r, none⟩ (.int .i64 (n : Int))).heap.size = wr.heap.size := by simp
          obtain ⟨i0, hi, hz0, hz1, hz2⟩ := info_parts islandInfo
          obtain ⟨i1, hi', hz0', hz1', hz2'⟩ := info_parts intInfo
          clear hx hn
          gi_wp2_with (gi_at_builtin; refine wpListIn_append_own_at _ rfl (.tmp 45) (.tmp 47) 63 rfl (w2.heap.size + 3) 156 i0 (.agg #[.slice none 0 0, .slice none 0 0]) 2 48 Tryz.underlying63 hi hz0 hz1 hz2 rfl (by decide) (.slice A n c) _ _ rfl (HWa.out.alloc _) ⟨wr.heap.size, 0, none⟩ 1 1 [.slice none 0 0, .slice none 0 0] rfl rfl ?_ ?_ ?_ ?_ ?_ ?_)
          case _ =>
            intro i z hz
            match i, hz with
            | 0, hz =>
              simp only [List.getElem?_cons_zero, Option.some.injEq] at hz
              subst hz
              simp [Addr.add, go_sem]
            | 1, hz =>
              simp only [List.getElem?_cons_succ, List.getElem?_cons_zero, Option.some.injEq] at hz
              subst hz
              simp [Addr.add, go_sem]
          case _ =>
            intro z hz
            simp only [List.mem_cons, List.mem_nil_iff, or_false] at hz
            rcases hz with rfl | rfl <;> rfl
          case _ => simp only [maxLen]; omega
          case _ => omega
          case _ => simp; omega
          intro v' w5 hown hg5 _ _
          obtain ⟨gl, cap, rfl⟩ := ownsRow_succ hown
          obtain ⟨q1, q2, q3, q4, q5⟩ := HCa.out.push (b := w.heap.size) (by omega) (by omega) (by omega) (by omega) (by omega) hown hg5
          have d1 := q1.cell
          have d2 := q1.frozen
          have zg2 : g < w2.heap.size := zg
          have HQ : Hid (Below w.heap.size w (w5.setCell ⟨w2.heap.size + 1 + 1, 0, none⟩ (.slice (some ⟨gl, 0, none⟩) (n + 1) cap)) ∧ w2.heap.size + 3 ≤ (w5.setCell ⟨w2.heap.size + 1 + 1, 0, none⟩ (.slice (some ⟨gl, 0, none⟩) (n + 1) cap)).heap.size ∧
              (Blk (w5.setCell ⟨w2.heap.size + 1 + 1, 0, none⟩ (.slice (some ⟨gl, 0, none⟩) (n + 1) cap)) w.heap.size 26 #[.int .i64 (B : Int), .slice p.sA p.sn p.sc, .slice p.lA p.ln p.lc, .slice p.rA p.rn p.rc] ∧ Blk (w5.setCell ⟨w2.heap.size + 1 + 1, 0, none⟩ (.slice (some ⟨gl, 0, none⟩) (n + 1) cap)) (w.heap.size + 1) 29 #[.slice s.closed.A s.closed.n s.closed.c, .slice s.locked.A s.locked.n s.locked.c, .slice s.badLink.A s.badLink.n s.badLink.c, .slice s.on.A s.on.n s.on.c, .slice s.badSource.A s.badSource.n s.badSource.c, .slice s.earthed.A s.earthed.n s.earthed.c, .slice s.badBus.A s.badBus.n s.badBus.c] ∧ IntB (w5.setCell ⟨w2.heap.size + 1 + 1, 0, none⟩ (.slice (some ⟨gl, 0, none⟩) (n + 1) cap)) g H ∧ Blk (w5.setCell ⟨w2.heap.size + 1 + 1, 0, none⟩ (.slice (some ⟨gl, 0, none⟩) (n + 1) cap)) (w2.heap.size + 1) 56 #[.slice (some ⟨w2.heap.size, 0, none⟩) B B]) ∧
              IslC (w2.heap.size + 3) (w2.heap.size + 2) w2.heap.size (n + 1) (.slice (some ⟨gl, 0, none⟩) (n + 1) cap) (vs ++ [.slice none 0 0, .slice none 0 0]) (fl ++ [[], []]) (P.set r (n : Int)) (w5.setCell ⟨w2.heap.size + 1 + 1, 0, none⟩ (.slice (some ⟨gl, 0, none⟩) (n + 1) cap))) := by
            refine ⟨(hB'.grown HGa.out hB'.size (fun j e => by cases e; omega)).trans q4, by have := q3.size; simp at this; simp; omega, ⟨q5 _ _ _ (by omega) (by omega) (Blk.kept hkv.out.1 HGa.out (by simp <;> omega)), q5 _ _ _ (by omega) (by omega) (Blk.kept hkv.out.2.1 HGa.out (by simp <;> omega)), q5 _ _ _ (by omega) (by omega) (Blk.kept hkv.out.2.2.1 HGa.out (by simp <;> omega)), q5 _ _ _ (by omega) (by omega) (Blk.kept hkv.out.2.2.2 HGa.out (by simp <;> omega))⟩, q2⟩
          clear q1 q2 q3 q4 q5 hown hg5
          gi_wp2
          clear d1 d2
          generalize w5.setCell ⟨w2.heap.size + 1 + 1, 0, none⟩ (.slice (some ⟨gl, 0, none⟩) (n + 1) cap) = wb at HQ ⊢
          have HCb := Lib.hid HQ.out.2.2.2
          have cl2 := HCb.out.box.cell
          have c82 : wb.cell? ⟨w2.heap.size + 1, 0, none⟩ = some (.slice (some ⟨w2.heap.size, 0, none⟩) B B) := HQ.out.2.2.1.2.2.2.cell 0
          have hi3 : (P.set r (n : Int))[r]? = some (n : Int) := by rw [List.getElem?_set, if_pos rfl, if_pos (by rw [HLN.out.1]; exact hlt)]
          have cp2 := HCb.out.plc.cell hi3
          have hvl : vs.length = n * 2 := HC.out.own.1
          have hu : (vs ++ [Value.slice none 0 0, Value.slice none 0 0])[n * 2]? = some (.slice none 0 0) := by rw [List.getElem?_append_right (by omega), hvl, Nat.sub_self]; rfl
          have hfl2 : (fl ++ [[], []])[n * 2]? = some [] := by rw [List.getElem?_append_right (by have := HC.out.rows.len; omega), ← HC.out.rows.len, hvl, Nat.sub_self]; rfl
          have cu2 := row_cell HCb.out.own hu
          have hjn' : (n : Int) < ((n + 1 : Nat) : Int) := by omega
          have hj0 : (0 : Int) ≤ (n : Int) := by omega
          have HU := Lib.hid hu
          have HI1 := Lib.hid hfl2
          have HFL := Lib.hid (And.intro hfl2 hvl)
          clear hi3 hu hfl2 hvl cl cx fx clA c8 fb ch
          refine wpIn_wide.2 ?_
          go_quiet (fail)
          have hgd := grownBy_drewN wb nq
          generalize wb.drewN nq = wd at hgd ⊢
          have HCd := Lib.hid (HCb.out.keep hgd (by simp))
          have cud := row_cell HCd.out.own HU.out
          have zd : w2.heap.size + 3 ≤ wd.heap.size := Nat.le_trans HQ.out.2.1 hgd.size
          have HWd := Lib.hid (HCd.out.rows.own _ _ _ HU.out HI1.out)
          have HG := Lib.hid hgd
          clear cu2 cl2 cp2 c82 hgd
          gi_wp2_with (gi_at_builtin; refine wpListIn_append_own_at _ rfl (.tmp 59) (.tmp 61) 56 rfl (w2.heap.size + 3) 3 i1 (.int .i64 0) 1 8 Tryz.underlying56 hi' hz0' hz1' hz2' rfl (by decide) (.slice none 0 0) _ _ rfl (HWd.out.alloc _) ⟨wd.heap.size, 0, none⟩ 1 1 [.int .i64 (r : Int)] rfl rfl (cell_one_new _ _ _) ?_ ?_ ?_ ?_ ?_)
          case _ =>
            intro z hz
            simp only [List.mem_cons, List.mem_nil_iff, or_false] at hz
            subst hz
            rfl
          case _ => simp [maxLen]
          case _ => simp
          case _ => simp; omega
          intro u' w6 hown hg5 _ hat
          obtain ⟨g', cap', rfl⟩ := ownsRow_succ hown
          obtain ⟨⟨f1, f2, f3⟩, q1, q2, q3, q4, q5⟩ := HCd.out.put (b := w.heap.size) (x := (r : Int)) (by omega) (by omega) (by omega) zd HU.out HI1.out hown hg5 hat
          have HQ2 := Lib.hid (And.intro q1 (And.intro q2 (And.intro q3 (And.intro q4 q5))))
          clear q1 q2 q3 q4 q5 hown hg5 hat
          gi_wp2
          go_roundw
          case rel =>
            obtain ⟨q1, q2, q3, q4, q5⟩ := HQ2.out
            obtain ⟨hBb, hzb, hbb, _⟩ := HQ.out
            have hkk : ∀ i T cs, i < w2.heap.size + 3 → Blk wb i T cs → Blk (w6.setCell ⟨gl, n * 2, none⟩ (.slice (some ⟨g', 0, none⟩) (0 + 1) cap')) i T cs := fun i T cs hi h => q5 i T cs (.inl hi) (h.kept HG.out (by simp))
            have zg2 : g < w2.heap.size := zg
            have er : rootsTo H (r + 1) = rootsTo H r ++ [r] := by rw [rootsTo_succ, HH.out, if_pos rfl]
            refine ⟨r + 1, by omega, by go_num, (hBb.grown HG.out hBb.size (by simp)).trans q3, Nat.le_trans zd q2.size, ⟨hkk _ _ _ (by omega) hbb.1, hkk _ _ _ (by omega) hbb.2.1, hkk _ _ _ (by omega) hbb.2.2.1, hkk _ _ _ (by omega) hbb.2.2.2⟩, ?_⟩
            rw [er, List.length_append, HE.out]
            refine ⟨_, _, _, _, q1, by simp [HLN.out.1], by simp [HLN.out.2, HE.out]; omega, ?_⟩
            have h := HP2.out.bus (bo' := busesTo H (r + 1)) (j := n) (r := r) (er ▸ rootsTo_nodup H (r + 1)) (by rw [List.getElem?_append_right (by rw [HE.out]; exact Nat.le_refl _), HE.out, Nat.sub_self]; rfl) (fun r' (h : r' ≠ r) => by rw [busesTo_succ, HH.out, if_neg (fun e => h (by simp only [Option.some.injEq] at e; omega)), List.append_nil])
            rwa [busesTo_succ, HH.out, if_pos rfl, busesTo_none HO.out] at h
          case measure => simp [intOf]; omega
        · have hne : ((r : Int) = (k : Int)) = False := by simp; omega
          obtain ⟨j, hj⟩ : ∃ j : Nat, (rootsTo H k)[j]? = some r := List.getElem?_of_mem (mem_rootsTo.2 ⟨by omega, HR.out⟩)
          obtain ⟨hi1, hi2, hi3⟩ := HIP.out j r hj
          have hrn : (r : Int) < (B : Int) := by omega
          have hr0 : (0 : Int) ≤ (r : Int) := by omega
          have hRl := rootsTo_length H k
          have hbl := busesTo_length H k r
          obtain ⟨gl, cap, rfl⟩ := row_some HC.out.own (by have := (List.getElem?_eq_some_iff.1 hj).1; omega)
          obtain ⟨u, hu⟩ : ∃ u, vs[j * 2]? = some u := ⟨_, List.getElem?_eq_getElem (by rw [HC.out.rows.len]; exact (List.getElem?_eq_some_iff.1 hi1).1)⟩
          have cu := row_cell HC.out.own hu
          have cp := HC.out.plc.cell hi3
          have hjn := (List.getElem?_eq_some_iff.1 hj).1
          have hj0 : (0 : Int) ≤ (j : Int) := by omega
          have hjn' : (j : Int) < (((rootsTo H k).length : Nat) : Int) := by omega
          have HJ := Lib.hid hj
          have HU := Lib.hid hu
          have HI1 := Lib.hid hi1
          obtain ⟨xs, hxs⟩ : ∃ xs, busesTo H k r = xs := ⟨_, rfl⟩
          obtain ⟨n, hn⟩ : ∃ n, (rootsTo H k).length = n := ⟨_, rfl⟩
          have HE := Lib.hid (And.intro hxs hn)
          rw [hxs] at hbl
          rw [hn] at hRl hjn hjn' HC
          rw [hn] at cl
          have hown0 := HC.out.rows.own _ _ _ hu (hi1.trans (congrArg some hxs))
          have HW0 := Lib.hid hown0
          obtain ⟨i0, hi, hz0, hz1, hz2⟩ := info_parts intInfo
          clear hj hu hi1 hi2 hi3 hxs hn hown0
          gi_wp2
          refine wpIn_wide.2 ?_
          go_quiet (fail)
          have hgd := grownBy_drewN wr nq
          generalize wr.drewN nq = wd at hgd ⊢
          have HCd := Lib.hid (HC.out.keep hgd (by simp))
          have cud := row_cell HCd.out.own HU.out
          have zd : w2.heap.size + 3 ≤ wd.heap.size := Nat.le_trans hz' hgd.size
          have HWd := Lib.hid (HCd.out.rows.own _ _ _ HU.out (HI1.out.trans (congrArg some HE.out.1)))
          have HG := Lib.hid hgd
          clear cu cl fb cp ch c8 hgd
          gi_wp2_with (gi_at_builtin; refine wpListIn_append_own_at _ rfl (.tmp 59) (.tmp 61) 56 rfl (w2.heap.size + 3) 3 i0 (.int .i64 0) 1 8 Tryz.underlying56 hi hz0 hz1 hz2 rfl (by decide) u _ _ rfl (HWd.out.alloc _) ⟨wd.heap.size, 0, none⟩ 1 1 [.int .i64 (k : Int)] rfl rfl (cell_one_new _ _ _) ?_ ?_ ?_ ?_ ?_)
          case _ =>
            intro z hz
            simp only [List.mem_cons, List.mem_nil_iff, or_false] at hz
            subst hz
            rfl
          case _ => simp only [maxLen]; omega
          case _ => omega
          case _ => simp; omega
          intro u' w5 hown hg5 _ hat
          obtain ⟨g', cap', rfl⟩ := ownsRow_succ hown
          obtain ⟨⟨f1, f2, f3⟩, q1, q2, q3, q4, q5⟩ := HCd.out.put (b := w.heap.size) (x := (k : Int)) (by omega) (by omega) (by omega) zd HU.out (HI1.out.trans (congrArg some HE.out.1)) hown hg5 hat
          have HQ := Lib.hid (And.intro q1 (And.intro q2 (And.intro q3 (And.intro q4 q5))))
          clear q1 q2 q3 q4 q5 hown hg5 hat
          gi_wp2
          go_roundw
          case rel =>
            obtain ⟨q1, q2, q3, q4, q5⟩ := HQ.out
            have hkk : ∀ i T cs, i < w2.heap.size + 3 → Blk wr i T cs → Blk (w5.setCell ⟨gl, j * 2, none⟩ (.slice (some ⟨g', 0, none⟩) (xs.length + 1) cap')) i T cs := fun i T cs hi h => q5 i T cs (.inl hi) (h.kept HG.out (by simp))
            have zg2 : g < w2.heap.size := zg
            have er : rootsTo H (k + 1) = rootsTo H k := by rw [rootsTo_succ, HH.out, if_neg (by simp; omega), List.append_nil]
            refine ⟨k + 1, by omega, by go_num, (hB'.grown HG.out hB'.size (by simp)).trans q3, by have := q2.size; omega, ⟨hkk _ _ _ (by omega) hkv.out.1, hkk _ _ _ (by omega) hkv.out.2.1, hkk _ _ _ (by omega) hkv.out.2.2.1, hkk _ _ _ (by omega) hkv.out.2.2.2⟩, ?_⟩
            rw [er, HE.out.2]
            refine ⟨_, _, _, _, q1, HLN.out.1, by simp [HLN.out.2, HE.out.2], ?_⟩
            have h := HIP.out.bus (bo' := busesTo H (k + 1)) (rootsTo_nodup H k) HJ.out (fun r' h => by rw [busesTo_succ, HH.out, if_neg (by simp; omega), List.append_nil])
            rwa [busesTo_succ, HH.out, if_pos rfl, HE.out.1] at h
          case measure => simp [intOf]; omega
    · obtain rfl : B = k := by omega
      have hC0 := Lib.hid (And.intro hC (And.intro hP (And.intro hfl hI)))
      have c20 : wr.cell? ⟨w.heap.size, 0, none⟩ = some (.int .i64 B) := b1.cell 0
      have c21 : wr.cell? ⟨w.heap.size, 1, none⟩ = some (.slice p.sA p.sn p.sc) := b1.cell 1
      have c22 : wr.cell? ⟨w.heap.size, 2, none⟩ = some (.slice p.lA p.ln p.lc) := b1.cell 2
      have c23 : wr.cell? ⟨w.heap.size, 3, none⟩ = some (.slice p.rA p.rn p.rc) := b1.cell 3
      have c30 := b2.cell 0
      have c31 := b2.cell 1
      have c32 := b2.cell 2
      have c33 := b2.cell 3
      have c34 := b2.cell 4
      have c35 := b2.cell 5
      have c36 := b2.cell 6
      simp only [List.getElem?_toArray, List.getElem?_cons_zero, List.getElem?_cons_succ] at c30 c31 c32 c33 c34 c35 c36
      clear hC hI hP hfl hq b1 b2 b3 b4 fb cl c8
      gi_wp2_with fail
      refine ⟨trivial, ?_⟩
      refine (K.out Fence.wide _ trivial rfl _ _ _ _).mono ?_
      rintro e w3 ⟨rfl, rfl⟩
      gi_wp2
      obtain ⟨Wn, hWn⟩ : ∃ Wn, (((wr.alloc (.cells #[.int .i64 (B : Int), .slice p.sA p.sn p.sc, .slice p.lA p.ln p.lc, .slice p.rA p.rn p.rc] 26)).alloc (.cells #[.slice s.closed.A s.closed.n s.closed.c, .slice s.locked.A s.locked.n s.locked.c, .slice s.badLink.A s.badLink.n s.badLink.c, .slice s.on.A s.on.n s.on.c, .slice s.badSource.A s.badSource.n s.badSource.c, .slice s.earthed.A s.earthed.n s.earthed.c, .slice s.badBus.A s.badBus.n s.badBus.c] 29)).alloc (.cells #[.slice (some ⟨g, 0, none⟩) B B] 56)) = Wn := ⟨_, rfl⟩
      have hWns : Wn.heap.size = wr.heap.size + 3 := by rw [← hWn]; simp
      have n1 : Blk Wn wr.heap.size 26 #[.int .i64 (B : Int), .slice p.sA p.sn p.sc, .slice p.lA p.ln p.lc, .slice p.rA p.rn p.rc] := by rw [← hWn]; exact (Blk.alloc (heap_alloc_new wr _) _).alloc _
      have n2 : Blk Wn (wr.heap.size + 1) 29 #[.slice s.closed.A s.closed.n s.closed.c, .slice s.locked.A s.locked.n s.locked.c, .slice s.badLink.A s.badLink.n s.badLink.c, .slice s.on.A s.on.n s.on.c, .slice s.badSource.A s.badSource.n s.badSource.c, .slice s.earthed.A s.earthed.n s.earthed.c, .slice s.badBus.A s.badBus.n s.badBus.c] := by
        have e2 := heap_alloc_new (wr.alloc (.cells #[.int .i64 (B : Int), .slice p.sA p.sn p.sc, .slice p.lA p.ln p.lc, .slice p.rA p.rn p.rc] 26)) (.cells #[.slice s.closed.A s.closed.n s.closed.c, .slice s.locked.A s.locked.n s.locked.c, .slice s.badLink.A s.badLink.n s.badLink.c, .slice s.on.A s.on.n s.on.c, .slice s.badSource.A s.badSource.n s.badSource.c, .slice s.earthed.A s.earthed.n s.earthed.c, .slice s.badBus.A s.badBus.n s.badBus.c] 29)
        simp only [World.size_alloc] at e2
        rw [← hWn]
        exact Blk.alloc e2 _
      have n3 : Blk Wn (wr.heap.size + 1 + 1) 56 #[.slice (some ⟨g, 0, none⟩) B B] := by
        have e2 := heap_alloc_new ((wr.alloc (.cells #[.int .i64 (B : Int), .slice p.sA p.sn p.sc, .slice p.lA p.ln p.lc, .slice p.rA p.rn p.rc] 26)).alloc (.cells #[.slice s.closed.A s.closed.n s.closed.c, .slice s.locked.A s.locked.n s.locked.c, .slice s.badLink.A s.badLink.n s.badLink.c, .slice s.on.A s.on.n s.on.c, .slice s.badSource.A s.badSource.n s.badSource.c, .slice s.earthed.A s.earthed.n s.earthed.c, .slice s.badBus.A s.badBus.n s.badBus.c] 29)) (.cells #[.slice (some ⟨g, 0, none⟩) B B] 56)
        simp only [World.size_alloc] at e2
        rw [← hWn]
        exact e2
      have tg : wr.grownBy Wn none := by rw [← hWn]; exact ((World.grownBy_alloc _ _ none).trans (World.grownBy_alloc _ _ none)).trans (World.grownBy_alloc _ _ none)
      obtain ⟨bb1, bb2, bb3, bb4⟩ := hkv.out
      obtain ⟨hC, hP, hfl, hI⟩ := hC0.out
      have hBn : Below w.heap.size w Wn := hB'.grown tg hB'.size (by simp)
      have m4 : Blk Wn (w2.heap.size + 1) 56 #[.slice (some ⟨w2.heap.size, 0, none⟩) B B] := bb4.kept tg (by simp)
      have mC := hC.keep tg (by simp)
      have mH : IntB Wn g H := Blk.kept bb3 tg (by simp)
      have zg2 : g < w2.heap.size := zg
      rw [hWn]
      clear hWn c20 c21 c22 c23 c30 c31 c32 c33 c34 c35 c36 K
      obtain ⟨Sf, hSf⟩ : ∃ Sf : Nat → Prop, Sf = fun b => b < w.heap.size ∨ b = g ∨ b = wr.heap.size ∨ b = wr.heap.size + 1 ∨ b = wr.heap.size + 1 + 1 := ⟨_, rfl⟩
      refine wpIn_rangeFunc_ownH rfl (by omega) (gf := 128) (lb := #[.pointer (some ⟨wr.heap.size, 0, none⟩), .pointer (some ⟨wr.heap.size + 1, 0, none⟩), .pointer (some ⟨wr.heap.size + 1 + 1, 0, none⟩)]) rfl trivial (enters_of Tryz.func128 (by kernel_rfl) rfl)
        (feed_stopsS Fence.wide (12 - 1) trivial rfl (by omega) wr.heap.size (wr.heap.size + 1) (wr.heap.size + 1 + 1) w.heap.size g B Sf p s H S.srcs S.lens HI.out (by rw [hSf]; simp) (by rw [hSf]; simp) (by rw [hSf]; simp) (by rw [hSf]; simp) (fun b hb => by rw [hSf]; exact .inl hb) Wn (by omega) (HP.out.below hBn) (HS.out.below hBn) (Blk.cell n1 1) (Blk.cell n2 3) (Blk.cell n2 4) (Blk.cell n3 0) (fun i h e => IntB.cell mH e))
        (fun h k => KpS.trans h k) (fun W l o o' _ ho hc _ => KpS.putObj W l o o' ho hc) (Below.refl _ _) (fun _ => rfl)
        (fun pre W => ((((Blk W wr.heap.size 26 #[.int .i64 (B : Int), .slice p.sA p.sn p.sc, .slice p.lA p.ln p.lc, .slice p.rA p.rn p.rc] ∧ Blk W (wr.heap.size + 1) 29 #[.slice s.closed.A s.closed.n s.closed.c, .slice s.locked.A s.locked.n s.locked.c, .slice s.badLink.A s.badLink.n s.badLink.c, .slice s.on.A s.on.n s.on.c, .slice s.badSource.A s.badSource.n s.badSource.c, .slice s.earthed.A s.earthed.n s.earthed.c, .slice s.badBus.A s.badBus.n s.badBus.c]) ∧ Blk W (wr.heap.size + 1 + 1) 56 #[.slice (some ⟨g, 0, none⟩) B B]) ∧ Blk W (w2.heap.size + 1) 56 #[.slice (some ⟨w2.heap.size, 0, none⟩) B B]) ∧ IslI (w2.heap.size + 3) (w2.heap.size + 2) w2.heap.size B (rootsTo H B) (busesTo H B) (srcsOf (fdVals pre)) W) ∧ Below w.heap.size w W)
        (fun _ _ _ => False)
        (OwnFrom.and (OwnFrom.and (OwnFrom.and (OwnFrom.and (OwnFrom.and (Own.from (blk_own _ _ _) _) (Own.from (blk_own _ _ _) _)) (Own.from (blk_own _ _ _) _)) (Own.from (blk_own _ _ _) _)) (Own.from (islI_own _ _ _ _ _ _ (fun pre => srcsOf (fdVals pre))) _)) (ownFrom_below (Nat.le_refl _) (by omega)))
        (fun _ _ _ _ _ hs _ _ => hs)
        ⟨⟨⟨⟨⟨n1, n2⟩, n3⟩, m4⟩, ⟨v, vs, fl, P, mC, hP, hfl, hI⟩⟩, hBn⟩
        (fun x a' W => a' = { tmps := #[Value.agg #[.int .i64 (B : Int), .slice p.sA p.sn p.sc, .slice p.lA p.ln p.lc, .slice p.rA p.rn p.rc], Value.agg #[.slice s.closed.A s.closed.n s.closed.c, .slice s.locked.A s.locked.n s.locked.c, .slice s.badLink.A s.badLink.n s.badLink.c, .slice s.on.A s.on.n s.on.c, .slice s.badSource.A s.badSource.n s.badSource.c, .slice s.earthed.A s.earthed.n s.earthed.c, .slice s.badBus.A s.badBus.n s.badBus.c], .pointer (some ⟨w.heap.size, 0, none⟩), .pointer (some ⟨w.heap.size + 1, 0, none⟩), .slice none 0 0, .int .i64 0, .int .i64 0, .slice (some ⟨g, 0, none⟩) B B, .pointer (some ⟨w2.heap.size + 1, 0, none⟩), .pointer (some ⟨w2.heap.size + 1 + 1, 0, none⟩), u10, u11, u12, .int .i64 (x.1.1 : Int), .int .i64 (x.1.2.val : Int), undef, Value.agg #[.int .i64 (B : Int), .slice p.sA p.sn p.sc, .slice p.lA p.ln p.lc, .slice p.rA p.rn p.rc], Value.agg #[.slice s.closed.A s.closed.n s.closed.c, .slice s.locked.A s.locked.n s.locked.c, .slice s.badLink.A s.badLink.n s.badLink.c, .slice s.on.A s.on.n s.on.c, .slice s.badSource.A s.badSource.n s.badSource.c, .slice s.earthed.A s.earthed.n s.earthed.c, .slice s.badBus.A s.badBus.n s.badBus.c], .int .i64 0, .int .i64 0, .bool false, undef, Value.agg #[.int .i64 (B : Int), .slice p.sA p.sn p.sc, .slice p.lA p.ln p.lc, .slice p.rA p.rn p.rc], Value.agg #[.slice s.closed.A s.closed.n s.closed.c, .slice s.locked.A s.locked.n s.locked.c, .slice s.badLink.A s.badLink.n s.badLink.c, .slice s.on.A s.on.n s.on.c, .slice s.badSource.A s.badSource.n s.badSource.c, .slice s.earthed.A s.earthed.n s.earthed.c, .slice s.badBus.A s.badBus.n s.badBus.c], .slice (some ⟨g, 0, none⟩) B B, .pointer (some ⟨w.heap.size, 0, none⟩), .int .i64 (B : Int), .slice (some ⟨w2.heap.size, 0, none⟩) B B, .slice (some ⟨g, 0, none⟩) B B, .int .i64 (B : Int), .int .i64 (B : Int), .bool false, u32, u33, u34, u35, u36, u37, u38, u39, u40, u41, u42, u43, u44, u45, u46, u47, u48, u49, u50, u51, u52, u53, u54, u55, u56, u57, u58, u59, u60, u61, u62, u63, u64, u65, Value.agg #[.int .i64 (B : Int), .slice p.sA p.sn p.sc, .slice p.lA p.ln p.lc, .slice p.rA p.rn p.rc], Value.agg #[.slice s.closed.A s.closed.n s.closed.c, .slice s.locked.A s.locked.n s.locked.c, .slice s.badLink.A s.badLink.n s.badLink.c, .slice s.on.A s.on.n s.on.c, .slice s.badSource.A s.badSource.n s.badSource.c, .slice s.earthed.A s.earthed.n s.earthed.c, .slice s.badBus.A s.badBus.n s.badBus.c], .slice (some ⟨g, 0, none⟩) B B, .func (.func 128) #[] #[.pointer (some ⟨wr.heap.size, 0, none⟩), .pointer (some ⟨wr.heap.size + 1, 0, none⟩), .pointer (some ⟨wr.heap.size + 1 + 1, 0, none⟩)], .int .i64 (x.1.1 : Int), .int .i64 (x.1.2.val : Int), undef, undef, undef, undef, undef, undef, undef, undef, undef, undef, undef, undef, undef, undef, undef, undef, undef], defers := [] })
        (fun _ _ _ _ _ _ hs _ _ => hs)
        ?assign ?body ?done ?stop
      case assign =>
        rintro l pre x W K' hi hK
        gi_wp2
        exact hK _ _ (KeepsFrom.refl _ _) (KpS.refl _ _) hi rfl
      case body =>
        rintro l pre x a' W hl ⟨r0, hr0⟩ ⟨⟨⟨⟨⟨d1, d2⟩, d3⟩, d4⟩, ⟨v', vs', fl', P', hC', hP', hfl', hI'⟩⟩, d7⟩ rfl hlt
        obtain ⟨m, hm⟩ : ∃ m : Nat, x.1.2.val = m := ⟨_, rfl⟩
        have hmB : m < B := by have := x.1.2.isLt; omega
        have hHm : H[m]? = some (m : Int) := by
          obtain ⟨i, hi⟩ := x.2.2
          rw [hm] at hi
          rcases HO.out.2 _ _ hi with h | ⟨q, _, h2, h3⟩
          · omega
          · obtain rfl : q = m := by omega
            exact h3
        obtain ⟨j, hj⟩ : ∃ j : Nat, (rootsTo H B)[j]? = some m := List.getElem?_of_mem (mem_rootsTo.2 ⟨hmB, hHm⟩)
        obtain ⟨hi1, hi2, hi3⟩ := hI' j m hj
        have hjn := (List.getElem?_eq_some_iff.1 hj).1
        obtain ⟨gl, cap, rfl⟩ := row_some hC'.own (by omega)
        obtain ⟨u, hu⟩ : ∃ u, vs'[j * 2 + 1]? = some u := ⟨_, List.getElem?_eq_getElem (by rw [hC'.rows.len]; exact (List.getElem?_eq_some_iff.1 hi2).1)⟩
        have hRB := rootsTo_length H B
        obtain ⟨xs, hxs⟩ : ∃ xs, srcsOf (fdVals pre) m = xs := ⟨_, rfl⟩
        have hxl : xs.length ≤ 24 := by
          have h1 := srcsOf_length (fdVals pre) m
          rw [hxs] at h1
          simp only [fdVals, List.length_map] at h1
          omega
        obtain ⟨n, hn⟩ : ∃ n, (rootsTo H B).length = n := ⟨_, rfl⟩
        rw [hn] at hC' hjn hRB
        rw [hxs] at hi2
        have cl := cell_regrown hC'.box.cell
        have c8 := cell_regrown (show W.cell? ⟨w2.heap.size + 1, 0, none⟩ = some (.slice (some ⟨w2.heap.size, 0, none⟩) B B) from d4.cell 0)
        have cp := cell_regrown (hC'.plc.cell hi3)
        have zW : wr.heap.size + 1 + 1 < W.heap.size := d3.lt
        have hj0 : (0 : Int) ≤ (j : Int) := by omega
        have hjn' : (j : Int) < (n : Int) := by omega
        have hm0 : (0 : Int) ≤ (m : Int) := by omega
        have hmB' : (m : Int) < (B : Int) := by omega
        obtain ⟨i0, hi, hz0, hz1, hz2⟩ := info_parts intInfo
        have HB := Lib.hid (And.intro d1 (And.intro d2 (And.intro d3 (And.intro d4 d7))))
        have HCC := Lib.hid hC'
        have HI2 := Lib.hid (And.intro hi2 (And.intro hu (And.intro hj hxs)))
        have HIP := Lib.hid hI'
        have HPL := Lib.hid (And.intro hP' (And.intro hfl' hn))
        have HSF := Lib.hid (And.intro hSf hWns)
        clear d1 d2 d3 d4 d7 hC' hi1 hi2 hi3 hu hj hI' hP' hfl' hn hxs hr0 hC hP hfl hI n1 n2 n3 m4 mC mH tg bb1 bb2 bb3 bb4 hC0 hkv hSf hWns hB' hBn
        rw [hm]
        gi_wp2
        refine wpIn_region_quiet_round l (by kernel_rfl) (by kernel_rfl) (by kernel_rfl) ?_
        repeat (go_big_quiet_step (fail))
        refine wpQuiet_nil ?_
        intro _ hw'
        obtain ⟨⟨dq, osq⟩, hw''⟩ := hw'
        subst hw''
        have hgd := grown_of_below (below_regrown W dq osq)
        clear cl c8 cp
        generalize Go.Sort.grow (redrawn W dq) osq = wd at hgd ⊢
        have HCd := Lib.hid (HCC.out.keep hgd (by simp))
        have cud := row_cell HCd.out.own HI2.out.2.1
        have zd : w2.heap.size + 3 ≤ wd.heap.size := by have := hgd.size; omega
        have HWd := Lib.hid (HCd.out.rows.own _ _ _ HI2.out.2.1 HI2.out.1)
        have HG := Lib.hid hgd
        clear hgd
        gi_wp2_with (gi_at_builtin; refine wpListIn_append_own_at _ rfl (.tmp 82) (.tmp 84) 56 rfl (w2.heap.size + 3) 3 i0 (.int .i64 0) 1 8 Tryz.underlying56 hi hz0 hz1 hz2 rfl (by decide) u _ _ rfl (HWd.out.alloc _) ⟨wd.heap.size, 0, none⟩ 1 1 [.int .i64 (x.1.1 : Int)] rfl rfl (cell_one_new _ _ _) ?_ ?_ ?_ ?_ ?_)
        case _ =>
          intro z hz
          simp only [List.mem_cons, List.mem_nil_iff, or_false] at hz
          subst hz
          rfl
        case _ => simp only [maxLen]; omega
        case _ => omega
        case _ => simp; omega
        intro u' w5 hown hg5 _ hat
        obtain ⟨g', cap', rfl⟩ := ownsRow_succ hown
        obtain ⟨⟨f1, f2, f3⟩, q1, q2, q3, q4, q5⟩ := HCd.out.put (b := w.heap.size) (x := (x.1.1 : Int)) (by omega) (by omega) (by omega) zd HI2.out.2.1 HI2.out.1 hown hg5 hat
        have HQ := Lib.hid (And.intro q1 (And.intro q2 (And.intro q3 (And.intro q4 q5))))
        clear q1 q2 q3 q4 q5 hown hg5 hat
        gi_wp2
        obtain ⟨q1, q2, q3, q4, q5⟩ := HQ.out
        obtain ⟨d1, d2, d3, d4, d7⟩ := HB.out
        obtain ⟨hSf, hWns⟩ := HSF.out
        obtain ⟨hP', hfl', hn⟩ := HPL.out
        obtain ⟨hi2, hu, hj, hxs⟩ := HI2.out
        have d1' : Blk wd wr.heap.size 26 #[.int .i64 (B : Int), .slice p.sA p.sn p.sc, .slice p.lA p.ln p.lc, .slice p.rA p.rn p.rc] := d1.kept HG.out (by simp)
        have d2' : Blk wd (wr.heap.size + 1) 29 #[.slice s.closed.A s.closed.n s.closed.c, .slice s.locked.A s.locked.n s.locked.c, .slice s.badLink.A s.badLink.n s.badLink.c, .slice s.on.A s.on.n s.on.c, .slice s.badSource.A s.badSource.n s.badSource.c, .slice s.earthed.A s.earthed.n s.earthed.c, .slice s.badBus.A s.badBus.n s.badBus.c] := d2.kept HG.out (by simp)
        have d3' : Blk wd (wr.heap.size + 1 + 1) 56 #[.slice (some ⟨g, 0, none⟩) B B] := d3.kept HG.out (by simp)
        have d4' : Blk wd (w2.heap.size + 1) 56 #[.slice (some ⟨w2.heap.size, 0, none⟩) B B] := d4.kept HG.out (by simp)
        have hkf : KeepsFrom Wn.heap.size W (w5.setCell ⟨gl, j * 2 + 1, none⟩ (.slice (some ⟨g', 0, none⟩) (xs.length + 1) cap')) := (KeepsFrom.of_grownBy HG.out (fun j e => by cases e)).trans (q2.from _)
        have hks : KpS Sf W (w5.setCell ⟨gl, j * 2 + 1, none⟩ (.slice (some ⟨g', 0, none⟩) (xs.length + 1) cap')) := (KpS.grown HG.out (by simp)).trans (q4 Sf (fun i hi => by
          rw [hSf] at hi
          rcases hi with h | h | h | h | h
          · exact .inl (by omega)
          · exact .inl (by omega)
          · exact .inr ⟨_, _, h ▸ d1', by decide, by decide⟩
          · exact .inr ⟨_, _, h ▸ d2', by decide, by decide⟩
          · exact .inr ⟨_, _, h ▸ d3', by decide, by decide⟩))
        refine ⟨hkf, hks, ⟨⟨⟨⟨q5 _ _ _ (.inr ⟨by decide, by decide⟩) d1', q5 _ _ _ (.inr ⟨by decide, by decide⟩) d2'⟩, q5 _ _ _ (.inr ⟨by decide, by decide⟩) d3'⟩, q5 _ _ _ (.inr ⟨by decide, by decide⟩) d4'⟩, ?_⟩, (d7.grown HG.out d7.size (by simp)).trans q3⟩
        refine ⟨_, _, _, _, hn ▸ q1, hP', by simpa using hfl', ?_⟩
        have h := HIP.out.src (so' := srcsOf (fdVals (pre ++ [x]))) (rootsTo_nodup H B) hj (fun r' h => by rw [fdVals_snoc, srcsOf_snoc, hm, if_neg (fun e => h e.symm), List.append_nil])
        rwa [fdVals_snoc, srcsOf_snoc, hm, if_pos rfl, ← fdVals_snoc, hxs] at h
      case done =>
        rintro D ys W hD hys ⟨⟨⟨⟨⟨d1, d2⟩, d3⟩, d4⟩, ⟨v', vs', fl', P', hC', hP', hfl', hI'⟩⟩, d7⟩ hK
        rw [hys] at hI'
        have hRB := rootsTo_length H B
        have hFl := feedTo_length (B := B) s p.srcs H p.sn
        obtain ⟨l, A, c, rfl, hl1, hl2⟩ := isles_out hC' hI' (by omega) (fun r => by have := busesTo_length H B r; omega) (fun r => by have := srcsOf_length (feedTo (B := B) s p.srcs H p.sn) r; omega)
        have cl := hC'.box.cell
        have hKD := Lib.hid hK
        have HD := Lib.hid (And.intro hl1 (And.intro hl2 d7))
        clear hC' hI' hP' hfl' d1 d2 d3 d4 d7 hl1 hl2 hK mC n1 n2 n3 m4 mH
        gi_wp2
        refine ⟨by simp, .inl ⟨_, _, rfl, run_takeDeferred hKD.out, ?_⟩⟩
        refine ⟨_, results_tmp2 rfl _ _ _, l, A, _, c, rfl, HD.out.2.2.trans (belowK_b (w := w) (Nat.le_refl _) W D _ _ (by omega) hKD.out rfl rfl), ?_, HD.out.2.1⟩
        exact HD.out.1.putObj hKD.out rfl
      case stop =>
        rintro D c pre W _ _ h _
        exact h.elim
end Go.Proofs.YtcnmfblbfpcghaaGreatDoor
