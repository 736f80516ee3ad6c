/- From a reading to what lies in memory: plants and states that come in. -/
import Derived.Test.YtcnmfblbfpcghaaGreatDoorData
import Derived.Test.YtcnmfblbfpcghaaGreatDoorProg
import Derived.OpenShut
import Derived.ProofKit
import Derived.Deep.Slices
import Derived.Test.YtcnmfblbfpcghaaGreatDoorWords
import Derived.Test.YtcnmfblbfpcghaaGreatDoorCards
import Derived.Test.YtcnmfblbfpcghaaGreatDoorTie
import Derived.Deep.DeepHandedRow
import Derived.Lib.LaidTab
import Derived.Stop.LaidErr

set_option linter.unusedSimpArgs false
set_option linter.unusedVariables false
namespace Go.Proofs.YtcnmfblbfpcghaaGreatDoor
open Go.RowKit Go.ChangeShapes Go.WideShapes Go.Deep

instance : Inhabited Src := ⟨⟨0, 0, 0, 0, 0⟩⟩
instance : Inhabited Trp := ⟨⟨0, 0⟩⟩
instance : Inhabited Lnk := ⟨⟨0, 0, 0, 0, 0, none, 0, 0, []⟩⟩
instance : Inhabited Rck := ⟨⟨0, 0, 0, 0⟩⟩

section
variable {H : Type} {enc : TypeId × Value → H} {P : Program} {w : World} {base : Nat} {spare : Nat → Bool} {held : Bool}

theorem take1 {cs : List Value} {o : Nat} {v : Value} (h : (cs.drop o).take 1 = [v]) : cs[o]? = some v := by
  have := congrArg (·[0]?) h
  simpa using this
theorem field_of {t : TypeId} {fs : Array Field} {fuel : Nat} {cs : List Value} {x : DataW H × List MemPlace} (ht : P.underlying t = some (.struct fs)) (h : DataW.trod enc P w base spare held fuel t cs = some x) {i : Nat} {f : Field} (hf : fs[i]? = some f) :
    ∃ n y, DataW.trod enc P w base spare held n f.type ((cs.drop f.offset).take (P.cellsOf f.type)) = some y := by
  obtain ⟨xs, n, _, _, _, hlen, hx⟩ := DataW.trod_struct ht h
  have hi : i < xs.length := by rw [hlen]; exact (Array.getElem?_eq_some_iff.1 hf).1
  exact ⟨n, xs[i], by rw [hx i f hf, List.getElem?_eq_getElem hi]⟩
theorem field_at {t : TypeId} {fs : Array Field} {fuel : Nat} {cs : List Value} {x : DataW H × List MemPlace} (ht : P.underlying t = some (.struct fs)) (h : DataW.trod enc P w base spare held fuel t cs = some x) (i o c : Nat) (q : TypeId) {f : Field} (hf : fs[i]? = some f)
    (hq : f.type = q) (ho : f.offset = o) (hc : P.cellsOf q = c) : ∃ n y, DataW.trod enc P w base spare held n q ((cs.drop o).take c) = some y := by
  obtain ⟨n, y, hy⟩ := field_of ht h hf
  rw [hq, ho, hc] at hy
  exact ⟨n, y, hy⟩
theorem field_int {t : TypeId} {fs : Array Field} {fuel : Nat} {cs : List Value} {x : DataW H × List MemPlace} {k : IntKind} {q : TypeId} (ht : P.underlying t = some (.struct fs)) (h : DataW.trod enc P w base spare held fuel t cs = some x) (i o : Nat) {f : Field} (hf : fs[i]? = some f)
    (hq : f.type = q) (ho : f.offset = o) (hty : P.underlying q = some (.int k)) (hc : P.cellsOf q = 1) : ∃ m, cs[o]? = some (.int k m) := by
  obtain ⟨n, y, hy⟩ := field_of ht h hf
  rw [hq, ho, hc] at hy
  obtain ⟨m, e, _, _⟩ := DataW.trod_int hty hy
  exact ⟨m, take1 e⟩
theorem cell_spot {w : World} {a : Addr} {v : Value} (h : w.cell? a = some v) : a.spot = none ∧ a.block < w.heap.size := by
  unfold World.cell? at h
  split at h
  · rename_i c _ _ hb
    split at h
    · cases h
    · rename_i hs
      exact ⟨by simpa using hs, (Array.getElem?_eq_some_iff.1 hb).1⟩
  · cases h
theorem weightsEach_at {R : Nat} : ∀ (ts : List TypeId) (ds : List (DataW H)) (i : Nat) (t : TypeId) (d : DataW H), ts[i]? = some t → ds[i]? = some d → (DataW.weightsEach P ts ds).all (· ≤ R) = true → (d.weights P t).all (· ≤ R) = true
  | [], _, i, t, d, h, _, _ => by simp at h
  | _ :: _, [], i, t, d, _, h, _ => by simp at h
  | t' :: ts, d' :: ds, 0, t, d, h1, h2, h => by
    simp only [List.getElem?_cons_zero, Option.some.injEq] at h1 h2
    subst h1 h2
    rw [DataW.weightsEach, List.all_append, Bool.and_eq_true] at h
    exact h.1
  | t' :: ts, d' :: ds, i + 1, t, d, h1, h2, h => by
    rw [DataW.weightsEach, List.all_append, Bool.and_eq_true] at h
    exact weightsEach_at ts ds i t d (by simpa using h1) (by simpa using h2) h.2
theorem field_w {t : TypeId} {fs : Array Field} {fuel : Nat} {cs : List Value} {x : DataW H × List MemPlace} (ht : P.underlying t = some (.struct fs)) (h : DataW.trod enc P w base spare held fuel t cs = some x) (i o c : Nat) (q : TypeId) {f : Field} (hf : fs[i]? = some f)
    (hq : f.type = q) (ho : f.offset = o) (hc : P.cellsOf q = c) : ∃ n y, DataW.trod enc P w base spare held n q ((cs.drop o).take c) = some y ∧ ∀ R, (x.1.weights P t).all (· ≤ R) = true → (y.1.weights P q).all (· ≤ R) = true := by
  obtain ⟨xs, n, _, e, _, hlen, hx⟩ := DataW.trod_struct ht h
  have hi : i < xs.length := by rw [hlen]; exact (Array.getElem?_eq_some_iff.1 hf).1
  refine ⟨n, xs[i], by rw [← hq, ← ho, ← hc, ← hq, hx i f hf, List.getElem?_eq_getElem hi], fun R hR => ?_⟩
  rw [e] at hR
  simp only [DataW.weights, ht] at hR
  refine weightsEach_at _ _ i q _ ?_ ?_ hR
  · rw [List.getElem?_map, Array.getElem?_toList, hf, ← hq]; rfl
  · rw [List.getElem?_map, List.getElem?_eq_getElem hi]; rfl
theorem slice_w {t e : TypeId} {fuel : Nat} {A : Option Addr} {n c : Nat} {x : DataW H × List MemPlace} (ht : P.underlying t = some (.slice e)) (h : DataW.trod enc P w base spare held fuel t [.slice A n c] = some x) (R : Nat) (hR : (x.1.weights P t).all (· ≤ R) = true) : n * P.bytesOf e ≤ R := by
  rcases open_slice ht h with ⟨e0, _⟩ | ⟨a, len, cap, m, k, D, Pl, e0, _, hl, hm, hmm, ex, hx⟩
  · simp only [List.cons.injEq, Value.slice.injEq, and_true] at e0
    rw [e0.2.1]
    omega
  · simp only [List.cons.injEq, Value.slice.injEq, and_true] at e0
    obtain ⟨_, rfl, _⟩ := e0
    rw [ex] at hR
    simp only [DataW.weights, ht, List.all_cons, Bool.and_eq_true, decide_eq_true_eq, List.length_map, List.length_range] at hR
    exact Nat.le_trans (Nat.mul_le_mul_right _ (by omega)) hR.1
/-- A SLICE OF ELEMENTS OF SO MANY CELLS, READ. -/
theorem rd_of {α : Type} [Inhabited α] {t e : TypeId} {size fuel : Nat} {cs : List Value} {x : DataW H × List MemPlace} (f : α → List Value) (R : α → Prop) (ht : P.underlying t = some (.slice e)) (hc : P.cellsOf e = size) (hpos : 0 < size)
    (h : DataW.trod enc P w base spare held fuel t cs = some x)
    (hel : ∀ n cs' y, cs'.length = size → DataW.trod enc P w base spare held n e cs' = some y → ∃ z : α, cs' = f z ∧ R z) :
    ∃ (A : Option Addr) (n c : Nat) (l : List α), cs = [.slice A n c] ∧ Rd w w.heap.size size f A n l ∧ n ≤ c ∧ n ≤ maxLen ∧ ∀ z ∈ l, R z := by
  rcases open_slice ht h with ⟨rfl, _⟩ | ⟨a, len, cap, m, k, D, Pl, rfl, _, hl, hm, hmm, _, hx⟩
  · exact ⟨none, 0, 0, [], rfl, Rd.nil _ _ _ _, Nat.le_refl _, Nat.zero_le _, fun _ h => by simp at h⟩
  have hml : len ≤ m := by rw [hmm]; split <;> omega
  obtain ⟨F, hF⟩ := choose_lt (α := α) (n := len) (p := fun i z => w.cells? base (a.add (i * size)) size = some (f z) ∧ R z) (fun i hi => by
    obtain ⟨cs', h1, h2⟩ := hx i (by omega)
    rw [hc] at h1
    obtain ⟨z, rfl, hz⟩ := hel k cs' _ (World.cells?_some h1).2.1 h2
    exact ⟨z, h1, hz⟩)
  have hcell : ∀ i, i < len → ∀ j u, (f (F i))[j]? = some u → w.cell? (a.add (i * size + j)) = some u := fun i hi j u hu => by
    obtain ⟨_, h1, h2⟩ := World.cells?_some (hF i hi).1
    have hj : j < size := by rw [← h1]; exact (List.getElem?_eq_some_iff.1 hu).1
    have := h2 j hj
    rw [add_add] at this
    rw [this, hu]
  refine ⟨some a, len, cap, (List.range len).map F, rfl, ⟨by simp, fun h0 => ?_⟩, hl, by omega, ?_⟩
  · obtain ⟨_, h1, h2⟩ := World.cells?_some (hF 0 h0).1
    have h3 := h2 0 hpos
    rw [List.getElem?_eq_getElem (by omega), add_add] at h3
    have h4 : w.cell? a = some ((f (F 0))[0]'(by omega)) := by simpa [Addr.add] using h3
    obtain ⟨e1, e2⟩ := cell_spot h4
    obtain ⟨b, off, sp⟩ := a
    simp only at e1 e2
    subst e1
    refine ⟨b, off, rfl, e2, fun i z hz j u hu => ?_⟩
    obtain ⟨hi, rfl⟩ : i < len ∧ F i = z := by
      rw [List.getElem?_map] at hz
      obtain ⟨i', h5, h6⟩ := Option.map_eq_some_iff.1 hz
      obtain ⟨h7, h8⟩ := List.getElem?_eq_some_iff.1 h5
      simp only [List.length_range] at h7
      simp only [List.getElem_range] at h8
      subst h8
      exact ⟨h7, h6⟩
    have := hcell i hi j u hu
    unfold Addr.add at this
    split at this
    · rename_i h9
      rw [show off + i * size + j = off by omega]
      exact this
    · rw [show off + i * size + j = off + (i * size + j) by omega]
      exact this
  · intro z hz
    obtain ⟨i, hi, rfl⟩ := List.mem_map.1 hz
    exact (hF i (List.mem_range.1 hi)).2
theorem trip_el {n : Nat} {cs : List Value} {y : DataW H × List MemPlace} (hl : cs.length = 2) (h : DataW.trod enc Tryz.prog w base spare held n 112 cs = some y) : ∃ z : Trp, cs = z.enc ∧ True := by
  obtain ⟨m0, e0⟩ := field_int Tryz.underlying112 h 0 0 rfl rfl rfl Tryz.underlying3 (by kernel_rfl)
  obtain ⟨m1, e1⟩ := field_int Tryz.underlying112 h 1 1 rfl rfl rfl Tryz.underlying3 (by kernel_rfl)
  match cs, hl, e0, e1 with
  | [a, b], _, e0, e1 =>
    simp only [List.getElem?_cons_zero, List.getElem?_cons_succ, Option.some.injEq] at e0 e1
    exact ⟨⟨m0, m1⟩, by rw [e0, e1]; rfl, trivial⟩
theorem source_el {n : Nat} {cs : List Value} {y : DataW H × List MemPlace} (hl : cs.length = 5) (h : DataW.trod enc Tryz.prog w base spare held n 110 cs = some y) : ∃ z : Src, cs = z.enc ∧ True := by
  obtain ⟨m0, e0⟩ := field_int Tryz.underlying110 h 0 0 rfl rfl rfl Tryz.underlying3 (by kernel_rfl)
  obtain ⟨m1, e1⟩ := field_int Tryz.underlying110 h 1 1 rfl rfl rfl Tryz.underlying108 (by kernel_rfl)
  obtain ⟨m2, e2⟩ := field_int Tryz.underlying110 h 2 2 rfl rfl rfl Tryz.underlying3 (by kernel_rfl)
  obtain ⟨m3, e3⟩ := field_int Tryz.underlying110 h 3 3 rfl rfl rfl Tryz.underlying3 (by kernel_rfl)
  obtain ⟨m4, e4⟩ := field_int Tryz.underlying110 h 4 4 rfl rfl rfl Tryz.underlying3 (by kernel_rfl)
  match cs, hl, e0, e1, e2, e3, e4 with
  | [a, b, c, d, e], _, e0, e1, e2, e3, e4 =>
    simp only [List.getElem?_cons_zero, List.getElem?_cons_succ, Option.some.injEq] at e0 e1 e2 e3 e4
    exact ⟨⟨m0, m1, m2, m3, m4⟩, by rw [e0, e1, e2, e3, e4]; rfl, trivial⟩
set_option maxRecDepth 100000 in
theorem rack_el {n : Nat} {cs : List Value} {y : DataW H × List MemPlace} (hl : cs.length = 4) (h : DataW.trod enc Tryz.prog w base spare held n 115 cs = some y) : ∃ z : Rck, cs = z.enc ∧ True := by
  obtain ⟨k, y', hy⟩ := field_at Tryz.underlying115 h 0 0 2 86 rfl rfl rfl (by kernel_rfl)
  obtain ⟨xs, m, _, _, _, hlen, hx⟩ := DataW.trod_array (n := 2) (e := 3) Tryz.underlying86 hy
  have c3 : Tryz.prog.cellsOf 3 = 1 := by kernel_rfl
  have a0 := hx 0 (by omega)
  have a1 := hx 1 (by omega)
  rw [List.getElem?_eq_getElem (by omega), c3] at a0 a1
  obtain ⟨m0, e0, _, _⟩ := DataW.trod_int Tryz.underlying3 a0
  obtain ⟨m1, e1, _, _⟩ := DataW.trod_int Tryz.underlying3 a1
  replace e0 := take1 e0
  replace e1 := take1 e1
  obtain ⟨m2, e2⟩ := field_int Tryz.underlying115 h 1 2 rfl rfl rfl Tryz.underlying3 (by kernel_rfl)
  obtain ⟨m3, e3⟩ := field_int Tryz.underlying115 h 2 3 rfl rfl rfl Tryz.underlying3 (by kernel_rfl)
  match cs, hl, e0, e1, e2, e3 with
  | [a, b, c, d], _, e0, e1, e2, e3 =>
    simp only [List.drop_zero, List.take_succ_cons, List.take_zero, List.getElem?_cons_zero, List.getElem?_cons_succ, Option.some.injEq, Nat.zero_mul, Nat.one_mul] at e0 e1 e2 e3
    exact ⟨⟨m0, m1, m2, m3⟩, by rw [e0, e1, e2, e3]; rfl, trivial⟩
theorem link_el {n : Nat} {cs : List Value} {y : DataW H × List MemPlace} (hl : cs.length = 6) (h : DataW.trod enc Tryz.prog w base spare held n 79 cs = some y) :
    ∃ z : Lnk, cs = z.enc ∧ (Rd w w.heap.size 2 Trp.enc z.tA z.tn z.trip ∧ z.tn ≤ maxLen) := by
  obtain ⟨m0, e0⟩ := field_int Tryz.underlying79 h 0 0 rfl rfl rfl Tryz.underlying3 (by kernel_rfl)
  obtain ⟨m1, e1⟩ := field_int Tryz.underlying79 h 1 1 rfl rfl rfl Tryz.underlying3 (by kernel_rfl)
  obtain ⟨m2, e2⟩ := field_int Tryz.underlying79 h 2 2 rfl rfl rfl Tryz.underlying76 (by kernel_rfl)
  obtain ⟨m3, e3⟩ := field_int Tryz.underlying79 h 3 3 rfl rfl rfl Tryz.underlying3 (by kernel_rfl)
  obtain ⟨m4, e4⟩ := field_int Tryz.underlying79 h 4 4 rfl rfl rfl Tryz.underlying3 (by kernel_rfl)
  obtain ⟨k, y', hy⟩ := field_at Tryz.underlying79 h 5 5 1 77 rfl rfl rfl (by kernel_rfl)
  obtain ⟨A, tn, tc, l, e5, hr, _, hm, _⟩ := rd_of (α := Trp) (size := 2) Trp.enc (fun _ => True) (e := 112) Tryz.underlying77 (by kernel_rfl) (by omega) hy (fun n cs' y h1 h2 => trip_el h1 h2)
  replace e5 := take1 e5
  match cs, hl, e0, e1, e2, e3, e4, e5 with
  | [a, b, c, d, e, g], _, e0, e1, e2, e3, e4, e5 =>
    simp only [List.getElem?_cons_zero, List.getElem?_cons_succ, Option.some.injEq] at e0 e1 e2 e3 e4 e5
    exact ⟨⟨m0, m1, m2, m3, m4, A, tn, tc, l⟩, by rw [e0, e1, e2, e3, e4, e5]; rfl, hr, hm⟩
theorem array_list4 {cs : Array Value} (h : cs.size = 4) : ∃ a b c d, cs = #[a, b, c, d] := by
  match cs, h with
  | ⟨[a, b, c, d]⟩, _ => exact ⟨a, b, c, d, rfl⟩
theorem array_list7 {cs : Array Value} (h : cs.size = 7) : ∃ a b c d e f g, cs = #[a, b, c, d, e, f, g] := by
  match cs, h with
  | ⟨[a, b, c, d, e, f, g]⟩, _ => exact ⟨a, b, c, d, e, f, g, rfl⟩
set_option maxRecDepth 100000 in
/-- A PLANT THAT COMES IN. -/
theorem plt_of {r : Reach} {b0 : Nat} {v : Value} {d : DataW H} {ps : List MemPlace} (hv : Value.okWide Tryz.prog w r b0 26 v) (h : DataW.Trod enc Tryz.prog w base spare held 26 v d ps) :
    ∃ p : Plt, v = p.val ∧ PltIn w w.heap.size p := by
  obtain ⟨cs, rfl, hsz⟩ := okWide_struct Tryz.underlying26 hv
  obtain ⟨fuel, hf⟩ := h
  obtain ⟨a, b, c, d, rfl⟩ := array_list4 (hsz.trans (by kernel_rfl))
  obtain ⟨m0, e0⟩ := field_int Tryz.underlying26 hf 0 0 rfl rfl rfl Tryz.underlying3 (by kernel_rfl)
  obtain ⟨k1, y1, h1⟩ := field_at Tryz.underlying26 hf 1 1 1 22 rfl rfl rfl (by kernel_rfl)
  obtain ⟨k2, y2, h2⟩ := field_at Tryz.underlying26 hf 2 2 1 23 rfl rfl rfl (by kernel_rfl)
  obtain ⟨k3, y3, h3⟩ := field_at Tryz.underlying26 hf 3 3 1 24 rfl rfl rfl (by kernel_rfl)
  obtain ⟨A1, n1, c1, l1, e1, r1, _, q1, _⟩ := rd_of (α := Src) (size := 5) Src.enc (fun _ => True) (e := 110) Tryz.underlying22 (by kernel_rfl) (by omega) h1 (fun n cs' y h1 h2 => source_el h1 h2)
  obtain ⟨A2, n2, c2, l2, e2, r2, _, q2, t2⟩ := rd_of (α := Lnk) (size := 6) Lnk.enc (fun z => Rd w w.heap.size 2 Trp.enc z.tA z.tn z.trip ∧ z.tn ≤ maxLen) (e := 79) Tryz.underlying23 (by kernel_rfl) (by omega) h2 (fun n cs' y h1 h2 => link_el h1 h2)
  obtain ⟨A3, n3, c3, l3, e3, r3, _, q3, _⟩ := rd_of (α := Rck) (size := 4) Rck.enc (fun _ => True) (e := 115) Tryz.underlying24 (by kernel_rfl) (by omega) h3 (fun n cs' y h1 h2 => rack_el h1 h2)
  replace e1 := take1 e1
  replace e2 := take1 e2
  replace e3 := take1 e3
  simp only [Value.cells, List.getElem?_cons_zero, List.getElem?_cons_succ, Option.some.injEq] at e0 e1 e2 e3
  subst e0 e1 e2 e3
  have hmax : maxLen ≤ 9223372036854775807 := by simp only [maxLen]; omega
  exact ⟨⟨m0, A1, n1, c1, A2, n2, c2, A3, n3, c3, l1, l2, l3⟩, rfl, ⟨r1, r2, r3, fun x hx => (t2 x hx).1, Nat.le_trans q1 hmax, Nat.le_trans q2 hmax, Nat.le_trans q3 hmax, fun x hx => Nat.le_trans (t2 x hx).2 hmax⟩⟩
set_option maxRecDepth 100000 in
theorem bs_field {fuel : Nat} {cs : List Value} {x : DataW H × List MemPlace} (h : DataW.trod enc Tryz.prog w base spare held fuel 29 cs = some x) (i : Nat) {fs : Array Field} (hs : Tryz.prog.underlying 29 = some (.struct fs)) {f : Field} (hf : fs[i]? = some f) (hq : f.type = 27) (ho : f.offset = i) :
    ∃ b : Bs, cs[i]? = some b.val ∧ BsIn w w.heap.size b ∧ ∀ R, (x.1.weights Tryz.prog 29).all (· ≤ R) = true → b.n ≤ R := by
  obtain ⟨k, y, hy, hw⟩ := field_w hs h i i 1 27 hf hq ho (by kernel_rfl)
  obtain ⟨A, n, c, l, e, r, _, q, _⟩ := rd_of (α := Bool) (size := 1) encB (fun _ => True) (e := 4) Tryz.underlying27 (by kernel_rfl) (by omega) hy (fun n cs' y h1 h2 => by
    obtain ⟨b, e, _⟩ := DataW.trod_bool Tryz.underlying4 h2
    exact ⟨b, e, trivial⟩)
  have hmax : maxLen ≤ 9223372036854775807 := by simp only [maxLen]; omega
  exact ⟨⟨A, n, c, l⟩, take1 e, ⟨r, Nat.le_trans q hmax⟩, fun R hR => by
    have h1 := hw R hR
    rw [e] at hy
    have h2 := slice_w Tryz.underlying27 hy R h1
    rwa [show Tryz.prog.bytesOf 4 = 1 by kernel_rfl, Nat.mul_one] at h2⟩
set_option maxRecDepth 100000 in
/-- A STATE THAT COMES IN. -/
theorem stt_fit_of {r : Reach} {b0 : Nat} {v : Value} {d : DataW H} {ps : List MemPlace} (hv : Value.okWide Tryz.prog w r b0 29 v) (h : DataW.Trod enc Tryz.prog w base spare held 29 v d ps) :
    ∃ s : Stt, v = s.val ∧ SttIn w w.heap.size s ∧ ∀ R, (d.weights Tryz.prog 29).all (· ≤ R) = true → ∀ b ∈ [s.closed, s.locked, s.badLink, s.on, s.badSource, s.earthed, s.badBus], b.n ≤ R := by
  obtain ⟨cs, rfl, hsz⟩ := okWide_struct Tryz.underlying29 hv
  obtain ⟨fuel, hf⟩ := h
  obtain ⟨a0, a1, a2, a3, a4, a5, a6, rfl⟩ := array_list7 (hsz.trans (by kernel_rfl))
  obtain ⟨b0, e0, r0, f0⟩ := bs_field hf 0 Tryz.underlying29 rfl rfl rfl
  obtain ⟨b1, e1, r1, f1⟩ := bs_field hf 1 Tryz.underlying29 rfl rfl rfl
  obtain ⟨b2, e2, r2, f2⟩ := bs_field hf 2 Tryz.underlying29 rfl rfl rfl
  obtain ⟨b3, e3, r3, f3⟩ := bs_field hf 3 Tryz.underlying29 rfl rfl rfl
  obtain ⟨b4, e4, r4, f4⟩ := bs_field hf 4 Tryz.underlying29 rfl rfl rfl
  obtain ⟨b5, e5, r5, f5⟩ := bs_field hf 5 Tryz.underlying29 rfl rfl rfl
  obtain ⟨b6, e6, r6, f6⟩ := bs_field hf 6 Tryz.underlying29 rfl rfl rfl
  simp only [Value.cells, List.getElem?_cons_zero, List.getElem?_cons_succ, Option.some.injEq] at e0 e1 e2 e3 e4 e5 e6
  subst e0 e1 e2 e3 e4 e5 e6
  exact ⟨⟨b0, b1, b2, b3, b4, b5, b6⟩, rfl, ⟨r0, r1, r2, r3, r4, r5, r6⟩, fun R hR b hb => by
    simp only [List.mem_cons, List.mem_nil_iff, or_false] at hb
    rcases hb with rfl | rfl | rfl | rfl | rfl | rfl | rfl
    · exact f0 R hR
    · exact f1 R hR
    · exact f2 R hR
    · exact f3 R hR
    · exact f4 R hR
    · exact f5 R hR
    · exact f6 R hR⟩
set_option maxRecDepth 100000 in
theorem stt_of {r : Reach} {b0 : Nat} {v : Value} {d : DataW H} {ps : List MemPlace} (hv : Value.okWide Tryz.prog w r b0 29 v) (h : DataW.Trod enc Tryz.prog w base spare held 29 v d ps) :
    ∃ s : Stt, v = s.val ∧ SttIn w w.heap.size s :=
  let ⟨s, e, h, _⟩ := stt_fit_of hv h
  ⟨s, e, h⟩
set_option maxRecDepth 100000 in
/-- TWO NUMBERS THAT COME IN. -/
theorem part_of {r : Reach} {b0 : Nat} {v : Value} {d : DataW H} {ps : List MemPlace} (hv : Value.okWide Tryz.prog w r b0 32 v) (h : DataW.Trod enc Tryz.prog w base spare held 32 v d ps) :
    ∃ K i : Int, v = .agg #[.int .i64 K, .int .i64 i] := by
  obtain ⟨cs, rfl, hsz⟩ := okWide_struct Tryz.underlying32 hv
  obtain ⟨fuel, hf⟩ := h
  obtain ⟨m0, e0⟩ := field_int Tryz.underlying32 hf 0 0 rfl rfl rfl Tryz.underlying30 (by kernel_rfl)
  obtain ⟨m1, e1⟩ := field_int Tryz.underlying32 hf 1 1 rfl rfl rfl Tryz.underlying3 (by kernel_rfl)
  have hsz2 : cs.size = 2 := hsz.trans (by kernel_rfl)
  match cs, hsz2, e0, e1 with
  | ⟨[a, b]⟩, _, e0, e1 =>
    simp only [Value.cells, List.getElem?_cons_zero, List.getElem?_cons_succ, Option.some.injEq] at e0 e1
    exact ⟨m0, m1, by rw [e0, e1]⟩
end
end Go.Proofs.YtcnmfblbfpcghaaGreatDoor

/- What each card of a plant and a state needs: the tables, the readings carried over, the witness. -/
namespace Go.Proofs.YtcnmfblbfpcghaaGreatDoor
open Go.ChangeShapes Go.WideShapes Go.ChangeAt Go.RowKit

theorem ownKnobs : ownKnob Tryz.prog.godebug = none := by kernel_rfl
theorem laidOuts : laidOutB Tryz.prog = true := by kernel_rfl
theorem plant_reads : Tryz.prog.readableRec 26 = true ∧ 26 < Tryz.prog.types.size := ⟨by kernel_rfl, of_decide_eq_true (by kernel_rfl)⟩
theorem state_reads : Tryz.prog.readableRec 29 = true ∧ 29 < Tryz.prog.types.size := ⟨by kernel_rfl, of_decide_eq_true (by kernel_rfl)⟩
theorem part_reads : Tryz.prog.readableRec 32 = true ∧ 32 < Tryz.prog.types.size := ⟨by kernel_rfl, of_decide_eq_true (by kernel_rfl)⟩
theorem stays {H : Type} {enc : TypeId × Value → H} {t : TypeId} (hr : Tryz.prog.readableRec t = true ∧ t < Tryz.prog.types.size) {W W' : World} {v : Value} {d : DataW H} {ps : List MemPlace} {sp : Nat → Bool}
    (h : DataW.Trod enc Tryz.prog W 0 (fun _ => true) true t v d ps) (hb : Below W.heap.size W W') (hlt : ∀ x ∈ ps, x.block < W.heap.size) (hsp : ∀ x ∈ ps, sp x.block = true) :
    DataW.Trod enc Tryz.prog W' 0 sp true t v d ps :=
  WideElems.Trod_stays laidOuts hr.1 hr.2 h (fun x hx => hb.same (hlt x hx)) hsp
/-- BEHIND THE CALL: what lay below is as it was, the arguments read as they did. -/
theorem post_below {H : Type} {enc : TypeId × Value → H} {P : Program} {f : Func} {s : ChangeSpec} {W W' : World} {args : Array Value} {v : Value} {ds gs : List (DataW H)} {before pa pv : List MemPlace}
    (hW : DataW.Whole enc P f.params.toList s.vars false W args.toList ds gs before)
    (hres : ∀ (b : Nat) (sp : Nat → Bool) (hd : Bool), DataW.TrodAll enc P W' b sp hd f.resultTypes.toList (v.resultList f.resultTypes.size) (s.fn H (ds ++ gs)).results [])
    (hargs : ∀ sp : Nat → Bool, (∀ p ∈ before, sp p.block = true) → DataW.TrodAll enc P W' 0 sp true f.params.toList args.toList (s.fn H (ds ++ gs)).args pa)
    (hvars : ∀ sp : Nat → Bool, (∀ p ∈ before, sp p.block = true) → DataW.TrodVars enc P W' sp s.vars (s.fn H (ds ++ gs)).vars pv)
    (hps : before = pa ++ pv) (hb : Below W.heap.size W W')
    (hok : ∀ (j : Nat) (t : TypeId) (r : Value), f.resultTypes[j]? = some t → (v.resultList f.resultTypes.size)[j]? = some r → Value.okWide P W' .any 0 t r) :
    s.post enc P f false true false false W args v W' := by
  have hold : ∀ p ∈ before, (fun b => decide (b < W.heap.size)) p.block = true := fun p hp => by simpa using hW.lt p hp
  refine ⟨ds, gs, before, [], pa, pv, hW, hres _ _ _, hargs _ hold, hvars _ hold, hb.frame _, fun _ => ?_⟩
  have hlt := hW.lt
  obtain ⟨_, _, _, _, _, hz, hn⟩ := hW
  refine ⟨hok, _, _, ([] ++ pa) ++ pv, ⟨[] ++ pa, pv, trodAll_append (hargs _ (fun _ _ => rfl)) (hres _ _ _), hvars _ (fun _ _ => rfl), rfl, ?_, ?_⟩, ?_⟩
  · intro b off hp
    have hp' : MemPlace.cell b off ∈ before := by rw [hps]; simpa using hp
    rw [hb.frozen (p := ⟨b, off, none⟩) (hlt _ hp')]
    exact hz b off hp'
  · intro ha
    have := hn ha
    rw [hps] at this
    simpa using this
  · intro p hp _
    rw [hps]
    simpa using hp
/-- The program's text laid the powers of ten. -/
def laids : List (String × DataW Unit) := [("math/bits.deBruijn32tab", Rows.laid_math_bits_deBruijn32tab), ("math/bits.deBruijn64tab", Rows.laid_math_bits_deBruijn64tab), ("internal/strconv.uint64pow10", Rows.laid_internal_strconv_uint64pow10)]
theorem pow_of {W : World} (h : laidMetH Tryz.prog laids W) : Pow W := by
  have h1 : laidMet Tryz.prog [("internal/strconv.uint64pow10", Lib.tabData .u64 Lib.pow10Tab)] W := laidMet.tail (laidMet.tail (show laidMet _ _ _ from h))
  have h2 := Lib.tabIs_of_head (g := 1) (by kernel_rfl) (by kernel_rfl) (ht := Tryz.underlying225) (he := Tryz.underlying212) (by kernel_rfl) (by kernel_rfl) h1
  unfold Lib.TabIs World.var? at h2
  rw [show Tryz.prog.globalNamed "internal/strconv.uint64pow10" = some 1 by kernel_rfl] at h2
  simp only [Option.bind_some] at h2
  split at h2
  · rename_i cs t fz hh
    simp only [Option.some.injEq] at h2
    subst h2
    exact ⟨t, fz, hh⟩
  · cases h2
def tab32 : List Int := [0, 1, 28, 2, 29, 14, 24, 3, 30, 22, 20, 15, 25, 17, 4, 8, 31, 27, 13, 23, 21, 19, 16, 7, 26, 12, 18, 6, 11, 5, 10, 9]
def tab64 : List Int := [0, 1, 56, 2, 57, 49, 28, 3, 61, 58, 42, 50, 38, 29, 17, 4, 62, 47, 59, 36, 45, 43, 51, 22, 53, 39, 33, 30, 24, 18, 12, 5, 63, 55, 48, 27, 60, 41, 37, 16, 46, 35, 44, 21, 52, 32, 23, 11, 54, 26, 40, 15, 34, 20, 31, 10, 25, 14, 19, 9, 13, 8, 7, 6]
def tabPow : List Int := [1, 10, 100, 1000, 10000, 100000, 1000000, 10000000, 100000000, 1000000000, 10000000000, 100000000000, 1000000000000, 10000000000000, 100000000000000, 1000000000000000, 10000000000000000, 100000000000000000, 1000000000000000000, 10000000000000000000]
def lay (l : List Value) : Obj → Obj
  | .cells _ t frozen => .cells l.toArray t frozen
  | o => o
/-- A WORLD FOR THE WITNESS: the settled one, the tables holding what the text lays. -/
noncomputable def laidWorld (os : Os) : World :=
  { World.holding Tryz.prog os ⟨#[], #[], []⟩ with heap := (((World.holding Tryz.prog os ⟨#[], #[], []⟩).heap.modify 1 (lay (tabPow.map fun z => Value.int .u64 z))).modify 2 (lay (tab32.map fun z => Value.int .u8 z))).modify 3 (lay (tab64.map fun z => Value.int .u8 z)) }
def nilBs : Value := .slice none 0 0
def plant0 : Value := .agg #[.int .i64 0, .slice none 0 0, .slice none 0 0, .slice none 0 0]
def state0 : Value := .agg #[.slice none 0 0, .slice none 0 0, .slice none 0 0, .slice none 0 0, .slice none 0 0, .slice none 0 0, .slice none 0 0]
end Go.Proofs.YtcnmfblbfpcghaaGreatDoor
