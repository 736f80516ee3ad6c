/- bank: earlier, worst. -/
import Derived.Test.YtnpkcipeacogcaaBkN
import Derived.Test.YtnpkcipeacogcaaFreeB

set_option linter.unusedSimpArgs false
set_option linter.unusedVariables false
namespace Go.Proofs.Ytnpkcipeacogcaa
open Go.RowKit Go.Shelf
attribute [local go_sem] Oper.semAt_some

/-- A dark second is earlier than another one. -/
def earlierP (a b : Int) : Prop := a ≠ -1 ∧ (b = -1 ∨ a < b)
instance (a b : Int) : Decidable (earlierP a b) := by unfold earlierP; infer_instance
theorem earlier_any (a b : Int) (w : World) (ha0 : -1 ≤ a) (ha1 : a ≤ 1000000) (hb0 : -1 ≤ b) (hb1 : b ≤ 1000000) : Calls Try.prog 49 #[.int .i64 a, .int .i64 b] w fun e w' => e = .returned (.bool (decide (earlierP a b))) ∧ w' = w := by
  by_cases h1 : a = -1
  · have e : decide (earlierP a b) = false := decide_eq_false (fun h => h.1 h1)
    have d1 : (a == -1) = true := by simp [h1]
    have d2 : (a != -1) = false := by simp [h1]
    rw [e]
    clear e h1
    go_enter Try.func49, Try.ntmps49
    go_wp2
    go_ret
    exact ⟨rfl, rfl⟩
  · have d1 : (a == -1) = false := by simp [h1]
    have d2 : (a != -1) = true := by simp [h1]
    by_cases h2 : b = -1
    · have e : decide (earlierP a b) = true := decide_eq_true ⟨h1, Or.inl h2⟩
      have d3 : (b == -1) = true := by simp [h2]
      rw [e]
      clear e h1 h2
      go_enter Try.func49, Try.ntmps49
      go_wp2
      go_ret
      exact ⟨rfl, rfl⟩
    · have d3 : (b == -1) = false := by simp [h2]
      by_cases h3 : a < b
      · have e : decide (earlierP a b) = true := decide_eq_true ⟨h1, Or.inr h3⟩
        have d4 : decide (a < b) = true := decide_eq_true h3
        rw [e]
        clear e h1 h2
        go_enter Try.func49, Try.ntmps49
        go_wp2
        go_ret
        exact ⟨rfl, rfl⟩
      · have e : decide (earlierP a b) = false := decide_eq_false (fun h => h.2.elim h2 h3)
        have d4 : decide (a < b) = false := decide_eq_false h3
        rw [e]
        clear e h1 h2
        go_enter Try.func49, Try.ntmps49
        go_wp2
        go_ret
        exact ⟨rfl, rfl⟩
theorem serveP_len (p : Ply) (x : Int) : (serveP p x).cs.length = p.cs.length ∧ (serveP p x).es.length = p.es.length := by
  refine ⟨?_, ?_⟩
  · show (chargeL _ _).1.length = _
    rw [chargeL_length, giveL_length]
  · show (chargeL _ _).2.length = _
    rw [charge_es_length, drawL_length]
theorem goP_len (t : Int) (p : Ply) (x : Int) : (goP t p x).cs.length = p.cs.length ∧ (goP t p x).es.length = p.es.length := by
  have h := serveP_len (readyP t p) x
  exact ⟨h.1, h.2.trans (by simp [readyP, readyL])⟩
theorem runL_len : ∀ (l : List Int) (t : Int) (p : Ply), (runL t p l).cs.length = p.cs.length ∧ (runL t p l).es.length = p.es.length := by
  intro l
  induction l with
  | nil => intro t p; exact ⟨rfl, rfl⟩
  | cons x l ih =>
    intro t p
    unfold runL
    split
    · have h := goP_len t p x
      exact ⟨(ih _ _).1.trans h.1, (ih _ _).2.trans h.2⟩
    · exact ⟨rfl, by simp [darkP, readyP, readyL]⟩
theorem runL_dark_bd : ∀ (l : List Int) (t : Int) (p : Ply), 0 ≤ t → p.dark = -1 → -1 ≤ (runL t p l).dark ∧ (runL t p l).dark ≤ t + l.length := by
  intro l
  induction l with
  | nil => intro t p ht hp; simp only [runL, hp, List.length_nil]; omega
  | cons x l ih =>
    intro t p ht hp
    unfold runL
    simp only [List.length_cons]
    split
    · have h := ih (t + 1) (goP t p x) (by omega) hp
      omega
    · show -1 ≤ t ∧ t ≤ _
      omega
def runOf (bs : List Bat) (gs : List Gen) (l : List Spn) (fs : List Int) : Ply := runL 0 (ply0 bs gs fs) (secsL l)
theorem runOf_len {bs : List Bat} {gs : List Gen} {l : List Spn} {fs : List Int} (h : Fl gs fs) : (runOf bs gs l fs).cs.length = bs.length ∧ (runOf bs gs l fs).es.length = gs.length := by
  have h1 := runL_len (secsL l) 0 (ply0 bs gs fs)
  have h2 := h.length
  refine ⟨h1.1.trans (by simp [ply0]), h1.2.trans ?_⟩
  show (engs0 gs fs).length = _
  rw [engs0, List.length_zipWith]
  omega
theorem runOf_dark (bs : List Bat) (gs : List Gen) (l : List Spn) (fs : List Int) : -1 ≤ (runOf bs gs l fs).dark ∧ (runOf bs gs l fs).dark ≤ (secsL l).length := by
  have := runL_dark_bd (secsL l) 0 (ply0 bs gs fs) (Int.le_refl _) rfl
  unfold runOf
  omega
theorem row_rdI {W : World} {n₀ n : Nat} {A : Option Addr} {c : Nat} {xs : List Int} (h : W.ownsRow n₀ 3 1 (.slice A n c) n (xs.flatMap encI)) : Rd W W.heap.size 1 encI A n xs := by
  have hl : xs.length = n := by have := h.1; rw [encI_flat, List.length_map] at this; omega
  refine ⟨hl, fun hn => ?_⟩
  rcases h.2 with ⟨_, h0⟩ | ⟨g, cap, cur, e, _, hgb, _, _, _, ht⟩
  · omega
  · cases e
    refine ⟨g, 0, rfl, (Array.getElem?_eq_some_iff.1 hgb).1, fun i x hx j u hu => ?_⟩
    match j, hu with
    | 0, hu =>
      simp only [encI, List.getElem?_cons_zero, Option.some.injEq] at hu
      subst hu
      have hi := (List.getElem?_eq_some_iff.1 hx).1
      have h2 := h.cellAt i (by omega)
      rw [Nat.zero_add, Nat.mul_one, Nat.add_zero, h2, encI_flat]
      simp [hx]
/-- What worst keeps while it looks at lists: the list of fails that is worst so far, and what came of it. -/
structure WoS (w : World) (vb : Array Value) (lsl : Value) (lb sb gN n nc ne : Nat) (run : List Int → Ply) (A : Option Addr) (c : Nat) (fs : List Int) (g1 g2 : Nat) (W : World) : Prop where
  low : Below w.heap.size w W
  bb : Blk W w.heap.size 26 vb
  lo : Blk W (w.heap.size + 1) 28 #[lsl]
  rs : Blk W (w.heap.size + 1 + 1) 40 #[.int .i64 0, .slice none 0 0, .slice none 0 0, .int .i64 0]
  li : Blk W lb 30 #[.slice A n c]
  row : W.ownsRow w.heap.size 3 1 (.slice A n c) n (fs.flatMap encI)
  st : Blk W sb 40 #[.int .i64 (run fs).dark, .slice (some ⟨g1, 0, none⟩) nc nc, .slice (some ⟨g2, 0, none⟩) ne ne, .int .i64 (run fs).served]
  re : ResIn w.heap.size W g1 g2 (run fs)
  n1 : (Value.slice A n c).ownBlock ≠ some gN
  n2 : g1 ≠ gN
  n3 : g2 ≠ gN
theorem WoS.kept {w : World} {vb : Array Value} {lsl : Value} {lb sb gN n nc ne : Nat} {run : List Int → Ply} {A : Option Addr} {c : Nat} {fs : List Int} {g1 g2 : Nat} {W W' : World} {row : Option Nat} (h : WoS w vb lsl lb sb gN n nc ne run A c fs g1 g2 W) (hg : W.grownBy W' row)
    (h1 : w.heap.size + 2 < gN) (h2 : lb ≠ gN) (h3 : sb ≠ gN) (hr : ∀ r, row = some r → w.heap.size ≤ r ∧ (r = gN ∨ ∀ T cs, ¬ Blk W r T cs)) : WoS w vb lsl lb sb gN n nc ne run A c fs g1 g2 W' := by
  have k : ∀ {b T cs}, Blk W b T cs → b ≠ gN → Blk W' b T cs := fun hb hn => hb.kept hg (fun e => by
    obtain ⟨_, h | h⟩ := hr _ e.symm
    · exact hn h
    · exact h _ _ hb)
  refine ⟨h.low.grown hg h.low.size (fun r e => (hr r e).1), k h.bb (by omega), k h.lo (by omega), k h.rs (by omega), k h.li h2, h.row.kept hg ?_, k h.st h3, ⟨h.re.b1, h.re.b2, k h.re.e h.n2, k h.re.b h.n3⟩, h.n1, h.n2, h.n3⟩
  rcases h.row.2 with ⟨e, _⟩ | ⟨g, cap, cur, e, _, hgb, _⟩
  · left; rw [e]; rfl
  · right
    intro er
    rw [e] at er
    obtain ⟨_, h4 | h4⟩ := hr g er.symm
    · exact h.n1 (by rw [e, ← h4]; rfl)
    · exact h4 _ _ hgb
theorem WoS.next {w : World} {vb : Array Value} {lsl : Value} {lb sb gN n nc ne : Nat} {run : List Int → Ply} {A : Option Addr} {c : Nat} {fs : List Int} {g1 g2 : Nat} {W W' : World} (h : WoS w vb lsl lb sb gN n nc ne run A c fs g1 g2 W) (hb : Below W.heap.size W W') (h1 : w.heap.size + 2 < gN) (h2 : lb ≠ gN) (h3 : sb ≠ gN) : WoS w vb lsl lb sb gN n nc ne run A c fs g1 g2 W' :=
  h.kept (grown_of_below hb) h1 h2 h3 (fun r e => by cases e)
def WoI (w : World) (vb : Array Value) (lsl : Value) (lb sb gN n nc ne : Nat) (run : List Int → Ply) (gs : List Gen) (b : Int) (pre : List Yl) (W : World) : Prop :=
  ∃ A c fs g1 g2, WoS w vb lsl lb sb gN n nc ne run A c fs g1 g2 W ∧ Fl gs fs ∧ sumI fs ≤ b ∧ ∀ y ∈ pre, ¬ earlierP (run y.l).dark (run fs).dark
def WoX (w : World) (vb : Array Value) (lsl : Value) (lb sb gN n nc ne : Nat) (run : List Int → Ply) (gs : List Gen) (b : Int) (cd : Code) (pre : List Yl) (W : World) : Prop :=
  cd = .exit 0 ∧ ∃ A c fs g1 g2, WoS w vb lsl lb sb gN n nc ne run A c fs g1 g2 W ∧ Fl gs fs ∧ sumI fs ≤ b ∧ (run fs).dark = 0
section
variable {w : World} {vb : Array Value} {lsl : Value} {lb sb gN n nc ne : Nat} {run : List Int → Ply} {gs : List Gen} {b : Int} {B : Nat}
theorem notcells {W : World} {r : Nat} {o : Obj} (ho : W.heap[r]? = some o) (hc : o.isCells = false) : ∀ T cs, ¬ Blk W r T cs := fun T cs hb => by
  have e := (show W.heap[r]? = _ from hb).symm.trans ho
  cases e
  simp [Obj.isCells] at hc
theorem WoI.own (h1 : w.heap.size + 2 < gN) (h2 : lb ≠ gN) (h3 : sb ≠ gN) (hB : w.heap.size ≤ B) : OwnFrom B (WoI w vb lsl lb sb gN n nc ne run gs b) := by
  rintro pre W W' row ⟨A, c, fs, g1, g2, h, hr⟩ hg hrow
  exact ⟨A, c, fs, g1, g2, h.kept hg h1 h2 h3 (fun r e => by obtain ⟨h4, o, ho, hc⟩ := hrow r e; exact ⟨by omega, Or.inr (notcells ho hc)⟩), hr⟩
theorem WoI.abides (h1 : w.heap.size + 2 < gN) (h2 : lb ≠ gN) (h3 : sb ≠ gN) : AbidesG gN (WoI w vb lsl lb sb gN n nc ne run gs b) := by
  rintro pre W W' ⟨A, c, fs, g1, g2, h, hr⟩ hg
  exact ⟨A, c, fs, g1, g2, h.kept hg h1 h2 h3 (fun r e => by cases e; exact ⟨by omega, Or.inl rfl⟩), hr⟩
theorem WoX.own (h1 : w.heap.size + 2 < gN) (h2 : lb ≠ gN) (h3 : sb ≠ gN) (hB : w.heap.size ≤ B) (cd : Code) : OwnFrom B (WoX w vb lsl lb sb gN n nc ne run gs b cd) := by
  rintro pre W W' row ⟨hc0, A, c, fs, g1, g2, h, hr⟩ hg hrow
  exact ⟨hc0, A, c, fs, g1, g2, h.kept hg h1 h2 h3 (fun r e => by obtain ⟨h4, o, ho, hc⟩ := hrow r e; exact ⟨by omega, Or.inr (notcells ho hc)⟩), hr⟩
theorem WoX.abides (h1 : w.heap.size + 2 < gN) (h2 : lb ≠ gN) (h3 : sb ≠ gN) (cd : Code) : AbidesG gN (WoX w vb lsl lb sb gN n nc ne run gs b cd) := by
  rintro pre W W' ⟨hc0, A, c, fs, g1, g2, h, hr⟩ hg
  exact ⟨hc0, A, c, fs, g1, g2, h.kept hg h1 h2 h3 (fun r e => by cases e; exact ⟨by omega, Or.inl rfl⟩), hr⟩
end
/-- Two stores: the list, and what came of it. -/
def WoA (W3 : World) (lb sb : Nat) (v : Value) (s : Array Value) (W : World) : Prop := Keep (fun b => b = lb ∨ b = sb) W3 W ∧ Blk W lb 30 #[v] ∧ Blk W sb 40 s
def woPhi (v1 p0 p1 p2 p3 : Value) : Nat → Value → World → (Nat → Nat) → Prop
  | 0, v, _, _ => v = v1
  | 1, v, _, _ => v = .agg #[p0, p1, p2, p3]
  | 2, _, _, γ => γ 0 ≠ 0
  | 3, _, _, γ => γ 0 = 2
  | _, _, _, _ => True
section
variable {v1 p0 p1 p2 p3 v : Value} {i : Nat} {W W' W3 : World} {γ : Nat → Nat} {lb sb xb : Nat} {s s' : Array Value} {v0 : Value}
theorem woPhi_1 (h0 : γ 0 = 0) (hi : i ≠ 2) (h : woPhi v1 p0 p1 p2 p3 i v W γ) : woPhi v1 p0 p1 p2 p3 i v W' (fun _ => 1) := by
  unfold woPhi at h ⊢
  split at h <;> first | exact h | exact absurd rfl hi | (exfalso; omega) | trivial
theorem woPhi_2 (hi : i ≠ 3) (h : woPhi v1 p0 p1 p2 p3 i v W γ) : woPhi v1 p0 p1 p2 p3 i v W' (fun _ => 2) := by
  unfold woPhi at h ⊢
  split at h <;> first | exact h | exact absurd rfl hi | exact (by decide : (2 : Nat) ≠ 0) | trivial
theorem wo_x {G : World → Prop} (h : PhR (WoA W3 lb sb v0 s) (WoA W3 lb sb v1 s) G W γ) (h2 : γ 0 ≠ 2) (hx : Blk W3 xb 40 #[p0, p1, p2, p3]) (hxl : xb ≠ lb) (hxs : xb ≠ sb) : xb < W.heap.size ∧ W.cell? ⟨xb, 0, none⟩ = some p0 ∧ W.cell? ⟨xb, 1, none⟩ = some p1 ∧ W.cell? ⟨xb, 2, none⟩ = some p2 ∧ W.cell? ⟨xb, 3, none⟩ = some p3 := by
  have hb : Blk W xb 40 #[p0, p1, p2, p3] := PhR.not2 (C := fun W => Blk W xb 40 #[p0, p1, p2, p3]) h h2 (fun W h => h.1.blk hx (fun e => e.elim hxl hxs)) (fun W h => h.1.blk hx (fun e => e.elim hxl hxs))
  exact ⟨hb.lt, hb.cell 0, hb.cell 1, hb.cell 2, hb.cell 3⟩
theorem wo_st1 (hls : lb ≠ sb) (h : WoA W3 lb sb v0 s W) : WoA W3 lb sb v (s) (W.setCell ⟨lb, 0, none⟩ v) :=
  ⟨h.1.setCell (Or.inl rfl) _, h.2.1.set_ 0 _, h.2.2.far (fun e => hls e.symm) _⟩
theorem wo_st2 {r0 r1 r2 r3 q0 q1 q2 q3 : Value} (hls : lb ≠ sb) (h : WoA W3 lb sb v0 #[q0, q1, q2, q3] W) : WoA W3 lb sb v0 #[r0, r1, r2, r3] ((((W.setCell ⟨sb, 0, none⟩ r0).setCell ⟨sb, 1, none⟩ r1).setCell ⟨sb, 2, none⟩ r2).setCell ⟨sb, 3, none⟩ r3) := by
  refine ⟨(((h.1.setCell (Or.inr rfl) _).setCell (Or.inr rfl) _).setCell (Or.inr rfl) _).setCell (Or.inr rfl) _, (((h.2.1.far hls _).far hls _).far hls _).far hls _, ?_⟩
  have k := (((h.2.2.set_ 0 r0).set_ 1 r1).set_ 2 r2).set_ 3 r3
  simpa only [List.setIfInBounds_toArray, List.set_cons_zero, List.set_cons_succ] using k
end
theorem WoS.swap {w : World} {vb : Array Value} {lsl : Value} {lb sb gN n nc ne : Nat} {run : List Int → Ply} {A A2 : Option Addr} {c c2 : Nat} {fs fs2 : List Int} {g1 g2 h1 h2 : Nat} {W W' : World} (h : WoS w vb lsl lb sb gN n nc ne run A c fs g1 g2 W)
    (ha : WoA W lb sb (.slice A2 n c2) #[.int .i64 (run fs2).dark, .slice (some ⟨h1, 0, none⟩) nc nc, .slice (some ⟨h2, 0, none⟩) ne ne, .int .i64 (run fs2).served] W')
    (hl : w.heap.size + 2 < lb) (hs : w.heap.size + 2 < sb) (hrow : W.ownsRow w.heap.size 3 1 (.slice A2 n c2) n (fs2.flatMap encI)) (hre : ResIn w.heap.size W h1 h2 (run fs2)) (n1 : (Value.slice A2 n c2).ownBlock ≠ some gN) (n2 : h1 ≠ gN) (n3 : h2 ≠ gN) : WoS w vb lsl lb sb gN n nc ne run A2 c2 fs2 h1 h2 W' := by
  have k : ∀ {b T cs}, Blk W b T cs → b ≠ lb → b ≠ sb → Blk W' b T cs := fun hb h1 h2 => ha.1.blk hb (fun e => e.elim h1 h2)
  refine ⟨h.low.trans (ha.1.below h.low.size (fun b hb => by omega)), k h.bb (by omega) (by omega), k h.lo (by omega) (by omega), k h.rs (by omega) (by omega), ha.2.1, ⟨hrow.1, ?_⟩, ha.2.2, ⟨hre.b1, hre.b2, k hre.e (blk_ne hre.e h.li (by decide)) (blk_ne hre.e h.st (by decide)), k hre.b (blk_ne hre.b h.li (by decide)) (blk_ne hre.b h.st (by decide))⟩, n1, n2, n3⟩
  rcases hrow.2 with hn | ⟨g, cap, cur, e, hb, hgb, rest⟩
  · exact .inl hn
  · exact .inr ⟨g, cap, cur, e, hb, k (show Blk W g _ cur from hgb) (blk_ne (show Blk W g _ cur from hgb) h.li (by decide)) (blk_ne (show Blk W g _ cur from hgb) h.st (by decide)), rest⟩

end Go.Proofs.Ytnpkcipeacogcaa
