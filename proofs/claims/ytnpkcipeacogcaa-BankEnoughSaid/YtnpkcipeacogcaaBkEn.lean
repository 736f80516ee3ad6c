/- What one more battery must hold. -/
import Derived.Test.YtnpkcipeacogcaaBkNa
import Derived.Test.YtnpkcipeacogcaaBkSa

set_option linter.unusedSimpArgs false
set_option linter.unusedVariables false
namespace Go.Proofs.Ytnpkcipeacogcaa
open Go.RowKit

/-- A battery that comes last and holds h: what a second makes of a play with it. -/
def lastC (e f h : Int) : Cel := ⟨⟨e, f, 1000000, 0⟩, h⟩
theorem drawL_zero {B : Int} : ∀ {es : List Eng}, (∀ e ∈ es, EngOk B e) → accL (drawF 0) 0 es = (es, 0) := by
  intro es
  induction es with
  | nil => intro _; rfl
  | cons e es ih =>
    intro h
    have h0 := (h e (List.mem_cons_self ..)).p0
    have h1 : drawF 0 0 e = (e, 0) := by
      unfold drawF
      rw [show min e.spare (0 - 0) = 0 by omega, Int.add_zero, Int.sub_zero]
      rfl
    simp only [accL, h1, ih (fun z hz => h z (List.mem_cons_of_mem _ hz))]
/-- What a second makes of a play with one more battery. -/
theorem serve_last {B x e f h : Int} {p q : Ply} (hx : 0 ≤ x) (hx1 : x ≤ 1000000) (hc : ∀ c ∈ p.cs, CelOk c) (he : ∀ z ∈ p.es, EngOk B z) (hcs : q.cs = p.cs ++ [lastC e f h]) (hes : q.es = p.es) (hl : leftOf p x ≤ h) (hf : h ≤ f) :
    (serveP q x).cs = (serveP p x).cs ++ [lastC e f (h - leftOf p x)] ∧ (serveP q x).es = (serveP p x).es := by
  have hb := leftOf_bd hx hc he
  obtain ⟨d1, d2, d3⟩ := drawL_ok hx he
  have hn : needOf q.es x = needOf p.es x := by rw [hes]
  have hn0 : 0 ≤ needOf p.es x := by unfold needOf; omega
  have hg : giveL (needOf q.es x) q.cs = ((giveL (needOf p.es x) p.cs).1 ++ [lastC e f (h - leftOf p x)], 0) := by
    rw [hn, hcs]
    unfold giveL
    rw [accL_append]
    have : giveF (accL giveF (needOf p.es x) p.cs).2 (lastC e f h) = (lastC e f (h - leftOf p x), 0) := by
      show giveF (leftOf p x) (lastC e f h) = _
      unfold giveF lastC Cel.able
      simp only
      rw [show min (min (1000000 : Int) h) (leftOf p x) = leftOf p x by omega, Int.sub_self]
    simp only [accL, this]
  have hch := chargeL_ok (es := (drawL x p.es).1) (cs := (giveL (needOf p.es x) p.cs).1) d1 (giveL_ok hn0 hc).1
  have hcl : chargeL (drawL x q.es).1 (giveL (needOf q.es x) q.cs).1 = ((chargeL (drawL x p.es).1 (giveL (needOf p.es x) p.cs).1).1 ++ [lastC e f (h - leftOf p x)], (chargeL (drawL x p.es).1 (giveL (needOf p.es x) p.cs).1).2) := by
    rw [hg, hes]
    unfold chargeL
    rw [accL_append]
    have h2 : drawL (lastC e f (h - leftOf p x)).room (accL chargeF (drawL x p.es).1 (giveL (needOf p.es x) p.cs).1).2 = ((accL chargeF (drawL x p.es).1 (giveL (needOf p.es x) p.cs).1).2, 0) := by
      have : (lastC e f (h - leftOf p x)).room = 0 := by
        unfold lastC Cel.room
        simp only
        omega
      rw [this]
      exact drawL_zero hch.2
    have h3 : chargeF (accL chargeF (drawL x p.es).1 (giveL (needOf p.es x) p.cs).1).2 (lastC e f (h - leftOf p x)) = (lastC e f (h - leftOf p x), (accL chargeF (drawL x p.es).1 (giveL (needOf p.es x) p.cs).1).2) := by
      generalize (accL chargeF (drawL x p.es).1 (giveL (needOf p.es x) p.cs).1).2 = S at h2 ⊢
      unfold chargeF
      rw [h2]
      simp only [Int.add_zero]
    simp only [accL, h3]
  unfold serveP
  exact ⟨by rw [hcl], by rw [hcl]⟩
theorem most_last {t e f h : Int} {p q : Ply} (hcs : q.cs = p.cs ++ [lastC e f h]) (hes : q.es = p.es) : mostP (readyP t q) = mostP (readyP t p) + min 1000000 h := by
  unfold mostP readyP
  simp only [hcs, hes, sumA_append, sumA, Cel.able, lastC]
  omega
theorem ok_last {T t x e f h : Int} {p q : Ply} (ok : PlyOk T p) (hx : 0 ≤ x) (hx1 : x ≤ 1000000) (hcs : q.cs = p.cs ++ [lastC e f h]) (hes : q.es = p.es) (h0 : 0 ≤ h) : okP t q x = true ↔ leftOf (readyP t p) x ≤ h := by
  have h1 := left_is (p := readyP t p) hx ok.cs ok.ready
  have h2 := leftOf_bd (p := readyP t p) hx ok.cs ok.ready
  have h3 : 0 ≤ mostP (readyP t p) := by
    have a1 := sumS_nn (ok.ready (t := t))
    have a2 : 0 ≤ sumA (readyP t p).cs := sumA_nn ok.cs
    unfold mostP
    omega
  unfold okP
  rw [most_last hcs hes, decide_eq_true_iff, h1]
  omega
/-- All is served by a bank with one more battery just if it holds what is lacking. -/
theorem okL_last {e f : Int} : ∀ {l : List Int} {T t h : Int} {p q : Ply}, PlyOk T p → (∀ x ∈ l, 0 ≤ x ∧ x ≤ 1000000) → q.cs = p.cs ++ [lastC e f h] → q.es = p.es → 0 ≤ h → h ≤ f → (okL t q l ↔ (anyL t p l).lacking - p.lacking ≤ h) ∧ (okL t q l → (goL t q l).cs = (anyL t p l).cs ++ [lastC e f (h - ((anyL t p l).lacking - p.lacking))]) := by
  intro l
  induction l with
  | nil =>
    intro T t h p q _ _ hcs hes h0 _
    refine ⟨⟨fun _ => ?_, fun _ => trivial⟩, fun _ => ?_⟩
    · simp only [anyL]; omega
    · simp only [anyL, goL, Int.sub_self, Int.sub_zero]; exact hcs
  | cons x l ih =>
    intro T t h p q ok hx hcs hes h0 hf
    have hx0 := hx x (List.mem_cons_self ..)
    have hxl : ∀ y ∈ l, 0 ≤ y ∧ y ≤ 1000000 := fun y hy => hx y (List.mem_cons_of_mem _ hy)
    have ok2 := ok.anyway (t := t) hx0.1 hx0.2
    have hge := any_ge (t := t + 1) ok2 hxl
    have hlk : (anyP t p x).lacking = p.lacking + leftOf (readyP t p) x := rfl
    have hlb := leftOf_bd (p := readyP t p) hx0.1 ok.cs ok.ready
    have hok := ok_last (t := t) (e := e) (f := f) ok hx0.1 hx0.2 hcs hes h0
    simp only [okL, anyL, goL]
    by_cases ho : okP t q x = true
    · have hle := hok.1 ho
      obtain ⟨s1, s2⟩ := serve_last (e := e) (f := f) (p := readyP t p) (q := readyP t q) hx0.1 hx0.2 ok.cs ok.ready hcs (by unfold readyP; simp only [hes]) hle hf
      have := ih (t := t + 1) (p := anyP t p x) (q := goP t q x) (h := h - leftOf (readyP t p) x) ok2 hxl s1 s2 (by omega) (by omega)
      obtain ⟨i1, i2⟩ := this
      rw [hlk] at i1 i2 hge
      refine ⟨⟨fun h1 => ?_, fun h1 => ⟨ho, i1.2 (by omega)⟩⟩, fun h1 => ?_⟩
      · have := i1.1 h1.2
        omega
      · rw [i2 h1.2]
        rw [show h - leftOf (readyP t p) x - ((anyL (t + 1) (anyP t p x) l).lacking - (p.lacking + leftOf (readyP t p) x)) = h - ((anyL (t + 1) (anyP t p x) l).lacking - p.lacking) by omega]
    · have hgt : ¬ leftOf (readyP t p) x ≤ h := fun hh => ho (hok.2 hh)
      rw [hlk] at hge
      refine ⟨⟨fun h1 => absurd h1.1 ho, fun h1 => ?_⟩, fun h1 => absurd h1.1 ho⟩
      omega
/-- What is lacking, in one more battery, is enough, and less is not. -/
theorem enough_is {bs : List Bat} {gs : List Gen} {l : List Spn} {fs : List Int} {d : Int} (ok : ArgsOk bs gs l) (okf : FailsOk gs fs) (hd0 : 0 ≤ d) (hd : d ≤ lackOf bs gs l fs) :
    (d = 0 → (runOf (bs ++ [⟨lackOf bs gs l fs - d, lackOf bs gs l fs, 1000000, 0⟩]) gs l fs).dark = -1 ∧ ∃ r, energies (runOf (bs ++ [⟨lackOf bs gs l fs - d, lackOf bs gs l fs, 1000000, 0⟩]) gs l fs) = r ++ [0] ∧ r.length = bs.length) ∧
    (1 ≤ d → 0 ≤ (runOf (bs ++ [⟨lackOf bs gs l fs - d, lackOf bs gs l fs, 1000000, 0⟩]) gs l fs).dark) := by
  have h0 := ply0_ok ok.bat ok.gen (okf.bd ok.gen)
  have hx := secsL_bd ok.spn
  obtain ⟨n, hn⟩ : ∃ z, z = lackOf bs gs l fs := ⟨_, rfl⟩
  rw [← hn] at hd ⊢
  have hcs : (ply0 (bs ++ [⟨n - d, n, 1000000, 0⟩]) gs fs).cs = (ply0 bs gs fs).cs ++ [lastC (n - d) n (n - d)] := by
    unfold ply0
    simp only [List.map_append]
    rfl
  have hk := okL_last (e := n - d) (f := n) (t := 0) h0 hx hcs rfl (by omega) (by omega)
  have hl : (anyL 0 (ply0 bs gs fs) (secsL l)).lacking = n := hn.symm
  have hl0 : (ply0 bs gs fs).lacking = 0 := rfl
  rw [hl, hl0] at hk
  obtain ⟨k1, k2⟩ := hk
  have hlen : (anyL 0 (ply0 bs gs fs) (secsL l)).cs.length = bs.length := by
    have hal : ∀ (l : List Int) (t : Int) (p : Ply), (anyL t p l).cs.length = p.cs.length := by
      intro l
      induction l with
      | nil => intro t p; rfl
      | cons x l ih =>
        intro t p
        rw [anyL, ih]
        show (chargeL _ _).1.length = _
        rw [chargeL_length, giveL_length]
        rfl
    rw [hal]
    show (bs.map cel0).length = _
    rw [List.length_map]
  refine ⟨fun hd => ?_, fun hd => ?_⟩
  · have h1 : okL 0 (ply0 (bs ++ [⟨n - d, n, 1000000, 0⟩]) gs fs) (secsL l) := k1.2 (by omega)
    refine ⟨okL_dark h1, (anyL 0 (ply0 bs gs fs) (secsL l)).cs.map Cel.held, ?_, by rw [List.length_map, hlen]⟩
    have h2 : runOf (bs ++ [⟨n - d, n, 1000000, 0⟩]) gs l fs = goL 0 (ply0 (bs ++ [⟨n - d, n, 1000000, 0⟩]) gs fs) (secsL l) := runL_all _ _ _ h1
    unfold energies
    rw [h2, k2 h1, List.map_append]
    show _ ++ [n - d - (n - 0)] = _
    rw [show n - d - (n - 0) = 0 by omega]
  · have h1 : ¬ okL 0 (ply0 (bs ++ [⟨n - d, n, 1000000, 0⟩]) gs fs) (secsL l) := fun h => by have := k1.1 h; omega
    rcases ok_or (secsL l) 0 (ply0 (bs ++ [⟨n - d, n, 1000000, 0⟩]) gs fs) with h2 | ⟨l1, x, l2, h2, h3, h4⟩
    · exact absurd h2 h1
    · have h5 : runOf (bs ++ [⟨n - d, n, 1000000, 0⟩]) gs l fs = darkP (0 + l1.length) (goL 0 (ply0 (bs ++ [⟨n - d, n, 1000000, 0⟩]) gs fs) l1) := by
        show runL 0 _ (secsL l) = _
        rw [h2]
        exact runL_dark l1 l2 x 0 _ h3 h4
      rw [h5]
      show (0 : Int) ≤ 0 + l1.length
      omega
end Go.Proofs.Ytnpkcipeacogcaa
