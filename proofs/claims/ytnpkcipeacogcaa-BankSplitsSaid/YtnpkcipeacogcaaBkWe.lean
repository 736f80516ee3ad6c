/- What a play gives and takes, in sum. -/
import Derived.Test.YtnpkcipeacogcaaBkX

set_option linter.unusedSimpArgs false
set_option linter.unusedVariables false
namespace Go.Proofs.Ytnpkcipeacogcaa
open Go.RowKit

def heldS (cs : List Cel) : Int := sumI (cs.map Cel.held)
def burntS (es : List Eng) : Int := sumI (es.map Eng.burnt)
def bal (p : Ply) : Int := p.served + heldS p.cs - burntS p.es
theorem draw_burnt (m : Int) : ∀ (es : List Eng) (g : Int), burntS (accL (drawF m) g es).1 = burntS es + ((accL (drawF m) g es).2 - g) := by
  intro es
  induction es with
  | nil => intro g; simp only [accL, burntS, List.map_nil, sumI]; omega
  | cons e es ih =>
    intro g
    have h := ih (drawF m g e).2
    unfold burntS at h ⊢
    simp only [accL, List.map_cons, sumI, h]
    show (e.burnt + min e.spare (m - g)) + _ = _
    show _ + (_ + ((accL (drawF m) (drawF m g e).2 es).2 - (g + min e.spare (m - g)))) = _
    omega
theorem give_held : ∀ (cs : List Cel) (n : Int), heldS (accL giveF n cs).1 = heldS cs - (n - (accL giveF n cs).2) := by
  intro cs
  induction cs with
  | nil => intro n; simp only [accL, heldS, List.map_nil, sumI]; omega
  | cons c cs ih =>
    intro n
    have h := ih (giveF n c).2
    unfold heldS at h ⊢
    simp only [accL, List.map_cons, sumI, h]
    show (c.held - min c.able n) + _ = _
    show _ + (_ - ((n - min c.able n) - (accL giveF (giveF n c).2 cs).2)) = _
    omega
theorem charge_bal : ∀ (cs : List Cel) (es : List Eng), heldS (accL chargeF es cs).1 - burntS (accL chargeF es cs).2 = heldS cs - burntS es := by
  intro cs
  induction cs with
  | nil => intro es; rfl
  | cons c cs ih =>
    intro es
    have h := ih (chargeF es c).2
    have k : burntS (chargeF es c).2 = burntS es + ((drawL c.room es).2 - 0) := draw_burnt c.room es 0
    unfold heldS at h ⊢
    simp only [accL, List.map_cons, sumI]
    show (c.held + (drawL c.room es).2) + _ - _ = _
    omega
theorem serve_bal (p : Ply) (x : Int) : bal (serveP p x) = bal p := by
  have h1 := charge_bal (giveL (needOf p.es x) p.cs).1 (drawL x p.es).1
  have h2 : heldS (giveL (needOf p.es x) p.cs).1 = heldS p.cs - (needOf p.es x - (giveL (needOf p.es x) p.cs).2) := give_held p.cs (needOf p.es x)
  have h3 : burntS (drawL x p.es).1 = burntS p.es + ((drawL x p.es).2 - 0) := draw_burnt x p.es 0
  show (p.served + (x - leftOf p x)) + heldS (accL chargeF (drawL x p.es).1 (giveL (needOf p.es x) p.cs).1).1 - burntS (accL chargeF (drawL x p.es).1 (giveL (needOf p.es x) p.cs).1).2 = p.served + heldS p.cs - burntS p.es
  unfold leftOf
  unfold needOf at h1 h2 ⊢
  omega
theorem ready_burnts (t : Int) (es : List Eng) : (readyL t es).map Eng.burnt = es.map Eng.burnt := by
  unfold readyL
  rw [List.map_map]
  rfl
theorem go_bal (t : Int) (p : Ply) (x : Int) : bal (goP t p x) = bal p := by
  unfold goP
  rw [serve_bal]
  show p.served + heldS p.cs - burntS (readyL t p.es) = _
  unfold burntS
  rw [ready_burnts]
  rfl
theorem goL_bal : ∀ (l : List Int) (t : Int) (p : Ply), bal (goL t p l) = bal p := by
  intro l
  induction l with
  | nil => intro t p; rfl
  | cons x l ih => intro t p; rw [goL, ih, go_bal]
theorem sumS_nn {B : Int} : ∀ {es : List Eng}, (∀ e ∈ es, EngOk B e) → 0 ≤ sumS es := by
  intro es
  induction es with
  | nil => intro _; exact Int.le_refl _
  | cons e es ih =>
    intro h
    have h1 := (h e (List.mem_cons_self ..)).p0
    have h2 := ih (fun z hz => h z (List.mem_cons_of_mem _ hz))
    simp only [sumS]
    omega
theorem sumA_nn : ∀ {cs : List Cel}, (∀ c ∈ cs, CelOk c) → 0 ≤ sumA cs := by
  intro cs
  induction cs with
  | nil => intro _; exact Int.le_refl _
  | cons c cs ih =>
    intro h
    have h1 := (Cel.able_bd (h c (List.mem_cons_self ..))).1
    have h2 := ih (fun z hz => h z (List.mem_cons_of_mem _ hz))
    simp only [sumA]
    omega
theorem draw_all {B m : Int} : ∀ {es : List Eng} {g : Int}, (∀ e ∈ es, EngOk B e) → g ≤ m → (accL (drawF m) g es).2 = min m (g + sumS es) := by
  intro es
  induction es with
  | nil => intro g _ hg; simp only [accL, sumS]; omega
  | cons e es ih =>
    intro g h hg
    have h1 := (h e (List.mem_cons_self ..)).p0
    have hes : ∀ z ∈ es, EngOk B z := fun z hz => h z (List.mem_cons_of_mem _ hz)
    have h2 := sumS_nn hes
    have h3 := ih (g := g + min e.spare (m - g)) hes (by omega)
    show (accL (drawF m) (g + min e.spare (m - g)) es).2 = min m (g + (e.spare + sumS es))
    rw [h3]
    omega
theorem give_all : ∀ {cs : List Cel} {n : Int}, (∀ c ∈ cs, CelOk c) → 0 ≤ n → (accL giveF n cs).2 = max 0 (n - sumA cs) := by
  intro cs
  induction cs with
  | nil => intro n _ hn; simp only [accL, sumA]; omega
  | cons c cs ih =>
    intro n h hn
    have h1 := (Cel.able_bd (h c (List.mem_cons_self ..))).1
    have hcs : ∀ z ∈ cs, CelOk z := fun z hz => h z (List.mem_cons_of_mem _ hz)
    have h2 := sumA_nn hcs
    have h3 := ih (n := n - min c.able n) hcs (by omega)
    show (accL giveF (n - min c.able n) cs).2 = max 0 (n - (c.able + sumA cs))
    rw [h3]
    omega
theorem left_zero {B x : Int} {p : Ply} (hx : 0 ≤ x) (hc : ∀ c ∈ p.cs, CelOk c) (he : ∀ e ∈ p.es, EngOk B e) (hm : x ≤ mostP p) : leftOf p x = 0 := by
  have h1 : (drawL x p.es).2 = min x (0 + sumS p.es) := draw_all he hx
  have h2 := sumS_nn he
  have h3 := sumA_nn hc
  unfold mostP at hm
  unfold leftOf needOf
  have h4 : (giveL (x - (drawL x p.es).2) p.cs).2 = max 0 (x - (drawL x p.es).2 - sumA p.cs) := give_all hc (by rw [h1]; omega)
  rw [h4, h1]
  omega
theorem go_served {T t x : Int} {p : Ply} (h : PlyOk T p) (hx : 0 ≤ x) (ho : okP t p x = true) : (goP t p x).served = p.served + x := by
  have hm := of_decide_eq_true ho
  have h1 := left_zero (p := readyP t p) hx h.cs h.ready hm
  show p.served + (x - leftOf (readyP t p) x) = _
  rw [h1]
  omega
theorem goL_served : ∀ {l : List Int} {T t : Int} {p : Ply}, PlyOk T p → (∀ x ∈ l, 0 ≤ x ∧ x ≤ 1000000) → okL t p l → (goL t p l).served = p.served + sumI l := by
  intro l
  induction l with
  | nil => intro T t p _ _ _; simp only [goL, sumI]; omega
  | cons x l ih =>
    intro T t p h hx ho
    have hx0 := hx x (List.mem_cons_self ..)
    rw [goL, ih (h.go (t := t) hx0.1 hx0.2) (fun y hy => hx y (List.mem_cons_of_mem _ hy)) ho.2, go_served h hx0.1 ho.1]
    simp only [sumI]
    omega
/-- The batteries stay what they are. -/
theorem acc_bat {σ : Type} {f : σ → Cel → Cel × σ} (hf : ∀ s c, (f s c).1.bat = c.bat) : ∀ (cs : List Cel) (s : σ), (accL f s cs).1.map Cel.bat = cs.map Cel.bat := by
  intro cs
  induction cs with
  | nil => intro s; rfl
  | cons c cs ih => intro s; simp only [accL, List.map_cons, ih, hf]
theorem go_bat (t : Int) (p : Ply) (x : Int) : (goP t p x).cs.map Cel.bat = p.cs.map Cel.bat := by
  show (accL chargeF _ (accL giveF _ p.cs).1).1.map Cel.bat = _
  rw [acc_bat (fun _ _ => rfl), acc_bat (fun _ _ => rfl)]
theorem goL_bat : ∀ (l : List Int) (t : Int) (p : Ply), (goL t p l).cs.map Cel.bat = p.cs.map Cel.bat := by
  intro l
  induction l with
  | nil => intro t p; rfl
  | cons x l ih => intro t p; rw [goL, ih, go_bat]
/-- A row of a trace: what a play's batteries have. -/
def RowOk (bs : List Bat) (r : List Int) : Prop := r.length = bs.length ∧ ∀ (i : Nat) (n : Int) (b : Bat), r[i]? = some n → bs[i]? = some b → 0 ≤ n ∧ n ≤ b.full
theorem energies_ok {bs : List Bat} {p : Ply} (hb : p.cs.map Cel.bat = bs) (hc : ∀ c ∈ p.cs, CelOk c) : RowOk bs (energies p) := by
  subst hb
  refine ⟨by simp [energies], fun i n b h1 h2 => ?_⟩
  unfold energies at h1
  rw [List.getElem?_map] at h1 h2
  cases hx : p.cs[i]? with
  | none => rw [hx] at h1; simp at h1
  | some c =>
    rw [hx] at h1 h2
    simp only [Option.map_some, Option.some.injEq] at h1 h2
    subst h1 h2
    have := hc c (List.mem_of_getElem? hx)
    exact ⟨this.h0, this.h1⟩
theorem trace_rows {bs : List Bat} : ∀ {l : List Int} {T t : Int} {p : Ply}, PlyOk T p → p.cs.map Cel.bat = bs → (∀ x ∈ l, 0 ≤ x ∧ x ≤ 1000000) → ∀ r ∈ traceL t p l, RowOk bs r := by
  intro l
  induction l with
  | nil => intro T t p _ _ _ r hr; simp [traceL] at hr
  | cons x l ih =>
    intro T t p h hb hx r hr
    have hx0 := hx x (List.mem_cons_self ..)
    simp only [traceL] at hr
    split at hr
    · rcases List.mem_cons.1 hr with rfl | hr
      · exact energies_ok (by rw [go_bat]; exact hb) (h.go (t := t) hx0.1 hx0.2).cs
      · exact ih (h.go (t := t) hx0.1 hx0.2) (by rw [go_bat]; exact hb) (fun y hy => hx y (List.mem_cons_of_mem _ hy)) r hr
    · simp at hr
theorem trace_len : ∀ {l : List Int} {t : Int} {p : Ply}, okL t p l → (traceL t p l).length = l.length := by
  intro l
  induction l with
  | nil => intro t p _; rfl
  | cons x l ih => intro t p h; simp only [traceL, if_pos h.1, List.length_cons, ih h.2]
theorem trace_last : ∀ {l : List Int} {t : Int} {p : Ply}, okL t p l → ∀ r, (traceL t p l)[l.length - 1]? = some r → r = energies (goL t p l) := by
  intro l
  induction l with
  | nil => intro t p _ r hr; simp [traceL] at hr
  | cons x l ih =>
    intro t p h r hr
    simp only [traceL, if_pos h.1, List.length_cons, Nat.add_sub_cancel] at hr
    rw [goL]
    cases l with
    | nil => simp at hr; rw [← hr]; rfl
    | cons y l =>
      rw [List.length_cons, List.getElem?_cons_succ] at hr
      exact ih h.2 r (by rw [List.length_cons, Nat.add_sub_cancel]; exact hr)
/-- How a run ends. -/
structure RunEnd (bs : List Bat) (gs : List Gen) (fs : List Int) (all pre : List Int) (P : Ply) (rows : List (List Int)) : Prop where
  pfx : pre <+: all
  dark : (P.dark = -1 ∧ pre = all) ∨ (P.dark = pre.length ∧ pre.length < all.length)
  served : P.served = sumI pre
  bal : P.served + sumI (energies P) - sumI (bs.map Bat.energy) - sumI (burnts P) = 0
  len : rows.length = pre.length
  ok : ∀ r ∈ rows, RowOk bs r
  last : ∀ r, rows[pre.length - 1]? = some r → r = energies P
  e : RowOk bs (energies P)
  bn : (burnts P).length = gs.length
  bb : ∀ n ∈ burnts P, 0 ≤ n ∧ n ≤ 1000000 * 20000
theorem zero_burnts : ∀ (gs : List Gen) (fs : List Int), sumI ((engs0 gs fs).map Eng.burnt) = 0 := by
  intro gs
  induction gs with
  | nil => intro fs; rfl
  | cons g gs ih =>
    intro fs
    cases fs with
    | nil => rfl
    | cons f fs => show 0 + sumI ((engs0 gs fs).map Eng.burnt) = 0; rw [ih]; rfl
theorem run_end {bs : List Bat} {gs : List Gen} {l : List Spn} {fs : List Int} (ok : ArgsOk bs gs l) (okf : FailsOk gs fs) : ∃ pre, RunEnd bs gs fs (secsL l) pre (runL 0 (ply0 bs gs fs) (secsL l)) (traceL 0 (ply0 bs gs fs) (secsL l)) := by
  have h0 := ply0_ok ok.bat ok.gen (okf.bd ok.gen)
  have hx := secsL_bd ok.spn
  have hb0 : (ply0 bs gs fs).cs.map Cel.bat = bs := by simp [ply0, cel0, Function.comp_def]
  have key : ∀ pre, pre <+: secsL l → okL 0 (ply0 bs gs fs) pre → ∀ P rows, energies P = energies (goL 0 (ply0 bs gs fs) pre) → burnts P = burnts (goL 0 (ply0 bs gs fs) pre) → P.served = (goL 0 (ply0 bs gs fs) pre).served → rows = traceL 0 (ply0 bs gs fs) pre → ((P.dark = -1 ∧ pre = secsL l) ∨ (P.dark = pre.length ∧ pre.length < (secsL l).length)) → RunEnd bs gs fs (secsL l) pre P rows := by
    intro pre hp ho P rows e1 e2 e3 e4 hd
    have hxp : ∀ x ∈ pre, 0 ≤ x ∧ x ≤ 1000000 := fun x h => hx x (hp.subset h)
    have hk := goL_ok (t := 0) h0 hxp
    have hpl : pre.length ≤ 20000 := Nat.le_trans hp.length_le ok.len
    have hbal := goL_bal pre 0 (ply0 bs gs fs)
    have hsv := goL_served h0 hxp ho
    refine ⟨hp, hd, ?_, ?_, ?_, ?_, ?_, ?_, ?_, ?_⟩
    · rw [e3, hsv]; show 0 + _ = _; omega
    · have hh : heldS (ply0 bs gs fs).cs = sumI (bs.map Bat.energy) := by unfold heldS ply0; simp [cel0, Function.comp_def]
      have hbu : burntS (ply0 bs gs fs).es = 0 := zero_burnts gs fs
      unfold bal at hbal
      rw [hh, hbu] at hbal
      rw [e1, e2, e3]
      have hs0 : (ply0 bs gs fs).served = 0 := rfl
      show (goL 0 (ply0 bs gs fs) pre).served + heldS (goL 0 (ply0 bs gs fs) pre).cs - _ - burntS (goL 0 (ply0 bs gs fs) pre).es = 0
      omega
    · rw [e4, trace_len ho]
    · rw [e4]; exact trace_rows h0 hb0 hxp
    · rw [e4, e1]; exact trace_last ho
    · rw [e1]; exact energies_ok (by rw [goL_bat]; exact hb0) hk.cs
    · rw [e2]
      show ((goL 0 (ply0 bs gs fs) pre).es.map Eng.burnt).length = _
      have h5 := runL_len pre 0 (ply0 bs gs fs)
      rw [runL_all _ _ _ ho] at h5
      rw [List.length_map, h5.2]
      show (engs0 gs fs).length = _
      rw [engs0, List.length_zipWith, okf.1, Nat.min_self]
    · rw [e2]
      intro n hn
      obtain ⟨e, he, rfl⟩ := List.mem_map.1 hn
      have h6 := hk.es e he
      exact ⟨h6.1.b0, by omega⟩
  rcases ok_or (secsL l) 0 (ply0 bs gs fs) with ho | ⟨l1, x, l2, hl, ho, hd⟩
  · refine ⟨secsL l, key _ List.prefix_rfl ho (runL 0 (ply0 bs gs fs) (secsL l)) _ (by rw [runL_all _ _ _ ho]) (by rw [runL_all _ _ _ ho]) (by rw [runL_all _ _ _ ho]) rfl (Or.inl ⟨?_, rfl⟩)⟩
    have hdk : ∀ (l : List Int) (t : Int) (p : Ply), (goL t p l).dark = p.dark := by
      intro l
      induction l with
      | nil => intro t p; rfl
      | cons x l ih => intro t p; rw [goL, ih]; rfl
    rw [runL_all _ _ _ ho, hdk]
    rfl
  · refine ⟨l1, key l1 (by rw [hl]; exact List.prefix_append _ _) ho (runL 0 (ply0 bs gs fs) (secsL l)) _ ?_ ?_ ?_ ?_ (Or.inr ⟨?_, by rw [hl]; simp⟩)⟩
    · rw [hl, runL_dark l1 l2 x 0 _ ho hd]; rfl
    · rw [hl, runL_dark l1 l2 x 0 _ ho hd]; exact ready_burnts _ _
    · rw [hl, runL_dark l1 l2 x 0 _ ho hd]; rfl
    · rw [hl, traceL_dark l1 l2 x 0 _ ho hd]
    · rw [hl, runL_dark l1 l2 x 0 _ ho hd]; show 0 + (l1.length : Int) = _; omega
end Go.Proofs.Ytnpkcipeacogcaa
