/- Batteries and generators, second by second, as plain functions. Nothing here names the program. -/
import Derived.Test.YtnpkcipeacogcaaData

set_option linter.unusedSimpArgs false
set_option linter.unusedVariables false
namespace Go.Proofs.Ytnpkcipeacogcaa

/-- A battery. -/
structure Bat where
  (energy full power charge : Int)
/-- A generator. -/
structure Gen where
  (power ramp delay pause tries : Int)
/-- A span. -/
structure Spn where
  (secs power : Int)
/-- A battery at work. -/
structure Cel where
  bat : Bat
  held : Int
/-- A generator at work. -/
structure Eng where
  gen : Gen
  (since burnt spare : Int)
/-- A play. -/
structure Ply where
  cs : List Cel
  es : List Eng
  (dark served lacking : Int)

/-- A list is gone through with a state, and each element turned. -/
def accL {α σ : Type} (f : σ → α → α × σ) : σ → List α → List α × σ
  | s, [] => ([], s)
  | s, a :: l => ((f s a).1 :: (accL f (f s a).2 l).1, (accL f (f s a).2 l).2)
section
variable {α σ : Type} {f : σ → α → α × σ}
theorem accL_append : ∀ (l m : List α) (s : σ), accL f s (l ++ m) = ((accL f s l).1 ++ (accL f (accL f s l).2 m).1, (accL f (accL f s l).2 m).2) := by
  intro l
  induction l with
  | nil => intro m s; rfl
  | cons a l ih => intro m s; simp only [List.cons_append, accL, ih]
theorem accL_snoc (l : List α) (a : α) (s : σ) : accL f s (l ++ [a]) = ((accL f s l).1 ++ [(f (accL f s l).2 a).1], (f (accL f s l).2 a).2) := by
  rw [accL_append]
  rfl
theorem accL_length : ∀ (l : List α) (s : σ), (accL f s l).1.length = l.length := by
  intro l
  induction l with
  | nil => intro s; rfl
  | cons a l ih => intro s; simp only [accL, List.length_cons, ih]
/-- What holds of all elements and of the state. -/
theorem accL_inv {P : σ → Prop} {Q R : α → Prop} (h : ∀ s a, P s → Q a → R (f s a).1 ∧ P (f s a).2) : ∀ (l : List α) (s : σ), P s → (∀ a ∈ l, Q a) → (∀ a ∈ (accL f s l).1, R a) ∧ P (accL f s l).2 := by
  intro l
  induction l with
  | nil => intro s hs _; exact ⟨fun a ha => by simp [accL] at ha, hs⟩
  | cons a l ih =>
    intro s hs hl
    obtain ⟨h1, h2⟩ := h s a hs (hl a (List.mem_cons_self ..))
    obtain ⟨h3, h4⟩ := ih _ h2 (fun x hx => hl x (List.mem_cons_of_mem _ hx))
    refine ⟨fun x hx => ?_, h4⟩
    rcases List.mem_cons.1 hx with rfl | hx
    · exact h1
    · exact h3 x hx
/-- The list when k elements have been turned. -/
def accTo (f : σ → α → α × σ) (s : σ) (l : List α) (k : Nat) : List α := (accL f s (l.take k)).1 ++ l.drop k
def accSt (f : σ → α → α × σ) (s : σ) (l : List α) (k : Nat) : σ := (accL f s (l.take k)).2
theorem accTo_zero (s : σ) (l : List α) : accTo f s l 0 = l := by simp [accTo, accL]
theorem accSt_zero (s : σ) (l : List α) : accSt f s l 0 = s := by simp [accSt, accL]
theorem accTo_end (s : σ) (l : List α) : accTo f s l l.length = (accL f s l).1 := by simp [accTo]
theorem accSt_end (s : σ) (l : List α) : accSt f s l l.length = (accL f s l).2 := by simp [accSt]
theorem accTo_length (s : σ) (l : List α) (k : Nat) : (accTo f s l k).length = l.length := by
  simp only [accTo, List.length_append, accL_length, List.length_take, List.length_drop]
  omega
theorem take_at {l : List α} {k : Nat} {a : α} (h : l[k]? = some a) : l.take (k + 1) = l.take k ++ [a] := by
  rw [List.take_add_one, h]
  rfl
theorem drop_at {l : List α} {k : Nat} {a : α} (h : l[k]? = some a) : l.drop k = a :: l.drop (k + 1) := by
  obtain ⟨hk, rfl⟩ := List.getElem?_eq_some_iff.1 h
  exact List.drop_eq_getElem_cons hk
theorem accTo_at {s : σ} {l : List α} {k : Nat} {a : α} (h : l[k]? = some a) : (accTo f s l k)[k]? = some a := by
  have hk : k < l.length := (List.getElem?_eq_some_iff.1 h).1
  have e : (accL f s (l.take k)).1.length = k := by rw [accL_length, List.length_take]; omega
  unfold accTo
  rw [List.getElem?_append_right (by omega), e, Nat.sub_self, drop_at h]
  rfl
theorem accSt_succ {s : σ} {l : List α} {k : Nat} {a : α} (h : l[k]? = some a) : accSt f s l (k + 1) = (f (accSt f s l k) a).2 := by
  unfold accSt
  rw [take_at h, accL_snoc]
theorem accTo_succ {s : σ} {l : List α} {k : Nat} {a : α} (h : l[k]? = some a) : accTo f s l (k + 1) = (accTo f s l k).set k (f (accSt f s l k) a).1 := by
  have hk : k < l.length := (List.getElem?_eq_some_iff.1 h).1
  have e : (accL f s (l.take k)).1.length = k := by rw [accL_length, List.length_take]; omega
  unfold accTo accSt
  rw [take_at h, accL_snoc, List.set_append_right _ _ (by omega), e, Nat.sub_self, drop_at h]
  simp
end

def Cel.able (c : Cel) : Int := min c.bat.power c.held
def Cel.room (c : Cel) : Int := min c.bat.charge (c.bat.full - c.held)
def startOf (g : Gen) (f : Int) : Int := if f = g.tries then -1 else (f + 1) * g.delay + f * g.pause
def cel0 (b : Bat) : Cel := ⟨b, b.energy⟩
def eng0 (g : Gen) (f : Int) : Eng := ⟨g, startOf g f, 0, 0⟩
def engs0 : List Gen → List Int → List Eng := List.zipWith eng0
def ply0 (bs : List Bat) (gs : List Gen) (fs : List Int) : Ply := ⟨bs.map cel0, engs0 gs fs, -1, 0, 0⟩
/-- What a generator gives in a second at most. -/
def spareAt (t : Int) (g : Gen) (since : Int) : Int := if since = -1 then 0 else if t < since then 0 else min g.power (g.ramp * (t - since + 1))
def Eng.ready (t : Int) (e : Eng) : Eng := { e with spare := spareAt t e.gen e.since }
def readyL (t : Int) (es : List Eng) : List Eng := es.map (Eng.ready t)
/-- A generator gives at most what is left of m. -/
def drawF (m : Int) (given : Int) (e : Eng) : Eng × Int := (⟨e.gen, e.since, e.burnt + min e.spare (m - given), e.spare - min e.spare (m - given)⟩, given + min e.spare (m - given))
def drawL (m : Int) (es : List Eng) : List Eng × Int := accL (drawF m) 0 es
/-- A battery gives at most what is needed. -/
def giveF (need : Int) (c : Cel) : Cel × Int := (⟨c.bat, c.held - min c.able need⟩, need - min c.able need)
def giveL (need : Int) (cs : List Cel) : List Cel × Int := accL giveF need cs
/-- A battery is charged by the generators. -/
def chargeF (es : List Eng) (c : Cel) : Cel × List Eng := (⟨c.bat, c.held + (drawL c.room es).2⟩, (drawL c.room es).1)
def chargeL (es : List Eng) (cs : List Cel) : List Cel × List Eng := accL chargeF es cs
/-- Sums. -/
def sumS : List Eng → Int
  | [] => 0
  | e :: es => e.spare + sumS es
def sumA : List Cel → Int
  | [] => 0
  | c :: cs => c.able + sumA cs
theorem sumS_append (l m : List Eng) : sumS (l ++ m) = sumS l + sumS m := by
  induction l with
  | nil => simp [sumS]
  | cons a l ih => simp only [List.cons_append, sumS, ih]; omega
theorem sumA_append (l m : List Cel) : sumA (l ++ m) = sumA l + sumA m := by
  induction l with
  | nil => simp [sumA]
  | cons a l ih => simp only [List.cons_append, sumA, ih]; omega
def needOf (es : List Eng) (x : Int) : Int := x - (drawL x es).2
def leftOf (p : Ply) (x : Int) : Int := (giveL (needOf p.es x) p.cs).2
/-- A second is served as far as it can be. -/
def serveP (p : Ply) (x : Int) : Ply :=
  ⟨(chargeL (drawL x p.es).1 (giveL (needOf p.es x) p.cs).1).1, (chargeL (drawL x p.es).1 (giveL (needOf p.es x) p.cs).1).2, p.dark, p.served + (x - leftOf p x), p.lacking⟩
def readyP (t : Int) (p : Ply) : Ply := { p with es := readyL t p.es }
def mostP (p : Ply) : Int := sumS p.es + sumA p.cs
def okP (t : Int) (p : Ply) (x : Int) : Bool := decide (x ≤ mostP (readyP t p))
/-- What a second makes of a play: a dark one; one that is served; one that is played anyway. -/
def darkP (t : Int) (p : Ply) : Ply := { readyP t p with dark := t }
def goP (t : Int) (p : Ply) (x : Int) : Ply := serveP (readyP t p) x
def anyP (t : Int) (p : Ply) (x : Int) : Ply := { serveP (readyP t p) x with lacking := p.lacking + leftOf (readyP t p) x }
/-- All seconds of a load. -/
def secsL (load : List Spn) : List Int := load.flatMap fun s => List.replicate s.secs.toNat s.power
/-- Seconds that are served, one after the other. -/
def goL : Int → Ply → List Int → Ply
  | _, p, [] => p
  | t, p, x :: l => goL (t + 1) (goP t p x) l
def anyL : Int → Ply → List Int → Ply
  | _, p, [] => p
  | t, p, x :: l => anyL (t + 1) (anyP t p x) l
/-- A load is played until a second is dark. -/
def runL : Int → Ply → List Int → Ply
  | _, p, [] => p
  | t, p, x :: l => if okP t p x = true then runL (t + 1) (goP t p x) l else darkP t p
def energies (p : Ply) : List Int := p.cs.map Cel.held
def burnts (p : Ply) : List Int := p.es.map Eng.burnt
def traceL : Int → Ply → List Int → List (List Int)
  | _, _, [] => []
  | t, p, x :: l => if okP t p x = true then energies (goP t p x) :: traceL (t + 1) (goP t p x) l else []
/-- All seconds of l are served. -/
def okL : Int → Ply → List Int → Prop
  | _, _, [] => True
  | t, p, x :: l => okP t p x = true ∧ okL (t + 1) (goP t p x) l

theorem goL_snoc : ∀ (l : List Int) (t : Int) (p : Ply) (x : Int), goL t p (l ++ [x]) = goP (t + l.length) (goL t p l) x := by
  intro l
  induction l with
  | nil => intro t p x; simp [goL]
  | cons a l ih =>
    intro t p x
    simp only [List.cons_append, goL, ih, List.length_cons]
    rw [show t + 1 + (l.length : Int) = t + ((l.length + 1 : Nat) : Int) by omega]
theorem anyL_snoc : ∀ (l : List Int) (t : Int) (p : Ply) (x : Int), anyL t p (l ++ [x]) = anyP (t + l.length) (anyL t p l) x := by
  intro l
  induction l with
  | nil => intro t p x; simp [anyL]
  | cons a l ih =>
    intro t p x
    simp only [List.cons_append, anyL, ih, List.length_cons]
    rw [show t + 1 + (l.length : Int) = t + ((l.length + 1 : Nat) : Int) by omega]
theorem okL_snoc : ∀ (l : List Int) (t : Int) (p : Ply) (x : Int), okL t p (l ++ [x]) ↔ okL t p l ∧ okP (t + l.length) (goL t p l) x = true := by
  intro l
  induction l with
  | nil => intro t p x; simp [okL, goL]
  | cons a l ih =>
    intro t p x
    simp only [List.cons_append, okL, goL, ih, List.length_cons, and_assoc]
    rw [show t + 1 + (l.length : Int) = t + ((l.length + 1 : Nat) : Int) by omega]
theorem runL_ok : ∀ (l m : List Int) (t : Int) (p : Ply), okL t p l → runL t p (l ++ m) = runL (t + l.length) (goL t p l) m := by
  intro l
  induction l with
  | nil => intro m t p _; simp [goL]
  | cons a l ih =>
    intro m t p h
    simp only [List.cons_append, runL, goL, if_pos h.1, ih _ _ _ h.2, List.length_cons]
    rw [show t + 1 + (l.length : Int) = t + ((l.length + 1 : Nat) : Int) by omega]
theorem traceL_ok : ∀ (l m : List Int) (t : Int) (p : Ply), okL t p l → traceL t p (l ++ m) = traceL t p l ++ traceL (t + l.length) (goL t p l) m := by
  intro l
  induction l with
  | nil => intro m t p _; simp [goL, traceL]
  | cons a l ih =>
    intro m t p h
    simp only [List.cons_append, traceL, goL, if_pos h.1, ih _ _ _ h.2, List.length_cons]
    rw [show t + 1 + (l.length : Int) = t + ((l.length + 1 : Nat) : Int) by omega]
theorem runL_all (l : List Int) (t : Int) (p : Ply) (h : okL t p l) : runL t p l = goL t p l := by
  have := runL_ok l [] t p h
  rwa [List.append_nil, runL] at this
theorem runL_dark (l m : List Int) (x t : Int) (p : Ply) (h : okL t p l) (hx : okP (t + l.length) (goL t p l) x = false) : runL t p (l ++ x :: m) = darkP (t + l.length) (goL t p l) := by
  rw [runL_ok l _ t p h, runL, if_neg (by rw [hx]; decide)]
theorem traceL_dark (l m : List Int) (x t : Int) (p : Ply) (h : okL t p l) (hx : okP (t + l.length) (goL t p l) x = false) : traceL t p (l ++ x :: m) = traceL t p l := by
  rw [traceL_ok l _ t p h, traceL, if_neg (by rw [hx]; decide), List.append_nil]
theorem traceL_snoc (l : List Int) (t : Int) (p : Ply) (x : Int) (h : okL t p l) (hx : okP (t + l.length) (goL t p l) x = true) : traceL t p (l ++ [x]) = traceL t p l ++ [energies (goL t p (l ++ [x]))] := by
  rw [traceL_ok l _ t p h, traceL, if_pos hx, traceL, goL_snoc]
/-- Each load is served whole, or up to a second that is dark. -/
theorem ok_or : ∀ (l : List Int) (t : Int) (p : Ply), okL t p l ∨ ∃ l1 x l2, l = l1 ++ x :: l2 ∧ okL t p l1 ∧ okP (t + l1.length) (goL t p l1) x = false := by
  intro l
  induction l with
  | nil => intro t p; exact Or.inl trivial
  | cons a l ih =>
    intro t p
    by_cases h : okP t p a = true
    · rcases ih (t + 1) (goP t p a) with h1 | ⟨l1, x, l2, rfl, h2, h3⟩
      · exact Or.inl ⟨h, h1⟩
      · refine Or.inr ⟨a :: l1, x, l2, rfl, ⟨h, h2⟩, ?_⟩
        simp only [List.length_cons, goL]
        rwa [show t + ((l1.length + 1 : Nat) : Int) = t + 1 + (l1.length : Int) by omega]
    · exact Or.inr ⟨[], a, l, rfl, trivial, by simpa [goL] using h⟩
end Go.Proofs.Ytnpkcipeacogcaa
