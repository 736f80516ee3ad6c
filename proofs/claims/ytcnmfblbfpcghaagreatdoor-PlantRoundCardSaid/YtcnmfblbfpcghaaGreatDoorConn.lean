/- What the forest means: two buses have one root just if links join them. -/
import Derived.Test.YtcnmfblbfpcghaaGreatDoorCopy

set_option linter.unusedSimpArgs false
set_option linter.unusedVariables false
namespace Go.Proofs.YtcnmfblbfpcghaaGreatDoor

theorem rootOf_out {l : List Nat} {x : Nat} (h : l.length ≤ x) : rootOf l x = x := by
  rw [rootOf, List.getElem?_eq_none h]
  simp
/-- A root stands for itself. -/
theorem rootOf_self {l : List Nat} (hd : DownTo l) (x : Nat) (hx : x < l.length) : l[rootOf l x]? = some (rootOf l x) := by
  induction x using Nat.strongRecOn with
  | _ x ih =>
    have hy := List.getElem?_eq_getElem hx
    have hle := hd x _ hy
    rcases Nat.lt_or_ge l[x] x with h | h
    · rw [rootOf_step hy h]
      exact ih _ h (by omega)
    · have e : l[x] = x := by omega
      rw [e] at hy
      rw [rootOf_end hy]
      exact hy
theorem rootOf_join {l : List Nat} (hd : DownTo l) (a b : Nat) (ha : a < l.length) (hb : b < l.length) (x : Nat) :
    rootOf (joinOf l a b) x = if rootOf l x = rootOf l a ∨ rootOf l x = rootOf l b then min (rootOf l a) (rootOf l b) else rootOf l x := by
  have ra := rootOf_self hd a ha
  have rb := rootOf_self hd b hb
  have la := rootOf_le l a
  have lb := rootOf_le l b
  unfold joinOf
  generalize rootOf l a = p at *
  generalize rootOf l b = q at *
  have hM : max p q < l.length := by omega
  induction x using Nat.strongRecOn with
  | _ x ih =>
    rcases Nat.lt_or_ge x l.length with hx | hx
    · have hy := List.getElem?_eq_getElem hx
      have hle := hd x _ hy
      rcases Nat.lt_or_ge l[x] x with h | h
      · have hne : max p q ≠ x := by
          intro e
          have h1 : l[x]? = some x := by
            rcases Nat.le_total p q with h2 | h2
            · rw [Nat.max_eq_right h2] at e
              rw [← e]
              exact rb
            · rw [Nat.max_eq_left h2] at e
              rw [← e]
              exact ra
          rw [h1] at hy
          simp only [Option.some.injEq] at hy
          omega
        rw [rootOf_step (l := l) hy h, rootOf_step (l := l.set (max p q) (min p q)) (y := l[x]) (by rw [List.getElem?_set_ne hne]; exact hy) h]
        exact ih _ h
      · have e : l[x] = x := by omega
        rw [e] at hy
        rw [rootOf_end hy]
        by_cases hq : x = max p q
        · have h1 : (l.set (max p q) (min p q))[x]? = some (min p q) := by
            rw [hq, List.getElem?_set_self hM]
          rw [if_pos (by omega)]
          rcases Nat.lt_or_ge (min p q) x with h2 | h2
          · rw [rootOf_step h1 h2]
            have h3 : l[min p q]? = some (min p q) := by
              rcases Nat.le_total p q with h4 | h4
              · rw [Nat.min_eq_left h4]
                exact ra
              · rw [Nat.min_eq_right h4]
                exact rb
            exact rootOf_end (by rw [List.getElem?_set_ne (by omega)]; exact h3)
          · have h5 : min p q = x := by omega
            rw [h5] at h1 ⊢
            exact rootOf_end h1
        · rw [rootOf_end (l := l.set (max p q) (min p q)) (by rw [List.getElem?_set_ne (by omega)]; exact hy)]
          split <;> omega
    · rw [rootOf_out hx, rootOf_out (by simpa using hx), if_neg (by omega)]

/-- What links join, besides what is joined already. -/
inductive Conn {B : Nat} (r : Nat → Nat → Prop) (xs : List (LnkOf B)) : Nat → Nat → Prop
  | base {i j : Nat} : r i j → Conn r xs i j
  | link {x : LnkOf B} : x ∈ xs → Conn r xs x.1.a.toNat x.1.b.toNat
  | symm {i j : Nat} : Conn r xs i j → Conn r xs j i
  | trans {i j k : Nat} : Conn r xs i j → Conn r xs j k → Conn r xs i k
theorem Conn.imp {B : Nat} {r r' : Nat → Nat → Prop} {xs ys : List (LnkOf B)} (h1 : ∀ i j, r i j → Conn r' ys i j) (h2 : ∀ x ∈ xs, Conn r' ys x.1.a.toNat x.1.b.toNat) {i j : Nat} (h : Conn r xs i j) : Conn r' ys i j := by
  induction h with
  | base h => exact h1 _ _ h
  | link h => exact h2 _ h
  | symm _ ih => exact ih.symm
  | trans _ _ ih1 ih2 => exact ih1.trans ih2
theorem joinAll_conn {B : Nat} (xs : List (LnkOf B)) : ∀ (f : List Nat), f.length = B → DownTo f → ∀ i j, rootOf (joinAll f xs) i = rootOf (joinAll f xs) j ↔ Conn (fun i j => rootOf f i = rootOf f j) xs i j := by
  induction xs with
  | nil =>
    intro f _ _ i j
    refine ⟨fun h => .base h, fun h => ?_⟩
    induction h with
    | base h => exact h
    | link h => cases h
    | symm _ ih => exact ih.symm
    | trans _ _ ih1 ih2 => exact ih1.trans ih2
  | cons x xs ih =>
    intro f hl hd i j
    have hxa : x.1.a.toNat < f.length := by have := x.2; omega
    have hxb : x.1.b.toNat < f.length := by have := x.2; omega
    have R := rootOf_join hd _ _ hxa hxb
    have h := ih (joinOf f x.1.a.toNat x.1.b.toNat) (by rw [joinOf_length]; exact hl) (joinOf_down hd _ _) i j
    have e : joinAll f (x :: xs) = joinAll (joinOf f x.1.a.toNat x.1.b.toNat) xs := rfl
    rw [e, h]
    have hab : Conn (fun i j => rootOf f i = rootOf f j) (x :: xs) x.1.a.toNat x.1.b.toNat := .link (List.mem_cons_self ..)
    constructor
    · refine Conn.imp (fun i j hr => ?_) (fun y hy => .link (List.mem_cons_of_mem _ hy))
      rw [R i, R j] at hr
      have key : ∀ k, (rootOf f k = rootOf f x.1.a.toNat ∨ rootOf f k = rootOf f x.1.b.toNat) → Conn (fun i j => rootOf f i = rootOf f j) (x :: xs) k x.1.a.toNat := by
        rintro k (h | h)
        · exact .base h
        · exact .trans (.base h) hab.symm
      split at hr
      · rename_i hi
        split at hr
        · rename_i hj
          exact (key i hi).trans (key j hj).symm
        · rename_i hj
          exfalso
          apply hj
          rw [← hr]
          omega
      · rename_i hi
        split at hr
        · rename_i hj
          exfalso
          apply hi
          rw [hr]
          omega
        · exact .base hr
    · refine Conn.imp (fun i j hr => .base ?_) (fun y hy => ?_)
      · show rootOf _ i = rootOf _ j
        rw [R i, R j, hr]
      · rcases List.mem_cons.1 hy with rfl | hy
        · refine .base ?_
          show rootOf _ _ = rootOf _ _
          rw [R, R, if_pos (.inl rfl), if_pos (.inr rfl)]
        · exact .link hy
/-- Joined by links. -/
def Joined {B : Nat} (xs : List (LnkOf B)) : Nat → Nat → Prop := Conn (fun i j => i = j) xs
theorem rootOf_range (n x : Nat) : rootOf (List.range n) x = x := by
  rcases Nat.lt_or_ge x n with h | h
  · exact rootOf_end (by simp [h])
  · exact rootOf_out (by simpa using h)
theorem root_joined {B : Nat} (xs : List (LnkOf B)) (i j : Nat) : rootOf (joinAll (List.range B) xs) i = rootOf (joinAll (List.range B) xs) j ↔ Joined xs i j := by
  rw [joinAll_conn xs _ (by simp) (range_down B)]
  constructor
  · exact Conn.imp (fun i j h => .base (by rwa [rootOf_range, rootOf_range] at h)) (fun x h => .link h)
  · exact Conn.imp (fun i j h => .base (by rw [h])) (fun x h => .link h)
/-- What conducts. -/
theorem mem_condTo {B : Nat} (s : Stt) (L : List (LnkOf B)) (n : Nat) (x : LnkOf B) : x ∈ condTo s L n ↔ ∃ k, k < n ∧ L[k]? = some x ∧ conds s k x.1 = true := by
  induction n with
  | zero => simp [condTo]
  | succ n ih =>
    rw [condTo, List.mem_append, ih]
    constructor
    · rintro (⟨k, h1, h2, h3⟩ | h)
      · exact ⟨k, by omega, h2, h3⟩
      · split at h
        · rename_i y hy
          split at h
          · rename_i hc
            rw [List.mem_singleton] at h
            subst h
            exact ⟨n, by omega, hy, hc⟩
          · cases h
        · cases h
    · rintro ⟨k, h1, h2, h3⟩
      rcases Nat.lt_or_ge k n with h | h
      · exact .inl ⟨k, h, h2, h3⟩
      · obtain rfl : k = n := by omega
        right
        simp [h2, h3]
end Go.Proofs.YtcnmfblbfpcghaaGreatDoor

/- What Live's answer means. -/
namespace Go.Proofs.YtcnmfblbfpcghaaGreatDoor

theorem homeL_get {B : Nat} (p : Plt) (s : Stt) (L : List (LnkOf B)) (i : Nat) (hi : i < B) : (homeL p s L)[i]? = some (homeAt (joinAll (List.range B) (condTo s L p.ln)) s i) := by
  unfold homeL homeTo
  rw [List.getElem?_map, List.getElem?_range hi]
  simp [hi]
theorem mem_feedTo {B : Nat} (s : Stt) (S : List Src) (H : List Int) (n : Nat) (k : Nat) (m : Fin B) :
    (k, m) ∈ feedTo s S H n ↔ k < n ∧ ∃ x, S[k]? = some x ∧ bit s.on k = true ∧ bit s.badSource k = false ∧ isl B (H[x.bus.toNat]?.getD (-1)) = some m := by
  induction n with
  | zero => simp [feedTo]
  | succ n ih =>
    rw [feedTo, List.mem_append, ih]
    have hat : (k, m) ∈ feedAt (B := B) s S H n ↔ k = n ∧ ∃ x, S[n]? = some x ∧ bit s.on n = true ∧ bit s.badSource n = false ∧ isl B (H[x.bus.toNat]?.getD (-1)) = some m := by
      unfold feedAt
      cases hx : S[n]? with
      | none => simp
      | some x =>
        by_cases hc : (bit s.on n && !bit s.badSource n) = true
        · simp only [hc, if_true]
          simp only [Bool.and_eq_true, Bool.not_eq_true'] at hc
          cases hm : isl B (H[x.bus.toNat]?.getD (-1)) with
          | none => simp [hm]
          | some m' =>
            simp only [List.mem_singleton, Prod.mk.injEq, Option.some.injEq]
            constructor
            · rintro ⟨rfl, rfl⟩
              exact ⟨rfl, x, rfl, hc.1, hc.2, hm⟩
            · rintro ⟨rfl, y, rfl, _, _, h⟩
              rw [hm] at h
              exact ⟨rfl, (Option.some.inj h).symm⟩
        · simp only [hc]
          simp only [Bool.and_eq_true, Bool.not_eq_true', not_and] at hc
          constructor
          · intro h
            simp at h
          · rintro ⟨rfl, y, _, h1, h2, _⟩
            exact absurd h2 (hc h1)
    rw [hat]
    constructor
    · rintro (⟨h1, x, h⟩ | ⟨rfl, x, h⟩)
      · exact ⟨by omega, x, h⟩
      · exact ⟨by omega, x, h⟩
    · rintro ⟨h1, x, h⟩
      rcases Nat.lt_or_ge k n with h2 | h2
      · exact .inl ⟨h2, x, h⟩
      · obtain rfl : k = n := by omega
        exact .inr ⟨rfl, x, h⟩
/-- A source that may feed: it is on, has not failed, and its bus has not. -/
def Feeds (p : Plt) (s : Stt) (k : Nat) (x : Src) : Prop := p.srcs[k]? = some x ∧ bit s.on k = true ∧ bit s.badSource k = false ∧ bit s.badBus x.bus.toNat = false
theorem isl_home {B : Nat} (f : List Nat) (s : Stt) (i : Nat) (m : Fin B) (hi : i < B) : isl B (homeAt f s i) = some m ↔ bit s.badBus i = false ∧ rootOf f i = m.val := by
  unfold homeAt
  cases hb : bit s.badBus i
  · simp only [Bool.false_eq_true, if_false, true_and]
    have e := isl_some (⟨rootOf f i, Nat.lt_of_le_of_lt (rootOf_le f i) hi⟩ : Fin B)
    dsimp only at e
    rw [e]
    simp only [Option.some.injEq]
    exact ⟨fun h => by rw [← h], fun h => Fin.ext h⟩
  · simp only [if_true]
    rw [isl_none]
    simp
theorem live_iff {p : Plt} {s : Stt} {B : Nat} {L : List (LnkOf B)} (S : Sound p s B L) (hsn : p.srcs.length = p.sn) (i : Nat) (hi : i < B) :
    (liveL p s L)[i]? = some true ↔ bit s.badBus i = false ∧ ∃ k x, Feeds p s k x ∧ Joined (condTo s L p.ln) x.bus.toNat i := by
  unfold liveL liveTo
  rw [List.getElem?_map, List.getElem?_range hi]
  simp only [Option.map_some, if_pos hi, Option.some.injEq]
  unfold liveAt
  rw [homeL_get p s L i hi]
  simp only [Option.getD_some]
  generalize hf : joinAll (List.range B) (condTo s L p.ln) = f
  constructor
  · intro h
    split at h
    · rename_i m hm
      obtain ⟨h1, h2⟩ := (isl_home f s i m hi).1 hm
      refine ⟨h1, ?_⟩
      unfold fedOf at h
      rw [List.getElem?_map, List.getElem?_range m.isLt] at h
      simp only [Option.map_some, Option.getD_some, List.any_eq_true, beq_iff_eq] at h
      obtain ⟨⟨k, m'⟩, hmem, he⟩ := h
      obtain ⟨hk, x, hx, hon, hbad, hisl⟩ := (mem_feedTo s p.srcs (homeL p s L) p.sn k m').1 hmem
      have hxb := S.srcs x (List.mem_of_getElem? hx)
      have hxB : x.bus.toNat < B := by omega
      rw [homeL_get p s L _ hxB] at hisl
      simp only [Option.getD_some] at hisl
      rw [hf] at hisl
      obtain ⟨h3, h4⟩ := (isl_home f s _ m' hxB).1 hisl
      refine ⟨k, x, ⟨hx, hon, hbad, h3⟩, ?_⟩
      rw [← root_joined, hf, h4, h2]
      exact he
    · cases h
  · rintro ⟨h1, k, x, ⟨hx, hon, hbad, hbb⟩, hj⟩
    have hxb := S.srcs x (List.mem_of_getElem? hx)
    have hxB : x.bus.toNat < B := by omega
    rw [← root_joined, hf] at hj
    have hm : isl B (homeAt f s i) = some ⟨rootOf f i, Nat.lt_of_le_of_lt (rootOf_le f i) hi⟩ := (isl_home f s i _ hi).2 ⟨h1, rfl⟩
    rw [hm]
    dsimp only
    unfold fedOf
    rw [List.getElem?_map, List.getElem?_range (Nat.lt_of_le_of_lt (rootOf_le f i) hi)]
    simp only [Option.map_some, Option.getD_some, List.any_eq_true, beq_iff_eq]
    refine ⟨(k, ⟨rootOf f i, Nat.lt_of_le_of_lt (rootOf_le f i) hi⟩), (mem_feedTo s p.srcs (homeL p s L) p.sn k _).2 ⟨?_, x, hx, hon, hbad, ?_⟩, rfl⟩
    · rw [← hsn]
      exact (List.getElem?_eq_some_iff.1 hx).1
    · rw [homeL_get p s L _ hxB]
      simp only [Option.getD_some]
      rw [hf]
      exact (isl_home f s _ _ hxB).2 ⟨hbb, hj⟩
end Go.Proofs.YtcnmfblbfpcghaaGreatDoor

/- A state that is worse: what fails, or opens, makes no dead bus live. -/
namespace Go.Proofs.YtcnmfblbfpcghaaGreatDoor

/-- In t no link is closed and no source is on that is not in s, and all that has failed in s has failed in t. -/
structure Worse (s t : Stt) : Prop where
  closed : ∀ i, bit t.closed i = true → bit s.closed i = true
  on : ∀ i, bit t.on i = true → bit s.on i = true
  badLink : ∀ i, bit t.badLink i = false → bit s.badLink i = false
  badSource : ∀ i, bit t.badSource i = false → bit s.badSource i = false
  badBus : ∀ i, bit t.badBus i = false → bit s.badBus i = false
theorem Worse.conds {s t : Stt} (h : Worse s t) (k : Nat) (x : Lnk) (hc : conds t k x = true) : conds s k x = true := by
  simp only [Proofs.YtcnmfblbfpcghaaGreatDoor.conds, Bool.and_eq_true, Bool.not_eq_true'] at hc ⊢
  exact ⟨⟨⟨h.closed _ hc.1.1.1, h.badLink _ hc.1.1.2⟩, h.badBus _ hc.1.2⟩, h.badBus _ hc.2⟩
theorem Worse.joined {s t : Stt} (h : Worse s t) {B : Nat} {L : List (LnkOf B)} {n i j : Nat} (hj : Joined (condTo t L n) i j) : Joined (condTo s L n) i j := by
  refine Conn.imp (fun i j e => .base e) (fun x hx => ?_) hj
  obtain ⟨k, h1, h2, h3⟩ := (mem_condTo t L n x).1 hx
  exact .link ((mem_condTo s L n x).2 ⟨k, h1, h2, h.conds k x.1 h3⟩)
theorem Worse.live {s t : Stt} (h : Worse s t) {p : Plt} {B : Nat} {L : List (LnkOf B)} (S : Sound p s B L) (T : Sound p t B L) (hsn : p.srcs.length = p.sn) (i : Nat) (hi : i < B) (hl : (liveL p t L)[i]? = some true) : (liveL p s L)[i]? = some true := by
  obtain ⟨h1, k, x, ⟨hx, hon, hbad, hbb⟩, hj⟩ := (live_iff T hsn i hi).1 hl
  exact (live_iff S hsn i hi).2 ⟨h.badBus _ h1, k, x, ⟨hx, h.on _ hon, h.badSource _ hbad, h.badBus _ hbb⟩, h.joined hj⟩
/-- A list of bools in which one is set. -/
theorem bit_set (b : Bs) (i : Nat) (x : Bool) (k : Nat) (hi : i < b.l.length) : bit { b with l := b.l.set i x } k = if k = i then x else bit b k := by
  unfold bit
  dsimp only
  rw [List.getElem?_set]
  split
  · rename_i e
    subst e
    simp [hi]
  · rename_i e
    rw [if_neg (fun h => e h.symm)]
theorem Worse.refl (s : Stt) : Worse s s := ⟨fun _ h => h, fun _ h => h, fun _ h => h, fun _ h => h, fun _ h => h⟩
theorem Worse.break_bus (s : Stt) (i : Nat) (hi : i < s.badBus.l.length) : Worse s { s with badBus := { s.badBus with l := s.badBus.l.set i true } } := by
  refine ⟨fun _ h => h, fun _ h => h, fun _ h => h, fun _ h => h, fun k h => ?_⟩
  have e := bit_set s.badBus i true k hi
  dsimp only at h
  rw [e] at h
  split at h
  · cases h
  · exact h
theorem Worse.break_source (s : Stt) (i : Nat) (hi : i < s.badSource.l.length) : Worse s { s with badSource := { s.badSource with l := s.badSource.l.set i true } } := by
  refine ⟨fun _ h => h, fun _ h => h, fun _ h => h, fun k h => ?_, fun _ h => h⟩
  have e := bit_set s.badSource i true k hi
  dsimp only at h
  rw [e] at h
  split at h
  · cases h
  · exact h
theorem Worse.break_link (s : Stt) (i : Nat) (hi : i < s.badLink.l.length) : Worse s { s with badLink := { s.badLink with l := s.badLink.l.set i true } } := by
  refine ⟨fun _ h => h, fun _ h => h, fun k h => ?_, fun _ h => h, fun _ h => h⟩
  have e := bit_set s.badLink i true k hi
  dsimp only at h
  rw [e] at h
  split at h
  · cases h
  · exact h
theorem Worse.open_link (s : Stt) (i : Nat) (hi : i < s.closed.l.length) : Worse { s with closed := { s.closed with l := s.closed.l.set i true } } s := by
  refine ⟨fun k h => ?_, fun _ h => h, fun _ h => h, fun _ h => h, fun _ h => h⟩
  have e := bit_set s.closed i true k hi
  dsimp only
  rw [e]
  split
  · rfl
  · exact h
end Go.Proofs.YtcnmfblbfpcghaaGreatDoor
