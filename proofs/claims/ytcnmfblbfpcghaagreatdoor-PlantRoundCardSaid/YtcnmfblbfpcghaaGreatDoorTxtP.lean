/- The text of a plant as a list of bytes: what is read of it, line by line; what is written is read, and what is read was written so. -/
import Derived.Test.YtcnmfblbfpcghaaGreatDoorFmtB
import Derived.Test.YtcnmfblbfpcghaaGreatDoorCutP
import Derived.Test.YtcnmfblbfpcghaaGreatDoorPltO
import Derived.Test.YtcnmfblbfpcghaaGreatDoorNum
import Derived.Test.YtcnmfblbfpcghaaGreatDoorFree9P
import Derived.BigQuiet

set_option linter.unusedSimpArgs false
set_option linter.unusedVariables false
namespace Go.Proofs.YtcnmfblbfpcghaaGreatDoor
open Go.RowKit Go.Shelf

/-- A link's content. -/
structure LnkD where
  (a b kind most ohm : Int)
  trip : List Trp
def Lnk.data (x : Lnk) : LnkD := ⟨x.a, x.b, x.kind, x.most, x.ohm, x.trip⟩
/-- A plant's content. -/
structure PlD where
  buses : Int
  srcs : List Src
  lnks : List LnkD
  rcks : List Rck
def Plt.data (p : Plt) : PlD := ⟨p.buses, p.srcs, p.lnks.map Lnk.data, p.rcks⟩
def PlD.zero : PlD := ⟨0, [], [], []⟩
def plWd (n : Int) : List (List UInt8) := [wPlant, Lib.itoa n]
def srcWd (x : Src) : List (List UInt8) := [wSource, Lib.itoa x.bus, srcWord x.kind, Lib.itoa x.power, Lib.itoa x.sync, Lib.itoa x.ohm]
def lnkWd (x : LnkD) : List (List UInt8) := [wLink, Lib.itoa x.a, Lib.itoa x.b, lnkWord x.kind, Lib.itoa x.most, Lib.itoa x.ohm] ++ x.trip.map tripW
def rckWd (x : Rck) : List (List UInt8) := [wRack, Lib.itoa x.f0, Lib.itoa x.f1, Lib.itoa x.power, Lib.itoa x.paths]
def formatD (d : PlD) : List UInt8 := lineOf (plWd d.buses) ++ d.srcs.flatMap (fun x => lineOf (srcWd x)) ++ d.lnks.flatMap (fun x => lineOf (lnkWd x)) ++ d.rcks.flatMap (fun x => lineOf (rckWd x))
theorem join_two (x y : List UInt8) (l : List (List UInt8)) : Lib.join (x :: y :: l) [32] = x ++ 32 :: Lib.join (y :: l) [32] := by
  rw [Lib.join_cons, joinTail_cons]
theorem join_in (x : List UInt8) (l m : List (List UInt8)) (hl : l ≠ []) : Lib.join (Lib.join l [32] :: m) [32] = Lib.join (l ++ m) [32] := by
  cases l with
  | nil => exact absurd rfl hl
  | cons y l =>
    rw [Lib.join_cons, Lib.join_cons, List.cons_append, Lib.join_cons]
    simp [Lib.joinTail, List.append_assoc]
theorem src_words (x : Src) : lineOf (srcWs x) = lineOf (srcWd x) := by
  simp [lineOf, srcWs, srcWd, spacedL, Lib.join_cons, Lib.joinTail]
theorem lnk_words (x : Lnk) : lineOf (lnkWs x) = lineOf (lnkWd x.data) := by
  simp [lineOf, lnkWs, lnkWd, spacedL, Lib.join_cons, Lib.joinTail, Lnk.data]
theorem rck_words (x : Rck) : lineOf (rckWs x) = lineOf (rckWd x) := by
  simp [lineOf, rckWs, rckWd, spacedL, Lib.join_cons, Lib.joinTail]
theorem formatL_data (p : Plt) : formatL p = formatD p.data := by
  unfold formatL formatD headL
  rw [show spacedL [p.buses] = Lib.itoa p.buses from by simp [spacedL, Lib.join_cons, Lib.joinTail]]
  simp only [src_words, lnk_words, rck_words, Plt.data, plWd, List.flatMap_map]

/-! Reading -/
def kindOf (w : List UInt8) : Int := if w = wPlant then 0 else if w = wSource then 1 else if w = wLink then 2 else if w = wRack then 3 else -1
def srcKind (w : List UInt8) : Option Int := if w = srcWord 1 then some 1 else if w = srcWord 2 then some 2 else if w = srcWord 3 then some 3 else none
def lnkKind (w : List UInt8) : Option Int := if w = lnkWord 1 then some 1 else if w = lnkWord 2 then some 2 else if w = lnkWord 3 then some 3 else none
def readSrc : List (List UInt8) → Option Src
  | [b, k, p, s, o] => match srcKind k, numL b, numAll [p, s, o] with
    | some k, some b, some [p, s, o] => some ⟨b, k, p, s, o⟩
    | _, _, _ => none
  | _ => none
def readTrip (w : List UInt8) : Option Trp := if (splitC 58 w).length = 2 then match numAll (splitC 58 w) with
    | some [a, m] => some ⟨a, m⟩
    | _ => none
  else none
def readTrips : List (List UInt8) → Option (List Trp)
  | [] => some []
  | w :: r => match readTrip w with
    | some t => (readTrips r).map (t :: ·)
    | none => none
def readLnk : List (List UInt8) → Option LnkD
  | a :: b :: k :: m :: o :: ts => match lnkKind k, numAll [a, b], numAll [m, o], readTrips ts with
    | some k, some [a, b], some [m, o], some ts => some ⟨a, b, k, m, o, ts⟩
    | _, _, _, _ => none
  | _ => none
def readRck (ws : List (List UInt8)) : Option Rck := if ws.length = 4 then match numAll ws with
    | some [a, b, c, d] => some ⟨a, b, c, d⟩
    | _ => none
  else none
/-- What has been read: so many lines, the last one's kind, and the plant so far. -/
structure RdS where
  index : Nat
  last : Int
  d : PlD
def RdS.next (s : RdS) : RdS := { s with index := s.index + 1 }
def RdS.kind (s : RdS) (k : Int) (r : List (List UInt8)) : Option RdS :=
  if k = 0 then match (if r.length = 1 then numAll r else none) with
    | some (n :: _) => some ⟨s.index, k, { s.d with buses := n }⟩
    | _ => none
  else if k = 1 then match readSrc r with
    | some x => some ⟨s.index, k, { s.d with srcs := s.d.srcs ++ [x] }⟩
    | none => none
  else if k = 2 then match readLnk r with
    | some x => some ⟨s.index, k, { s.d with lnks := s.d.lnks ++ [x] }⟩
    | none => none
  else match readRck r with
    | some x => some ⟨s.index, k, { s.d with rcks := s.d.rcks ++ [x] }⟩
    | none => none
def RdS.line (s : RdS) : List (List UInt8) → Option RdS
  | [] => none
  | w :: r => if s.last ≤ kindOf w ∧ (kindOf w = 0 ↔ s.index = 0) then s.kind (kindOf w) r else none
def linesL : Nat → RdS → List UInt8 → Nat × Option RdS
  | 0, s, _ => (s.index, none)
  | f + 1, s, t =>
    if t = [] ∧ s.index ≠ 0 then (s.index, some s)
    else if (cutC 10 t).2.2 = true then match s.line (splitC 32 (cutC 10 t).1) with
      | some s' => linesL f s'.next (cutC 10 t).2.1
      | none => (s.index, none)
    else (s.index, none)
def RdS.zero : RdS := ⟨0, 0, PlD.zero⟩
def parseL (t : List UInt8) : Nat × Option RdS := linesL (t.length + 1) RdS.zero t
theorem line_index {s s' : RdS} {ws : List (List UInt8)} (h : s.line ws = some s') : s'.index = s.index := by
  unfold RdS.line at h
  split at h
  · cases h
  · split at h
    · unfold RdS.kind at h
      split at h
      · split at h
        · cases h; rfl
        · cases h
      · split at h
        · split at h
          · cases h; rfl
          · cases h
        · split at h
          · split at h
            · cases h; rfl
            · cases h
          · split at h
            · cases h; rfl
            · cases h
    · cases h
theorem linesL_fuel : ∀ (f g : Nat) (s : RdS) (t : List UInt8), t.length < f → t.length < g → linesL f s t = linesL g s t := by
  intro f
  induction f with
  | zero => intro g s t h; omega
  | succ f ih =>
    intro g s t h1 h2
    cases g with
    | zero => omega
    | succ g =>
      unfold linesL
      split
      · rfl
      · split
        · rename_i hc
          have hl := congrArg List.length (cutC_some hc).1
          simp at hl
          split
          · exact ih g _ _ (by omega) (by omega)
          · rfl
        · rfl
theorem srcKind_word {w : List UInt8} {k : Int} (h : srcKind w = some k) : w = srcWord k ∧ 1 ≤ k ∧ k ≤ 3 := by
  unfold srcKind at h
  split at h
  · rename_i h1; cases h; exact ⟨h1, by omega, by omega⟩
  · split at h
    · rename_i h1; cases h; exact ⟨h1, by omega, by omega⟩
    · split at h
      · rename_i h1; cases h; exact ⟨h1, by omega, by omega⟩
      · cases h
theorem lnkKind_word {w : List UInt8} {k : Int} (h : lnkKind w = some k) : w = lnkWord k ∧ 1 ≤ k ∧ k ≤ 3 := by
  unfold lnkKind at h
  split at h
  · rename_i h1; cases h; exact ⟨h1, by omega, by omega⟩
  · split at h
    · rename_i h1; cases h; exact ⟨h1, by omega, by omega⟩
    · split at h
      · rename_i h1; cases h; exact ⟨h1, by omega, by omega⟩
      · cases h
theorem srcKind_some {k : Int} (h1 : 1 ≤ k) (h3 : k ≤ 3) : srcKind (srcWord k) = some k := by
  have hk : k = 1 ∨ k = 2 ∨ k = 3 := by omega
  rcases hk with rfl | rfl | rfl <;> rfl
theorem lnkKind_some {k : Int} (h1 : 1 ≤ k) (h3 : k ≤ 3) : lnkKind (lnkWord k) = some k := by
  have hk : k = 1 ∨ k = 2 ∨ k = 3 := by omega
  rcases hk with rfl | rfl | rfl <;> rfl
theorem readTrip_word {w : List UInt8} {t : Trp} (h : readTrip w = some t) : w = tripW t := by
  unfold readTrip at h
  split at h
  · split at h
    · rename_i a m hn
      cases h
      have h1 := numAll_words hn
      have h2 := join_splitC 58 w
      rw [h1] at h2
      rw [← h2]
      simp [tripW, Lib.join_cons, Lib.joinTail]
    · cases h
  · cases h
theorem readTrip_some {t : Trp} (h : Num9 t.amps ∧ Num9 t.millis) : readTrip (tripW t) = some t := by
  have h1 : splitC 58 (tripW t) = [t.amps, t.millis].map Lib.itoa := by
    have : tripW t = Lib.join ([t.amps, t.millis].map Lib.itoa) [58] := by simp [tripW, Lib.join_cons, Lib.joinTail]
    rw [this]
    exact splitC_join 58 _ (by simp) (by
      intro w hw
      obtain ⟨n, _, rfl⟩ := List.mem_map.1 hw
      exact itoa_free n 58 (by simp))
  have h2 : numAll ([t.amps, t.millis].map Lib.itoa) = some [t.amps, t.millis] := numAll_itoa (by
    intro n hn
    simp only [List.mem_cons, List.mem_nil_iff, or_false] at hn
    rcases hn with rfl | rfl
    · exact h.1
    · exact h.2)
  unfold readTrip
  rw [h1, h2]
  rfl
theorem readTrips_snoc : ∀ (l : List (List UInt8)) (w : List UInt8), readTrips (l ++ [w]) = (readTrips l).bind fun a => (readTrip w).map fun n => a ++ [n] := by
  intro l
  induction l with
  | nil => intro w; simp only [List.nil_append, readTrips, Option.bind_some]; cases readTrip w <;> rfl
  | cons x l ih =>
    intro w
    rw [List.cons_append, readTrips, readTrips]
    cases readTrip x with
    | none => rfl
    | some n =>
      simp only []
      rw [ih w]
      cases readTrips l with
      | none => rfl
      | some a =>
        simp only [Option.bind_some, Option.map_some]
        cases readTrip w <;> rfl
theorem readTrips_none {l : List (List UInt8)} {k : Nat} {w : List UInt8} (hk : l[k]? = some w) (h : readTrip w = none) : readTrips l = none := by
  induction l generalizing k with
  | nil => simp at hk
  | cons x l ih =>
    rw [readTrips]
    cases k with
    | zero =>
      simp at hk
      subst hk
      rw [h]
    | succ k =>
      have := ih (by simpa using hk)
      rw [this]
      cases readTrip x <;> rfl
theorem readTrips_words : ∀ {l : List (List UInt8)} {a : List Trp}, readTrips l = some a → l = a.map tripW := by
  intro l
  induction l with
  | nil => intro a h; cases h; rfl
  | cons x l ih =>
    intro a h
    rw [readTrips] at h
    cases hx : readTrip x with
    | none => rw [hx] at h; cases h
    | some n =>
      rw [hx] at h
      cases hl : readTrips l with
      | none => simp only [hl] at h; cases h
      | some b =>
        simp only [hl, Option.map_some, Option.some.injEq] at h
        subst h
        rw [List.map_cons, ← ih hl, ← readTrip_word hx]
theorem readTrips_some : ∀ {a : List Trp}, (∀ t ∈ a, Num9 t.amps ∧ Num9 t.millis) → readTrips (a.map tripW) = some a := by
  intro a
  induction a with
  | nil => intro _; rfl
  | cons n a ih =>
    intro h
    rw [List.map_cons, readTrips, readTrip_some (h n (List.mem_cons_self ..)), ih fun m hm => h m (List.mem_cons_of_mem _ hm)]
    rfl
theorem readSrc_words {r : List (List UInt8)} {x : Src} (h : readSrc r = some x) : wSource :: r = srcWd x := by
  unfold readSrc at h
  split at h
  · split at h
    · rename_i h1 h2 h3
      cases h
      have h4 := numAll_words h3
      simp only [List.map_cons, List.map_nil, List.cons.injEq] at h4
      obtain ⟨rfl, rfl, rfl, _⟩ := h4
      rw [(srcKind_word h1).1, numL_word h2]
      rfl
    · cases h
  · cases h
theorem readLnk_words {r : List (List UInt8)} {x : LnkD} (h : readLnk r = some x) : wLink :: r = lnkWd x := by
  unfold readLnk at h
  split at h
  · split at h
    · rename_i h1 h2 h3 h4
      cases h
      have h5 := numAll_words h2
      have h6 := numAll_words h3
      simp only [List.map_cons, List.map_nil, List.cons.injEq] at h5 h6
      obtain ⟨rfl, rfl, _⟩ := h5
      obtain ⟨rfl, rfl, _⟩ := h6
      rw [(lnkKind_word h1).1, readTrips_words h4]
      rfl
    · cases h
  · cases h
theorem readRck_words {r : List (List UInt8)} {x : Rck} (h : readRck r = some x) : wRack :: r = rckWd x := by
  unfold readRck at h
  split at h
  · split at h
    · rename_i h3
      cases h
      rw [numAll_words h3]
      rfl
    · cases h
  · cases h
theorem kindOf_word {w : List UInt8} : (kindOf w = 0 ∧ w = wPlant) ∨ (kindOf w = 1 ∧ w = wSource) ∨ (kindOf w = 2 ∧ w = wLink) ∨ (kindOf w = 3 ∧ w = wRack) ∨ (kindOf w = -1 ∧ w ≠ wPlant ∧ w ≠ wSource ∧ w ≠ wLink ∧ w ≠ wRack) := by
  unfold kindOf
  split
  · exact .inl ⟨rfl, by assumption⟩
  · split
    · exact .inr (.inl ⟨rfl, by assumption⟩)
    · split
      · exact .inr (.inr (.inl ⟨rfl, by assumption⟩))
      · split
        · exact .inr (.inr (.inr (.inl ⟨rfl, by assumption⟩)))
        · exact .inr (.inr (.inr (.inr ⟨rfl, by assumption, by assumption, by assumption, by assumption⟩)))

/-! What is read was written so. -/
structure Told (s : RdS) (done : List UInt8) : Prop where
  last : 0 ≤ s.last
  none : s.index = 0 → done = [] ∧ s.d = PlD.zero
  some : s.index ≠ 0 → done = formatD s.d
  srcs : s.last < 1 → s.d.srcs = []
  lnks : s.last < 2 → s.d.lnks = []
  rcks : s.last < 3 → s.d.rcks = []
theorem told_line {s s' : RdS} {ws : List (List UInt8)} {done : List UInt8} (ht : Told s done) (h : s.line ws = some s') : Told s'.next (done ++ lineOf ws) := by
  cases ws with
  | nil => cases h
  | cons w r =>
    rw [RdS.line] at h
    split at h
    · rename_i hk
      obtain ⟨hk1, hk2⟩ := hk
      unfold RdS.kind at h
      rcases kindOf_word (w := w) with ⟨e, ew⟩ | ⟨e, ew⟩ | ⟨e, ew⟩ | ⟨e, ew⟩ | ⟨e, _⟩
      · rw [e] at h hk1 hk2
        rw [if_pos rfl] at h
        have hi : s.index = 0 := hk2.1 rfl
        obtain ⟨hd, hz⟩ := ht.none hi
        split at h
        · rename_i n l hn
          cases h
          split at hn
          · rename_i hl
            have h1 := numAll_words hn
            have h2 := numAll_len hn
            have h3 : l = [] := by
              rw [hl] at h2
              exact List.eq_nil_of_length_eq_zero (by simpa using h2)
            subst h3
            refine ⟨by simp [RdS.next], fun h => by simp [RdS.next] at h, fun _ => ?_, fun _ => ?_, fun _ => ?_, fun _ => ?_⟩
            · rw [hd, ew, h1]
              simp [RdS.next, hz, PlD.zero, formatD, plWd]
            · simp [RdS.next, hz, PlD.zero]
            · simp [RdS.next, hz, PlD.zero]
            · simp [RdS.next, hz, PlD.zero]
          · cases hn
        · cases h
      · rw [e] at h hk1 hk2
        rw [if_neg (by decide), if_pos rfl] at h
        have hi : s.index ≠ 0 := fun e => by have := hk2.2 e; omega
        split at h
        · rename_i x hx
          cases h
          have h1 := readSrc_words hx
          have h2 := ht.lnks (by omega)
          have h3 := ht.rcks (by omega)
          refine ⟨by simp [RdS.next], fun h => by simp [RdS.next] at h, fun _ => ?_, fun h => ?_, fun _ => h2, fun _ => h3⟩
          · rw [ht.some hi, ew, h1]
            simp [RdS.next, formatD, h2, h3]
          · simp [RdS.next] at h
        · cases h
      · rw [e] at h hk1 hk2
        rw [if_neg (by decide), if_neg (by decide), if_pos rfl] at h
        have hi : s.index ≠ 0 := fun e => by have := hk2.2 e; omega
        split at h
        · rename_i x hx
          cases h
          have h1 := readLnk_words hx
          have h3 := ht.rcks (by omega)
          refine ⟨by simp [RdS.next], fun h => by simp [RdS.next] at h, fun _ => ?_, fun h => ?_, fun h => ?_, fun _ => h3⟩
          · rw [ht.some hi, ew, h1]
            simp [RdS.next, formatD, h3]
          · simp [RdS.next] at h
          · simp [RdS.next] at h
        · cases h
      · rw [e] at h hk1 hk2
        rw [if_neg (by decide), if_neg (by decide), if_neg (by decide)] at h
        have hi : s.index ≠ 0 := fun e => by have := hk2.2 e; omega
        split at h
        · rename_i x hx
          cases h
          have h1 := readRck_words hx
          refine ⟨by simp [RdS.next], fun h => by simp [RdS.next] at h, fun _ => ?_, fun h => ?_, fun h => ?_, fun h => ?_⟩
          · rw [ht.some hi, ew, h1]
            simp [RdS.next, formatD]
          · simp [RdS.next] at h
          · simp [RdS.next] at h
          · simp [RdS.next] at h
        · cases h
      · have := ht.last
        omega
    · cases h
theorem told_lines : ∀ (f : Nat) (s : RdS) (t done : List UInt8) (i : Nat) (s' : RdS), Told s done → linesL f s t = (i, some s') → Told s' (done ++ t) ∧ s'.index ≠ 0 := by
  intro f
  induction f with
  | zero => intro s t done i s' _ h; cases h
  | succ f ih =>
    intro s t done i s' ht h
    unfold linesL at h
    split at h
    · rename_i h1
      cases h
      rw [h1.1, List.append_nil]
      exact ⟨ht, h1.2⟩
    · split at h
      · rename_i hc
        obtain ⟨hc1, hc2⟩ := cutC_some hc
        split at h
        · rename_i s2 hs
          have h1 := told_line ht hs
          have h2 := ih _ _ _ _ _ h1 h
          have h3 : done ++ t = done ++ lineOf (splitC 32 (cutC 10 t).1) ++ (cutC 10 t).2.1 := by
            unfold lineOf
            rw [join_splitC]
            conv => lhs; rw [hc1]
            simp
          rw [h3]
          exact h2
        · cases h
      · cases h
theorem told_zero : Told RdS.zero [] := ⟨by decide, fun _ => ⟨rfl, rfl⟩, fun h => absurd rfl h, fun _ => rfl, fun _ => rfl, fun _ => rfl⟩
/-- Whatever is read is the text of what was read. -/
theorem format_parse {t : List UInt8} {i : Nat} {s : RdS} (h : parseL t = (i, some s)) : formatD s.d = t := by
  obtain ⟨h1, h2⟩ := told_lines _ _ _ _ _ _ told_zero h
  exact (h1.some h2).symm

/-! What is written is read. -/
theorem join_free (c : UInt8) (hc : c ≠ 32) : ∀ (ws : List (List UInt8)), (∀ w ∈ ws, c ∉ w) → c ∉ Lib.join ws [32] := by
  intro ws
  induction ws with
  | nil => intro _ h; simp [Lib.join_nil] at h
  | cons w ws ih =>
    intro hf
    cases ws with
    | nil => rw [Lib.join_one]; exact hf w (List.mem_cons_self ..)
    | cons y l =>
      rw [join_two]
      intro h
      rcases List.mem_append.1 h with h | h
      · exact hf w (List.mem_cons_self ..) h
      · rcases List.mem_cons.1 h with h | h
        · exact hc h
        · exact ih (fun z hz => hf z (List.mem_cons_of_mem _ hz)) h
def Plain (w : List UInt8) : Prop := (10 : UInt8) ∉ w ∧ (32 : UInt8) ∉ w
theorem plain_itoa (n : Int) : Plain (Lib.itoa n) := ⟨itoa_free n 10 (by simp), itoa_free n 32 (by simp)⟩
theorem plain_src (k : Int) : Plain (srcWord k) := by
  unfold Plain srcWord
  repeat' split
  all_goals decide
theorem plain_lnk (k : Int) : Plain (lnkWord k) := by
  unfold Plain lnkWord
  repeat' split
  all_goals decide
theorem plain_trip (t : Trp) : Plain (tripW t) := by
  have h1 := plain_itoa t.amps
  have h2 := plain_itoa t.millis
  unfold Plain at *
  unfold tripW
  simp only [List.mem_append, List.mem_singleton, not_or]
  exact ⟨⟨⟨h1.1, by decide⟩, h2.1⟩, ⟨⟨h1.2, by decide⟩, h2.2⟩⟩
theorem lines_step (f : Nat) (s s' : RdS) (ws : List (List UInt8)) (rest : List UInt8) (hw : ws ≠ []) (hp : ∀ w ∈ ws, Plain w) (h : s.line ws = some s') : linesL (f + 1) s (lineOf ws ++ rest) = linesL f s'.next rest := by
  have hc : cutC 10 (lineOf ws ++ rest) = (Lib.join ws [32], rest, true) := by
    unfold lineOf
    rw [List.append_assoc]
    exact cutC_app 10 rest _ (join_free 10 (by decide) ws fun w hw => (hp w hw).1)
  have hne : lineOf ws ++ rest ≠ [] := by unfold lineOf; simp
  rw [linesL, if_neg (fun e => hne e.1), hc, if_pos rfl, splitC_join 32 ws hw fun w hw => (hp w hw).2]
  simp only [h]
theorem src_line {s : RdS} {x : Src} (h1 : s.last ≤ 1) (hi : s.index ≠ 0) (hk : 1 ≤ x.kind ∧ x.kind ≤ 3) (hn : Num9 x.bus ∧ Num9 x.power ∧ Num9 x.sync ∧ Num9 x.ohm) : s.line (srcWd x) = some ⟨s.index, 1, { s.d with srcs := s.d.srcs ++ [x] }⟩ := by
  have hA := numAll_itoa (a := [x.power, x.sync, x.ohm]) (by
    intro n hn'
    simp only [List.mem_cons, List.mem_nil_iff, or_false] at hn'
    rcases hn' with rfl | rfl | rfl
    · exact hn.2.1
    · exact hn.2.2.1
    · exact hn.2.2.2)
  simp only [List.map_cons, List.map_nil] at hA
  have hr : readSrc [Lib.itoa x.bus, srcWord x.kind, Lib.itoa x.power, Lib.itoa x.sync, Lib.itoa x.ohm] = some x := by
    rw [readSrc, srcKind_some hk.1 hk.2, numL_itoa hn.1.1 hn.1.2, hA]
  rw [srcWd, RdS.line, show kindOf wSource = 1 from rfl, if_pos ⟨h1, by simp [hi]⟩, RdS.kind, if_neg (by decide), if_pos rfl, hr]
theorem lnk_line {s : RdS} {x : LnkD} (h1 : s.last ≤ 2) (hi : s.index ≠ 0) (hk : 1 ≤ x.kind ∧ x.kind ≤ 3) (hn : Num9 x.a ∧ Num9 x.b ∧ Num9 x.most ∧ Num9 x.ohm) (ht : ∀ t ∈ x.trip, Num9 t.amps ∧ Num9 t.millis) : s.line (lnkWd x) = some ⟨s.index, 2, { s.d with lnks := s.d.lnks ++ [x] }⟩ := by
  have hA := numAll_itoa (a := [x.a, x.b]) (by
    intro n hn'
    simp only [List.mem_cons, List.mem_nil_iff, or_false] at hn'
    rcases hn' with rfl | rfl
    · exact hn.1
    · exact hn.2.1)
  have hB := numAll_itoa (a := [x.most, x.ohm]) (by
    intro n hn'
    simp only [List.mem_cons, List.mem_nil_iff, or_false] at hn'
    rcases hn' with rfl | rfl
    · exact hn.2.2.1
    · exact hn.2.2.2)
  simp only [List.map_cons, List.map_nil] at hA hB
  have hr : readLnk (Lib.itoa x.a :: Lib.itoa x.b :: lnkWord x.kind :: Lib.itoa x.most :: Lib.itoa x.ohm :: x.trip.map tripW) = some x := by
    rw [readLnk, lnkKind_some hk.1 hk.2, hA, hB, readTrips_some ht]
  rw [lnkWd]
  simp only [List.cons_append, List.nil_append]
  rw [RdS.line, show kindOf wLink = 2 from rfl, if_pos ⟨h1, by simp [hi]⟩, RdS.kind, if_neg (by decide), if_neg (by decide), if_pos rfl, hr]
theorem rck_line {s : RdS} {x : Rck} (h1 : s.last ≤ 3) (hi : s.index ≠ 0) (hn : Num9 x.f0 ∧ Num9 x.f1 ∧ Num9 x.power ∧ Num9 x.paths) : s.line (rckWd x) = some ⟨s.index, 3, { s.d with rcks := s.d.rcks ++ [x] }⟩ := by
  have hA := numAll_itoa (a := [x.f0, x.f1, x.power, x.paths]) (by
    intro n hn'
    simp only [List.mem_cons, List.mem_nil_iff, or_false] at hn'
    rcases hn' with rfl | rfl | rfl | rfl
    · exact hn.1
    · exact hn.2.1
    · exact hn.2.2.1
    · exact hn.2.2.2)
  simp only [List.map_cons, List.map_nil] at hA
  have hr : readRck [Lib.itoa x.f0, Lib.itoa x.f1, Lib.itoa x.power, Lib.itoa x.paths] = some x := by
    rw [readRck, if_pos (show [Lib.itoa x.f0, Lib.itoa x.f1, Lib.itoa x.power, Lib.itoa x.paths].length = 4 from rfl), hA]
  rw [rckWd, RdS.line, show kindOf wRack = 3 from rfl, if_pos ⟨h1, by simp [hi]⟩, RdS.kind, if_neg (by decide), if_neg (by decide), if_neg (by decide), hr]
/-- The numbers of a plant are short, its kinds are kinds. -/
structure Short (d : PlD) : Prop where
  buses : Num9 d.buses
  srcs : ∀ x ∈ d.srcs, (1 ≤ x.kind ∧ x.kind ≤ 3) ∧ Num9 x.bus ∧ Num9 x.power ∧ Num9 x.sync ∧ Num9 x.ohm
  lnks : ∀ x ∈ d.lnks, (1 ≤ x.kind ∧ x.kind ≤ 3) ∧ (Num9 x.a ∧ Num9 x.b ∧ Num9 x.most ∧ Num9 x.ohm) ∧ ∀ t ∈ x.trip, Num9 t.amps ∧ Num9 t.millis
  rcks : ∀ x ∈ d.rcks, Num9 x.f0 ∧ Num9 x.f1 ∧ Num9 x.power ∧ Num9 x.paths
theorem lines_srcs (rest : List UInt8) (b : Int) (ls : List LnkD) (rs : List Rck) : ∀ (xs ys : List Src) (f i : Nat) (l : Int), (∀ x ∈ xs, (1 ≤ x.kind ∧ x.kind ≤ 3) ∧ Num9 x.bus ∧ Num9 x.power ∧ Num9 x.sync ∧ Num9 x.ohm) → i ≠ 0 → l ≤ 1 →
    ∃ l', l' ≤ 1 ∧ linesL (f + xs.length) ⟨i, l, ⟨b, ys, ls, rs⟩⟩ (xs.flatMap (fun x => lineOf (srcWd x)) ++ rest) = linesL f ⟨i + xs.length, l', ⟨b, ys ++ xs, ls, rs⟩⟩ rest := by
  intro xs
  induction xs with
  | nil => intro ys f i l _ _ hl; exact ⟨l, hl, by simp⟩
  | cons x xs ih =>
    intro ys f i l hx hi hl
    have h0 := hx x (List.mem_cons_self ..)
    obtain ⟨l', h1, h2⟩ := ih (ys ++ [x]) f (i + 1) 1 (fun z hz => hx z (List.mem_cons_of_mem _ hz)) (by omega) (by omega)
    refine ⟨l', h1, ?_⟩
    have h3 := lines_step (f + xs.length) ⟨i, l, ⟨b, ys, ls, rs⟩⟩ _ (srcWd x) (xs.flatMap (fun x => lineOf (srcWd x)) ++ rest) (by simp [srcWd]) (by
      intro w hw
      simp only [srcWd, List.mem_cons, List.mem_nil_iff, or_false] at hw
      rcases hw with rfl | rfl | rfl | rfl | rfl | rfl
      · exact ⟨by decide, by decide⟩
      · exact plain_itoa _
      · exact plain_src _
      · exact plain_itoa _
      · exact plain_itoa _
      · exact plain_itoa _) (src_line (s := ⟨i, l, ⟨b, ys, ls, rs⟩⟩) hl hi h0.1 h0.2)
    rw [List.flatMap_cons, List.append_assoc, List.length_cons, ← Nat.add_assoc, h3]
    simp only [RdS.next]
    rw [h2]
    simp [Nat.add_assoc, Nat.add_comm 1]
theorem lines_lnks (rest : List UInt8) (b : Int) (ss : List Src) (rs : List Rck) : ∀ (xs ys : List LnkD) (f i : Nat) (l : Int), (∀ x ∈ xs, (1 ≤ x.kind ∧ x.kind ≤ 3) ∧ (Num9 x.a ∧ Num9 x.b ∧ Num9 x.most ∧ Num9 x.ohm) ∧ ∀ t ∈ x.trip, Num9 t.amps ∧ Num9 t.millis) → i ≠ 0 → l ≤ 2 →
    ∃ l', l' ≤ 2 ∧ linesL (f + xs.length) ⟨i, l, ⟨b, ss, ys, rs⟩⟩ (xs.flatMap (fun x => lineOf (lnkWd x)) ++ rest) = linesL f ⟨i + xs.length, l', ⟨b, ss, ys ++ xs, rs⟩⟩ rest := by
  intro xs
  induction xs with
  | nil => intro ys f i l _ _ hl; exact ⟨l, hl, by simp⟩
  | cons x xs ih =>
    intro ys f i l hx hi hl
    have h0 := hx x (List.mem_cons_self ..)
    obtain ⟨l', h1, h2⟩ := ih (ys ++ [x]) f (i + 1) 2 (fun z hz => hx z (List.mem_cons_of_mem _ hz)) (by omega) (by omega)
    refine ⟨l', h1, ?_⟩
    have h3 := lines_step (f + xs.length) ⟨i, l, ⟨b, ss, ys, rs⟩⟩ _ (lnkWd x) (xs.flatMap (fun x => lineOf (lnkWd x)) ++ rest) (by simp [lnkWd]) (by
      intro w hw
      simp only [lnkWd, List.cons_append, List.nil_append, List.mem_cons] at hw
      rcases hw with rfl | rfl | rfl | rfl | rfl | rfl | hw
      · exact ⟨by decide, by decide⟩
      · exact plain_itoa _
      · exact plain_itoa _
      · exact plain_lnk _
      · exact plain_itoa _
      · exact plain_itoa _
      · obtain ⟨t, _, rfl⟩ := List.mem_map.1 hw
        exact plain_trip t) (lnk_line (s := ⟨i, l, ⟨b, ss, ys, rs⟩⟩) hl hi h0.1 h0.2.1 h0.2.2)
    rw [List.flatMap_cons, List.append_assoc, List.length_cons, ← Nat.add_assoc, h3]
    simp only [RdS.next]
    rw [h2]
    simp [Nat.add_assoc, Nat.add_comm 1]
theorem lines_rcks (rest : List UInt8) (b : Int) (ss : List Src) (ls : List LnkD) : ∀ (xs ys : List Rck) (f i : Nat) (l : Int), (∀ x ∈ xs, Num9 x.f0 ∧ Num9 x.f1 ∧ Num9 x.power ∧ Num9 x.paths) → i ≠ 0 → l ≤ 3 →
    ∃ l', l' ≤ 3 ∧ linesL (f + xs.length) ⟨i, l, ⟨b, ss, ls, ys⟩⟩ (xs.flatMap (fun x => lineOf (rckWd x)) ++ rest) = linesL f ⟨i + xs.length, l', ⟨b, ss, ls, ys ++ xs⟩⟩ rest := by
  intro xs
  induction xs with
  | nil => intro ys f i l _ _ hl; exact ⟨l, hl, by simp⟩
  | cons x xs ih =>
    intro ys f i l hx hi hl
    have h0 := hx x (List.mem_cons_self ..)
    obtain ⟨l', h1, h2⟩ := ih (ys ++ [x]) f (i + 1) 3 (fun z hz => hx z (List.mem_cons_of_mem _ hz)) (by omega) (by omega)
    refine ⟨l', h1, ?_⟩
    have h3 := lines_step (f + xs.length) ⟨i, l, ⟨b, ss, ls, ys⟩⟩ _ (rckWd x) (xs.flatMap (fun x => lineOf (rckWd x)) ++ rest) (by simp [rckWd]) (by
      intro w hw
      simp only [rckWd, List.mem_cons, List.mem_nil_iff, or_false] at hw
      rcases hw with rfl | rfl | rfl | rfl | rfl
      · exact ⟨by decide, by decide⟩
      · exact plain_itoa _
      · exact plain_itoa _
      · exact plain_itoa _
      · exact plain_itoa _) (rck_line (s := ⟨i, l, ⟨b, ss, ls, ys⟩⟩) hl hi h0)
    rw [List.flatMap_cons, List.append_assoc, List.length_cons, ← Nat.add_assoc, h3]
    simp only [RdS.next]
    rw [h2]
    simp [Nat.add_assoc, Nat.add_comm 1]
theorem lines_len {α : Type} (g : α → List UInt8) (hg : ∀ x, 1 ≤ (g x).length) : ∀ (l : List α), l.length ≤ (l.flatMap g).length := by
  intro l
  induction l with
  | nil => simp
  | cons x l ih =>
    rw [List.flatMap_cons, List.length_append, List.length_cons]
    have := hg x
    omega
theorem lineOf_pos (ws : List (List UInt8)) : 1 ≤ (lineOf ws).length := by unfold lineOf; simp
/-- What is written is read. -/
theorem parse_format (d : PlD) (h : Short d) : ∃ i l, parseL (formatD d) = (i, some ⟨i, l, d⟩) := by
  obtain ⟨b, ss, ls, rs⟩ := d
  have hpl : RdS.zero.line (plWd b) = some ⟨0, 0, ⟨b, [], [], []⟩⟩ := by
    have hA := numAll_itoa (a := [b]) (by intro n hn; simp at hn; subst hn; exact h.buses)
    simp only [List.map_cons, List.map_nil] at hA
    rw [plWd, RdS.line, show kindOf wPlant = 0 from rfl, if_pos ⟨by decide, by simp [RdS.zero]⟩, RdS.kind, if_pos rfl, if_pos (show [Lib.itoa b].length = 1 from rfl), hA]
    rfl
  have hlen : 1 + rs.length + ls.length + ss.length ≤ (formatD ⟨b, ss, ls, rs⟩).length := by
    have k1 := lines_len (fun x => lineOf (srcWd x)) (fun x => lineOf_pos _) ss
    have k2 := lines_len (fun x => lineOf (lnkWd x)) (fun x => lineOf_pos _) ls
    have k3 := lines_len (fun x => lineOf (rckWd x)) (fun x => lineOf_pos _) rs
    have k4 := lineOf_pos (plWd b)
    simp only [formatD, List.length_append]
    omega
  obtain ⟨k, hk⟩ : ∃ k, (formatD ⟨b, ss, ls, rs⟩).length + 1 = (k + 1 + rs.length + ls.length + ss.length) + 1 := ⟨(formatD ⟨b, ss, ls, rs⟩).length - (1 + rs.length + ls.length + ss.length), by omega⟩
  obtain ⟨l1, h1, e1⟩ := lines_srcs (ls.flatMap (fun x => lineOf (lnkWd x)) ++ rs.flatMap (fun x => lineOf (rckWd x))) b [] [] ss [] (k + 1 + rs.length + ls.length) 1 0 h.srcs (by decide) (by decide)
  obtain ⟨l2, h2, e2⟩ := lines_lnks (rs.flatMap (fun x => lineOf (rckWd x))) b ss [] ls [] (k + 1 + rs.length) (1 + ss.length) l1 h.lnks (by omega) (by omega)
  obtain ⟨l3, h3, e3⟩ := lines_rcks [] b ss ls rs [] (k + 1) (1 + ss.length + ls.length) l2 h.rcks (by omega) (by omega)
  refine ⟨1 + ss.length + ls.length + rs.length, l3, ?_⟩
  have hg : formatD ⟨b, ss, ls, rs⟩ = lineOf (plWd b) ++ (ss.flatMap (fun x => lineOf (srcWd x)) ++ (ls.flatMap (fun x => lineOf (lnkWd x)) ++ rs.flatMap (fun x => lineOf (rckWd x)))) := by simp [formatD]
  unfold parseL
  rw [hk, hg, lines_step _ _ _ (plWd b) _ (by simp [plWd]) (by
      intro w hw
      simp only [plWd, List.mem_cons, List.mem_nil_iff, or_false] at hw
      rcases hw with rfl | rfl
      · exact ⟨by decide, by decide⟩
      · exact plain_itoa _) hpl]
  simp only [RdS.next, Nat.zero_add]
  rw [e1]
  simp only [List.nil_append]
  rw [e2]
  simp only [List.nil_append]
  rw [List.append_nil] at e3
  rw [e3]
  simp only [List.nil_append]
  rw [linesL, if_pos ⟨rfl, by simp⟩]
end Go.Proofs.YtcnmfblbfpcghaaGreatDoor

/- The reader of a plant's text: how it lies in memory, and how a reading of it lasts. -/

set_option linter.unusedSimpArgs false
set_option linter.unusedVariables false
namespace Go.Proofs.YtcnmfblbfpcghaaGreatDoor
open Go.RowKit Go.Shelf

def rCells (ms ml : Nat) (q : Plt) (i : Nat) (l : Int) : Array Value := #[.map (some ms), .map (some ml), .int .i64 q.buses, .slice q.sA q.sn q.sc, .slice q.lA q.ln q.lc, .slice q.rA q.rn q.rc, .int .i64 i, .int .i64 l]
structure PlLens (q : Plt) : Prop where
  src : q.srcs.length = q.sn
  lnk : q.lnks.length = q.ln
  rck : q.rcks.length = q.rn
  trip : ∀ x ∈ q.lnks, x.trip.length = x.tn
/-- A reader, what it has read so far. -/
structure RdrIn (W : World) (base g ms ml : Nat) (q : Plt) (i : Nat) (l : Int) : Prop where
  blk : Blk W g 128 (rCells ms ml q i l)
  src : KindMap srcWord W ms
  lnk : KindMap lnkWord W ml
  own : PltOwn W base q
  lens : PlLens q
def RdrAt (W : World) (base g : Nat) (s : RdS) : Prop := ∃ ms ml q, RdrIn W base g ms ml q s.index s.last ∧ q.data = s.d
/-- What is left of a reader when a line has not the form. -/
def Gone (W : World) (g i : Nat) : Prop := ∃ c0 c1 c2 c3 c4 c5 c7, Blk W g 128 #[c0, c1, c2, c3, c4, c5, .int .i64 i, c7]
theorem RdrIn.next {W W' : World} {base g ms ml : Nat} {q : Plt} {i : Nat} {l : Int} (h : RdrIn W base g ms ml q i l) (hb : Below W.heap.size W W') : RdrIn W' base g ms ml q i l :=
  ⟨h.blk.below hb h.blk.lt, h.src.next hb, h.lnk.next hb, h.own.next hb, h.lens⟩
theorem RdrAt.next {W W' : World} {base g : Nat} {s : RdS} (h : RdrAt W base g s) (hb : Below W.heap.size W W') : RdrAt W' base g s := by
  obtain ⟨ms, ml, q, h1, h2⟩ := h
  exact ⟨ms, ml, q, h1.next hb, h2⟩
theorem Gone.next {W W' : World} {g i : Nat} (h : Gone W g i) (hb : Below W.heap.size W W') : Gone W' g i := by
  obtain ⟨c0, c1, c2, c3, c4, c5, c7, h⟩ := h
  exact ⟨c0, c1, c2, c3, c4, c5, c7, h.below hb h.lt⟩
theorem RdrIn.gone {W : World} {base g ms ml : Nat} {q : Plt} {i : Nat} {l : Int} (h : RdrIn W base g ms ml q i l) : Gone W g i := ⟨_, _, _, _, _, _, _, h.blk⟩
theorem RdrIn.cells {W : World} {base g ms ml : Nat} {q : Plt} {i : Nat} {l : Int} (h : RdrIn W base g ms ml q i l) :
    W.cell? ⟨g, 0, none⟩ = some (.map (some ms)) ∧ W.cell? ⟨g, 1, none⟩ = some (.map (some ml)) ∧ W.cell? ⟨g, 2, none⟩ = some (.int .i64 q.buses) ∧ W.cell? ⟨g, 3, none⟩ = some (.slice q.sA q.sn q.sc) ∧ W.cell? ⟨g, 4, none⟩ = some (.slice q.lA q.ln q.lc) ∧ W.cell? ⟨g, 5, none⟩ = some (.slice q.rA q.rn q.rc) ∧ W.cell? ⟨g, 6, none⟩ = some (.int .i64 i) ∧ W.cell? ⟨g, 7, none⟩ = some (.int .i64 l) :=
  ⟨h.blk.cell 0, h.blk.cell 1, h.blk.cell 2, h.blk.cell 3, h.blk.cell 4, h.blk.cell 5, h.blk.cell 6, h.blk.cell 7⟩
/-- How the reading of a line, or of a part of it, ends. -/
def ReadEnd (w0 : World) (g i : Nat) (e : Ending) (W : World) (r : Option RdS) : Prop :=
  Below w0.heap.size w0 W ∧ match r with
    | some s => e = .returned (.tuple #[]) ∧ RdrAt W w0.heap.size g s
    | none => e = formP ∧ Gone W g i
/-- Words as they were split. -/
def WordsAt (W : World) (wb : Nat) (L : List (List UInt8)) : Prop := Blk W wb 9 (strVals L).toArray
theorem WordsAt.cell {W : World} {wb : Nat} {L : List (List UInt8)} (h : WordsAt W wb L) {j : Nat} {x : List UInt8} (hx : L[j]? = some x) : W.cell? ⟨wb, j, none⟩ = some (.string (ba x)) := by
  rw [Blk.cell h]
  simp [strVals, hx]
theorem WordsAt.rd {W : World} {wb : Nat} {L : List (List UInt8)} (h : WordsAt W wb L) (off n : Nat) (hn : off + n ≤ L.length) : Rd W W.heap.size 1 encS (some ⟨wb, off, none⟩) n ((L.drop off).take n) := by
  refine ⟨by rw [List.length_take, List.length_drop]; omega, fun _ => ⟨wb, off, rfl, Blk.lt h, fun i x hx j u hu => ?_⟩⟩
  match j, hu with
  | 0, hu =>
    simp only [encS, List.getElem?_cons_zero, Option.some.injEq] at hu
    subst hu
    have hx' : L[off + i]? = some x := by
      rw [List.getElem?_take] at hx
      split at hx
      · rwa [List.getElem?_drop] at hx
      · cases hx
    have := WordsAt.cell h hx'
    simpa using this
theorem srcInf : (Tryz.prog.info? 110).map (fun i => (i.zero, i.size, i.bytes)) = some (some (.agg #[.int .i64 0, .int .i64 0, .int .i64 0, .int .i64 0, .int .i64 0]), 5, 40) := by kernel_rfl
theorem rckInf : (Tryz.prog.info? 115).map (fun i => (i.zero, i.size, i.bytes)) = some (some (.agg #[.int .i64 0, .int .i64 0, .int .i64 0, .int .i64 0]), 4, 32) := by kernel_rfl
theorem lnkInf : (Tryz.prog.info? 79).map (fun i => (i.zero, i.size, i.bytes)) = some (some (.agg #[.int .i64 0, .int .i64 0, .int .i64 0, .int .i64 0, .int .i64 0, .slice none 0 0]), 6, 64) := by kernel_rfl
theorem trpInf : (Tryz.prog.info? 112).map (fun i => (i.zero, i.size, i.bytes)) = some (some (.agg #[.int .i64 0, .int .i64 0]), 2, 16) := by kernel_rfl
/-- A row's own block is there. -/
theorem row_blk_lt {W : World} {n₀ size n : Nat} {e : TypeId} {v : Value} {xs : List Value} (h : W.ownsRow n₀ e size v n xs) {k : Nat} (hk : v.ownBlock = some k) : n₀ ≤ k ∧ k < W.heap.size := by
  rcases h.2 with ⟨rfl, _⟩ | ⟨g, cap, cur, rfl, h1, h2, _⟩
  · cases hk
  · cases hk
    exact ⟨h1, (Array.getElem?_eq_some_iff.1 h2).1⟩
/-- Nothing changes but a row of other elements. -/
theorem row_other {W W' : World} {n₀ n₁ size size' n n' : Nat} {e e' : TypeId} {v v' : Value} {xs xs' : List Value} (h : W.ownsRow n₀ e size v n xs) (h' : W.ownsRow n₁ e' size' v' n' xs') (hk : W.grownBy W' v'.ownBlock) (he : e ≠ e') : W'.ownsRow n₀ e size v n xs := by
  refine h.kept hk ?_
  by_cases hu : v.ownBlock = none
  · exact .inl hu
  · refine .inr fun e0 => hu ?_
    rcases h.2 with ⟨rfl, _⟩ | ⟨g, cap, cur, rfl, h1, h2, _⟩
    · rfl
    · rcases h'.2 with ⟨rfl, _⟩ | ⟨g', cap', cur', rfl, h1', h2', _⟩
      · exact e0
      · have e1 : g' = g := by
          simp only [Value.ownBlock, Option.some.injEq] at e0
          first | exact e0 | exact e0.symm
        subst e1
        rw [h2] at h2'
        simp only [Option.some.injEq, Obj.cells.injEq] at h2'
        exact absurd h2'.2.1 he
theorem blk_row {W W' : World} {n₁ size n k : Nat} {e T : TypeId} {v : Value} {xs : List Value} {cs : Array Value} (h : Blk W k T cs) (h' : W.ownsRow n₁ e size v n xs) (hk : W.grownBy W' v.ownBlock) (he : T ≠ e) : Blk W' k T cs :=
  h.kept hk (own_ne h' h he)
theorem kind_row {wd : Int → List UInt8} {W W' : World} {m : Nat} {n₁ size n : Nat} {e : TypeId} {v : Value} {xs : List Value} (h : KindMap wd W m) (h' : W.ownsRow n₁ e size v n xs) (hk : W.grownBy W' v.ownBlock) : KindMap wd W' m := by
  obtain ⟨es, clock, h1, h2⟩ := h
  refine ⟨es, clock, (hk.block m (Array.getElem?_eq_some_iff.1 h1).1 ?_).trans h1, h2⟩
  rcases h'.2 with ⟨rfl, _⟩ | ⟨g, cap, cur, rfl, h3, h4, _⟩
  · intro e0
    cases e0
  · intro e0
    cases e0
    rw [h4] at h1
    cases h1
theorem below_row {a W W' : World} {size n : Nat} {e : TypeId} {v : Value} {xs : List Value} (h : Below a.heap.size a W) (h' : W.ownsRow a.heap.size e size v n xs) (hk : W.grownBy W' v.ownBlock) : Below a.heap.size a W' :=
  h.grown hk h.size fun k e0 => (row_blk_lt h' e0).1
theorem trip_row {W W' : World} {base size n : Nat} {e : TypeId} {v : Value} {xs : List Value} {y : Lnk} (h : TripOwn W base y) (h' : W.ownsRow base e size v n xs) (hk : W.grownBy W' v.ownBlock) (he : e ≠ 112) : TripOwn W' base y := row_other h h' hk (Ne.symm he)
end Go.Proofs.YtcnmfblbfpcghaaGreatDoor

/- (*plant.reader).source. -/

set_option linter.unusedSimpArgs false
set_option linter.unusedVariables false
namespace Go.Proofs.YtcnmfblbfpcghaaGreatDoor
open Go.RowKit Go.Shelf

structure SrcR (w0 : World) (g ms ml : Nat) (q : Plt) (i wb : Nat) (L : List (List UInt8)) (gn : Nat) (ns : List Int) (N : Nat) (W : World) : Prop where
  low : Below w0.heap.size w0 W
  size : N ≤ W.heap.size
  words : WordsAt W wb L
  nums : IntB W gn ns
  src : KindMap srcWord W ms
  lnk : KindMap lnkWord W ml
  lnks : LnkRow W w0.heap.size q.lA q.ln q.lc q.lnks
  rck : RckRow W w0.heap.size q.rA q.rn q.rc q.rcks
  gone : Gone W g i
theorem SrcR.next {w0 : World} {g ms ml : Nat} {q : Plt} {i wb : Nat} {L : List (List UInt8)} {gn : Nat} {ns : List Int} {N : Nat} {W W' : World} (h : SrcR w0 g ms ml q i wb L gn ns N W) (hb : Below W.heap.size W W') : SrcR w0 g ms ml q i wb L gn ns N W' :=
  ⟨below_after hb (Nat.le_refl _) h.low, Nat.le_trans h.size hb.size, Blk.below h.words hb (Blk.lt h.words), Blk.below h.nums hb (Blk.lt h.nums), h.src.next hb, h.lnk.next hb, ⟨row_next h.lnks.1 hb, fun y hy => (h.lnks.2 y hy).next hb⟩, row_next h.rck hb, h.gone.next hb⟩
theorem SrcR.row {w0 : World} {g ms ml : Nat} {q : Plt} {i wb : Nat} {L : List (List UInt8)} {gn : Nat} {ns : List Int} {N : Nat} {W W' : World} (h : SrcR w0 g ms ml q i wb L gn ns N W) (hr : SrcRow W w0.heap.size q.sA q.sn q.sc q.srcs) (hk : W.grownBy W' (Value.ownBlock (.slice q.sA q.sn q.sc))) : SrcR w0 g ms ml q i wb L gn ns N W' := by
  refine ⟨below_row h.low hr hk, Nat.le_trans h.size hk.size, blk_row h.words hr hk (by decide), blk_row h.nums hr hk (by decide), kind_row h.src hr hk, kind_row h.lnk hr hk, ⟨row_other h.lnks.1 hr hk (by decide), fun y hy => trip_row (h.lnks.2 y hy) hr hk (by decide)⟩, row_other h.rck hr hk (by decide), ?_⟩
  obtain ⟨c0, c1, c2, c3, c4, c5, c7, h1⟩ := h.gone
  exact ⟨c0, c1, c2, c3, c4, c5, c7, blk_row h1 hr hk (by decide)⟩
theorem SrcR.store {w0 : World} {g ms ml : Nat} {q q' : Plt} {i wb : Nat} {l : Int} {L : List (List UInt8)} {gn : Nat} {ns : List Int} {N : Nat} {W W' : World} {cs : Array Value} (h : SrcR w0 g ms ml q i wb L gn ns N W) (hk : W.grownBy W' (some g)) (hb : Blk W g 128 cs) (hn : Blk W' g 128 (rCells ms ml q' i l)) (hg : w0.heap.size ≤ g ∧ wb ≠ g ∧ gn ≠ g) : SrcR w0 g ms ml q i wb L gn ns N W' :=
  ⟨h.low.grown hk h.low.size (fun k e => by cases e; exact hg.1), Nat.le_trans h.size hk.size, Blk.kept h.words hk (fun e => hg.2.1 (Option.some.inj e)), Blk.kept h.nums hk (fun e => hg.2.2 (Option.some.inj e)), h.src.kept hk hb, h.lnk.kept hk hb, ⟨row_store h.lnks.1 hk hb (by decide), fun y hy => (h.lnks.2 y hy).kept hk hb (by decide)⟩, row_store h.rck hk hb (by decide), ⟨_, _, _, _, _, _, _, hn⟩⟩
def srPhi (w0 : World) (g wb wc gn N ms ml i : Nat) (l : Int) (q : Plt) (b0 : List UInt8) (kk p s1 o : Int) : Nat → Value → World → (Nat → Nat) → Prop
  | 0, v, _, _ => v = .pointer (some ⟨g, 0, none⟩)
  | 1, v, _, _ => v = .pointer (some ⟨g, 0, none⟩)
  | 2, v, _, _ => v = .pointer (some ⟨g, 0, none⟩)
  | 3, v, _, _ => v = .pointer (some ⟨g, 2, none⟩)
  | 4, v, _, _ => v = .pointer (some ⟨g, 3, none⟩)
  | 5, v, _, _ => v = .slice q.sA q.sn q.sc
  | 6, v, _, _ => v = .slice (some ⟨wb, 1, none⟩) 5 wc
  | 7, v, _, _ => v = .pointer (some ⟨wb, 1, none⟩)
  | 8, v, _, _ => v = .string (ba b0)
  | 9, v, _, _ => v = .int .i64 ((numL b0).getD 0) ∧ numL b0 = some ((numL b0).getD 0)
  | 10, v, _, _ => v = .int .i64 kk
  | 11, v, _, _ => v = .slice (some ⟨gn, 0, none⟩) 3 3
  | 12, v, _, _ => v = .pointer (some ⟨gn, 0, none⟩)
  | 13, v, _, _ => v = .int .i64 p
  | 14, v, _, _ => v = .slice (some ⟨gn, 0, none⟩) 3 3
  | 15, v, _, _ => v = .pointer (some ⟨gn, 1, none⟩)
  | 16, v, _, _ => v = .int .i64 s1
  | 17, v, _, _ => v = .slice (some ⟨gn, 0, none⟩) 3 3
  | 18, v, _, _ => v = .pointer (some ⟨gn, 2, none⟩)
  | 19, v, _, _ => v = .int .i64 o
  | 20, v, _, _ => v = .agg #[.int .i64 ((numL b0).getD 0), .int .i64 kk, .int .i64 p, .int .i64 s1, .int .i64 o]
  | 21, v, W, _ => ∃ B, v = .slice (some ⟨B, 0, none⟩) 1 1 ∧ N ≤ B ∧ Blk W B 110 #[.int .i64 ((numL b0).getD 0), .int .i64 kk, .int .i64 p, .int .i64 s1, .int .i64 o]
  | 22, v, W, _ => ∃ A c, v = .slice A (q.sn + 1) c ∧ SrcRow W w0.heap.size A (q.sn + 1) c (q.srcs ++ [⟨(numL b0).getD 0, kk, p, s1, o⟩])
  | 23, v, _, _ => v = .pointer (some ⟨g, 0, none⟩)
  | 24, v, _, _ => v = .pointer (some ⟨g, 2, none⟩)
  | 25, v, _, _ => v = .pointer (some ⟨g, 3, none⟩)
  | 26, _, W, _ => ∃ A c, Blk W g 128 (rCells ms ml { q with sA := A, sn := q.sn + 1, sc := c, srcs := q.srcs ++ [⟨(numL b0).getD 0, kk, p, s1, o⟩] } i l) ∧ SrcRow W w0.heap.size A (q.sn + 1) c (q.srcs ++ [⟨(numL b0).getD 0, kk, p, s1, o⟩])
  | _, _, _, _ => True
def srPsi (w0 : World) (g ms ml i : Nat) (l : Int) (q : Plt) : Nat → World → (Nat → Nat) → Prop
  | 5, W, _ => Blk W g 128 (rCells ms ml q i l)
  | 22, W, _ => SrcRow W w0.heap.size q.sA q.sn q.sc q.srcs
  | 26, W, _ => Blk W g 128 (rCells ms ml q i l)
  | _, _, _ => True
theorem srPhi_kept {w0 : World} {g wb wc gn N ms ml i : Nat} {l : Int} {q : Plt} {b0 : List UInt8} {kk p s1 o : Int} {W W' : World} {γ γ' : Nat → Nat} (hb : Below W.heap.size W W') (j : Nat) (v : Value) (hv : srPhi w0 g wb wc gn N ms ml i l q b0 kk p s1 o j v W γ) : srPhi w0 g wb wc gn N ms ml i l q b0 kk p s1 o j v W' γ' := by
  unfold srPhi at hv ⊢
  split at hv <;> first | exact hv | trivial | (obtain ⟨B, h1, h2, h3⟩ := hv; exact ⟨B, h1, h2, h3.below hb h3.lt⟩) | (obtain ⟨A, c, h1, h2⟩ := hv; first | exact ⟨A, c, h1, row_next h2 hb⟩ | exact ⟨A, c, Blk.below h1 hb (Blk.lt h1), row_next h2 hb⟩)
theorem srPsi_kept {w0 : World} {g ms ml i : Nat} {l : Int} {q : Plt} {W W' : World} {γ γ' : Nat → Nat} (hb : Below W.heap.size W W') (j : Nat) (hv : srPsi w0 g ms ml i l q j W γ) : srPsi w0 g ms ml i l q j W' γ' := by
  unfold srPsi at hv ⊢
  split at hv <;> first | exact Blk.below hv hb (Blk.lt hv) | exact row_next hv hb | trivial
theorem srPhi_row {w0 : World} {g wb wc gn N ms ml i : Nat} {l : Int} {q : Plt} {b0 : List UInt8} {kk p s1 o : Int} {W W' : World} {γ γ' : Nat → Nat} (hr : SrcRow W w0.heap.size q.sA q.sn q.sc q.srcs) (hk : W.grownBy W' (Value.ownBlock (.slice q.sA q.sn q.sc))) (hlt : ∀ k, Value.ownBlock (.slice q.sA q.sn q.sc) = some k → k < N) (j : Nat) (v : Value) (hj : j ≠ 26) (hj2 : j ≠ 22) (hv : srPhi w0 g wb wc gn N ms ml i l q b0 kk p s1 o j v W γ) : srPhi w0 g wb wc gn N ms ml i l q b0 kk p s1 o j v W' γ' := by
  unfold srPhi at hv ⊢
  split at hv <;> first | exact absurd rfl hj | exact absurd rfl hj2 | exact hv | trivial | (obtain ⟨B, h1, h2, h3⟩ := hv; exact ⟨B, h1, h2, Blk.kept h3 hk (fun e => by have := hlt B e.symm; omega)⟩)
theorem srPsi_row {w0 : World} {g ms ml i : Nat} {l : Int} {q : Plt} {W W' : World} {γ γ' : Nat → Nat} (hr : SrcRow W w0.heap.size q.sA q.sn q.sc q.srcs) (hk : W.grownBy W' (Value.ownBlock (.slice q.sA q.sn q.sc))) (j : Nat) (hj : j ≠ 22) (hv : srPsi w0 g ms ml i l q j W γ) : srPsi w0 g ms ml i l q j W' γ' := by
  unfold srPsi at hv ⊢
  split at hv <;> first | exact absurd rfl hj | exact blk_row hv hr hk (by decide) | trivial
theorem srPhi_store {w0 : World} {g wb wc gn N ms ml i : Nat} {l : Int} {q : Plt} {b0 : List UInt8} {kk p s1 o : Int} {W W' : World} {γ γ' : Nat → Nat} {cs : Array Value} (hk : W.grownBy W' (some g)) (hb : Blk W g 128 cs) (j : Nat) (v : Value) (hj : j ≠ 26) (hv : srPhi w0 g wb wc gn N ms ml i l q b0 kk p s1 o j v W γ) : srPhi w0 g wb wc gn N ms ml i l q b0 kk p s1 o j v W' γ' := by
  unfold srPhi at hv ⊢
  split at hv <;> first | exact absurd rfl hj | exact hv | trivial | (obtain ⟨B, h1, h2, h3⟩ := hv; exact ⟨B, h1, h2, Blk.kept h3 hk (fun e => by
      have e1 := Option.some.inj e
      subst e1
      have e2 := (show W.heap[_]? = _ from hb).symm.trans h3
      simp only [Option.some.injEq, Obj.cells.injEq] at e2
      exact absurd e2.2.1 (by decide))⟩) | (obtain ⟨A, c, h1, h2⟩ := hv; exact ⟨A, c, h1, row_store h2 hk hb (by decide)⟩)
theorem srPsi_last {w0 : World} {g ms ml i : Nat} {l : Int} {q : Plt} {W W' : World} {γ γ' : Nat → Nat} (j : Nat) (hj : j ≠ 26) (hn : ¬ (j = 5 ∨ j = 22)) (hv : srPsi w0 g ms ml i l q j W γ) : srPsi w0 g ms ml i l q j W' γ' := by
  unfold srPsi
  split <;> first | exact absurd rfl hj | exact absurd (.inl rfl) hn | exact absurd (.inr rfl) hn | trivial
theorem add0 (B j : Nat) : (⟨B, 0, none⟩ : Addr).add j = ⟨B, j, none⟩ := by
  cases j with
  | zero => rfl
  | succ j => simp [Addr.add]
theorem readSrc_len {r : List (List UInt8)} (h : r.length ≠ 5) : readSrc r = none := by
  unfold readSrc
  split
  · simp at h
  · rfl
theorem list5 {α : Type} {r : List α} (h : r.length = 5) : ∃ a b c d e, r = [a, b, c, d, e] := by
  match r, h with
  | [a, b, c, d, e], _ => exact ⟨a, b, c, d, e, rfl⟩
theorem nums3 {r : List (List UInt8)} {a : List Int} (hr : r.length = 3) (h : numAll r = some a) : ∃ x y z, a = [x, y, z] := by
  have := numAll_len h
  match a, this.trans hr with
  | [x, y, z], _ => exact ⟨x, y, z, rfl⟩
theorem kindIn_src (x : List UInt8) : kindIn srcWord x = srcKind x := rfl
theorem kindIn_lnk (x : List UInt8) : kindIn lnkWord x = lnkKind x := rfl
def addSrc (s : RdS) (x : Src) : RdS := ⟨s.index, s.last, { s.d with srcs := s.d.srcs ++ [x] }⟩
set_option maxRecDepth 100000 in
set_option maxHeartbeats 8000000 in
theorem source_any (w0 : World) (g wb wc n : Nat) (s : RdS) (L : List (List UInt8)) (w : World) (hT : Tabs w0) (hB : Below w0.heap.size w0 w) (hR : RdrAt w w0.heap.size g s) (hW : WordsAt w wb L) (hn : n + 1 = L.length) (hcap : n ≤ wc) (A0 : Option Addr) (hA0 : 0 < n → A0 = some ⟨wb, 1, none⟩) (hw : ∀ x ∈ L, x.length ≤ 200000) (hlim : s.d.srcs.length ≤ 200000) (hg : w0.heap.size ≤ g) :
    Calls Tryz.prog 139 #[.pointer (some ⟨g, 0, none⟩), .slice A0 n wc] w fun e w' => ReadEnd w0 g s.index e w' ((readSrc (L.drop 1)).map (addSrc s)) := by
  obtain ⟨ms, ml, q, hI, hd⟩ := hR
  have HT := Lib.hid hT
  have HI := Lib.hid hI
  have HW := Lib.hid hW
  have MY := Lib.hid must_yes
  have MN := Lib.hid must_no
  have hdl : (L.drop 1).length = n := by rw [List.length_drop]; omega
  have hgone : Hid (Gone w g s.index) := Lib.hid hI.gone
  have HB0 := Lib.hid hB
  clear hT hW hI
  by_cases h5 : n = 5
  · subst h5
    obtain rfl := hA0 (by omega)
    obtain ⟨b0, k0, p0, s0, o0, hL⟩ := list5 hdl
    have hel : ∀ j x, (L.drop 1)[j]? = some x → L[1 + j]? = some x := fun j x h => by rw [List.getElem?_drop] at h; exact h
    have e0 := hel 0 b0 (by rw [hL]; rfl)
    have hL0 : L[1]? = some b0 := e0
    have e1 := hel 1 k0 (by rw [hL]; rfl)
    have hb0 := hw b0 (List.mem_of_getElem? e0)
    have c0 : w.cell? ⟨wb, 1, none⟩ = some (.string (ba b0)) := HW.out.cell e0
    have c1 : w.cell? ⟨wb, 2, none⟩ = some (.string (ba k0)) := HW.out.cell e1
    have r0 : w.cell? ⟨g, 0, none⟩ = some (.map (some ms)) := HI.out.cells.1
    have look := Lib.hid (fun W hK => kind_look (w := W) (m := ms) three_src hK (P := Tryz.prog) 123 9 108 Tryz.underlying123 Tryz.underlying9 Tryz.zeroValue108 k0)
    have HK := Lib.hid HI.out.src
    clear hel e0 e1
    cases hk : srcKind k0 with
    | none =>
      have hnone : Hid (readSrc (L.drop 1) = none) := Lib.hid (by rw [hL, readSrc, hk])
      have look2 := Lib.hid (fun W hK => (look.out W hK).trans (show Result.ok (kindVal srcWord k0) W = .ok (.tuple #[.int .i64 0, .bool false]) W by unfold kindVal; rw [kindIn_src, hk]; rfl))
      clear look
      go_enter Tryz.func139, Tryz.ntmps139
      go_wp2_with fail
      refine (MY.out _).mono ?_
      rintro e w1 ⟨rfl, rfl⟩
      go_wp2_with fail
      refine wp_region_free9p 12 (by kernel_rfl) [some 12, some 13, some 14, some 15, some 16, some 17, some 18, some 19, some 11, some 20, some 21, some 4, some 5] [[], [0], [1], [2], [], [4], [5], [3, 6], [7], [8], [8], [9, 0, 1, 2, 3, 4, 5, 6, 7, 8, 9], [10, 11, 0, 1, 2, 3, 4, 5, 6, 7, 8, 9, 10, 11]] [(0, .pointer (some ⟨g, 0, none⟩)), (1, .slice (some ⟨wb, 1, none⟩) 5 wc)] (fun W _ => W.heap = w.heap ∧ Below w.heap.size w W) (fun i v _ _ => match i with | 0 => v = .pointer (some ⟨g, 0, none⟩) | 1 => v = .pointer (some ⟨g, 0, none⟩) | 2 => v = .pointer (some ⟨g, 0, none⟩) | 3 => v = .map (some ms) | 4 => v = .slice (some ⟨wb, 1, none⟩) 5 wc | 5 => v = .pointer (some ⟨wb, 2, none⟩) | 6 => v = .string (ba k0) | 7 => v = .tuple #[.int .i64 0, .bool false] | 8 => v = .tuple #[.int .i64 0, .bool false] | 9 => v = .int .i64 0 | 10 => v = .bool false | 11 => v = .int .i64 0 | 12 => v = .bool false | _ => True) (fun _ _ _ => True) (by kernel_rfl) (by kernel_rfl) rfl (by kernel_rfl) ?_ ?_ ⟨fun _ => 0, ⟨rfl, (Below.refl _ _).drew⟩, fun _ _ => trivial⟩ ?_ ?_
      · intro z hz
        simp only [List.mem_cons, List.mem_nil_iff, or_false] at hz
        rcases hz with rfl | rfl
        · exact ⟨by kernel_rfl, rfl⟩
        · exact ⟨by kernel_rfl, rfl⟩
      · intro i v W γ hi h
        rcases i with _ | _ | _ | _ | _ | _ | _ | _ | _ | _ | _ | _ | _ | i
        all_goals first | exact h | (simp at hi)
      · refine ⟨?_, ?_, ?_, ?_, ?_, ?_, ?_, ?_, ?_, ?_, ?_, ?_, ?_, trivial⟩
        all_goals
          intro a W γ ev hcc hff hfx hdf hR hψ hpre
          simp only [List.mem_cons, List.mem_nil_iff, or_false, forall_eq, forall_eq_or_imp] at hfx
          obtain ⟨f0, f1⟩ := hfx
          have r1 : W.cell? ⟨g, 0, none⟩ = some (.map (some ms)) := by unfold World.cell?; rw [hR.1]; exact r0
          have r2 : W.cell? ⟨wb, 2, none⟩ = some (.string (ba k0)) := by unfold World.cell?; rw [hR.1]; exact c1
          have hl := look2.out W (by unfold KindMap; rw [hR.1]; exact HK.out)
          have HR := Lib.hid hR
          have HD := Lib.hid hdf
          clear hR hdf
          refine ⟨fun _ K hK => ?_, trivial⟩
        · clear hpre hψ
          go_simp
          exact hK _ _ γ HR.out (fun _ _ _ _ h => h) (fun _ _ _ h => h) rfl
        · have q1 : ev (.tmp 12) = _ := hpre 0 (by decide)
          clear hpre hψ
          go_simp
          exact hK _ _ γ HR.out (fun _ _ _ _ h => h) (fun _ _ _ h => h) rfl
        · have q1 : ev (.tmp 13) = _ := hpre 1 (by decide)
          clear hpre hψ
          go_simp
          exact hK _ _ γ HR.out (fun _ _ _ _ h => h) (fun _ _ _ h => h) rfl
        · have q1 : ev (.tmp 14) = _ := hpre 2 (by decide)
          clear hpre hψ
          go_simp
          exact hK _ _ γ HR.out (fun _ _ _ _ h => h) (fun _ _ _ h => h) rfl
        · clear hpre hψ
          go_simp
          exact hK _ _ γ HR.out (fun _ _ _ _ h => h) (fun _ _ _ h => h) rfl
        · have q1 : ev (.tmp 16) = _ := hpre 4 (by decide)
          clear hpre hψ
          go_simp
          exact hK _ _ γ HR.out (fun _ _ _ _ h => h) (fun _ _ _ h => h) rfl
        · have q1 : ev (.tmp 17) = _ := hpre 5 (by decide)
          clear hpre hψ
          go_simp
          exact hK _ _ γ HR.out (fun _ _ _ _ h => h) (fun _ _ _ h => h) rfl
        · have q1 : ev (.tmp 15) = _ := hpre 3 (by decide)
          have q2 : ev (.tmp 18) = _ := hpre 6 (by decide)
          clear hpre hψ
          go_simp
          exact hK _ _ γ HR.out (fun _ _ _ _ h => h) (fun _ _ _ h => h) rfl
        · have q1 : ev (.tmp 19) = _ := hpre 7 (by decide)
          clear hpre hψ
          go_simp
          exact hK _ _ γ HR.out (fun _ _ _ _ h => h) (fun _ _ _ h => h) rfl
        · have q1 : ev (.tmp 11) = _ := hpre 8 (by decide)
          clear hpre hψ
          go_simp
          exact hK _ _ γ HR.out (fun _ _ _ _ h => h) (fun _ _ _ h => h) rfl
        · have q1 : ev (.tmp 11) = _ := hpre 8 (by decide)
          clear hpre hψ
          go_simp
          exact hK _ _ γ HR.out (fun _ _ _ _ h => h) (fun _ _ _ h => h) rfl
        · have q1 : ev (.tmp 20) = _ := hpre 9 (by decide)
          clear hpre hψ
          go_simp
          exact hK _ _ γ HR.out (fun _ _ _ _ h => h) (fun _ _ _ h => h) rfl
        · have q1 : ev (.tmp 21) = _ := hpre 10 (by decide)
          clear hpre hψ
          go_simp
          exact hK _ _ γ HR.out (fun _ _ _ _ h => h) (fun _ _ _ h => h) rfl
      intro vs w' γ hvl hR hφ
      have z0 := hφ 0 (by decide)
      have z1 := hφ 1 (by decide)
      have z2 := hφ 2 (by decide)
      have z3 := hφ 3 (by decide)
      have z4 := hφ 4 (by decide)
      have z5 := hφ 5 (by decide)
      have z6 := hφ 6 (by decide)
      have z7 := hφ 7 (by decide)
      have z8 := hφ 8 (by decide)
      have z9 := hφ 9 (by decide)
      have z10 := hφ 10 (by decide)
      have z11 := hφ 11 (by decide)
      have z12 := hφ 12 (by decide)
      clear hφ
      match vs, hvl with
      | [y0, y1, y2, y3, y4, y5, y6, y7, y8, y9, y10, y11, y12], _ =>
      simp only [List.getD_cons_zero, List.getD_cons_succ] at z0 z1 z2 z3 z4 z5 z6 z7 z8 z9 z10 z11 z12
      subst z0 z1 z2 z3 z4 z5 z6 z7 z8 z9 z10 z11 z12
      simp [putAll]
      go_wp2_with fail
      refine (MN.out _).mono ?_
      rintro e w1 ⟨rfl, rfl⟩
      go_wp2_with fail
      refine ⟨rfl, ?_⟩
      rw [hnone.out]
      exact ⟨below_after hR.2 (Nat.le_refl _) HB0.out, rfl, hgone.out.next hR.2⟩
    | some kk =>
      have look2 := Lib.hid (fun W hK => (look.out W hK).trans (show Result.ok (kindVal srcWord k0) W = .ok (.tuple #[.int .i64 kk, .bool true]) W by unfold kindVal; rw [kindIn_src, hk]; rfl))
      clear look
      have hL3 : L.drop 3 = [p0, s0, o0] := by
        have h := congrArg (List.drop 2) hL
        rw [List.drop_drop] at h
        exact h
      have hrd : Hid (∀ W, WordsAt W wb L → Rd W W.heap.size 1 encS (some ⟨wb, 3, none⟩) 3 [p0, s0, o0]) := Lib.hid (fun W h => by
        have h1 := h.rd 3 3 (by omega)
        rw [hL3] at h1
        exact h1)
      have hws : ∀ x ∈ [p0, s0, o0], x.length ≤ 200000 := fun x hx => hw x (List.mem_of_mem_drop (i := 3) (by rw [hL3]; exact hx))
      have NS := Lib.hid (fun c W hr hT => numbers_any (some ⟨wb, 3, none⟩) 3 c 3 [p0, s0, o0] W hr (by omega) hws hT)
      have NU := Lib.hid (fun W hT => number_any b0 W hT hb0)
      clear hws hL3 hw
      go_enter Tryz.func139, Tryz.ntmps139
      go_wp2_with fail
      refine (MY.out _).mono ?_
      rintro e w1 ⟨rfl, rfl⟩
      go_wp2_with fail
      refine wp_region_free9p 12 (by kernel_rfl) [some 12, some 13, some 14, some 15, some 16, some 17, some 18, some 19, some 11, some 20, some 21, some 4, some 5] [[], [0], [1], [2], [], [4], [5], [3, 6], [7], [8], [8], [9, 0, 1, 2, 3, 4, 5, 6, 7, 8, 9], [10, 11, 0, 1, 2, 3, 4, 5, 6, 7, 8, 9, 10, 11]] [(0, .pointer (some ⟨g, 0, none⟩)), (1, .slice (some ⟨wb, 1, none⟩) 5 wc)] (fun W _ => W.heap = w.heap ∧ Below w.heap.size w W) (fun i v _ _ => match i with | 0 => v = .pointer (some ⟨g, 0, none⟩) | 1 => v = .pointer (some ⟨g, 0, none⟩) | 2 => v = .pointer (some ⟨g, 0, none⟩) | 3 => v = .map (some ms) | 4 => v = .slice (some ⟨wb, 1, none⟩) 5 wc | 5 => v = .pointer (some ⟨wb, 2, none⟩) | 6 => v = .string (ba k0) | 7 => v = .tuple #[.int .i64 kk, .bool true] | 8 => v = .tuple #[.int .i64 kk, .bool true] | 9 => v = .int .i64 kk | 10 => v = .bool true | 11 => v = .int .i64 kk | 12 => v = .bool true | _ => True) (fun _ _ _ => True) (by kernel_rfl) (by kernel_rfl) rfl (by kernel_rfl) ?_ ?_ ⟨fun _ => 0, ⟨rfl, (Below.refl _ _).drew⟩, fun _ _ => trivial⟩ ?_ ?_
      · intro z hz
        simp only [List.mem_cons, List.mem_nil_iff, or_false] at hz
        rcases hz with rfl | rfl
        · exact ⟨by kernel_rfl, rfl⟩
        · exact ⟨by kernel_rfl, rfl⟩
      · intro i v W γ hi h
        rcases i with _ | _ | _ | _ | _ | _ | _ | _ | _ | _ | _ | _ | _ | i
        all_goals first | exact h | (simp at hi)
      · refine ⟨?_, ?_, ?_, ?_, ?_, ?_, ?_, ?_, ?_, ?_, ?_, ?_, ?_, trivial⟩
        all_goals
          intro a W γ ev hcc hff hfx hdf hR hψ hpre
          simp only [List.mem_cons, List.mem_nil_iff, or_false, forall_eq, forall_eq_or_imp] at hfx
          obtain ⟨f0, f1⟩ := hfx
          have r1 : W.cell? ⟨g, 0, none⟩ = some (.map (some ms)) := by unfold World.cell?; rw [hR.1]; exact r0
          have r2 : W.cell? ⟨wb, 2, none⟩ = some (.string (ba k0)) := by unfold World.cell?; rw [hR.1]; exact c1
          have hl := look2.out W (by unfold KindMap; rw [hR.1]; exact HK.out)
          have HR := Lib.hid hR
          have HD := Lib.hid hdf
          clear hR hdf
          refine ⟨fun _ K hK => ?_, trivial⟩
        · clear hpre hψ
          go_simp
          exact hK _ _ γ HR.out (fun _ _ _ _ h => h) (fun _ _ _ h => h) rfl
        · have q1 : ev (.tmp 12) = _ := hpre 0 (by decide)
          clear hpre hψ
          go_simp
          exact hK _ _ γ HR.out (fun _ _ _ _ h => h) (fun _ _ _ h => h) rfl
        · have q1 : ev (.tmp 13) = _ := hpre 1 (by decide)
          clear hpre hψ
          go_simp
          exact hK _ _ γ HR.out (fun _ _ _ _ h => h) (fun _ _ _ h => h) rfl
        · have q1 : ev (.tmp 14) = _ := hpre 2 (by decide)
          clear hpre hψ
          go_simp
          exact hK _ _ γ HR.out (fun _ _ _ _ h => h) (fun _ _ _ h => h) rfl
        · clear hpre hψ
          go_simp
          exact hK _ _ γ HR.out (fun _ _ _ _ h => h) (fun _ _ _ h => h) rfl
        · have q1 : ev (.tmp 16) = _ := hpre 4 (by decide)
          clear hpre hψ
          go_simp
          exact hK _ _ γ HR.out (fun _ _ _ _ h => h) (fun _ _ _ h => h) rfl
        · have q1 : ev (.tmp 17) = _ := hpre 5 (by decide)
          clear hpre hψ
          go_simp
          exact hK _ _ γ HR.out (fun _ _ _ _ h => h) (fun _ _ _ h => h) rfl
        · have q1 : ev (.tmp 15) = _ := hpre 3 (by decide)
          have q2 : ev (.tmp 18) = _ := hpre 6 (by decide)
          clear hpre hψ
          go_simp
          exact hK _ _ γ HR.out (fun _ _ _ _ h => h) (fun _ _ _ h => h) rfl
        · have q1 : ev (.tmp 19) = _ := hpre 7 (by decide)
          clear hpre hψ
          go_simp
          exact hK _ _ γ HR.out (fun _ _ _ _ h => h) (fun _ _ _ h => h) rfl
        · have q1 : ev (.tmp 11) = _ := hpre 8 (by decide)
          clear hpre hψ
          go_simp
          exact hK _ _ γ HR.out (fun _ _ _ _ h => h) (fun _ _ _ h => h) rfl
        · have q1 : ev (.tmp 11) = _ := hpre 8 (by decide)
          clear hpre hψ
          go_simp
          exact hK _ _ γ HR.out (fun _ _ _ _ h => h) (fun _ _ _ h => h) rfl
        · have q1 : ev (.tmp 20) = _ := hpre 9 (by decide)
          clear hpre hψ
          go_simp
          exact hK _ _ γ HR.out (fun _ _ _ _ h => h) (fun _ _ _ h => h) rfl
        · have q1 : ev (.tmp 21) = _ := hpre 10 (by decide)
          clear hpre hψ
          go_simp
          exact hK _ _ γ HR.out (fun _ _ _ _ h => h) (fun _ _ _ h => h) rfl
      intro vs w' γ hvl hR hφ
      have z0 := hφ 0 (by decide)
      have z1 := hφ 1 (by decide)
      have z2 := hφ 2 (by decide)
      have z3 := hφ 3 (by decide)
      have z4 := hφ 4 (by decide)
      have z5 := hφ 5 (by decide)
      have z6 := hφ 6 (by decide)
      have z7 := hφ 7 (by decide)
      have z8 := hφ 8 (by decide)
      have z9 := hφ 9 (by decide)
      have z10 := hφ 10 (by decide)
      have z11 := hφ 11 (by decide)
      have z12 := hφ 12 (by decide)
      clear hφ
      match vs, hvl with
      | [y0, y1, y2, y3, y4, y5, y6, y7, y8, y9, y10, y11, y12], _ =>
      simp only [List.getD_cons_zero, List.getD_cons_succ] at z0 z1 z2 z3 z4 z5 z6 z7 z8 z9 z10 z11 z12
      subst z0 z1 z2 z3 z4 z5 z6 z7 z8 z9 z10 z11 z12
      simp [putAll]
      have HR1 := Lib.hid hR
      clear hR
      go_wp2_with fail
      refine (MY.out _).mono ?_
      rintro e w1 ⟨rfl, rfl⟩
      go_wp2_with fail
      refine (NS.out _ _ (hrd.out _ (Blk.below HW.out HR1.out.2 (Blk.lt HW.out))) (HT.out.from_ (below_after HR1.out.2 (Nat.le_refl _) HB0.out) (Nat.le_refl _))).mono ?_
      rintro e w3 ⟨hB3, hE⟩
      have HB3 := Lib.hid (HR1.out.2.trans (hB3.mono HR1.out.2.size))
      clear hB3
      cases hna : numAll [p0, s0, o0] with
      | none =>
        have hnone : Hid (readSrc (L.drop 1) = none) := Lib.hid (by rw [hL, readSrc, hk, hna]; cases numL b0 <;> rfl)
        rw [numsL, if_pos rfl, hna] at hE
        subst hE
        go_wp2_with fail
        refine ⟨rfl, ?_⟩
        rw [hnone.out]
        exact ⟨below_after HB3.out (Nat.le_refl _) HB0.out, rfl, hgone.out.next HB3.out⟩
      | some ns =>
        obtain ⟨p, s1, o, rfl⟩ := nums3 rfl hna
        rw [numsL, if_pos rfl, hna] at hE
        obtain ⟨gn, rfl, hgn, hN⟩ := hE
        have HN := Lib.hid hN
        clear hN
        go_wp2_with fail
        have hsrcs : q.srcs = s.d.srcs := congrArg PlD.srcs hd
        have hsn : q.sn ≤ 200000 := by rw [← HI.out.lens.src, hsrcs]; exact hlim
        have hlt : ∀ k, Value.ownBlock (.slice q.sA q.sn q.sc) = some k → k < w3.heap.size := fun k e => Nat.lt_of_lt_of_le (row_blk_lt HI.out.own.src e).2 HB3.out.size
        obtain ⟨i0, hi1, hi2, hi3, hi4⟩ := info_parts srcInf
        have hi := Lib.hid (And.intro hi1 (And.intro hi2 (And.intro hi3 hi4)))
        have HGB : Hid (w0.heap.size ≤ g ∧ wb ≠ g ∧ gn ≠ g) := by
          refine Lib.hid ⟨hg, fun e => ?_, fun e => ?_⟩
          · subst e
            have e2 := (show w.heap[_]? = _ from HW.out).symm.trans HI.out.blk
            simp only [Option.some.injEq, Obj.cells.injEq] at e2
            exact absurd e2.2.1 (by decide)
          · have h1 := HI.out.blk.lt
            have h2 := HR1.out.2.size
            omega
        have SR : Hid (∀ W5, Below w0.heap.size w0 W5 → Gone W5 g s.index → numL b0 = none → ReadEnd w0 g s.index formP W5 ((readSrc (L.drop 1)).map (addSrc s))) := Lib.hid (fun W5 h1 h2 h3 => by
          rw [hL, readSrc, hk, h3]
          exact ⟨h1, rfl, h2⟩)
        have YES : Hid (∀ z, numL b0 = some z → readSrc (L.drop 1) = some ⟨z, kk, p, s1, o⟩) := Lib.hid (fun z h3 => by rw [hL, readSrc, hk, h3, hna])
        have LOW := Lib.hid (below_after HB3.out (Nat.le_refl _) HB0.out)
        have R0 : Hid (SrcR w0 g ms ml q s.index wb L gn [p, s1, o] w3.heap.size w3.drew) := Lib.hid ⟨LOW.out.drew, Nat.le_refl _, Blk.below HW.out HB3.out.drew (Blk.lt HW.out), HN.out, HI.out.src.next HB3.out.drew, HI.out.lnk.next HB3.out.drew, ⟨row_next HI.out.own.lnk.1 HB3.out.drew, fun y hy => (HI.out.own.lnk.2 y hy).next HB3.out.drew⟩, row_next HI.out.own.rck HB3.out.drew, hgone.out.next HB3.out.drew⟩
        have P0 : Hid (∀ j, srPsi w0 g ms ml s.index s.last q j w3.drew (fun _ => 0)) := Lib.hid (fun j => by
          unfold srPsi
          split
          · exact Blk.below HI.out.blk HB3.out.drew HI.out.blk.lt
          · exact row_next HI.out.own.src HB3.out.drew
          · exact Blk.below HI.out.blk HB3.out.drew HI.out.blk.lt
          · trivial)
        refine wp_region_free9p 26 (by kernel_rfl) [some 27, some 28, some 29, some 30, some 31, some 32, some 33, some 34, some 35, some 36, some 37, some 38, some 39, some 40, some 41, some 42, some 43, some 44, some 45, some 46, some 47, some 48, some 49, some 50, some 51, some 52, none] [[], [], [1], [2], [3], [4], [], [6], [7], [8], [], [], [11], [12], [], [14], [15], [], [17], [18], [9, 10, 13, 16, 19], [20], [5, 21, 9], [0, 0, 1, 2, 3, 4, 5, 6, 7, 8, 9, 10, 11, 12, 13, 14, 15, 16, 17, 18, 19, 20, 21, 22], [23, 0, 1, 2, 3, 4, 5, 6, 7, 8, 9, 10, 11, 12, 13, 14, 15, 16, 17, 18, 19, 20, 21, 22], [24, 0, 1, 2, 3, 4, 5, 6, 7, 8, 9, 10, 11, 12, 13, 14, 15, 16, 17, 18, 19, 20, 21, 22], [25, 22, 22, 0, 1, 2, 3, 4, 5, 6, 7, 8, 9, 10, 11, 12, 13, 14, 15, 16, 17, 18, 19, 20, 21, 22]] [(0, .pointer (some ⟨g, 0, none⟩)), (1, .slice (some ⟨wb, 1, none⟩) 5 wc), (4, .int .i64 kk), (6, .slice (some ⟨gn, 0, none⟩) 3 3)] (fun W _ => SrcR w0 g ms ml q s.index wb L gn [p, s1, o] w3.heap.size W) (srPhi w0 g wb wc gn w3.heap.size ms ml s.index s.last q b0 kk p s1 o) (srPsi w0 g ms ml s.index s.last q) (by kernel_rfl) (by kernel_rfl) rfl (by kernel_rfl) ?_ ?_ ⟨fun _ => 0, R0.out, fun j _ => P0.out j⟩ ?_ ?_
        · intro z hz
          simp only [List.mem_cons, List.mem_nil_iff, or_false] at hz
          rcases hz with rfl | rfl | rfl | rfl <;> exact ⟨by kernel_rfl, rfl⟩
        · intro i v W γ hi h
          rcases i with _ | _ | _ | _ | _ | _ | _ | _ | _ | _ | _ | _ | _ | _ | _ | _ | _ | _ | _ | _ | _ | _ | _ | _ | _ | _ | _ | i
          all_goals first | exact h | (simp at hi)
        · refine ⟨?_, ?_, ?_, ?_, ?_, ?_, ?_, ?_, ?_, ?_, ?_, ?_, ?_, ?_, ?_, ?_, ?_, ?_, ?_, ?_, ?_, ?_, ?_, ?_, ?_, ?_, ?_, trivial⟩
          all_goals
            intro a W γ ev hcc hff hfx hdf hR hψ hpre
            simp only [List.mem_cons, List.mem_nil_iff, or_false, forall_eq, forall_eq_or_imp] at hfx
            obtain ⟨f0, f1, f2, f3⟩ := hfx
            have t0 : W.cell? ⟨wb, 1, none⟩ = some (.string (ba b0)) := WordsAt.cell hR.words (by rw [← hL0])
            have t1 : W.cell? ⟨gn, 0, none⟩ = some (.int .i64 p) := hR.nums.cell rfl
            have t2 : W.cell? ⟨gn, 1, none⟩ = some (.int .i64 s1) := hR.nums.cell rfl
            have t3 : W.cell? ⟨gn, 2, none⟩ = some (.int .i64 o) := hR.nums.cell rfl
            have HR := Lib.hid hR
            have HD := Lib.hid hdf
            clear hR hdf
            refine ⟨fun _ K hK => ?_, trivial⟩
          · clear hpre hψ
            go_simp
            exact hK _ _ γ HR.out (fun _ _ _ _ h => h) (fun _ _ _ h => h) rfl
          · clear hpre hψ
            go_simp
            exact hK _ _ γ HR.out (fun _ _ _ _ h => h) (fun _ _ _ h => h) rfl
          · have q1 : ev (.tmp 28) = _ := hpre 1 (by decide)
            clear hpre hψ
            go_simp
            exact hK _ _ γ HR.out (fun _ _ _ _ h => h) (fun _ _ _ h => h) rfl
          · have q1 : ev (.tmp 29) = _ := hpre 2 (by decide)
            clear hpre hψ
            go_simp
            exact hK _ _ γ HR.out (fun _ _ _ _ h => h) (fun _ _ _ h => h) rfl
          · have q1 : ev (.tmp 30) = _ := hpre 3 (by decide)
            clear hpre hψ
            go_simp
            exact hK _ _ γ HR.out (fun _ _ _ _ h => h) (fun _ _ _ h => h) rfl
          · have q1 : ev (.tmp 31) = _ := hpre 4 (by decide)
            have hb : Blk W g 128 (rCells ms ml q s.index s.last) := hψ
            have d3 : W.cell? ⟨g, 3, none⟩ = some (.slice q.sA q.sn q.sc) := hb.cell 3
            clear hpre hψ hb
            go_simp
            exact hK _ _ γ HR.out (fun _ _ _ _ h => h) (fun _ _ _ h => h) rfl
          · clear hpre hψ
            go_simp
            exact hK _ _ γ HR.out (fun _ _ _ _ h => h) (fun _ _ _ h => h) rfl
          · have q1 : ev (.tmp 33) = _ := hpre 6 (by decide)
            clear hpre hψ
            go_simp
            exact hK _ _ γ HR.out (fun _ _ _ _ h => h) (fun _ _ _ h => h) rfl
          · have q1 : ev (.tmp 34) = _ := hpre 7 (by decide)
            clear hpre hψ
            go_simp
            exact hK _ _ γ HR.out (fun _ _ _ _ h => h) (fun _ _ _ h => h) rfl
          · have q1 : ev (.tmp 35) = _ := hpre 8 (by decide)
            have C := Lib.hid (NU.out W (HT.out.from_ HR.out.low (Nat.le_refl _)))
            clear hpre hψ
            go_simp
            refine C.out.mono ?_
            rintro e w5 ⟨rfl, hB⟩
            have HB := Lib.hid hB
            cases hz : numL b0 with
            | none =>
              go_wp2_with fail
              exact ⟨HD.out, SR.out _ (below_after HB.out (Nat.le_refl _) HR.out.low) (HR.out.gone.next HB.out) hz⟩
            | some z0 =>
              exact hK _ w5 γ (HR.out.next HB.out) (fun j u _ _ h => srPhi_kept HB.out j u h) (fun j _ _ h => srPsi_kept HB.out j h) ⟨by rw [hz]; rfl, by rw [hz]; rfl⟩
          · clear hpre hψ
            go_simp
            exact hK _ _ γ HR.out (fun _ _ _ _ h => h) (fun _ _ _ h => h) rfl
          · clear hpre hψ
            go_simp
            exact hK _ _ γ HR.out (fun _ _ _ _ h => h) (fun _ _ _ h => h) rfl
          · have q1 : ev (.tmp 38) = _ := hpre 11 (by decide)
            clear hpre hψ
            go_simp
            exact hK _ _ γ HR.out (fun _ _ _ _ h => h) (fun _ _ _ h => h) rfl
          · have q1 : ev (.tmp 39) = _ := hpre 12 (by decide)
            clear hpre hψ
            go_simp
            exact hK _ _ γ HR.out (fun _ _ _ _ h => h) (fun _ _ _ h => h) rfl
          · clear hpre hψ
            go_simp
            exact hK _ _ γ HR.out (fun _ _ _ _ h => h) (fun _ _ _ h => h) rfl
          · have q1 : ev (.tmp 41) = _ := hpre 14 (by decide)
            clear hpre hψ
            go_simp
            exact hK _ _ γ HR.out (fun _ _ _ _ h => h) (fun _ _ _ h => h) rfl
          · have q1 : ev (.tmp 42) = _ := hpre 15 (by decide)
            clear hpre hψ
            go_simp
            exact hK _ _ γ HR.out (fun _ _ _ _ h => h) (fun _ _ _ h => h) rfl
          · clear hpre hψ
            go_simp
            exact hK _ _ γ HR.out (fun _ _ _ _ h => h) (fun _ _ _ h => h) rfl
          · have q1 : ev (.tmp 44) = _ := hpre 17 (by decide)
            clear hpre hψ
            go_simp
            exact hK _ _ γ HR.out (fun _ _ _ _ h => h) (fun _ _ _ h => h) rfl
          · have q1 : ev (.tmp 45) = _ := hpre 18 (by decide)
            clear hpre hψ
            go_simp
            exact hK _ _ γ HR.out (fun _ _ _ _ h => h) (fun _ _ _ h => h) rfl
          · have q1 : ev (.tmp 36) = _ := (hpre 9 (by decide)).1
            have q2 : ev (.tmp 37) = _ := hpre 10 (by decide)
            have q3 : ev (.tmp 40) = _ := hpre 13 (by decide)
            have q4 : ev (.tmp 43) = _ := hpre 16 (by decide)
            have q5 : ev (.tmp 46) = _ := hpre 19 (by decide)
            clear hpre hψ
            go_simp
            exact hK _ _ γ HR.out (fun _ _ _ _ h => h) (fun _ _ _ h => h) rfl
          · have q1 : ev (.tmp 47) = _ := hpre 20 (by decide)
            clear hpre hψ
            go_simp
            have HB : Below W.heap.size W (W.alloc (.cells #[.int .i64 ((numL b0).getD 0), .int .i64 kk, .int .i64 p, .int .i64 s1, .int .i64 o] 110)) := (Below.refl _ _).alloc (Nat.le_refl _) _
            exact hK _ _ γ (HR.out.next HB) (fun j u _ _ h => srPhi_kept HB j u h) (fun j _ _ h => srPsi_kept HB j h) ⟨W.heap.size, rfl, HR.out.size, heap_alloc_new W _⟩
          · have q1 : ev (.tmp 32) = _ := hpre 5 (by decide)
            obtain ⟨B, q2, hB1, hB2⟩ := hpre 21 (by decide)
            replace q2 : ev (.tmp 48) = _ := q2
            have hrow : SrcRow W w0.heap.size q.sA q.sn q.sc q.srcs := hψ
            obtain ⟨v', W', hr, h2, h3, _, _⟩ := run_append_own_at (P := Tryz.prog) W w0.heap.size 22 22 110 i0 (.agg #[.int .i64 0, .int .i64 0, .int .i64 0, .int .i64 0, .int .i64 0]) 5 40 Tryz.underlying22 hi.out.1 hi.out.2.1 hi.out.2.2.1 hi.out.2.2.2 rfl (by decide) (.slice q.sA q.sn q.sc) q.sn (q.srcs.flatMap Src.enc) hrow ⟨B, 0, none⟩ 1 1 (Src.enc ⟨(numL b0).getD 0, kk, p, s1, o⟩) rfl (fun j u hj => by
              rw [add0, Blk.cell hB2]
              simpa [Src.enc] using hj) (fun u hu => by simp only [Src.enc, List.mem_cons, List.mem_nil_iff, or_false] at hu; rcases hu with rfl | rfl | rfl | rfl | rfl <;> rfl) (by simp only [maxLen]; omega) (by omega) HR.out.low.size
            unfold execOp
            simp only [resolve, invoke, builtin, Sem.run_bind, Sem.run_pure, Result.andThen_ok, List.map_toArray, List.map_cons, List.map_nil, q1, q2, hr]
            obtain ⟨A', c', e'⟩ := row_slice h2
            subst e'
            refine hK _ W' γ (HR.out.row hrow h3) (fun j u hj hne h => srPhi_row hrow h3 hlt j u (fun e => hj (by subst e; decide)) hne h) (fun j hj hnb h => srPsi_row hrow h3 j hj h) ⟨A', c', rfl, ?_⟩
            unfold SrcRow
            rw [List.flatMap_append]
            exact h2
          · have q1 : ev (.tmp 27) = _ := hpre 0 (by decide)
            clear hpre hψ
            go_simp
            exact hK _ _ γ HR.out (fun _ _ _ _ h => h) (fun _ _ _ h => h) rfl
          · have q1 : ev (.tmp 50) = _ := hpre 23 (by decide)
            clear hpre hψ
            go_simp
            exact hK _ _ γ HR.out (fun _ _ _ _ h => h) (fun _ _ _ h => h) rfl
          · have q1 : ev (.tmp 51) = _ := hpre 24 (by decide)
            clear hpre hψ
            go_simp
            exact hK _ _ γ HR.out (fun _ _ _ _ h => h) (fun _ _ _ h => h) rfl
          · have q1 : ev (.tmp 52) = _ := hpre 25 (by decide)
            obtain ⟨A', c', q2, hrow⟩ := hpre 22 (by decide)
            replace q2 : ev (.tmp 49) = _ := q2
            have hb : Blk W g 128 (rCells ms ml q s.index s.last) := hψ
            have d3 : W.cell? ⟨g, 3, none⟩ = some (.slice q.sA q.sn q.sc) := hb.cell 3
            have fz := hb.frozen
            have hg := only_setCell (World.grownBy.refl W (some g)) (p := ⟨g, 3, none⟩) rfl (.slice A' (q.sn + 1) c')
            have hb2 : Blk (W.setCell ⟨g, 3, none⟩ (.slice A' (q.sn + 1) c')) g 128 (rCells ms ml { q with sA := A', sn := q.sn + 1, sc := c', srcs := q.srcs ++ [⟨(numL b0).getD 0, kk, p, s1, o⟩] } s.index s.last) := by
              have h := hb.set_ 3 (.slice A' (q.sn + 1) c')
              simpa only [rCells, List.setIfInBounds_toArray, List.set_cons_zero, List.set_cons_succ] using h
            have HG := Lib.hid hg
            have HB2 := Lib.hid hb2
            have HRW := Lib.hid hrow
            have HB := Lib.hid hb
            clear hpre hψ hg hb2 hrow hb
            go_simp
            exact hK undef _ γ (HR.out.store HG.out HB.out HB2.out HGB.out) (fun j u _ hne h => srPhi_store HG.out HB.out j u hne h) (fun j hj hnb h => srPsi_last j hj (fun h' => hnb (by rcases h' with rfl | rfl <;> decide)) h) ⟨A', c', HB2.out, row_store HRW.out HG.out HB.out (by decide)⟩
        · intro vs w' γ hvl hR hφ
          obtain ⟨A', c', hb, hrow⟩ := hφ 26 (by decide)
          obtain ⟨_, hz⟩ := hφ 9 (by decide)
          have HR := Lib.hid hR
          have HB := Lib.hid hb
          have HRW := Lib.hid hrow
          clear hφ hR hb hrow
          match vs, hvl with
          | [y0, y1, y2, y3, y4, y5, y6, y7, y8, y9, y10, y11, y12, y13, y14, y15, y16, y17, y18, y19, y20, y21, y22, y23, y24, y25, y26], _ =>
          simp [putAll]
          go_wp2
          go_end0
          refine ⟨HR.out.low, ?_⟩
          rw [YES.out _ hz]
          refine ⟨rfl, ms, ml, _, ⟨HB.out, HR.out.src, HR.out.lnk, ⟨HRW.out, HR.out.lnks, HR.out.rck⟩, ⟨?_, HI.out.lens.lnk, HI.out.lens.rck, HI.out.lens.trip⟩⟩, ?_⟩
          · simp [HI.out.lens.src]
          · simp only [addSrc, ← hd, Plt.data]
  · have hnone : Hid (readSrc (L.drop 1) = none) := Lib.hid (readSrc_len (by omega))
    have hd5 : ((n : Int) == 5) = false := beq_eq_false_iff_ne.2 (by omega)
    go_enter Tryz.func139, Tryz.ntmps139
    go_wp2_with fail
    refine (MN.out _).mono ?_
    rintro e w1 ⟨rfl, rfl⟩
    go_wp2_with fail
    refine ⟨rfl, ?_⟩
    rw [hnone.out]
    exact ⟨HB0.out, rfl, hgone.out⟩
end Go.Proofs.YtcnmfblbfpcghaaGreatDoor
