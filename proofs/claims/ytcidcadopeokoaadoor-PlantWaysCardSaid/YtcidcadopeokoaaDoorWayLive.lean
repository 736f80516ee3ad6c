/- What the law's marks and islands say. Nothing here walks. -/
import Derived.Test.YtcidcadopeokoaaDoorOneIsle
import Derived.Test.YtcidcadopeokoaaDoorIslands
namespace Go.Proofs.YtcidcadopeokoaaDoor
open Go.RowKit
/-- The buses that sources feed. -/
def wayTo (B : Nat) (s : Stt) (S : List Src) : Nat → List Bool
  | 0 => noB B
  | k + 1 => match S[k]? with
    | some x => (wayTo B s S k).set x.bus.toNat (mk (wayTo B s S k) x.bus.toNat || (bit s.on k && !bit s.badSource k && !bit s.badBus x.bus.toNat))
    | none => wayTo B s S k
theorem wayTo_length (B : Nat) (s : Stt) (S : List Src) (k : Nat) : (wayTo B s S k).length = B := by
  induction k with
  | zero => simp [wayTo, noB]
  | succ k ih =>
    unfold wayTo
    split
    · rw [List.length_set, ih]
    · exact ih
theorem wayTo_succ (B : Nat) (s : Stt) (S : List Src) (k : Nat) (x : Src) (h : S[k]? = some x) : wayTo B s S (k + 1) = (wayTo B s S k).set x.bus.toNat (mk (wayTo B s S k) x.bus.toNat || (bit s.on k && !bit s.badSource k && !bit s.badBus x.bus.toNat)) := by
  conv => lhs; unfold wayTo
  rw [h]
theorem way_iff {p : Plt} {s : Stt} {B : Nat} (hS : ∀ x ∈ p.srcs, 0 ≤ x.bus ∧ x.bus < B) (k i : Nat) (hk : k ≤ p.srcs.length) : mk (wayTo B s p.srcs k) i = true ↔ ∃ j x, j < k ∧ Feeds p s j x ∧ x.bus.toNat = i := by
  induction k with
  | zero =>
    simp only [wayTo, mk_noB]
    constructor
    · intro h; cases h
    · rintro ⟨j, x, h, _⟩; omega
  | succ k ih =>
    have hx : p.srcs[k]? = some p.srcs[k] := List.getElem?_eq_getElem (by omega)
    obtain ⟨x, ex⟩ : ∃ x, p.srcs[k] = x := ⟨_, rfl⟩
    rw [ex] at hx
    have hb := hS x (List.mem_of_getElem? hx)
    rw [wayTo_succ B s p.srcs k x hx]
    have hm : mk ((wayTo B s p.srcs k).set x.bus.toNat (mk (wayTo B s p.srcs k) x.bus.toNat || (bit s.on k && !bit s.badSource k && !bit s.badBus x.bus.toNat))) i = if x.bus.toNat = i then (mk (wayTo B s p.srcs k) i || (bit s.on k && !bit s.badSource k && !bit s.badBus x.bus.toNat)) else mk (wayTo B s p.srcs k) i := by
      split
      · rename_i e
        subst e
        conv => lhs; unfold mk
        rw [List.getElem?_set_self (by rw [wayTo_length]; omega)]
        rfl
      · rename_i e
        unfold mk
        rw [List.getElem?_set_ne e]
    rw [hm]
    have hF : Feeds p s k x ↔ (bit s.on k && !bit s.badSource k && !bit s.badBus x.bus.toNat) = true := by
      unfold Feeds
      simp [hx, and_assoc]
    constructor
    · intro h
      split at h
      · rename_i e
        rcases Bool.or_eq_true _ _ |>.mp h with h | h
        · obtain ⟨j, y, h1, h2⟩ := (ih (by omega)).1 h
          exact ⟨j, y, by omega, h2⟩
        · exact ⟨k, x, by omega, hF.2 h, e⟩
      · obtain ⟨j, y, h1, h2⟩ := (ih (by omega)).1 h
        exact ⟨j, y, by omega, h2⟩
    · rintro ⟨j, y, h1, h2, h3⟩
      rcases Nat.lt_or_ge j k with h | h
      · have h4 := (ih (by omega)).2 ⟨j, y, h, h2, h3⟩
        split
        · rw [h4]; rfl
        · exact h4
      · obtain rfl : j = k := by omega
        obtain rfl : x = y := by
          have := h2.1
          rw [hx] at this
          exact Option.some.inj this
        rw [if_pos h3, hF.1 h2]
        simp
/-- THE MARKS ARE THE LIVE BUSES. -/
theorem way_live {p : Plt} {s : Stt} {B : Nat} {L : List (LnkOf B)} (S : Sound p s B L) (hsn : p.srcs.length = p.sn) (i : Nat) (hi : i < B) :
    mk (rounds (conds s) L p.ln (wayTo B s p.srcs p.sn) B) i = true ↔ (liveL p s L)[i]? = some true := by
  rw [rounds_iff s L p.ln _ (wayTo_length B s p.srcs p.sn), live_iff S hsn i hi]
  constructor
  · rintro ⟨j, h1, h2⟩
    obtain ⟨k, x, _, hf, rfl⟩ := (way_iff S.srcs p.sn j (by omega)).1 h1
    refine ⟨?_, k, x, hf, h2⟩
    rcases conn_good h2 with e | e
    · rw [← e]; exact hf.2.2.2
    · exact e.2
  · rintro ⟨_, k, x, hf, hj⟩
    refine ⟨x.bus.toNat, (way_iff S.srcs p.sn _ (by omega)).2 ⟨k, x, ?_, hf, rfl⟩, hj⟩
    have := (List.getElem?_eq_some_iff.1 hf.1).1
    omega
theorem mem_busesTo {H : List Int} {k r : Nat} {x : Int} : x ∈ busesTo H k r ↔ ∃ b : Nat, b < k ∧ H[b]? = some (r : Int) ∧ x = (b : Int) := by
  unfold busesTo
  simp only [List.mem_map, List.mem_filter, List.mem_range, decide_eq_true_eq]
  exact ⟨fun ⟨b, ⟨h1, h2⟩, h3⟩ => ⟨b, h1, h2, h3.symm⟩, fun ⟨b, h1, h2, h3⟩ => ⟨b, ⟨h1, h2⟩, h3.symm⟩⟩
theorem busesTo_sorted (H : List Int) (k r : Nat) : (busesTo H k r).Pairwise (· < ·) := by
  unfold busesTo
  rw [List.pairwise_map]
  exact (List.Pairwise.filter _ List.pairwise_lt_range).imp fun h => by omega
theorem rootsTo_sorted (H : List Int) (k : Nat) : (rootsTo H k).Pairwise (· < ·) := List.Pairwise.filter _ List.pairwise_lt_range
/-- The first bus of an island is its home. -/
theorem busesTo_head {H : List Int} {B r : Nat} (hH : HomesOk B H) (hr : r ∈ rootsTo H B) : (busesTo H B r)[0]? = some (r : Int) := by
  obtain ⟨h1, h2⟩ := mem_rootsTo.1 hr
  have hm : (r : Int) ∈ busesTo H B r := mem_busesTo.2 ⟨r, h1, h2, rfl⟩
  obtain ⟨n, hn, hx⟩ := List.getElem_of_mem hm
  have hlen : 0 < (busesTo H B r).length := by omega
  rw [List.getElem?_eq_getElem hlen]
  congr 1
  obtain ⟨b, hb, hbr, e⟩ := mem_busesTo.1 (List.getElem_mem hlen)
  have hle : (r : Int) ≤ (b : Int) := by
    rcases hH.2 b _ hbr with h | ⟨q, h3, h4, _⟩
    · omega
    · omega
  rcases Nat.eq_zero_or_pos n with rfl | hp
  · exact hx
  · have := List.pairwise_iff_getElem.1 (busesTo_sorted H B r) 0 n hlen hn hp
    omega
theorem home_iff {B : Nat} (p : Plt) (s : Stt) (L : List (LnkOf B)) (b r : Nat) (hb : b < B) : (homeL p s L)[b]? = some (r : Int) ↔ bit s.badBus b = false ∧ rootOf (joinAll (List.range B) (condTo s L p.ln)) b = r := by
  rw [homeL_get p s L b hb]
  unfold homeAt
  simp only [Option.some.injEq]
  cases hbad : bit s.badBus b
  · simp only [Bool.false_eq_true, if_false, true_and]
    omega
  · simp
/-- AN ISLAND hangs together and is shut. -/
theorem isle_joined {B : Nat} (p : Plt) (s : Stt) (L : List (LnkOf B)) (r : Nat) (hr : r ∈ rootsTo (homeL p s L) B) : joinedB s L p.ln (busesTo (homeL p s L) B r) = true := by
  have h0 := busesTo_head (homesOk p s L) hr
  obtain ⟨hrB, hrr⟩ := mem_rootsTo.1 hr
  have hhd : (busesTo (homeL p s L) B r).headD 0 = (r : Int) := by
    cases h : busesTo (homeL p s L) B r with
    | nil => rw [h] at h0; cases h0
    | cons a l => rw [h] at h0; simpa using h0
  have hroot := (home_iff p s L r r hrB).1 hrr
  refine joined_true s L p.ln _ (by obtain ⟨h, _⟩ := List.getElem?_eq_some_iff.1 h0; exact h) (fun x hx => ?_) (fun x hx => ?_) (fun x hx i hi => ?_)
  · obtain ⟨b, h1, _, rfl⟩ := mem_busesTo.1 hx
    omega
  · obtain ⟨b, h1, h2, rfl⟩ := mem_busesTo.1 hx
    rw [hhd]
    simp only [Int.toNat_natCast]
    rw [← root_joined, ((home_iff p s L b r h1).1 h2).2, hroot.2]
  · obtain ⟨b, h1, h2, rfl⟩ := mem_busesTo.1 hx
    simp only [Int.toNat_natCast] at hi
    have h3 := (home_iff p s L b r h1).1 h2
    have hgood := conn_good hi
    rw [← root_joined, h3.2] at hi
    have hiB : i < B := by
      rcases Nat.lt_or_ge i B with h | h
      · exact h
      · exfalso
        have hs := joinAll_fit (List.range B) (range_down B) (condTo s L p.ln)
        rw [List.length_range] at hs
        have h5 : rootOf (joinAll (List.range B) (condTo s L p.ln)) i = i := by
          rw [rootOf]
          simp [List.getElem?_eq_none (show (joinAll (List.range B) (condTo s L p.ln)).length ≤ i by omega)]
        omega
    refine mem_busesTo.2 ⟨i, hiB, (home_iff p s L i r hiB).2 ⟨?_, hi.symm⟩, rfl⟩
    rcases hgood with e | e
    · rw [← e]; exact h3.1
    · exact e.2
end Go.Proofs.YtcidcadopeokoaaDoor
