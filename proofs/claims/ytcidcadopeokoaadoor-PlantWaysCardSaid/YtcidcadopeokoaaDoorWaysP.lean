/- What the law on ways asks of islands, sources and links. Nothing here walks. -/
import Derived.Test.YtcidcadopeokoaaDoorInOf
namespace Go.Proofs.YtcidcadopeokoaaDoor
open Go.RowKit

theorem sources_at {p : Plt} {s : Stt} {B : Nat} {L : List (LnkOf B)} (S : Sound p s B L) {r : Nat} {x : Int} (hx : x ∈ srcsOf (feedTo (B := B) s p.srcs (homeL p s L) p.sn) r) :
    ∃ (k : Nat) (y : Src), x = (k : Int) ∧ k < p.sn ∧ Feeds p s k y ∧ (homeL p s L)[y.bus.toNat]? = some (r : Int) := by
  unfold srcsOf at hx
  simp only [List.mem_map, List.mem_filter, decide_eq_true_eq] at hx
  obtain ⟨⟨k, m⟩, ⟨h1, h2⟩, rfl⟩ := hx
  obtain ⟨hk, y, hf, hr⟩ := (mem_feeds S k m).1 h1
  have hxb := S.srcs y (List.mem_of_getElem? hf.1)
  have hxB : y.bus.toNat < B := by omega
  exact ⟨k, y, rfl, hk, hf, (home_iff p s L _ r hxB).2 ⟨hf.2.2.2, by rw [hr]; exact h2⟩⟩
/-- A bus that has failed is in no island, and dead. -/
theorem home_bad {B : Nat} (p : Plt) (s : Stt) (L : List (LnkOf B)) (b : Nat) (hb : b < B) (h : bit s.badBus b = true) : (homeL p s L)[b]? = some (-1) := by
  rw [homeL_get p s L b hb]
  unfold homeAt
  rw [h]
  rfl
theorem home_good {B : Nat} (p : Plt) (s : Stt) (L : List (LnkOf B)) (b : Nat) (hb : b < B) (h : bit s.badBus b = false) : ∃ (r j : Nat), (homeL p s L)[b]? = some (r : Int) ∧ (rootsTo (homeL p s L) B)[j]? = some r := by
  have h1 := (home_iff p s L b _ hb).2 ⟨h, rfl⟩
  rcases (homesOk p s L).2 b _ h1 with e | ⟨q, h2, h3, h4⟩
  · omega
  · obtain rfl : q = rootOf (joinAll (List.range B) (condTo s L p.ln)) b := by omega
    obtain ⟨j, hj⟩ := List.getElem?_of_mem (mem_rootsTo.2 ⟨(show rootOf (joinAll (List.range B) (condTo s L p.ln)) b < B by omega), h4⟩)
    exact ⟨_, j, h1, hj⟩
theorem live_at {B : Nat} (p : Plt) (s : Stt) (L : List (LnkOf B)) (b r : Nat) (hb : b < B) (h : (homeL p s L)[b]? = some (r : Int)) :
    (liveL p s L)[b]? = some (decide (0 < (srcsOf (feedTo (B := B) s p.srcs (homeL p s L) p.sn) r).length)) := by
  unfold liveL liveTo
  rw [List.getElem?_map, List.getElem?_range hb]
  simp only [Option.map_some, if_pos hb, Option.some.injEq]
  unfold liveAt
  rw [h]
  simp only [Option.getD_some]
  have hr : r < B := by
    rcases (homesOk p s L).2 b _ h with e | ⟨q, h2, h3, h4⟩
    · omega
    · omega
  have e := isl_some (⟨r, hr⟩ : Fin B)
  dsimp only at e
  rw [e]
  dsimp only
  unfold fedOf srcsOf
  rw [List.getElem?_map, List.getElem?_range hr, List.length_map]
  simp only [Option.map_some, Option.getD_some]
  rw [Bool.eq_iff_iff]
  simp only [List.any_eq_true, beq_iff_eq, decide_eq_true_eq, List.length_pos_iff_exists_mem, List.mem_filter]
theorem live_none {B : Nat} (p : Plt) (s : Stt) (L : List (LnkOf B)) (b : Nat) (hb : b < B) (h : bit s.badBus b = true) : (liveL p s L)[b]? = some false := by
  unfold liveL liveTo
  rw [List.getElem?_map, List.getElem?_range hb]
  simp only [Option.map_some, if_pos hb, Option.some.injEq]
  unfold liveAt
  rw [home_bad p s L b hb h]
  simp only [Option.getD_some]
  rw [isl_none]
/-- A link that conducts joins no two islands. -/
theorem link_home {p : Plt} {s : Stt} {B : Nat} {L : List (LnkOf B)} {k : Nat} {x : LnkOf B} (hx : L[k]? = some x) (hk : k < p.ln) (hc : conds s k x.1 = true) :
    ∃ (r j : Nat), (homeL p s L)[x.1.a.toNat]? = some (r : Int) ∧ (homeL p s L)[x.1.b.toNat]? = some (r : Int) ∧ (rootsTo (homeL p s L) B)[j]? = some r := by
  obtain ⟨ha, hb⟩ := ends hx
  have hc' := hc
  simp only [conds, Bool.and_eq_true, Bool.not_eq_true'] at hc'
  obtain ⟨r, j, h1, h2⟩ := home_good p s L x.1.a.toNat ha hc'.1.2
  refine ⟨r, j, h1, (home_iff p s L _ r hb).2 ⟨hc'.2, ?_⟩, h2⟩
  have hj : Joined (condTo s L p.ln) x.1.a.toNat x.1.b.toNat := .link ((mem_condTo s L p.ln x).2 ⟨k, hk, hx, hc⟩)
  rw [← root_joined, ((home_iff p s L _ r ha).1 h1).2] at hj
  exact hj.symm
/-- THE MARKS, bus by bus. -/
theorem way_at {p : Plt} {s : Stt} {B : Nat} {L : List (LnkOf B)} (S : Sound p s B L) (hsn : p.srcs.length = p.sn) (V : List Bool) (hV : rounds (conds s) L p.ln (wayTo B s p.srcs p.sn) B = V) (b : Nat) (hb : b < B) (v : Bool) (h : (liveL p s L)[b]? = some v) : V[b]? = some v := by
  have hl : V.length = B := by rw [← hV, rounds_length, wayTo_length]
  have h1 := way_live S hsn b hb
  rw [hV, h] at h1
  have h2 : V[b]? = some (mk V b) := by
    unfold mk
    rw [List.getElem?_eq_getElem (by omega)]
    rfl
  rw [h2]
  cases v
  · cases hm : mk V b
    · rfl
    · have := h1.1 hm
      simp at this
  · rw [h1.2 rfl]
end Go.Proofs.YtcidcadopeokoaaDoor
