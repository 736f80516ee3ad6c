/- Rows that are copies of lists of structs. Nothing here names a function. -/
import Derived.Test.YtnngdcidopaabaaGreatDoorAwKit

set_option linter.unusedSimpArgs false
set_option linter.unusedVariables false
namespace Go.Proofs.YtnngdcidopaabaaGreatDoor
open Go.RowKit

theorem flatMap_inv {α : Type} {f : α → List Value} {size : Nat} : ∀ (l : List α), (∀ x ∈ l, (f x).length = size) → ∀ (j : Nat) (u : Value), (l.flatMap f)[j]? = some u → ∃ (i : Nat) (x : α) (r : Nat), l[i]? = some x ∧ (f x)[r]? = some u ∧ j = i * size + r
  | [], _, j, u, h => by simp at h
  | y :: l, hf, j, u, h => by
    rw [List.flatMap_cons] at h
    have hy := hf y (List.mem_cons_self ..)
    rcases Nat.lt_or_ge j size with hj | hj
    · rw [List.getElem?_append_left (by omega)] at h
      exact ⟨0, y, j, rfl, h, by simp⟩
    · rw [List.getElem?_append_right (by omega)] at h
      obtain ⟨i, x, r, h1, h2, h3⟩ := flatMap_inv l (fun x hx => hf x (List.mem_cons_of_mem _ hx)) _ u h
      refine ⟨i + 1, x, r, h1, h2, ?_⟩
      rw [Nat.add_mul]
      omega
theorem flatMap_size {α : Type} {f : α → List Value} {size : Nat} : ∀ (l : List α), (∀ x ∈ l, (f x).length = size) → (l.flatMap f).length = l.length * size
  | [], _ => by simp
  | y :: l, hf => by
    rw [List.flatMap_cons, List.length_append, hf y (List.mem_cons_self ..), flatMap_size l (fun x hx => hf x (List.mem_cons_of_mem _ hx)), List.length_cons, Nat.add_mul]
    omega
/-- What append reads of a list that lies at an address. -/
theorem Rd.news {α : Type} {w : World} {B size n : Nat} {f : α → List Value} {ad : Addr} {l : List α} (h : Rd w B size f (some ad) n l) (hf : ∀ x ∈ l, (f x).length = size) (j : Nat) (u : Value) (hu : (l.flatMap f)[j]? = some u) : w.cell? (ad.add j) = some u := by
  obtain ⟨i, x, r, hx, hr, rfl⟩ := flatMap_inv l hf j u hu
  have hi := (List.getElem?_eq_some_iff.1 hx).1
  have hl := h.1
  obtain ⟨b, off, e, hb, hc⟩ := h.2 (by omega)
  cases e
  have := hc i x hx r u hr
  unfold Addr.add
  split
  · rename_i h0
    rw [Nat.add_assoc, h0, Nat.add_zero] at this
    exact this
  · rw [Nat.add_assoc] at this
    exact this
/-- A row of its own reads as the list. -/
theorem rd_row {α : Type} {w : World} {base size n : Nat} {T : TypeId} {f : α → List Value} {A : Option Addr} {c : Nat} {l : List α} (hf : ∀ x ∈ l, (f x).length = size) (hl : l.length = n) (h : w.ownsRow base T size (.slice A n c) n (l.flatMap f)) : Rd w w.heap.size size f A n l := by
  refine ⟨hl, fun hn => ?_⟩
  obtain ⟨g, cap, e⟩ := row_some h hn
  simp only [Value.slice.injEq] at e
  obtain ⟨e, _, _⟩ := e
  subst e
  refine ⟨g, 0, rfl, (h.lt g rfl).2, fun i x hx j u hu => ?_⟩
  rw [Nat.zero_add]
  exact row_cell h (flatMap_get (f := f) (size := size) l hf i x hx j u hu)
theorem one_flat {α : Type} {f : α → List Value} {l : List α} (h : ∀ x ∈ l, ∀ u ∈ f x, u.oneCell' = true) : ∀ u ∈ l.flatMap f, u.oneCell' = true := by
  intro u hu
  obtain ⟨x, hx, hux⟩ := List.mem_flatMap.1 hu
  exact h x hx u hux
end Go.Proofs.YtnngdcidopaabaaGreatDoor

/- The kit's copies of sources, racks and trips. -/
namespace Go.Proofs.YtnngdcidopaabaaGreatDoor
open Go.RowKit

theorem sourceInfo : (Tryz.prog.info? 89).map (fun i => (i.zero, i.size, i.bytes)) = some (some (.agg #[.int .i64 0, .int .i64 0, .int .i64 0, .int .i64 0, .int .i64 0]), 5, 40) := by kernel_rfl
set_option maxRecDepth 100000 in
set_option maxHeartbeats 1000000 in
theorem CopySources_any (A : Option Addr) (n c : Nat) (l : List Src) (w : World) (hr : Rd w w.heap.size 5 Src.enc A n l) (hn : n ≤ 1000000) :
    Calls Tryz.prog 37 #[.slice A n c] w fun e w' => ∃ (A' : Option Addr) (c' : Nat), e = .returned (.slice A' n c') ∧ w'.ownsRow w.heap.size 89 5 (.slice A' n c') n (l.flatMap Src.enc) ∧ Below w.heap.size w w' := by
  have hlen := hr.1
  obtain ⟨i0, hi, hz0, hz1, hz2⟩ := info_parts sourceInfo
  cases A with
  | none =>
    have hn0 : n = 0 := by
      rcases Nat.eq_zero_or_pos n with h | h
      · exact h
      · obtain ⟨_, _, e, _⟩ := hr.2 h
        cases e
    subst hn0
    have hl0 : l = [] := List.eq_nil_of_length_eq_zero hlen
    subst hl0
    clear hr hlen hn hi hz0 hz1 hz2
    go_enter Tryz.func37, Tryz.ntmps37
    go_wp2
    go_ret
    exact ⟨none, 0, rfl, World.ownsRow_nil _ _ _ _, Below.refl _ _⟩
  | some ad =>
    have hnews : Hid (∀ W, Below w.heap.size w W → ∀ j u, (l.flatMap Src.enc)[j]? = some u → W.cell? (ad.add j) = some u) := fun W hW => (hr.below hW).news (fun _ _ => rfl)
    clear hr
    go_enter Tryz.func37, Tryz.ntmps37
    go_wp2_with (at_builtin; refine wpList_append_own_at _ rfl (.tmp 4) (.tmp 5) 22 rfl w.heap.size 89 i0 (.agg #[.int .i64 0, .int .i64 0, .int .i64 0, .int .i64 0, .int .i64 0]) 5 40 Tryz.underlying22 hi hz0 hz1 hz2 rfl (by decide) (.slice none 0 0) 0 [] rfl (World.ownsRow_nil _ _ _ _) ad n c (l.flatMap Src.enc) rfl ?_ (hnews.out _ (by (repeat' (first | (with_reducible exact Below.refl _ _) | (with_reducible assumption) | (with_reducible refine below_drewN ?_ _) | (with_reducible refine below_after (by assumption) ?_ ?_) | (with_reducible refine Below.drew ?_) | (with_reducible refine Below.alloc ?_ ?_ _) | (with_reducible refine Below.setCell ?_ ?_ _) | omega | (simp; omega) | (simp; done))))) ?_ ?_ ?_ ?_ ?_)
    case _ => rw [flatMap_size l (size := 5) (fun _ _ => rfl), hlen]
    case _ =>
      refine one_flat (fun x _ u hu => ?_)
      simp only [Src.enc, List.mem_cons, List.mem_nil_iff, or_false] at hu
      rcases hu with rfl | rfl | rfl | rfl | rfl <;> rfl
    case _ => simp only [maxLen]; omega
    case _ => omega
    case _ => simp
    intro v' w1 hown hg _ hat
    have hB : Below w.heap.size w w1 := Below.grown (w := w) (by (repeat' (first | (with_reducible exact Below.refl _ _) | (with_reducible assumption) | (with_reducible refine below_drewN ?_ _) | (with_reducible refine below_after (by assumption) ?_ ?_) | (with_reducible refine Below.drew ?_) | (with_reducible refine Below.alloc ?_ ?_ _) | (with_reducible refine Below.setCell ?_ ?_ _) | omega | (simp; omega) | (simp; done)))) hg (by simp) (fun k e => by simp [Value.ownBlock] at e)
    have hown : World.ownsRow w1 w.heap.size 89 5 v' n (l.flatMap Src.enc) := by simpa using hown
    obtain ⟨A', c', rfl⟩ := row_slice hown
    have HO := Lib.hid hown
    clear hown hat hg
    go_wp2
    go_ret
    exact ⟨A', c', rfl, HO.out, hB⟩

theorem rackInfo : (Tryz.prog.info? 95).map (fun i => (i.zero, i.size, i.bytes)) = some (some (.agg #[.int .i64 0, .int .i64 0, .int .i64 0, .int .i64 0]), 4, 32) := by kernel_rfl
set_option maxRecDepth 100000 in
set_option maxHeartbeats 1000000 in
theorem CopyRacks_any (A : Option Addr) (n c : Nat) (l : List Rck) (w : World) (hr : Rd w w.heap.size 4 Rck.enc A n l) (hn : n ≤ 1000000) :
    Calls Tryz.prog 39 #[.slice A n c] w fun e w' => ∃ (A' : Option Addr) (c' : Nat), e = .returned (.slice A' n c') ∧ w'.ownsRow w.heap.size 95 4 (.slice A' n c') n (l.flatMap Rck.enc) ∧ Below w.heap.size w w' := by
  have hlen := hr.1
  obtain ⟨i0, hi, hz0, hz1, hz2⟩ := info_parts rackInfo
  cases A with
  | none =>
    have hn0 : n = 0 := by
      rcases Nat.eq_zero_or_pos n with h | h
      · exact h
      · obtain ⟨_, _, e, _⟩ := hr.2 h
        cases e
    subst hn0
    have hl0 : l = [] := List.eq_nil_of_length_eq_zero hlen
    subst hl0
    clear hr hlen hn hi hz0 hz1 hz2
    go_enter Tryz.func39, Tryz.ntmps39
    go_wp2
    go_ret
    exact ⟨none, 0, rfl, World.ownsRow_nil _ _ _ _, Below.refl _ _⟩
  | some ad =>
    have hnews : Hid (∀ W, Below w.heap.size w W → ∀ j u, (l.flatMap Rck.enc)[j]? = some u → W.cell? (ad.add j) = some u) := fun W hW => (hr.below hW).news (fun _ _ => rfl)
    clear hr
    go_enter Tryz.func39, Tryz.ntmps39
    go_wp2_with (at_builtin; refine wpList_append_own_at _ rfl (.tmp 4) (.tmp 5) 24 rfl w.heap.size 95 i0 (.agg #[.int .i64 0, .int .i64 0, .int .i64 0, .int .i64 0]) 4 32 Tryz.underlying24 hi hz0 hz1 hz2 rfl (by decide) (.slice none 0 0) 0 [] rfl (World.ownsRow_nil _ _ _ _) ad n c (l.flatMap Rck.enc) rfl ?_ (hnews.out _ (by (repeat' (first | (with_reducible exact Below.refl _ _) | (with_reducible assumption) | (with_reducible refine below_drewN ?_ _) | (with_reducible refine below_after (by assumption) ?_ ?_) | (with_reducible refine Below.drew ?_) | (with_reducible refine Below.alloc ?_ ?_ _) | (with_reducible refine Below.setCell ?_ ?_ _) | omega | (simp; omega) | (simp; done))))) ?_ ?_ ?_ ?_ ?_)
    case _ => rw [flatMap_size l (size := 4) (fun _ _ => rfl), hlen]
    case _ =>
      refine one_flat (fun x _ u hu => ?_)
      simp only [Rck.enc, List.mem_cons, List.mem_nil_iff, or_false] at hu
      rcases hu with rfl | rfl | rfl | rfl <;> rfl
    case _ => simp only [maxLen]; omega
    case _ => omega
    case _ => simp
    intro v' w1 hown hg _ hat
    have hB : Below w.heap.size w w1 := Below.grown (w := w) (by (repeat' (first | (with_reducible exact Below.refl _ _) | (with_reducible assumption) | (with_reducible refine below_drewN ?_ _) | (with_reducible refine below_after (by assumption) ?_ ?_) | (with_reducible refine Below.drew ?_) | (with_reducible refine Below.alloc ?_ ?_ _) | (with_reducible refine Below.setCell ?_ ?_ _) | omega | (simp; omega) | (simp; done)))) hg (by simp) (fun k e => by simp [Value.ownBlock] at e)
    have hown : World.ownsRow w1 w.heap.size 95 4 v' n (l.flatMap Rck.enc) := by simpa using hown
    obtain ⟨A', c', rfl⟩ := row_slice hown
    have HO := Lib.hid hown
    clear hown hat hg
    go_wp2
    go_ret
    exact ⟨A', c', rfl, HO.out, hB⟩

theorem tripInfo : (Tryz.prog.info? 125).map (fun i => (i.zero, i.size, i.bytes)) = some (some (.agg #[.int .i64 0, .int .i64 0]), 2, 16) := by kernel_rfl
set_option maxRecDepth 100000 in
set_option maxHeartbeats 1000000 in
theorem CopyTrips_any (A : Option Addr) (n c : Nat) (l : List Trp) (w : World) (hr : Rd w w.heap.size 2 Trp.enc A n l) (hn : n ≤ 1000000) :
    Calls Tryz.prog 109 #[.slice A n c] w fun e w' => ∃ (A' : Option Addr) (c' : Nat), e = .returned (.slice A' n c') ∧ w'.ownsRow w.heap.size 125 2 (.slice A' n c') n (l.flatMap Trp.enc) ∧ Below w.heap.size w w' := by
  have hlen := hr.1
  obtain ⟨i0, hi, hz0, hz1, hz2⟩ := info_parts tripInfo
  cases A with
  | none =>
    have hn0 : n = 0 := by
      rcases Nat.eq_zero_or_pos n with h | h
      · exact h
      · obtain ⟨_, _, e, _⟩ := hr.2 h
        cases e
    subst hn0
    have hl0 : l = [] := List.eq_nil_of_length_eq_zero hlen
    subst hl0
    clear hr hlen hn hi hz0 hz1 hz2
    go_enter Tryz.func109, Tryz.ntmps109
    go_wp2
    go_ret
    exact ⟨none, 0, rfl, World.ownsRow_nil _ _ _ _, Below.refl _ _⟩
  | some ad =>
    have hnews : Hid (∀ W, Below w.heap.size w W → ∀ j u, (l.flatMap Trp.enc)[j]? = some u → W.cell? (ad.add j) = some u) := fun W hW => (hr.below hW).news (fun _ _ => rfl)
    clear hr
    go_enter Tryz.func109, Tryz.ntmps109
    go_wp2_with (at_builtin; refine wpList_append_own_at _ rfl (.tmp 4) (.tmp 5) 71 rfl w.heap.size 125 i0 (.agg #[.int .i64 0, .int .i64 0]) 2 16 Tryz.underlying71 hi hz0 hz1 hz2 rfl (by decide) (.slice none 0 0) 0 [] rfl (World.ownsRow_nil _ _ _ _) ad n c (l.flatMap Trp.enc) rfl ?_ (hnews.out _ (by (repeat' (first | (with_reducible exact Below.refl _ _) | (with_reducible assumption) | (with_reducible refine below_drewN ?_ _) | (with_reducible refine below_after (by assumption) ?_ ?_) | (with_reducible refine Below.drew ?_) | (with_reducible refine Below.alloc ?_ ?_ _) | (with_reducible refine Below.setCell ?_ ?_ _) | omega | (simp; omega) | (simp; done))))) ?_ ?_ ?_ ?_ ?_)
    case _ => rw [flatMap_size l (size := 2) (fun _ _ => rfl), hlen]
    case _ =>
      refine one_flat (fun x _ u hu => ?_)
      simp only [Trp.enc, List.mem_cons, List.mem_nil_iff, or_false] at hu
      rcases hu with rfl | rfl <;> rfl
    case _ => simp only [maxLen]; omega
    case _ => omega
    case _ => simp
    intro v' w1 hown hg _ hat
    have hB : Below w.heap.size w w1 := Below.grown (w := w) (by (repeat' (first | (with_reducible exact Below.refl _ _) | (with_reducible assumption) | (with_reducible refine below_drewN ?_ _) | (with_reducible refine below_after (by assumption) ?_ ?_) | (with_reducible refine Below.drew ?_) | (with_reducible refine Below.alloc ?_ ?_ _) | (with_reducible refine Below.setCell ?_ ?_ _) | omega | (simp; omega) | (simp; done)))) hg (by simp) (fun k e => by simp [Value.ownBlock] at e)
    have hown : World.ownsRow w1 w.heap.size 125 2 v' n (l.flatMap Trp.enc) := by simpa using hown
    obtain ⟨A', c', rfl⟩ := row_slice hown
    have HO := Lib.hid hown
    clear hown hat hg
    go_wp2
    go_ret
    exact ⟨A', c', rfl, HO.out, hB⟩
end Go.Proofs.YtnngdcidopaabaaGreatDoor
