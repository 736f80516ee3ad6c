/- law08: a game made of numbers. -/
import Derived.Test.YtalngalikblgkaaKpQ

set_option linter.unusedSimpArgs false
set_option linter.unusedVariables false
namespace Go.Proofs.Ytalngalikblgkaa
open Go.RowKit

theorem keep_grown {d : Nat} {W W' : World} (h : Keep (fun b => b = d) W W') : W.grownBy W' (some d) := ⟨h.os, h.tape, h.output, h.size, fun k hk hne => h.block k hk (fun e => hne (by rw [e]))⟩
theorem next_int (dB n c B i : Nat) (m : Int) (A : Option Addr) (l : List Int) (w : World) (hd : Blk w dB 60 #[.slice A n c, .int .i64 (i : Int)]) (hl : Rd w B 1 encU A n l) (hB : B ≤ dB) (hu : U8s l) (hi : i ≤ 1000000) (hm : 1 ≤ m ∧ m ≤ 1000) :
    Calls Try.prog 28 #[.pointer (some ⟨dB, 0, none⟩), .int .i64 m] w fun e w' => ∃ r : Int, e = .returned (.int .i64 r) ∧ (0 ≤ r ∧ r < m) ∧ Keep (fun b => b = dB) w w' ∧ Blk w' dB 60 #[.slice A n c, .int .i64 ((i + 1 : Nat) : Int)] := by
  obtain ⟨k, rfl⟩ : ∃ k : Nat, m = k := ⟨m.toNat, by omega⟩
  refine (next_any dB n c B i k A l w hd hl hB hu hi (by omega)).mono ?_
  rintro e w' ⟨⟨r, rfl, h1, h2⟩, h3, h4⟩
  exact ⟨r, rfl, ⟨h1, h2⟩, h3, h4⟩
/-- While a game is made: its box, its lists, the numbers. -/
structure MdI (w : World) (dB pb rb : Nat) (dv : Value) (p q r : Nat) (nx gv : Value) (ls : List Int) (gs : List Bool) (i : Nat) (W : World) : Prop where
  low : Below w.heap.size w W
  dig : Blk W dB 60 #[dv, .int .i64 (i : Int)]
  res : Blk W rb 25 #[.int .i64 0, .int .i64 0, .int .i64 0, .slice none 0 0, .slice none 0 0]
  box : Blk W pb 25 #[.int .i64 (p : Int), .int .i64 (q : Int), .int .i64 (r : Int), nx, gv]
  row : W.ownsRow w.heap.size 3 1 nx ls.length (ls.flatMap encI)
  good : W.ownsRow w.heap.size 4 1 gv gs.length (gs.flatMap encB)
section
variable {w W W' : World} {dB pb rb p q r i i' : Nat} {dv nx gv : Value} {ls : List Int} {gs : List Bool}
theorem MdI.next (h : MdI w dB pb rb dv p q r nx gv ls gs i W) (hb : Below W.heap.size W W') : MdI w dB pb rb dv p q r nx gv ls gs i W' :=
  ⟨below3 h.low hb (Nat.le_refl _), h.dig.below hb h.dig.lt, h.res.below hb h.res.lt, h.box.below hb h.box.lt, row_next h.row hb, row_next h.good hb⟩
theorem MdI.turn (h : MdI w dB pb rb dv p q r nx gv ls gs i W) (hd : w.heap.size ≤ dB) (hk : Keep (fun b => b = dB) W W') (hb : Blk W' dB 60 #[dv, .int .i64 (i' : Int)]) : MdI w dB pb rb dv p q r nx gv ls gs i' W' :=
  ⟨h.low.trans (hk.below h.low.size (fun b e => by rw [e]; exact hd)), hb, hk.blk h.res (fun e => blk_ne h.res h.dig (by decide) e), hk.blk h.box (fun e => blk_ne h.box h.dig (by decide) e),
    h.row.kept (keep_grown hk) (Or.inr (own_ne h.row h.dig (by decide)).symm), h.good.kept (keep_grown hk) (Or.inr (own_ne h.good h.dig (by decide)).symm)⟩
theorem MdI.push {nv : Value} {y : Int} {k : Nat} (h : MdI w dB pb rb dv p q r nx gv ls gs i W) (hg : W.grownBy W' nx.ownBlock) (ho : W'.ownsRow w.heap.size 3 1 nv k (ls.flatMap encI ++ [.int .i64 y])) (hk : k = ls.length + 1) (hp : w.heap.size ≤ pb) (hrp : rb ≠ pb) : MdI w dB pb rb dv p q r nv gv (ls ++ [y]) gs i (W'.setCell ⟨pb, 3, none⟩ nv) := by
  have hbl : Below w.heap.size W W' := (Below.refl _ _).grown hg h.low.size (fun r e => (World.ownsRow.lt h.row r e).1)
  have b := h.box.kept hg (own_ne h.row h.box (by decide))
  have d := h.dig.kept hg (own_ne h.row h.dig (by decide))
  have e := h.res.kept hg (own_ne h.row h.res (by decide))
  have g := h.good.kept hg (own_far h.good h.row (by decide))
  subst hk
  refine ⟨(h.low.trans hbl).setCell hp _, d.far (fun e' => blk_ne b d (by decide) e'.symm) _, e.far hrp _, ?_, ?_, g.kept (grown_set W' pb 3 _) (Or.inr (own_ne g b (by decide)).symm)⟩
  · have h := b.set_ 3 nv
    simpa using h
  · have h := ho.kept (grown_set W' pb 3 nv) (Or.inr (own_ne ho b (by decide)).symm)
    rw [show (ls ++ [y]).length = ls.length + 1 by simp, List.flatMap_append]
    exact h
end
theorem all_snoc2 {α : Type} {P : α → Prop} {l : List α} {x : α} (h : ∀ z ∈ l, P z) (hx : P x) : ∀ z ∈ l ++ [x], P z := fun z hz => (List.mem_append.1 hz).elim (h z) (fun e => by rw [List.mem_singleton.1 e]; exact hx)
/-- While a flag is appended. -/
def m7R (w : World) (dB pb rb : Nat) (dv : Value) (p q r : Nat) (nx gv : Value) (ls : List Int) (gs : List Bool) (i : Nat) (W : World) (γ : Nat → Nat) : Prop :=
  (Below w.heap.size w W ∧ Blk W rb 25 #[.int .i64 0, .int .i64 0, .int .i64 0, .slice none 0 0, .slice none 0 0] ∧ Blk W dB 60 #[dv, .int .i64 ((i + γ 2 : Nat) : Int)]) ∧ (γ 0 = 0 → Blk W pb 25 #[.int .i64 (p : Int), .int .i64 (q : Int), .int .i64 (r : Int), nx, gv]) ∧ (γ 1 = 0 → W.ownsRow w.heap.size 4 1 gv gs.length (gs.flatMap encB)) ∧ W.ownsRow w.heap.size 3 1 nx ls.length (ls.flatMap encI)
def m7Phi (w : World) (dB pb p q r k : Nat) (ra : Int) (nx gv : Value) (gs : List Bool) : Nat → Value → World → (Nat → Nat) → Prop
  | 0, v, _, _ => v = .pointer (some ⟨pb, 4, none⟩)
  | 1, v, _, _ => v = gv
  | 2, v, _, _ => v = .pointer (some ⟨dB, 0, none⟩)
  | 3, v, _, _ => v = .int .i64 ra
  | 4, v, _, γ => ∃ a : Int, v = .int .i64 a ∧ γ 2 = 1
  | 5, v, _, _ => ∃ u : Bool, v = .bool u
  | 6, v, W, γ => ∃ b1 u, v = .slice (some ⟨b1, 0, none⟩) 1 1 ∧ (γ 1 = 0 → Blk W b1 4 #[.bool u])
  | 7, v, W, _ => ∃ A c u, v = .slice A k c ∧ W.ownsRow w.heap.size 4 1 (.slice A k c) k ((gs ++ [u]).flatMap encB)
  | 8, v, _, _ => v = .pointer (some ⟨pb, 4, none⟩)
  | 9, _, W, γ => ∃ A c u, Blk W pb 25 #[.int .i64 (p : Int), .int .i64 (q : Int), .int .i64 (r : Int), nx, .slice A k c] ∧ W.ownsRow w.heap.size 4 1 (.slice A k c) k ((gs ++ [u]).flatMap encB)
  | _, _, _, _ => True
def m7Psi (i : Nat) (_ : World) (γ : Nat → Nat) : Prop := γ 0 = 0 ∧ (i = 7 → γ 1 = 0) ∧ (i = 4 → γ 2 = 0)
section
variable {w W W' : World} {dB pb p q r k : Nat} {ra : Int} {nx gv : Value} {gs : List Bool} {j : Nat} {v : Value} {γ γ' : Nat → Nat}
theorem m7Phi_next (hb : Below W.heap.size W W') (h : m7Phi w dB pb p q r k ra nx gv gs j v W γ) : m7Phi w dB pb p q r k ra nx gv gs j v W' γ := by
  unfold m7Phi at h ⊢
  split at h
  all_goals first | exact h | trivial | skip
  · obtain ⟨b1, u, e, hr⟩ := h; exact ⟨b1, u, e, fun g => (hr g).below hb (hr g).lt⟩
  · obtain ⟨A, c, u, e, hr⟩ := h; exact ⟨A, c, u, e, row_next hr hb⟩
  · obtain ⟨A, c, u, hr, hg⟩ := h; exact ⟨A, c, u, hr.below hb hr.lt, row_next hg hb⟩
/-- Behind the call: it comes before all that reads it. -/
theorem m7Phi_turn (hd : ∀ b cs, Blk W b 4 cs → Blk W' b 4 cs) (h1 : γ' 1 = γ 1) (h4 : j ≠ 4) (h7 : j ≠ 7) (h9 : j ≠ 9) (h : m7Phi w dB pb p q r k ra nx gv gs j v W γ) : m7Phi w dB pb p q r k ra nx gv gs j v W' γ' := by
  unfold m7Phi at h ⊢
  split at h
  all_goals first | exact h | trivial | exact absurd rfl h4 | exact absurd rfl h7 | exact absurd rfl h9 | skip
  · obtain ⟨b1, u, e, hr⟩ := h; exact ⟨b1, u, e, fun g => hd _ _ (hr (by rw [← h1]; exact g))⟩
theorem m7Phi_grown (h7 : j ≠ 7) (h9 : j ≠ 9) (hγ : γ' 1 ≠ 0) (h2 : γ' 2 = γ 2) (h : m7Phi w dB pb p q r k ra nx gv gs j v W γ) : m7Phi w dB pb p q r k ra nx gv gs j v W' γ' := by
  unfold m7Phi at h ⊢
  split at h
  all_goals first | exact h | trivial | exact absurd rfl h7 | exact absurd rfl h9 | skip
  · obtain ⟨a, e, hr⟩ := h; exact ⟨a, e, by rw [h2]; exact hr⟩
  · obtain ⟨b1, u, e, hr⟩ := h; exact ⟨b1, u, e, fun g => absurd g hγ⟩
theorem m7Phi_store {u0 : Value} {cs : Array Value} (hbx : Blk W pb 25 cs) (hγ : γ' 1 ≠ 0) (h2 : γ' 2 = γ 2) (h9 : j ≠ 9) (h : m7Phi w dB pb p q r k ra nx gv gs j v W γ) : m7Phi w dB pb p q r k ra nx gv gs j v (W.setCell ⟨pb, 4, none⟩ u0) γ' := by
  unfold m7Phi at h ⊢
  split at h
  all_goals first | exact h | trivial | exact absurd rfl h9 | skip
  · obtain ⟨a, e, hr⟩ := h; exact ⟨a, e, by rw [h2]; exact hr⟩
  · obtain ⟨b1, u, e, hr⟩ := h; exact ⟨b1, u, e, fun g => absurd g hγ⟩
  · obtain ⟨A, c, u, e, hr⟩ := h; exact ⟨A, c, u, e, hr.kept (grown_set W pb 4 _) (Or.inr (own_ne hr hbx (by decide)).symm)⟩
end
set_option maxRecDepth 100000 in
set_option maxHeartbeats 4000000 in
theorem Made_any (A : Option Addr) (n c : Nat) (l : List Int) (w : World) (hl : Rd w w.heap.size 1 encU A n l) (hu : U8s l) :
    Calls Try.prog 22 #[.slice A n c] w fun e w' => ∃ (nA : Option Addr) (nn nc gb gc : Nat) (g : Gm), e = .returned (.agg #[.int .i64 (g.S : Int), .int .i64 (g.C : Int), .int .i64 (g.H : Int), .slice nA nn nc, .slice (some ⟨gb, 0, none⟩) g.S gc]) ∧ GmOk g ∧ (g.S ≤ 16 ∧ g.C ≤ 3 ∧ g.H ≤ 3) ∧ GmIn w' w'.heap.size ⟨nA, some ⟨gb, 0, none⟩, nn, nc, g.S, gc⟩ g ∧ Below w.heap.size w w' := by
  obtain ⟨i0, hi0, hi1, hi2, hi3⟩ := info_parts intInfo
  have hi := Lib.hid (And.intro hi0 (And.intro hi1 (And.intro hi2 hi3)))
  obtain ⟨j0, hj0, hj1, hj2, hj3⟩ := info_parts boolInfo
  have hj := Lib.hid (And.intro hj0 (And.intro hj1 (And.intro hj2 hj3)))
  clear hi0 hi1 hi2 hi3 hj0 hj1 hj2 hj3
  obtain ⟨rb, hrb⟩ : ∃ z, z = w.heap.size := ⟨_, rfl⟩
  obtain ⟨dB, hdB⟩ : ∃ z, z = w.heap.size + 1 := ⟨_, rfl⟩
  have HRB0 : Hid (rb = w.heap.size) := Lib.hid hrb
  have HDB2 : Hid (dB = w.heap.size + 1) := Lib.hid hdB
  have HDB : Hid (w.heap.size ≤ dB) := Lib.hid (by omega)
  have KN : Hid (∀ (m : Int), 1 ≤ m ∧ m ≤ 1000 → ∀ (W : World) (i : Nat), Blk W dB 60 #[.slice A n c, .int .i64 (i : Int)] → Below w.heap.size w W → i ≤ 1000000 → Calls Try.prog 28 #[.pointer (some ⟨dB, 0, none⟩), .int .i64 m] W fun e w' => ∃ r : Int, e = .returned (.int .i64 r) ∧ (0 ≤ r ∧ r < m) ∧ Keep (fun b => b = dB) W w' ∧ Blk w' dB 60 #[.slice A n c, .int .i64 ((i + 1 : Nat) : Int)]) := Lib.hid (fun m hm W i hd hW hi => next_int dB n c w.heap.size i m A l W hd (hl.below hW) (by omega) hu hi hm)
  have K16 := Lib.hid (KN.out 16 (by omega))
  have K3 := Lib.hid (KN.out 3 (by omega))
  have K12 := Lib.hid (KN.out 12 (by omega))
  have K256 := Lib.hid (KN.out 256 (by omega))
  clear hl hu
  go_enter Try.func22, Try.ntmps22
  go_wp2_with fail
  obtain ⟨w1, hw1⟩ : ∃ z, z = (w.alloc (.cells #[.int .i64 0, .int .i64 0, .int .i64 0, .slice none 0 0, .slice none 0 0] 25)).alloc (.cells #[.slice A n c, .int .i64 0] 60) := ⟨_, rfl⟩
  have hl1 : Below w.heap.size w w1 := by rw [hw1]; (repeat' (first | (with_reducible exact Below.refl _ _) | (with_reducible assumption) | (with_reducible refine below_drewN ?_ _) | (with_reducible refine below_after (by assumption) ?_ ?_) | (with_reducible refine Below.drew ?_) | (with_reducible refine Below.alloc ?_ ?_ _) | (with_reducible refine Below.setCell ?_ ?_ _) | omega | (simp; omega) | (simp; done)))
  have hr1 : Blk w1 rb 25 #[.int .i64 0, .int .i64 0, .int .i64 0, .slice none 0 0, .slice none 0 0] := by rw [hw1, hrb]; exact Blk.alloc (heap_alloc_new w _) _
  have hd1 : Blk w1 dB 60 #[.slice A n c, .int .i64 ((0 : Nat) : Int)] := by
    have e2 := heap_alloc_new (w.alloc (.cells #[.int .i64 0, .int .i64 0, .int .i64 0, .slice none 0 0, .slice none 0 0] 25)) (.cells #[.slice A n c, .int .i64 0] 60)
    simp only [World.size_alloc] at e2
    rw [hw1, hdB]
    exact e2
  rw [← hw1, ← hdB, ← hrb]
  clear hw1 hdB hrb
  refine (K16.out w1 0 hd1 hl1 (by omega)).mono ?_
  rintro e w2 ⟨a, rfl, ha, hk2, hd2⟩
  have hl2 : Below w.heap.size w w2 := hl1.trans (hk2.below hl1.size (fun b e => by rw [e]; exact HDB.out))
  have hr2 := hk2.blk hr1 (fun e => blk_ne hr1 hd1 (by decide) e)
  have HQ2 := Lib.hid (And.intro hl2 (And.intro hr2 hd2))
  have HA := Lib.hid ha
  obtain ⟨p, hp⟩ : ∃ p : Nat, (p : Int) = 1 + a := ⟨(1 + a).toNat, by have := HA.out; omega⟩
  have HP : Hid (1 ≤ p ∧ p ≤ 16) := Lib.hid (by have := HA.out; omega)
  have wa : IntKind.i64.wrap (1 + a) = (p : Int) := by rw [← hp]; exact IntWalk.i64_in _ (by have := HP.out; omega)
  clear hk2 hl1 hr1 hd1 hl2 hr2 hd2 ha hp
  go_wp2_with fail
  refine (K3.out w2 (0 + 1) HQ2.out.2.2 HQ2.out.1 (by omega)).mono ?_
  rintro e w3 ⟨b, rfl, hb, hk3, hd3⟩
  have HQ3 := Lib.hid (And.intro (HQ2.out.1.trans (hk3.below HQ2.out.1.size (fun b e => by rw [e]; exact HDB.out))) (And.intro (hk3.blk HQ2.out.2.1 (fun e => blk_ne HQ2.out.2.1 HQ2.out.2.2 (by decide) e)) hd3))
  obtain ⟨q, hq⟩ : ∃ q : Nat, (q : Int) = 1 + b := ⟨(1 + b).toNat, by omega⟩
  have HQ : Hid (1 ≤ q ∧ q ≤ 3) := Lib.hid (by omega)
  have wb : IntKind.i64.wrap (1 + b) = (q : Int) := by rw [← hq]; exact IntWalk.i64_in _ (by have := HQ.out; omega)
  clear hk3 hd3 hb HQ2 hq
  go_wp2_with fail
  refine (K3.out w3 (0 + 1 + 1) HQ3.out.2.2 HQ3.out.1 (by omega)).mono ?_
  rintro e w4 ⟨cc, rfl, hc, hk4, hd4⟩
  have HQ4 := Lib.hid (And.intro (HQ3.out.1.trans (hk4.below HQ3.out.1.size (fun b e => by rw [e]; exact HDB.out))) (And.intro (hk4.blk HQ3.out.2.1 (fun e => blk_ne HQ3.out.2.1 HQ3.out.2.2 (by decide) e)) hd4))
  obtain ⟨r, hr⟩ : ∃ r : Nat, (r : Int) = 1 + cc := ⟨(1 + cc).toNat, by omega⟩
  have HR3 : Hid (1 ≤ r ∧ r ≤ 3) := Lib.hid (by omega)
  have wc : IntKind.i64.wrap (1 + cc) = (r : Int) := by rw [← hr]; exact IntWalk.i64_in _ (by have := HR3.out; omega)
  clear hk4 hd4 hc HQ3 hr
  go_wp2_with fail
  obtain ⟨pb, hpb⟩ : ∃ z, z = w4.heap.size := ⟨_, rfl⟩
  obtain ⟨W5, hW5⟩ : ∃ z, z = w4.alloc (.cells #[.int .i64 (p : Int), .int .i64 (q : Int), .int .i64 (r : Int), .slice none 0 0, .slice none 0 0] 25) := ⟨_, rfl⟩
  have hb5 : Below w4.heap.size w4 W5 := by rw [hW5]; exact (Below.refl _ _).alloc (Nat.le_refl _) _
  have HM5 : Hid (MdI w dB pb rb (.slice A n c) p q r (.slice none 0 0) (.slice none 0 0) [] [] 3 W5) := Lib.hid ⟨below3 HQ4.out.1 hb5 (Nat.le_refl _), HQ4.out.2.2.below hb5 HQ4.out.2.2.lt, HQ4.out.2.1.below hb5 HQ4.out.2.1.lt, by rw [hW5, hpb]; exact heap_alloc_new w4 _, World.ownsRow_nil _ _ _ _, World.ownsRow_nil _ _ _ _⟩
  have HPBB : Hid (w.heap.size ≤ pb) := Lib.hid (by rw [hpb]; exact HQ4.out.1.size)
  have HRP : Hid (rb ≠ pb) := Lib.hid (by have := HQ4.out.2.1.lt; omega)
  rw [← hW5, ← hpb]
  clear hW5 hpb hb5 HQ4 wa wb wc HA
  refine (K12.out W5 3 HM5.out.dig HM5.out.low (by omega)).mono ?_
  rintro e w6 ⟨ra0, rfl, hra, hk6, hd6⟩
  have HM6 : Hid (MdI w dB pb rb (.slice A n c) p q r (.slice none 0 0) (.slice none 0 0) [] [] 4 w6) := Lib.hid (HM5.out.turn HDB.out hk6 hd6)
  obtain ⟨ra, hra2⟩ : ∃ z, z = 2 + ra0 := ⟨_, rfl⟩
  have HRA : Hid (1 ≤ ra ∧ ra ≤ 1000) := Lib.hid (by omega)
  have wra : IntKind.i64.wrap (2 + ra0) = ra := by rw [← hra2]; exact IntWalk.i64_in _ (by have := HRA.out; omega)
  have KR := Lib.hid (KN.out ra HRA.out)
  have z0 := HM6.out.box.cell 0
  have zb := HM6.out.box.lt
  simp only [List.getElem?_toArray, List.getElem?_cons_zero, List.getElem?_cons_succ] at z0
  clear hra hra2 hk6 hd6 HM5
  go_wp2
  clear wra z0 zb
  go_loopw [26] (fun i wr => ∃ s : Nat, s ≤ p ∧ i = .int .i64 s ∧ ∃ (nx gv : Value) (ls : List Int) (gs : List Bool) (j : Nat), Hid (MdI w dB pb rb (.slice A n c) p q r nx gv ls gs j wr ∧ gs.length = s ∧ ls.length = s * q * r ∧ j ≤ 4 + 10 * s ∧ ∀ x ∈ ls, -1 ≤ x ∧ x < (p : Int))) (fun i _ => p - (intOf i).toNat)
  case atStart => exact ⟨0, by omega, rfl, _, _, [], [], 4, Lib.hid ⟨HM6.out, rfl, by simp, by omega, fun x hx => by simp at hx⟩⟩
  case round =>
    obtain ⟨s, hs, rfl, nx, gv, ls, gs, i, HS⟩ := hrel
    have hp16 := HP.out
    by_cases hlt : s < p
    · have HMD := Lib.hid HS.out.1
      have HI : Hid (i ≤ 1000000) := Lib.hid (by have := HS.out.2.2.2.1; omega)
      have HLG : Hid (gs.length ≤ 400) := Lib.hid (by have := HS.out.2.1; omega)
      obtain ⟨kg, hkg⟩ : ∃ z, z = gs.length + 1 := ⟨_, rfl⟩
      have HKG : Hid (kg = gs.length + 1) := Lib.hid hkg
      have hk0 : (0 : Int) ≤ (s : Int) := by omega
      have hkn : (s : Int) < (p : Int) := by omega
      clear hkg
      go_wp2
      refine wp_region_free10 9 (by kernel_rfl) [some 29, some 30, some 31, some 32, some 33, some 34, some 35, some 36, some 37, none] [[], [0], [], [], [2, 3], [4], [5], [1, 6, 4], [0, 1, 2, 3, 4, 5, 6, 7], [8, 7, 7, 0, 1, 2, 3, 4, 5, 6, 7]] [(4, .pointer (some ⟨pb, 0, none⟩)), (3, .pointer (some ⟨dB, 0, none⟩)), (5, .int .i64 ra)] (m7R w dB pb rb (.slice A n c) p q r nx gv ls gs i) (m7Phi w dB pb p q r kg ra nx gv gs) (m7Psi) (by kernel_rfl) (by kernel_rfl) rfl (by kernel_rfl) ?_ ?_ ⟨fun _ => 0, ⟨⟨HMD.out.low.drew, HMD.out.res.below (Below.refl _ _).drew HMD.out.res.lt, by simpa using HMD.out.dig.below (Below.refl _ _).drew HMD.out.dig.lt⟩, fun _ => HMD.out.box.below (Below.refl _ _).drew HMD.out.box.lt, fun _ => row_next HMD.out.good (Below.refl _ _).drew, row_next HMD.out.row (Below.refl _ _).drew⟩, fun i _ => ⟨rfl, fun _ => rfl, fun _ => rfl⟩⟩ ?_ ?_
      · intro z hz
        simp only [List.mem_cons, List.mem_nil_iff, or_false] at hz
        rcases hz with rfl | rfl | rfl
        all_goals exact ⟨by kernel_rfl, rfl⟩
      · intro i v W γ hi h
        rcases i with _ | _ | _ | _ | _ | _ | _ | _ | _ | _ | i
        all_goals first | exact h | (simp at hi)
      · refine ⟨?_, ?_, ?_, ?_, ?_, ?_, ?_, ?_, ?_, ?_, trivial⟩
        all_goals
          intro a9 W γ ev hcc hff hfx hR hψ hpre
          simp only [List.mem_cons, List.mem_nil_iff, or_false, forall_eq, forall_eq_or_imp] at hfx
          obtain ⟨f0, f1, f2⟩ := hfx
          have HR := Lib.hid hR
          clear hR
          refine ⟨fun _ K hK => ?_, trivial⟩

        · clear hpre hψ
          go_simp
          exact hK _ _ γ HR.out (fun _ _ _ _ h => h) (fun _ _ _ h => h) rfl
        · have q0 : ev (.tmp 29) = _ := hpre 0 (by decide)
          have hbx := HR.out.2.1 hψ.1
          have hzx := hbx.lt
          have c4 := hbx.cell 4
          simp only [List.getElem?_toArray, List.getElem?_cons_zero, List.getElem?_cons_succ] at c4
          clear hbx
          clear hpre hψ
          go_simp
          exact hK _ _ γ HR.out (fun _ _ _ _ h => h) (fun _ _ _ h => h) rfl
        · clear hpre hψ
          go_simp
          exact hK _ _ γ HR.out (fun _ _ _ _ h => h) (fun _ _ _ h => h) rfl
        · clear hpre hψ
          go_simp
          exact hK _ _ γ HR.out (fun _ _ _ _ h => h) (fun _ _ _ h => h) rfl
        · have q0 : ev (.tmp 31) = _ := hpre 2 (by decide)
          have q1 : ev (.tmp 32) = _ := hpre 3 (by decide)
          have h20 : γ 2 = 0 := hψ.2.2 rfl
          obtain ⟨⟨r1, r2, r3⟩, r4, r5, r6⟩ := HR.out
          rw [h20] at r3
          have C := Lib.hid (KR.out W i r3 r1 HI.out)
          have HX := Lib.hid (And.intro (And.intro r1 (And.intro r2 r3)) (And.intro r4 (And.intro r5 r6)))
          clear r1 r2 r3 r4 r5 r6 hpre
          have HP := Lib.hid hψ
          clear hψ
          go_simp
          refine C.out.mono ?_
          rintro e w5 ⟨x, rfl, hr, hk5, hb5⟩
          obtain ⟨⟨r1, r2, r3⟩, r4, r5, r6⟩ := HX.out
          have hkg := keep_grown hk5
          refine hK _ w5 (fun i => if i = 2 then 1 else γ i) ⟨⟨r1.trans (hk5.below r1.size (fun b e => by rw [e]; exact HDB.out)), hk5.blk r2 (fun e => blk_ne r2 r3 (by decide) e), by simpa using hb5⟩, fun e => (hk5.blk (r4 e) (fun e' => blk_ne (r4 e) r3 (by decide) e')), fun e => (r5 e).kept hkg (Or.inr (own_ne (r5 e) r3 (by decide)).symm), r6.kept hkg (Or.inr (own_ne r6 r3 (by decide)).symm)⟩ (fun j u hj hne h => m7Phi_turn (fun b cs hc => hk5.blk hc (fun e => blk_ne hc r3 (by decide) e)) rfl hne (fun e => by subst e; exact absurd (by decide) hj) (fun e => by subst e; exact absurd (by decide) hj) h) (fun _ j h1 h2 => ⟨h2.1, h2.2.1, fun e => absurd e h1⟩) ⟨x, rfl, rfl⟩
        · obtain ⟨a, q0, _⟩ := hpre 4 (by decide)
          replace q0 : ev (.tmp 33) = _ := q0
          clear hpre hψ
          go_simp
          exact hK _ _ γ HR.out (fun _ _ _ _ h => h) (fun _ _ _ h => h) ⟨_, rfl⟩
        · obtain ⟨u, q0⟩ := hpre 5 (by decide)
          replace q0 : ev (.tmp 34) = _ := q0
          have HRW9 := HR
          clear hpre hψ
          go_simp
          obtain ⟨⟨r1, r2, r3⟩, r4, r5, r6⟩ := HRW9.out
          have hB5 : Below W.heap.size W (W.alloc (.cells #[.bool u] 4)) := (Below.refl _ _).alloc (Nat.le_refl _) _
          exact hK _ _ γ ⟨⟨below3 r1 hB5 (Nat.le_refl _), r2.below hB5 r2.lt, r3.below hB5 r3.lt⟩, fun e => (r4 e).below hB5 (r4 e).lt, fun e => row_next (r5 e) hB5, row_next r6 hB5⟩ (fun j u _ _ h => m7Phi_next hB5 h) (fun _ _ _ h => h) ⟨W.heap.size, u, rfl, fun _ => heap_alloc_new W _⟩
        · have q0 : ev (.tmp 30) = _ := hpre 1 (by decide)
          have hγ1 : γ 1 = 0 := hψ.2.1 rfl
          have hγ0 : γ 0 = 0 := hψ.1
          obtain ⟨b1, u, q6, hb1⟩ := hpre 6 (by decide)
          replace q6 : ev (.tmp 35) = _ := q6
          have hb1 := hb1 hγ1
          obtain ⟨⟨r1, r2, r3⟩, r4, r5, r6⟩ := HR.out
          have hrow := r5 hγ1
          have hbx := r4 hγ0
          obtain ⟨v', W', hr, h2, h3, _, _⟩ := run_append_own_at (P := Try.prog) W w.heap.size 23 23 4 j0 (.bool false) 1 1 Try.underlying23 hj.out.1 hj.out.2.1 hj.out.2.2.1 hj.out.2.2.2 rfl (by decide) gv gs.length (gs.flatMap encB) hrow ⟨b1, 0, none⟩ 1 1 [.bool u] rfl (fun j u hj => by
            rw [add0, Blk.cell hb1]
            simpa using hj) (by intro u hu; simp only [List.mem_cons, List.mem_nil_iff, or_false] at hu; subst hu; rfl) (by have := HLG.out; simp only [maxLen]; omega) (by have := HLG.out; omega) r1.size
          unfold execOp
          simp only [resolve, invoke, builtin, Sem.run_bind, Sem.run_pure, Result.andThen_ok, List.map_toArray, List.map_cons, List.map_nil, q0, q6, hr]
          rw [show gs.flatMap encB ++ [.bool u] = (gs ++ [u]).flatMap encB by rw [List.flatMap_append]; rfl] at h2
          obtain ⟨A', c', e'⟩ := row_slice h2
          subst e'
          have hbl : Below w.heap.size W W' := (Below.refl _ _).grown h3 r1.size (fun r e => (World.ownsRow.lt hrow r e).1)
          refine hK _ W' (fun i => if i = 1 then 1 else γ i) ⟨⟨r1.trans hbl, r2.kept h3 (own_ne hrow r2 (by decide)), r3.kept h3 (own_ne hrow r3 (by decide))⟩, fun e => hbx.kept h3 (own_ne hrow hbx (by decide)), fun e => by simp at e, r6.kept h3 (own_far r6 hrow (by decide))⟩ (fun j u hj hne h => m7Phi_grown hne (fun e => by subst e; exact absurd (by decide) hj) (by simp) rfl h) (fun _ j h1 h2 => ⟨h2.1, fun e => absurd e h1, h2.2.2⟩) ⟨A', c', u, by rw [HKG.out], by rw [HKG.out]; simpa using h2⟩
        · clear hpre hψ
          go_simp
          exact hK _ _ γ HR.out (fun _ _ _ _ h => h) (fun _ _ _ h => h) rfl
        · have q0 : ev (.tmp 37) = _ := hpre 8 (by decide)
          have hγ0 : γ 0 = 0 := hψ.1
          obtain ⟨A9, c8, u, q7, hrow⟩ := hpre 7 (by decide)
          replace q7 : ev (.tmp 36) = _ := q7
          obtain ⟨⟨r1, r2, r3⟩, r4, r5, r6⟩ := HR.out
          have hbx := r4 hγ0
          have hzx := hbx.lt
          have fz := hbx.frozen
          have c4 := hbx.cell 4
          simp only [List.getElem?_toArray, List.getElem?_cons_zero, List.getElem?_cons_succ] at c4
          have HX := Lib.hid (And.intro hbx (And.intro hrow (And.intro r1 (And.intro r2 (And.intro r3 r6)))))
          clear hpre hbx hrow r1 r2 r3 r4 r5 r6
          go_simp
          obtain ⟨hbx, hrow, r1, r2, r3, r6⟩ := HX.out
          refine hK undef _ (fun i => if i = 2 then γ 2 else 1) ⟨⟨r1.setCell HPBB.out _, r2.far HRP.out _, by simpa using r3.far (fun e => blk_ne hbx r3 (by decide) e.symm) _⟩, fun e => by simp at e, fun e => by simp at e, r6.kept (grown_set W pb 4 _) (Or.inr (own_ne r6 hbx (by decide)).symm)⟩ (fun j u h1 h2 h3 => m7Phi_store hbx (by simp) (by simp) h2 h3) (fun h => absurd rfl h) ⟨A9, c8, u, ?_, hrow.kept (grown_set W pb 4 _) (Or.inr (own_ne hrow hbx (by decide)).symm)⟩
          have h := hbx.set_ 4 (.slice A9 kg c8)
          simpa using h
      · intro vs w' γ hvl hR hφ
        have q4 := hφ 4 (by decide)
        have q9 := hφ 9 (by decide)
        have HR := Lib.hid hR
        clear hφ hR
        match vs, hvl with
        | [y0, y1, y2, y3, y4, y5, y6, y7, y8, y9], _ =>
        simp only [List.getD_cons_zero, List.getD_cons_succ] at q4 q9
        obtain ⟨_, -, hγ2⟩ := q4
        obtain ⟨A9, c9, u, hbx9, hro9⟩ := q9
        obtain ⟨⟨r1, r2, r3⟩, _, _, r6⟩ := HR.out
        rw [hγ2] at r3
        obtain ⟨gs1, hgs1⟩ : ∃ z, z = gs ++ [u] := ⟨_, rfl⟩
        have HGL : Hid (gs1.length = s + 1) := Lib.hid (by rw [hgs1, List.length_append, HS.out.2.1]; rfl)
        have HMB : Hid (MdI w dB pb rb (.slice A n c) p q r nx (.slice A9 kg c9) ls gs1 (i + 1) w') := Lib.hid ⟨r1, r3, r2, hbx9, r6, by rw [HGL.out, ← HS.out.2.1, ← HKG.out, hgs1]; exact hro9⟩
        have p1 := hbx9.cell 1
        have p2 := hbx9.cell 2
        have zp := hbx9.lt
        simp only [List.getElem?_toArray, List.getElem?_cons_zero, List.getElem?_cons_succ] at p1 p2
        obtain ⟨m, hm⟩ : ∃ z, z = q * r := ⟨_, rfl⟩
        have hm9 : m ≤ 9 := by
          have h1 := HQ.out
          have h2 := HR3.out
          have := Nat.mul_le_mul h1.2 h2.2
          omega
        have wqr : IntKind.i64.wrap ((q : Int) * (r : Int)) = (m : Int) := by
          rw [show (q : Int) * (r : Int) = (m : Int) by rw [hm]; push_cast; rfl]
          exact IntWalk.i64_in _ (by omega)
        have HM := Lib.hid hm
        clear hm hbx9 hro9 r1 r2 r3 r6 HR hγ2 hgs1
        simp [putAll]
        go_wp2
        clear wqr p1 p2 zp
        go_loopw [43] (fun i1 wr => ∃ t : Nat, t ≤ m ∧ i1 = .int .i64 t ∧ ∃ (nx2 : Value) (ls2 : List Int) (j : Nat), Hid (MdI w dB pb rb (.slice A n c) p q r nx2 (.slice A9 kg c9) ls2 gs1 j wr ∧ ls2.length = s * q * r + t ∧ j ≤ 5 + 10 * s + t ∧ ∀ x ∈ ls2, -1 ≤ x ∧ x < (p : Int))) (fun i _ => m - (intOf i).toNat)
        case atStart => exact ⟨0, by omega, rfl, _, ls, i + 1, Lib.hid ⟨HMB.out, HS.out.2.2.1, by have := HS.out.2.2.2.1; omega, HS.out.2.2.2.2⟩⟩
        case round =>
          obtain ⟨t, ht, rfl, nx2, ls2, j, HT⟩ := hrel
          by_cases hlt2 : t < m
          · have hk2 : (0 : Int) ≤ (t : Int) := by omega
            have hk3 : (t : Int) < (m : Int) := by omega
            have HJ : Hid (j ≤ 1000000) := Lib.hid (by have := HT.out.2.2.1; omega)
            go_wp2_with fail
            refine (K256.out _ j HT.out.1.dig HT.out.1.low HJ.out).mono ?_
            rintro e W7 ⟨x, rfl, hx, hk7, hd7⟩
            have HMX := Lib.hid (HT.out.1.turn HDB.out hk7 hd7)
            have HLS : Hid (ls2.length ≤ 900) := Lib.hid (by
              have h1 := HT.out.2.1
              have h2 : s * q * r ≤ 16 * 3 * 3 := Nat.mul_le_mul (Nat.mul_le_mul (by omega) HQ.out.2) HR3.out.2
              omega)
            have HB2 : Hid (ls2.length + 1 = s * q * r + (t + 1) ∧ j + 1 ≤ 5 + 10 * s + (t + 1) ∧ ∀ x ∈ ls2, -1 ≤ x ∧ x < (p : Int)) := Lib.hid ⟨by have := HT.out.2.1; omega, by have := HT.out.2.2.1; omega, HT.out.2.2.2⟩
            have HX := Lib.hid hx
            clear hk7 hd7 hx
            by_cases hx1 : x = 255
            · subst hx1
              have HY : Hid ((-1 : Int) ≤ -1 ∧ (-1 : Int) < (p : Int)) := Lib.hid (by omega)
              have b3 := HMX.out.box.cell 3
              have zb := HMX.out.box.lt
              simp only [List.getElem?_toArray, List.getElem?_cons_zero, List.getElem?_cons_succ] at b3
              obtain ⟨k2, hk2⟩ : ∃ z, z = ls2.length := ⟨_, rfl⟩
              have HRO : Hid (W7.ownsRow w.heap.size 3 1 nx2 k2 (ls2.flatMap encI)) := Lib.hid (by rw [hk2]; exact HMX.out.row)
              have HK2 := Lib.hid hk2
              have hk9 : k2 ≤ 1000 := by rw [hk2]; have := HLS.out; omega
              have hw7 := HMX.out.low.size
              clear hk2
              go_wp2_with (at_builtin; refine wpList_append_own_at _ rfl (.tmp 73) (.tmp 75) 22 rfl w.heap.size 3 i0 (.int .i64 0) 1 8 Try.underlying22 hi.out.1 hi.out.2.1 hi.out.2.2.1 hi.out.2.2.2 rfl (by decide) nx2 k2 (ls2.flatMap encI) rfl (HRO.out.alloc _) ⟨W7.heap.size, 0, none⟩ 1 1 [.int .i64 (-1)] rfl rfl (cell_one_new _ _ _) ?_ ?_ ?_ ?_ ?_)
              case _ => (intro u hu; simp only [List.mem_cons, List.mem_nil_iff, or_false] at hu; subst hu; rfl)
              case _ => simp only [maxLen]; omega
              case _ => omega
              case _ => simp; omega
              intro v' w8 hown hg8 _ _
              obtain ⟨A', c', rfl⟩ := row_slice hown
              have hM7 := HMX.out.next (W' := W7.alloc (.cells #[.int .i64 (-1)] 3)) ((Below.refl _ _).alloc (Nat.le_refl _) _)
              have hb8 := hM7.box.kept hg8 (own_ne hM7.row hM7.box (by decide))
              have c3 := hb8.cell 3
              have zb8 := hb8.lt
              have fb8 := hb8.frozen
              simp only [List.getElem?_toArray, List.getElem?_cons_zero, List.getElem?_cons_succ] at c3
              have HM8 := Lib.hid (hM7.push hg8 hown (by rw [HK2.out]) HPBB.out HRP.out)
              clear hown hg8 hM7 hb8 b3 zb hk9 hw7
              go_wp2
              go_roundw
              case rel => exact ⟨t + 1, by omega, by go_num, _, _, _, Lib.hid ⟨HM8.out, by have := HB2.out.1; simp; omega, by have := HB2.out.2.1; omega, all_snoc2 HB2.out.2.2 HY.out⟩⟩
              case measure => simp [intOf]; omega
            · have hx1' : (x == 255) = false := beq_eq_false_iff_ne.2 hx1
              have w3 : IntKind.i64.wrap (x.tmod 3) = x.tmod 3 := IntWalk.i64_in _ (by have h1 := tmod_bd (n := 3) HX.out.1 (by omega); omega)
              by_cases hx3 : 0 < x.tmod 3
              · have d3 : decide (0 < x.tmod 3) = true := decide_eq_true hx3
                have b0 := HMX.out.box.cell 0
                simp only [List.getElem?_toArray, List.getElem?_cons_zero, List.getElem?_cons_succ] at b0
                have h5 := tmod_bd (n := 5) HX.out.1 (by omega)
                obtain ⟨t1, ht1⟩ : ∃ z, z = (s : Int) + x.tmod 5 := ⟨_, rfl⟩
                obtain ⟨t2, ht2⟩ : ∃ z, z = t1 + (p : Int) := ⟨_, rfl⟩
                obtain ⟨t3, ht3⟩ : ∃ z, z = t2 - 2 * min 1 ((p : Int) - 1) := ⟨_, rfl⟩
                have hp1' := HP.out
                have ht3b : 0 ≤ t3 ∧ t3 ≤ 1000 := by omega
                have v1 : IntKind.i64.wrap ((s : Int) + x.tmod 5) = t1 := by rw [← ht1]; exact IntWalk.i64_in _ (by omega)
                have v2 : IntKind.i64.wrap (t1 + (p : Int)) = t2 := by rw [← ht2]; exact IntWalk.i64_in _ (by omega)
                have v3 : IntKind.i64.wrap (t2 - 2 * min 1 ((p : Int) - 1)) = t3 := by rw [← ht3]; exact IntWalk.i64_in _ (by omega)
                have hyb := tmod_bd (x := t3) (n := (p : Int)) ht3b.1 (by have := HP.out; omega)
                have HY : Hid ((-1 : Int) ≤ t3.tmod (p : Int) ∧ t3.tmod (p : Int) < (p : Int)) := Lib.hid (by omega)
                have hp0 : ¬ (p = 0) := by omega
                have hp1 : ¬ ((p : Int) = 0) := by omega
                clear hyb ht1 ht2 ht3 ht3b h5 hp1'
                have b3 := HMX.out.box.cell 3
                have zb := HMX.out.box.lt
                simp only [List.getElem?_toArray, List.getElem?_cons_zero, List.getElem?_cons_succ] at b3
                obtain ⟨k2, hk2⟩ : ∃ z, z = ls2.length := ⟨_, rfl⟩
                have HRO : Hid (W7.ownsRow w.heap.size 3 1 nx2 k2 (ls2.flatMap encI)) := Lib.hid (by rw [hk2]; exact HMX.out.row)
                have HK2 := Lib.hid hk2
                have hk9 : k2 ≤ 1000 := by rw [hk2]; have := HLS.out; omega
                have hw7 := HMX.out.low.size
                clear hk2
                go_wp2_with (at_builtin; refine wpList_append_own_at _ rfl (.tmp 73) (.tmp 75) 22 rfl w.heap.size 3 i0 (.int .i64 0) 1 8 Try.underlying22 hi.out.1 hi.out.2.1 hi.out.2.2.1 hi.out.2.2.2 rfl (by decide) nx2 k2 (ls2.flatMap encI) rfl (HRO.out.alloc _) ⟨W7.heap.size, 0, none⟩ 1 1 [.int .i64 (t3.tmod (p : Int))] rfl rfl (cell_one_new _ _ _) ?_ ?_ ?_ ?_ ?_)
                case _ => (intro u hu; simp only [List.mem_cons, List.mem_nil_iff, or_false] at hu; subst hu; rfl)
                case _ => simp only [maxLen]; omega
                case _ => omega
                case _ => simp; omega
                intro v' w8 hown hg8 _ _
                obtain ⟨A', c', rfl⟩ := row_slice hown
                have hM7 := HMX.out.next (W' := W7.alloc (.cells #[.int .i64 (t3.tmod (p : Int))] 3)) ((Below.refl _ _).alloc (Nat.le_refl _) _)
                have hb8 := hM7.box.kept hg8 (own_ne hM7.row hM7.box (by decide))
                have c3 := hb8.cell 3
                have zb8 := hb8.lt
                have fb8 := hb8.frozen
                simp only [List.getElem?_toArray, List.getElem?_cons_zero, List.getElem?_cons_succ] at c3
                have HM8 := Lib.hid (hM7.push hg8 hown (by rw [HK2.out]) HPBB.out HRP.out)
                clear hown hg8 hM7 hb8 b3 zb hk9 hw7
                go_wp2
                go_roundw
                case rel => exact ⟨t + 1, by omega, by go_num, _, _, _, Lib.hid ⟨HM8.out, by have := HB2.out.1; simp; omega, by have := HB2.out.2.1; omega, all_snoc2 HB2.out.2.2 HY.out⟩⟩
                case measure => simp [intOf]; omega
              · have d3 : decide (0 < x.tmod 3) = false := decide_eq_false hx3
                have hyb := tmod_bd (x := x) (n := (p : Int)) HX.out.1 (by have := HP.out; omega)
                have wy : IntKind.i64.wrap (x.tmod (p : Int)) = x.tmod (p : Int) := IntWalk.i64_in _ (by omega)
                have HY : Hid ((-1 : Int) ≤ x.tmod (p : Int) ∧ x.tmod (p : Int) < (p : Int)) := Lib.hid (by omega)
                have hp0 : ¬ (p = 0) := by omega
                have hp1 : ¬ ((p : Int) = 0) := by omega
                have b0 := HMX.out.box.cell 0
                simp only [List.getElem?_toArray, List.getElem?_cons_zero, List.getElem?_cons_succ] at b0
                clear hyb
                have b3 := HMX.out.box.cell 3
                have zb := HMX.out.box.lt
                simp only [List.getElem?_toArray, List.getElem?_cons_zero, List.getElem?_cons_succ] at b3
                obtain ⟨k2, hk2⟩ : ∃ z, z = ls2.length := ⟨_, rfl⟩
                have HRO : Hid (W7.ownsRow w.heap.size 3 1 nx2 k2 (ls2.flatMap encI)) := Lib.hid (by rw [hk2]; exact HMX.out.row)
                have HK2 := Lib.hid hk2
                have hk9 : k2 ≤ 1000 := by rw [hk2]; have := HLS.out; omega
                have hw7 := HMX.out.low.size
                clear hk2
                go_wp2_with (at_builtin; refine wpList_append_own_at _ rfl (.tmp 73) (.tmp 75) 22 rfl w.heap.size 3 i0 (.int .i64 0) 1 8 Try.underlying22 hi.out.1 hi.out.2.1 hi.out.2.2.1 hi.out.2.2.2 rfl (by decide) nx2 k2 (ls2.flatMap encI) rfl (HRO.out.alloc _) ⟨W7.heap.size, 0, none⟩ 1 1 [.int .i64 (x.tmod (p : Int))] rfl rfl (cell_one_new _ _ _) ?_ ?_ ?_ ?_ ?_)
                case _ => (intro u hu; simp only [List.mem_cons, List.mem_nil_iff, or_false] at hu; subst hu; rfl)
                case _ => simp only [maxLen]; omega
                case _ => omega
                case _ => simp; omega
                intro v' w8 hown hg8 _ _
                obtain ⟨A', c', rfl⟩ := row_slice hown
                have hM7 := HMX.out.next (W' := W7.alloc (.cells #[.int .i64 (x.tmod (p : Int))] 3)) ((Below.refl _ _).alloc (Nat.le_refl _) _)
                have hb8 := hM7.box.kept hg8 (own_ne hM7.row hM7.box (by decide))
                have c3 := hb8.cell 3
                have zb8 := hb8.lt
                have fb8 := hb8.frozen
                simp only [List.getElem?_toArray, List.getElem?_cons_zero, List.getElem?_cons_succ] at c3
                have HM8 := Lib.hid (hM7.push hg8 hown (by rw [HK2.out]) HPBB.out HRP.out)
                clear hown hg8 hM7 hb8 b3 zb hk9 hw7
                go_wp2
                go_roundw
                case rel => exact ⟨t + 1, by omega, by go_num, _, _, _, Lib.hid ⟨HM8.out, by have := HB2.out.1; simp; omega, by have := HB2.out.2.1; omega, all_snoc2 HB2.out.2.2 HY.out⟩⟩
                case measure => simp [intOf]; omega
          · obtain rfl : m = t := by omega
            have HN := Lib.hid (And.intro HT.out.1 (And.intro HGL.out (And.intro (show ls2.length = (s + 1) * q * r by have h1 := HT.out.2.1; have h2 := HM.out; rw [Nat.succ_mul, Nat.add_mul]; omega) (And.intro (show j ≤ 4 + 10 * (s + 1) by have h1 := HT.out.2.2.1; omega) HT.out.2.2.2))))
            go_wp2
            go_roundw
            case rel => exact ⟨s + 1, by omega, by go_num, _, _, _, _, _, HN⟩
            case measure => simp [intOf]; omega
    · obtain rfl : p = s := by omega
      obtain ⟨nA, nc, hnx⟩ := row_slice HS.out.1.row
      obtain ⟨gA, gc, hgv⟩ := row_slice HS.out.1.good
      obtain ⟨gn, hgn⟩ : ∃ z, z = gs.length := ⟨_, rfl⟩
      obtain ⟨nn, hnn⟩ : ∃ z, z = ls.length := ⟨_, rfl⟩
      rw [← hgn] at hgv
      rw [← hnn] at hnx
      obtain rfl : gn = p := by rw [hgn]; exact HS.out.2.1
      subst hnx
      subst hgv
      have hbk := HS.out.1.box
      have c0 := hbk.cell 0
      have c1 := hbk.cell 1
      have c2 := hbk.cell 2
      have c3 := hbk.cell 3
      have c4 := hbk.cell 4
      simp only [List.getElem?_toArray, List.getElem?_cons_zero, List.getElem?_cons_succ] at c0 c1 c2 c3 c4
      have zb := hbk.lt
      have hres := HS.out.1.res
      have d0 := hres.cell 0
      have d1 := hres.cell 1
      have d2 := hres.cell 2
      have d3 := hres.cell 3
      have d4 := hres.cell 4
      simp only [List.getElem?_toArray, List.getElem?_cons_zero, List.getElem?_cons_succ] at d0 d1 d2 d3 d4
      have zr := hres.lt
      have fr := hres.frozen
      obtain ⟨W', hW'⟩ : ∃ z, z = (((((wr.setCell ⟨rb, 0, none⟩ (.int .i64 (gn : Int))).setCell ⟨rb, 1, none⟩ (.int .i64 (q : Int))).setCell ⟨rb, 2, none⟩ (.int .i64 (r : Int))).setCell ⟨rb, 3, none⟩ (.slice nA nn nc)).setCell ⟨rb, 4, none⟩ (.slice gA gn gc)) := ⟨_, rfl⟩
      have hkk : Keep (fun b => b = rb) wr W' := by rw [hW']; exact ((((((Keep.refl (fun b => b = rb) wr).setCell rfl _).setCell rfl _).setCell rfl _).setCell rfl _).setCell rfl _)
      have hrow : Blk W' rb 25 #[.int .i64 (gn : Int), .int .i64 (q : Int), .int .i64 (r : Int), .slice nA nn nc, .slice gA gn gc] := by
        have h := (((((hres.set_ 0 (.int .i64 (gn : Int))).set_ 1 (.int .i64 (q : Int))).set_ 2 (.int .i64 (r : Int))).set_ 3 (.slice nA nn nc)).set_ 4 (.slice gA gn gc))
        rw [hW']
        simpa using h
      have HFIN : Hid (∃ gb, gA = some ⟨gb, 0, none⟩ ∧ GmOk ⟨gn, q, r, ls, gs⟩ ∧ GmIn W' W'.heap.size ⟨nA, some ⟨gb, 0, none⟩, nn, nc, gn, gc⟩ ⟨gn, q, r, ls, gs⟩ ∧ Below w.heap.size w W') := Lib.hid (by
        have hr0 := HRB0.out
        have hlow : Below w.heap.size w W' := HS.out.1.low.trans (hkk.below HS.out.1.low.size (fun b e => by rw [e]; omega))
        have hro := HS.out.1.row.kept (keep_grown hkk) (Or.inr (own_ne HS.out.1.row HS.out.1.res (by decide)).symm)
        have hrg := HS.out.1.good.kept (keep_grown hkk) (Or.inr (own_ne HS.out.1.good HS.out.1.res (by decide)).symm)
        rw [← hnn] at hro
        rw [← hgn] at hrg
        have h1 := row_rd (f := encI) (size := 1) (fun _ => rfl) hnn.symm hro
        have h2 := row_rd (f := encB) (size := 1) (fun _ => rfl) hgn.symm hrg
        have hp := HP.out
        have hq := HQ.out
        have hr3 := HR3.out
        rcases hrg.2 with ⟨e, h0⟩ | ⟨gb, cap, cur, e, _⟩
        · omega
        · cases e
          exact ⟨gb, rfl, ⟨hp.1, by show gn ≤ 400; omega, hq.1, by show q ≤ 16; omega, hr3.1, by show r ≤ 16; omega, HS.out.2.2.1, hgn.symm, HS.out.2.2.2.2⟩, ⟨h1, h2, own_cap hro⟩, hlow⟩)
      obtain ⟨gb, e9, _⟩ := HFIN.out
      subst e9
      have HROW := Lib.hid hrow
      clear hbk hres hkk hrow hgn hnn
      go_wp2
      rw [← hW']
      refine bodyPost_ret (results_cell_row rfl _ _ rb 25 _ _ _ rfl HROW.out Try.underlying25 rfl (by kernel_rfl)) rfl ?_
      obtain ⟨gb', e8, h1, h2, h3⟩ := HFIN.out
      obtain rfl : gb = gb' := by simpa using e8
      exact ⟨nA, nn, nc, gb, gc, ⟨gn, q, r, ls, gs⟩, rfl, h1, ⟨HP.out.2, HQ.out.2, HR3.out.2⟩, h2, h3⟩

end Go.Proofs.Ytalngalikblgkaa
