/- keep: the iterator over the states that are in. -/
import Derived.Test.YtalngalikblgkaaKpC
import Derived.Test.YtalngalikblgkaaRound
import Derived.Shelf.Abstract

set_option linter.unusedSimpArgs false
set_option linter.unusedVariables false
namespace Go.Proofs.Ytalngalikblgkaa
open Go.RowKit Go.Shelf
attribute [local go_sem] Oper.semAt_some

theorem block_of_cell {w : World} {p : Addr} {v : Value} (h : w.cell? p = some v) : p.block < w.heap.size := by
  rcases Nat.lt_or_ge p.block w.heap.size with h1 | h1
  · exact h1
  · simp [World.cell?, Array.getElem?_eq_none h1] at h
/-- The cells of safe blocks hold what they held. -/
def KpS (Sf : Nat → Prop) (w w' : World) : Prop := w.heap.size ≤ w'.heap.size ∧ ∀ (p : Addr) (v : Value), Sf p.block → w.cell? p = some v → w'.cell? p = some v
theorem KpS.refl (Sf : Nat → Prop) (w : World) : KpS Sf w w := ⟨Nat.le_refl _, fun _ _ _ h => h⟩
theorem KpS.trans {Sf : Nat → Prop} {A B C : World} (h : KpS Sf A B) (k : KpS Sf B C) : KpS Sf A C := ⟨Nat.le_trans h.1 k.1, fun p v hp e => k.2 p v hp (h.2 p v hp e)⟩
theorem KpS.grown {Sf : Nat → Prop} {w w' : World} {row : Option Nat} (h : w.grownBy w' row) (hr : ∀ r, row = some r → ¬ Sf r) : KpS Sf w w' :=
  ⟨h.size, fun p v hp e => by
    have hb := h.block p.block (block_of_cell e) (fun e1 => hr _ e1.symm hp)
    simp only [World.cell?] at e ⊢
    rw [hb]
    exact e⟩
theorem KpS.putObj {Sf : Nat → Prop} (W : World) (l : Nat) (o o' : Obj) (hl : W.heap[l]? = some o) (ho : o.isCells = false) : KpS Sf W (W.putObj l o') := by
  refine ⟨(grownBy_putObj' W l o').size, fun p v hp e => ?_⟩
  have hne : p.block ≠ l := by
    intro e1
    rw [← e1] at hl
    simp only [World.cell?, hl] at e
    cases o <;> simp_all [Obj.isCells]
  have hb := (grownBy_putObj' W l o').block p.block (block_of_cell e) (by simpa using hne)
  simp only [World.cell?] at e ⊢
  rw [hb]
  exact e
theorem Rd.ks {α : Type} {w w' : World} {B size n : Nat} {Sf : Nat → Prop} {f : α → List Value} {A : Option Addr} {l : List α} (h : Rd w B size f A n l) (hk : KpS Sf w w') (hg : ∀ b, b < B → Sf b) : Rd w' B size f A n l :=
  ⟨h.1, fun hn => by
    obtain ⟨b, off, e, hb, hc⟩ := h.2 hn
    exact ⟨b, off, e, hb, fun i x hx j u hu => hk.2 _ _ (hg b hb) (hc i x hx j u hu)⟩⟩
theorem KpS.own {β : Type} (Sf : Nat → Prop) (W : World) (n : Nat) : OwnFrom n (fun (_ : β) X => KpS Sf W X) := fun _ _ _ _ hs hg hr =>
  ⟨Nat.le_trans hs.1 hg.size, fun p v hp e => cell_kept (hs.2 p v hp e) hg (fun r e => (hr r e).2)⟩

/-- The states below k that are in, in order. -/
def stAt (S : Nat) (inn : List Bool) (k : Nat) : List (Fin S) := if h : k < S ∧ inn.getD k false = true then [⟨k, h.1⟩] else []
def stTo (S : Nat) (inn : List Bool) : Nat → List (Fin S)
  | 0 => []
  | k + 1 => stTo S inn k ++ stAt S inn k
theorem stAt_no {S : Nat} {inn : List Bool} {k : Nat} (h : inn[k]? = some false) : stAt S inn k = [] := by
  unfold stAt
  rw [dif_neg (by rw [List.getD_eq_getElem?_getD, h]; simp)]
theorem stAt_yes {S : Nat} {inn : List Bool} {k : Nat} (hk : k < S) (h : inn[k]? = some true) : stAt S inn k = [⟨k, hk⟩] := by
  unfold stAt
  rw [dif_pos ⟨hk, by rw [List.getD_eq_getElem?_getD, h]; rfl⟩]
theorem stTo_length (S : Nat) (inn : List Bool) (k : Nat) : (stTo S inn k).length ≤ k := by
  induction k with
  | zero => exact Nat.le_refl _
  | succ k ih =>
    unfold stTo stAt
    rw [List.length_append]
    split
    all_goals simp <;> omega
set_option maxRecDepth 100000 in
set_option maxHeartbeats 4000000 in
theorem states1_in (F : Fence) (n : Nat) (hf : F.fn 79) (hro : F.round = none) (hn : 1 ≤ n) (l Bp ib io ic S : Nat) (Sf : Nat → Prop) (inn : List Bool) (hlen : inn.length = S) (hS : S ≤ 100000)
    (hBp : Sf Bp) (hib : Sf ib) (J Jx : List (Fin S) → World → Prop) (W : World) (hJ : AbidesFrom W.heap.size J)
    (hY : ∀ (pre : List (Fin S)) (x : Fin S) W1, inn[x.val]? = some true → J pre W1 → pre.length < S → YieldAt F (n - 1) Try.prog l #[.int .i64 (x.val : Int)] W1 fun e W' =>
      (e = .returned (.bool true) ∧ J (pre ++ [x]) W' ∧ KpS Sf W1 W') ∨ (e = .returned (.bool false) ∧ Jx (pre ++ [x]) W'))
    (cp : W.cell? ⟨Bp, 0, none⟩ = some (.slice (some ⟨ib, io, none⟩) S ic)) (cI : ∀ (i : Nat) (b : Bool), inn[i]? = some b → W.cell? ⟨ib, io + i, none⟩ = some (.bool b))
    (h0 : J [] W) :
    CallsIn F n Try.prog 79 #[.func (.yield l) #[] #[], .pointer (some ⟨Bp, 0, none⟩)] W fun e W' => (∃ v, e = .returned v) ∧ ((∃ ys, ys = stTo S inn S ∧ J ys W') ∨ (∃ pre, True ∧ Jx pre W')) := by
  refine callsIn_of_wp Try.func79 rfl hf ?_ hro
  simp only [Try.ntmps79, List.size_toArray, List.length_cons, List.length_nil, Nat.reduceAdd, Nat.reduceSub, Array.replicate_succ, Array.replicate_zero, List.push_toArray, List.append_toArray, List.nil_append, List.cons_append]
  have hz1 : Bp < W.heap.size := block_of_cell cp
  gi_wp2
  gi_loopw [8] (fun i wr => ∃ k : Nat, k ≤ S ∧ i = .int .i64 k ∧ J (stTo S inn k) wr ∧ KpS Sf W wr) (fun i _ => S - (intOf i).toNat)
  case atStart => exact ⟨0, Nat.zero_le _, rfl, h0, KpS.refl _ _⟩
  case round =>
    obtain ⟨k, hk, rfl, hJs, hK⟩ := hrel
    by_cases hlt : k < S
    · obtain ⟨y, hy⟩ : ∃ y, inn[k]? = some y := ⟨_, List.getElem?_eq_getElem (by rw [hlen]; exact hlt)⟩
      have rI := hK.2 _ _ hib (cI _ _ hy)
      have HY := Lib.hid hY
      have HK := Lib.hid hK
      have HS := Lib.hid hJs
      have HX := Lib.hid hy
      have hk0 : (0 : Int) ≤ (k : Int) := by omega
      have hkn : (k : Int) < (S : Int) := by omega
      have z6 := block_of_cell rI
      dsimp only at z6
      clear hY hJ hK hJs cp cI
      cases y
      · have hno := stAt_no (S := S) hy
        have NO : Hid (stTo S inn (k + 1) = stTo S inn k) := Lib.hid (by rw [stTo, hno, List.append_nil])
        clear hy hno
        gi_wp2
        refine ⟨fun _ h => (by cases h), ?_⟩
        gi_wp2
        go_roundw
        case rel => exact ⟨k + 1, by omega, by go_num, by rw [NO.out]; exact HS.out, HK.out⟩
        case measure => simp [intOf]; omega
      · have hyes := stAt_yes hlt hy
        have YES : Hid (stTo S inn (k + 1) = stTo S inn k ++ [⟨k, hlt⟩]) := Lib.hid (by rw [stTo, hyes])
        obtain ⟨fn, tmps, assign, body, hy', hR⟩ := HY.out _ ⟨k, hlt⟩ _ hy HS.out (Nat.lt_of_le_of_lt (stTo_length S inn k) hlt)
        dsimp only at hy'
        clear hy hyes
        gi_wp2
        refine hR.mono ?_
        rintro e W3 (⟨rfl, hJ3, hk3⟩ | ⟨rfl, hJx3⟩)
        · have HJ3 := Lib.hid hJ3
          have HK3 := Lib.hid (HK.out.trans hk3)
          clear hJ3 hk3
          gi_wp2
          go_roundw
          case rel => exact ⟨k + 1, by omega, by go_num, by rw [YES.out]; exact HJ3.out, HK3.out⟩
          case measure => simp [intOf]; omega
        · have HX3 := Lib.hid hJx3
          clear hJx3
          gi_wp2
          refine bodyPost_ret (results_none rfl _ _ _) rfl ?_
          exact ⟨⟨_, rfl⟩, .inr ⟨_, trivial, HX3.out⟩⟩
    · obtain rfl : S = k := by omega
      gi_wp2
      go_end0
      exact ⟨⟨_, rfl⟩, .inl ⟨_, rfl, hJs⟩⟩
/-- A state that is in. -/
def StOf (S : Nat) (inn : List Bool) : Type := { x : Fin S // inn[x.val]? = some true }
theorem states_in (F : Fence) (n : Nat) (hf : F.fn 70) (hro : F.round = none) (v1 v2 v3 : Value) (w : World) :
    CallsIn F n Try.prog 70 #[.agg #[v1, v2, v3]] w fun e w' => e = .returned (.func (.func 79) #[] #[.pointer (some ⟨w.heap.size, 0, none⟩)]) ∧ w' = w.alloc (.cells #[v1, v2, v3] 27) := by
  refine callsIn_of_wp Try.func70 rfl hf ?_ hro
  simp only [Try.ntmps70, List.size_toArray, List.length_cons, List.length_nil, Nat.reduceAdd, Nat.reduceSub, Array.replicate_succ, Array.replicate_zero, List.push_toArray, List.append_toArray, List.nil_append, List.cons_append]
  gi_wp2
  go_ret
  exact ⟨rfl, rfl⟩
end Go.Proofs.Ytalngalikblgkaa
