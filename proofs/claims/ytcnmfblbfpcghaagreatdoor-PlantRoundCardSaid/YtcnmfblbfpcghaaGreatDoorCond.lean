/- plant.conducting: the iterator's contract. -/
import Derived.RangeFuncNested
import Derived.RangeFuncBound
import Derived.RangeFuncCalls
import Derived.RangeFuncLeaves
import Derived.Shelf.Abstract
import Derived.Shelf.RegionOpen
import Derived.OwnWalkIn
import Derived.TacticsInMore
import Derived.LoopNIn
import Derived.LoopIn
import Derived.Test.YtcnmfblbfpcghaaGreatDoorRoot

set_option linter.unusedSimpArgs false
set_option linter.unusedVariables false
namespace Go.Proofs.YtcnmfblbfpcghaaGreatDoor
open Go.RowKit Go.Shelf
attribute [local go_sem] Oper.semAt_some

/-- Whatever cells there were hold what they held, but for those of block g; and no block goes. -/
def KpG (g : Nat) (w w' : World) : Prop := w.heap.size ≤ w'.heap.size ∧ ∀ (p : Addr) (v : Value), p.block ≠ g → w.cell? p = some v → w'.cell? p = some v
theorem KpG.refl (g : Nat) (w : World) : KpG g w w := ⟨Nat.le_refl _, fun _ _ _ h => h⟩
theorem KpG.trans {g : Nat} {A B C : World} (h : KpG g A B) (k : KpG g B C) : KpG g A C := ⟨Nat.le_trans h.1 k.1, fun p v hp e => k.2 p v hp (h.2 p v hp e)⟩
theorem block_of_cell {w : World} {p : Addr} {v : Value} (h : w.cell? p = some v) : p.block < w.heap.size := by
  rcases Nat.lt_or_ge p.block w.heap.size with h1 | h1
  · exact h1
  · simp [World.cell?, Array.getElem?_eq_none h1] at h
theorem KpG.grown {g : Nat} {w w' : World} {row : Option Nat} (h : w.grownBy w' row) (hr : ∀ r, row = some r → r = g) : KpG g w w' :=
  ⟨h.size, fun p v hp e => by
    have hb := h.block p.block (block_of_cell e) (fun e1 => hp (hr _ e1.symm))
    simp only [World.cell?] at e ⊢
    rw [hb]
    exact e⟩
theorem KpG.below {g : Nat} {w w' : World} (h : Below w.heap.size w w') : KpG g w w' := ⟨h.size, fun _ _ _ e => (h.cell (block_of_cell e)).trans e⟩
theorem KpG.putObj {g : Nat} (W : World) (l : Nat) (o o' : Obj) (hl : W.heap[l]? = some o) (ho : o.isCells = false) : KpG g W (W.putObj l o') := by
  refine ⟨(grownBy_putObj' W l o').size, fun p v hp e => ?_⟩
  have hne : p.block ≠ l := by
    intro e1
    rw [← e1] at hl
    simp only [World.cell?, hl] at e
    cases o <;> simp_all [Obj.isCells]
  have hb := (grownBy_putObj' W l o').block p.block (block_of_cell e) (by simpa using hne)
  simp only [World.cell?] at e ⊢
  rw [hb]
  exact e
theorem Rd.kp {α : Type} {w w' : World} {B size n g : Nat} {f : α → List Value} {A : Option Addr} {l : List α} (h : Rd w B size f A n l) (hk : KpG g w w') (hg : B ≤ g) : Rd w' B size f A n l :=
  ⟨h.1, fun hn => by
    obtain ⟨b, off, e, hb, hc⟩ := h.2 hn
    exact ⟨b, off, e, hb, fun i x hx j u hu => hk.2 _ _ (show b ≠ g by omega) (hc i x hx j u hu)⟩⟩
theorem PltIn.kp {w w' : World} {B g : Nat} {p : Plt} (h : PltIn w B p) (hk : KpG g w w') (hg : B ≤ g) : PltIn w' B p :=
  ⟨h.src.kp hk hg, h.lnk.kp hk hg, h.rck.kp hk hg, fun x hx => (h.trip x hx).kp hk hg, h.hs, h.hl, h.hr, h.ht⟩
theorem BsIn.kp {w w' : World} {B g : Nat} {b : Bs} (h : BsIn w B b) (hk : KpG g w w') (hg : B ≤ g) : BsIn w' B b := ⟨h.1.kp hk hg, h.2⟩
theorem SttIn.kp {w w' : World} {B g : Nat} {s : Stt} (h : SttIn w B s) (hk : KpG g w w') (hg : B ≤ g) : SttIn w' B s :=
  ⟨h.1.kp hk hg, h.2.kp hk hg, h.3.kp hk hg, h.4.kp hk hg, h.5.kp hk hg, h.6.kp hk hg, h.7.kp hk hg⟩

/-- A link between buses that there are. -/
def LnkOf (B : Nat) : Type := { x : Lnk // (0 ≤ x.a ∧ x.a < B) ∧ 0 ≤ x.b ∧ x.b < B }
def bit (b : Bs) (i : Nat) : Bool := b.l[i]?.getD false
/-- Does a link conduct? -/
def conds (s : Stt) (i : Nat) (x : Lnk) : Bool := bit s.closed i && !bit s.badLink i && !bit s.badBus x.a.toNat && !bit s.badBus x.b.toNat
/-- The links that conduct, of the first k. -/
def condTo {B : Nat} (s : Stt) (L : List (LnkOf B)) : Nat → List (LnkOf B)
  | 0 => []
  | k + 1 => condTo s L k ++ match L[k]? with | some x => if conds s k x.1 then [x] else [] | none => []
theorem condTo_length {B : Nat} (s : Stt) (L : List (LnkOf B)) (k : Nat) : (condTo s L k).length ≤ k := by
  induction k with
  | zero => exact Nat.le_refl _
  | succ k ih =>
    unfold condTo
    rw [List.length_append]
    cases L[k]? with
    | none => simp; omega
    | some x => cases h : conds s k x.1 <;> simp [h] <;> omega
theorem condTo_yes {B : Nat} {s : Stt} {L : List (LnkOf B)} {k : Nat} {x : LnkOf B} (hx : L[k]? = some x) (h : conds s k x.1 = true) : condTo s L (k + 1) = condTo s L k ++ [x] := by
  simp [condTo, hx, h]
theorem condTo_no {B : Nat} {s : Stt} {L : List (LnkOf B)} {k : Nat} {x : LnkOf B} (hx : L[k]? = some x) (h : conds s k x.1 = false) : condTo s L (k + 1) = condTo s L k := by
  simp [condTo, hx, h]
/-- The lists of a state are as long as the plant says. -/
structure Lens (p : Plt) (s : Stt) (B : Nat) : Prop where
  closed : s.closed.n = p.ln
  badLink : s.badLink.n = p.ln
  badBus : s.badBus.n = B
  on : s.on.n = p.sn
  badSource : s.badSource.n = p.sn
/-- A bool of a list. -/
theorem BsIn.at_ {w : World} {B : Nat} {b : Bs} (h : BsIn w B b) {k : Nat} (hk : k < b.n) : ∃ g off, b.A = some ⟨g, off, none⟩ ∧ g < B ∧ w.cell? ⟨g, off + k, none⟩ = some (.bool (bit b k)) := by
  obtain ⟨g, off, x, e, hb, hx, hc⟩ := h.1.at_ hk
  refine ⟨g, off, e, hb, ?_⟩
  have := cellB hc
  rw [this]
  simp [bit, hx]
set_option maxRecDepth 100000 in
set_option maxHeartbeats 4000000 in
theorem cond1_in (F : Fence) (n : Nat) (hf : F.fn 147) (hro : F.round = none) (hn : 1 ≤ n) (l Bp Bq n₀ g B : Nat) (p : Plt) (s : Stt) (L : List (LnkOf B)) (hL : p.lnks = L.map (·.1)) (hlen : Lens p s B)
    (hBp : Bp ≠ g) (hBq : Bq ≠ g) (hng : n₀ ≤ g) (J Jx : List (LnkOf B) → World → Prop) (W : World) (hJ : AbidesFrom W.heap.size J)
    (hY : ∀ (pre : List (LnkOf B)) (x : LnkOf B) W1, J pre W1 → pre.length < p.ln → YieldAt F (n - 1) Tryz.prog l #[x.1.val] W1 fun e W' =>
      (e = .returned (.bool true) ∧ J (pre ++ [x]) W' ∧ KpG g W1 W') ∨ (e = .returned (.bool false) ∧ Jx (pre ++ [x]) W'))
    (hp : PltIn W n₀ p) (hs : SttIn W n₀ s) (cp : W.cell? ⟨Bp, 2, none⟩ = some (.slice p.lA p.ln p.lc))
    (c0 : W.cell? ⟨Bq, 0, none⟩ = some (.slice s.closed.A s.closed.n s.closed.c)) (c2 : W.cell? ⟨Bq, 2, none⟩ = some (.slice s.badLink.A s.badLink.n s.badLink.c)) (c6 : W.cell? ⟨Bq, 6, none⟩ = some (.slice s.badBus.A s.badBus.n s.badBus.c))
    (h0 : J [] W) :
    CallsIn F n Tryz.prog 147 #[.func (.yield l) #[] #[], .pointer (some ⟨Bp, 0, none⟩), .pointer (some ⟨Bq, 0, none⟩)] W fun e W' => (∃ v, e = .returned v) ∧ ((∃ ys, ys = condTo s L p.ln ∧ J ys W') ∨ (∃ pre, True ∧ Jx pre W')) := by
  refine callsIn_of_wp Tryz.func147 rfl hf ?_ hro
  simp only [Tryz.ntmps147, List.size_toArray, List.length_cons, List.length_nil, Nat.reduceAdd, Nat.reduceSub, Array.replicate_succ, Array.replicate_zero, List.push_toArray, List.append_toArray, List.nil_append, List.cons_append]
  have hz2 : Bq < W.heap.size := block_of_cell c0
  have hz1 : Bp < W.heap.size := block_of_cell cp
  gi_wp2
  gi_loopw [10] (fun i wr => ∃ k : Nat, k ≤ p.ln ∧ i = .int .i64 k ∧ J (condTo s L k) wr ∧ KpG g W wr) (fun i _ => p.ln - (intOf i).toNat)
  case atStart => exact ⟨0, Nat.zero_le _, rfl, h0, KpG.refl _ _⟩
  case round =>
    obtain ⟨k, hk, rfl, hJs, hK⟩ := hrel
    by_cases hlt : k < p.ln
    · obtain ⟨b, off, x', e1, hb, hx, hcx⟩ := (hp.kp hK hng).lnk.at_ hlt
      rw [hL, List.getElem?_map, Option.map_eq_some_iff] at hx
      obtain ⟨y, hy, rfl⟩ := hx
      obtain ⟨⟨x, hxa, hxb⟩, rfl⟩ : ∃ z, z = y := ⟨_, rfl⟩
      dsimp only at hcx
      obtain ⟨d0, d1, d2, d3, d4, d5⟩ := Lnk.cells hcx
      have hs' := hs.kp hK hng
      obtain ⟨g0, o0, a0, v0, r0⟩ := hs'.closed.at_ (k := k) (by rw [hlen.closed]; exact hlt)
      obtain ⟨g2, o2, a2, v2, r2⟩ := hs'.badLink.at_ (k := k) (by rw [hlen.badLink]; exact hlt)
      obtain ⟨g6, o6, a6, v6, r6⟩ := hs'.badBus.at_ (k := x.a.toNat) (by rw [hlen.badBus]; omega)
      obtain ⟨g7, o7, a7, v7, r7⟩ := hs'.badBus.at_ (k := x.b.toNat) (by rw [hlen.badBus]; omega)
      obtain ⟨rfl, rfl⟩ : g6 = g7 ∧ o6 = o7 := by rw [a6] at a7; simp at a7; exact a7
      have c0' := hK.2 _ _ hBq c0
      have c2' := hK.2 _ _ hBq c2
      have c6' := hK.2 _ _ hBq c6
      rw [a0] at c0'
      rw [a2] at c2'
      rw [a6] at c6'
      rw [e1]
      have HY := Lib.hid hY
      have HJ := Lib.hid hJ
      have HK := Lib.hid hK
      have HS := Lib.hid hJs
      have n0 := hlen.closed
      have n2 := hlen.badLink
      have n6 := hlen.badBus
      have hk0 : (0 : Int) ≤ (k : Int) := by omega
      have hkn : (k : Int) < (p.ln : Int) := by omega
      have hkc : (k : Int) < (s.closed.n : Int) := by omega
      have hkd : (k : Int) < (s.badLink.n : Int) := by omega
      have hka : x.a < (s.badBus.n : Int) := by omega
      have hkb : x.b < (s.badBus.n : Int) := by omega
      obtain ⟨xa0, xa1⟩ := hxa
      obtain ⟨xb0, xb1⟩ := hxb
      have hkz := hK.1
      have hln := hp.hl
      have zq : Bq < wr.heap.size := by omega
      have z0 := block_of_cell r0
      have z2 := block_of_cell r2
      have z6 := block_of_cell r6
      have zb := block_of_cell d0
      dsimp only at z0 z2 z6 zb
      have no : conds s k x = false → J (condTo s L (k + 1)) (wr.alloc (.cells #[.int .i64 x.a, .int .i64 x.b, .int .i64 x.kind, .int .i64 x.most, .int .i64 x.ohm, .slice x.tA x.tn x.tc] 79)) ∧ KpG g W (wr.alloc (.cells #[.int .i64 x.a, .int .i64 x.b, .int .i64 x.kind, .int .i64 x.most, .int .i64 x.ohm, .slice x.tA x.tn x.tc] 79)) := by
        intro hc
        rw [condTo_no hy hc]
        exact ⟨hJ _ _ _ none hJs (World.grownBy_alloc wr _ none) (by simp), hK.trans (KpG.grown (World.grownBy_alloc wr _ none) (by simp))⟩
      have NO := Lib.hid no
      clear hY hJ hp hs hs' hK hcx no hJs
      by_cases q0 : bit s.closed k = false
      · rw [q0] at r0
        gi_wp2
        refine ⟨fun _ h => (by cases h), ?_⟩
        gi_wp2
        go_roundw
        case rel =>
          have h := NO.out (by simp [conds, q0])
          exact ⟨k + 1, by omega, by go_num, h.1, h.2⟩
        case measure => simp [intOf]; omega
      · rw [Bool.not_eq_false] at q0
        rw [q0] at r0
        by_cases q2 : bit s.badLink k = true
        · rw [q2] at r2
          gi_wp2
          refine ⟨fun _ h => (by cases h), ?_⟩
          gi_wp2
          go_roundw
          case rel =>
            have h := NO.out (by simp [conds, q0, q2])
            exact ⟨k + 1, by omega, by go_num, h.1, h.2⟩
          case measure => simp [intOf]; omega
        · rw [Bool.not_eq_true] at q2
          rw [q2] at r2
          by_cases q6 : bit s.badBus x.a.toNat = true
          · rw [q6] at r6
            gi_wp2
            refine ⟨fun _ h => (by cases h), ?_⟩
            gi_wp2
            go_roundw
            case rel =>
              have h := NO.out (by simp [conds, q0, q2, q6])
              exact ⟨k + 1, by omega, by go_num, h.1, h.2⟩
            case measure => simp [intOf]; omega
          · rw [Bool.not_eq_true] at q6
            rw [q6] at r6
            by_cases q7 : bit s.badBus x.b.toNat = true
            · rw [q7] at r7
              gi_wp2
              refine ⟨fun _ h => (by cases h), ?_⟩
              gi_wp2
              go_roundw
              case rel =>
                have h := NO.out (by simp [conds, q0, q2, q6, q7])
                exact ⟨k + 1, by omega, by go_num, h.1, h.2⟩
              case measure => simp [intOf]; omega
            · rw [Bool.not_eq_true] at q7
              rw [q7] at r7
              have hyes : conds s k x = true := by simp [conds, q0, q2, q6, q7]
              have hJ2 := HJ.out _ _ (wr.alloc (.cells #[.int .i64 x.a, .int .i64 x.b, .int .i64 x.kind, .int .i64 x.most, .int .i64 x.ohm, .slice x.tA x.tn x.tc] 79)) none HS.out (World.grownBy_alloc wr _ none) (by simp)
              have hK2 := Lib.hid (HK.out.trans (KpG.grown (g := g) (World.grownBy_alloc wr (.cells #[.int .i64 x.a, .int .i64 x.b, .int .i64 x.kind, .int .i64 x.most, .int .i64 x.ohm, .slice x.tA x.tn x.tc] 79) none) (by simp)))
              obtain ⟨fn, tmps, assign, body, hy', hR⟩ := HY.out _ ⟨x, ⟨xa0, xa1⟩, xb0, xb1⟩ _ hJ2 (Nat.lt_of_le_of_lt (condTo_length s L k) hlt)
              unfold Lnk.val at hy'
              dsimp only at hy'
              clear hJ2
              gi_wp2
              refine hR.mono ?_
              rintro e W3 (⟨rfl, hJ3, hk3⟩ | ⟨rfl, hJx3⟩)
              · have HJ3 := Lib.hid hJ3
                have HK3 := Lib.hid (hK2.out.trans hk3)
                clear hJ3 hk3
                gi_wp2
                go_roundw
                case rel =>
                  refine ⟨k + 1, by omega, by go_num, ?_, HK3.out⟩
                  rw [condTo_yes hy hyes]
                  exact HJ3.out
                case measure => simp [intOf]; omega
              · have HX3 := Lib.hid hJx3
                clear hJx3
                gi_wp2
                refine bodyPost_ret (results_none rfl _ _ _) rfl ?_
                exact ⟨⟨_, rfl⟩, .inr ⟨_, trivial, HX3.out⟩⟩
    · obtain rfl : k = p.ln := by omega
      gi_wp2
      go_end0
      exact ⟨⟨_, rfl⟩, .inl ⟨_, rfl, hJs⟩⟩
end Go.Proofs.YtcnmfblbfpcghaaGreatDoor
