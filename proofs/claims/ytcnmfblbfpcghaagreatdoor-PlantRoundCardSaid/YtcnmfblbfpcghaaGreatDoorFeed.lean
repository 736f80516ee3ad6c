/- plant.feeding: the iterator's contract. -/
import Derived.Test.YtcnmfblbfpcghaaGreatDoorHomes

set_option linter.unusedSimpArgs false
set_option linter.unusedVariables false
namespace Go.Proofs.YtcnmfblbfpcghaaGreatDoor
open Go.RowKit Go.Shelf
attribute [local go_sem] Oper.semAt_some

/-- The cells of safe blocks hold what they held. -/
def KpS (Sf : Nat → Prop) (w w' : World) : Prop := w.heap.size ≤ w'.heap.size ∧ ∀ (p : Addr) (v : Value), Sf p.block → w.cell? p = some v → w'.cell? p = some v
theorem KpS.refl (Sf : Nat → Prop) (w : World) : KpS Sf w w := ⟨Nat.le_refl _, fun _ _ _ h => h⟩
theorem KpS.trans {Sf : Nat → Prop} {A B C : World} (h : KpS Sf A B) (k : KpS Sf B C) : KpS Sf A C := ⟨Nat.le_trans h.1 k.1, fun p v hp e => k.2 p v hp (h.2 p v hp e)⟩
theorem KpS.grown {Sf : Nat → Prop} {w w' : World} {row : Option Nat} (h : w.grownBy w' row) (hr : ∀ r, row = some r → ¬ Sf r) : KpS Sf w w' :=
  ⟨h.size, fun p v hp e => by
    have hb := h.block p.block (block_of_cell e) (fun e1 => hr _ e1.symm hp)
    simp only [World.cell?] at e ⊢
    rw [hb]
    exact e⟩
theorem KpS.putObj {Sf : Nat → Prop} (W : World) (l : Nat) (o o' : Obj) (hl : W.heap[l]? = some o) (ho : o.isCells = false) : KpS Sf W (W.putObj l o') := by
  refine ⟨(grownBy_putObj' W l o').size, fun p v hp e => ?_⟩
  have hne : p.block ≠ l := by
    intro e1
    rw [← e1] at hl
    simp only [World.cell?, hl] at e
    cases o <;> simp_all [Obj.isCells]
  have hb := (grownBy_putObj' W l o').block p.block (block_of_cell e) (by simpa using hne)
  simp only [World.cell?] at e ⊢
  rw [hb]
  exact e
theorem Rd.ks {α : Type} {w w' : World} {B size n : Nat} {Sf : Nat → Prop} {f : α → List Value} {A : Option Addr} {l : List α} (h : Rd w B size f A n l) (hk : KpS Sf w w') (hg : ∀ b, b < B → Sf b) : Rd w' B size f A n l :=
  ⟨h.1, fun hn => by
    obtain ⟨b, off, e, hb, hc⟩ := h.2 hn
    exact ⟨b, off, e, hb, fun i x hx j u hu => hk.2 _ _ (hg b hb) (hc i x hx j u hu)⟩⟩
theorem PltIn.ks {w w' : World} {B : Nat} {Sf : Nat → Prop} {p : Plt} (h : PltIn w B p) (hk : KpS Sf w w') (hg : ∀ b, b < B → Sf b) : PltIn w' B p :=
  ⟨h.src.ks hk hg, h.lnk.ks hk hg, h.rck.ks hk hg, fun x hx => (h.trip x hx).ks hk hg, h.hs, h.hl, h.hr, h.ht⟩
theorem BsIn.ks {w w' : World} {B : Nat} {Sf : Nat → Prop} {b : Bs} (h : BsIn w B b) (hk : KpS Sf w w') (hg : ∀ b, b < B → Sf b) : BsIn w' B b := ⟨h.1.ks hk hg, h.2⟩
theorem SttIn.ks {w w' : World} {B : Nat} {Sf : Nat → Prop} {s : Stt} (h : SttIn w B s) (hk : KpS Sf w w') (hg : ∀ b, b < B → Sf b) : SttIn w' B s :=
  ⟨h.1.ks hk hg, h.2.ks hk hg, h.3.ks hk hg, h.4.ks hk hg, h.5.ks hk hg, h.6.ks hk hg, h.7.ks hk hg⟩

/-- A bus's island, if it has one. -/
def isl (B : Nat) (h : Int) : Option (Fin B) := if h' : 0 ≤ h ∧ h.toNat < B then some ⟨h.toNat, h'.2⟩ else none
/-- A list of islands: each -1 or a bus. -/
def Isls (B : Nat) (H : List Int) : Prop := H.length = B ∧ ∀ (i : Nat) (h : Int), H[i]? = some h → h = -1 ∨ ∃ m : Fin B, h = (m.val : Int)
theorem isl_none (B : Nat) : isl B (-1) = none := by
  unfold isl
  rw [dif_neg (by omega)]
theorem isl_some {B : Nat} (m : Fin B) : isl B (m.val : Int) = some m := by
  unfold isl
  rw [dif_pos ⟨by omega, by simp⟩]
  simp
/-- The island of the bus of source number k, if it feeds. -/
def feedAt {B : Nat} (s : Stt) (S : List Src) (H : List Int) (k : Nat) : List (Nat × Fin B) :=
  match S[k]? with
  | some x => if bit s.on k && !bit s.badSource k then match isl B (H[x.bus.toNat]?.getD (-1)) with | some m => [(k, m)] | none => [] else []
  | none => []
def feedTo {B : Nat} (s : Stt) (S : List Src) (H : List Int) : Nat → List (Nat × Fin B)
  | 0 => []
  | k + 1 => feedTo s S H k ++ feedAt s S H k
theorem feedTo_length {B : Nat} (s : Stt) (S : List Src) (H : List Int) (k : Nat) : (feedTo (B := B) s S H k).length ≤ k := by
  induction k with
  | zero => exact Nat.le_refl _
  | succ k ih =>
    unfold feedTo feedAt
    rw [List.length_append]
    repeat' split
    all_goals simp <;> omega
set_option maxRecDepth 100000 in
set_option maxHeartbeats 4000000 in
theorem feed1_in (F : Fence) (n : Nat) (hf : F.fn 128) (hro : F.round = none) (hn : 1 ≤ n) (l Bp Bq Bh n₀ gh B : Nat) (Sf : Nat → Prop) (p : Plt) (s : Stt) (H : List Int) (hS : ∀ x ∈ p.srcs, 0 ≤ x.bus ∧ x.bus < B) (hlen : Lens p s B) (hH : Isls B H)
    (hBp : Sf Bp) (hBq : Sf Bq) (hBh : Sf Bh) (hgh : Sf gh) (hng : ∀ b, b < n₀ → Sf b) (J Jx : List (Nat × Fin B) → World → Prop) (W : World) (hJ : AbidesFrom W.heap.size J)
    (hY : ∀ (pre : List (Nat × Fin B)) (x : Nat × Fin B) W1, x.1 < p.sn → (∃ i : Nat, H[i]? = some (x.2.val : Int)) → J pre W1 → pre.length < p.sn → YieldAt F (n - 1) Tryz.prog l #[.int .i64 (x.1 : Int), .int .i64 (x.2.val : Int)] W1 fun e W' =>
      (e = .returned (.bool true) ∧ J (pre ++ [x]) W' ∧ KpS Sf W1 W') ∨ (e = .returned (.bool false) ∧ Jx (pre ++ [x]) W'))
    (hp : PltIn W n₀ p) (hs : SttIn W n₀ s) (cp : W.cell? ⟨Bp, 1, none⟩ = some (.slice p.sA p.sn p.sc))
    (c3 : W.cell? ⟨Bq, 3, none⟩ = some (.slice s.on.A s.on.n s.on.c)) (c4 : W.cell? ⟨Bq, 4, none⟩ = some (.slice s.badSource.A s.badSource.n s.badSource.c))
    (ch : W.cell? ⟨Bh, 0, none⟩ = some (.slice (some ⟨gh, 0, none⟩) B B)) (cH : ∀ (i : Nat) (h : Int), H[i]? = some h → W.cell? ⟨gh, i, none⟩ = some (.int .i64 h))
    (h0 : J [] W) :
    CallsIn F n Tryz.prog 128 #[.func (.yield l) #[] #[], .pointer (some ⟨Bp, 0, none⟩), .pointer (some ⟨Bq, 0, none⟩), .pointer (some ⟨Bh, 0, none⟩)] W fun e W' => (∃ v, e = .returned v) ∧ ((∃ ys, ys = feedTo s p.srcs H p.sn ∧ J ys W') ∨ (∃ pre, True ∧ Jx pre W')) := by
  refine callsIn_of_wp Tryz.func128 rfl hf ?_ hro
  simp only [Tryz.ntmps128, List.size_toArray, List.length_cons, List.length_nil, Nat.reduceAdd, Nat.reduceSub, Array.replicate_succ, Array.replicate_zero, List.push_toArray, List.append_toArray, List.nil_append, List.cons_append]
  have hz2 : Bq < W.heap.size := block_of_cell c3
  have hz1 : Bp < W.heap.size := block_of_cell cp
  have hz3 : Bh < W.heap.size := block_of_cell ch
  gi_wp2
  gi_loopw [11] (fun i wr => ∃ k : Nat, k ≤ p.sn ∧ i = .int .i64 k ∧ J (feedTo s p.srcs H k) wr ∧ KpS Sf W wr) (fun i _ => p.sn - (intOf i).toNat)
  case atStart => exact ⟨0, Nat.zero_le _, rfl, h0, KpS.refl _ _⟩
  case round =>
    obtain ⟨k, hk, rfl, hJs, hK⟩ := hrel
    by_cases hlt : k < p.sn
    · obtain ⟨b, off, x, e1, hb, hx, hcx⟩ := (hp.ks hK hng).src.at_ hlt
      obtain ⟨xb0, xb1⟩ := hS x (List.mem_of_getElem? hx)
      obtain ⟨d0, d1, d2, d3, d4⟩ := Src.cells hcx
      have hs' := hs.ks hK hng
      obtain ⟨g3, o3, a3, v3, r3⟩ := hs'.on.at_ (k := k) (by rw [hlen.on]; exact hlt)
      obtain ⟨g4, o4, a4, v4, r4⟩ := hs'.badSource.at_ (k := k) (by rw [hlen.badSource]; exact hlt)
      have hl2 : x.bus.toNat < H.length := by rw [hH.1]; omega
      obtain ⟨h, hh⟩ : ∃ h, H[x.bus.toNat]? = some h := ⟨_, List.getElem?_eq_getElem hl2⟩
      have rH := hK.2 _ _ hgh (cH _ _ hh)
      have hcase := hH.2 _ _ hh
      have c3' := hK.2 _ _ hBq c3
      have c4' := hK.2 _ _ hBq c4
      have ch' := hK.2 _ _ hBh ch
      rw [a3] at c3'
      rw [a4] at c4'
      rw [e1]
      have HY := Lib.hid hY
      have HJ := Lib.hid hJ
      have HK := Lib.hid hK
      have HS := Lib.hid hJs
      have n3 := hlen.on
      have n4 := hlen.badSource
      have hk0 : (0 : Int) ≤ (k : Int) := by omega
      have hkn : (k : Int) < (p.sn : Int) := by omega
      have hkc : (k : Int) < (s.on.n : Int) := by omega
      have hkd : (k : Int) < (s.badSource.n : Int) := by omega
      have hkz := hK.1
      have hln := hp.hs
      have zq : Bq < wr.heap.size := by omega
      have zh : Bh < wr.heap.size := by omega
      have z3 := block_of_cell r3
      have z4 := block_of_cell r4
      have z6 := block_of_cell rH
      have zb := block_of_cell d0
      dsimp only at z3 z4 z6 zb
      have G := Lib.hid (World.grownBy_alloc wr (.cells #[.int .i64 x.bus, .int .i64 x.kind, .int .i64 x.power, .int .i64 x.sync, .int .i64 x.ohm] 110) none)
      have NO : Hid (feedAt (B := B) s p.srcs H k = [] → J (feedTo s p.srcs H (k + 1)) (wr.alloc (.cells #[.int .i64 x.bus, .int .i64 x.kind, .int .i64 x.power, .int .i64 x.sync, .int .i64 x.ohm] 110)) ∧ KpS Sf W (wr.alloc (.cells #[.int .i64 x.bus, .int .i64 x.kind, .int .i64 x.power, .int .i64 x.sync, .int .i64 x.ohm] 110))) := by
        intro hc
        rw [feedTo, hc, List.append_nil]
        exact ⟨hJ _ _ _ none hJs G.out (by simp), hK.trans (KpS.grown G.out (by simp))⟩
      have HX := Lib.hid hx
      have HH := Lib.hid hh
      have HC := Lib.hid hcase
      clear hY hJ hp hs hs' hK hcx hJs a3 a4 e1 hx hh hcase cH ch c3 c4 cp
      by_cases q3 : bit s.on k = false
      · rw [q3] at r3
        gi_wp2
        refine ⟨fun _ h => (by cases h), ?_⟩
        gi_wp2
        go_roundw
        case rel =>
          have h := NO.out (by simp [feedAt, HX.out, q3])
          exact ⟨k + 1, by omega, by go_num, h.1, h.2⟩
        case measure => simp [intOf]; omega
      · rw [Bool.not_eq_false] at q3
        rw [q3] at r3
        by_cases q4 : bit s.badSource k = true
        · rw [q4] at r4
          gi_wp2
          refine ⟨fun _ h => (by cases h), ?_⟩
          gi_wp2
          go_roundw
          case rel =>
            have h := NO.out (by simp [feedAt, HX.out, q3, q4])
            exact ⟨k + 1, by omega, by go_num, h.1, h.2⟩
          case measure => simp [intOf]; omega
        · rw [Bool.not_eq_true] at q4
          rw [q4] at r4
          rcases HC.out with rfl | ⟨m, rfl⟩
          · gi_wp2
            refine ⟨fun _ h => (by cases h), ?_⟩
            gi_wp2
            go_roundw
            case rel =>
              have h := NO.out (by simp [feedAt, HX.out, HH.out, q3, q4, isl_none])
              exact ⟨k + 1, by omega, by go_num, h.1, h.2⟩
            case measure => simp [intOf]; omega
          · have hyes : feedAt (B := B) s p.srcs H k = [(k, m)] := by simp [feedAt, HX.out, HH.out, q3, q4, isl_some]
            have hm0 : ((m.val : Int) = -1) = False := by simp
            have hJ2 := HJ.out _ _ _ none HS.out G.out (by simp)
            have hK2 := Lib.hid (HK.out.trans (KpS.grown (Sf := Sf) G.out (by simp)))
            obtain ⟨fn, tmps, assign, body, hy', hR⟩ := HY.out _ (k, m) _ hlt ⟨_, HH.out⟩ hJ2 (Nat.lt_of_le_of_lt (feedTo_length s p.srcs H k) hlt)
            dsimp only at hy'
            clear hJ2
            gi_wp2
            refine hR.mono ?_
            rintro e W3 (⟨rfl, hJ3, hk3⟩ | ⟨rfl, hJx3⟩)
            · have HJ3 := Lib.hid hJ3
              have HK3 := Lib.hid (hK2.out.trans hk3)
              clear hJ3 hk3
              gi_wp2
              go_roundw
              case rel =>
                refine ⟨k + 1, by omega, by go_num, ?_, HK3.out⟩
                rw [feedTo, hyes]
                exact HJ3.out
              case measure => simp [intOf]; omega
            · have HX3 := Lib.hid hJx3
              clear hJx3
              gi_wp2
              refine bodyPost_ret (results_none rfl _ _ _) rfl ?_
              exact ⟨⟨_, rfl⟩, .inr ⟨_, trivial, HX3.out⟩⟩
    · obtain rfl : k = p.sn := by omega
      gi_wp2
      go_end0
      exact ⟨⟨_, rfl⟩, .inl ⟨_, rfl, hJs⟩⟩
end Go.Proofs.YtcnmfblbfpcghaaGreatDoor
