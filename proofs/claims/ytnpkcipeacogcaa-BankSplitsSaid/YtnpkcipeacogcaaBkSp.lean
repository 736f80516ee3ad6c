/- law06: BankSplits. -/
import Derived.Test.YtnpkcipeacogcaaBkWf
import Derived.Test.YtnpkcipeacogcaaBkNb
import Derived.Test.YtnpkcipeacogcaaBkSa
import Derived.Test.YtnpkcipeacogcaaBkIn

set_option linter.unusedSimpArgs false
set_option linter.unusedVariables false
namespace Go.Proofs.Ytnpkcipeacogcaa
open Go.RowKit

theorem insert_any (A : Option Addr) (n c i vb base : Nat) (L : List Spn) (p : Spn) (w : World) (hrow : w.ownsRow base 37 2 (.slice A n c) n (L.flatMap Spn.enc)) (hL : L.length = n) (hi : i < n) (hn : n ≤ 1000)
    (hv : Blk w vb 37 #[.int .i64 p.secs, .int .i64 p.power]) (hne : (Value.slice A n c).ownBlock ≠ some vb) :
    Calls Try.prog 25 #[.slice A n c, .int .i64 i, .slice (some ⟨vb, 0, none⟩) 1 1] w (InsEnd base (n + 1) (L.take i ++ p :: L.drop i) w) := by
  rcases hrow.2 with ⟨_, h⟩ | ⟨g, cap, cur, hv1, hb, hg, hnc, hcm, hcs, ht⟩
  · omega
  · cases hv1
    have hne2 : vb ≠ g := fun e => hne (by rw [e]; rfl)
    by_cases h : n + 1 ≤ c
    · exact insert_room g n c i vb base cur L p w hg hb hcs hcm h hL ht hi hn hv hne2
    · exact insert_grow g n c i vb base cur L p w hg hb hcs hnc (by omega) hL ht hi hn hv hne2
theorem own_nil {W : World} {base n c k size : Nat} {T : TypeId} {xs : List Value} (h : W.ownsRow base T size (.slice none n c) k xs) : c = 0 := by
  rcases h.2 with ⟨e, _⟩ | ⟨g, cap, cur, hv, _⟩
  · cases e; rfl
  · cases hv
def spPhi (base : Nat) (lA : Option Addr) (ln lc : Nat) (lb lo i : Nat) (n pw : Int) (L : List Spn) : Nat → Value → World → (Nat → Nat) → Prop
  | 0, v, _, _ => v = .slice lA ln lc
  | 1, v, W, γ => ∃ A c, v = .slice A ln c ∧ (γ 0 = 0 → W.ownsRow base 37 2 (.slice A ln c) ln (L.flatMap Spn.enc) ∧ (Value.slice A ln c).ownBlock ≠ some (γ 1))
  | 2, v, _, _ => v = .int .i64 (i : Int)
  | 3, v, _, _ => v = .int .i64 n
  | 4, v, _, _ => v = .slice lA ln lc
  | 5, v, _, _ => v = .int .i64 (i : Int)
  | 6, v, _, _ => v = .pointer (some ⟨lb, lo + i * 2, none⟩)
  | 7, v, _, _ => v = .pointer (some ⟨lb, lo + i * 2 + 1, none⟩)
  | 8, v, _, _ => v = .int .i64 pw
  | 9, v, _, _ => v = .agg #[.int .i64 n, .int .i64 pw]
  | 10, v, W, γ => v = .slice (some ⟨γ 1, 0, none⟩) 1 1 ∧ (γ 0 = 0 → Blk W (γ 1) 37 #[.int .i64 n, .int .i64 pw])
  | 11, v, W, γ => ∃ g c, v = .slice (some ⟨g, 0, none⟩) (ln + 1) c ∧ γ 0 ≠ 0 ∧ W.ownsRow base 37 2 (.slice (some ⟨g, 0, none⟩) (ln + 1) c) (ln + 1) ((L.take i ++ ⟨n, pw⟩ :: L.drop i).flatMap Spn.enc)
  | 12, v, W, γ => ∃ g c, v = .slice (some ⟨g, 0, none⟩) (ln + 1) c ∧ γ 0 ≠ 0 ∧ W.ownsRow base 37 2 (.slice (some ⟨g, 0, none⟩) (ln + 1) c) (ln + 1) ((L.take i ++ ⟨n, pw⟩ :: L.drop i).flatMap Spn.enc)
  | _, _, _, _ => True
section
variable {base : Nat} {lA : Option Addr} {ln lc lb lo i : Nat} {n pw : Int} {L : List Spn} {j : Nat} {u : Value} {W W' : World} {γ γ' : Nat → Nat}
theorem spPhi_next (hb : Below W.heap.size W W') (h : spPhi base lA ln lc lb lo i n pw L j u W γ) : spPhi base lA ln lc lb lo i n pw L j u W' γ := by
  unfold spPhi at h ⊢
  split at h
  all_goals first | exact h | trivial | skip
  · obtain ⟨A, c, k1, k2⟩ := h
    exact ⟨A, c, k1, fun h0 => ⟨row_next (k2 h0).1 hb, (k2 h0).2⟩⟩
  · exact ⟨h.1, fun h0 => (h.2 h0).below hb (h.2 h0).lt⟩
  · obtain ⟨g, c, k1, k2, k3⟩ := h
    exact ⟨g, c, k1, k2, row_next k3 hb⟩
  · obtain ⟨g, c, k1, k2, k3⟩ := h
    exact ⟨g, c, k1, k2, row_next k3 hb⟩
theorem spPhi_new (hb : Below W.heap.size W W') (hj : j ≠ 10) (h : spPhi base lA ln lc lb lo i n pw L j u W γ) : spPhi base lA ln lc lb lo i n pw L j u W' (fun k => if k = 1 then W.heap.size else γ k) := by
  unfold spPhi at h ⊢
  split at h
  all_goals first | exact h | trivial | exact absurd rfl hj | skip
  · obtain ⟨A, c, k1, k2⟩ := h
    exact ⟨A, c, k1, fun h0 => ⟨row_next (k2 h0).1 hb, fun e => by have := (World.ownsRow.lt (k2 h0).1 _ e).2; simp at this⟩⟩
  · obtain ⟨g, c, k1, k2, k3⟩ := h
    exact ⟨g, c, k1, k2, row_next k3 hb⟩
  · obtain ⟨g, c, k1, k2, k3⟩ := h
    exact ⟨g, c, k1, k2, row_next k3 hb⟩
theorem spPhi_ins (h0 : γ 0 = 0) (hj : j ≠ 11) (h : spPhi base lA ln lc lb lo i n pw L j u W γ) : spPhi base lA ln lc lb lo i n pw L j u W' (fun k => if k = 0 then 1 else γ k) := by
  unfold spPhi at h ⊢
  split at h
  all_goals first | exact h | trivial | exact absurd rfl hj | skip
  · obtain ⟨A, c, k1, k2⟩ := h
    exact ⟨A, c, k1, fun h0 => by simp at h0⟩
  · exact ⟨h.1, fun h0 => by simp at h0⟩
  · obtain ⟨g, c, k1, k2, k3⟩ := h
    exact absurd h0 k2
end
def stPhi (base : Nat) (bv : Value) (lA : Option Addr) (ln lc : Nat) (L : List Spn) (tv fv : Value) (D sv : Int) (bn gn : Nat) (en : List Int) : Nat → Value → World → (Nat → Nat) → Prop
  | 0, v, _, _ => v = bv
  | 1, v, _, _ => v = .slice lA ln lc
  | 2, v, W, γ => ∃ A c, v = .slice A ln c ∧ (γ 0 = 0 → W.ownsRow base 37 2 (.slice A ln c) ln (L.flatMap Spn.enc))
  | 3, v, _, _ => v = tv
  | 4, v, W, γ => ∃ A c M, v = .slice A (List.length M) c ∧ (A = none → c = 0) ∧ M.length ≤ 8 ∧ (∀ s ∈ M, LdOk s) ∧ (γ 0 = 0 → Rd W W.heap.size 2 Spn.enc A M.length M)
  | 5, v, W, γ => ∃ A c M, v = .slice A (ln + List.length M) c ∧ γ 0 ≠ 0 ∧ M.length ≤ 8 ∧ (∀ s ∈ M, LdOk s) ∧ W.ownsRow base 37 2 (.slice A (ln + M.length) c) (ln + M.length) ((L ++ M).flatMap Spn.enc)
  | 6, v, _, _ => v = fv
  | 7, v, W, γ => ∃ g1 g2, v = .tuple #[.agg #[.int .i64 D, .slice (some ⟨g1, 0, none⟩) bn bn, .slice (some ⟨g2, 0, none⟩) gn gn, .int .i64 sv], .int .i64 0] ∧ γ 0 ≠ 0 ∧ Blk W g1 3 (intsA en)
  | 8, v, W, γ => ∃ g1 g2, v = .tuple #[.agg #[.int .i64 D, .slice (some ⟨g1, 0, none⟩) bn bn, .slice (some ⟨g2, 0, none⟩) gn gn, .int .i64 sv], .int .i64 0] ∧ γ 0 ≠ 0 ∧ Blk W g1 3 (intsA en)
  | 9, v, W, γ => ∃ g1 g2, v = .agg #[.int .i64 D, .slice (some ⟨g1, 0, none⟩) bn bn, .slice (some ⟨g2, 0, none⟩) gn gn, .int .i64 sv] ∧ γ 0 ≠ 0 ∧ Blk W g1 3 (intsA en)
  | 10, v, _, _ => v = .int .i64 0
  | 11, v, W, γ => v = .pointer (some ⟨γ 1, 0, none⟩) ∧ (γ 2 = 1 ∨ (base ≤ γ 1 ∧ Blk W (γ 1) 40 #[.int .i64 0, .slice none 0 0, .slice none 0 0, .int .i64 0]))
  | 12, _, W, γ => γ 2 = 1 ∧ ∃ g1 g2, Blk W (γ 1) 40 #[.int .i64 D, .slice (some ⟨g1, 0, none⟩) bn bn, .slice (some ⟨g2, 0, none⟩) gn gn, .int .i64 sv] ∧ Blk W g1 3 (intsA en)
  | 13, v, _, _ => v = .int .i64 0
  | _, _, _, _ => True
section
variable {base : Nat} {bv tv fv : Value} {lA : Option Addr} {ln lc : Nat} {L : List Spn} {D sv : Int} {bn gn : Nat} {en : List Int} {j : Nat} {u : Value} {W W' : World} {γ γ' : Nat → Nat}
theorem stPhi_next (hb : Below W.heap.size W W') (h0 : γ' 0 = γ 0) (h2 : γ' 2 = γ 2) (h1 : j = 11 ∨ j = 12 → γ' 1 = γ 1) (h : stPhi base bv lA ln lc L tv fv D sv bn gn en j u W γ) : stPhi base bv lA ln lc L tv fv D sv bn gn en j u W' γ' := by
  unfold stPhi at h ⊢
  split at h
  all_goals first | exact h | trivial | skip
  · obtain ⟨A, c, k1, k2⟩ := h
    exact ⟨A, c, k1, fun h => row_next (k2 (by rw [← h0]; exact h)) hb⟩
  · obtain ⟨A, c, M, k1, kc, k2, k3, k4⟩ := h
    exact ⟨A, c, M, k1, kc, k2, k3, fun h => (k4 (by rw [← h0]; exact h)).next hb⟩
  · obtain ⟨A, c, M, k1, k2, k3, k4, k5⟩ := h
    exact ⟨A, c, M, k1, by rw [h0]; exact k2, k3, k4, row_next k5 hb⟩
  · obtain ⟨g1, g2, k1, k2, k3⟩ := h
    exact ⟨g1, g2, k1, by rw [h0]; exact k2, k3.below hb k3.lt⟩
  · obtain ⟨g1, g2, k1, k2, k3⟩ := h
    exact ⟨g1, g2, k1, by rw [h0]; exact k2, k3.below hb k3.lt⟩
  · obtain ⟨g1, g2, k1, k2, k3⟩ := h
    exact ⟨g1, g2, k1, by rw [h0]; exact k2, k3.below hb k3.lt⟩
  · rw [h1 (Or.inl rfl), h2]
    exact ⟨h.1, h.2.imp id fun h => ⟨h.1, h.2.below hb h.2.lt⟩⟩
  · obtain ⟨k0, g1, g2, k1, k2⟩ := h
    rw [h1 (Or.inr rfl), h2]
    exact ⟨k0, g1, g2, k1.below hb k1.lt, k2.below hb k2.lt⟩
theorem stPhi_1 {v : Value} {xs : List Value} {k : Nat} (h0 : γ 0 = 0) (hj : j ≠ 5) (hg : W.grownBy W' v.ownBlock) (hr : W.ownsRow base 37 2 v k xs) (h : stPhi base bv lA ln lc L tv fv D sv bn gn en j u W γ) : stPhi base bv lA ln lc L tv fv D sv bn gn en j u W' (fun i => if i = 0 then 1 else γ i) := by
  unfold stPhi at h ⊢
  split at h
  all_goals first | exact h | trivial | exact absurd rfl hj | skip
  · obtain ⟨A, c, k1, k2⟩ := h
    exact ⟨A, c, k1, fun h => by simp at h⟩
  · obtain ⟨A, c, M, k1, kc, k2, k3, k4⟩ := h
    exact ⟨A, c, M, k1, kc, k2, k3, fun h => by simp at h⟩
  · obtain ⟨g1, g2, k1, k2, k3⟩ := h
    exact absurd h0 k2
  · obtain ⟨g1, g2, k1, k2, k3⟩ := h
    exact absurd h0 k2
  · obtain ⟨g1, g2, k1, k2, k3⟩ := h
    exact absurd h0 k2
  · exact ⟨h.1, h.2.imp id fun h => ⟨h.1, h.2.kept hg (own_ne hr h.2 (by decide))⟩⟩
  · obtain ⟨k0, g1, g2, k1, k2⟩ := h
    exact ⟨k0, g1, g2, k1.kept hg (own_ne hr k1 (by decide)), k2.kept hg (own_ne hr k2 (by decide))⟩
theorem stPhi_2 {cs : Array Value} (h0 : γ 0 ≠ 0) (hj : j ≠ 12) (hx : Blk W (γ 1) 40 cs) (hk : ∀ b t ds, t ≠ 40 → Blk W b t ds → Blk W' b t ds) (hr : ∀ v k xs, W.ownsRow base 37 2 v k xs → W'.ownsRow base 37 2 v k xs) (h : stPhi base bv lA ln lc L tv fv D sv bn gn en j u W γ) : stPhi base bv lA ln lc L tv fv D sv bn gn en j u W' (fun i => if i = 2 then 1 else γ i) := by
  unfold stPhi at h ⊢
  split at h
  all_goals first | exact h | trivial | exact absurd rfl hj | skip
  · obtain ⟨A, c, k1, k2⟩ := h
    exact ⟨A, c, k1, fun h => absurd h h0⟩
  · obtain ⟨A, c, M, k1, kc, k2, k3, k4⟩ := h
    exact ⟨A, c, M, k1, kc, k2, k3, fun h => absurd h h0⟩
  · obtain ⟨A, c, M, k1, k2, k3, k4, k5⟩ := h
    exact ⟨A, c, M, k1, k2, k3, k4, hr _ _ _ k5⟩
  · obtain ⟨g1, g2, k1, k2, k3⟩ := h
    exact ⟨g1, g2, k1, k2, hk _ _ _ (by decide) k3⟩
  · obtain ⟨g1, g2, k1, k2, k3⟩ := h
    exact ⟨g1, g2, k1, k2, hk _ _ _ (by decide) k3⟩
  · obtain ⟨g1, g2, k1, k2, k3⟩ := h
    exact ⟨g1, g2, k1, k2, hk _ _ _ (by decide) k3⟩
  · exact ⟨h.1, Or.inl rfl⟩
end
theorem RowW.rd {α : Type} {w : World} {b size : Nat} {T : TypeId} {f : α → List Value} {A : Option Addr} {l : List α} {n : Nat} (hf : ∀ x, (f x).length = size) (hl : l.length = n) (h : RowW w b T f A l) : Rd w w.heap.size size f A n l := by
  refine ⟨hl, fun hn => ?_⟩
  have hx0 : l[0]? = some (l[0]'(by omega)) := List.getElem?_eq_getElem (by omega)
  obtain ⟨hA, hb, _, _⟩ := h.at_ hf hx0
  refine ⟨b, 0, hA, hb, fun i x hx j u hu => ?_⟩
  rw [Nat.zero_add]
  exact (h.at_ hf hx).2.2.2 j u hu
theorem part_set {L : List Spn} {i : Nat} {a b : Spn} (h : i < L.length) : (L.take i ++ a :: L.drop i).set (i + 1) b = L.take i ++ a :: b :: L.drop (i + 1) := by
  have e : (L.take i).length = i := by rw [List.length_take]; omega
  rw [List.set_append_right _ _ (by omega), e, show i + 1 - i = 1 by omega, List.drop_eq_getElem_cons h]
  rfl
theorem part_at {L : List Spn} {i : Nat} {a : Spn} (h : i < L.length) : (L.take i ++ a :: L.drop i)[i + 1]? = L[i]? := by
  have e : (L.take i).length = i := by rw [List.length_take]; omega
  rw [List.getElem?_append_right (by omega), e, show i + 1 - i = 1 by omega, List.drop_eq_getElem_cons h, List.getElem?_eq_getElem h]
  rfl
theorem args_more {bs : List Bat} {gs : List Gen} {L M : List Spn} (ok : ArgsOk bs gs L) (h1 : L.length ≤ 8) (h2 : ∀ s ∈ L, LdOk s) (h3 : M.length ≤ 9) (h4 : ∀ s ∈ M, LdOk s) : ArgsOk bs gs (L ++ M) := by
  refine ⟨ok.nb, ok.ng, by rw [List.length_append]; omega, ok.bat, ok.gen, fun s hs => ?_, ?_⟩
  · have h : LdOk s := (List.mem_append.1 hs).elim (h2 s) (h4 s)
    unfold LdOk at h
    exact ⟨by omega, by omega, by omega, by omega⟩
  · have a := secs_len h2
    have b := secs_len h4
    rw [secsL_append, List.length_append]
    omega
theorem run_same {bs : List Bat} {gs : List Gen} {L M : List Spn} {fs : List Int} (h : secsL M = secsL L) : runOf bs gs M fs = runOf bs gs L fs := by unfold runOf; rw [h]
theorem run_more {bs : List Bat} {gs : List Gen} {L M : List Spn} {fs : List Int} (h : 0 ≤ (runOf bs gs L fs).dark) : runOf bs gs (L ++ M) fs = runOf bs gs L fs := by
  unfold runOf at h ⊢
  rw [secsL_append]
  refine runL_more fun ho => ?_
  rw [okL_dark ho] at h
  exact absurd h (by show ¬ (0 : Int) ≤ -1; decide)
set_option maxRecDepth 100000 in
set_option maxHeartbeats 4000000 in
theorem splits_any (A1 A2 A3 A4 : Option Addr) (n1 c1 n2 c2 n3 c3 n4 c4 : Nat) (l1 l2 l3 l4 : List Int) (ai bi : Int) (w : World) (h1 : Rd w w.heap.size 1 encU A1 n1 l1) (h2 : Rd w w.heap.size 1 encU A2 n2 l2) (h3 : Rd w w.heap.size 1 encU A3 n3 l3) (h4 : Rd w w.heap.size 1 encU A4 n4 l4) (u1 : U8s l1) (u2 : U8s l2) (u3 : U8s l3) (u4 : U8s l4) (z1 : n1 ≤ 9223372036854775807) (z2 : n2 ≤ 9223372036854775807) (z3 : n3 ≤ 9223372036854775807) (z4 : n4 ≤ 9223372036854775807) (hat : 0 ≤ ai ∧ ai ≤ 255) (hby : 0 ≤ bi ∧ bi ≤ 255) :
    Calls Try.prog 8 #[.slice A1 n1 c1, .slice A2 n2 c2, .slice A3 n3 c3, .int .u8 ai, .int .u8 bi, .slice A4 n4 c4] w fun e w' => e = .returned (.bool true) ∧ Below w.heap.size w w' := by
  have H1 := Lib.hid h1
  have H2 := Lib.hid h2
  have H3 := Lib.hid h3
  have KM := Lib.hid (fun W h => Made_any A1 n1 c1 l1 W h u1 z1)
  have KL := Lib.hid (fun W h => Loaded_any A2 n2 c2 l2 W h u2 (by omega))
  have KF0 := Lib.hid (fun (bA gA : Option Addr) (bn bc gn gc : Nat) (gs : List Gen) W hg h hgn ok => Failed_any bA gA A3 bn bc gn gc n3 c3 gs l3 W hg h u3 hgn ok (by omega))
  have KA := Lib.hid awake_any
  have H4 := Lib.hid h4
  obtain ⟨i0, hi0, hi1, hi2, hi3⟩ := info_parts spnInfo
  have hi := Lib.hid (And.intro hi0 (And.intro hi1 (And.intro hi2 hi3)))
  have KL4 := Lib.hid (fun W h => Loaded_any A4 n4 c4 l4 W h u4 (by omega))
  have HAT := Lib.hid hat
  have HBY := Lib.hid hby
  clear h1 h2 h3 u1 u2 u3 z1 z2 z3 h4 u4 z4 hat hby hi0 hi1 hi2 hi3
  go_enter Try.func8, Try.ntmps8
  go_wp2_with fail
  refine (KM.out _ H1.out).mono ?_
  rintro e w0 ⟨bA, bc, gA, gc, bs, gs, rfl, hB0, hrb, hrg, hb4, hg3, hbs, hgs⟩
  obtain ⟨bn, hbn⟩ : ∃ z, z = bs.length := ⟨_, rfl⟩
  obtain ⟨gn, hgn⟩ : ∃ z, z = gs.length := ⟨_, rfl⟩
  rw [← hbn] at hrb ⊢
  rw [← hgn] at hrg ⊢
  have KF := Lib.hid (fun W hg h => KF0.out bA gA bn bc gn gc gs W hg h (by omega) (fun g hg => (hgs g hg).1))
  have HRB := Lib.hid hrb
  have HRG := Lib.hid hrg
  have HMD := Lib.hid (And.intro hb4 (And.intro hg3 (And.intro hbs hgs)))
  have HBN := Lib.hid hbn
  have HGN := Lib.hid hgn
  have HL0 := Lib.hid hB0
  clear hrb hrg hb4 hg3 hbs hgs hbn hgn hB0 KF0 KM
  go_wp2
  obtain ⟨bp, hbp⟩ : ∃ z, z = w0.heap.size := ⟨_, rfl⟩
  obtain ⟨w1, hw1⟩ : ∃ z, z = w0.alloc (.cells #[.slice bA bn bc, .slice gA gn gc] 26) := ⟨_, rfl⟩
  have hi1 : Below w0.heap.size w0 w1 := by rw [hw1]; exact (Below.refl _ _).alloc (Nat.le_refl _) _
  have HBP : Hid (Blk w1 bp 26 #[.slice bA bn bc, .slice gA gn gc]) := Lib.hid (by rw [hw1, hbp]; exact heap_alloc_new w0 _)
  rw [← hw1, ← hbp]
  have HL1 := Lib.hid (below3 HL0.out hi1 (Nat.le_refl _))
  have HB := Lib.hid (row_rd Bat.enc_len HBN.out.symm (row_next HRB.out hi1))
  have HG := Lib.hid (row_rd Gen.enc_len HGN.out.symm (row_next HRG.out hi1))
  have H2 := Lib.hid (H2.out.next HL1.out)
  have H3 := Lib.hid (H3.out.next HL1.out)
  have H4 := Lib.hid (H4.out.next HL1.out)
  clear hw1 hbp hi1 HRB HRG HL0 H1
  refine wp_region_free10 6 (by kernel_rfl) [some 26, some 27, some 28, some 29, some 30, some 14, some 15] [[], [0], [], [], [2, 3, 1], [1, 4, 0, 1], [4, 5, 0, 1, 2, 3, 4, 5]] [(1, .slice A2 n2 c2), (2, .slice A3 n3 c3), (13, .pointer (some ⟨bp, 0, none⟩))] (fun W _ => Below w1.heap.size w1 W) (r2Phi w1.heap.size bp (.slice A2 n2 c2) (.slice A3 n3 c3) (.agg #[.slice bA bn bc, .slice gA gn gc]) gn gs) (fun _ _ _ => True) (by kernel_rfl) (by kernel_rfl) rfl (by kernel_rfl) ?_ ?_ ⟨fun _ => 0, (Below.refl _ _).drew, fun i _ => trivial⟩ ?_ ?_
  · intro z hz
    simp only [List.mem_cons, List.mem_nil_iff, or_false] at hz
    rcases hz with rfl | rfl | rfl
    all_goals exact ⟨by kernel_rfl, rfl⟩
  · intro i v W γ hi h
    rcases i with _ | _ | _ | _ | _ | _ | _ | i
    all_goals first | exact h | (simp at hi)
  · refine ⟨?_, ?_, ?_, ?_, ?_, ?_, ?_, trivial⟩
    all_goals
      intro a W γ ev hcc hff hfx hR hψ hpre
      simp only [List.mem_cons, List.mem_nil_iff, or_false, forall_eq, forall_eq_or_imp] at hfx
      obtain ⟨f0, f1, f2⟩ := hfx
      have HR := Lib.hid hR
      clear hR
      refine ⟨fun _ K hK => ?_, trivial⟩

    · clear hpre hψ
      go_simp
      exact hK _ _ γ HR.out (fun _ _ _ _ h => h) (fun _ _ _ h => h) rfl
    · have q0 : ev (.tmp 26) = _ := hpre 0 (by decide)
      have C := Lib.hid (KL.out W (H2.out.next (HR.out : Below w1.heap.size w1 W)))
      have HRW : Hid (Below w1.heap.size w1 W) := HR
      clear hpre
      go_simp
      refine C.out.mono ?_
      rintro e w5 ⟨A, c, L, rfl, hB5, hrow, hL1, hL2⟩
      exact hK _ w5 γ (below3 HRW.out hB5 (Nat.le_refl _)) (fun j u _ _ h => r2Phi_next hB5 h) (fun _ _ _ h => h) ⟨A, c, L, rfl, row_low hrow HRW.out.size, hL1, hL2⟩
    · have c0 : W.cell? ⟨bp, 0, none⟩ = some (.slice bA bn bc) := ((HR.out : Below w1.heap.size w1 W).cell (p := ⟨bp, 0, none⟩) HBP.out.lt).trans (HBP.out.cell 0)
      have c1 : W.cell? ⟨bp, 1, none⟩ = some (.slice gA gn gc) := ((HR.out : Below w1.heap.size w1 W).cell (p := ⟨bp, 1, none⟩) HBP.out.lt).trans (HBP.out.cell 1)
      have hzz : bp < W.heap.size := Nat.lt_of_lt_of_le HBP.out.lt (HR.out : Below w1.heap.size w1 W).size
      clear hpre hψ
      go_simp
      exact hK _ _ γ HR.out (fun _ _ _ _ h => h) (fun _ _ _ h => h) rfl
    · clear hpre hψ
      go_simp
      exact hK _ _ γ HR.out (fun _ _ _ _ h => h) (fun _ _ _ h => h) rfl
    · have q0 : ev (.tmp 28) = _ := hpre 2 (by decide)
      have q1 : ev (.tmp 29) = _ := hpre 3 (by decide)
      have C := Lib.hid (KF.out W (HG.out.next (HR.out : Below w1.heap.size w1 W)) (H3.out.next (HR.out : Below w1.heap.size w1 W)))
      have HRW : Hid (Below w1.heap.size w1 W) := HR
      clear hpre
      go_simp
      refine C.out.mono ?_
      rintro e w5 ⟨A, c, fs, rfl, hB5, hrow, hfs⟩
      exact hK _ w5 γ (below3 HRW.out hB5 (Nat.le_refl _)) (fun j u _ _ h => r2Phi_next hB5 h) (fun _ _ _ h => h) ⟨A, c, fs, rfl, row_low hrow HRW.out.size, hfs⟩
    · obtain ⟨A, c, L, q0, hrow, hL1, hL2⟩ := hpre 1 (by decide)
      replace q0 : ev (.tmp 27) = _ := q0
      clear hpre
      go_simp
      exact hK _ W γ HR.out (fun _ _ _ _ h => h) (fun _ _ _ h => h) ⟨A, c, L, rfl, hrow, hL1, hL2⟩
    · obtain ⟨A, c, fs, q0, hrow, hfs⟩ := hpre 4 (by decide)
      replace q0 : ev (.tmp 30) = _ := q0
      clear hpre
      go_simp
      exact hK _ W γ HR.out (fun _ _ _ _ h => h) (fun _ _ _ h => h) ⟨A, c, fs, rfl, hrow, hfs⟩
  · intro vs w' γ hvl hR hφ
    have q1 := hφ 5 (by decide)
    have q2 := hφ 6 (by decide)
    have HR := Lib.hid hR
    clear hφ hR
    match vs, hvl with
    | [y0, y1, y2, y3, y4, y5, y6], _ =>
    simp only [List.getD_cons_zero, List.getD_cons_succ] at q1 q2
    obtain ⟨lA, lc, L, e1, hrl, hL1, hL2⟩ := q1
    obtain ⟨fA, fc, fs, e2, hrf, hfs⟩ := q2
    subst e1
    subst e2
    have HLR : Hid (Below w1.heap.size w1 w') := HR
    have OKA := Lib.hid (law_args HMD.out.1 HMD.out.2.1 HMD.out.2.2.1 HMD.out.2.2.2 hL1 hL2)
    have OKF := Lib.hid hfs
    have HLS := Lib.hid (And.intro hL1 hL2)
    obtain ⟨ln, hln⟩ : ∃ z, z = L.length := ⟨_, rfl⟩
    have HLN := Lib.hid hln
    have hln8 : ln ≤ 8 := by rw [hln]; exact HLS.out.1
    have HIN : Hid (ArgsIn w' w'.heap.size bA bn bs gA gn gs lA ln L) := Lib.hid ⟨HB.out.next HLR.out, HG.out.next HLR.out, row_rd Spn.enc_len hln.symm (by rw [hln]; exact hrl)⟩
    have HFR : Hid (Rd w' w'.heap.size 1 encI fA gn fs) := Lib.hid (row_rd (fun _ => rfl) (by rw [OKF.out.1, HGN.out]) hrf)
    have HBP2 := Lib.hid (HBP.out.below HLR.out HBP.out.lt)
    have HL2 := Lib.hid (below3 HL1.out HLR.out (Nat.le_refl _))
    have H4 := Lib.hid (H4.out.next HLR.out)
    obtain ⟨w2, hw2⟩ : ∃ z, z = w' := ⟨_, rfl⟩
    rw [← hw2] at HIN HFR HBP2 HL2 H4 ⊢
    obtain ⟨Pl, hPl⟩ : ∃ z, z = runOf bs gs L fs := ⟨_, rfl⟩
    have HPL := Lib.hid hPl
    have hpl := runOf_len (bs := bs) (l := L) (Fl.of_ok OKF.out)
    rw [← hPl] at hpl
    have HEN : Hid ((energies Pl).length = bn ∧ (burnts Pl).length = gn) := Lib.hid (by
      unfold energies burnts
      rw [List.length_map, List.length_map, hpl.1, hpl.2, HBN.out, HGN.out]
      exact ⟨rfl, rfl⟩)
    -- a run of any load with the same outcome
    have KR : Hid (∀ (M : List Spn) (A : Option Addr) (mn mc : Nat) (W : World), runOf bs gs M fs = Pl → ArgsOk bs gs M → ArgsIn W W.heap.size bA bn bs gA gn gs A mn M → Rd W W.heap.size 1 encI fA gn fs → Calls Try.prog 15 #[.agg #[.slice bA bn bc, .slice gA gn gc], .slice A mn mc, .slice fA gn fc] W fun e w' => ∃ g1 g2, e = .returned (.tuple #[.agg #[.int .i64 Pl.dark, .slice (some ⟨g1, 0, none⟩) bn bn, .slice (some ⟨g2, 0, none⟩) gn gn, .int .i64 Pl.served], .int .i64 0]) ∧ Below W.heap.size W w' ∧ Blk w' g1 3 (intsA (energies Pl)) ∧ Blk w' g2 3 (intsA (burnts Pl))) := Lib.hid (fun M A mn mc W h1 h2 h3 h4 => by
      refine (run_b bA gA A fA bn bc gn gc mn mc fc bs gs M fs HBN.out HGN.out W h3 h4 h2 OKF.out).mono ?_
      rintro e w' ⟨g1, g2, k1, k2, k3⟩
      rw [h1] at k1 k3
      exact ⟨g1, g2, k1, k2, k3.e, k3.b⟩)
    rw [← hln]
    clear hrl hrf hL1 hL2 hfs hln hPl hpl HR HLR HB HG H2 H3 KL KF HBP HL1 hw2 hvl
    have c0 : w2.cell? ⟨bp, 0, none⟩ = some (.slice bA bn bc) := HBP2.out.cell 0
    have c1 : w2.cell? ⟨bp, 1, none⟩ = some (.slice gA gn gc) := HBP2.out.cell 1
    have z1 := HBP2.out.lt
    simp [putAll]
    go_wp2_with fail
    refine (KR.out L lA ln lc _ HPL.out.symm OKA.out HIN.out HFR.out).mono ?_
    rintro e w3 ⟨g1, g2, rfl, hB3, hen, hbu⟩
    obtain ⟨rb, hrb⟩ : ∃ z, z = w3.heap.size := ⟨_, rfl⟩
    obtain ⟨w4, hw4⟩ : ∃ z, z = w3.alloc (.cells #[.int .i64 Pl.dark, .slice (some ⟨g1, 0, none⟩) bn bn, .slice (some ⟨g2, 0, none⟩) gn gn, .int .i64 Pl.served] 40) := ⟨_, rfl⟩
    have hi4 : Below w3.heap.size w3 w4 := by rw [hw4]; exact (Below.refl _ _).alloc (Nat.le_refl _) _
    have hk4 : Blk w4 rb 40 #[.int .i64 Pl.dark, .slice (some ⟨g1, 0, none⟩) bn bn, .slice (some ⟨g2, 0, none⟩) gn gn, .int .i64 Pl.served] := by rw [hw4, hrb]; exact heap_alloc_new w3 _
    have h24 := below3 hB3 hi4 (Nat.le_refl _)
    have HIN3 := Lib.hid (HIN.out.next hB3)
    have HI4 := Lib.hid hi4
    have HRB := Lib.hid hk4
    have HE1 := Lib.hid (hen.below hi4 hen.lt)
    have HE2 := Lib.hid (hbu.below hi4 hbu.lt)
    have HIN4 := Lib.hid (HIN.out.next h24)
    have HFR4 := Lib.hid (HFR.out.next h24)
    have HBP4 := Lib.hid (HBP2.out.below h24 HBP2.out.lt)
    have H44 := Lib.hid (H4.out.next h24)
    have HL4 := Lib.hid (below3 HL2.out h24 (Nat.le_refl _))
    have HDK : Hid (-1 ≤ Pl.dark) := Lib.hid (by rw [HPL.out]; exact (runOf_dark bs gs L fs).1)
    obtain ⟨D, hD⟩ : ∃ z, z = Pl.dark := ⟨_, rfl⟩
    obtain ⟨sv, hsv⟩ : ∃ z, z = Pl.served := ⟨_, rfl⟩
    rw [← hD, ← hsv] at HRB KR hw4
    rw [← hD] at HDK
    rw [← hD, ← hsv]
    have HD := Lib.hid hD
    have HW4 := Lib.hid hw4
    have HRBE := Lib.hid hrb
    clear c0 c1 z1 hB3 hen hbu hw4 hrb hi4 hk4 h24 hD hsv HIN HFR HBP2 H4 HL2
    by_cases hln0 : ln = 0
    · have hl1 : ¬ 0 < ln := by omega
      have hl2 : decide (0 < ln) = false := decide_eq_false hl1
      have hl3 : ¬ (0 : Int) < (ln : Int) := by omega
      clear hln0
      by_cases hDD : D < 0
      · have hd1 : decide (D < 0) = true := decide_eq_true hDD
        clear hDD
        go_wp2_with fail
        rw [← HW4.out]
        have HLX := HL4
        refine (KA.out _).mono ?_
        rintro e wz ⟨rfl, hBz⟩
        have HLz := Lib.hid (below3 HLX.out hBz (Nat.le_refl _))
        clear hBz
        go_wp2_with fail
        go_ret
        exact ⟨rfl, HLz.out⟩
      · have hd1 : decide (D < 0) = false := decide_eq_false hDD
        have HDD := Lib.hid hDD
        clear hDD
        go_wp2
        rw [← HW4.out, ← HRBE.out]
        obtain ⟨wX, hwX⟩ : ∃ z, z = w4 := ⟨_, rfl⟩
        have htw : Below w4.heap.size w4 wX := by rw [hwX]; exact Below.refl _ _
        have HINX := Lib.hid (HIN4.out.next htw)
        have HFRX := Lib.hid (HFR4.out.next htw)
        have HBPX := Lib.hid (HBP4.out.below htw HBP4.out.lt)
        have H4X := Lib.hid (H44.out.next htw)
        have HRX := Lib.hid (HRB.out.below htw HRB.out.lt)
        have HE1X := Lib.hid (HE1.out.below htw HE1.out.lt)
        have HLX := Lib.hid (below3 HL4.out htw (Nat.le_refl _))
        rw [← hwX]
        clear hwX htw
        refine wp_region_free10 13 (by kernel_rfl) [some 124, some 125, some 126, some 127, some 128, some 129, some 130, some 131, some 123, some 132, some 133, some 23, none, some 17] [[], [], [1], [], [3, 2], [2, 4, 4], [], [0, 5, 6, 5], [7], [8], [8], [], [11, 9, 7, 0, 1, 2, 3, 4, 5, 6, 7, 8, 9, 11], [10, 12, 0, 1, 2, 3, 4, 5, 6, 7, 8, 9, 10, 11, 12]] [(13, .pointer (some ⟨bp, 0, none⟩)), (14, .slice lA ln lc), (5, .slice A4 n4 c4), (15, .slice fA gn fc)] (fun W _ => Below wX.heap.size wX W) (stPhi wX.heap.size (.agg #[.slice bA bn bc, .slice gA gn gc]) lA ln lc L (.slice A4 n4 c4) (.slice fA gn fc) D sv bn gn (energies Pl)) (fun i _ γ => (i = 5 → γ 0 = 0) ∧ (i = 12 → γ 2 = 0)) (by kernel_rfl) (by kernel_rfl) rfl (by kernel_rfl) ?_ ?_ ⟨fun _ => 0, (Below.refl _ _).drew, fun i _ => ⟨fun _ => rfl, fun _ => rfl⟩⟩ ?_ ?_
        · intro z hz
          simp only [List.mem_cons, List.mem_nil_iff, or_false] at hz
          rcases hz with rfl | rfl | rfl | rfl
          all_goals exact ⟨by kernel_rfl, rfl⟩
        · intro i v W γ hi h
          rcases i with _ | _ | _ | _ | _ | _ | _ | _ | _ | _ | _ | _ | _ | _ | i
          all_goals first | exact h | (simp at hi)
        · refine ⟨?_, ?_, ?_, ?_, ?_, ?_, ?_, ?_, ?_, ?_, ?_, ?_, ?_, ?_, trivial⟩
          all_goals
            intro a W γ ev hcc hff hfx hR hψ hpre
            simp only [List.mem_cons, List.mem_nil_iff, or_false, forall_eq, forall_eq_or_imp] at hfx
            obtain ⟨f0, f1, f2, f3⟩ := hfx
            have HR := Lib.hid hR
            clear hR
            refine ⟨fun _ K hK => ?_, trivial⟩

          · have c0 : W.cell? ⟨bp, 0, none⟩ = some (.slice bA bn bc) := ((HR.out : Below wX.heap.size wX W).cell (p := ⟨bp, 0, none⟩) HBPX.out.lt).trans (HBPX.out.cell 0)
            have c1 : W.cell? ⟨bp, 1, none⟩ = some (.slice gA gn gc) := ((HR.out : Below wX.heap.size wX W).cell (p := ⟨bp, 1, none⟩) HBPX.out.lt).trans (HBPX.out.cell 1)
            have hzz : bp < W.heap.size := Nat.lt_of_lt_of_le HBPX.out.lt (HR.out : Below wX.heap.size wX W).size
            clear hpre hψ
            go_simp
            exact hK _ _ γ HR.out (fun _ _ _ _ h => h) (fun _ _ _ h => h) rfl
          · clear hpre hψ
            go_simp
            exact hK _ _ γ HR.out (fun _ _ _ _ h => h) (fun _ _ _ h => h) rfl
          · have q0 : ev (.tmp 125) = _ := hpre 1 (by decide)
            have C := Lib.hid (clone_spns lA ln lc L W (HINX.out.load.next (HR.out : Below wX.heap.size wX W)) (by omega))
            have HRW9 : Hid (Below wX.heap.size wX W) := HR
            clear hpre
            go_simp
            refine C.out.mono ?_
            rintro e w5 ⟨A, c, rfl, hrow, hB5, _⟩
            exact hK _ w5 γ (below3 HRW9.out hB5 (Nat.le_refl _)) (fun j u _ _ h => stPhi_next hB5 rfl rfl (fun _ => rfl) h) (fun _ _ _ h => h) ⟨A, c, rfl, fun _ => row_low hrow HRW9.out.size⟩
          · clear hpre hψ
            go_simp
            exact hK _ _ γ HR.out (fun _ _ _ _ h => h) (fun _ _ _ h => h) rfl
          · have q0 : ev (.tmp 127) = _ := hpre 3 (by decide)
            have C := Lib.hid (KL4.out W (H4X.out.next (HR.out : Below wX.heap.size wX W)))
            have HRW9 : Hid (Below wX.heap.size wX W) := HR
            clear hpre
            go_simp
            refine C.out.mono ?_
            rintro e w5 ⟨A, c, M, rfl, hB5, hrow, hM1, hM2⟩
            exact hK _ w5 γ (below3 HRW9.out hB5 (Nat.le_refl _)) (fun j u _ _ h => stPhi_next hB5 rfl rfl (fun _ => rfl) h) (fun _ _ _ h => h) ⟨A, c, M, rfl, fun e => own_nil (by rw [← e]; exact hrow), hM1, hM2, fun _ => row_rd Spn.enc_len rfl hrow⟩
          · have hγ : γ 0 = 0 := hψ.1 rfl
            obtain ⟨A, c, q0, hA⟩ := hpre 2 (by decide)
            obtain ⟨A2, c2, M, q1, hmc, hm1, hm2, hM⟩ := hpre 4 (by decide)
            have hrow := hA hγ
            have hrd := hM hγ
            replace q0 : ev (.tmp 126) = _ := q0
            replace q1 : ev (.tmp 128) = _ := q1
            have hlow := (HR.out : Below wX.heap.size wX W)
            cases A2 with
            | none =>
              have hm0 : M = [] := by
                rcases Nat.eq_zero_or_pos M.length with h | h
                · exact List.eq_nil_of_length_eq_zero h
                · obtain ⟨_, _, e, _⟩ := hrd.2 h
                  cases e
              subst hm0
              obtain rfl := hmc rfl
              have hrun := run_append_owned_none (P := Try.prog) (w := W) wX.heap.size 28 28 37 i0 2 Try.underlying28 hi.out.1 (.slice A ln c) ln (L.flatMap Spn.enc) hrow
              unfold execOp
              simp only [resolve, invoke, builtin, Sem.run_bind, Sem.run_pure, Result.andThen_ok, List.map_toArray, List.map_cons, List.map_nil, List.length_nil, q0, q1, hrun]
              exact hK _ W (fun i => if i = 0 then 1 else γ i) hlow (fun j u hj hne h => stPhi_1 hγ hne (World.grownBy.refl W _) hrow h) (fun _ j h1 h2 => ⟨fun e => absurd e h1, fun e => by simpa using h2.2 e⟩) ⟨A, c, [], rfl, by simp, hm1, hm2, by simpa using hrow⟩
            | some ad =>
              obtain ⟨v', W', hr, h2, h3, _, _⟩ := run_append_own_at (P := Try.prog) W wX.heap.size 28 28 37 i0 (.agg #[.int .i64 0, .int .i64 0]) 2 16 Try.underlying28 hi.out.1 hi.out.2.1 hi.out.2.2.1 hi.out.2.2.2 rfl (by decide) (.slice A ln c) ln (L.flatMap Spn.enc) hrow ad M.length c2 (M.flatMap Spn.enc) (spn_len M) (fun j u hj => hrd.news (fun _ _ => rfl) j u hj) (spn_one M) (by simp only [maxLen]; omega) (by omega) hlow.size
              obtain ⟨A', c', e'⟩ := row_slice h2
              subst e'
              unfold execOp
              simp only [resolve, invoke, builtin, Sem.run_bind, Sem.run_pure, Result.andThen_ok, List.map_toArray, List.map_cons, List.map_nil, q0, q1, hr]
              exact hK _ W' (fun i => if i = 0 then 1 else γ i) (hlow.grown h3 hlow.size (fun r e => (World.ownsRow.lt hrow r e).1)) (fun j u hj hne h => stPhi_1 hγ hne h3 hrow h) (fun _ j h1 h2 => ⟨fun e => absurd e h1, fun e => by simpa using h2.2 e⟩) ⟨A', c', M, rfl, by simp, hm1, hm2, by rw [List.flatMap_append]; exact h2⟩
          · clear hpre hψ
            go_simp
            exact hK _ _ γ HR.out (fun _ _ _ _ h => h) (fun _ _ _ h => h) rfl
          · have q0 : ev (.tmp 124) = _ := hpre 0 (by decide)
            have q1 : ev (.tmp 130) = _ := hpre 6 (by decide)
            obtain ⟨A, c, M, q2, hne, hm1, hm2, hrow⟩ := hpre 5 (by decide)
            replace q2 : ev (.tmp 129) = _ := q2
            have HRW9 : Hid (Below wX.heap.size wX W) := HR
            have hrd := row_rd Spn.enc_len (xs := L ++ M) (by rw [List.length_append, ← HLN.out]) hrow
            have C := Lib.hid (KR.out (L ++ M) A (ln + M.length) c W (by rw [HPL.out]; exact run_more (by have := HDD.out; have := HD.out; rw [HPL.out] at this; omega)) (args_more OKA.out HLS.out.1 HLS.out.2 (by omega) hm2) ⟨HINX.out.bat.next HRW9.out, HINX.out.gen.next HRW9.out, hrd⟩ (HFRX.out.next HRW9.out))
            clear hpre hrow hrd
            go_simp
            refine C.out.mono ?_
            rintro e w5 ⟨g3, g4, rfl, hB5, hen, hbu⟩
            exact hK _ w5 γ (below3 HRW9.out hB5 (Nat.le_refl _)) (fun j u _ _ h => stPhi_next hB5 rfl rfl (fun _ => rfl) h) (fun _ _ _ h => h) ⟨g3, g4, rfl, hne, hen⟩
          · obtain ⟨g3, g4, q0, hne, hen⟩ := hpre 7 (by decide)
            replace q0 : ev (.tmp 131) = _ := q0
            clear hpre
            go_simp
            exact hK _ _ γ HR.out (fun _ _ _ _ h => h) (fun _ _ _ h => h) ⟨g3, g4, rfl, hne, hen⟩
          · obtain ⟨g3, g4, q0, hne, hen⟩ := hpre 8 (by decide)
            replace q0 : ev (.tmp 123) = _ := q0
            clear hpre
            go_simp
            exact hK _ _ γ HR.out (fun _ _ _ _ h => h) (fun _ _ _ h => h) ⟨g3, g4, rfl, hne, hen⟩
          · obtain ⟨g3, g4, q0, hne, hen⟩ := hpre 8 (by decide)
            replace q0 : ev (.tmp 123) = _ := q0
            clear hpre
            go_simp
            exact hK _ _ γ HR.out (fun _ _ _ _ h => h) (fun _ _ _ h => h) rfl
          · clear hpre
            go_simp
            have hB5 : Below W.heap.size W (W.alloc (.cells #[.int .i64 0, .slice none 0 0, .slice none 0 0, .int .i64 0] 40)) := (Below.refl _ _).alloc (Nat.le_refl _) _
            exact hK _ _ (fun i => if i = 1 then W.heap.size else γ i) (below3 (HR.out : Below wX.heap.size wX W) hB5 (Nat.le_refl _)) (fun j u hj hne h => stPhi_next hB5 rfl rfl (fun e => e.elim (fun e => absurd e hne) (fun e => by subst e; exact absurd (by decide) hj)) h) (fun _ j h1 h2 => h2) ⟨rfl, Or.inr ⟨(HR.out : Below wX.heap.size wX W).size, heap_alloc_new W _⟩⟩
          · obtain ⟨g3, g4, q0, hne, hen⟩ := hpre 9 (by decide)
            obtain ⟨q1, hx⟩ := hpre 11 (by decide)
            replace q0 : ev (.tmp 132) = _ := q0
            replace q1 : ev (.tmp 23) = _ := q1
            have h2 : γ 2 = 0 := hψ.2 rfl
            obtain ⟨x1, x2⟩ := hx.resolve_left (by omega)
            obtain ⟨xb, hxb⟩ : ∃ z, z = γ 1 := ⟨_, rfl⟩
            rw [← hxb] at q1 x1 x2
            have XB := Lib.hid x2
            have HRW9 : Hid (Below wX.heap.size wX W) := HR
            have X1 := Lib.hid x1
            have HXB := Lib.hid hxb
            have HEN9 := Lib.hid hen
            have HNE9 := Lib.hid hne
            have hzz := x2.lt
            have d0 : W.cell? ⟨xb, 0, none⟩ = some (.int .i64 0) := x2.cell 0
            have d1 : W.cell? ⟨xb, 1, none⟩ = some (.slice none 0 0) := x2.cell 1
            have d2 : W.cell? ⟨xb, 2, none⟩ = some (.slice none 0 0) := x2.cell 2
            have d3 : W.cell? ⟨xb, 3, none⟩ = some (.int .i64 0) := x2.cell 3
            have fz : ∀ o, W.frozen? ⟨xb, o, none⟩ = false := fun o => x2.frozen o
            clear x1 x2 hpre hx hxb hen hne h2
            go_simp
            refine hK undef _ (fun i => if i = 2 then 1 else γ i) ?_ (fun j u h1 h2 h3 => stPhi_2 HNE9.out h2 (by rw [← HXB.out]; exact XB.out) ?_ ?_ h3) (fun _ j h1 h2 => ⟨fun e => by simpa using h2.1 e, fun e => absurd e h1⟩) ⟨rfl, g3, g4, ?_, ?_⟩
            · repeat' (first | exact HRW9.out | refine Below.setCell ?_ X1.out _)
            · intro b t ds ht hb
              have hne : b ≠ xb := fun e => ht (by subst e; have := hb.symm.trans XB.out; simp only [Option.some.injEq, Obj.cells.injEq] at this; exact this.2.1)
              exact (((hb.far hne _).far hne _).far hne _).far hne _
            · intro v k xs hr
              have hne : v.ownBlock ≠ some xb := (own_ne hr XB.out (by decide)).symm
              exact (((hr.kept (grown_set _ _ _ _) (Or.inr hne)).kept (grown_set _ _ _ _) (Or.inr hne)).kept (grown_set _ _ _ _) (Or.inr hne)).kept (grown_set _ _ _ _) (Or.inr hne)
            · show Blk _ (γ 1) _ _
              rw [← HXB.out]
              exact (((XB.out.set_ 0 _).set_ 1 _).set_ 2 _).set_ 3 _
            · have hne : g3 ≠ xb := blk_ne HEN9.out XB.out (by decide)
              exact (((HEN9.out.far hne _).far hne _).far hne _).far hne _
          · have q0 : ev (.tmp 133) = _ := hpre 10 (by decide)
            clear hpre hψ
            go_simp
            exact hK _ _ γ HR.out (fun _ _ _ _ h => h) (fun _ _ _ h => h) rfl
        · intro vs w' γ hvl hR hφ
          have q11 := hφ 11 (by decide)
          obtain ⟨_, g3, g4, hx17, hen⟩ := hφ 12 (by decide)
          have q13 := hφ 13 (by decide)
          have HR := Lib.hid hR
          clear hφ hR
          match vs, hvl with
          | [y0, y1, y2, y3, y4, y5, y6, y7, y8, y9, y10, y11, y12, y13], _ =>
          simp only [List.getD_cons_zero, List.getD_cons_succ] at q11 q13
          replace q11 : y11 = _ := q11.1
          replace q13 : y13 = .int .i64 0 := q13
          obtain ⟨xb, hxb⟩ : ∃ z, z = γ 1 := ⟨_, rfl⟩
          rw [← hxb] at q11 hx17
          subst q11
          subst q13
          have HRL : Hid (Below wX.heap.size wX w') := HR
          have HXB := Lib.hid hx17
          have HEX := Lib.hid hen
          have HRR := Lib.hid (HRX.out.below HRL.out HRX.out.lt)
          have HE1R := Lib.hid (HE1X.out.below HRL.out HE1X.out.lt)
          have HLR := Lib.hid (below3 HLX.out HRL.out (Nat.le_refl _))
          have KE := Lib.hid (fun W (hW : Below w'.heap.size w' W) => by
            have r1 := Blk.rdI HEX.out
            have r2 := Blk.rdI HE1R.out
            rw [HEN.out.1] at r1 r2
            have h := Equal_any (some ⟨g3, 0, none⟩) (some ⟨g1, 0, none⟩) bn bn bn bn (energies Pl) (energies Pl) W (r1.next hW) (r2.next hW) (by have := HMD.out.1; have := HBN.out; omega) (by have := HMD.out.1; have := HBN.out; omega)
            rw [show sameL (energies Pl) (energies Pl) = true from decide_eq_true rfl] at h
            exact h)
          clear hx17 hen hxb hvl HR HRX HE1X HINX HFRX HBPX H4X
          have x0 : w'.cell? ⟨xb, 0, none⟩ = some (.int .i64 D) := HXB.out.cell 0
          have x1 : w'.cell? ⟨xb, 1, none⟩ = some (.slice (some ⟨g3, 0, none⟩) bn bn) := HXB.out.cell 1
          have x3 : w'.cell? ⟨xb, 3, none⟩ = some (.int .i64 sv) := HXB.out.cell 3
          have r0 : w'.cell? ⟨rb, 0, none⟩ = some (.int .i64 D) := HRR.out.cell 0
          have r1 : w'.cell? ⟨rb, 1, none⟩ = some (.slice (some ⟨g1, 0, none⟩) bn bn) := HRR.out.cell 1
          have r3 : w'.cell? ⟨rb, 3, none⟩ = some (.int .i64 sv) := HRR.out.cell 3
          have zx := HXB.out.lt
          have zr := HRR.out.lt
          simp [putAll]
          go_wp2_with fail
          refine (KE.out _ (Below.refl _ _)).mono ?_
          rintro e wy ⟨rfl, hBy⟩
          have HLX := Lib.hid (below3 HLR.out hBy (Nat.le_refl _))
          clear x0 x1 x3 r0 r1 r3 zx zr hBy
          go_wp2_with fail
          refine (KA.out _).mono ?_
          rintro e wz ⟨rfl, hBz⟩
          have HLz := Lib.hid (below3 HLX.out hBz (Nat.le_refl _))
          clear hBz
          go_wp2_with fail
          go_ret
          exact ⟨rfl, HLz.out⟩
    · have hl1 : 0 < ln := by omega
      have hl2 : decide (0 < ln) = true := decide_eq_true hl1
      have hl3 : (0 : Int) < (ln : Int) := by omega
      have hl4 : ¬ (ln : Int) = 0 := by omega
      have hl5 : ¬ (ln : Int) = -1 := by omega
      have hav := HAT.out
      have hbv := HBY.out
      have htm := tmod_bd (n := (ln : Int)) hav.1 (by omega)
      obtain ⟨i, hti⟩ : ∃ i : Nat, ai.tmod (ln : Int) = (i : Int) := ⟨(ai.tmod (ln : Int)).toNat, by omega⟩
      have HTI := Lib.hid hti
      have hil : i < ln := by omega
      have hi2 : (i : Int) < (ln : Int) := by omega
      have hi0 : (0 : Int) ≤ (i : Int) := by omega
      have v1 : IntKind.i64.wrap ai = ai := IntWalk.i64_in _ (by omega)
      have v2 : IntKind.i64.wrap bi = bi := IntWalk.i64_in _ (by omega)
      have v3 : IntKind.i64.wrap (ai.tmod (ln : Int)) = (i : Int) := by rw [hti]; exact IntWalk.i64_in _ (by omega)
      have v4 : IntKind.i64.wrap (i : Int) = (i : Int) := IntWalk.i64_in _ (by omega)
      obtain ⟨s, hs⟩ : ∃ s, L[i]? = some s := ⟨_, List.getElem?_eq_getElem (by rw [← HLN.out]; exact hil)⟩
      have hso := HLS.out.2 s (List.mem_of_getElem? hs)
      unfold LdOk at hso
      obtain ⟨lb, lo, x, e1, hlb, hx, hcx⟩ := HIN3.out.load.at_ hil
      rw [hs] at hx
      cases hx
      obtain ⟨sc, hsc⟩ : ∃ z, z = s.secs := ⟨_, rfl⟩
      obtain ⟨pw, hpw⟩ : ∃ z, z = s.power := ⟨_, rfl⟩
      have c0 : w3.cell? ⟨lb, lo + i * 2, none⟩ = some (.int .i64 sc) := by rw [hsc]; simpa using hcx 0 _ rfl
      have c1 : w3.cell? ⟨lb, lo + i * 2 + 1, none⟩ = some (.int .i64 pw) := by rw [hpw]; simpa using hcx 1 _ rfl
      have HS1 : Hid (w4.cell? ⟨lb, lo + i * 2 + 1, none⟩ = some (.int .i64 pw)) := Lib.hid ((HI4.out.cell (p := ⟨lb, lo + i * 2 + 1, none⟩) hlb).trans c1)
      have HLB4 : Hid (lb < w4.heap.size) := Lib.hid (Nat.lt_of_lt_of_le hlb HI4.out.size)
      have HLB := Lib.hid hlb
      have HS := Lib.hid hs
      have HSO := Lib.hid hso
      have HSP : Hid (s = ⟨sc, pw⟩) := Lib.hid (by rw [hsc, hpw])
      rw [← hsc] at hso
      have hnb := tmod_bd (n := sc) hbv.1 (by omega)
      have v5 : ¬ sc = 0 := by omega
      have v6 : ¬ sc = -1 := by omega
      obtain ⟨n, hn⟩ : ∃ z, z = bi.tmod sc := ⟨_, rfl⟩
      have HNB : Hid (0 ≤ n ∧ n < sc ∧ 1 ≤ sc ∧ sc ≤ 40) := Lib.hid (by rw [hn]; omega)
      have v7 : bi.tmod sc = n := hn.symm
      have v8 : IntKind.i64.wrap n = n := IntWalk.i64_in _ (by omega)
      have zlb := hlb
      subst e1
      clear hcx hs hso hsc hpw htm hav hbv hnb hln0 c1 hn
      by_cases hn0 : 0 < n
      · have hn1 : decide (0 < n) = true := decide_eq_true hn0
        have HN0 := Lib.hid hn0
        go_wp2
        rw [← HW4.out, ← HRBE.out]
        clear c0 zlb hlb v1 v2 v3 v5 v6 v7 v8
        have hi4 := hi2
        refine wp_region_free10 12 (by kernel_rfl) [some 58, some 59, some 60, some 61, some 62, some 63, some 64, some 65, some 66, some 67, some 68, some 69, some 20] [[], [0], [], [], [], [], [4, 5], [6], [7], [3, 8], [9], [1, 2, 10, 1], [11, 11, 0, 1, 2, 3, 4, 5, 6, 7, 8, 9, 10, 11]] [(14, .slice (some ⟨lb, lo, none⟩) ln lc), (18, .int .i64 (i : Int)), (19, .int .i64 n)] (fun W γ => Below w4.heap.size w4 W ∧ γ 1 < W.heap.size) (spPhi w4.heap.size (some ⟨lb, lo, none⟩) ln lc lb lo i n pw L) (fun j _ γ => j = 11 → γ 0 = 0) (by kernel_rfl) (by kernel_rfl) rfl (by kernel_rfl) ?_ ?_ ⟨fun _ => 0, ⟨(Below.refl _ _).drew, by have := HBP4.out.lt; show 0 < _; simp; omega⟩, fun j _ _ => rfl⟩ ?_ ?_
        · intro z hz
          simp only [List.mem_cons, List.mem_nil_iff, or_false] at hz
          rcases hz with rfl | rfl | rfl
          all_goals exact ⟨by kernel_rfl, rfl⟩
        · intro i v W γ hi h
          rcases i with _ | _ | _ | _ | _ | _ | _ | _ | _ | _ | _ | _ | _ | i
          all_goals first | exact h | (simp at hi)
        · refine ⟨?_, ?_, ?_, ?_, ?_, ?_, ?_, ?_, ?_, ?_, ?_, ?_, ?_, trivial⟩
          all_goals
            intro a W γ ev hcc hff hfx hR hψ hpre
            simp only [List.mem_cons, List.mem_nil_iff, or_false, forall_eq, forall_eq_or_imp] at hfx
            obtain ⟨f0, f1, f2⟩ := hfx
            have HR := Lib.hid hR
            clear hR
            refine ⟨fun _ K hK => ?_, trivial⟩

          · clear hpre hψ
            go_simp
            exact hK _ _ γ HR.out (fun _ _ _ _ h => h) (fun _ _ _ h => h) rfl
          · have q0 : ev (.tmp 58) = _ := hpre 0 (by decide)
            have C := Lib.hid (clone_spns (some ⟨lb, lo, none⟩) ln lc L W (HIN4.out.load.next HR.out.1) (by omega))
            have HRW9 := HR
            clear hpre
            go_simp
            refine C.out.mono ?_
            rintro e w5 ⟨A, c, rfl, hrow, hB5, _⟩
            have hsz := hB5.size
            exact hK _ w5 γ ⟨below3 HRW9.out.1 hB5 (Nat.le_refl _), by have := HRW9.out.2; omega⟩ (fun j u _ _ h => spPhi_next hB5 h) (fun _ _ _ h => h) ⟨A, c, rfl, fun _ => ⟨row_low hrow HRW9.out.1.size, fun e => by have h1 := (World.ownsRow.lt hrow _ e).1; have h2 := HRW9.out.2; omega⟩⟩
          · clear hpre hψ
            go_simp
            exact hK _ _ γ HR.out (fun _ _ _ _ h => h) (fun _ _ _ h => h) rfl
          · clear hpre hψ
            go_simp
            exact hK _ _ γ HR.out (fun _ _ _ _ h => h) (fun _ _ _ h => h) rfl
          · clear hpre hψ
            go_simp
            exact hK _ _ γ HR.out (fun _ _ _ _ h => h) (fun _ _ _ h => h) rfl
          · clear hpre hψ
            go_simp
            exact hK _ _ γ HR.out (fun _ _ _ _ h => h) (fun _ _ _ h => h) rfl
          · have q0 : ev (.tmp 62) = _ := hpre 4 (by decide)
            have q1 : ev (.tmp 63) = _ := hpre 5 (by decide)
            clear hpre hψ
            go_simp
            exact hK _ _ γ HR.out (fun _ _ _ _ h => h) (fun _ _ _ h => h) rfl
          · have q0 : ev (.tmp 64) = _ := hpre 6 (by decide)
            clear hpre hψ
            go_simp
            exact hK _ _ γ HR.out (fun _ _ _ _ h => h) (fun _ _ _ h => h) rfl
          · have q0 : ev (.tmp 65) = _ := hpre 7 (by decide)
            have hzz : lb < W.heap.size := Nat.lt_of_lt_of_le HLB4.out HR.out.1.size
            have c1 : W.cell? ⟨lb, lo + i * 2 + 1, none⟩ = some (.int .i64 pw) := (HR.out.1.cell (p := ⟨lb, lo + i * 2 + 1, none⟩) HLB4.out).trans HS1.out
            clear hpre hψ
            go_simp
            exact hK _ _ γ HR.out (fun _ _ _ _ h => h) (fun _ _ _ h => h) rfl
          · have q0 : ev (.tmp 61) = _ := hpre 3 (by decide)
            have q1 : ev (.tmp 66) = _ := hpre 8 (by decide)
            clear hpre hψ
            go_simp
            exact hK _ _ γ HR.out (fun _ _ _ _ h => h) (fun _ _ _ h => h) rfl
          · have q0 : ev (.tmp 67) = _ := hpre 9 (by decide)
            clear hpre
            go_simp
            have hB5 : Below W.heap.size W (W.alloc (.cells #[.int .i64 n, .int .i64 pw] 37)) := (Below.refl _ _).alloc (Nat.le_refl _) _
            exact hK _ _ (fun k => if k = 1 then W.heap.size else γ k) ⟨below3 HR.out.1 hB5 (Nat.le_refl _), by show W.heap.size < _; simp⟩ (fun j u _ hj h => spPhi_new hB5 hj h) (fun _ j h1 h2 => h2) ⟨rfl, fun _ => heap_alloc_new W _⟩
          · have q0 : ev (.tmp 60) = _ := hpre 2 (by decide)
            have hγ : γ 0 = 0 := hψ rfl
            obtain ⟨A, c, q1, hA⟩ := hpre 1 (by decide)
            obtain ⟨q2, hB⟩ := hpre 10 (by decide)
            replace q1 : ev (.tmp 59) = _ := q1
            replace q2 : ev (.tmp 68) = _ := q2
            obtain ⟨hrow, hnb⟩ := hA hγ
            have C := Lib.hid (insert_any A ln c i (γ 1) w4.heap.size L ⟨n, pw⟩ W hrow HLN.out.symm hil (by omega) (hB hγ) hnb)
            have HRW9 := HR
            have HG9 := Lib.hid hγ
            clear hpre hrow hnb hA hB hγ
            go_simp
            refine C.out.mono ?_
            rintro e w5 ⟨g, c', rfl, hrow, hB5⟩
            exact hK _ w5 (fun k => if k = 0 then 1 else γ k) ⟨HRW9.out.1.trans hB5, by have h1 := hB5.size; have := HRW9.out.2; show γ 1 < _; exact Nat.lt_of_lt_of_le this h1⟩ (fun j u _ hj h => spPhi_ins HG9.out hj h) (fun _ j h1 h2 => fun e => absurd e h1) ⟨g, c', rfl, by simp, hrow⟩
          · obtain ⟨g, c, q0, hne, hrow⟩ := hpre 11 (by decide)
            replace q0 : ev (.tmp 69) = _ := q0
            clear hpre
            go_simp
            exact hK _ _ γ HR.out (fun _ _ _ _ h => h) (fun _ _ _ h => h) ⟨g, c, rfl, hne, hrow⟩
        · intro vs w' γ hvl hR hφ
          have q12 := hφ 12 (by decide)
          have HR := Lib.hid hR
          clear hφ hR
          match vs, hvl with
          | [y0, y1, y2, y3, y4, y5, y6, y7, y8, y9, y10, y11, y12], _ =>
          simp only [List.getD_cons_zero, List.getD_cons_succ] at q12
          obtain ⟨g, c, q12, _, hrow⟩ := q12
          replace q12 : y12 = _ := q12
          subst q12
          obtain ⟨w5, hw5⟩ : ∃ z, z = w' := ⟨_, rfl⟩
          have H45 : Hid (Below w4.heap.size w4 w') := Lib.hid HR.out.1
          rw [← hw5] at hrow H45 ⊢
          obtain ⟨L1, hL1⟩ : ∃ z, z = L.take i ++ (⟨n, pw⟩ : Spn) :: L.drop i := ⟨_, rfl⟩
          rw [← hL1] at hrow
          have hiL : i < L.length := by rw [← HLN.out]; exact hil
          have hl1l : L1.length = ln + 1 := by rw [hL1, List.length_append, List.length_take, List.length_cons, List.length_drop, ← HLN.out]; omega
          have hlt := World.ownsRow.lt hrow g rfl
          rw [← hl1l] at hrow
          obtain ⟨A', c', b', eA, hrw, hob⟩ := RowW.of_own hrow
          cases eA
          have eb : g = b' := by have := (hob (by rw [hl1l]; omega)).2; simpa [Value.ownBlock] using this
          subst eb
          have hat1 : L1[i + 1]? = some ⟨sc, pw⟩ := by rw [hL1, part_at hiL, HS.out, HSP.out]
          obtain ⟨_, _, hfz, hcl⟩ := hrw.at_ Spn.enc_len hat1
          have hset := hrw.set_ (x' := ⟨sc - n, pw⟩) (j := 0) (u := .int .i64 (sc - n)) Spn.enc_len hat1 (by decide) rfl
          rw [Nat.add_zero, hL1, part_set hiL] at hset
          obtain ⟨L2, hL2⟩ : ∃ z, z = L.take i ++ (⟨n, pw⟩ : Spn) :: ⟨sc - n, pw⟩ :: L.drop (i + 1) := ⟨_, rfl⟩
          rw [← hL2] at hset
          have HL2L : Hid (L2.length = ln + 1) := Lib.hid (by rw [hL2, List.length_append, List.length_take, List.length_cons, List.length_cons, List.length_drop, ← HLN.out]; omega)
          have HSEC : Hid (secsL L2 = secsL L) := Lib.hid (by
            rw [hL2]
            have := secsL_part (n := n.toNat) HS.out (by rw [HSP.out]; show ((n.toNat : Nat) : Int) ≤ sc; have := HNB.out; omega)
            rw [HSP.out] at this
            rw [← this, show ((n.toNat : Nat) : Int) = n by have := HNB.out; omega])
          have HLD2 : Hid (∀ s ∈ L2, LdOk s) := Lib.hid (by
            intro s hs
            rw [hL2] at hs
            have hsp := HSO.out
            rw [HSP.out] at hsp
            have hsp1 : 0 ≤ pw ∧ pw ≤ 255 := hsp.2.2
            have := HNB.out
            have := HN0.out
            rcases List.mem_append.1 hs with h | h
            · exact HLS.out.2 s (List.mem_of_mem_take h)
            · rcases List.mem_cons.1 h with rfl | h
              · exact ⟨by dsimp only; omega, by dsimp only; omega, hsp1.1, hsp1.2⟩
              · rcases List.mem_cons.1 h with rfl | h
                · exact ⟨by dsimp only; omega, by dsimp only; omega, hsp1.1, hsp1.2⟩
                · exact HLS.out.2 s (List.mem_of_mem_drop h))
          have hgl : w4.heap.size ≤ g := hlt.1
          have HGL := Lib.hid hgl
          have HSET : Hid (∀ W, W = w5.setCell ⟨g, (i + 1) * 2, none⟩ (.int .i64 (sc - n)) → ArgsIn W W.heap.size bA bn bs gA gn gs (some ⟨g, 0, none⟩) (ln + 1) L2 ∧ Below w4.heap.size w4 W) := Lib.hid (fun W hW => by
            have h4 : Below w4.heap.size w4 W := by rw [hW]; exact H45.out.setCell hgl _
            have hr : RowW W g 37 Spn.enc (some ⟨g, 0, none⟩) L2 := by rw [hW]; exact hset
            exact ⟨⟨HIN4.out.bat.next h4, HIN4.out.gen.next h4, hr.rd Spn.enc_len HL2L.out⟩, h4⟩)
          have t0 : w5.cell? ⟨g, (i + 1) * 2, none⟩ = some (.int .i64 sc) := by simpa using hcl 0 _ rfl
          have t1 : ∀ o, w5.frozen? ⟨g, o, none⟩ = false := hfz
          have t2 : g < w5.heap.size := hlt.2
          have HBP5 := Lib.hid (HBP4.out.below H45.out HBP4.out.lt)
          have b0 : w5.cell? ⟨bp, 0, none⟩ = some (.slice bA bn bc) := HBP5.out.cell 0
          have b1 : w5.cell? ⟨bp, 1, none⟩ = some (.slice gA gn gc) := HBP5.out.cell 1
          have b2 := HBP5.out.lt
          have hbg : ¬ bp = g := by have := HBP4.out.lt; omega
          have hgb : ¬ g = bp := fun e => hbg e.symm
          have v8 : IntKind.i64.wrap ((i : Int) + 1) = (i : Int) + 1 := IntWalk.i64_in _ (by omega)
          have v9 : ((i : Int) + 1).toNat = i + 1 := by omega
          have v10 : (0 : Int) ≤ (i : Int) + 1 := by omega
          have v11 : (i : Int) + 1 < (ln : Int) + 1 := by omega
          have v12 : IntKind.i64.wrap (sc - n) = sc - n := IntWalk.i64_in _ (by have := HNB.out; omega)
          clear hrow hL1 hlt hrw hob hat1 hfz hcl hset hL2 hgl HR hvl hw5 hl1l hn0 hiL
          simp [putAll]
          go_wp2_with fail
          obtain ⟨w6, hw6⟩ : ∃ z, z = w5.setCell ⟨g, (i + 1) * 2, none⟩ (.int .i64 (sc - n)) := ⟨_, rfl⟩
          obtain ⟨h6, h46⟩ := HSET.out w6 hw6
          rw [← hw6]
          refine (KR.out L2 (some ⟨g, 0, none⟩) (ln + 1) c _ (by rw [HPL.out]; exact run_same HSEC.out) ⟨OKA.out.nb, OKA.out.ng, by rw [HL2L.out]; omega, OKA.out.bat, OKA.out.gen, fun s hs => (by have h := HLD2.out s hs; unfold LdOk at h; exact ⟨by omega, by omega, by omega, by omega⟩), by rw [HSEC.out]; exact OKA.out.len⟩ h6 (HFR4.out.next h46)).mono ?_
          rintro e w7 ⟨g5, g6, rfl, hB7, hen7, hbu7⟩
          obtain ⟨rb2, hrb2⟩ : ∃ z, z = w7.heap.size := ⟨_, rfl⟩
          obtain ⟨w8, hw8⟩ : ∃ z, z = w7.alloc (.cells #[.int .i64 D, .slice (some ⟨g5, 0, none⟩) bn bn, .slice (some ⟨g6, 0, none⟩) gn gn, .int .i64 sv] 40) := ⟨_, rfl⟩
          have hi8 : Below w7.heap.size w7 w8 := by rw [hw8]; exact (Below.refl _ _).alloc (Nat.le_refl _) _
          have hk8 : Blk w8 rb2 40 #[.int .i64 D, .slice (some ⟨g5, 0, none⟩) bn bn, .slice (some ⟨g6, 0, none⟩) gn gn, .int .i64 sv] := by rw [hw8, hrb2]; exact heap_alloc_new w7 _
          have H47 := Lib.hid (below3 h46 hB7 (Nat.le_refl _))
          have H48 := Lib.hid (below3 H47.out hi8 (Nat.le_refl _))
          have HX8 := Lib.hid hk8
          have HEN8 := Lib.hid (hen7.below hi8 hen7.lt)
          have HBU8 := Lib.hid (hbu7.below hi8 hbu7.lt)
          have HR8 := Lib.hid (HRB.out.below H48.out HRB.out.lt)
          have r0 : w7.cell? ⟨rb, 0, none⟩ = some (.int .i64 D) := (HRB.out.below H47.out HRB.out.lt).cell 0
          have r1 : w7.cell? ⟨rb, 1, none⟩ = some (.slice (some ⟨g1, 0, none⟩) bn bn) := (HRB.out.below H47.out HRB.out.lt).cell 1
          have r3 : w7.cell? ⟨rb, 3, none⟩ = some (.int .i64 sv) := (HRB.out.below H47.out HRB.out.lt).cell 3
          have zr := (HRB.out.below H47.out HRB.out.lt).lt
          have KE := Lib.hid (fun W (hW : Below w8.heap.size w8 W) => by
            have k1 := Blk.rdI HEN8.out
            have k2 := Blk.rdI (HE1.out.below H48.out HE1.out.lt)
            rw [HEN.out.1] at k1 k2
            have h := Equal_any (some ⟨g5, 0, none⟩) (some ⟨g1, 0, none⟩) bn bn bn bn (energies Pl) (energies Pl) W (k1.next hW) (k2.next hW) (by have := HMD.out.1; have := HBN.out; omega) (by have := HMD.out.1; have := HBN.out; omega)
            rw [show sameL (energies Pl) (energies Pl) = true from decide_eq_true rfl] at h
            exact h)
          have KB := Lib.hid (fun W (hW : Below w8.heap.size w8 W) => by
            have k1 := Blk.rdI HBU8.out
            have k2 := Blk.rdI (HE2.out.below H48.out HE2.out.lt)
            rw [HEN.out.2] at k1 k2
            have h := Equal_any (some ⟨g6, 0, none⟩) (some ⟨g2, 0, none⟩) gn gn gn gn (burnts Pl) (burnts Pl) W (k1.next hW) (k2.next hW) (by have := HMD.out.2.1; have := HGN.out; omega) (by have := HMD.out.2.1; have := HGN.out; omega)
            rw [show sameL (burnts Pl) (burnts Pl) = true from decide_eq_true rfl] at h
            exact h)
          have HW8 := Lib.hid hw8
          have HRB2 := Lib.hid hrb2
          clear t0 t1 t2 b0 b1 b2 hbg hgb v8 v9 v10 v11 v12 hw6 h6 h46 hB7 hen7 hbu7 hrb2 hw8 hi8 hk8 HSET HSEC HLD2 HL2L H45 HGL HBP5 H47
          go_wp2_with fail
          rw [← HW8.out, ← HRB2.out]
          refine (KE.out _ (Below.refl _ _)).mono ?_
          rintro e w9 ⟨rfl, hB9⟩
          have HX9 := Lib.hid (HX8.out.below hB9 HX8.out.lt)
          have HR9 := Lib.hid (HR8.out.below hB9 HR8.out.lt)
          have H49 := Lib.hid (below3 H48.out hB9 (Nat.le_refl _))
          have H89 := Lib.hid hB9
          clear r0 r1 r3 zr hB9 HX8 HR8
          have x2 : w9.cell? ⟨rb2, 2, none⟩ = some (.slice (some ⟨g6, 0, none⟩) gn gn) := HX9.out.cell 2
          have r2 : w9.cell? ⟨rb, 2, none⟩ = some (.slice (some ⟨g2, 0, none⟩) gn gn) := HR9.out.cell 2
          have zx := HX9.out.lt
          have zr := HR9.out.lt
          go_wp2_with fail
          refine (KB.out _ H89.out).mono ?_
          rintro e w10 ⟨rfl, hB10⟩
          have HR10 := Lib.hid (HR9.out.below hB10 HR9.out.lt)
          have H410 := Lib.hid (below3 H49.out hB10 (Nat.le_refl _))
          clear x2 r2 zx zr hB10 HX9 HR9 H49 H89 KE KB HEN8 HBU8 H48 HW8
          have r0 : w10.cell? ⟨rb, 0, none⟩ = some (.int .i64 D) := HR10.out.cell 0
          have zr := HR10.out.lt
          have HLX := Lib.hid (below3 HL4.out H410.out (Nat.le_refl _))
          by_cases hDD : D < 0
          · have hd1 : decide (D < 0) = true := decide_eq_true hDD
            clear hDD
            go_wp2_with fail
            refine (KA.out _).mono ?_
            rintro e wz ⟨rfl, hBz⟩
            have HLz := Lib.hid (below3 HLX.out hBz (Nat.le_refl _))
            clear hBz
            go_wp2_with fail
            go_ret
            exact ⟨rfl, HLz.out⟩
          · have hd1 : decide (D < 0) = false := decide_eq_false hDD
            have HDD := Lib.hid hDD
            clear hDD
            go_wp2
            clear r0 zr HLX HR10
            obtain ⟨wX, hwX⟩ : ∃ z, z = w10 := ⟨_, rfl⟩
            have htw : Below w4.heap.size w4 wX := by rw [hwX]; exact H410.out
            have HINX := Lib.hid (HIN4.out.next htw)
            have HFRX := Lib.hid (HFR4.out.next htw)
            have HBPX := Lib.hid (HBP4.out.below htw HBP4.out.lt)
            have H4X := Lib.hid (H44.out.next htw)
            have HRX := Lib.hid (HRB.out.below htw HRB.out.lt)
            have HE1X := Lib.hid (HE1.out.below htw HE1.out.lt)
            have HLX := Lib.hid (below3 HL4.out htw (Nat.le_refl _))
            rw [← hwX]
            clear hwX htw
            refine wp_region_free10 13 (by kernel_rfl) [some 124, some 125, some 126, some 127, some 128, some 129, some 130, some 131, some 123, some 132, some 133, some 23, none, some 17] [[], [], [1], [], [3, 2], [2, 4, 4], [], [0, 5, 6, 5], [7], [8], [8], [], [11, 9, 7, 0, 1, 2, 3, 4, 5, 6, 7, 8, 9, 11], [10, 12, 0, 1, 2, 3, 4, 5, 6, 7, 8, 9, 10, 11, 12]] [(13, .pointer (some ⟨bp, 0, none⟩)), (14, .slice (some ⟨lb, lo, none⟩) ln lc), (5, .slice A4 n4 c4), (15, .slice fA gn fc)] (fun W _ => Below wX.heap.size wX W) (stPhi wX.heap.size (.agg #[.slice bA bn bc, .slice gA gn gc]) (some ⟨lb, lo, none⟩) ln lc L (.slice A4 n4 c4) (.slice fA gn fc) D sv bn gn (energies Pl)) (fun i _ γ => (i = 5 → γ 0 = 0) ∧ (i = 12 → γ 2 = 0)) (by kernel_rfl) (by kernel_rfl) rfl (by kernel_rfl) ?_ ?_ ⟨fun _ => 0, (Below.refl _ _).drew, fun i _ => ⟨fun _ => rfl, fun _ => rfl⟩⟩ ?_ ?_
            · intro z hz
              simp only [List.mem_cons, List.mem_nil_iff, or_false] at hz
              rcases hz with rfl | rfl | rfl | rfl
              all_goals exact ⟨by kernel_rfl, rfl⟩
            · intro i v W γ hi h
              rcases i with _ | _ | _ | _ | _ | _ | _ | _ | _ | _ | _ | _ | _ | _ | i
              all_goals first | exact h | (simp at hi)
            · refine ⟨?_, ?_, ?_, ?_, ?_, ?_, ?_, ?_, ?_, ?_, ?_, ?_, ?_, ?_, trivial⟩
              all_goals
                intro a W γ ev hcc hff hfx hR hψ hpre
                simp only [List.mem_cons, List.mem_nil_iff, or_false, forall_eq, forall_eq_or_imp] at hfx
                obtain ⟨f0, f1, f2, f3⟩ := hfx
                have HR := Lib.hid hR
                clear hR
                refine ⟨fun _ K hK => ?_, trivial⟩

              · have c0 : W.cell? ⟨bp, 0, none⟩ = some (.slice bA bn bc) := ((HR.out : Below wX.heap.size wX W).cell (p := ⟨bp, 0, none⟩) HBPX.out.lt).trans (HBPX.out.cell 0)
                have c1 : W.cell? ⟨bp, 1, none⟩ = some (.slice gA gn gc) := ((HR.out : Below wX.heap.size wX W).cell (p := ⟨bp, 1, none⟩) HBPX.out.lt).trans (HBPX.out.cell 1)
                have hzz : bp < W.heap.size := Nat.lt_of_lt_of_le HBPX.out.lt (HR.out : Below wX.heap.size wX W).size
                clear hpre hψ
                go_simp
                exact hK _ _ γ HR.out (fun _ _ _ _ h => h) (fun _ _ _ h => h) rfl
              · clear hpre hψ
                go_simp
                exact hK _ _ γ HR.out (fun _ _ _ _ h => h) (fun _ _ _ h => h) rfl
              · have q0 : ev (.tmp 125) = _ := hpre 1 (by decide)
                have C := Lib.hid (clone_spns (some ⟨lb, lo, none⟩) ln lc L W (HINX.out.load.next (HR.out : Below wX.heap.size wX W)) (by omega))
                have HRW9 : Hid (Below wX.heap.size wX W) := HR
                clear hpre
                go_simp
                refine C.out.mono ?_
                rintro e w5 ⟨A, c, rfl, hrow, hB5, _⟩
                exact hK _ w5 γ (below3 HRW9.out hB5 (Nat.le_refl _)) (fun j u _ _ h => stPhi_next hB5 rfl rfl (fun _ => rfl) h) (fun _ _ _ h => h) ⟨A, c, rfl, fun _ => row_low hrow HRW9.out.size⟩
              · clear hpre hψ
                go_simp
                exact hK _ _ γ HR.out (fun _ _ _ _ h => h) (fun _ _ _ h => h) rfl
              · have q0 : ev (.tmp 127) = _ := hpre 3 (by decide)
                have C := Lib.hid (KL4.out W (H4X.out.next (HR.out : Below wX.heap.size wX W)))
                have HRW9 : Hid (Below wX.heap.size wX W) := HR
                clear hpre
                go_simp
                refine C.out.mono ?_
                rintro e w5 ⟨A, c, M, rfl, hB5, hrow, hM1, hM2⟩
                exact hK _ w5 γ (below3 HRW9.out hB5 (Nat.le_refl _)) (fun j u _ _ h => stPhi_next hB5 rfl rfl (fun _ => rfl) h) (fun _ _ _ h => h) ⟨A, c, M, rfl, fun e => own_nil (by rw [← e]; exact hrow), hM1, hM2, fun _ => row_rd Spn.enc_len rfl hrow⟩
              · have hγ : γ 0 = 0 := hψ.1 rfl
                obtain ⟨A, c, q0, hA⟩ := hpre 2 (by decide)
                obtain ⟨A2, c2, M, q1, hmc, hm1, hm2, hM⟩ := hpre 4 (by decide)
                have hrow := hA hγ
                have hrd := hM hγ
                replace q0 : ev (.tmp 126) = _ := q0
                replace q1 : ev (.tmp 128) = _ := q1
                have hlow := (HR.out : Below wX.heap.size wX W)
                cases A2 with
                | none =>
                  have hm0 : M = [] := by
                    rcases Nat.eq_zero_or_pos M.length with h | h
                    · exact List.eq_nil_of_length_eq_zero h
                    · obtain ⟨_, _, e, _⟩ := hrd.2 h
                      cases e
                  subst hm0
                  obtain rfl := hmc rfl
                  have hrun := run_append_owned_none (P := Try.prog) (w := W) wX.heap.size 28 28 37 i0 2 Try.underlying28 hi.out.1 (.slice A ln c) ln (L.flatMap Spn.enc) hrow
                  unfold execOp
                  simp only [resolve, invoke, builtin, Sem.run_bind, Sem.run_pure, Result.andThen_ok, List.map_toArray, List.map_cons, List.map_nil, List.length_nil, q0, q1, hrun]
                  exact hK _ W (fun i => if i = 0 then 1 else γ i) hlow (fun j u hj hne h => stPhi_1 hγ hne (World.grownBy.refl W _) hrow h) (fun _ j h1 h2 => ⟨fun e => absurd e h1, fun e => by simpa using h2.2 e⟩) ⟨A, c, [], rfl, by simp, hm1, hm2, by simpa using hrow⟩
                | some ad =>
                  obtain ⟨v', W', hr, h2, h3, _, _⟩ := run_append_own_at (P := Try.prog) W wX.heap.size 28 28 37 i0 (.agg #[.int .i64 0, .int .i64 0]) 2 16 Try.underlying28 hi.out.1 hi.out.2.1 hi.out.2.2.1 hi.out.2.2.2 rfl (by decide) (.slice A ln c) ln (L.flatMap Spn.enc) hrow ad M.length c2 (M.flatMap Spn.enc) (spn_len M) (fun j u hj => hrd.news (fun _ _ => rfl) j u hj) (spn_one M) (by simp only [maxLen]; omega) (by omega) hlow.size
                  obtain ⟨A', c', e'⟩ := row_slice h2
                  subst e'
                  unfold execOp
                  simp only [resolve, invoke, builtin, Sem.run_bind, Sem.run_pure, Result.andThen_ok, List.map_toArray, List.map_cons, List.map_nil, q0, q1, hr]
                  exact hK _ W' (fun i => if i = 0 then 1 else γ i) (hlow.grown h3 hlow.size (fun r e => (World.ownsRow.lt hrow r e).1)) (fun j u hj hne h => stPhi_1 hγ hne h3 hrow h) (fun _ j h1 h2 => ⟨fun e => absurd e h1, fun e => by simpa using h2.2 e⟩) ⟨A', c', M, rfl, by simp, hm1, hm2, by rw [List.flatMap_append]; exact h2⟩
              · clear hpre hψ
                go_simp
                exact hK _ _ γ HR.out (fun _ _ _ _ h => h) (fun _ _ _ h => h) rfl
              · have q0 : ev (.tmp 124) = _ := hpre 0 (by decide)
                have q1 : ev (.tmp 130) = _ := hpre 6 (by decide)
                obtain ⟨A, c, M, q2, hne, hm1, hm2, hrow⟩ := hpre 5 (by decide)
                replace q2 : ev (.tmp 129) = _ := q2
                have HRW9 : Hid (Below wX.heap.size wX W) := HR
                have hrd := row_rd Spn.enc_len (xs := L ++ M) (by rw [List.length_append, ← HLN.out]) hrow
                have C := Lib.hid (KR.out (L ++ M) A (ln + M.length) c W (by rw [HPL.out]; exact run_more (by have := HDD.out; have := HD.out; rw [HPL.out] at this; omega)) (args_more OKA.out HLS.out.1 HLS.out.2 (by omega) hm2) ⟨HINX.out.bat.next HRW9.out, HINX.out.gen.next HRW9.out, hrd⟩ (HFRX.out.next HRW9.out))
                clear hpre hrow hrd
                go_simp
                refine C.out.mono ?_
                rintro e w5 ⟨g3, g4, rfl, hB5, hen, hbu⟩
                exact hK _ w5 γ (below3 HRW9.out hB5 (Nat.le_refl _)) (fun j u _ _ h => stPhi_next hB5 rfl rfl (fun _ => rfl) h) (fun _ _ _ h => h) ⟨g3, g4, rfl, hne, hen⟩
              · obtain ⟨g3, g4, q0, hne, hen⟩ := hpre 7 (by decide)
                replace q0 : ev (.tmp 131) = _ := q0
                clear hpre
                go_simp
                exact hK _ _ γ HR.out (fun _ _ _ _ h => h) (fun _ _ _ h => h) ⟨g3, g4, rfl, hne, hen⟩
              · obtain ⟨g3, g4, q0, hne, hen⟩ := hpre 8 (by decide)
                replace q0 : ev (.tmp 123) = _ := q0
                clear hpre
                go_simp
                exact hK _ _ γ HR.out (fun _ _ _ _ h => h) (fun _ _ _ h => h) ⟨g3, g4, rfl, hne, hen⟩
              · obtain ⟨g3, g4, q0, hne, hen⟩ := hpre 8 (by decide)
                replace q0 : ev (.tmp 123) = _ := q0
                clear hpre
                go_simp
                exact hK _ _ γ HR.out (fun _ _ _ _ h => h) (fun _ _ _ h => h) rfl
              · clear hpre
                go_simp
                have hB5 : Below W.heap.size W (W.alloc (.cells #[.int .i64 0, .slice none 0 0, .slice none 0 0, .int .i64 0] 40)) := (Below.refl _ _).alloc (Nat.le_refl _) _
                exact hK _ _ (fun i => if i = 1 then W.heap.size else γ i) (below3 (HR.out : Below wX.heap.size wX W) hB5 (Nat.le_refl _)) (fun j u hj hne h => stPhi_next hB5 rfl rfl (fun e => e.elim (fun e => absurd e hne) (fun e => by subst e; exact absurd (by decide) hj)) h) (fun _ j h1 h2 => h2) ⟨rfl, Or.inr ⟨(HR.out : Below wX.heap.size wX W).size, heap_alloc_new W _⟩⟩
              · obtain ⟨g3, g4, q0, hne, hen⟩ := hpre 9 (by decide)
                obtain ⟨q1, hx⟩ := hpre 11 (by decide)
                replace q0 : ev (.tmp 132) = _ := q0
                replace q1 : ev (.tmp 23) = _ := q1
                have h2 : γ 2 = 0 := hψ.2 rfl
                obtain ⟨x1, x2⟩ := hx.resolve_left (by omega)
                obtain ⟨xb, hxb⟩ : ∃ z, z = γ 1 := ⟨_, rfl⟩
                rw [← hxb] at q1 x1 x2
                have XB := Lib.hid x2
                have HRW9 : Hid (Below wX.heap.size wX W) := HR
                have X1 := Lib.hid x1
                have HXB := Lib.hid hxb
                have HEN9 := Lib.hid hen
                have HNE9 := Lib.hid hne
                have hzz := x2.lt
                have d0 : W.cell? ⟨xb, 0, none⟩ = some (.int .i64 0) := x2.cell 0
                have d1 : W.cell? ⟨xb, 1, none⟩ = some (.slice none 0 0) := x2.cell 1
                have d2 : W.cell? ⟨xb, 2, none⟩ = some (.slice none 0 0) := x2.cell 2
                have d3 : W.cell? ⟨xb, 3, none⟩ = some (.int .i64 0) := x2.cell 3
                have fz : ∀ o, W.frozen? ⟨xb, o, none⟩ = false := fun o => x2.frozen o
                clear x1 x2 hpre hx hxb hen hne h2
                go_simp
                refine hK undef _ (fun i => if i = 2 then 1 else γ i) ?_ (fun j u h1 h2 h3 => stPhi_2 HNE9.out h2 (by rw [← HXB.out]; exact XB.out) ?_ ?_ h3) (fun _ j h1 h2 => ⟨fun e => by simpa using h2.1 e, fun e => absurd e h1⟩) ⟨rfl, g3, g4, ?_, ?_⟩
                · repeat' (first | exact HRW9.out | refine Below.setCell ?_ X1.out _)
                · intro b t ds ht hb
                  have hne : b ≠ xb := fun e => ht (by subst e; have := hb.symm.trans XB.out; simp only [Option.some.injEq, Obj.cells.injEq] at this; exact this.2.1)
                  exact (((hb.far hne _).far hne _).far hne _).far hne _
                · intro v k xs hr
                  have hne : v.ownBlock ≠ some xb := (own_ne hr XB.out (by decide)).symm
                  exact (((hr.kept (grown_set _ _ _ _) (Or.inr hne)).kept (grown_set _ _ _ _) (Or.inr hne)).kept (grown_set _ _ _ _) (Or.inr hne)).kept (grown_set _ _ _ _) (Or.inr hne)
                · show Blk _ (γ 1) _ _
                  rw [← HXB.out]
                  exact (((XB.out.set_ 0 _).set_ 1 _).set_ 2 _).set_ 3 _
                · have hne : g3 ≠ xb := blk_ne HEN9.out XB.out (by decide)
                  exact (((HEN9.out.far hne _).far hne _).far hne _).far hne _
              · have q0 : ev (.tmp 133) = _ := hpre 10 (by decide)
                clear hpre hψ
                go_simp
                exact hK _ _ γ HR.out (fun _ _ _ _ h => h) (fun _ _ _ h => h) rfl
            · intro vs w' γ hvl hR hφ
              have q11 := hφ 11 (by decide)
              obtain ⟨_, g3, g4, hx17, hen⟩ := hφ 12 (by decide)
              have q13 := hφ 13 (by decide)
              have HR := Lib.hid hR
              clear hφ hR
              match vs, hvl with
              | [y0, y1, y2, y3, y4, y5, y6, y7, y8, y9, y10, y11, y12, y13], _ =>
              simp only [List.getD_cons_zero, List.getD_cons_succ] at q11 q13
              replace q11 : y11 = _ := q11.1
              replace q13 : y13 = .int .i64 0 := q13
              obtain ⟨xb, hxb⟩ : ∃ z, z = γ 1 := ⟨_, rfl⟩
              rw [← hxb] at q11 hx17
              subst q11
              subst q13
              have HRL : Hid (Below wX.heap.size wX w') := HR
              have HXB := Lib.hid hx17
              have HEX := Lib.hid hen
              have HRR := Lib.hid (HRX.out.below HRL.out HRX.out.lt)
              have HE1R := Lib.hid (HE1X.out.below HRL.out HE1X.out.lt)
              have HLR := Lib.hid (below3 HLX.out HRL.out (Nat.le_refl _))
              have KE := Lib.hid (fun W (hW : Below w'.heap.size w' W) => by
                have r1 := Blk.rdI HEX.out
                have r2 := Blk.rdI HE1R.out
                rw [HEN.out.1] at r1 r2
                have h := Equal_any (some ⟨g3, 0, none⟩) (some ⟨g1, 0, none⟩) bn bn bn bn (energies Pl) (energies Pl) W (r1.next hW) (r2.next hW) (by have := HMD.out.1; have := HBN.out; omega) (by have := HMD.out.1; have := HBN.out; omega)
                rw [show sameL (energies Pl) (energies Pl) = true from decide_eq_true rfl] at h
                exact h)
              clear hx17 hen hxb hvl HR HRX HE1X HINX HFRX HBPX H4X
              have x0 : w'.cell? ⟨xb, 0, none⟩ = some (.int .i64 D) := HXB.out.cell 0
              have x1 : w'.cell? ⟨xb, 1, none⟩ = some (.slice (some ⟨g3, 0, none⟩) bn bn) := HXB.out.cell 1
              have x3 : w'.cell? ⟨xb, 3, none⟩ = some (.int .i64 sv) := HXB.out.cell 3
              have r0 : w'.cell? ⟨rb, 0, none⟩ = some (.int .i64 D) := HRR.out.cell 0
              have r1 : w'.cell? ⟨rb, 1, none⟩ = some (.slice (some ⟨g1, 0, none⟩) bn bn) := HRR.out.cell 1
              have r3 : w'.cell? ⟨rb, 3, none⟩ = some (.int .i64 sv) := HRR.out.cell 3
              have zx := HXB.out.lt
              have zr := HRR.out.lt
              simp [putAll]
              go_wp2_with fail
              refine (KE.out _ (Below.refl _ _)).mono ?_
              rintro e wy ⟨rfl, hBy⟩
              have HLX := Lib.hid (below3 HLR.out hBy (Nat.le_refl _))
              clear x0 x1 x3 r0 r1 r3 zx zr hBy
              go_wp2_with fail
              refine (KA.out _).mono ?_
              rintro e wz ⟨rfl, hBz⟩
              have HLz := Lib.hid (below3 HLX.out hBz (Nat.le_refl _))
              clear hBz
              go_wp2_with fail
              go_ret
              exact ⟨rfl, HLz.out⟩
      · have hn1 : decide (0 < n) = false := decide_eq_false hn0
        have hn2 : ¬ (0 : Int) < n := hn0
        by_cases hDD : D < 0
        · have hd1 : decide (D < 0) = true := decide_eq_true hDD
          clear hDD
          go_wp2_with fail
          rw [← HW4.out]
          have HLX := HL4
          refine (KA.out _).mono ?_
          rintro e wz ⟨rfl, hBz⟩
          have HLz := Lib.hid (below3 HLX.out hBz (Nat.le_refl _))
          clear hBz
          go_wp2_with fail
          go_ret
          exact ⟨rfl, HLz.out⟩
        · have hd1 : decide (D < 0) = false := decide_eq_false hDD
          have HDD := Lib.hid hDD
          clear hDD
          go_wp2
          rw [← HW4.out, ← HRBE.out]
          clear c0 zlb hlb v1 v2 v3 v5 v6 v7 v8
          obtain ⟨wX, hwX⟩ : ∃ z, z = w4 := ⟨_, rfl⟩
          have htw : Below w4.heap.size w4 wX := by rw [hwX]; exact Below.refl _ _
          have HINX := Lib.hid (HIN4.out.next htw)
          have HFRX := Lib.hid (HFR4.out.next htw)
          have HBPX := Lib.hid (HBP4.out.below htw HBP4.out.lt)
          have H4X := Lib.hid (H44.out.next htw)
          have HRX := Lib.hid (HRB.out.below htw HRB.out.lt)
          have HE1X := Lib.hid (HE1.out.below htw HE1.out.lt)
          have HLX := Lib.hid (below3 HL4.out htw (Nat.le_refl _))
          rw [← hwX]
          clear hwX htw
          refine wp_region_free10 13 (by kernel_rfl) [some 124, some 125, some 126, some 127, some 128, some 129, some 130, some 131, some 123, some 132, some 133, some 23, none, some 17] [[], [], [1], [], [3, 2], [2, 4, 4], [], [0, 5, 6, 5], [7], [8], [8], [], [11, 9, 7, 0, 1, 2, 3, 4, 5, 6, 7, 8, 9, 11], [10, 12, 0, 1, 2, 3, 4, 5, 6, 7, 8, 9, 10, 11, 12]] [(13, .pointer (some ⟨bp, 0, none⟩)), (14, .slice (some ⟨lb, lo, none⟩) ln lc), (5, .slice A4 n4 c4), (15, .slice fA gn fc)] (fun W _ => Below wX.heap.size wX W) (stPhi wX.heap.size (.agg #[.slice bA bn bc, .slice gA gn gc]) (some ⟨lb, lo, none⟩) ln lc L (.slice A4 n4 c4) (.slice fA gn fc) D sv bn gn (energies Pl)) (fun i _ γ => (i = 5 → γ 0 = 0) ∧ (i = 12 → γ 2 = 0)) (by kernel_rfl) (by kernel_rfl) rfl (by kernel_rfl) ?_ ?_ ⟨fun _ => 0, (Below.refl _ _).drew, fun i _ => ⟨fun _ => rfl, fun _ => rfl⟩⟩ ?_ ?_
          · intro z hz
            simp only [List.mem_cons, List.mem_nil_iff, or_false] at hz
            rcases hz with rfl | rfl | rfl | rfl
            all_goals exact ⟨by kernel_rfl, rfl⟩
          · intro i v W γ hi h
            rcases i with _ | _ | _ | _ | _ | _ | _ | _ | _ | _ | _ | _ | _ | _ | i
            all_goals first | exact h | (simp at hi)
          · refine ⟨?_, ?_, ?_, ?_, ?_, ?_, ?_, ?_, ?_, ?_, ?_, ?_, ?_, ?_, trivial⟩
            all_goals
              intro a W γ ev hcc hff hfx hR hψ hpre
              simp only [List.mem_cons, List.mem_nil_iff, or_false, forall_eq, forall_eq_or_imp] at hfx
              obtain ⟨f0, f1, f2, f3⟩ := hfx
              have HR := Lib.hid hR
              clear hR
              refine ⟨fun _ K hK => ?_, trivial⟩

            · have c0 : W.cell? ⟨bp, 0, none⟩ = some (.slice bA bn bc) := ((HR.out : Below wX.heap.size wX W).cell (p := ⟨bp, 0, none⟩) HBPX.out.lt).trans (HBPX.out.cell 0)
              have c1 : W.cell? ⟨bp, 1, none⟩ = some (.slice gA gn gc) := ((HR.out : Below wX.heap.size wX W).cell (p := ⟨bp, 1, none⟩) HBPX.out.lt).trans (HBPX.out.cell 1)
              have hzz : bp < W.heap.size := Nat.lt_of_lt_of_le HBPX.out.lt (HR.out : Below wX.heap.size wX W).size
              clear hpre hψ
              go_simp
              exact hK _ _ γ HR.out (fun _ _ _ _ h => h) (fun _ _ _ h => h) rfl
            · clear hpre hψ
              go_simp
              exact hK _ _ γ HR.out (fun _ _ _ _ h => h) (fun _ _ _ h => h) rfl
            · have q0 : ev (.tmp 125) = _ := hpre 1 (by decide)
              have C := Lib.hid (clone_spns (some ⟨lb, lo, none⟩) ln lc L W (HINX.out.load.next (HR.out : Below wX.heap.size wX W)) (by omega))
              have HRW9 : Hid (Below wX.heap.size wX W) := HR
              clear hpre
              go_simp
              refine C.out.mono ?_
              rintro e w5 ⟨A, c, rfl, hrow, hB5, _⟩
              exact hK _ w5 γ (below3 HRW9.out hB5 (Nat.le_refl _)) (fun j u _ _ h => stPhi_next hB5 rfl rfl (fun _ => rfl) h) (fun _ _ _ h => h) ⟨A, c, rfl, fun _ => row_low hrow HRW9.out.size⟩
            · clear hpre hψ
              go_simp
              exact hK _ _ γ HR.out (fun _ _ _ _ h => h) (fun _ _ _ h => h) rfl
            · have q0 : ev (.tmp 127) = _ := hpre 3 (by decide)
              have C := Lib.hid (KL4.out W (H4X.out.next (HR.out : Below wX.heap.size wX W)))
              have HRW9 : Hid (Below wX.heap.size wX W) := HR
              clear hpre
              go_simp
              refine C.out.mono ?_
              rintro e w5 ⟨A, c, M, rfl, hB5, hrow, hM1, hM2⟩
              exact hK _ w5 γ (below3 HRW9.out hB5 (Nat.le_refl _)) (fun j u _ _ h => stPhi_next hB5 rfl rfl (fun _ => rfl) h) (fun _ _ _ h => h) ⟨A, c, M, rfl, fun e => own_nil (by rw [← e]; exact hrow), hM1, hM2, fun _ => row_rd Spn.enc_len rfl hrow⟩
            · have hγ : γ 0 = 0 := hψ.1 rfl
              obtain ⟨A, c, q0, hA⟩ := hpre 2 (by decide)
              obtain ⟨A2, c2, M, q1, hmc, hm1, hm2, hM⟩ := hpre 4 (by decide)
              have hrow := hA hγ
              have hrd := hM hγ
              replace q0 : ev (.tmp 126) = _ := q0
              replace q1 : ev (.tmp 128) = _ := q1
              have hlow := (HR.out : Below wX.heap.size wX W)
              cases A2 with
              | none =>
                have hm0 : M = [] := by
                  rcases Nat.eq_zero_or_pos M.length with h | h
                  · exact List.eq_nil_of_length_eq_zero h
                  · obtain ⟨_, _, e, _⟩ := hrd.2 h
                    cases e
                subst hm0
                obtain rfl := hmc rfl
                have hrun := run_append_owned_none (P := Try.prog) (w := W) wX.heap.size 28 28 37 i0 2 Try.underlying28 hi.out.1 (.slice A ln c) ln (L.flatMap Spn.enc) hrow
                unfold execOp
                simp only [resolve, invoke, builtin, Sem.run_bind, Sem.run_pure, Result.andThen_ok, List.map_toArray, List.map_cons, List.map_nil, List.length_nil, q0, q1, hrun]
                exact hK _ W (fun i => if i = 0 then 1 else γ i) hlow (fun j u hj hne h => stPhi_1 hγ hne (World.grownBy.refl W _) hrow h) (fun _ j h1 h2 => ⟨fun e => absurd e h1, fun e => by simpa using h2.2 e⟩) ⟨A, c, [], rfl, by simp, hm1, hm2, by simpa using hrow⟩
              | some ad =>
                obtain ⟨v', W', hr, h2, h3, _, _⟩ := run_append_own_at (P := Try.prog) W wX.heap.size 28 28 37 i0 (.agg #[.int .i64 0, .int .i64 0]) 2 16 Try.underlying28 hi.out.1 hi.out.2.1 hi.out.2.2.1 hi.out.2.2.2 rfl (by decide) (.slice A ln c) ln (L.flatMap Spn.enc) hrow ad M.length c2 (M.flatMap Spn.enc) (spn_len M) (fun j u hj => hrd.news (fun _ _ => rfl) j u hj) (spn_one M) (by simp only [maxLen]; omega) (by omega) hlow.size
                obtain ⟨A', c', e'⟩ := row_slice h2
                subst e'
                unfold execOp
                simp only [resolve, invoke, builtin, Sem.run_bind, Sem.run_pure, Result.andThen_ok, List.map_toArray, List.map_cons, List.map_nil, q0, q1, hr]
                exact hK _ W' (fun i => if i = 0 then 1 else γ i) (hlow.grown h3 hlow.size (fun r e => (World.ownsRow.lt hrow r e).1)) (fun j u hj hne h => stPhi_1 hγ hne h3 hrow h) (fun _ j h1 h2 => ⟨fun e => absurd e h1, fun e => by simpa using h2.2 e⟩) ⟨A', c', M, rfl, by simp, hm1, hm2, by rw [List.flatMap_append]; exact h2⟩
            · clear hpre hψ
              go_simp
              exact hK _ _ γ HR.out (fun _ _ _ _ h => h) (fun _ _ _ h => h) rfl
            · have q0 : ev (.tmp 124) = _ := hpre 0 (by decide)
              have q1 : ev (.tmp 130) = _ := hpre 6 (by decide)
              obtain ⟨A, c, M, q2, hne, hm1, hm2, hrow⟩ := hpre 5 (by decide)
              replace q2 : ev (.tmp 129) = _ := q2
              have HRW9 : Hid (Below wX.heap.size wX W) := HR
              have hrd := row_rd Spn.enc_len (xs := L ++ M) (by rw [List.length_append, ← HLN.out]) hrow
              have C := Lib.hid (KR.out (L ++ M) A (ln + M.length) c W (by rw [HPL.out]; exact run_more (by have := HDD.out; have := HD.out; rw [HPL.out] at this; omega)) (args_more OKA.out HLS.out.1 HLS.out.2 (by omega) hm2) ⟨HINX.out.bat.next HRW9.out, HINX.out.gen.next HRW9.out, hrd⟩ (HFRX.out.next HRW9.out))
              clear hpre hrow hrd
              go_simp
              refine C.out.mono ?_
              rintro e w5 ⟨g3, g4, rfl, hB5, hen, hbu⟩
              exact hK _ w5 γ (below3 HRW9.out hB5 (Nat.le_refl _)) (fun j u _ _ h => stPhi_next hB5 rfl rfl (fun _ => rfl) h) (fun _ _ _ h => h) ⟨g3, g4, rfl, hne, hen⟩
            · obtain ⟨g3, g4, q0, hne, hen⟩ := hpre 7 (by decide)
              replace q0 : ev (.tmp 131) = _ := q0
              clear hpre
              go_simp
              exact hK _ _ γ HR.out (fun _ _ _ _ h => h) (fun _ _ _ h => h) ⟨g3, g4, rfl, hne, hen⟩
            · obtain ⟨g3, g4, q0, hne, hen⟩ := hpre 8 (by decide)
              replace q0 : ev (.tmp 123) = _ := q0
              clear hpre
              go_simp
              exact hK _ _ γ HR.out (fun _ _ _ _ h => h) (fun _ _ _ h => h) ⟨g3, g4, rfl, hne, hen⟩
            · obtain ⟨g3, g4, q0, hne, hen⟩ := hpre 8 (by decide)
              replace q0 : ev (.tmp 123) = _ := q0
              clear hpre
              go_simp
              exact hK _ _ γ HR.out (fun _ _ _ _ h => h) (fun _ _ _ h => h) rfl
            · clear hpre
              go_simp
              have hB5 : Below W.heap.size W (W.alloc (.cells #[.int .i64 0, .slice none 0 0, .slice none 0 0, .int .i64 0] 40)) := (Below.refl _ _).alloc (Nat.le_refl _) _
              exact hK _ _ (fun i => if i = 1 then W.heap.size else γ i) (below3 (HR.out : Below wX.heap.size wX W) hB5 (Nat.le_refl _)) (fun j u hj hne h => stPhi_next hB5 rfl rfl (fun e => e.elim (fun e => absurd e hne) (fun e => by subst e; exact absurd (by decide) hj)) h) (fun _ j h1 h2 => h2) ⟨rfl, Or.inr ⟨(HR.out : Below wX.heap.size wX W).size, heap_alloc_new W _⟩⟩
            · obtain ⟨g3, g4, q0, hne, hen⟩ := hpre 9 (by decide)
              obtain ⟨q1, hx⟩ := hpre 11 (by decide)
              replace q0 : ev (.tmp 132) = _ := q0
              replace q1 : ev (.tmp 23) = _ := q1
              have h2 : γ 2 = 0 := hψ.2 rfl
              obtain ⟨x1, x2⟩ := hx.resolve_left (by omega)
              obtain ⟨xb, hxb⟩ : ∃ z, z = γ 1 := ⟨_, rfl⟩
              rw [← hxb] at q1 x1 x2
              have XB := Lib.hid x2
              have HRW9 : Hid (Below wX.heap.size wX W) := HR
              have X1 := Lib.hid x1
              have HXB := Lib.hid hxb
              have HEN9 := Lib.hid hen
              have HNE9 := Lib.hid hne
              have hzz := x2.lt
              have d0 : W.cell? ⟨xb, 0, none⟩ = some (.int .i64 0) := x2.cell 0
              have d1 : W.cell? ⟨xb, 1, none⟩ = some (.slice none 0 0) := x2.cell 1
              have d2 : W.cell? ⟨xb, 2, none⟩ = some (.slice none 0 0) := x2.cell 2
              have d3 : W.cell? ⟨xb, 3, none⟩ = some (.int .i64 0) := x2.cell 3
              have fz : ∀ o, W.frozen? ⟨xb, o, none⟩ = false := fun o => x2.frozen o
              clear x1 x2 hpre hx hxb hen hne h2
              go_simp
              refine hK undef _ (fun i => if i = 2 then 1 else γ i) ?_ (fun j u h1 h2 h3 => stPhi_2 HNE9.out h2 (by rw [← HXB.out]; exact XB.out) ?_ ?_ h3) (fun _ j h1 h2 => ⟨fun e => by simpa using h2.1 e, fun e => absurd e h1⟩) ⟨rfl, g3, g4, ?_, ?_⟩
              · repeat' (first | exact HRW9.out | refine Below.setCell ?_ X1.out _)
              · intro b t ds ht hb
                have hne : b ≠ xb := fun e => ht (by subst e; have := hb.symm.trans XB.out; simp only [Option.some.injEq, Obj.cells.injEq] at this; exact this.2.1)
                exact (((hb.far hne _).far hne _).far hne _).far hne _
              · intro v k xs hr
                have hne : v.ownBlock ≠ some xb := (own_ne hr XB.out (by decide)).symm
                exact (((hr.kept (grown_set _ _ _ _) (Or.inr hne)).kept (grown_set _ _ _ _) (Or.inr hne)).kept (grown_set _ _ _ _) (Or.inr hne)).kept (grown_set _ _ _ _) (Or.inr hne)
              · show Blk _ (γ 1) _ _
                rw [← HXB.out]
                exact (((XB.out.set_ 0 _).set_ 1 _).set_ 2 _).set_ 3 _
              · have hne : g3 ≠ xb := blk_ne HEN9.out XB.out (by decide)
                exact (((HEN9.out.far hne _).far hne _).far hne _).far hne _
            · have q0 : ev (.tmp 133) = _ := hpre 10 (by decide)
              clear hpre hψ
              go_simp
              exact hK _ _ γ HR.out (fun _ _ _ _ h => h) (fun _ _ _ h => h) rfl
          · intro vs w' γ hvl hR hφ
            have q11 := hφ 11 (by decide)
            obtain ⟨_, g3, g4, hx17, hen⟩ := hφ 12 (by decide)
            have q13 := hφ 13 (by decide)
            have HR := Lib.hid hR
            clear hφ hR
            match vs, hvl with
            | [y0, y1, y2, y3, y4, y5, y6, y7, y8, y9, y10, y11, y12, y13], _ =>
            simp only [List.getD_cons_zero, List.getD_cons_succ] at q11 q13
            replace q11 : y11 = _ := q11.1
            replace q13 : y13 = .int .i64 0 := q13
            obtain ⟨xb, hxb⟩ : ∃ z, z = γ 1 := ⟨_, rfl⟩
            rw [← hxb] at q11 hx17
            subst q11
            subst q13
            have HRL : Hid (Below wX.heap.size wX w') := HR
            have HXB := Lib.hid hx17
            have HEX := Lib.hid hen
            have HRR := Lib.hid (HRX.out.below HRL.out HRX.out.lt)
            have HE1R := Lib.hid (HE1X.out.below HRL.out HE1X.out.lt)
            have HLR := Lib.hid (below3 HLX.out HRL.out (Nat.le_refl _))
            have KE := Lib.hid (fun W (hW : Below w'.heap.size w' W) => by
              have r1 := Blk.rdI HEX.out
              have r2 := Blk.rdI HE1R.out
              rw [HEN.out.1] at r1 r2
              have h := Equal_any (some ⟨g3, 0, none⟩) (some ⟨g1, 0, none⟩) bn bn bn bn (energies Pl) (energies Pl) W (r1.next hW) (r2.next hW) (by have := HMD.out.1; have := HBN.out; omega) (by have := HMD.out.1; have := HBN.out; omega)
              rw [show sameL (energies Pl) (energies Pl) = true from decide_eq_true rfl] at h
              exact h)
            clear hx17 hen hxb hvl HR HRX HE1X HINX HFRX HBPX H4X
            have x0 : w'.cell? ⟨xb, 0, none⟩ = some (.int .i64 D) := HXB.out.cell 0
            have x1 : w'.cell? ⟨xb, 1, none⟩ = some (.slice (some ⟨g3, 0, none⟩) bn bn) := HXB.out.cell 1
            have x3 : w'.cell? ⟨xb, 3, none⟩ = some (.int .i64 sv) := HXB.out.cell 3
            have r0 : w'.cell? ⟨rb, 0, none⟩ = some (.int .i64 D) := HRR.out.cell 0
            have r1 : w'.cell? ⟨rb, 1, none⟩ = some (.slice (some ⟨g1, 0, none⟩) bn bn) := HRR.out.cell 1
            have r3 : w'.cell? ⟨rb, 3, none⟩ = some (.int .i64 sv) := HRR.out.cell 3
            have zx := HXB.out.lt
            have zr := HRR.out.lt
            simp [putAll]
            go_wp2_with fail
            refine (KE.out _ (Below.refl _ _)).mono ?_
            rintro e wy ⟨rfl, hBy⟩
            have HLX := Lib.hid (below3 HLR.out hBy (Nat.le_refl _))
            clear x0 x1 x3 r0 r1 r3 zx zr hBy
            go_wp2_with fail
            refine (KA.out _).mono ?_
            rintro e wz ⟨rfl, hBz⟩
            have HLz := Lib.hid (below3 HLX.out hBz (Nat.le_refl _))
            clear hBz
            go_wp2_with fail
            go_ret
            exact ⟨rfl, HLz.out⟩
end Go.Proofs.Ytnpkcipeacogcaa
