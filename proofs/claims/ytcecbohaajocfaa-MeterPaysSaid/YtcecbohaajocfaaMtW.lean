/- law11: MeterPays, its first loop. -/
import Derived.Test.YtcecbohaajocfaaMtO
import Derived.Deep.CutBlock

set_option linter.unusedSimpArgs false
set_option linter.unusedVariables false
namespace Go.Proofs.Ytcecbohaajocfaa
open Go.RowKit

/-- Prices under way. -/
structure PrI (X : World) (dx pb : Nat) (dv : Value) (base credit : Int) (v : Value) (k : Nat) (L : List Int) (W : World) : Prop where
  low : Below X.heap.size X W
  dig : ∃ i, i ≤ k ∧ Blk W dx 72 #[dv, .int .i64 ((i : Nat) : Int)]
  box : Blk W pb 25 #[v, .int .i64 base, .slice none 0 0, .int .i64 credit]
  row : W.ownsRow X.heap.size 3 1 v k (L.flatMap encI)
  len : L.length = k
  bd : ∀ y ∈ L, 0 ≤ y ∧ y ≤ 255
def prR (X : World) (dx pb : Nat) (dv : Value) (base credit : Int) (v : Value) (k : Nat) (L : List Int) (W : World) (γ : Nat → Nat) : Prop :=
  (Below X.heap.size X W ∧ ∃ i, i ≤ k + γ 2 ∧ Blk W dx 72 #[dv, .int .i64 ((i : Nat) : Int)]) ∧ (γ 0 = 0 → Blk W pb 25 #[v, .int .i64 base, .slice none 0 0, .int .i64 credit]) ∧ (γ 1 = 0 → W.ownsRow X.heap.size 3 1 v k (L.flatMap encI))
def prPhi (X : World) (dx pb : Nat) (base credit : Int) (vv : Value) (k : Nat) (L : List Int) : Nat → Value → World → (Nat → Nat) → Prop
  | 0, v, _, _ => v = .pointer (some ⟨pb, 0, none⟩)
  | 1, v, _, _ => v = vv
  | 2, v, _, _ => v = .pointer (some ⟨dx, 0, none⟩)
  | 3, v, _, γ => ∃ r : Int, v = .int .i64 r ∧ (0 ≤ r ∧ r < 256) ∧ γ 2 = 1
  | 4, v, W, γ => ∃ (b1 : Nat) (r : Int), v = .slice (some ⟨b1, 0, none⟩) 1 1 ∧ (0 ≤ r ∧ r < 256) ∧ (γ 1 = 0 → Blk W b1 3 #[.int .i64 r])
  | 5, v, W, _ => ∃ (A : Option Addr) (c : Nat) (r : Int), v = .slice A (k + 1) c ∧ (0 ≤ r ∧ r < 256) ∧ W.ownsRow X.heap.size 3 1 (.slice A (k + 1) c) (k + 1) ((L ++ [r]).flatMap encI)
  | 6, v, _, _ => v = .pointer (some ⟨pb, 0, none⟩)
  | 7, _, W, _ => ∃ (A : Option Addr) (c : Nat) (r : Int), (0 ≤ r ∧ r < 256) ∧ Blk W pb 25 #[.slice A (k + 1) c, .int .i64 base, .slice none 0 0, .int .i64 credit] ∧ W.ownsRow X.heap.size 3 1 (.slice A (k + 1) c) (k + 1) ((L ++ [r]).flatMap encI)
  | _, _, _, _ => True
def prPsi (i : Nat) (_ : World) (γ : Nat → Nat) : Prop := γ 0 = 0 ∧ (i = 5 → γ 1 = 0) ∧ (i = 3 → γ 2 = 0)
section
variable {X : World} {dx pb : Nat} {base credit : Int} {vv : Value} {k : Nat} {L : List Int} {j : Nat} {v : Value} {W W' : World} {γ γ' : Nat → Nat}
theorem prPhi_next (hb : Below W.heap.size W W') (h : prPhi X dx pb base credit vv k L j v W γ) : prPhi X dx pb base credit vv k L j v W' γ := by
  unfold prPhi at h ⊢
  split at h
  all_goals first | exact h | trivial | skip
  · obtain ⟨b1, r, e, h1, hr⟩ := h; exact ⟨b1, r, e, h1, fun g => (hr g).below hb (hr g).lt⟩
  · obtain ⟨A, c, r, e, h1, hr⟩ := h; exact ⟨A, c, r, e, h1, row_next hr hb⟩
  · obtain ⟨A, c, r, h1, hb2, hr⟩ := h; exact ⟨A, c, r, h1, hb2.below hb hb2.lt, row_next hr hb⟩
theorem prPhi_turn (hd : ∀ b cs, Blk W b 3 cs → Blk W' b 3 cs) (h1 : γ' 1 = γ 1) (h3 : j ≠ 3) (h6 : j ≠ 5) (h8 : j ≠ 7) (h : prPhi X dx pb base credit vv k L j v W γ) : prPhi X dx pb base credit vv k L j v W' γ' := by
  unfold prPhi at h ⊢
  split at h
  all_goals first | exact h | trivial | exact absurd rfl h3 | exact absurd rfl h6 | exact absurd rfl h8 | skip
  · obtain ⟨b1, r, e, h2, hr⟩ := h; exact ⟨b1, r, e, h2, fun g => hd _ _ (hr (by rw [← h1]; exact g))⟩
theorem prPhi_grown (h6 : j ≠ 5) (h8 : j ≠ 7) (hγ : γ' 1 ≠ 0) (h2 : γ' 2 = γ 2) (h : prPhi X dx pb base credit vv k L j v W γ) : prPhi X dx pb base credit vv k L j v W' γ' := by
  unfold prPhi at h ⊢
  split at h
  all_goals first | exact h | trivial | exact absurd rfl h6 | exact absurd rfl h8 | skip
  · obtain ⟨r, e, h1, hr⟩ := h; exact ⟨r, e, h1, by rw [h2]; exact hr⟩
  · obtain ⟨b1, r, e, h1, hr⟩ := h; exact ⟨b1, r, e, h1, fun g => absurd g hγ⟩
theorem prPhi_store {u0 : Value} {cs : Array Value} (hbx : Blk W pb 25 cs) (hγ : γ' 1 ≠ 0) (h2 : γ' 2 = γ 2) (h8 : j ≠ 7) (h : prPhi X dx pb base credit vv k L j v W γ) : prPhi X dx pb base credit vv k L j v (W.setCell ⟨pb, 0, none⟩ u0) γ' := by
  unfold prPhi at h ⊢
  split at h
  all_goals first | exact h | trivial | exact absurd rfl h8 | skip
  · obtain ⟨r, e, h1, hr⟩ := h; exact ⟨r, e, h1, by rw [h2]; exact hr⟩
  · obtain ⟨b1, r, e, h1, hr⟩ := h; exact ⟨b1, r, e, h1, fun g => absurd g hγ⟩
  · obtain ⟨A, c, r, e, h1, hr⟩ := h; exact ⟨A, c, r, e, h1, hr.kept (grown_set W pb 0 _) (Or.inr (own_ne hr hbx (by decide)).symm)⟩
end
theorem lst_snoc {L : List Sp} {x : Sp} {i : Nat} (h : i ≤ L.length) : lstM (L ++ [x]) i = lstM L i ∧ lstP (L ++ [x]) i = lstP L i := by
  unfold lstM lstP
  by_cases e : i = 0
  · simp [e]
  · rw [if_neg e, if_neg e, if_neg e, if_neg e]
    have : (L ++ [x]).getD (i - 1) (0, 0) = L.getD (i - 1) (0, 0) := by
      rw [List.getD_eq_getElem?_getD, List.getD_eq_getElem?_getD, List.getElem?_append_left (by omega)]
    rw [this]
    exact ⟨rfl, rfl⟩
theorem lst_last {L : List Sp} {x : Sp} : lstM (L ++ [x]) (L.length + 1) = x.1 + 1 ∧ lstP (L ++ [x]) (L.length + 1) = x.2 := by
  unfold lstM lstP
  rw [if_neg (by omega), if_neg (by omega)]
  simp
def TiOk (L : List Sp) : Prop := ∀ i x, L[i]? = some x → (lstM L i ≤ x.1 ∧ x.1 ≤ 50000) ∧ lstP L i ≤ x.2 ∧ x.2 ≤ 100
/-- Tiers under way: the last one's numbers, or zeros. -/
structure TiQ (L : List Sp) (k : Nat) (M p : Int) : Prop where
  len : L.length = k
  ok : TiOk L
  m : lstM L k ≤ M + 1 ∧ 0 ≤ M ∧ M ≤ 5101 * k
  p : lstP L k = p ∧ 0 ≤ p ∧ p ≤ 100
theorem TiQ.step {L : List Sp} {k : Nat} {M p a b : Int} (h : TiQ L k M p) (hk : k ≤ 7) (ha : 0 ≤ a ∧ a ≤ 255) (hb : 0 ≤ b ∧ b < 20) : TiQ (L ++ [(M + (1 + 20 * a), min (p + b) 100)]) (k + 1) (M + (1 + 20 * a)) (min (p + b) 100) := by
  obtain ⟨h1, h2, h3, h4⟩ := h
  have hp : p ≤ min (p + b) 100 ∧ min (p + b) 100 ≤ 100 := by omega
  refine ⟨by rw [List.length_append, h1]; rfl, fun i x hx => ?_, ?_, ?_⟩
  · rcases Nat.lt_or_ge i L.length with hi | hi
    · rw [List.getElem?_append_left hi] at hx
      have := h2 i x hx
      rw [(lst_snoc (Nat.le_of_lt hi)).1, (lst_snoc (Nat.le_of_lt hi)).2]
      exact this
    · have hi2 : i = L.length := by
        have := (List.getElem?_eq_some_iff.1 hx).1
        rw [List.length_append, List.length_singleton] at this
        omega
      subst hi2
      rw [List.getElem?_append_right (Nat.le_refl _), Nat.sub_self] at hx
      have hx2 : (M + (1 + 20 * a), min (p + b) 100) = x := by simpa using hx
      subst hx2
      rw [(lst_snoc (Nat.le_refl _)).1, (lst_snoc (Nat.le_refl _)).2, h1]
      dsimp only
      omega
  · have := (lst_last (L := L) (x := (M + (1 + 20 * a), min (p + b) 100))).1
    rw [h1] at this
    rw [this]
    dsimp only
    omega
  · have := (lst_last (L := L) (x := (M + (1 + 20 * a), min (p + b) 100))).2
    rw [h1] at this
    rw [this]
    dsimp only
    omega
theorem pct_le_lst {l : List Sp} (h : TiOk l) (out : Int) : ∀ k, k ≤ l.length → pctK l out k ≤ lstP l k := by
  intro k
  induction k with
  | zero => intro _; simp [pctK, lstP]
  | succ k ih =>
    intro hk
    have hx := List.getElem?_eq_getElem (show k < l.length by omega)
    obtain ⟨x, hxe⟩ : ∃ x, x = l[k]'(by omega) := ⟨_, rfl⟩
    rw [← hxe] at hx
    have h1 := h k x hx
    have h2 := ih (by omega)
    have e : lstP l (k + 1) = x.2 := by unfold lstP; rw [if_neg (by omega), Nat.add_sub_cancel, List.getD_eq_getElem?_getD, hx]; rfl
    rw [pctK_succ hx, e]
    split <;> omega
theorem pct_mono {l : List Sp} (h : TiOk l) {o o2 : Int} (ho : o ≤ o2) : ∀ k, k ≤ l.length → pctK l o k ≤ pctK l o2 k := by
  intro k
  induction k with
  | zero => intro _; simp [pctK]
  | succ k ih =>
    intro hk
    have hx := List.getElem?_eq_getElem (show k < l.length by omega)
    obtain ⟨x, hxe⟩ : ∃ x, x = l[k]'(by omega) := ⟨_, rfl⟩
    rw [← hxe] at hx
    have h1 := h k x hx
    have h2 := ih (by omega)
    have h3 := pct_le_lst h o k (by omega)
    rw [pctK_succ hx, pctK_succ hx]
    split
    · rw [if_pos (by omega)]; exact Int.le_refl _
    · split <;> omega
theorem crd_mono {price vals : List Int} {base credit o o2 : Int} {l : List Sp} (h : TiOk l) (ho : o ≤ o2) (ha : 0 ≤ amtK price vals base vals.length) : crdK price vals base l credit o ≤ crdK price vals base l credit o2 := by
  have h1 := pct_mono h ho l.length (Nat.le_refl _)
  have h2 : min (pctK l o l.length) credit ≤ min (pctK l o2 l.length) credit := by omega
  have h3 := Int.mul_le_mul_of_nonneg_left h2 ha
  unfold crdK
  exact Int.ediv_le_ediv (by omega) (by omega)
theorem tierInfo : (Try.prog.info? 75).map (fun i => (i.zero, i.size, i.bytes)) = some (some (.agg #[.int .i64 0, .int .i64 0]), 2, 16) := by kernel_rfl
/-- The tariff with tiers under way. -/
structure TrI (X : World) (pb gb c9 : Nat) (cur : Array Value) (base credit : Int) (v : Value) (k : Nat) (L : List Sp) (W : World) : Prop where
  low : Below X.heap.size X W
  pr : Blk W gb 3 cur
  box : Blk W pb 25 #[.slice (some ⟨gb, 0, none⟩) 24 c9, .int .i64 base, v, .int .i64 credit]
  row : W.ownsRow X.heap.size 75 2 v k (L.flatMap encS)
theorem rd_take {w : World} {B n k : Nat} {A : Option Addr} {l : List Int} (h : Rd w B 1 encI A n l) (hk : k ≤ n) : Rd w B 1 encI A k (l.take k) := by
  refine ⟨by rw [List.length_take, h.1]; omega, fun h0 => ?_⟩
  obtain ⟨b, off, e, hb, hc⟩ := h.2 (by omega)
  refine ⟨b, off, e, hb, fun i x hx j u hu => ?_⟩
  rw [List.getElem?_take] at hx
  split at hx
  · exact hc i x hx j u hu
  · cases hx
def subA (A : Option Addr) (c k : Nat) : Option Addr := if c = k then A else A.map fun a => a.add k
theorem rd_drop {w : World} {B n c k : Nat} {A : Option Addr} {l : List Int} (h : Rd w B 1 encI A n l) (hk : k ≤ n) (hc : n ≤ c) (hA : (A = none ∧ n = 0 ∧ c = 0) ∨ ∃ g, A = some ⟨g, 0, none⟩) : Rd w B 1 encI (subA A c k) (n - k) (l.drop k) := by
  refine ⟨by rw [List.length_drop, h.1], fun h0 => ?_⟩
  obtain ⟨b, off, e, hb, hcc⟩ := h.2 (by omega)
  rcases hA with ⟨_, h1, _⟩ | ⟨g, hg⟩
  · omega
  · rw [hg] at e
    cases e
    refine ⟨_, k, ?_, hb, fun i x hx j u hu => ?_⟩
    · unfold subA
      rw [if_neg (by omega), hg]
      simp only [Option.map_some, add0]
    · rw [List.getElem?_drop] at hx
      have := hcc (k + i) x hx j u hu
      rw [show 0 + (k + i) * 1 + j = k + i * 1 + j by omega] at this
      exact this
theorem row2 {W : World} {z : Nat} {T : TypeId} {BL : List Value} {A : Option Addr} {ca : Nat} (h : W.ownsRow z T 4 (.slice A 2 ca) 2 BL) : ∃ g, A = some ⟨g, 0, none⟩ ∧ g < W.heap.size ∧ ∀ i u, BL[i]? = some u → W.cell? ⟨g, i, none⟩ = some u := by
  rcases h.2 with ⟨_, h0⟩ | ⟨g, cap, cur, e, _, hg, _, _, _, ht⟩
  · cases h0
  · cases e
    refine ⟨g, rfl, (Array.getElem?_eq_some_iff.1 hg).1, fun i u hu => ?_⟩
    rw [← ht, List.getElem?_take] at hu
    split at hu
    · rw [Blk.cell hg i]
      simpa using hu
    · cases hu
/-- What the operations of the law's two parts leave. -/
def dvRow (z : Nat) (BL : List Value) (v : Value) (W : World) (γ : Nat → Nat) : Prop := ∃ (A : Option Addr) (ca : Nat), v = .slice A 2 ca ∧ W.ownsRow z 77 4 (.slice A 2 ca) 2 BL ∧ ∀ q, γ 1 = q + 1 → (Value.slice A 2 ca).ownBlock ≠ some q
def dvPhi (z ub : Nat) (tv u1 u2 sv : Value) (cs ss : Array Value) (BL : List Value) (nd : Int) (s5 s1 s2 : Value) : Nat → Value → World → (Nat → Nat) → Prop
  | 0, v, _, _ => v = tv
  | 1, v, _, _ => v = .pointer (some ⟨ub, 0, none⟩)
  | 2, v, _, _ => v = s5
  | 3, v, _, _ => v = .int .i64 nd
  | 4, v, _, _ => v = s1
  | 5, v, _, _ => v = u1
  | 6, v, _, _ => v = .pointer (some ⟨ub, 0, none⟩)
  | 7, v, _, _ => v = s5
  | 8, v, _, _ => v = .int .i64 nd
  | 9, v, _, _ => v = s2
  | 10, v, _, _ => v = u2
  | 11, v, W, _ => ∃ b, v = .slice (some ⟨b, 0, none⟩) 2 2 ∧ Blk W b 28 cs
  | 12, v, W, γ => ∃ x, v = .tuple #[x, sv, .int .i64 0] ∧ dvRow z BL x W γ
  | 13, v, W, γ => ∃ x, v = .tuple #[x, sv, .int .i64 0] ∧ dvRow z BL x W γ
  | 14, v, W, γ => dvRow z BL v W γ
  | 15, v, _, _ => v = sv
  | 16, v, _, _ => v = .int .i64 0
  | 17, v, W, γ => ∃ zb, v = .pointer (some ⟨zb, 0, none⟩) ∧ γ 1 = zb + 1 ∧ (γ 0 = 0 → Blk W zb 77 #[.int .i64 0, .int .i64 0, .int .i64 0, .int .i64 0])
  | 18, v, W, γ => dvRow z BL v W γ
  | 19, _, W, γ => ∃ zb, γ 1 = zb + 1 ∧ Blk W zb 77 ss
  | 20, v, _, _ => v = .int .i64 0
  | _, _, _, _ => True
def dvPsi (i : Nat) (_ : World) (γ : Nat → Nat) : Prop := (i = 19 → γ 0 = 0) ∧ (i = 17 → γ 1 = 0)
def dvR (w7 : World) (W : World) (γ : Nat → Nat) : Prop := Below w7.heap.size w7 W ∧ γ 1 ≤ W.heap.size ∧ (γ 1 ≠ 0 → w7.heap.size < γ 1)
theorem dvRow_next {z : Nat} {BL : List Value} {v : Value} {W W' : World} {γ : Nat → Nat} (h : dvRow z BL v W γ) (hb : Below W.heap.size W W') : dvRow z BL v W' γ := by
  obtain ⟨A, ca, e, h1, h2⟩ := h
  exact ⟨A, ca, e, row_next h1 hb, h2⟩
section
variable {z ub : Nat} {tv u1 u2 sv : Value} {cs ss : Array Value} {BL : List Value} {nd : Int} {s5 s1 s2 : Value} {j : Nat} {v : Value} {W W' : World} {γ γ' : Nat → Nat}
theorem dvPhi_next (hb : Below W.heap.size W W') (h : dvPhi z ub tv u1 u2 sv cs ss BL nd s5 s1 s2 j v W γ) : dvPhi z ub tv u1 u2 sv cs ss BL nd s5 s1 s2 j v W' γ := by
  unfold dvPhi at h ⊢
  split at h
  all_goals first | exact h | trivial | skip
  · obtain ⟨b, e, hr⟩ := h; exact ⟨b, e, hr.below hb hr.lt⟩
  · obtain ⟨x, e, hr⟩ := h; exact ⟨x, e, dvRow_next hr hb⟩
  · obtain ⟨x, e, hr⟩ := h; exact ⟨x, e, dvRow_next hr hb⟩
  · exact dvRow_next h hb
  · obtain ⟨zb, e, e1, hr⟩ := h; exact ⟨zb, e, e1, fun g => (hr g).below hb (hr g).lt⟩
  · exact dvRow_next h hb
  · obtain ⟨zb, e1, hr⟩ := h; exact ⟨zb, e1, hr.below hb hr.lt⟩
/-- A new block of a bill is laid. -/
theorem dvPhi_new (hb : Below W.heap.size W W') (hγ : γ' 1 = W.heap.size + 1) (h17 : j ≠ 17) (h19 : j ≠ 19) (h : dvPhi z ub tv u1 u2 sv cs ss BL nd s5 s1 s2 j v W γ) : dvPhi z ub tv u1 u2 sv cs ss BL nd s5 s1 s2 j v W' γ' := by
  have K : ∀ x, dvRow z BL x W γ → dvRow z BL x W' γ' := fun x hx => by
    obtain ⟨A, ca, e, h1, h2⟩ := hx
    refine ⟨A, ca, e, row_next h1 hb, fun q hq e2 => ?_⟩
    have := (World.ownsRow.lt h1 q e2).2
    omega
  unfold dvPhi at h ⊢
  split at h
  all_goals first | exact h | trivial | exact absurd rfl h17 | exact absurd rfl h19 | skip
  · obtain ⟨b, e, hr⟩ := h; exact ⟨b, e, hr.below hb hr.lt⟩
  · obtain ⟨x, e, hr⟩ := h; exact ⟨x, e, K x hr⟩
  · obtain ⟨x, e, hr⟩ := h; exact ⟨x, e, K x hr⟩
  · exact K v h
  · exact K v h
/-- The bill is stored. -/
theorem dvPhi_store {zb : Nat} {ds : Array Value} (hz : Blk W zb 77 ds) (hg : W.grownBy W' (some zb)) (h1 : γ 1 = zb + 1) (h1' : γ' 1 = zb + 1) (h0' : γ' 0 ≠ 0) (h19 : j ≠ 19) (h : dvPhi z ub tv u1 u2 sv cs ss BL nd s5 s1 s2 j v W γ) : dvPhi z ub tv u1 u2 sv cs ss BL nd s5 s1 s2 j v W' γ' := by
  have K : ∀ x, dvRow z BL x W γ → dvRow z BL x W' γ' := fun x hx => by
    obtain ⟨A, ca, e, hr, h2⟩ := hx
    exact ⟨A, ca, e, hr.kept hg (Or.inr (h2 zb h1)), fun q hq => by rw [show q = zb by omega]; exact h2 zb h1⟩
  unfold dvPhi at h ⊢
  split at h
  all_goals first | exact h | trivial | exact absurd rfl h19 | skip
  · obtain ⟨b, e, hr⟩ := h; exact ⟨b, e, hr.kept hg (fun e9 => blk_ne hr hz (by decide) (Option.some.inj e9))⟩
  · obtain ⟨x, e, hr⟩ := h; exact ⟨x, e, K x hr⟩
  · obtain ⟨x, e, hr⟩ := h; exact ⟨x, e, K x hr⟩
  · exact K v h
  · obtain ⟨y, e, e1, hr⟩ := h; exact ⟨y, e, by omega, fun g => absurd g h0'⟩
  · exact K v h
end
end Go.Proofs.Ytcecbohaajocfaa
