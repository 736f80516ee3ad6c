/- meter: narrow, the closure that calls itself. -/
import Derived.Test.YtcecbohaajocfaaMtB
import Derived.Test.YtcecbohaajocfaaFreeA

set_option linter.unusedSimpArgs false
set_option linter.unusedVariables false
namespace Go.Proofs.Ytcecbohaajocfaa
open Go.RowKit

/-- What hangs on a node. -/
inductive Dsc (c : Ks) : Nat → Nat → Prop
  | self (i : Nat) : Dsc c i i
  | step {i k j : Nat} : k ∈ sonsL c i → Dsc c k j → Dsc c i j
theorem Dsc.snoc {c : Ks} {i k j : Nat} (h : Dsc c i k) (hj : j ∈ sonsL c k) : Dsc c i j := by
  induction h with
  | self i => exact .step hj (.self j)
  | step h1 _ ih => exact .step h1 (ih hj)
theorem Dsc.lt {c : Ks} {i j : Nat} (h : Dsc c i j) (hi : i < c.n) : j < c.n := by
  induction h with
  | self i => exact hi
  | step h1 _ ih => exact ih (mem_sons.1 h1).1
theorem dsc_all {c : Ks} (ok : KsOk c) : ∀ j, j < c.n → Dsc c 0 j := by
  intro j
  induction j using Nat.strongRecOn with
  | ind j ih =>
    intro hj
    by_cases h0 : j = 0
    · subst h0; exact .self 0
    · obtain ⟨u1, u2⟩ := ok.up j (by omega) hj
      obtain ⟨p, hp⟩ : ∃ p : Nat, (c.nd j).up = (p : Int) := ⟨((c.nd j).up).toNat, by omega⟩
      exact (ih p (by omega) (by omega)).snoc (mem_sons.2 ⟨hj, hp⟩)
theorem pow_sum {n : Nat} : ∀ (l : List Nat) (i : Nat), l.Pairwise (· < ·) → (∀ k ∈ l, i < k ∧ k < n) → i < n → (l.map fun k => 2 ^ (n - 1 - k)).sum < 2 ^ (n - 1 - i) := by
  intro l
  induction l with
  | nil => intro i _ _ _; simp; exact Nat.two_pow_pos _
  | cons k l ih =>
    intro i hp hm hi
    rw [List.pairwise_cons] at hp
    have h1 := hm k (List.mem_cons_self ..)
    have h2 := ih k hp.2 (fun j hj => ⟨hp.1 j hj, (hm j (List.mem_cons_of_mem _ hj)).2⟩) h1.2
    simp only [List.map_cons, List.sum_cons]
    have h3 : 2 ^ (n - 1 - k) + 2 ^ (n - 1 - k) ≤ 2 ^ (n - 1 - i) := by
      rw [← Nat.two_mul, ← Nat.pow_succ']
      exact Nat.pow_le_pow_right (by omega) (by omega)
    omega
theorem sum_pow_le {f : Nat → Int} {g : Nat → Nat} : ∀ (l : List Nat), (∀ k ∈ l, 0 ≤ f k ∧ f k ≤ 1000000000 * (g k : Int)) → 0 ≤ (l.map f).sum ∧ (l.map f).sum ≤ 1000000000 * ((l.map g).sum : Int) := by
  intro l
  induction l with
  | nil => intro _; simp
  | cons k l ih =>
    intro h
    have h1 := h k (List.mem_cons_self ..)
    have h2 := ih fun j hj => h j (List.mem_cons_of_mem _ hj)
    simp only [List.map_cons, List.sum_cons]
    push_cast
    omega
/-- The spans are small. -/
theorem narS_bd {c : Ks} (ok : KsOk c) {s : Nat → Sp} (hs : ∀ i, i < c.n → 0 ≤ (s i).1 ∧ (s i).1 ≤ (s i).2 ∧ (s i).2 ≤ 1000000000) : ∀ i, i < c.n → (0 ≤ (narS c s i).1 ∧ (narS c s i).1 ≤ 1000000000 * ((2 ^ (c.n - 1 - i) : Nat) : Int)) ∧ 0 ≤ (narS c s i).2 ∧ (narS c s i).2 ≤ 1000000000 := by
  suffices H : ∀ d i, c.n - i ≤ d → i < c.n → (0 ≤ (narS c s i).1 ∧ (narS c s i).1 ≤ 1000000000 * ((2 ^ (c.n - 1 - i) : Nat) : Int)) ∧ 0 ≤ (narS c s i).2 ∧ (narS c s i).2 ≤ 1000000000 from fun i hi => H _ i (Nat.le_refl _) hi
  intro d
  induction d with
  | zero => intro i h hi; omega
  | succ d ih =>
    intro i hd hi
    have h3 := hs i hi
    have hp := Nat.two_pow_pos (c.n - 1 - i)
    by_cases hl : sonsL c i = []
    · rw [narS_leaf ok hl]
      omega
    · rw [narS_step ok hl]
      have e1 := sum_pow_le (f := fun k => (narS c s k).1) (g := fun k => 2 ^ (c.n - 1 - k)) (sonsL c i) fun k hk => (ih k (by have := sons_gt ok hk; omega) (sons_gt ok hk).2).1
      have e2 := pow_sum (n := c.n) (sonsL c i) i (sons_sorted c i) (fun k hk => sons_gt ok hk) hi
      have e3 := (sum_pow_le (f := fun k => (narS c s k).2) (g := fun _ => 1) (sonsL c i) fun k hk => by have := (ih k (by have := sons_gt ok hk; omega) (sons_gt ok hk).2).2; simpa using this).1
      have e4 := ok.lh i hi
      have e5 := Int.ofNat_lt.2 e2
      simp only []
      omega
theorem nar_and {c : Ks} (ok : KsOk c) {s : Nat → Sp} {i : Nat} (h : sonsL c i ≠ []) {x : Sp} (hx : x = s i ∨ x = narS c s i) : (max x.1 ((c.nd i).lo + ((sonsL c i).map fun k => (narS c s k).1).sum), min x.2 ((c.nd i).hi + ((sonsL c i).map fun k => (narS c s k).2).sum)) = narS c s i := by
  rcases hx with rfl | rfl
  · exact (narS_step ok h).symm
  · have e := narS_step ok (s := s) h
    have e1 := congrArg Prod.fst e
    have e2 := congrArg Prod.snd e
    simp only [] at e1 e2
    apply Prod.ext
    · simp only []; omega
    · simp only []; omega
/-- What narrowing leaves. -/
structure NaEnd (c : Ks) (s : Nat → Sp) (i : Nat) (S S' : List Sp) : Prop where
  len : S'.length = c.n
  new : ∀ j, Dsc c i j → S'.getD j (0, 0) = narS c s j
  old : ∀ j, j < c.n → S'.getD j (0, 0) = S.getD j (0, 0) ∨ S'.getD j (0, 0) = narS c s j
def NaSt (c : Ks) (s : Nat → Sp) (S : List Sp) : Prop := S.length = c.n ∧ ∀ j, j < c.n → S.getD j (0, 0) = s j ∨ S.getD j (0, 0) = narS c s j
/-- Under way: so many sons are done. -/
structure NaWay (c : Ks) (s : Nat → Sp) (l : List Nat) (k : Nat) (S0 S : List Sp) : Prop where
  len : S.length = c.n
  new : ∀ x ∈ l.take k, ∀ j, Dsc c x j → S.getD j (0, 0) = narS c s j
  old : ∀ j, j < c.n → S.getD j (0, 0) = S0.getD j (0, 0) ∨ S.getD j (0, 0) = narS c s j
theorem NaWay.st {c : Ks} {s : Nat → Sp} {l : List Nat} {k : Nat} {S0 S : List Sp} (h : NaWay c s l k S0 S) (h0 : NaSt c s S0) : NaSt c s S := ⟨h.len, fun j hj => by
  rcases h.old j hj with e | e
  · rw [e]; exact h0.2 j hj
  · exact Or.inr e⟩
theorem NaWay.next {c : Ks} {s : Nat → Sp} {l : List Nat} {k x : Nat} {S0 S S' : List Sp} (h : NaWay c s l k S0 S) (hl : ∀ y ∈ l, y < c.n) (hx : l[k]? = some x) (e : NaEnd c s x S S') : NaWay c s l (k + 1) S0 S' := by
  have hk := (List.getElem?_eq_some_iff.1 hx).1
  refine ⟨e.len, fun y hy j hd => ?_, fun j hj => ?_⟩
  · rw [List.take_add_one, hx] at hy
    rcases List.mem_append.1 hy with hy | hy
    · rcases e.old j (hd.lt (hl y (List.mem_of_mem_take hy))) with h1 | h1
      · rw [h1]; exact h.new y hy j hd
      · exact h1
    · obtain rfl : y = x := by simpa using hy
      exact e.new j hd
  · rcases e.old j hj with h1 | h1
    · rw [h1]; exact h.old j hj
    · exact Or.inr h1
theorem NaWay.done {c : Ks} {s : Nat → Sp} {i : Nat} {S0 S : List Sp} (h : NaWay c s (sonsL c i) (sonsL c i).length S0 S) (hi : i < c.n) : NaEnd c s i S0 (S.set i (narS c s i)) := by
  refine ⟨by rw [List.length_set]; exact h.len, fun j hd => ?_, fun j hj => ?_⟩
  · by_cases e : i = j
    · subst e
      rw [List.getD_eq_getElem?_getD, List.getElem?_set_self (by rw [h.len]; exact hi)]; rfl
    · rw [List.getD_eq_getElem?_getD, List.getElem?_set_ne e, ← List.getD_eq_getElem?_getD]
      cases hd with
      | self => exact absurd rfl e
      | step h1 h2 => exact h.new _ (by rw [List.take_length]; exact h1) j h2
  · by_cases e : i = j
    · subst e
      right
      rw [List.getD_eq_getElem?_getD, List.getElem?_set_self (by rw [h.len]; exact hi)]; rfl
    · rw [List.getD_eq_getElem?_getD, List.getElem?_set_ne e, ← List.getD_eq_getElem?_getD]
      exact h.old j hj
theorem NaEnd.leaf {c : Ks} (ok : KsOk c) {s : Nat → Sp} {i : Nat} {S : List Sp} (h0 : NaSt c s S) (hi : i < c.n) (hl : sonsL c i = []) : NaEnd c s i S S := by
  refine ⟨h0.1, fun j hd => ?_, fun j _ => Or.inl rfl⟩
  cases hd with
  | self =>
    rcases h0.2 i hi with e | e
    · rw [e, narS_leaf ok hl]
    · exact e
  | step h1 => rw [hl] at h1; cases h1
def encS (x : Sp) : List Value := [.int .i64 x.1, .int .i64 x.2]
theorem RowW.below9 {α : Type} {w w' : World} {b : Nat} {T : TypeId} {f : α → List Value} {A : Option Addr} {l : List α} (h : RowW w b T f A l) (hb : Below w.heap.size w w') : RowW w' b T f A l := h.kept (fun _ cur hc => hc.below hb hc.lt)
theorem rowW_keep {α : Type} {w w' : World} {b : Nat} {T : TypeId} {f : α → List Value} {A : Option Addr} {l : List α} {Sx : Nat → Prop} (h : RowW w b T f A l) (hk : Keep Sx w w') (hn : ¬ Sx b) : RowW w' b T f A l := h.kept (fun _ cur hb => hk.blk hb hn)
theorem rowS_at {w : World} {b : Nat} {T : TypeId} {A : Option Addr} {l : List Sp} {k : Nat} {x : Sp} (h : RowW w b T encS A l) (hx : l[k]? = some x) : w.cell? ⟨b, k * 2, none⟩ = some (.int .i64 x.1) ∧ w.cell? ⟨b, k * 2 + 1, none⟩ = some (.int .i64 x.2) ∧ b < w.heap.size ∧ ∀ o, w.frozen? ⟨b, o, none⟩ = false := by
  have h2 := h.at_ (size := 2) (fun _ => rfl) hx
  exact ⟨h2.2.2.2 0 _ rfl, h2.2.2.2 1 _ rfl, h2.2.1, h2.2.2.1⟩
theorem rowS_set {w : World} {b : Nat} {T : TypeId} {A : Option Addr} {l : List Sp} {k : Nat} {x : Sp} (h : RowW w b T encS A l) (hx : l[k]? = some x) (y : Sp) : RowW ((w.setCell ⟨b, k * 2, none⟩ (.int .i64 y.1)).setCell ⟨b, k * 2 + 1, none⟩ (.int .i64 y.2)) b T encS A (l.set k y) := by
  have h1 := h.set_ (size := 2) (fun _ => rfl) (x' := (y.1, x.2)) (j := 0) (u := .int .i64 y.1) hx (by decide) rfl
  have hl := (List.getElem?_eq_some_iff.1 hx).1
  have h2 := h1.set_ (size := 2) (fun _ => rfl) (i := k) (x := (y.1, x.2)) (x' := y) (j := 1) (u := .int .i64 y.2) (by rw [List.getElem?_set_self hl]) (by decide) rfl
  rw [List.set_set] at h2
  exact h2
theorem keep_from {S S' : Nat → Prop} {w w1 w2 : World} (h : Below w.heap.size w w1) (k : Keep S w1 w2) (hs : ∀ b, S b → b < w.heap.size → S' b) : Keep S' w w2 :=
  ⟨k.os.trans h.os, k.tape.trans h.tape, k.output.trans h.output, Nat.le_trans h.size k.size, fun i hi hn => (k.block i (Nat.lt_of_lt_of_le hi h.size) (fun e => hn (hs i e hi))).trans (h.block i hi)⟩
/-- What narrow works with; it writes into block sp only. -/
structure NaX (c : Ks) (nA vA : Option Addr) (n nc vc sc tB fB sp B : Nat) (W : World) : Prop where
  bt : Blk W tB 118 #[.slice nA n nc, .slice vA n vc, .slice (some ⟨sp, 0, none⟩) n sc]
  bf : Blk W fB 139 #[.func (.func 105) #[] #[.pointer (some ⟨tB, 0, none⟩), .pointer (some ⟨fB, 0, none⟩)]]
  inn : KsIn W B n nA vA c
  lt : sp < W.heap.size
  lo : B ≤ sp
  ne : tB ≠ sp ∧ fB ≠ sp
theorem KsIn.keep {w w' : World} {B n : Nat} {nA vA : Option Addr} {c : Ks} {Sx : Nat → Prop} (h : KsIn w B n nA vA c) (hB : B ≤ w.heap.size) (k : Keep Sx w w') (hs : ∀ b, Sx b → B ≤ b) : KsIn w' B n nA vA c :=
  ⟨h.nd.keep (fun p hp => World.cell?_of_block (k.block p.block (by omega) (fun e => by have := hs _ e; omega))), h.vl.keep (fun p hp => World.cell?_of_block (k.block p.block (by omega) (fun e => by have := hs _ e; omega)))⟩
section
variable {c : Ks} {nA vA : Option Addr} {n nc vc sc tB fB sp B : Nat} {W W' : World}
theorem NaX.keep (x : NaX c nA vA n nc vc sc tB fB sp B W) (k : Keep (fun i => i = sp) W W') : NaX c nA vA n nc vc sc tB fB sp B W' :=
  ⟨k.blk x.bt x.ne.1, k.blk x.bf x.ne.2, x.inn.keep (by have := x.lt; have := x.lo; omega) k (fun b e => by rw [e]; exact x.lo), Nat.lt_of_lt_of_le x.lt k.size, x.lo, x.ne⟩
theorem NaX.below (x : NaX c nA vA n nc vc sc tB fB sp B W) (k : Below W.heap.size W W') : NaX c nA vA n nc vc sc tB fB sp B W' := x.keep (Keep.of_below k)
theorem KsIn.more {w : World} {B B' n : Nat} {nA vA : Option Addr} {c : Ks} (h : KsIn w B n nA vA c) (hB : B ≤ B') : KsIn w B' n nA vA c := ⟨h.nd.more hB, h.vl.more hB⟩
end
def na7Phi (xb k sp : Nat) (slo shi : Int) (fn : Value) (r : Sp) (c : Ks) (s0 : Nat → Sp) (S1 : List Sp) : Nat → Value → World → (Nat → Nat) → Prop
  | 0, v, _, _ => v = .agg #[.int .i64 slo, .int .i64 shi]
  | 1, v, _, _ => v = fn
  | 2, v, _, _ => v = .int .i64 (k : Int)
  | 3, v, W, _ => v = .agg #[.int .i64 r.1, .int .i64 r.2] ∧ ∃ S2, RowW W sp 138 encS (some ⟨sp, 0, none⟩) S2 ∧ NaEnd c s0 k S1 S2
  | 4, v, _, _ => v = .agg #[.int .i64 (slo + r.1), .int .i64 (shi + r.2)]
  | 5, _, W, _ => Blk W xb 138 #[.int .i64 (slo + r.1), .int .i64 (shi + r.2)]
  | _, _, _, _ => True
theorem na7Phi_k {xb k sp z : Nat} {slo shi : Int} {fn : Value} {r : Sp} {c : Ks} {s0 : Nat → Sp} {S1 : List Sp} {j : Nat} {v : Value} {W W' : World} {γ γ' : Nat → Nat} (hk : Keep (fun b => b = z) W W') (h5 : j = 5 → xb ≠ z) (h3 : j = 3 → sp ≠ z) (h : na7Phi xb k sp slo shi fn r c s0 S1 j v W γ) : na7Phi xb k sp slo shi fn r c s0 S1 j v W' γ' := by
  unfold na7Phi at h ⊢
  split at h
  all_goals first | exact h | trivial | skip
  · obtain ⟨e, S2, h1, h2⟩ := h; exact ⟨e, S2, rowW_keep h1 hk (h3 rfl), h2⟩
  · exact hk.blk h (h5 rfl)
theorem na7Phi_b {xb k sp : Nat} {slo shi : Int} {fn : Value} {r : Sp} {c : Ks} {s0 : Nat → Sp} {S1 : List Sp} {j : Nat} {v : Value} {W W' : World} {γ γ' : Nat → Nat} (hb : Below W.heap.size W W') (h : na7Phi xb k sp slo shi fn r c s0 S1 j v W γ) : na7Phi xb k sp slo shi fn r c s0 S1 j v W' γ' := by
  unfold na7Phi at h ⊢
  split at h
  all_goals first | exact h | trivial | skip
  · obtain ⟨e, S2, h1, h2⟩ := h; exact ⟨e, S2, h1.below9 hb, h2⟩
  · exact h.below hb h.lt
def na9Phi (tB sp n sc i : Nat) (x y z : Sp) (S1 : List Sp) : Nat → Value → World → (Nat → Nat) → Prop
  | 0, v, _, _ => v = .pointer (some ⟨tB, 2, none⟩)
  | 1, v, _, _ => v = .slice (some ⟨sp, 0, none⟩) n sc
  | 2, v, _, _ => v = .int .i64 (i : Int)
  | 3, v, _, _ => v = .pointer (some ⟨tB, 2, none⟩)
  | 4, v, _, _ => v = .slice (some ⟨sp, 0, none⟩) n sc
  | 5, v, _, _ => v = .int .i64 (i : Int)
  | 6, v, _, _ => v = .pointer (some ⟨sp, i * 2, none⟩)
  | 7, v, _, _ => v = .agg #[.int .i64 x.1, .int .i64 x.2]
  | 8, v, _, _ => v = .agg #[.int .i64 y.1, .int .i64 y.2]
  | 9, v, _, _ => v = .agg #[.int .i64 z.1, .int .i64 z.2]
  | 10, v, _, _ => v = .pointer (some ⟨sp, i * 2, none⟩)
  | 11, _, W, _ => RowW W sp 138 encS (some ⟨sp, 0, none⟩) (S1.set i z)
  | _, _, _, _ => True
theorem na9Phi_w {tB sp n sc i : Nat} {x y z : Sp} {S1 : List Sp} {j : Nat} {v : Value} {W W' : World} {γ γ' : Nat → Nat} (hj : j ≠ 11) (h : na9Phi tB sp n sc i x y z S1 j v W γ) : na9Phi tB sp n sc i x y z S1 j v W' γ' := by
  unfold na9Phi at h ⊢
  split at h <;> first | exact h | exact absurd rfl hj | trivial
def SpB (c : Ks) (s0 : Nat → Sp) : Prop := ∀ i, i < c.n → 0 ≤ (s0 i).1 ∧ (s0 i).1 ≤ (s0 i).2 ∧ (s0 i).2 ≤ 1000000000
set_option maxRecDepth 100000 in
set_option maxHeartbeats 8000000 in
theorem narrow_any (c : Ks) (ok : KsOk c) (s0 : Nat → Sp) (hs0 : SpB c s0) (nA vA : Option Addr) (n nc vc sc tB fB sp B : Nat) (hcn : c.n = n) : ∀ (m i : Nat) (S : List Sp) (w : World), n ≤ i + m → i < n → NaX c nA vA n nc vc sc tB fB sp B w → RowW w sp 138 encS (some ⟨sp, 0, none⟩) S → NaSt c s0 S →
    Calls Try.prog 105 #[.int .i64 (i : Int), .pointer (some ⟨tB, 0, none⟩), .pointer (some ⟨fB, 0, none⟩)] w fun e w' => e = .returned (.agg #[.int .i64 (narS c s0 i).1, .int .i64 (narS c s0 i).2]) ∧ Keep (fun b => b = sp) w w' ∧ ∃ S', RowW w' sp 138 encS (some ⟨sp, 0, none⟩) S' ∧ NaEnd c s0 i S S' := by
  intro m
  induction m with
  | zero => intro i _ _ h1 h2; omega
  | succ m ih =>
    intro i S w hm hi hx0 hR hst
    have IH := Lib.hid ih
    have OK := Lib.hid ok
    have HX := Lib.hid hx0
    have HR0 := Lib.hid hR
    have HST := Lib.hid hst
    have HM := Lib.hid (And.intro hm (And.intro hi hcn))
    have h14 : n ≤ 14 := by rw [← hcn]; exact ok.n14
    have HS0 := Lib.hid hs0
    have HND := Lib.hid (narS_bd ok hs0)
    have HWS := Lib.hid hx0.lt
    have hi0 : (0 : Int) ≤ (i : Int) := by omega
    have hin : (i : Int) < (n : Int) := by omega
    have hi9 : (i : Int) ≤ 14 := by omega
    have hiN : i < n := hi
    have SN := Lib.hid (fun W (hW : Below w.heap.size w W) => sons_any nA vA n nc vc i c W h14 ((hx0.inn.more (by have := hx0.lt; have := hx0.lo; omega)).next hW))
    have LS := Lib.hid (fun W (hW : Below w.heap.size w W) => loss_any nA vA n nc vc i c W hi h14 ((hx0.inn.more (by have := hx0.lt; have := hx0.lo; omega)).next hW))
    have t0 := hx0.bt.cell 0
    have t1 := hx0.bt.cell 1
    have zt := hx0.bt.lt
    simp only [List.getElem?_toArray, List.getElem?_cons_zero, List.getElem?_cons_succ] at t0 t1
    have g1 : w.heap.size < w.heap.size + 1 := by omega
    clear hx0 hR hst hm hi hs0 ih ok hcn
    go_enter Try.func105, Try.ntmps105
    go_wp2_with fail
    obtain ⟨rb, hrb⟩ : ∃ z, z = w.heap.size := ⟨_, rfl⟩
    obtain ⟨w1, hw1⟩ : ∃ z, z = w.alloc (.cells #[.int .i64 0, .int .i64 0] 138) := ⟨_, rfl⟩
    have RB : Hid (Blk w1 rb 138 #[.int .i64 0, .int .i64 0]) := Lib.hid (by rw [hw1, hrb]; exact heap_alloc_new w _)
    have Sw1 : Hid (w1.heap.size = rb + 1) := Lib.hid (by rw [hw1, hrb, World.size_alloc])
    have Zrb : Hid (w.heap.size ≤ rb) := Lib.hid (by rw [hrb]; exact Nat.le_refl _)
    have hBn : Below w.heap.size w w1 := by rw [hw1]; exact (Below.refl _ _).alloc (Nat.le_refl _) _
    rw [← hw1, ← hrb]
    have B0 : Hid (Below w.heap.size w w1) := Lib.hid hBn
    clear hw1 hrb hBn
    clear g1 t0 t1 zt
    refine (SN.out _ B0.out).mono ?_
    rintro e w2 ⟨A, ca, rfl, ho, hB⟩
    have B1 : Hid (Below w1.heap.size w1 w2) := Lib.hid hB
    obtain ⟨l, hl⟩ : ∃ z, z = sonsL c i := ⟨_, rfl⟩
    obtain ⟨ln, hln⟩ : ∃ z, z = l.length := ⟨_, rfl⟩
    rw [← hl, ← hln] at ho
    rw [← hl, ← hln]
    have HL := Lib.hid (And.intro hl hln)
    have HLM : Hid (∀ x ∈ l, i < x ∧ x < n) := Lib.hid (fun x hx => by have h9 := sons_gt OK.out (by rw [← hl]; exact hx); exact ⟨h9.1, by rw [← HM.out.2.2]; exact h9.2⟩)
    have HO := Lib.hid (And.intro ho (row_rd (f := encN) (size := 1) (fun _ => rfl) hln.symm ho))
    have HL14 : Hid (ln ≤ 14) := Lib.hid (by
      have h1 := sonsK_le c i c.n
      have h2 : sonsL c i = sonsK c i c.n := rfl
      rw [← h2, ← hl, ← hln] at h1
      have := OK.out.n14
      omega)
    clear hB ho
    by_cases h0 : ln = 0
    · subst h0
      have HLE : Hid (sonsL c i = []) := Lib.hid (by rw [← hl]; exact List.eq_nil_of_length_eq_zero hln.symm)
      have HEND := Lib.hid (NaEnd.leaf OK.out HST.out (by rw [HM.out.2.2]; exact HM.out.2.1) HLE.out)
      obtain ⟨x, hx⟩ : ∃ x, S[i]? = some x := ⟨_, List.getElem?_eq_getElem (by rw [HST.out.1, HM.out.2.2]; exact HM.out.2.1)⟩
      have HXX : Hid (x = narS c s0 i) := Lib.hid (by
        have h9 := HEND.out.new i (.self i)
        rw [List.getD_eq_getElem?_getD, hx] at h9
        exact h9)
      obtain ⟨x1, x2⟩ := x
      have hrw := HR0.out.below9 (below3 B0.out B1.out (Nat.le_refl _))
      obtain ⟨ca1, ca2, zsp, _⟩ := rowS_at hrw hx
      dsimp only at ca1 ca2
      have HRW := Lib.hid hrw
      clear hrw hx hl hln
      have hbk := (HX.out.below (below3 B0.out B1.out (Nat.le_refl _))).bt
      have t2 := hbk.cell 2
      have zt := hbk.lt
      simp only [List.getElem?_toArray, List.getElem?_cons_zero, List.getElem?_cons_succ] at t2
      clear hbk
      have hrb := RB.out.below B1.out RB.out.lt
      have d0 := hrb.cell 0
      have d1 := hrb.cell 1
      simp only [List.getElem?_toArray, List.getElem?_cons_zero, List.getElem?_cons_succ] at d0 d1
      have zr := hrb.lt
      have fr := hrb.frozen
      obtain ⟨W', hW'⟩ : ∃ z, z = ((w2.setCell ⟨rb, 0, none⟩ (.int .i64 x1)).setCell ⟨rb, 1, none⟩ (.int .i64 x2)) := ⟨_, rfl⟩
      have hkk : Keep (fun b => b = rb) w2 W' := by rw [hW']; exact (((Keep.refl (fun b => b = rb) w2).setCell rfl _).setCell rfl _)
      have hrow : Blk W' rb 138 #[.int .i64 x1, .int .i64 x2] := by
        have h := ((hrb.set_ 0 (.int .i64 x1)).set_ 1 (.int .i64 x2))
        rw [hW']
        simpa using h
      have HRS := Lib.hid hrow
      have HKF : Hid (Keep (fun b => b = sp) w W') := Lib.hid (keep_from (below3 B0.out B1.out (Nat.le_refl _)) hkk (fun b e hb => by rw [e] at hb; have := Zrb.out; omega))
      have HRF : Hid (RowW W' sp 138 encS (some ⟨sp, 0, none⟩) S) := Lib.hid (rowW_keep HRW.out hkk (fun e => by have := Zrb.out; have := HWS.out; omega))
      clear hrow hkk hrb
      go_wp2
      rw [← hW']
      refine bodyPost_ret (v := .agg #[.int .i64 x1, .int .i64 x2]) (results_cell_row rfl _ _ rb 138 #[.int .i64 x1, .int .i64 x2] _ _ rfl HRS.out Try.underlying138 rfl (by kernel_rfl)) rfl ?_
      exact ⟨by rw [← HXX.out], HKF.out, S, HRF.out, HEND.out⟩
    · have hln1 : (0 : Int) < (ln : Int) := by omega
      have hlnN : 0 < ln := by omega
      have HNE : Hid (sonsL c i ≠ []) := Lib.hid (by rw [← hl]; intro e; rw [e] at hln; exact h0 hln)
      obtain ⟨lo, hlo⟩ : ∃ z, z = (c.nd i).lo := ⟨_, rfl⟩
      obtain ⟨hi9x, hhi⟩ : ∃ z, z = (c.nd i).hi := ⟨_, rfl⟩
      have HLH : Hid (0 ≤ lo ∧ lo ≤ hi9x ∧ hi9x ≤ 1000000000) := Lib.hid (by rw [hlo, hhi]; exact OK.out.lh i (by rw [HM.out.2.2]; exact HM.out.2.1))
      have LS2 := Lib.hid (LS.out w2 (below3 B0.out B1.out (Nat.le_refl _)))
      rw [← hlo, ← hhi] at LS2
      have HLX := Lib.hid (And.intro hlo hhi)
      have hbk := (HX.out.below (below3 B0.out B1.out (Nat.le_refl _))).bt
      have t0 := hbk.cell 0
      have t1 := hbk.cell 1
      have zt := hbk.lt
      simp only [List.getElem?_toArray, List.getElem?_cons_zero, List.getElem?_cons_succ] at t0 t1
      clear hbk h0 hlo hhi hl
      have HLN := Lib.hid hln
      clear hln
      go_wp2_with fail
      refine LS2.out.mono ?_
      rintro e w3 ⟨rfl, hB⟩
      have g1 : w3.heap.size < w3.heap.size + 1 := by omega
      have B2 : Hid (Below w2.heap.size w2 w3) := Lib.hid hB
      clear hB LS2 t0 t1 zt
      go_wp2_with fail
      obtain ⟨xb, hxb⟩ : ∃ z, z = w3.heap.size := ⟨_, rfl⟩
      obtain ⟨w4, hw4⟩ : ∃ z, z = w3.alloc (.cells #[.int .i64 lo, .int .i64 hi9x] 138) := ⟨_, rfl⟩
      have XB : Hid (Blk w4 xb 138 #[.int .i64 lo, .int .i64 hi9x]) := Lib.hid (by rw [hw4, hxb]; exact heap_alloc_new w3 _)
      have Sw4 : Hid (w4.heap.size = xb + 1) := Lib.hid (by rw [hw4, hxb, World.size_alloc])
      have Zxb : Hid (w3.heap.size ≤ xb) := Lib.hid (by rw [hxb]; exact Nat.le_refl _)
      have hBn : Below w3.heap.size w3 w4 := by rw [hw4]; exact (Below.refl _ _).alloc (Nat.le_refl _) _
      rw [← hw4, ← hxb]
      have B3 : Hid (Below w3.heap.size w3 w4) := Lib.hid hBn
      clear hw4 hxb hBn
      clear g1
      have HSZ : Hid (w.heap.size ≤ rb ∧ rb < xb ∧ sp < rb ∧ w4.heap.size = xb + 1) := Lib.hid (by
        have h1 := Zrb.out
        have h2 := RB.out.lt
        have h3 := B1.out.size
        have h4 := B2.out.size
        have h5 := Zxb.out
        have h6 := HWS.out
        have h7 := Sw4.out
        exact ⟨by omega, by omega, by omega, by omega⟩)
      obtain ⟨sl, hsl⟩ : ∃ z : Nat → Int, z = fun k => lo + ((l.take k).map fun j => (narS c s0 j).1).sum := ⟨_, rfl⟩
      obtain ⟨sh, hsh⟩ : ∃ z : Nat → Int, z = fun k => hi9x + ((l.take k).map fun j => (narS c s0 j).2).sum := ⟨_, rfl⟩
      have HSL : Hid (sl 0 = lo ∧ sh 0 = hi9x ∧ (∀ k x, l[k]? = some x → sl (k + 1) = sl k + (narS c s0 x).1 ∧ sh (k + 1) = sh k + (narS c s0 x).2) ∧ (∀ k, 0 ≤ sl k ∧ sl k ≤ 200000000000000) ∧ (∀ k, 0 ≤ sh k ∧ sh k ≤ 200000000000000)) := Lib.hid (by
        subst hsl hsh
        refine ⟨by simp, by simp, fun k x hx => ?_, fun k => ?_, fun k => ?_⟩
        · have e : l.take (k + 1) = l.take k ++ [x] := by rw [List.take_add_one, hx]; rfl
          simp only [e, List.map_append, List.sum_append, List.map_cons, List.map_nil, List.sum_cons, List.sum_nil]
          omega
        · dsimp only
          have e1 := sum_pow_le (f := fun k => (narS c s0 k).1) (g := fun _ => 8192) (l.take k) fun j hj => by
            have h1 := HLM.out j (List.mem_of_mem_take hj)
            have h2 := (HND.out j (by rw [HM.out.2.2]; exact h1.2)).1
            have h3 : 2 ^ (c.n - 1 - j) ≤ 2 ^ 13 := Nat.pow_le_pow_right (by omega) (by have := OK.out.n14; omega)
            have h4 : ((2 ^ (c.n - 1 - j) : Nat) : Int) ≤ 8192 := by have := Int.ofNat_le.2 h3; simpa using this
            exact ⟨h2.1, by show _ ≤ 1000000000 * ((8192 : Nat) : Int); omega⟩
          have e2 : ((l.take k).map fun _ => 8192).sum ≤ 14 * 8192 := by
            rw [List.map_const', List.sum_replicate_nat, List.length_take]
            have := HL14.out
            have := HLN.out
            exact Nat.mul_le_mul_right _ (by omega)
          have := HLH.out
          omega
        · dsimp only
          have e1 := sum_pow_le (f := fun k => (narS c s0 k).2) (g := fun _ => 1) (l.take k) fun j hj => by
            have h1 := HLM.out j (List.mem_of_mem_take hj)
            have h2 := (HND.out j (by rw [HM.out.2.2]; exact h1.2)).2
            exact ⟨h2.1, by show _ ≤ 1000000000 * ((1 : Nat) : Int); omega⟩
          have e2 : ((l.take k).map fun _ => 1).sum ≤ 14 * 1 := by
            rw [List.map_const', List.sum_replicate_nat, List.length_take]
            have := HL14.out
            have := HLN.out
            exact Nat.mul_le_mul_right _ (by omega)
          have := HLH.out
          omega)
      have HSUM : Hid (sl ln = (c.nd i).lo + ((sonsL c i).map fun k => (narS c s0 k).1).sum ∧ sh ln = (c.nd i).hi + ((sonsL c i).map fun k => (narS c s0 k).2).sum) := Lib.hid (by
        subst hsl hsh
        rw [← HLX.out.1, ← HLX.out.2, ← HL.out.1, HLN.out]
        simp only [List.take_length]
        exact ⟨trivial, trivial⟩)
      have XB0 : Hid (Blk w4 xb 138 #[.int .i64 (sl 0), .int .i64 (sh 0)]) := Lib.hid (by rw [HSL.out.1, HSL.out.2.1]; exact XB.out)
      have HW0 : Hid (NaWay c s0 l 0 S S) := Lib.hid ⟨HST.out.1, fun x hx => by simp at hx, fun j _ => Or.inl rfl⟩
      clear hsl hsh
      have hln0 : (0 : Int) ≤ (ln : Int) := by omega
      go_loopw [22] (fun iv wr => ∃ (k : Nat) (S1 : List Sp), k ≤ ln ∧ iv = .int .i64 ((k : Nat) : Int) ∧ Hid (Keep (fun b => b = sp ∨ b = xb) w4 wr ∧ Blk wr xb 138 #[.int .i64 (sl k), .int .i64 (sh k)] ∧ RowW wr sp 138 encS (some ⟨sp, 0, none⟩) S1 ∧ NaWay c s0 l k S S1)) (fun iv _ => ln - (intOf iv).toNat)
      case atStart => exact ⟨0, S, Nat.zero_le _, rfl, Lib.hid ⟨Keep.refl _ _, XB0.out, HR0.out.below9 (below3 (below3 (below3 B0.out B1.out (Nat.le_refl _)) B2.out (Nat.le_refl _)) B3.out (Nat.le_refl _)), HW0.out⟩⟩
      case round =>
        obtain ⟨k, S1, hk, rfl, HW⟩ := hrel
        by_cases hlt : k < ln
        · have HLT : Hid (k < ln) := Lib.hid hlt
          have hk0 : (0 : Int) ≤ (k : Int) := by omega
          have hkn : (k : Int) < (ln : Int) := by omega
          have hk9 : (k : Int) ≤ 14 := by have := HL14.out; omega
          obtain ⟨gb, go, x, enA, hgb, hx, hcx⟩ := (HO.out.2.below (below3 B2.out B3.out (Nat.le_refl _))).at_ hlt
          have cx := hcx 0 _ rfl
          rw [Nat.mul_one, Nat.add_zero] at cx
          have HOB : Hid (gb ≠ sp ∧ gb ≠ xb ∧ gb < w4.heap.size) := Lib.hid (by
            have h0 := HO.out.1
            rw [enA] at h0
            rcases h0.2 with ⟨e, _⟩ | ⟨g, cap, cur, e, h1, h2, _⟩
            · cases e
            · simp only [Value.slice.injEq, Option.some.injEq, Addr.mk.injEq] at e
              have h3 := (show Blk w2 g _ cur from h2).lt
              have h4 := HSZ.out
              have h5 := Sw1.out
              have h6 := B2.out.size
              have h7 := Zxb.out
              exact ⟨by omega, by omega, by omega⟩)
          replace cx := HW.out.1.cell HOB.out.2.2 (by have := HOB.out; omega) cx
          have zx : gb < wr.heap.size := Nat.lt_of_lt_of_le HOB.out.2.2 HW.out.1.size
          have HXK : Hid (l[k]? = some x ∧ i < x ∧ x < n) := Lib.hid ⟨hx, HLM.out x (List.mem_of_getElem? hx)⟩
          have HNX : Hid (NaX c nA vA n nc vc sc tB fB sp B wr) := Lib.hid (by
            have h1 := HX.out.below (below3 (below3 (below3 B0.out B1.out (Nat.le_refl _)) B2.out (Nat.le_refl _)) B3.out (Nat.le_refl _))
            have h2 := HSZ.out
            refine ⟨HW.out.1.blk h1.bt (by have h3 := HX.out.bt.lt; have h4 := h1.ne.1; omega), HW.out.1.blk h1.bf (by have h3 := HX.out.bf.lt; have h4 := h1.ne.2; omega), h1.inn.keep (by have := h1.lt; have := h1.lo; omega) HW.out.1 (fun b e => by have := h1.lo; omega), Nat.lt_of_lt_of_le h1.lt HW.out.1.size, h1.lo, h1.ne⟩)
          have HNE2 : Hid (xb ≠ sp ∧ fB ≠ xb) := Lib.hid (by have := HSZ.out; have := HX.out.bf.lt; exact ⟨by omega, by omega⟩)
          obtain ⟨slo, hslo⟩ : ∃ z, z = sl k := ⟨_, rfl⟩
          obtain ⟨shi, hshi⟩ : ∃ z, z = sh k := ⟨_, rfl⟩
          obtain ⟨r, hr⟩ : ∃ z, z = narS c s0 x := ⟨_, rfl⟩
          have HSB : Hid ((0 ≤ slo ∧ slo ≤ 200000000000000) ∧ (0 ≤ shi ∧ shi ≤ 200000000000000) ∧ (0 ≤ r.1 ∧ r.1 ≤ 10000000000000) ∧ (0 ≤ r.2 ∧ r.2 ≤ 1000000000)) := Lib.hid (by
            rw [hslo, hshi, hr]
            have h2 := HND.out x (by rw [HM.out.2.2]; exact HXK.out.2.2)
            have h3 : 2 ^ (c.n - 1 - x) ≤ 2 ^ 13 := Nat.pow_le_pow_right (by omega) (by have := OK.out.n14; omega)
            have h4 : ((2 ^ (c.n - 1 - x) : Nat) : Int) ≤ 8192 := by have := Int.ofNat_le.2 h3; simpa using this
            exact ⟨HSL.out.2.2.2.1 k, HSL.out.2.2.2.2 k, ⟨h2.1.1, by omega⟩, h2.2⟩)
          have HSS : Hid (sl k = slo ∧ sh k = shi ∧ sl (k + 1) = slo + r.1 ∧ sh (k + 1) = shi + r.2 ∧ narS c s0 x = r) := Lib.hid (by
            have h1 := HSL.out.2.2.1 k x HXK.out.1
            rw [hslo, hshi, hr]
            exact ⟨rfl, rfl, h1.1, h1.2, rfl⟩)
          have XBK : Hid (Blk wr xb 138 #[.int .i64 slo, .int .i64 shi]) := Lib.hid (by rw [hslo, hshi]; exact HW.out.2.1)
          have IHX := Lib.hid (fun (W : World) (h1 : NaX c nA vA n nc vc sc tB fB sp B W) (h2 : RowW W sp 138 encS (some ⟨sp, 0, none⟩) S1) => IH.out x S1 W (by have := HM.out.1; have := HXK.out; omega) HXK.out.2.2 h1 h2 (HW.out.2.2.2.st HST.out))
          have PLX := Lib.hid (fun (W : World) => plus_any slo shi r.1 r.2 (by have := HSB.out; omega) W)
          clear hslo hshi hr hx hcx hgb hlt
          subst enA
          go_wp2_with fail
          refine wp_region_free10 5 (by kernel_rfl) [some 26, some 27, some 28, some 29, some 30, none] [[], [], [], [1, 2], [0, 3, 3], [4, 4, 0, 1, 2, 3, 4]] [(6, .pointer (some ⟨xb, 0, none⟩)), (2, .pointer (some ⟨fB, 0, none⟩)), (8, .int .i64 (x : Int))] (fun W _ => Keep (fun b => b = sp ∨ b = xb) wr W ∧ ∃ v0 v1, Blk W xb 138 #[v0, v1]) (na7Phi xb x sp slo shi (.func (.func 105) #[] #[.pointer (some ⟨tB, 0, none⟩), .pointer (some ⟨fB, 0, none⟩)]) r c s0 S1) (fun i W _ => (i = 0 → Blk W xb 138 #[.int .i64 slo, .int .i64 shi]) ∧ (i = 3 → RowW W sp 138 encS (some ⟨sp, 0, none⟩) S1)) (by kernel_rfl) (by kernel_rfl) rfl (by kernel_rfl) ?_ ?_ ⟨fun _ => 0, ⟨(Keep.refl _ _).drew, _, _, XBK.out⟩, fun i _ => ⟨fun _ => XBK.out, fun _ => HW.out.2.2.1.below9 (Below.refl _ _).drew⟩⟩ ?_ ?_
          · intro z hz
            simp only [List.mem_cons, List.mem_nil_iff, or_false] at hz
            rcases hz with rfl | rfl | rfl
            all_goals exact ⟨by kernel_rfl, rfl⟩
          · intro i v W γ hi h
            rcases i with _ | _ | _ | _ | _ | _ | i
            all_goals first | exact h | (simp at hi)
          · refine ⟨?_, ?_, ?_, ?_, ?_, ?_, trivial⟩
            all_goals
              intro a9 W γ ev hcc hff hfx hR hψ hpre
              simp only [List.mem_cons, List.mem_nil_iff, or_false, forall_eq, forall_eq_or_imp] at hfx
              obtain ⟨f0, f1, f2⟩ := hfx
              have HR := Lib.hid hR
              clear hR
            · refine ⟨fun hg K hK => ?_, trivial⟩
              clear hg
              have hxb9 := (hψ : (0 = 0 → Blk W xb 138 #[.int .i64 slo, .int .i64 shi]) ∧ (0 = 3 → RowW W sp 138 encS (some ⟨sp, 0, none⟩) S1)).1 rfl
              have e0 := hxb9.cell 0
              have e1 := hxb9.cell 1
              simp only [List.getElem?_toArray, List.getElem?_cons_zero, List.getElem?_cons_succ] at e0 e1
              have ze := hxb9.lt
              clear hxb9
              clear hpre hψ
              go_simp
              exact hK _ _ γ HR.out (fun _ _ _ _ h => h) (fun _ _ _ h => h) rfl
            · refine ⟨fun hg K hK => ?_, trivial⟩
              clear hg
              have hbk := HR.out.1.blk HNX.out.bf (by have h1 := HNX.out.ne.2; have h2 := HNE2.out.2; omega)
              have e0 := hbk.cell 0
              simp only [List.getElem?_toArray, List.getElem?_cons_zero] at e0
              have ze := hbk.lt
              clear hbk
              clear hpre hψ
              go_simp
              exact hK _ _ γ HR.out (fun _ _ _ _ h => h) (fun _ _ _ h => h) rfl
            · refine ⟨fun hg K hK => ?_, trivial⟩
              clear hg
              clear hpre hψ
              go_simp
              exact hK _ _ γ HR.out (fun _ _ _ _ h => h) (fun _ _ _ h => h) rfl
            · refine ⟨fun hg K hK => ?_, trivial⟩
              clear hg
              have q0 : ev (.tmp 27) = _ := hpre 1 (by decide)
              have q1 : ev (.tmp 28) = _ := hpre 2 (by decide)
              have hr9 := (hψ : (3 = 0 → Blk W xb 138 #[.int .i64 slo, .int .i64 shi]) ∧ (3 = 3 → RowW W sp 138 encS (some ⟨sp, 0, none⟩) S1)).2 rfl
              obtain ⟨hk9x, v0, v1, hrb⟩ := HR.out
              have hnx : NaX c nA vA n nc vc sc tB fB sp B W := by
                have h1 := HNX.out
                have h2 := HNE2.out
                have h4 := h1.lt
                have h5 := h1.lo
                have h6 := HSZ.out
                refine ⟨hk9x.blk h1.bt (by have h3 := h1.ne.1; have h7 := HX.out.bt.lt; omega), hk9x.blk h1.bf (by have h3 := h1.ne.2; omega), h1.inn.keep (by omega) hk9x (fun b e => by omega), Nat.lt_of_lt_of_le h1.lt hk9x.size, h1.lo, h1.ne⟩
              have C := Lib.hid (IHX.out W hnx hr9)
              rw [HSS.out.2.2.2.2] at C
              have HXA := Lib.hid (And.intro hk9x hrb)
              clear hpre hψ hr9 hk9x hrb hnx
              go_simp
              refine C.out.mono ?_
              rintro e9 w5 ⟨rfl, hK5, S2, hS2, hE2⟩
              have hK6 : Keep (fun b => b = sp ∨ b = xb) W w5 := hK5.mono (fun b e => Or.inl e)
              refine hK _ w5 γ ⟨HXA.out.1.trans hK6, _, _, hK5.blk HXA.out.2 HNE2.out.1⟩ (fun j u hj hne h => na7Phi_k hK5 (fun _ => HNE2.out.1) (fun e => absurd e hne) h) (fun _ j hj h => ⟨fun e => hK5.blk (h.1 e) HNE2.out.1, fun e => absurd e hj⟩) ⟨rfl, S2, hS2, hE2⟩
            · refine ⟨fun hg K hK => ?_, trivial⟩
              clear hg
              have q0 : ev (.tmp 26) = _ := hpre 0 (by decide)
              have q3 : ev (.tmp 29) = _ := (hpre 3 (by decide)).1
              have HXA := HR
              have HPS := Lib.hid hψ
              clear hpre hψ
              go_simp
              refine (PLX.out W).mono ?_
              rintro e9 w5 ⟨rfl, hB5⟩
              obtain ⟨hk9x, v0, v1, hrb⟩ := HXA.out
              refine hK _ w5 γ ⟨hk9x.trans (Keep.of_below hB5), _, _, hrb.below hB5 hrb.lt⟩ (fun j u hj hne h => na7Phi_b hB5 h) (fun _ j hj h => ⟨fun e => (h.1 e).below hB5 (h.1 e).lt, fun e => (h.2 e).below9 hB5⟩) rfl
            · refine ⟨fun hg K hK => ?_, trivial⟩
              clear hg
              have q0 : ev (.tmp 30) = _ := hpre 4 (by decide)
              obtain ⟨hk9x, v0, v1, hrb⟩ := HR.out
              have d0 := hrb.cell 0
              have d1 := hrb.cell 1
              simp only [List.getElem?_toArray, List.getElem?_cons_zero, List.getElem?_cons_succ] at d0 d1
              have zr := hrb.lt
              have fr := hrb.frozen
              obtain ⟨W', hW'⟩ : ∃ z, z = ((W.setCell ⟨xb, 0, none⟩ (.int .i64 (slo + r.1))).setCell ⟨xb, 1, none⟩ (.int .i64 (shi + r.2))) := ⟨_, rfl⟩
              have hkk : Keep (fun b => b = xb) W W' := by rw [hW']; exact (((Keep.refl (fun b => b = xb) W).setCell rfl _).setCell rfl _)
              have hrow : Blk W' xb 138 #[.int .i64 (slo + r.1), .int .i64 (shi + r.2)] := by
                have h := ((hrb.set_ 0 (.int .i64 (slo + r.1))).set_ 1 (.int .i64 (shi + r.2)))
                rw [hW']
                simpa using h
              have HXA := Lib.hid (And.intro hk9x (And.intro hkk hrow))
              clear hpre hψ hk9x hkk hrow hrb
              go_simp
              rw [← hW']
              obtain ⟨h1, h2, h3⟩ := HXA.out
              exact hK undef _ γ ⟨h1.trans (h2.mono (fun b e => Or.inr e)), _, _, h3⟩ (fun j u hj hne h => na7Phi_k (z := xb) h2 (fun e => absurd e hne) (fun _ e => HNE2.out.1 e.symm) h) (fun h => absurd rfl h) h3
          · intro vs wy γ hvl hR hφ
            have q3 := hφ 3 (by decide)
            have q5 := hφ 5 (by decide)
            have HR := Lib.hid hR
            clear hφ hR
            match vs, hvl with
            | [y0, y1, y2, y3, y4, y5], _ =>
            simp only [List.getD_cons_zero, List.getD_cons_succ] at q3 q5
            obtain ⟨_, S2, hS2, hE2⟩ := q3
            have q5 : Blk wy xb 138 #[.int .i64 (slo + r.1), .int .i64 (shi + r.2)] := q5
            have HN2 : Hid (Keep (fun b => b = sp ∨ b = xb) w4 wy ∧ Blk wy xb 138 #[.int .i64 (sl (k + 1)), .int .i64 (sh (k + 1))] ∧ RowW wy sp 138 encS (some ⟨sp, 0, none⟩) S2 ∧ NaWay c s0 l (k + 1) S S2) := Lib.hid ⟨HW.out.1.trans HR.out.1, by rw [HSS.out.2.2.1, HSS.out.2.2.2.1]; exact q5, hS2, HW.out.2.2.2.next (fun y hy => by rw [HM.out.2.2]; exact (HLM.out y hy).2) HXK.out.1 hE2⟩
            clear HR hS2 hE2 q5
            simp [putAll]
            go_wp2
            go_roundw
            case rel => exact ⟨k + 1, S2, by have := HLT.out; omega, by go_num, HN2⟩
            case measure => have := HLT.out; simp [intOf]; omega
        · obtain rfl : ln = k := by omega
          obtain ⟨x, hx⟩ : ∃ x, S1[i]? = some x := ⟨_, List.getElem?_eq_getElem (by rw [HW.out.2.2.2.len, HM.out.2.2]; exact HM.out.2.1)⟩
          have HNAR : Hid ((max x.1 (sl ln), min x.2 (sh ln)) = narS c s0 i) := Lib.hid (by
            rw [HSUM.out.1, HSUM.out.2]
            refine nar_and OK.out HNE.out ?_
            have h9 := (HW.out.2.2.2.st HST.out).2 i (by rw [HM.out.2.2]; exact HM.out.2.1)
            rw [List.getD_eq_getElem?_getD, hx] at h9
            exact h9)
          have HXS := Lib.hid hx
          have HEND := Lib.hid (NaWay.done (s := s0) (i := i) (S0 := S) (S := S1) (by
            have h9 := HW.out.2.2.2
            rw [HLN.out, HL.out.1] at h9
            exact h9) (by rw [HM.out.2.2]; exact HM.out.2.1))
          obtain ⟨x1, x2⟩ := x
          obtain ⟨y1, hy1⟩ : ∃ z, z = sl ln := ⟨_, rfl⟩
          obtain ⟨y2, hy2⟩ : ∃ z, z = sh ln := ⟨_, rfl⟩
          have HXBL : Hid (Blk wr xb 138 #[.int .i64 y1, .int .i64 y2]) := Lib.hid (by rw [hy1, hy2]; exact HW.out.2.1)
          rw [← hy1, ← hy2] at HNAR
          obtain ⟨z1, hz1⟩ : ∃ z, z = max x1 y1 := ⟨_, rfl⟩
          obtain ⟨z2, hz2⟩ : ∃ z, z = min x2 y2 := ⟨_, rfl⟩
          have HZ := Lib.hid (And.intro hz1 hz2)
          have HNAR2 : Hid ((z1, z2) = narS c s0 i) := Lib.hid (by rw [hz1, hz2]; exact HNAR.out)
          have HTB : Hid (Blk wr tB 118 #[.slice nA n nc, .slice vA n vc, .slice (some ⟨sp, 0, none⟩) n sc] ∧ tB ≠ sp ∧ xb ≠ sp ∧ tB ≠ xb ∧ rb ≠ sp ∧ rb ≠ xb) := Lib.hid (by
            have h1 := HX.out.below (below3 (below3 (below3 B0.out B1.out (Nat.le_refl _)) B2.out (Nat.le_refl _)) B3.out (Nat.le_refl _))
            have h2 := HSZ.out
            have h3 := HX.out.bt.lt
            have h4 := h1.ne.1
            exact ⟨HW.out.1.blk h1.bt (by omega), h4, by omega, by omega, by omega, by omega⟩)
          clear hx hy1 hy2 hz1 hz2 hk
          go_wp2_with fail
          refine wp_region_free10 11 (by kernel_rfl) [some 32, some 33, some 34, some 35, some 36, some 37, some 38, some 39, some 40, some 41, some 42, none] [[], [0], [], [], [3], [], [4, 5], [6], [], [7, 8], [1, 2, 0, 1, 2, 3, 4, 5, 6, 7, 8, 9], [10, 9, 9, 0, 1, 2, 3, 4, 5, 6, 7, 8, 9]] [(1, .pointer (some ⟨tB, 0, none⟩)), (0, .int .i64 (i : Int)), (6, .pointer (some ⟨xb, 0, none⟩))] (fun W _ => Keep (fun b => b = sp) wr W) (na9Phi tB sp n sc i (x1, x2) (y1, y2) (z1, z2) S1) (fun i W _ => (i = 7 ∨ i = 11) → RowW W sp 138 encS (some ⟨sp, 0, none⟩) S1) (by kernel_rfl) (by kernel_rfl) rfl (by kernel_rfl) ?_ ?_ ⟨fun _ => 0, (Keep.refl _ _).drew, fun i _ _ => HW.out.2.2.1.below9 (Below.refl _ _).drew⟩ ?_ ?_
          · intro z hz
            simp only [List.mem_cons, List.mem_nil_iff, or_false] at hz
            rcases hz with rfl | rfl | rfl
            all_goals exact ⟨by kernel_rfl, rfl⟩
          · intro i v W γ hi h
            rcases i with _ | _ | _ | _ | _ | _ | _ | _ | _ | _ | _ | _ | i
            all_goals first | exact h | (simp at hi)
          · refine ⟨?_, ?_, ?_, ?_, ?_, ?_, ?_, ?_, ?_, ?_, ?_, ?_, trivial⟩
            all_goals
              intro a9 W γ ev hcc hff hfx hR hψ hpre
              simp only [List.mem_cons, List.mem_nil_iff, or_false, forall_eq, forall_eq_or_imp] at hfx
              obtain ⟨f0, f1, f2⟩ := hfx
              have HR := Lib.hid hR
              clear hR
            · refine ⟨fun hg K hK => ?_, trivial⟩
              clear hg
              clear hpre hψ
              go_simp
              exact hK _ _ γ HR.out (fun _ _ _ _ h => h) (fun _ _ _ h => h) rfl
            · refine ⟨fun hg K hK => ?_, trivial⟩
              clear hg
              have q0 : ev (.tmp 32) = _ := hpre 0 (by decide)
              have hbk := HR.out.blk HTB.out.1 HTB.out.2.1
              have e0 := hbk.cell 2
              simp only [List.getElem?_toArray, List.getElem?_cons_zero, List.getElem?_cons_succ] at e0
              have ze := hbk.lt
              clear hbk
              clear hpre hψ
              go_simp
              exact hK _ _ γ HR.out (fun _ _ _ _ h => h) (fun _ _ _ h => h) rfl
            · refine ⟨fun hg K hK => ?_, trivial⟩
              clear hg
              clear hpre hψ
              go_simp
              exact hK _ _ γ HR.out (fun _ _ _ _ h => h) (fun _ _ _ h => h) rfl
            · refine ⟨fun hg K hK => ?_, trivial⟩
              clear hg
              clear hpre hψ
              go_simp
              exact hK _ _ γ HR.out (fun _ _ _ _ h => h) (fun _ _ _ h => h) rfl
            · refine ⟨fun hg K hK => ?_, trivial⟩
              clear hg
              have q0 : ev (.tmp 35) = _ := hpre 3 (by decide)
              have hbk := HR.out.blk HTB.out.1 HTB.out.2.1
              have e0 := hbk.cell 2
              simp only [List.getElem?_toArray, List.getElem?_cons_zero, List.getElem?_cons_succ] at e0
              have ze := hbk.lt
              clear hbk
              clear hpre hψ
              go_simp
              exact hK _ _ γ HR.out (fun _ _ _ _ h => h) (fun _ _ _ h => h) rfl
            · refine ⟨fun hg K hK => ?_, trivial⟩
              clear hg
              clear hpre hψ
              go_simp
              exact hK _ _ γ HR.out (fun _ _ _ _ h => h) (fun _ _ _ h => h) rfl
            · refine ⟨fun hg K hK => ?_, trivial⟩
              clear hg
              have q0 : ev (.tmp 36) = _ := hpre 4 (by decide)
              have q1 : ev (.tmp 37) = _ := hpre 5 (by decide)
              clear hpre hψ
              go_simp
              exact hK _ _ γ HR.out (fun _ _ _ _ h => h) (fun _ _ _ h => h) rfl
            · refine ⟨fun hg K hK => ?_, trivial⟩
              clear hg
              have q0 : ev (.tmp 38) = _ := hpre 6 (by decide)
              have hr9 := (hψ : (7 = 7 ∨ 7 = 11) → RowW W sp 138 encS (some ⟨sp, 0, none⟩) S1) (Or.inl rfl)
              obtain ⟨e0, e1, ze, _⟩ := rowS_at hr9 HXS.out
              dsimp only at e0 e1
              clear hr9
              clear hpre hψ
              go_simp
              exact hK _ _ γ HR.out (fun _ _ _ _ h => h) (fun _ _ _ h => h) rfl
            · refine ⟨fun hg K hK => ?_, trivial⟩
              clear hg
              have hbk := HR.out.blk HXBL.out HTB.out.2.2.1
              have e0 := hbk.cell 0
              have e1 := hbk.cell 1
              simp only [List.getElem?_toArray, List.getElem?_cons_zero, List.getElem?_cons_succ] at e0 e1
              have ze := hbk.lt
              clear hbk
              clear hpre hψ
              go_simp
              exact hK _ _ γ HR.out (fun _ _ _ _ h => h) (fun _ _ _ h => h) rfl
            · refine ⟨fun hg K hK => ?_, trivial⟩
              clear hg
              have q0 : ev (.tmp 39) = _ := hpre 7 (by decide)
              have q1 : ev (.tmp 40) = _ := hpre 8 (by decide)
              have HXA := HR
              clear hpre hψ
              go_simp
              refine (and_any x1 x2 y1 y2 W).mono ?_
              rintro e9 w5 ⟨rfl, hB5⟩
              refine hK _ w5 γ (HXA.out.trans (Keep.of_below hB5)) (fun j u hj hne h => na9Phi_w (fun e => by subst e; exact absurd (by decide) hj) h) (fun _ j hj h => fun e => (h e).below9 hB5) ?_
              show _ = _
              rw [HZ.out.1, HZ.out.2]
            · refine ⟨fun hg K hK => ?_, trivial⟩
              clear hg
              have q0 : ev (.tmp 33) = _ := hpre 1 (by decide)
              have q1 : ev (.tmp 34) = _ := hpre 2 (by decide)
              clear hpre hψ
              go_simp
              exact hK _ _ γ HR.out (fun _ _ _ _ h => h) (fun _ _ _ h => h) rfl
            · refine ⟨fun hg K hK => ?_, trivial⟩
              clear hg
              have q0 : ev (.tmp 41) = _ := hpre 9 (by decide)
              have q1 : ev (.tmp 42) = _ := hpre 10 (by decide)
              have hr9 := (hψ : (11 = 7 ∨ 11 = 11) → RowW W sp 138 encS (some ⟨sp, 0, none⟩) S1) (Or.inr rfl)
              obtain ⟨e0, e1, ze, fr⟩ := rowS_at hr9 HXS.out
              dsimp only at e0 e1
              have fr0 := fr (i * 2)
              have fr1 := fr (i * 2 + 1)
              obtain ⟨W', hW'⟩ : ∃ z, z = (W.setCell ⟨sp, i * 2, none⟩ (.int .i64 z1)).setCell ⟨sp, i * 2 + 1, none⟩ (.int .i64 z2) := ⟨_, rfl⟩
              have HXA := Lib.hid (And.intro (show RowW W' sp 138 encS (some ⟨sp, 0, none⟩) (S1.set i (z1, z2)) by rw [hW']; exact rowS_set hr9 HXS.out (z1, z2)) (show Keep (fun b => b = sp) W W' by rw [hW']; exact ((Keep.refl (fun b => b = sp) W).setCell rfl _).setCell rfl _))
              have HRW := HR
              clear hpre hψ hr9
              go_simp
              rw [← hW']
              exact hK undef _ γ (HRW.out.trans HXA.out.2) (fun j u hj hne h => na9Phi_w hne h) (fun h => absurd rfl h) HXA.out.1
          · intro vs wy γ hvl hR hφ
            have q11 := hφ 11 (by decide)
            have HR := Lib.hid hR
            clear hφ hR
            match vs, hvl with
            | [y0, y1, y2, y3, y4, y5, y6, y7, y8, y9, y10, y11], _ =>
            simp only [List.getD_cons_zero, List.getD_cons_succ] at q11
            have q11 : RowW wy sp 138 encS (some ⟨sp, 0, none⟩) (S1.set i (z1, z2)) := q11
            have hkw := HR.out
            have HRY := Lib.hid q11
            obtain ⟨ca1, ca2, zsp, _⟩ := rowS_at q11 (x := (z1, z2)) (List.getElem?_set_self (List.getElem?_eq_some_iff.1 HXS.out).1)
            dsimp only at ca1 ca2
            have hbk := hkw.blk HTB.out.1 HTB.out.2.1
            have t2 := hbk.cell 2
            have zt := hbk.lt
            simp only [List.getElem?_toArray, List.getElem?_cons_zero, List.getElem?_cons_succ] at t2
            clear hbk
            have hrb := hkw.blk (HW.out.1.blk (RB.out.below (below3 (below3 B1.out B2.out (Nat.le_refl _)) B3.out (Nat.le_refl _)) RB.out.lt) (by have := HTB.out.2.2.2.2; omega)) HTB.out.2.2.2.2.1
            have d0 := hrb.cell 0
            have d1 := hrb.cell 1
            simp only [List.getElem?_toArray, List.getElem?_cons_zero, List.getElem?_cons_succ] at d0 d1
            have zr := hrb.lt
            have fr := hrb.frozen
            obtain ⟨W', hW'⟩ : ∃ z, z = ((wy.setCell ⟨rb, 0, none⟩ (.int .i64 z1)).setCell ⟨rb, 1, none⟩ (.int .i64 z2)) := ⟨_, rfl⟩
            have hkk : Keep (fun b => b = rb) wy W' := by rw [hW']; exact (((Keep.refl (fun b => b = rb) wy).setCell rfl _).setCell rfl _)
            have hrow : Blk W' rb 138 #[.int .i64 z1, .int .i64 z2] := by
              have h := ((hrb.set_ 0 (.int .i64 z1)).set_ 1 (.int .i64 z2))
              rw [hW']
              simpa using h
            have HRS := Lib.hid hrow
            have HKF : Hid (Keep (fun b => b = sp) w W') := Lib.hid (keep_from (below3 (below3 (below3 B0.out B1.out (Nat.le_refl _)) B2.out (Nat.le_refl _)) B3.out (Nat.le_refl _)) (((HW.out.1.trans (hkw.mono (fun b e => Or.inl e))).mono (S' := fun b => (b = sp ∨ b = xb) ∨ b = rb) (fun b e => Or.inl e)).trans (hkk.mono (fun b e => Or.inr e))) (fun b hb hlt9 => by have := HSZ.out; rcases hb with (h | h) | h <;> omega))
            have HRF : Hid (RowW W' sp 138 encS (some ⟨sp, 0, none⟩) (S1.set i (narS c s0 i))) := Lib.hid (by rw [← HNAR2.out]; exact rowW_keep HRY.out hkk (fun e => HTB.out.2.2.2.2.1 e.symm))
            clear hrow hkk hrb hkw q11 HR
            simp [putAll]
            go_wp2
            rw [← hW']
            refine bodyPost_ret (v := .agg #[.int .i64 z1, .int .i64 z2]) (results_cell_row rfl _ _ rb 138 #[.int .i64 z1, .int .i64 z2] _ _ rfl HRS.out Try.underlying138 rfl (by kernel_rfl)) rfl ?_
            exact ⟨by rw [← HNAR2.out], HKF.out, _, HRF.out, HEND.out⟩
end Go.Proofs.Ytcecbohaajocfaa
