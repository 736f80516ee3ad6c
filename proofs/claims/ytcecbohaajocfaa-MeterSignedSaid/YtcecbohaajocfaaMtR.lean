/- meter: repaired. -/
import Derived.Test.YtcecbohaajocfaaMtC

set_option linter.unusedSimpArgs false
set_option linter.unusedVariables false
namespace Go.Proofs.Ytcecbohaajocfaa
open Go.RowKit

/-- So many sons of a node have their values. -/
structure InK (c : Ks) (S : Nat → Sp) (p : Nat) (l : List Nat) (j : Nat) (L0 L : List Int) : Prop where
  len : L.length = c.n
  old : ∀ i, i ∉ l.take j → L.getD i 0 = L0.getD i 0
  new : ∀ (a b : List Nat) (k : Nat), l = a ++ k :: b → a.length < j → L.getD k 0 = max (S k).1 (L0.getD p 0 - (c.nd p).hi - (a.map fun i => L.getD i 0).sum - (b.map fun i => (S i).2).sum)
  bd : ∀ i, 0 ≤ L.getD i 0 ∧ L.getD i 0 ≤ 1000000000
/-- What is missing. -/
def misK (c : Ks) (S : Nat → Sp) (p : Nat) (l : List Nat) (j : Nat) (L0 L : List Int) : Int := L0.getD p 0 - (c.nd p).hi - ((l.take j).map fun i => L.getD i 0).sum - ((l.drop j).map fun i => (S i).2).sum
theorem sum_nn {f : Nat → Int} {m : Int} : ∀ (l : List Nat), (∀ k ∈ l, 0 ≤ f k ∧ f k ≤ m) → 0 ≤ (l.map f).sum ∧ (l.map f).sum ≤ m * (l.length : Int) := by
  intro l
  induction l with
  | nil => intro _; simp
  | cons k l ih =>
    intro h
    have h1 := h k (List.mem_cons_self ..)
    have h2 := ih fun j hj => h j (List.mem_cons_of_mem _ hj)
    simp only [List.map_cons, List.sum_cons, List.length_cons]
    rw [show ((l.length + 1 : Nat) : Int) = (l.length : Int) + 1 by omega, Int.mul_add, Int.mul_one]
    omega
theorem misK_step {c : Ks} {S : Nat → Sp} {p j k : Nat} {l : List Nat} {L0 L : List Int} (hk : l[j]? = some k) : misK c S p l j L0 L + (S k).2 = L0.getD p 0 - (c.nd p).hi - ((l.take j).map fun i => L.getD i 0).sum - ((l.drop (j + 1)).map fun i => (S i).2).sum := by
  have hj := (List.getElem?_eq_some_iff.1 hk).1
  have e : l.drop j = k :: l.drop (j + 1) := by
    rw [List.drop_eq_getElem_cons hj, (List.getElem?_eq_some_iff.1 hk).2]
  unfold misK
  rw [e, List.map_cons, List.sum_cons]
  omega
theorem getD_set {L : List Int} {k i : Nat} {v : Int} (hk : k < L.length) : (L.set k v).getD i 0 = if i = k then v else L.getD i 0 := by
  by_cases e : i = k
  · subst e; rw [if_pos rfl, List.getD_eq_getElem?_getD, List.getElem?_set_self hk]; rfl
  · rw [if_neg e, List.getD_eq_getElem?_getD, List.getElem?_set_ne (fun h => e h.symm), ← List.getD_eq_getElem?_getD]
theorem InK.step {c : Ks} {S : Nat → Sp} {p j k : Nat} {l : List Nat} {L0 L : List Int} (h : InK c S p l j L0 L) (hs : l.Pairwise (· < ·)) (hk : l[j]? = some k) (hkn : k < c.n) (hS : ∀ i ∈ l, 0 ≤ (S i).1 ∧ (S i).1 ≤ 1000000000 ∧ 0 ≤ (S i).2) (hhi : 0 ≤ (c.nd p).hi) (hL0 : L0.getD p 0 ≤ 1000000000) :
    let v := max (S k).1 (misK c S p l j L0 L + (S k).2)
    InK c S p l (j + 1) L0 (L.set k v) ∧ misK c S p l (j + 1) L0 (L.set k v) = misK c S p l j L0 L + (S k).2 - v ∧ 0 ≤ v ∧ v ≤ 1000000000 := by
  intro v
  have hj := (List.getElem?_eq_some_iff.1 hk).1
  have hkm : k ∈ l := List.mem_of_getElem? hk
  have et : l.take (j + 1) = l.take j ++ [k] := by rw [List.take_add_one, hk]; rfl
  have el : l = l.take j ++ k :: l.drop (j + 1) := by
    have e : l.drop j = k :: l.drop (j + 1) := by
      rw [List.drop_eq_getElem_cons hj, (List.getElem?_eq_some_iff.1 hk).2]
    rw [← e, List.take_append_drop]
  have hnot : k ∉ l.take j := fun hm => by
    rw [el, List.pairwise_append] at hs
    exact Nat.lt_irrefl _ (hs.2.2 k hm k (List.mem_cons_self ..))
  have hkl : k < L.length := by rw [h.len]; exact hkn
  have hsum : ∀ a : List Nat, k ∉ a → (a.map fun i => (L.set k v).getD i 0) = a.map fun i => L.getD i 0 := fun a ha => List.map_congr_left fun i hi => by
    rw [getD_set hkl, if_neg (show ¬ i = k from fun e => ha (by rw [← e]; exact hi))]
  have hv0 := hS k hkm
  have e1 := (sum_nn (f := fun i => L.getD i 0) (m := 1000000000) (l.take j) fun i _ => h.bd i).1
  have e2 := (sum_le (l := l.drop (j + 1)) (f := fun _ => 0) (g := fun i => (S i).2) fun i hi => (hS i (List.mem_of_mem_drop hi)).2.2)
  have e3 : ((l.drop (j + 1)).map fun _ => (0 : Int)).sum = 0 := by
    rw [List.map_const', List.sum_replicate_int]; omega
  have hm := misK_step (c := c) (S := S) (p := p) (L0 := L0) (L := L) hk
  have hvb : 0 ≤ v ∧ v ≤ 1000000000 := by
    show 0 ≤ max _ _ ∧ max _ _ ≤ _
    omega
  refine ⟨⟨by rw [List.length_set]; exact h.len, fun i hi => ?_, fun a b x e ha => ?_, fun i => ?_⟩, ?_, hvb⟩
  · rw [et] at hi
    rw [getD_set hkl, if_neg (fun e => hi (by rw [e]; simp))]
    exact h.old i (fun h9 => hi (List.mem_append_left _ h9))
  · by_cases hc : a.length = j
    · have e5 : a = l.take j ∧ k :: l.drop (j + 1) = x :: b := by
        have h9 : l.take j ++ k :: l.drop (j + 1) = a ++ x :: b := by rw [← el]; exact e
        have := List.append_inj h9 (by rw [List.length_take, hc]; omega)
        exact ⟨this.1.symm, this.2⟩
      obtain ⟨rfl, e6⟩ := e5
      simp only [List.cons.injEq] at e6
      obtain ⟨rfl, rfl⟩ := e6
      rw [getD_set hkl, if_pos rfl, hsum _ hnot]
      show max _ _ = _
      rw [hm]
    · have hx : x ∈ l.take j := by
        rw [e, List.take_append, List.mem_append]
        right
        obtain ⟨d, hd⟩ : ∃ d, j - a.length = d + 1 := ⟨j - a.length - 1, by omega⟩
        rw [hd, List.take_succ_cons]
        exact List.mem_cons_self ..
      have ha2 : k ∉ a := fun h9 => hnot (by
        rw [e, List.take_append, List.mem_append]
        left
        rw [List.take_of_length_le (by omega)]
        exact h9)
      rw [getD_set hkl, if_neg (show ¬ x = k from fun e9 => hnot (by rw [← e9]; exact hx)), hsum _ ha2]
      exact h.new a b x e (by omega)
  · rw [getD_set hkl]
    split
    · exact hvb
    · exact h.bd i
  · unfold misK at hm ⊢
    rw [et, List.map_append, List.sum_append, hsum _ hnot]
    simp only [List.map_cons, List.map_nil, List.sum_cons, List.sum_nil]
    rw [getD_set hkl, if_pos rfl]
    omega
structure RepK (c : Ks) (S : Nat → Sp) (p : Nat) (L : List Int) : Prop where
  len : L.length = c.n
  root : L.getD 0 0 = (S 0).1
  son : ∀ (q : Nat) (a b : List Nat) (k : Nat), q < p → sonsL c q = a ++ k :: b → L.getD k 0 = max (S k).1 (L.getD q 0 - (c.nd q).hi - (a.map fun i => L.getD i 0).sum - (b.map fun i => (S i).2).sum)
  bd : ∀ i, 0 ≤ L.getD i 0 ∧ L.getD i 0 ≤ 1000000000
theorem InK.first {c : Ks} {S : Nat → Sp} {p : Nat} {l : List Nat} {L : List Int} (h : RepK c S p L) : InK c S p l 0 L L := ⟨h.len, fun _ _ => rfl, fun a b k _ ha => absurd ha (by omega), h.bd⟩
theorem InK.done {c : Ks} (ok : KsOk c) {S : Nat → Sp} {p : Nat} {L0 L : List Int} (h0 : RepK c S p L0) (h : InK c S p (sonsL c p) (sonsL c p).length L0 L) (hp : p < c.n) : RepK c S (p + 1) L := by
  have old : ∀ i, i ∉ sonsL c p → L.getD i 0 = L0.getD i 0 := fun i hi => h.old i (by rw [List.take_length]; exact hi)
  have not0 : ∀ q, (q = 0 ∨ q = p) → q ∉ sonsL c p := fun q hq hm => by
    have h1 := sons_gt ok hm
    omega
  refine ⟨h.len, by rw [old 0 (not0 0 (Or.inl rfl))]; exact h0.root, fun q a b k hq e => ?_, h.bd⟩
  by_cases hqp : q = p
  · subst hqp
    rw [h.new a b k e (by rw [e]; simp), old q (not0 q (Or.inr rfl))]
  · have other : ∀ i ∈ sonsL c q, i ∉ sonsL c p := fun i hi hm => by
      have h1 := (mem_sons.1 hi).2
      have h2 := (mem_sons.1 hm).2
      omega
    have hqn : q ∉ sonsL c p := fun hm => by
      have h1 := sons_gt ok hm
      omega
    have hk : k ∈ sonsL c q := by rw [e]; simp
    rw [old k (other k hk), old q hqn, List.map_congr_left (f := fun i => L.getD i 0) (g := fun i => L0.getD i 0) (l := a) fun i hi => old i (other i (by rw [e]; exact List.mem_append_left _ hi))]
    exact h0.son q a b k (by omega) e
theorem RepK.rep {c : Ks} {S : Nat → Sp} {L : List Int} (h : RepK c S c.n L) : Rep c S (fun i => L.getD i 0) := ⟨h.root, fun p a b k hp e => h.son p a b k hp e⟩
theorem misK_bd {c : Ks} {S : Nat → Sp} {p j : Nat} {l : List Nat} {L0 L : List Int} (h0 : 0 ≤ L0.getD p 0 ∧ L0.getD p 0 ≤ 1000000000) (hh : 0 ≤ (c.nd p).hi ∧ (c.nd p).hi ≤ 1000000000) (hl : l.length ≤ 14) (hb : ∀ i, 0 ≤ L.getD i 0 ∧ L.getD i 0 ≤ 1000000000) (hS : ∀ i ∈ l, 0 ≤ (S i).2 ∧ (S i).2 ≤ 1000000000) : -100000000000 ≤ misK c S p l j L0 L ∧ misK c S p l j L0 L ≤ 1000000000 := by
  have e1 := sum_nn (f := fun i => L.getD i 0) (m := 1000000000) (l.take j) fun i _ => hb i
  have e2 := sum_nn (f := fun i => (S i).2) (m := 1000000000) (l.drop j) fun i hi => hS i (List.mem_of_mem_drop hi)
  have l1 : (l.take j).length ≤ 14 := by rw [List.length_take]; omega
  have l2 : (l.drop j).length ≤ 14 := by rw [List.length_drop]; omega
  unfold misK
  omega
def rp7Phi (vb tb p n : Nat) (cv : Array Value) (x lo hi : Int) : Nat → Value → World → (Nat → Nat) → Prop
  | 0, v, _, _ => v = .slice (some ⟨vb, 0, none⟩) n n
  | 1, v, _, _ => v = .int .i64 (p : Int)
  | 2, v, _, _ => v = .pointer (some ⟨vb, p, none⟩)
  | 3, v, _, _ => v = .int .i64 x
  | 4, v, _, _ => v = .pointer (some ⟨tb, 0, none⟩)
  | 5, v, _, _ => v = .agg cv
  | 6, v, _, _ => v = .int .i64 (p : Int)
  | 7, v, _, _ => v = .agg #[.int .i64 lo, .int .i64 hi]
  | 8, v, _, _ => v = .int .i64 hi
  | 9, v, _, _ => v = .int .i64 (x - hi)
  | 10, v, _, _ => v = .int .i64 (x - hi)
  | _, _, _, _ => True
theorem rp7Phi_w {vb tb p n : Nat} {cv : Array Value} {x lo hi : Int} {j : Nat} {v : Value} {W W' : World} {γ γ' : Nat → Nat} (h : rp7Phi vb tb p n cv x lo hi j v W γ) : rp7Phi vb tb p n cv x lo hi j v W' γ' := by
  unfold rp7Phi at h ⊢
  split at h <;> first | exact h | trivial
/-- All but one block is as it was. -/
abbrev KpV (vb : Nat) (w w' : World) : Prop := Keep (fun b => b = vb) w w'
theorem intsA_len (l : List Int) : (intsA l).size = l.length := by simp [intsA]
set_option maxRecDepth 100000 in
set_option maxHeartbeats 8000000 in
theorem repaired_any (c : Ks) (ok : KsOk c) (S : Nat → Sp) (nA vA : Option Addr) (n nc vc sc sp : Nat) (w : World) (hS : ∀ i, i < n → 0 ≤ (S i).1 ∧ (S i).1 ≤ (S i).2 ∧ (S i).2 ≤ 1000000000) (hin : KsIn w w.heap.size n nA vA c) (hR : RowW w sp 138 encS (some ⟨sp, 0, none⟩) (mpS S n)) :
    Calls Try.prog 51 #[.agg #[.slice nA n nc, .slice vA n vc, .slice (some ⟨sp, 0, none⟩) n sc]] w fun e w' => ∃ (vb : Nat) (L : List Int), e = .returned (.slice (some ⟨vb, 0, none⟩) n n) ∧ Blk w' vb 3 (intsA L) ∧ RepK c S n L ∧ w.heap.size ≤ vb ∧ Below w.heap.size w w' := by
  have hcn := hin.len
  have h14 : n ≤ 14 := by rw [← hcn]; exact ok.n14
  have h1n : 1 ≤ n := by rw [← hcn]; exact ok.n1
  have hmk := run_makeInts n (by omega)
  have HC := Lib.hid (And.intro hcn (And.intro h14 (And.intro h1n ok)))
  have HS := Lib.hid hS
  have HR := Lib.hid hR
  have KS := Lib.hid (fun (p : Nat) W (hW : Below w.heap.size w W) => sons_any nA vA n nc vc p c W h14 (hin.next hW))
  have KL := Lib.hid (fun (p : Nat) W (hp : p < n) (hW : Below w.heap.size w W) => loss_any nA vA n nc vc p c W hp h14 (hin.next hW))
  have hn0 : (0 : Int) < (n : Int) := by omega
  have hnN : 0 < n := by omega
  obtain ⟨s0, _, zs, _⟩ := rowS_at hR (mpS_get (f := S) (show 0 < n by omega))
  rw [Nat.zero_mul] at s0
  obtain ⟨x0, hx0⟩ : ∃ z, z = (S 0).1 := ⟨_, rfl⟩
  rw [← hx0] at s0
  have HX0 := Lib.hid hx0
  have g1 : w.heap.size < w.heap.size + 1 := by omega
  have zs1 : sp < w.heap.size + 1 := by omega
  have zs2 : sp < w.heap.size + 1 + 1 := by omega
  have g2 : w.heap.size < w.heap.size + 1 + 1 := by omega
  have g3 : w.heap.size + 1 < w.heap.size + 1 + 1 := by omega
  have hia : (intsA (List.replicate n 0))[0]? = some (.int .i64 0) := by simp [intsA, List.getElem?_replicate, hnN]
  have hib : 0 < (intsA (List.replicate n 0)).size := by simp [intsA, hnN]
  clear hin ok hcn h14 h1n hS hR hx0
  go_enter Try.func51, Try.ntmps51
  go_wp2
  obtain ⟨tb, htb⟩ : ∃ z, z = w.heap.size := ⟨_, rfl⟩
  obtain ⟨w1, hw1⟩ : ∃ z, z = w.alloc (.cells #[.slice nA n nc, .slice vA n vc, .slice (some ⟨sp, 0, none⟩) n sc] 118) := ⟨_, rfl⟩
  have TB : Hid (Blk w1 tb 118 #[.slice nA n nc, .slice vA n vc, .slice (some ⟨sp, 0, none⟩) n sc]) := Lib.hid (by rw [hw1, htb]; exact heap_alloc_new w _)
  have Sw1 : Hid (w1.heap.size = tb + 1) := Lib.hid (by rw [hw1, htb, World.size_alloc])
  have Ztb : Hid (w.heap.size ≤ tb) := Lib.hid (by rw [htb]; exact Nat.le_refl _)
  have hBn : Below w.heap.size w w1 := by rw [hw1]; exact (Below.refl _ _).alloc (Nat.le_refl _) _
  rw [← hw1, ← htb]
  have B0 : Hid (Below w.heap.size w w1) := Lib.hid hBn
  clear hw1 htb hBn
  obtain ⟨vb, hvb⟩ : ∃ z, z = tb + 1 := ⟨_, rfl⟩
  obtain ⟨w2, hw2⟩ : ∃ z, z = w1.alloc (.cells ((intsA (List.replicate n 0)).setIfInBounds 0 (.int .i64 x0)) 3) := ⟨_, rfl⟩
  have VB : Hid (Blk w2 vb 3 ((intsA (List.replicate n 0)).setIfInBounds 0 (.int .i64 x0))) := Lib.hid (by have e2 := heap_alloc_new w1 (.cells ((intsA (List.replicate n 0)).setIfInBounds 0 (.int .i64 x0)) 3); rw [Sw1.out] at e2; rw [hw2, hvb]; exact e2)
  have Sw2 : Hid (w2.heap.size = vb + 1) := Lib.hid (by rw [hw2, hvb, World.size_alloc, Sw1.out])
  have Zvb : Hid (w1.heap.size = vb) := Lib.hid (by rw [Sw1.out, hvb])
  have hBn : Below w1.heap.size w1 w2 := by rw [hw2]; exact (Below.refl _ _).alloc (Nat.le_refl _) _
  rw [← hw2, ← hvb]
  have B1 : Hid (Below w1.heap.size w1 w2) := Lib.hid hBn
  clear hw2 hvb hBn
  clear g1 g2 g3 zs1 zs2 zs s0 hia hib hmk
  have HZ : Hid (w.heap.size ≤ tb ∧ tb < vb ∧ vb < w2.heap.size ∧ w2.heap.size = vb + 1) := Lib.hid (by have h1 := Ztb.out; have h2 := Zvb.out; have h3 := Sw1.out; have h4 := Sw2.out; exact ⟨h1, by omega, by omega, h4⟩)
  have HR2 := Lib.hid (HR.out.below9 (below3 B0.out B1.out (Nat.le_refl _)))
  have HSV : Hid (∀ i, i < n → sp ≠ vb ∧ (0 ≤ (S i).1 ∧ (S i).1 ≤ (S i).2 ∧ (S i).2 ≤ 1000000000)) := Lib.hid (fun i hi => ⟨by have h1 := (rowS_at HR.out (mpS_get (f := S) hi)).2.2.1; have := HZ.out; omega, HS.out i hi⟩)
  have HV0 : Hid (Blk w2 vb 3 (intsA ((List.replicate n 0).set 0 x0)) ∧ RepK c S 0 ((List.replicate n 0).set 0 x0)) := Lib.hid ⟨by have h9 := VB.out; rw [intsA_set] at h9; exact h9, by
    have h9 := HS.out 0 hnN
    have hg : ∀ i, ((List.replicate n (0 : Int)).set 0 x0).getD i 0 = if i = 0 then x0 else 0 := fun i => by
      rw [getD_set (by simpa using hnN)]
      split
      · rfl
      · rw [List.getD_eq_getElem?_getD, List.getElem?_replicate]; split <;> rfl
    refine ⟨by rw [List.length_set, List.length_replicate, HC.out.1], by rw [hg, if_pos rfl, HX0.out], fun q a b k hq => absurd hq (by omega), fun i => ?_⟩
    rw [hg]
    rw [← HX0.out] at h9
    split <;> omega⟩
  go_loopw [27] (fun iv wr => ∃ (p : Nat) (L : List Int), p ≤ n ∧ iv = .int .i64 ((p : Nat) : Int) ∧ Hid (Keep (fun b => b = vb) w2 wr ∧ Blk wr vb 3 (intsA L) ∧ RepK c S p L)) (fun iv _ => n - (intOf iv).toNat)
  case atStart => exact ⟨0, _, Nat.zero_le _, rfl, Lib.hid ⟨Keep.refl _ _, HV0.out.1, HV0.out.2⟩⟩
  case round =>
    obtain ⟨p, L, hp, rfl, HW⟩ := hrel
    by_cases hlt : p < n
    · have HLT : Hid (p < n) := Lib.hid hlt
      have hp0 : (0 : Int) ≤ (p : Int) := by omega
      have hpn : (p : Int) < (n : Int) := by omega
      have hpN : p < n := hlt
      have hp9 : (p : Int) ≤ 14 := by have := HC.out.2.1; omega
      have HBW : Hid (Below w.heap.size w wr) := Lib.hid ((below3 B0.out B1.out (Nat.le_refl _)).trans (HW.out.1.below (below3 B0.out B1.out (Nat.le_refl _)).size (fun b e => by rw [e]; have := HZ.out; omega)))
      have CS := Lib.hid (KS.out p wr HBW.out)
      have hbk := HW.out.1.blk (TB.out.below B1.out TB.out.lt) (by have := HZ.out; omega)
      have t0 := hbk.cell 0
      have t1 := hbk.cell 1
      simp only [List.getElem?_toArray, List.getElem?_cons_zero, List.getElem?_cons_succ] at t0 t1
      have zt := hbk.lt
      have HTB := Lib.hid hbk
      clear hbk hlt hp
      go_wp2_with fail
      refine CS.out.mono ?_
      rintro e ws ⟨A, ca, rfl, ho, hBs⟩
      have HBS := Lib.hid hBs
      obtain ⟨l, hl⟩ : ∃ z, z = sonsL c p := ⟨_, rfl⟩
      obtain ⟨ln, hln⟩ : ∃ z, z = l.length := ⟨_, rfl⟩
      rw [← hl, ← hln] at ho
      rw [← hl, ← hln]
      have HL := Lib.hid (And.intro hl hln)
      have HLM : Hid (∀ x ∈ l, p < x ∧ x < n) := Lib.hid (fun x hx => by have h9 := sons_gt HC.out.2.2.2 (by rw [← hl]; exact hx); exact ⟨h9.1, by rw [← HC.out.1]; exact h9.2⟩)
      have HLO : Hid (ln ≤ 14 ∧ l.Pairwise (· < ·)) := Lib.hid ⟨by
        have h1 := sonsK_le c p c.n
        have h2 : sonsL c p = sonsK c p c.n := rfl
        rw [← h2, ← hl, ← hln] at h1
        have := HC.out
        omega, by rw [hl]; exact sons_sorted c p⟩
      have HROW : Hid (∀ j x, l[j]? = some x → ∃ gb, A = some ⟨gb, 0, none⟩ ∧ vb < gb ∧ gb < ws.heap.size ∧ ws.cell? ⟨gb, j, none⟩ = some (.int .i64 ((x : Nat) : Int))) := Lib.hid (fun j x hx => by
        subst hln
        obtain ⟨A9, c9, gb, e9, hr9, hlo9⟩ := RowW.of_own ho
        simp only [Value.slice.injEq] at e9
        have hj := (List.getElem?_eq_some_iff.1 hx).1
        have h1 := (hlo9 (by omega)).1
        obtain ⟨q1, q2, _, q3⟩ := hr9.at_ (size := 1) (fun _ => rfl) hx
        have q4 := q3 0 _ rfl
        rw [Nat.mul_one, Nat.add_zero] at q4
        have h2 := HW.out.1.size
        have h3 := HZ.out
        exact ⟨gb, by rw [e9.1]; exact q1, by omega, q2, q4⟩)
      clear ho hBs hl hln CS
      obtain ⟨lp, hlp⟩ : ∃ z, z = L.getD p 0 := ⟨_, rfl⟩
      obtain ⟨lo, hlo⟩ : ∃ z, z = (c.nd p).lo := ⟨_, rfl⟩
      obtain ⟨hi, hhi⟩ : ∃ z, z = (c.nd p).hi := ⟨_, rfl⟩
      have HLV : Hid (ws.cell? ⟨vb, p, none⟩ = some (.int .i64 lp) ∧ vb < ws.heap.size ∧ (0 ≤ lp ∧ lp ≤ 1000000000) ∧ (0 ≤ hi ∧ hi ≤ 1000000000)) := Lib.hid (by
        have h1 := HW.out.2.1.below HBS.out HW.out.2.1.lt
        have h2 := HC.out.2.2.2.lh p (by rw [HC.out.1]; exact hpN)
        refine ⟨h1.intAt (x := lp) (by rw [hlp, List.getD_eq_getElem?_getD, List.getElem?_eq_getElem (by rw [HW.out.2.2.len, HC.out.1]; exact hpN)]; rfl), h1.lt, by rw [hlp]; exact HW.out.2.2.bd p, by rw [hhi]; omega⟩)
      have HLQ := Lib.hid (And.intro hlp hhi)
      have KLX := Lib.hid (fun W (hW : Below ws.heap.size ws W) => KL.out p W HLT.out (below3 (below3 HBW.out HBS.out (Nat.le_refl _)) hW (Nat.le_refl _)))
      rw [← hlo, ← hhi] at KLX
      have HTS := Lib.hid (HTB.out.below HBS.out HTB.out.lt)
      clear hlp hlo hhi t0 t1 zt
      go_wp2_with fail
      refine wp_region_free10 10 (by kernel_rfl) [some 34, some 35, some 36, some 37, some 38, some 39, some 40, some 41, some 42, some 43, some 6] [[], [], [0, 1], [2], [], [4], [], [5, 6], [7], [3, 8], [9, 7, 0, 1, 2, 3, 4, 5, 6, 7, 8, 9]] [(3, .slice (some ⟨vb, 0, none⟩) n n), (4, .int .i64 (p : Int)), (1, .pointer (some ⟨tb, 0, none⟩))] (fun W _ => Below ws.heap.size ws W) (rp7Phi vb tb p n #[.slice nA n nc, .slice vA n vc] lp lo hi) (fun _ _ _ => True) (by kernel_rfl) (by kernel_rfl) rfl (by kernel_rfl) ?_ ?_ ⟨fun _ => 0, (Below.refl _ _).drew, fun _ _ => trivial⟩ ?_ ?_
      · intro z hz
        simp only [List.mem_cons, List.mem_nil_iff, or_false] at hz
        rcases hz with rfl | rfl | rfl
        all_goals exact ⟨by kernel_rfl, rfl⟩
      · intro i v W γ hi h
        rcases i with _ | _ | _ | _ | _ | _ | _ | _ | _ | _ | _ | i
        all_goals first | exact h | (simp at hi)
      · refine ⟨?_, ?_, ?_, ?_, ?_, ?_, ?_, ?_, ?_, ?_, ?_, trivial⟩
        all_goals
          intro a9 W γ ev hcc hff hfx hR hψ hpre
          simp only [List.mem_cons, List.mem_nil_iff, or_false, forall_eq, forall_eq_or_imp] at hfx
          obtain ⟨f0, f1, f2⟩ := hfx
          have HR := Lib.hid hR
          clear hR
        · refine ⟨fun hg K hK => ?_, trivial⟩
          clear hg
          clear hpre hψ
          go_simp
          exact hK _ _ γ HR.out (fun _ _ _ _ h => h) (fun _ _ _ h => h) rfl
        · refine ⟨fun hg K hK => ?_, trivial⟩
          clear hg
          clear hpre hψ
          go_simp
          exact hK _ _ γ HR.out (fun _ _ _ _ h => h) (fun _ _ _ h => h) rfl
        · refine ⟨fun hg K hK => ?_, trivial⟩
          clear hg
          have q0 : ev (.tmp 34) = _ := hpre 0 (by decide)
          have q1 : ev (.tmp 35) = _ := hpre 1 (by decide)
          clear hpre hψ
          go_simp
          exact hK _ _ γ HR.out (fun _ _ _ _ h => h) (fun _ _ _ h => h) rfl
        · refine ⟨fun hg K hK => ?_, trivial⟩
          clear hg
          have q0 : ev (.tmp 36) = _ := hpre 2 (by decide)
          have cy := (HR.out.cell (p := ⟨vb, p, none⟩) HLV.out.2.1).trans HLV.out.1
          have zy : vb < W.heap.size := Nat.lt_of_lt_of_le HLV.out.2.1 HR.out.size
          clear hpre hψ
          go_simp
          exact hK _ _ γ HR.out (fun _ _ _ _ h => h) (fun _ _ _ h => h) rfl
        · refine ⟨fun hg K hK => ?_, trivial⟩
          clear hg
          clear hpre hψ
          go_simp
          exact hK _ _ γ HR.out (fun _ _ _ _ h => h) (fun _ _ _ h => h) rfl
        · refine ⟨fun hg K hK => ?_, trivial⟩
          clear hg
          have q0 : ev (.tmp 38) = _ := hpre 4 (by decide)
          have hbk := HTS.out.below HR.out HTS.out.lt
          have e0 := hbk.cell 0
          have e1 := hbk.cell 1
          simp only [List.getElem?_toArray, List.getElem?_cons_zero, List.getElem?_cons_succ] at e0 e1
          have ze := hbk.lt
          clear hbk
          clear hpre hψ
          go_simp
          exact hK _ _ γ HR.out (fun _ _ _ _ h => h) (fun _ _ _ h => h) rfl
        · refine ⟨fun hg K hK => ?_, trivial⟩
          clear hg
          clear hpre hψ
          go_simp
          exact hK _ _ γ HR.out (fun _ _ _ _ h => h) (fun _ _ _ h => h) rfl
        · refine ⟨fun hg K hK => ?_, trivial⟩
          clear hg
          have q0 : ev (.tmp 39) = _ := hpre 5 (by decide)
          have q1 : ev (.tmp 40) = _ := hpre 6 (by decide)
          have HXA := HR
          clear hpre hψ
          go_simp
          refine (KLX.out W HXA.out).mono ?_
          rintro e9 w5 ⟨rfl, hB5⟩
          exact hK _ w5 γ (below3 HXA.out hB5 (Nat.le_refl _)) (fun j u hj hne h => rp7Phi_w h) (fun _ _ _ h => h) rfl
        · refine ⟨fun hg K hK => ?_, trivial⟩
          clear hg
          have q0 : ev (.tmp 41) = _ := hpre 7 (by decide)
          clear hpre hψ
          go_simp
          exact hK _ _ γ HR.out (fun _ _ _ _ h => h) (fun _ _ _ h => h) rfl
        · refine ⟨fun hg K hK => ?_, trivial⟩
          clear hg
          have q0 : ev (.tmp 37) = _ := hpre 3 (by decide)
          have q1 : ev (.tmp 42) = _ := hpre 8 (by decide)
          have wv : IntKind.i64.wrap (lp - hi) = lp - hi := IntWalk.i64_in _ (by have := HLV.out; omega)
          clear hpre hψ
          go_simp
          exact hK _ _ γ HR.out (fun _ _ _ _ h => h) (fun _ _ _ h => h) rfl
        · refine ⟨fun hg K hK => ?_, trivial⟩
          clear hg
          have q0 : ev (.tmp 43) = _ := hpre 9 (by decide)
          clear hpre hψ
          go_simp
          exact hK _ _ γ HR.out (fun _ _ _ _ h => h) (fun _ _ _ h => h) rfl
      · intro vs wy γ hvl hR hφ
        have q10 := hφ 10 (by decide)
        have HR := Lib.hid hR
        clear hφ hR
        match vs, hvl with
        | [y0, y1, y2, y3, y4, y5, y6, y7, y8, y9, y10], _ =>
        simp only [List.getD_cons_zero, List.getD_cons_succ] at q10
        obtain rfl : y10 = _ := q10
        have HBY : Hid (Below ws.heap.size ws wy) := Lib.hid HR.out
        clear HR
        obtain ⟨m1, hm1⟩ : ∃ z : Nat → Int, z = fun j => lp - hi - ((l.take j).map fun i => (S i).2).sum := ⟨_, rfl⟩
        have HM1 : Hid (m1 0 = lp - hi ∧ (∀ j x, l[j]? = some x → m1 (j + 1) = m1 j - (S x).2) ∧ (∀ j, -100000000000 ≤ m1 j ∧ m1 j ≤ 1000000000) ∧ m1 ln = misK c S p l 0 L L) := Lib.hid (by
          subst hm1
          refine ⟨by simp, fun j x hx => ?_, fun j => ?_, ?_⟩
          · have e : l.take (j + 1) = l.take j ++ [x] := by rw [List.take_add_one, hx]; rfl
            simp only [e, List.map_append, List.sum_append, List.map_cons, List.map_nil, List.sum_cons, List.sum_nil]
            omega
          · dsimp only
            have e2 := sum_nn (f := fun i => (S i).2) (m := 1000000000) (l.take j) fun i hi => by
              have h1 := HSV.out i (HLM.out i (List.mem_of_mem_take hi)).2
              omega
            have l1 : (l.take j).length ≤ 14 := by rw [List.length_take]; have := HLO.out.1; have := HL.out.2; omega
            have := HLV.out
            omega
          · unfold misK
            rw [HL.out.2, ← HLQ.out.1, ← HLQ.out.2]
            simp)
        have hm0 : lp - hi = m1 0 := HM1.out.1.symm
        rw [hm0]
        clear hm1 hm0
        have hl0 : (0 : Int) ≤ (ln : Int) := by omega
        simp [putAll]
        go_wp2
        go_loopw [6, 46] (fun mv iv wr => ∃ j : Nat, j ≤ ln ∧ mv = .int .i64 (m1 j) ∧ iv = .int .i64 ((j : Nat) : Int) ∧ Hid (Below wy.heap.size wy wr)) (fun _ iv _ => ln - (intOf iv).toNat)
        case atStart => exact ⟨0, Nat.zero_le _, rfl, rfl, Lib.hid (Below.refl _ _)⟩
        case round =>
          obtain ⟨j, hj, rfl, rfl, HQ⟩ := hrel
          have HBT : Hid (Below ws.heap.size ws wr) := Lib.hid (below3 HBY.out HQ.out (Nat.le_refl _))
          by_cases hjt : j < ln
          · obtain ⟨x, hx⟩ : ∃ x, l[j]? = some x := ⟨_, List.getElem?_eq_getElem (by rw [← HL.out.2]; exact hjt)⟩
            obtain ⟨gb, enA, _, hgb, hcx⟩ := HROW.out j x hx
            have cx := (HBT.out.cell (p := ⟨gb, j, none⟩) hgb).trans hcx
            have zx : gb < wr.heap.size := Nat.lt_of_lt_of_le hgb HBT.out.size
            have hxn := (HLM.out x (List.mem_of_getElem? hx)).2
            have i0 : (0 : Int) ≤ (x : Int) := by omega
            have i1 : (x : Int) < (n : Int) := by omega
            have j0 : (0 : Int) ≤ (j : Int) := by omega
            have j1 : (j : Int) < (ln : Int) := by omega
            have j9 : (j : Int) ≤ 14 := by have := HLO.out.1; omega
            obtain ⟨_, cs1, zs, _⟩ := rowS_at (HR2.out.kept (fun _ cur hc => ((HW.out.1.blk hc (by have := (HSV.out x hxn).1; omega)).below HBS.out (HW.out.1.blk hc (by have := (HSV.out x hxn).1; omega)).lt).below HBT.out (((HW.out.1.blk hc (by have := (HSV.out x hxn).1; omega)).below HBS.out (HW.out.1.blk hc (by have := (HSV.out x hxn).1; omega)).lt).lt))) (mpS_get (f := S) hxn)
            obtain ⟨y2, hy2⟩ : ∃ z, z = (S x).2 := ⟨_, rfl⟩
            rw [← hy2] at cs1
            have hbk := HTS.out.below HBT.out HTS.out.lt
            have t2 := hbk.cell 2
            have zt := hbk.lt
            simp only [List.getElem?_toArray, List.getElem?_cons_zero, List.getElem?_cons_succ] at t2
            obtain ⟨mj, hmj⟩ : ∃ z, z = m1 j := ⟨_, rfl⟩
            obtain ⟨mk, hmk⟩ : ∃ z, z = m1 (j + 1) := ⟨_, rfl⟩
            have HMK := Lib.hid hmk
            have wv : IntKind.i64.wrap (mj - y2) = mk := by
              have h1 := HM1.out.2.1 j x hx
              have h2 := HM1.out.2.2.1 (j + 1)
              rw [hmj, hy2, ← h1, hmk]
              exact IntWalk.i64_in _ (by omega)
            have HJT : Hid (j < ln) := Lib.hid hjt
            rw [← hmj]
            clear hx hgb hcx hbk hy2 hmj hmk hjt hj
            subst enA
            go_wp2
            rw [HMK.out]
            go_roundw
            case rel => exact ⟨j + 1, by have := HJT.out; omega, rfl, by go_num, HQ⟩
            case measure => have := HJT.out; simp [intOf]; omega
          · obtain rfl : ln = j := by omega
            obtain ⟨wm, hwm⟩ : ∃ z, z = wr := ⟨wr, rfl⟩
            subst hwm
            have HI0 : Hid (Keep (fun b => b = vb) w2 wm ∧ Blk wm vb 3 (intsA L) ∧ InK c S p l 0 L L) := Lib.hid (by
              have hb : Below wr.heap.size wr wm := below3 HBS.out HBT.out (Nat.le_refl _)
              exact ⟨HW.out.1.trans (Keep.of_below hb), HW.out.2.1.below hb HW.out.2.1.lt, .first HW.out.2.2⟩)
            have HMM := Lib.hid HM1.out.2.2.2
            obtain ⟨m0, hm0⟩ : ∃ z, z = misK c S p l 0 L L := ⟨_, rfl⟩
            have HM0 := Lib.hid hm0
            rw [HMM.out, ← hm0]
            clear hm0 hj hjt
            go_wp2
            go_loopw [6, 61] (fun mv iv wr => ∃ (j : Nat) (L1 : List Int), j ≤ ln ∧ mv = .int .i64 (misK c S p l j L L1) ∧ iv = .int .i64 ((j : Nat) : Int) ∧ Hid (Keep (fun b => b = vb) w2 wr ∧ Blk wr vb 3 (intsA L1) ∧ InK c S p l j L L1 ∧ KpV vb wm wr)) (fun _ iv _ => ln - (intOf iv).toNat)
            case atStart => exact ⟨0, L, Nat.zero_le _, by rw [HM0.out], rfl, Lib.hid ⟨HI0.out.1, HI0.out.2.1, HI0.out.2.2, Keep.refl _ _⟩⟩
            case round =>
              obtain ⟨j, L1, hj, rfl, rfl, HX⟩ := hrel
              by_cases hjt : j < ln
              · obtain ⟨x, hx⟩ : ∃ x, l[j]? = some x := ⟨_, List.getElem?_eq_getElem (by rw [← HL.out.2]; exact hjt)⟩
                obtain ⟨gb, enA, hvg, hgb, hcx⟩ := HROW.out j x hx
                have cx0 := (HBT.out.cell (p := ⟨gb, j, none⟩) hgb).trans hcx
                have zx0 : gb < wm.heap.size := Nat.lt_of_lt_of_le hgb HBT.out.size
                have cx := HX.out.2.2.2.cell zx0 (by omega) cx0
                have zx : gb < wr.heap.size := Nat.lt_of_lt_of_le zx0 HX.out.2.2.2.size
                have hxn := (HLM.out x (List.mem_of_getElem? hx)).2
                have i0 : (0 : Int) ≤ (x : Int) := by omega
                have i1 : (x : Int) < (n : Int) := by omega
                have iN : x < n := hxn
                have j0 : (0 : Int) ≤ (j : Int) := by omega
                have j1 : (j : Int) < (ln : Int) := by omega
                have j9 : (j : Int) ≤ 14 := by have := HLO.out.1; omega
                obtain ⟨cs0, cs1, zs, _⟩ := rowS_at (HR2.out.kept (fun _ cur hc => HX.out.1.blk hc (by have := (HSV.out x hxn).1; omega))) (mpS_get (f := S) hxn)
                obtain ⟨y1, hy1⟩ : ∃ z, z = (S x).1 := ⟨_, rfl⟩
                obtain ⟨y2, hy2⟩ : ∃ z, z = (S x).2 := ⟨_, rfl⟩
                rw [← hy1] at cs0
                rw [← hy2] at cs1
                have hbk := HX.out.1.blk (TB.out.below B1.out TB.out.lt) (by have := HZ.out; omega)
                have t2 := hbk.cell 2
                have zt := hbk.lt
                simp only [List.getElem?_toArray, List.getElem?_cons_zero, List.getElem?_cons_succ] at t2
                obtain ⟨mj, hmj⟩ : ∃ z, z = misK c S p l j L L1 := ⟨_, rfl⟩
                obtain ⟨nv, hnv⟩ : ∃ z, z = max y1 (mj + y2) := ⟨_, rfl⟩
                have hst := HX.out.2.2.1.step HLO.out.2 hx (by rw [HC.out.1]; exact hxn) (fun i hi => by have h1 := (HSV.out i (HLM.out i hi).2).2; omega) (by have := HLV.out; rw [← HLQ.out.2]; omega) (by have := HLV.out; rw [← HLQ.out.1]; omega)
                dsimp only at hst
                rw [← hy1, ← hy2, ← hmj, ← hnv] at hst
                have HST := Lib.hid hst
                have hmb := misK_bd (S := S) (p := p) (j := j) (l := l) (L0 := L) (L := L1) (c := c) (by have := HLV.out; rw [← HLQ.out.1]; omega) (by have := HLV.out; rw [← HLQ.out.2]; omega) (by have := HLO.out.1; have := HL.out.2; omega) HX.out.2.2.1.bd (fun i hi => by have h1 := (HSV.out i (HLM.out i hi).2).2; omega)
                rw [← hmj] at hmb
                have hyb := (HSV.out x hxn).2
                rw [← hy1, ← hy2] at hyb
                have wv : IntKind.i64.wrap (mj + y2) = mj + y2 := IntWalk.i64_in _ (by omega)
                have wq : IntKind.i64.wrap (mj + y2 - nv) = mj + y2 - nv := IntWalk.i64_in _ (by have := hst.2.2; omega)
                have wm9 : max y1 (mj + y2) = nv := hnv.symm
                obtain ⟨ov, hov⟩ : ∃ ov, L1[x]? = some ov := ⟨_, List.getElem?_eq_getElem (by rw [HX.out.2.2.1.len, HC.out.1]; exact hxn)⟩
                have cv := HX.out.2.1.intAt hov
                have zv := HX.out.2.1.lt
                have fr := HX.out.2.1.frozen x
                have n1 : vb ≠ tb := by have := HZ.out; omega
                have n2 : tb ≠ vb := by have := HZ.out; omega
                have n3 : sp ≠ vb := (HSV.out x hxn).1
                have n4 : vb ≠ sp := fun e => n3 e.symm
                obtain ⟨W', hW'⟩ : ∃ z, z = wr.setCell ⟨vb, x, none⟩ (.int .i64 nv) := ⟨_, rfl⟩
                have HBV : Hid (Blk W' vb 3 (intsA (L1.set x nv)) ∧ Keep (fun b => b = vb) wr W') := Lib.hid ⟨by rw [hW']; have h9 := HX.out.2.1.set_ x (.int .i64 nv); rw [intsA_set] at h9; exact h9, by rw [hW']; exact (Keep.refl (fun b => b = vb) wr).setCell (p := ⟨vb, x, none⟩) rfl _⟩
                have cv2 : W'.cell? ⟨vb, x, none⟩ = some (.int .i64 nv) := HBV.out.1.intAt (by rw [List.getElem?_set_self (List.getElem?_eq_some_iff.1 hov).1])
                have zv2 := HBV.out.1.lt
                have HN9 : Hid (Keep (fun b => b = vb) w2 W' ∧ Blk W' vb 3 (intsA (L1.set x nv)) ∧ InK c S p l (j + 1) L (L1.set x nv) ∧ KpV vb wm W') := Lib.hid ⟨HX.out.1.trans HBV.out.2, HBV.out.1, HST.out.1, HX.out.2.2.2.trans HBV.out.2⟩
                have HJT : Hid (j < ln) := Lib.hid hjt
                rw [← hmj]
                clear hx hgb hcx hbk hy1 hy2 hmj hjt hj hst hnv cx0 zx0 hov hmb hyb hvg
                subst enA
                go_wp2
                rw [← hW']
                refine ⟨⟨j + 1, _, by have := HJT.out; omega, by rw [HST.out.2.1], by go_num, HN9⟩, ?_⟩
                have := HJT.out
                simp [intOf]
                omega
              · obtain rfl : ln = j := by omega
                have HN9 : Hid (Keep (fun b => b = vb) w2 wr ∧ Blk wr vb 3 (intsA L1) ∧ RepK c S (p + 1) L1) := Lib.hid ⟨HX.out.1, HX.out.2.1, by
                  have h9 := HX.out.2.2.1
                  rw [HL.out.2, HL.out.1] at h9
                  exact h9.done HC.out.2.2.2 HW.out.2.2 (by rw [HC.out.1]; exact HLT.out)⟩
                clear hj hjt
                go_wp2
                go_roundw
                case rel => exact ⟨p + 1, L1, by have := HLT.out; omega, by go_num, HN9⟩
                case measure => have := HLT.out; simp [intOf]; omega
    · obtain rfl : n = p := by omega
      have HF : Hid (Blk wr vb 3 (intsA L) ∧ RepK c S n L ∧ w.heap.size ≤ vb ∧ Below w.heap.size w wr) := Lib.hid ⟨HW.out.2.1, HW.out.2.2, by have := HZ.out; omega, (below3 B0.out B1.out (Nat.le_refl _)).trans (HW.out.1.below (below3 B0.out B1.out (Nat.le_refl _)).size (fun b e => by rw [e]; have := HZ.out; omega))⟩
      go_wp2
      go_ret
      exact ⟨vb, L, rfl, HF.out⟩
end Go.Proofs.Ytcecbohaajocfaa
