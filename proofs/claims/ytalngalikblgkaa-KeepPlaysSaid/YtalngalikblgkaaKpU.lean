/- keep, plain: the safe set of a product, and with a control less. -/
import Derived.Test.YtalngalikblgkaaKpY
import Derived.Test.YtalngalikblgkaaKpJ

set_option linter.unusedSimpArgs false
set_option linter.unusedVariables false
namespace Go.Proofs.Ytalngalikblgkaa
open Go.RowKit

theorem blk_get {f : Nat → List Int} {m n : Nat} (hf : ∀ j < n, (f j).length = m) : ∀ i < n, ∃ rest, (List.range n).flatMap f = (List.range i).flatMap f ++ (f i ++ rest) ∧ ((List.range i).flatMap f).length = i * m := by
  induction n with
  | zero => intro i hi; omega
  | succ n ih =>
    have hlen : ∀ i ≤ n, ((List.range i).flatMap f).length = i * m := by
      intro i
      induction i with
      | zero => intro _; simp
      | succ i ihi => intro hi; rw [List.range_succ, List.flatMap_append, List.length_append, ihi (by omega), Nat.succ_mul]; simp [hf i (by omega)]
    intro i hi
    refine ⟨?_, ?_, hlen i (by omega)⟩
    · exact if i = n then [] else ((List.range n).flatMap f).drop (i * m + m) ++ f n
    · by_cases h : i = n
      · subst h
        rw [if_pos rfl, List.range_succ, List.flatMap_append]
        simp
      · rw [if_neg h, List.range_succ, List.flatMap_append]
        obtain ⟨rest, h1, h2⟩ := ih (fun j hj => hf j (by omega)) i (by omega)
        have h3 : ((List.range n).flatMap f).drop (i * m + m) = rest := by
          rw [h1, ← List.append_assoc]
          exact List.drop_left' (by rw [List.length_append, h2, hf i (by omega)])
        rw [h3, h1]
        simp
theorem sub_two {F : Nat → Nat → List Int} {S C H s c : Nat} (hF : ∀ s < S, ∀ c < C, (F s c).length = H) (hs : s < S) (hc : c < C) : (((List.range S).flatMap fun s => (List.range C).flatMap (F s)).drop ((s * C + c) * H)).take H = F s c := by
  have hl : ∀ j < S, ((List.range C).flatMap (F j)).length = C * H := fun j hj => by
    have h : ∀ n ≤ C, ((List.range n).flatMap (F j)).length = n * H := by
      intro n
      induction n with
      | zero => intro _; simp
      | succ n ih => intro hn; rw [List.range_succ, List.flatMap_append, List.length_append, ih (by omega), Nat.succ_mul]; simp [hF j hj n (by omega)]
    exact h C (Nat.le_refl _)
  obtain ⟨r1, e1, l1⟩ := blk_get hl s hs
  obtain ⟨r2, e2, l2⟩ := blk_get (hF s hs) c hc
  rw [e1, e2]
  have e3 : (List.range s).flatMap (fun s => (List.range C).flatMap (F s)) ++ ((List.range c).flatMap (F s) ++ (F s c ++ r2) ++ r1) = ((List.range s).flatMap (fun s => (List.range C).flatMap (F s)) ++ (List.range c).flatMap (F s)) ++ (F s c ++ (r2 ++ r1)) := by simp [List.append_assoc]
  rw [e3, List.drop_left' (by rw [List.length_append, l1, l2, Nat.add_mul, Nat.mul_assoc])]
  exact List.take_left' (hF s hs c hc)
theorem subL_prod {a b : Gm} (oa : GmOk a) (ob : GmOk b) {s c : Nat} (hs : s < a.S * b.S) (hc : c < a.C * b.C) : subL (prodG a b) s c = prodN a b s c :=
  sub_two (F := prodN a b) (fun s hs c hc => prodN_len oa ob hs hc) hs hc
theorem rowU_alt (g : Gm) (u s v : Nat) : rowU g u s v = (List.range (if u < v then v - 1 else v)).flatMap fun j => subL g s (if j < u then j else j + 1) := by
  induction v with
  | zero => simp [rowU]
  | succ v ih =>
    rw [rowU_succ, ih]
    by_cases h : v = u
    · subst h
      rw [if_pos rfl, if_neg (by omega), if_pos (by omega)]
      simp
    · rw [if_neg h]
      by_cases h2 : v < u
      · rw [if_neg (by omega), if_neg (by omega), List.range_succ, List.flatMap_append]
        simp [h2]
      · rw [if_pos (by omega), if_pos (by omega), show v + 1 - 1 = (v - 1) + 1 by omega, List.range_succ, List.flatMap_append]
        have : ¬ (v - 1 < u) := by omega
        simp [this, show v - 1 + 1 = v by omega]
theorem subL_less {g : Gm} (ok : GmOk g) {u s v : Nat} (hu : u < g.C) (hs : s < g.S) (hv : v < g.C - 1) : subL (lessG g u) s v = subL g s (if v < u then v else v + 1) := by
  have e : allU g u g.S = (List.range g.S).flatMap fun s => (List.range (g.C - 1)).flatMap fun j => subL g s (if j < u then j else j + 1) := by
    unfold allU
    congr 1
    funext x
    rw [rowU_alt, if_pos hu]
  unfold subL lessG
  dsimp only
  rw [e]
  exact sub_two (F := fun s j => subL g s (if j < u then j else j + 1)) (fun s hs j hj => sub_len ok hs (by split <;> omega)) hs hv
/-- What is kept with a control less is kept. -/
theorem less_sub {g : Gm} (ok : GmOk g) {u : Nat} (hu : u < g.C) {X : Nat → Prop} (hX : KeptS (lessG g u) X) : KeptS g X := by
  intro s hs h
  obtain ⟨h1, v, hv, h2⟩ := hX s hs h
  have hv : v < g.C - 1 := hv
  refine ⟨h1, if v < u then v else v + 1, by split <;> omega, ?_⟩
  rw [← subL_less ok hu hs hv]
  exact h2
theorem div_pair {u v n : Nat} (hv : v < n) : (u * n + v) / n = u := by
  rw [Nat.mul_comm, Nat.mul_add_div (by omega), Nat.div_eq_of_lt hv, Nat.add_zero]
theorem mod_pair {u v n : Nat} (hv : v < n) : (u * n + v) % n = v := by
  rw [Nat.mul_comm, Nat.mul_add_mod, Nat.mod_eq_of_lt hv]
theorem pair_lt {u v m n : Nat} (hu : u < m) (hv : v < n) : u * n + v < m * n := by
  have h : (u + 1) * n ≤ m * n := Nat.mul_le_mul_right _ hu
  rw [Nat.succ_mul] at h
  omega
theorem prod_good {a b : Gm} {s : Nat} (hs : s < a.S * b.S) : (prodG a b).good.getD s false = (a.good.getD (s / b.S) false && b.good.getD (s % b.S) false) := by
  show (prodB a b (a.S * b.S)).getD s false = _
  unfold prodB
  rw [List.getD_eq_getElem?_getD, List.getElem?_map, List.getElem?_range hs]
  rfl
theorem bothF_nat (S i k : Nat) : bothF S (i : Int) (k : Int) = ((i * S + k : Nat) : Int) := by
  unfold bothF
  rw [if_neg (by omega), Int.natCast_add, Int.natCast_mul]
/-- The product of sets that are kept is kept. -/
theorem prod_sup {a b : Gm} (oa : GmOk a) (ob : GmOk b) {A B : Nat → Prop} (hA : KeptS a A) (hB : KeptS b B) : KeptS (prodG a b) (fun s => A (s / b.S) ∧ B (s % b.S)) := by
  intro s hs h
  have hs : s < a.S * b.S := hs
  obtain ⟨ga, u, hu, ka⟩ := hA _ (div_lt hs) h.1
  obtain ⟨gb, v, hv, kb⟩ := hB _ (mod_lt hs) h.2
  refine ⟨by rw [prod_good hs, ga, gb]; rfl, u * b.C + v, pair_lt hu hv, fun x hx => ?_⟩
  rw [subL_prod oa ob hs (pair_lt hu hv)] at hx
  unfold prodN pairL at hx
  rw [div_pair hv, mod_pair hv] at hx
  obtain ⟨y, hy, hx⟩ := List.mem_flatMap.1 hx
  obtain ⟨z, hz, rfl⟩ := List.mem_map.1 hx
  obtain ⟨i, rfl, hi⟩ := ka y hy
  obtain ⟨k, rfl, hk⟩ := kb z hz
  have hkb := sub_bd ob hz
  refine ⟨i * b.S + k, bothF_nat _ _ _, ?_⟩
  show A _ ∧ B _
  rw [div_pair (by omega), mod_pair (by omega)]
  exact ⟨hi, hk⟩
/-- Of a set that the product keeps, the parts are kept. -/
theorem prod_fst {a b : Gm} (oa : GmOk a) (ob : GmOk b) {P : Nat → Prop} (hP : KeptS (prodG a b) P) : KeptS a (fun i => ∃ k < b.S, P (i * b.S + k)) := by
  rintro i hi ⟨k, hk, hp⟩
  have hs := pair_lt hi hk
  obtain ⟨gg, c, hc, kc⟩ := hP _ hs hp
  have hc : c < a.C * b.C := hc
  rw [prod_good hs, div_pair hk, mod_pair hk, Bool.and_eq_true] at gg
  refine ⟨gg.1, c / b.C, div_lt hc, fun x hx => ?_⟩
  obtain ⟨y, hy⟩ : ∃ y, y ∈ subL b k (c % b.C) := by
    have h := sub_len ob hk (mod_lt hc)
    have h0 := ob.h0
    exact ⟨_, List.getElem_mem (show 0 < (subL b k (c % b.C)).length by omega)⟩
  have hm : bothF b.S x y ∈ subL (prodG a b) (i * b.S + k) c := by
    rw [subL_prod oa ob hs hc]
    unfold prodN pairL
    rw [div_pair hk, mod_pair hk]
    exact List.mem_flatMap.2 ⟨x, hx, List.mem_map.2 ⟨y, hy, rfl⟩⟩
  obtain ⟨t, ht, hpt⟩ := kc _ hm
  have hxb := sub_bd oa hx
  have hyb := sub_bd ob hy
  have hne : ¬ (x = -1 ∨ y = -1) := by
    intro h
    unfold bothF at ht
    rw [if_pos h] at ht
    omega
  obtain ⟨p, rfl⟩ : ∃ p : Nat, x = (p : Int) := ⟨x.toNat, by omega⟩
  obtain ⟨q, rfl⟩ : ∃ q : Nat, y = (q : Int) := ⟨y.toNat, by omega⟩
  rw [bothF_nat] at ht
  have ht2 : p * b.S + q = t := by exact_mod_cast ht
  exact ⟨p, rfl, q, by omega, by rw [ht2]; exact hpt⟩
theorem prod_snd {a b : Gm} (oa : GmOk a) (ob : GmOk b) {P : Nat → Prop} (hP : KeptS (prodG a b) P) : KeptS b (fun k => ∃ i < a.S, P (i * b.S + k)) := by
  rintro k hk ⟨i, hi, hp⟩
  have hs := pair_lt hi hk
  obtain ⟨gg, c, hc, kc⟩ := hP _ hs hp
  have hc : c < a.C * b.C := hc
  rw [prod_good hs, div_pair hk, mod_pair hk, Bool.and_eq_true] at gg
  refine ⟨gg.2, c % b.C, mod_lt hc, fun y hy => ?_⟩
  obtain ⟨x, hx⟩ : ∃ x, x ∈ subL a i (c / b.C) := by
    have h := sub_len oa hi (div_lt hc)
    have h0 := oa.h0
    exact ⟨_, List.getElem_mem (show 0 < (subL a i (c / b.C)).length by omega)⟩
  have hm : bothF b.S x y ∈ subL (prodG a b) (i * b.S + k) c := by
    rw [subL_prod oa ob hs hc]
    unfold prodN pairL
    rw [div_pair hk, mod_pair hk]
    exact List.mem_flatMap.2 ⟨x, hx, List.mem_map.2 ⟨y, hy, rfl⟩⟩
  obtain ⟨t, ht, hpt⟩ := kc _ hm
  have hxb := sub_bd oa hx
  have hyb := sub_bd ob hy
  have hne : ¬ (x = -1 ∨ y = -1) := by
    intro h
    unfold bothF at ht
    rw [if_pos h] at ht
    omega
  obtain ⟨p, rfl⟩ : ∃ p : Nat, x = (p : Int) := ⟨x.toNat, by omega⟩
  obtain ⟨q, rfl⟩ : ∃ q : Nat, y = (q : Int) := ⟨y.toNat, by omega⟩
  rw [bothF_nat] at ht
  have ht2 : p * b.S + q = t := by exact_mod_cast ht
  exact ⟨q, rfl, p, by omega, by rw [ht2]; exact hpt⟩
/-- The safe set of a product is the product of the safe sets. -/
theorem prod_safe {a b : Gm} (oa : GmOk a) (ob : GmOk b) (og : GmOk (prodG a b)) {i j k : Nat} (ha : Solved a i) (hb : Solved b j) (hg : Solved (prodG a b) k) : ∀ s < a.S * b.S, (itR (prodG a b) k).1.getD s false = ((itR a i).1.getD (s / b.S) false && (itR b j).1.getD (s % b.S) false) := by
  intro s hs
  rw [Bool.eq_iff_iff, Bool.and_eq_true]
  have hsp : s / b.S * b.S + s % b.S = s := Nat.div_add_mod' s b.S
  constructor
  · intro h
    refine ⟨kept_in oa (prod_fst oa ob (safe_kept og hg)) i _ (div_lt hs) ⟨s % b.S, mod_lt hs, ?_⟩, kept_in ob (prod_snd oa ob (safe_kept og hg)) j _ (mod_lt hs) ⟨s / b.S, div_lt hs, ?_⟩⟩
    all_goals
      show (itR (prodG a b) k).1.getD _ false = true
      rw [hsp]
      exact h
  · intro h
    exact kept_in og (prod_sup oa ob (safe_kept oa ha) (safe_kept ob hb)) k s hs h
/-- With a control less no state is safe that was not. -/
theorem less_safe {g : Gm} (ok : GmOk g) {u i k : Nat} (hu : u < g.C) (ol : GmOk (lessG g u)) (hl : Solved (lessG g u) k) : ∀ s < g.S, (itR (lessG g u) k).1.getD s false = true → (itR g i).1.getD s false = true := fun s hs h =>
  kept_in ok (less_sub ok hu (safe_kept ol hl)) i s hs h
end Go.Proofs.Ytalngalikblgkaa
