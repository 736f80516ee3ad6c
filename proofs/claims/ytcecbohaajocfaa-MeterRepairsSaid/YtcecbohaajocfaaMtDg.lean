/- law11: the case that MeterRepairs makes of a copy. -/
import Derived.Test.YtcecbohaajocfaaMtDf
import Derived.Test.YtcecbohaajocfaaMtY
import Derived.Test.YtcecbohaajocfaaMtU

set_option linter.unusedSimpArgs false
set_option linter.unusedVariables false
namespace Go.Proofs.Ytcecbohaajocfaa
open Go.RowKit

/-- A case whose values are a copy, in a box. -/
structure DvS (z : World) (dx nb db dc n : Nat) (D : List Int) (W : World) : Prop where
  low : Below z.heap.size z W
  b : Blk W dx 35 #[.slice (some ⟨nb, 0, none⟩) n n, .slice (some ⟨db, 0, none⟩) n dc]
  d : RowW W db 3 encI (some ⟨db, 0, none⟩) D
  ge : z.heap.size ≤ dx ∧ z.heap.size ≤ db
  len : D.length = n ∧ n ≤ dc ∧ 1 ≤ n
section
variable {z : World} {dx nb db dc n : Nat} {D : List Int} {W W' : World}
theorem DvS.next (h : DvS z dx nb db dc n D W) (hb : Below W.heap.size W W') : DvS z dx nb db dc n D W' :=
  ⟨below3 h.low hb (Nat.le_refl _), h.b.below hb h.b.lt, h.d.below9 hb, h.ge, h.len⟩
theorem DvS.cur (h : DvS z dx nb db dc n D W) : ∃ cur, Blk W db 3 cur ∧ ∀ (j : Nat) u, (D.flatMap encI)[j]? = some u → cur[j]? = some u := by
  rcases h.d with e | ⟨_, h⟩
  · have := h.len; rw [e] at this; simp at this; omega
  · exact h
theorem DvS.at_ (h : DvS z dx nb db dc n D W) {i : Nat} (hi : i < n) : W.cell? ⟨db, i, none⟩ = some (.int .i64 (D.getD i 0)) ∧ db < W.heap.size ∧ ∀ o, W.frozen? ⟨db, o, none⟩ = false := by
  have hx : D[i]? = some (D.getD i 0) := by rw [List.getD_eq_getElem?_getD, List.getElem?_eq_getElem (by rw [h.len.1]; exact hi)]; rfl
  obtain ⟨_, h1, h2, h3⟩ := h.d.at_ (size := 1) (fun _ => rfl) hx
  have := h3 0 _ rfl
  rw [Nat.mul_one, Nat.add_zero] at this
  exact ⟨this, h1, h2⟩
theorem DvS.setD (h : DvS z dx nb db dc n D W) {i : Nat} (hi : i < n) (x : Int) : DvS z dx nb db dc n (D.set i x) (W.setCell ⟨db, i, none⟩ (.int .i64 x)) := by
  have hx : D[i]? = some (D.getD i 0) := by rw [List.getD_eq_getElem?_getD, List.getElem?_eq_getElem (by rw [h.len.1]; exact hi)]; rfl
  obtain ⟨cur, hc, _⟩ := h.cur
  have h9 := h.d.set_ (size := 1) (fun _ => rfl) hx (j := 0) (u := .int .i64 x) (x' := x) (by omega) rfl
  rw [Nat.mul_one, Nat.add_zero] at h9
  exact ⟨h.low.setCell (p := ⟨db, i, none⟩) h.ge.2 _, h.b.far (blk_ne h.b hc (by decide)) _, h9, h.ge, by rw [List.length_set]; exact h.len⟩
/-- The first numbers of another list are copied into it. -/
theorem DvS.copy (h : DvS z dx nb db dc n D W) {rb : Nat} {R : List Int} (hr : Blk W rb 3 (intsA R)) (hR : R.length = n) {i : Nat} (hi : i ≤ n) :
    ∃ W', (∀ ty : TypeId, (Builtin.copy_ #[22, 22] ty #[.slice (some ⟨db, 0, none⟩) i dc, .slice (some ⟨rb, 0, none⟩) i n]).run Try.prog W = .ok (goInt i) W') ∧ DvS z dx nb db dc n (R.take i ++ D.drop i) W' := by
  obtain ⟨cur, hc, hcu⟩ := h.cur
  have hsz : ∀ j, j < n → j < cur.size := fun j hj => by
    have := hcu j (.int .i64 (D.getD j 0)) (by
      have hf : ∀ (l : List Int) (j : Nat), (l.flatMap encI)[j]? = (l[j]?).map (Value.int .i64) := fun l => by
        induction l with
        | nil => intro j; simp
        | cons x l ih => intro j; cases j with
          | zero => rfl
          | succ j => rw [List.flatMap_cons]; show ([Value.int .i64 x] ++ l.flatMap encI)[j + 1]? = _; simpa using ih j
      rw [hf, List.getElem?_eq_getElem (by rw [h.len.1]; exact hj), List.getD_eq_getElem?_getD, List.getElem?_eq_getElem (by rw [h.len.1]; exact hj)]
      rfl)
    exact (Array.getElem?_eq_some_iff.1 this).1
  have hf : ∀ (l : List Int), (l.flatMap encI) = l.map (Value.int .i64) := fun l => by
    induction l with
    | nil => rfl
    | cons x l ih => rw [List.flatMap_cons, ih]; rfl
  have hcs : ((R.take i).flatMap encI).length = i * 1 := by rw [hf, List.length_map, List.length_take]; omega
  have hn1 := h.len.2.2
  have hcur : n ≤ cur.size := by have := hsz (n - 1) (by omega); omega
  have hrun := fun ty => run_copy_row_k (P := Try.prog) W 22 22 ty 3 1 db 0 i dc ⟨rb, 0, none⟩ i n cur 3 ((R.take i).flatMap encI) i Try.underlying22 (by kernel_rfl) hc (Nat.min_self i) hcs (fun j v hv => by
    rw [hf, List.getElem?_map] at hv
    obtain ⟨x, hx, rfl⟩ := Option.map_eq_some_iff.1 hv
    rw [List.getElem?_take] at hx
    split at hx
    · rw [add0]
      exact hr.intAt hx
    · cases hx) (by rw [hcs]; omega) (fun v hv => by
    rw [hf] at hv
    obtain ⟨x, _, rfl⟩ := List.mem_map.1 hv
    rfl)
  refine ⟨_, fun ty => hrun ty, ?_⟩
  have hdx : dx ≠ db := blk_ne h.b hc (by decide)
  refine ⟨setRow_low h.low h.ge.2, ?_, ?_, h.ge, ⟨by rw [List.length_append, List.length_take, List.length_drop, h.len.1, hR]; omega, h.len.2⟩⟩
  · show (World.setRow _ _ _).heap[dx]? = _
    rw [setRow_far hdx]
    exact h.b
  · refine Or.inr ⟨rfl, _, setRow_blk hc, fun j u hu => ?_⟩
    rw [List.getElem?_toArray, List.take_zero, List.nil_append, Nat.zero_add, hcs, Nat.mul_one]
    rw [hf, List.map_append, ← hf, ← hf] at hu
    rw [List.getElem?_append] at hu ⊢
    rw [hcs, Nat.mul_one] at hu ⊢
    split
    · rename_i hj
      rw [if_pos hj] at hu
      exact hu
    · rename_i hj
      rw [if_neg hj] at hu
      rw [List.getElem?_drop]
      rw [hf, List.map_drop, ← hf] at hu
      have h5 := hu
      rw [List.getElem?_drop] at h5
      have h6 := hcu _ _ h5
      simpa using h6
theorem DvS.ks (h : DvS z dx nb db dc n D W) {N : List Nd} (hn : Blk W nb 107 (nodesA N)) (hN : N.length = n) : KsIn W W.heap.size n (some ⟨nb, 0, none⟩) (some ⟨db, 0, none⟩) ⟨N, D⟩ := by
  have hr : RowW W nb 107 Nd.enc (some ⟨nb, 0, none⟩) N := Or.inr ⟨rfl, _, hn, fun j u hu => by rw [nodesA, List.getElem?_toArray]; exact hu⟩
  exact ⟨RowW.rd (T := 107) (b := nb) (l := N) (fun _ => rfl) hN hr, h.d.rd (fun _ => rfl) h.len.1⟩
end
def d39Phi (z : Nat) (cx nb vb n : Nat) (V : List Int) : Nat → Value → World → (Nat → Nat) → Prop
  | 0, v, _, _ => v = .pointer (some ⟨cx, 0, none⟩)
  | 1, v, _, _ => v = .slice (some ⟨nb, 0, none⟩) n n
  | 2, v, _, _ => v = .pointer (some ⟨cx, 1, none⟩)
  | 3, v, _, _ => v = .slice (some ⟨vb, 0, none⟩) n n
  | 4, v, W, γ => v = .slice (some ⟨γ 31, 0, none⟩) n (γ 32) ∧ z ≤ γ 31 ∧ n ≤ γ 32 ∧ RowW W (γ 31) 3 encI (some ⟨γ 31, 0, none⟩) V
  | 5, v, _, γ => v = .agg #[.slice (some ⟨nb, 0, none⟩) n n, .slice (some ⟨γ 31, 0, none⟩) n (γ 32)]
  | 6, v, W, γ => v = .pointer (some ⟨γ 30, 0, none⟩) ∧ z ≤ γ 30 ∧ (γ 20 = 0 → Blk W (γ 30) 35 #[.slice none 0 0, .slice none 0 0])
  | 7, _, W, γ => Blk W (γ 30) 35 #[.slice (some ⟨nb, 0, none⟩) n n, .slice (some ⟨γ 31, 0, none⟩) n (γ 32)]
  | _, _, _, _ => True
theorem d39Phi_next {z cx nb vb n : Nat} {V : List Int} {j : Nat} {v : Value} {W W' : World} {γ γ' : Nat → Nat} (hb : Below W.heap.size W W') (h4 : (j = 4 ∨ j = 5 ∨ j = 7) → γ' 31 = γ 31 ∧ γ' 32 = γ 32) (h6 : (j = 6 ∨ j = 7) → γ' 30 = γ 30 ∧ γ' 20 = γ 20) (h : d39Phi z cx nb vb n V j v W γ) : d39Phi z cx nb vb n V j v W' γ' := by
  unfold d39Phi at h ⊢
  split at h
  all_goals first | exact h | trivial | skip
  · obtain ⟨e1, e2⟩ := h4 (Or.inl rfl)
    rw [e1, e2]
    exact ⟨h.1, h.2.1, h.2.2.1, h.2.2.2.below9 hb⟩
  · obtain ⟨e1, e2⟩ := h4 (Or.inr (Or.inl rfl))
    rw [e1, e2]
    exact h
  · obtain ⟨e1, e2⟩ := h6 (Or.inl rfl)
    rw [e1, e2]
    exact ⟨h.1, h.2.1, fun e => (h.2.2 e).below hb (h.2.2 e).lt⟩
  · obtain ⟨e1, e2⟩ := h4 (Or.inr (Or.inr rfl))
    rw [e1, e2, (h6 (Or.inr rfl)).1]; exact h.below hb h.lt
/-- The numbers that the others can't be repaired with. -/
theorem less_d {c : Ks} (ok : KsOk c) {set : List Nat} (hv : Vc c.n set) (hc : canB c set = true) {R : List Int} (hr : Rep c (narS c (iniS c set)) (fun i => R.getD i 0)) (hl : R.length = c.n) (hb : ∀ x ∈ R, 0 ≤ x ∧ x ≤ 1000000000) {i : Nat} (hi : i ∈ set) (h0 : R.getD i 0 ≠ 0) :
    KsOk (c.put ((R.take i ++ c.vals.drop i).set i (R.getD i 0 - 1))) ∧ canB (c.put ((R.take i ++ c.vals.drop i).set i (R.getD i 0 - 1))) (set.filter fun k => decide (i < k)) = false := by
  have hin := vc_mem hv hi
  have hvl := ok.len
  have hlen : (R.take i ++ c.vals.drop i).length = c.n := by rw [List.length_append, List.length_take, List.length_drop]; omega
  have hri : 0 ≤ R.getD i 0 ∧ R.getD i 0 ≤ 1000000000 := by
    rw [List.getD_eq_getElem?_getD, List.getElem?_eq_getElem (by omega)]
    exact hb _ (List.getElem_mem (by omega))
  have okd : KsOk (c.put ((R.take i ++ c.vals.drop i).set i (R.getD i 0 - 1))) := put_ok ok (by rw [List.length_set]; exact hlen) (set_bd (fun x hx => by
    rcases List.mem_append.1 hx with h | h
    · exact hb x (List.mem_of_mem_take h)
    · exact ok_bd ok (List.mem_of_mem_drop h)) (by omega))
  refine ⟨okd, less_not ok hr hc rfl okd hin hi (fun j hj => ?_) ?_ (fun j hj hj2 => ?_)⟩
  · rw [put_v, put_getD (by omega), if_neg (by omega), List.getD_eq_getElem?_getD, List.getD_eq_getElem?_getD, List.getElem?_append_left (by rw [List.length_take]; omega), List.getElem?_take, if_pos hj]
  · rw [put_v, put_getD (by omega), if_pos rfl]
  · rw [put_v, put_getD (by omega), if_neg (by omega), List.getD_eq_getElem?_getD, List.getElem?_append_right (by rw [List.length_take]; omega), List.length_take, List.getElem?_drop]
    unfold Ks.v
    rw [List.getD_eq_getElem?_getD, show i + (j - min i R.length) = j by omega]
end Go.Proofs.Ytcecbohaajocfaa
