/- heat: whatever cases come: plain facts of HeatInside. -/
import Derived.Test.YtldbciflpnhfpaaHtHa
import Derived.Test.YtldbciflpnhfpaaHtIc
import Derived.Test.YtldbciflpnhfpaaHtHo
import Derived.Test.YtldbciflpnhfpaaHtCo
import Derived.Test.YtldbciflpnhfpaaHtCb
import Derived.Maps.AppendAt
import Derived.Laws.AppendOwnNone

set_option linter.unusedSimpArgs false
set_option linter.unusedVariables false
namespace Go.Proofs.Ytldbciflpnhfpaa
open Go.RowKit

theorem itC_rep (h : Hl) (t : List Int) (x : Cz) : ∀ k, itC h t (List.replicate k x) = itL h x.2 x.1.out x.1.pump t k := by
  intro k
  induction k with
  | zero => rfl
  | succ k ih => rw [List.replicate_succ', itC_snoc, ih]; rfl
theorem itC_take_rep (h : Hl) (t : List Int) (x : Cz) {k n : Nat} (hk : k ≤ n) : itC h t ((List.replicate n x).take k) = itL h x.2 x.1.out x.1.pump t k := by
  rw [List.take_replicate, Nat.min_eq_left hk, itC_rep]
theorem itC_len {h : Hl} {t : List Int} (ht : t.length = h.rooms.length) (l : List Cz) : (itC h t l).length = h.rooms.length := by
  rcases List.eq_nil_or_concat l with rfl | ⟨l, x, rfl⟩
  · exact ht
  · rw [List.concat_eq_append, itC_snoc, nxL_len]
/-- The cases of a class. -/
def MidC (rn : Nat) (KL KH : List Int) (ol pl oh ph : Int) (x : Cz) : Prop := MidOk rn KL KH ol pl oh ph x.1.out x.1.pump x.2
theorem itC_mid {h : Hl} (ok : HlOk h) {rn : Nat} {KL KH : List Int} {ol pl oh ph : Int} (k : KK rn KL KH ol pl oh ph) {TL TH S : List Int} (t : TT rn TL TH) (hs : ∀ i, TL.getD i 0 ≤ S.getD i 0 ∧ S.getD i 0 ≤ TH.getD i 0) : ∀ (cl : List Cz), (∀ x ∈ cl, MidC rn KL KH ol pl oh ph x) → ∀ i, 0 ≤ (itL h KL ol pl TL cl.length).getD i 0 ∧ (itL h KL ol pl TL cl.length).getD i 0 ≤ (itC h S cl).getD i 0 ∧ (itC h S cl).getD i 0 ≤ (itL h KH oh ph TH cl.length).getD i 0 := by
  intro cl
  generalize hn : cl.length = n
  induction n generalizing cl with
  | zero =>
    intro _ i
    obtain rfl := List.eq_nil_of_length_eq_zero hn
    have := t.2.2.2.1 i
    have := hs i
    exact ⟨t.2.2.2.1 i, (hs i).1, (hs i).2⟩
  | succ n ih =>
    intro hc i
    rcases List.eq_nil_or_concat cl with rfl | ⟨l, x, rfl⟩
    · cases hn
    · rw [List.concat_eq_append] at hn hc ⊢
      have hn2 : l.length = n := by simpa using hn
      have ih2 := ih l hn2 (fun y hy => hc y (List.mem_append_left _ hy))
      obtain ⟨m1, m2, m3, m4, m5⟩ := hc x (by simp)
      obtain ⟨k1, k2, k3, k4, k5, k6⟩ := k
      rw [itC_snoc]
      show 0 ≤ (nxL h (itL h KL ol pl TL n) KL ol pl).getD i 0 ∧ (nxL h (itL h KL ol pl TL n) KL ol pl).getD i 0 ≤ _ ∧ _ ≤ (nxL h (itL h KH oh ph TH n) KH oh ph).getD i 0
      have e1 := nxL_le ok (p := pl) (q := x.1.pump) (o := ol) (o' := x.1.out) (l := KL) (m := x.2) k6.2.1 m5 k6.1.1 m4.2 m3.1.1 k4 (fun j => (m2 j).1) (t := itL h KL ol pl TL n) (u := itC h S l) (fun j => (ih2 j).1) (fun j => (ih2 j).2.1) i
      have e2 := nxL_le ok (p := x.1.pump) (q := ph) (o := x.1.out) (o' := oh) (l := x.2) (m := KH) m5 k6.2.2.2.1 m3.2.1 m4.1 m3.1.2 (fun j => by have := k4 j; have := (m2 j).1; omega) (fun j => (m2 j).2) (t := itC h S l) (u := itL h KH oh ph TH n) (fun j => by have := ih2 j; omega) (fun j => (ih2 j).2.2) i
      exact ⟨e1.1, e1.2, e2.2⟩
/-- Before the second of the ride nothing is too hot. -/
theorem ride_cool {h : Hl} {L : Nat → List Int} {cnt : Nat} {n m : Int} (r : RideIs h L cnt n m) {k : Nat} (hk : (k : Int) < n) : NoHot h (L k) := by
  rcases r with ⟨rfl, _, h9⟩ | ⟨j, _, rfl, _, _, h9⟩
  · exact h9 k (by omega)
  · exact h9 k (by omega)
theorem ride_n {h : Hl} {L : Nat → List Int} {cnt : Nat} {n m : Int} (r : RideIs h L cnt n m) : 0 ≤ n ∧ n ≤ (cnt : Int) + 1 := by
  rcases r with ⟨rfl, _, _⟩ | ⟨j, _, rfl, _, _, _⟩ <;> omega
end Go.Proofs.Ytldbciflpnhfpaa

/- law07: HeatInside: what its regions' operations give. -/

set_option linter.unusedSimpArgs false
set_option linter.unusedVariables false
namespace Go.Proofs.Ytldbciflpnhfpaa
open Go.RowKit

/-- A case whose loads lie in a row of numbers. -/
def CzR (W : World) (rn : Nat) (x : Cz) : Prop := x.1.n = rn ∧ x.2.length = rn ∧ ∃ b, RowW W b 3 encI x.1.A x.2
theorem CzR.next {W W' : World} {rn : Nat} {x : Cz} (h : CzR W rn x) (hb : Below W.heap.size W W') : CzR W' rn x := by
  obtain ⟨h1, h2, b, h3⟩ := h
  exact ⟨h1, h2, b, h3.below9 hb⟩
theorem CzR.ok {W : World} {rn : Nat} {x : Cz} (h : CzR W rn x) {KL KH : List Int} {ol pl oh ph : Int} (m : MidC rn KL KH ol pl oh ph x) : CzOk W W.heap.size rn x := by
  obtain ⟨h1, h2, b, h3⟩ := h
  exact ⟨h1, h3.rd (fun _ => rfl) h2 (size := 1), m.1, m.2.2.1.2, m.2.2.2.2⟩
/-- The cases under way. -/
structure CasI (w0 : World) (rn : Nat) (KL KH : List Int) (ol pl oh ph : Int) (A : Option Addr) (c k : Nat) (cl : List Cz) (W : World) : Prop where
  low : Below w0.heap.size w0 W
  row : W.ownsRow w0.heap.size 35 3 (.slice A k c) k ((cl.map Prod.fst).flatMap Cs.enc)
  len : cl.length = k
  els : ∀ x ∈ cl, CzR W rn x ∧ MidC rn KL KH ol pl oh ph x
theorem own_keep {W W' : World} {z n size : Nat} {e : TypeId} {v : Value} {xs : List Value} (h : W.ownsRow z e size v n xs) (hb : Below W.heap.size W W') : W'.ownsRow z e size v n xs := by
  refine h.kept (grown_of_below hb) ?_
  rcases h.2 with ⟨e, _⟩ | ⟨g, cap, cur, e, _⟩
  · left; rw [e]; rfl
  · right; rw [e]; intro h9; cases h9
theorem CasI.next {w0 W W' : World} {rn : Nat} {KL KH : List Int} {ol pl oh ph : Int} {A : Option Addr} {c k : Nat} {cl : List Cz} (h : CasI w0 rn KL KH ol pl oh ph A c k cl W) (hb : Below W.heap.size W W') : CasI w0 rn KL KH ol pl oh ph A c k cl W' :=
  ⟨below3 h.low hb (Nat.le_refl _), own_keep h.row hb, h.len, fun x hx => ⟨(h.els x hx).1.next hb, (h.els x hx).2⟩⟩
theorem CasI.push {w0 W W' : World} {rn : Nat} {KL KH : List Int} {ol pl oh ph : Int} {A A' : Option Addr} {c c' k : Nat} {cl : List Cz} {x : Cz} (h : CasI w0 rn KL KH ol pl oh ph A c k cl W) (hx : CzR W rn x) (hm : MidC rn KL KH ol pl oh ph x) (hg : W.grownBy W' (Value.slice A k c).ownBlock)
    (hown : W'.ownsRow w0.heap.size 35 3 (.slice A' (k + 1) c') (k + 1) ((cl.map Prod.fst).flatMap Cs.enc ++ x.1.enc)) : CasI w0 rn KL KH ol pl oh ph A' c' (k + 1) (cl ++ [x]) W' := by
  have keep : ∀ {y : Cz}, CzR W rn y → CzR W' rn y := fun {y} ⟨h1, h2, b, h3⟩ => ⟨h1, h2, b, h3.kept (fun _ cur hc => hc.kept hg (own_ne h.row hc (by decide)))⟩
  refine ⟨h.low.grown hg h.low.size (fun r e => (World.ownsRow.lt h.row r e).1), by simpa using hown, by simp [h.len], fun y hy => ?_⟩
  rcases List.mem_append.1 hy with hy | hy
  · exact ⟨keep (h.els y hy).1, (h.els y hy).2⟩
  · obtain rfl := List.mem_singleton.1 hy
    exact ⟨keep hx, hm⟩
theorem RunV.at_ {W : World} {z rn ln c : Nat} {L : Nat → List Int} {A : Option Addr} (h : RunV W z rn ln L (.slice A ln c)) {i : Nat} (hi : i < ln) : ∃ g o b, A = some ⟨g, o, none⟩ ∧ g < W.heap.size ∧ W.cell? ⟨g, o + i, none⟩ = some (.slice (some ⟨b, 0, none⟩) rn rn) ∧ Blk W b 3 (intsA (L (i + 1))) := by
  obtain ⟨A', c', pre, e, h1, h2, h3⟩ := h
  simp only [Value.slice.injEq] at e
  obtain ⟨rfl, -, rfl⟩ := e
  obtain ⟨g, o, b, e1, hg, hb, hc⟩ := (row_rd (f := slE rn) (size := 1) (fun _ => rfl) h1 h2).at_ hi
  have cx := hc 0 _ rfl
  rw [Nat.mul_one, Nat.add_zero] at cx
  exact ⟨g, o, b, e1, hg, cx, (h3 i b hb).2⟩
/-- n + 1 < ride and a temperature above its limit. -/
def coPhi (xb rb j : Nat) (k n x y : Int) (d : Bool) (rn : Nat) : Nat → Value → World → (Nat → Nat) → Prop
  | 0, v, _, _ => v = .int .i64 k
  | 1, v, _, _ => v = .int .i64 (k + 1)
  | 2, v, _, _ => v = .int .i64 n
  | 3, v, _, _ => v = .bool d
  | 4, v, _, _ => v = .bool d
  | 5, v, _, _ => d = true → v = .slice (some ⟨xb, 0, none⟩) rn rn
  | 6, v, _, _ => d = true → v = .int .i64 (j : Int)
  | 7, v, _, _ => d = true → v = .pointer (some ⟨xb, j, none⟩)
  | 8, v, _, _ => d = true → v = .int .i64 x
  | 9, v, _, _ => d = true → v = .pointer (some ⟨rb, 1, none⟩)
  | 10, v, _, _ => d = true → v = .int .i64 y
  | 11, v, _, _ => d = true → v = .bool false
  | 12, v, _, _ => v = .bool false
  | _, _, _, _ => True
/-- Whether a room of the worst run is too hot too early. -/
def woPhi (xb rb j : Nat) (k n r x y : Int) (d : Bool) (rn xc : Nat) : Nat → Value → World → (Nat → Nat) → Prop
  | 0, v, _, _ => v = .slice (some ⟨xb, 0, none⟩) rn xc
  | 1, v, _, _ => v = .int .i64 (j : Int)
  | 2, v, _, _ => v = .pointer (some ⟨xb, j, none⟩)
  | 3, v, _, _ => v = .int .i64 x
  | 4, v, _, _ => v = .pointer (some ⟨rb, 1, none⟩)
  | 5, v, _, _ => v = .int .i64 y
  | 6, v, _, _ => v = .bool d
  | 7, v, _, _ => v = .bool d
  | 8, v, _, _ => d = true → v = .int .i64 k
  | 9, v, _, _ => d = true → v = .int .i64 n
  | 10, v, _, _ => d = true → v = .bool false
  | 11, v, _, _ => (d = true → v = .bool false) ∧ (d = false → v = undef)
  | 12, v, _, _ => d = true → v = .int .i64 k
  | 13, v, _, _ => d = true → v = .int .i64 n
  | 14, v, _, _ => d = true → v = .bool true
  | 15, v, _, _ => (d = true → v = .bool true) ∧ (d = false → v = undef)
  | 16, v, _, _ => d = true → v = .int .i64 (j : Int)
  | 17, v, _, _ => d = true → v = .int .i64 r
  | 18, v, _, _ => d = true → v = .bool false
  | 19, v, _, _ => d = true → v = .bool false
  | 20, v, _, _ => d = true → v = .bool false
  | 21, v, _, _ => v = .bool false
  | _, _, _, _ => True
/-- The worst run under way. -/
def wrPhi (z rn q hc kb : Nat) (hs cs : Array Value) (hA : Option Addr) (n : Int) (x : Cs) (L : Nat → List Int) : Nat → Value → World → (Nat → Nat) → Prop
  | 0, v, _, _ => v = .agg hs
  | 1, v, _, _ => v = .slice hA rn hc
  | 2, v, _, _ => v = .pointer (some ⟨kb, 3, none⟩)
  | 3, v, _, _ => v = .agg cs
  | 4, v, W, _ => ∃ xb, v = .slice (some ⟨xb, 0, none⟩) 1 1 ∧ Blk W xb 35 x.enc.toArray
  | 5, v, _, _ => v = .int .i64 n
  | 6, v, _, _ => v = .int .i64 (q : Int)
  | 7, v, W, _ => ∃ nb, v = .slice (some ⟨nb, 0, none⟩) q q ∧ Blk W nb 35 ((List.replicate q x).flatMap Cs.enc).toArray
  | 8, v, W, _ => ∃ (A : Option Addr) (c : Nat), v = .tuple #[.slice A q c, .int .i64 0] ∧ RunV W z rn q L (.slice A q c)
  | 9, v, W, _ => ∃ (A : Option Addr) (c : Nat), v = .tuple #[.slice A q c, .int .i64 0] ∧ RunV W z rn q L (.slice A q c)
  | 10, v, W, _ => ∃ (A : Option Addr) (c : Nat), v = .slice A q c ∧ RunV W z rn q L (.slice A q c)
  | 11, v, _, _ => v = .int .i64 0
  | 12, v, W, _ => ∃ (A : Option Addr) (c : Nat), v = .slice A q c ∧ RunV W z rn q L (.slice A q c)
  | 13, v, _, _ => v = .int .i64 0
  | _, _, _, _ => True
theorem wrPhi_next {z rn q hc kb : Nat} {hs cs : Array Value} {hA : Option Addr} {n : Int} {x : Cs} {L : Nat → List Int} {W W' : World} (hb : Below W.heap.size W W') (j : Nat) (v : Value) {γ γ' : Nat → Nat} (h : wrPhi z rn q hc kb hs cs hA n x L j v W γ) : wrPhi z rn q hc kb hs cs hA n x L j v W' γ' := by
  unfold wrPhi at h ⊢
  split at h
  all_goals first | exact h | trivial | skip
  · obtain ⟨xb, e, h1⟩ := h; exact ⟨xb, e, h1.below hb h1.lt⟩
  · obtain ⟨xb, e, h1⟩ := h; exact ⟨xb, e, h1.below hb h1.lt⟩
  all_goals obtain ⟨A, c, e, h1⟩ := h; exact ⟨A, c, e, h1.below hb⟩
theorem rd_blkC {W : World} {nb q : Nat} {x : Cs} (h : Blk W nb 35 ((List.replicate q x).flatMap Cs.enc).toArray) : Rd W W.heap.size 3 Cs.enc (some ⟨nb, 0, none⟩) q (List.replicate q x) :=
  (show RowW W nb 35 Cs.enc (some ⟨nb, 0, none⟩) (List.replicate q x) from Or.inr ⟨rfl, _, h, fun j u hu => by simpa using hu⟩).rd (fun _ => rfl) (List.length_replicate ..) (size := 3)
theorem own_new1 (w : World) (base : Nat) (x : Value) (hb : base ≤ w.heap.size) : (w.alloc (.cells #[x] 30)).ownsRow base 30 1 (.slice (some ⟨w.heap.size, 0, none⟩) 1 1) 1 [x] :=
  ⟨by simp, .inr ⟨w.heap.size, 1, #[x], rfl, hb, heap_alloc_new w _, Nat.le_refl _, by simp [maxLen], by simp, by simp⟩⟩
theorem wpList_append_run {P : Program} {w : World} {ops : Array Oper} {rest : List Oper} {o : Oper} {a : Act} {Q : Exit → Act → World → Prop} (hgd : o.guard = none) (s x : Operand) (t : TypeId)
    (ho : o.op = .call { callee := .builtin .append, args := #[s, x], argTypes := #[t, t] }) (u v v' : Value) (w' : World) (hs : a.eval s = u) (hx : a.eval x = v)
    (hr : (Builtin.append_ #[t, t] o.type #[u, v]).run P w = .ok v' w') (h : wpList P ops Q rest (a.put o.dst v') w') : wpList P ops Q (o :: rest) a w := by
  refine wpList_plain hgd fun K hK => ?_
  unfold Oper.wp execOp
  simp only [ho, resolve, invoke, builtin, Sem.run_bind, Sem.run_pure, Result.andThen_ok, List.map_toArray, List.map_cons, List.map_nil, hs, hx, hr]
  exact hK _ _ h
/-- The worst run with its beginning. -/
def WoIs (W : World) (rn q : Nat) (Lf : Nat → List Int) (A : Option Addr) : Prop :=
  ∃ xs : List Ls, Rd W W.heap.size 1 Ls.enc A (q + 1) xs ∧ ∀ j x, xs[j]? = some x → x.n = rn ∧ ∃ b, x.A = some ⟨b, 0, none⟩ ∧ RowW W b 3 encI x.A (Lf j)
theorem WoIs.below {W W' : World} {rn q : Nat} {Lf : Nat → List Int} {A : Option Addr} (h : WoIs W rn q Lf A) (hb : Below W.heap.size W W') : WoIs W' rn q Lf A := by
  obtain ⟨xs, h1, h2⟩ := h
  exact ⟨xs, h1.next hb, fun j x hx => ⟨(h2 j x hx).1, by obtain ⟨b, e, h9⟩ := (h2 j x hx).2; exact ⟨b, e, h9.below9 hb⟩⟩⟩
theorem RunV.congr {W : World} {z rn ln : Nat} {L L' : Nat → List Int} {v : Value} (h : RunV W z rn ln L v) (he : ∀ i, i < ln → L (i + 1) = L' (i + 1)) : RunV W z rn ln L' v := by
  obtain ⟨A, c, pre, e, h1, h2, h3⟩ := h
  refine ⟨A, c, pre, e, h1, h2, fun i b hb => ⟨(h3 i b hb).1, ?_⟩⟩
  rw [← he i (by rw [← h1]; exact (List.getElem?_eq_some_iff.1 hb).1)]
  exact (h3 i b hb).2
theorem flat_encI (l : List Int) : l.flatMap encI = l.map (Value.int .i64) := by
  induction l with
  | nil => rfl
  | cons x l ih => rw [List.flatMap_cons, ih]; rfl
theorem wo_app {W : World} {z z2 rn q c hb hc g0 : Nat} {A : Option Addr} {Lf : Nat → List Int} (ty : TypeId) (hq : q ≤ 200) (hz : z ≤ W.heap.size) (hr : RunV W z2 rn q Lf (.slice A q c)) (hh : RowW W hb 3 encI (some ⟨hb, 0, none⟩) (Lf 0))
    (h0 : W.ownsRow z 30 1 (.slice (some ⟨g0, 0, none⟩) 1 1) 1 [.slice (some ⟨hb, 0, none⟩) rn hc]) :
    ∃ A' c' w', (Builtin.append_ #[53, 53] ty #[.slice (some ⟨g0, 0, none⟩) 1 1, .slice A q c]).run Try.prog W = .ok (.slice A' (q + 1) c') w' ∧ Below z W w' ∧ WoIs w' rn q Lf A' := by
  obtain ⟨i0, hi, hz0, hz1, hz2⟩ := info_parts rowInfo9
  obtain ⟨A', c', pre, e, h1, h2, h3⟩ := hr
  simp only [Value.slice.injEq] at e
  obtain ⟨rfl, -, rfl⟩ := e
  have key : ∃ v' w', (Builtin.append_ #[53, 53] ty #[.slice (some ⟨g0, 0, none⟩) 1 1, .slice A q c]).run Try.prog W = .ok v' w' ∧ w'.ownsRow z 30 1 v' (1 + q) ([.slice (some ⟨hb, 0, none⟩) rn hc] ++ pre.flatMap (slE rn)) ∧ W.grownBy w' (Value.slice (some ⟨g0, 0, none⟩) 1 1).ownBlock := by
    rcases h2.2 with ⟨e, h9⟩ | ⟨g, cap, cur, e, h4, h5, h6⟩
    · subst h9
      obtain rfl := List.eq_nil_of_length_eq_zero h1
      have hr := run_append_owned_none (P := Try.prog) (w := W) z 53 ty 30 i0 1 Try.underlying53 hi _ _ _ h0
      rw [e]
      exact ⟨_, W, hr, by simpa using h0, World.grownBy.refl _ _⟩
    · have hl : (pre.flatMap (slE rn)).length = q * 1 := by rw [flat_len (s := 1) (fun _ => rfl), h1]
      simp only [Value.slice.injEq] at e
      obtain ⟨rfl, -, rfl⟩ := e
      obtain ⟨v', w', hr, p1, p2, _, _⟩ := run_append_own_at (P := Try.prog) W z 53 ty 30 i0 (.slice none 0 0) 1 24 Try.underlying53 hi hz0 hz1 hz2 rfl (by decide) _ _ _ h0 ⟨g, 0, none⟩ q c (pre.flatMap (slE rn)) hl (fun j u hu => h2.cells (g := g) rfl j u hu) (fun u hu => by
        obtain ⟨b, _, hb⟩ := List.mem_flatMap.1 hu
        simp only [slE, List.mem_cons, List.mem_nil_iff, or_false] at hb
        subst hb; rfl) (by simp only [maxLen]; omega) (by omega) hz
      exact ⟨v', w', hr, p1, p2⟩
  obtain ⟨v', w', hr, p1, p2⟩ := key
  obtain ⟨A9, c9, rfl⟩ := row_slice p1
  rw [Nat.add_comm 1 q] at hr p1
  have keepB : ∀ {b : Nat} {cs : Array Value}, Blk W b 3 cs → Blk w' b 3 cs := fun {b cs} h9 => h9.kept p2 (own_ne h0 h9 (by decide))
  refine ⟨A9, c9, w', hr, (Below.refl z W).grown p2 hz (fun r e => (World.ownsRow.lt h0 r e).1), (⟨some ⟨hb, 0, none⟩, rn, hc⟩ : Ls) :: pre.map (fun b => (⟨some ⟨b, 0, none⟩, rn, rn⟩ : Ls)), row_rd (size := 1) (fun _ => rfl) (by simp [h1]) (n₀ := z) (T := 30) (c := c9) ?_, ?_⟩
  · have e9 : ((⟨some ⟨hb, 0, none⟩, rn, hc⟩ : Ls) :: pre.map (fun b => (⟨some ⟨b, 0, none⟩, rn, rn⟩ : Ls))).flatMap Ls.enc = [.slice (some ⟨hb, 0, none⟩) rn hc] ++ pre.flatMap (slE rn) := by
      rw [List.flatMap_cons, List.flatMap_map]
      rfl
    rw [e9]
    exact p1
  · intro j x hx
    cases j with
    | zero =>
      simp only [List.getElem?_cons_zero, Option.some.injEq] at hx
      subst hx
      exact ⟨rfl, hb, rfl, hh.kept (fun _ cur hc => keepB hc)⟩
    | succ j =>
      rw [List.getElem?_cons_succ, List.getElem?_map] at hx
      cases hp : pre[j]? with
      | none => rw [hp] at hx; cases hx
      | some b =>
        rw [hp] at hx
        simp only [Option.map_some, Option.some.injEq] at hx
        subst hx
        exact ⟨rfl, b, rfl, Or.inr ⟨rfl, _, keepB (h3 j b hp).2, fun i u hu => by
          rw [flat_encI] at hu
          simpa [intsA] using hu⟩⟩
/-- The end: the room that is too hot in the second of the ride. -/
def enPhi (bx wb wo xb mb mo k i : Nat) (x y : Int) (rn q wc xc rc : Nat) : Nat → Value → World → (Nat → Nat) → Prop
  | 0, v, _, _ => v = .int .i64 (i : Int)
  | 1, v, _, _ => v = .bool true
  | 2, v, _, _ => v = .bool true
  | 3, v, _, _ => v = .slice (some ⟨wb, wo, none⟩) (q + 1) wc
  | 4, v, _, _ => v = .int .i64 (k : Int)
  | 5, v, _, _ => v = .pointer (some ⟨wb, wo + k, none⟩)
  | 6, v, _, _ => v = .slice (some ⟨xb, 0, none⟩) rn xc
  | 7, v, _, _ => v = .int .i64 (i : Int)
  | 8, v, _, _ => v = .pointer (some ⟨xb, i, none⟩)
  | 9, v, _, _ => v = .int .i64 x
  | 10, v, _, _ => v = .pointer (some ⟨bx, 0, none⟩)
  | 11, v, _, _ => v = .slice (some ⟨mb, mo, none⟩) rn rc
  | 12, v, _, _ => v = .int .i64 (i : Int)
  | 13, v, _, _ => v = .pointer (some ⟨mb, mo + i * 2, none⟩)
  | 14, v, _, _ => v = .pointer (some ⟨mb, mo + i * 2 + 1, none⟩)
  | 15, v, _, _ => v = .int .i64 y
  | 16, v, _, _ => v = .bool true
  | 17, v, _, _ => v = .bool true
  | 18, v, _, _ => v = .bool true
  | 19, v, _, _ => v = .bool true
  | 20, v, _, _ => v = .bool true
  | 21, v, _, _ => v = .bool true
  | _, _, _, _ => True
theorem enPhi_w {bx wb wo xb mb mo k i : Nat} {x y : Int} {rn q wc xc rc j : Nat} {v : Value} {W W' : World} {γ γ' : Nat → Nat} (h : enPhi bx wb wo xb mb mo k i x y rn q wc xc rc j v W γ) : enPhi bx wb wo xb mb mo k i x y rn q wc xc rc j v W' γ' := by
  unfold enPhi at h ⊢
  split at h <;> first | exact h | trivial
end Go.Proofs.Ytldbciflpnhfpaa
