/- law11: what MeterNamed keeps in memory: a case and a set of nodes in boxes. -/
import Derived.Test.YtcecbohaajocfaaMtDf
import Derived.Test.YtcecbohaajocfaaMtEb
import Derived.Test.YtcecbohaajocfaaMtEc

set_option linter.unusedSimpArgs false
set_option linter.unusedVariables false
namespace Go.Proofs.Ytcecbohaajocfaa
open Go.RowKit

theorem rd_nats {w : World} {B n : Nat} {A : Option Addr} {s : List Nat} (h : Rd w B 1 encI A n (s.map fun x => ((x : Nat) : Int))) : Rd w B 1 encN A n s := by
  refine ⟨by have := h.1; rw [List.length_map] at this; exact this, fun h0 => ?_⟩
  obtain ⟨b, off, e, hb, hc⟩ := h.2 h0
  refine ⟨b, off, e, hb, fun i x hx j u hu => ?_⟩
  exact hc i (x : Int) (by rw [List.getElem?_map, hx]; rfl) j u hu
/-- A case and a set of nodes in boxes. -/
structure NmS (w : World) (cx nb vb sx n : Nat) (N : List Nd) (V : List Int) (SA : Option Addr) (sn sc : Nat) (LS : List Nat) (W : World) : Prop where
  rp : RpS w cx nb vb n N V W
  sb : Blk W sx 22 #[.slice SA sn sc]
  row : W.ownsRow w.heap.size 3 1 (.slice SA sn sc) sn (LS.flatMap encN)
  ap : ∀ b, (Value.slice SA sn sc).ownBlock = some b → b ≠ vb
  sz : w.heap.size ≤ sx
  ln : sn = LS.length
section
variable {w : World} {cx nb vb sx n : Nat} {N : List Nd} {V : List Int} {SA : Option Addr} {sn sc : Nat} {LS : List Nat} {W W' : World}
theorem NmS.next (h : NmS w cx nb vb sx n N V SA sn sc LS W) (hb : Below W.heap.size W W') : NmS w cx nb vb sx n N V SA sn sc LS W' :=
  ⟨h.rp.next hb, h.sb.below hb h.sb.lt, row_next h.row hb, h.ap, h.sz, h.ln⟩
theorem NmS.setV (h : NmS w cx nb vb sx n N V SA sn sc LS W) (k : Nat) (x : Int) : NmS w cx nb vb sx n N (V.set k x) SA sn sc LS (W.setCell ⟨vb, k, none⟩ (.int .i64 x)) :=
  ⟨h.rp.setV k x, h.sb.far (fun e => blk_ne h.sb h.rp.v (by decide) e) _, h.row.kept (grown_set W vb k _) (by
    cases hb : (Value.slice SA sn sc).ownBlock with
    | none => exact Or.inl rfl
    | some b => exact Or.inr (fun e => h.ap b hb (Option.some.inj e))), h.ap, h.sz, h.ln⟩
/-- A row of its own has grown. -/
theorem RpS.grown (h : RpS w cx nb vb n N V W) {row : Option Nat} (hg : W.grownBy W' row) (h0 : ∀ r, row = some r → w.heap.size ≤ r ∧ r ≠ cx ∧ r ≠ nb ∧ r ≠ vb) : RpS w cx nb vb n N V W' :=
  ⟨h.low.grown hg h.low.size (fun r e => (h0 r e).1), h.c.kept hg (fun e => (h0 cx e.symm).2.1 rfl), h.nd.kept hg (fun e => (h0 nb e.symm).2.2.1 rfl), h.v.kept hg (fun e => (h0 vb e.symm).2.2.2 rfl), h.ge⟩
end
/-- The numbers of a set, sorted. -/
theorem sorted_set {LS : List Nat} {n m : Nat} {l : List Int} (hl : SrtI (LS.map fun x => ((x : Nat) : Int)) m m l) (hnd : LS.Nodup) (hlt : ∀ x ∈ LS, x < n) : ∃ LT : List Nat, l = LT.map (fun x => ((x : Nat) : Int)) ∧ Vc n LT ∧ LT.length = m ∧ ∀ x, x ∈ LT ↔ x ∈ LS := by
  obtain ⟨hp, hm, hs⟩ := hl
  have hnn : ∀ x ∈ l, 0 ≤ x := fun x hx => by
    have := hp.mem_iff.1 hx
    obtain ⟨y, _, rfl⟩ := List.mem_map.1 this
    omega
  refine ⟨l.map Int.toNat, ?_, ?_, by rw [List.length_map]; exact hm, fun x => ?_⟩
  · rw [List.map_map]
    have : ∀ x ∈ l, ((fun x : Nat => (x : Int)) ∘ Int.toNat) x = x := fun x hx => by have := hnn x hx; simp only [Function.comp_apply]; omega
    exact (List.map_congr_left this |>.trans (List.map_id l)).symm
  · have hmem : ∀ x, x ∈ l.map Int.toNat ↔ x ∈ LS := fun x => by
      rw [List.mem_map]
      constructor
      · rintro ⟨y, hy, rfl⟩
        obtain ⟨z, hz, e⟩ := List.mem_map.1 (hp.mem_iff.1 hy)
        have : y.toNat = z := by omega
        rw [this]; exact hz
      · intro h
        exact ⟨(x : Int), hp.mem_iff.2 (List.mem_map_of_mem h), by omega⟩
    have hnd2 : l.Nodup := hp.nodup_iff.2 (by
      rw [List.nodup_iff_pairwise_ne, List.pairwise_map]
      exact (List.nodup_iff_pairwise_ne.1 hnd).imp (fun h e => h (by omega)))
    refine sorted_vc ?_ (fun x hx => hlt x ((hmem x).1 hx))
    rw [List.pairwise_map, List.pairwise_iff_getElem]
    intro i j hi hj hij
    have h1 := hs i j hij (by omega)
    rw [List.getD_eq_getElem?_getD, List.getD_eq_getElem?_getD, List.getElem?_eq_getElem hi, List.getElem?_eq_getElem hj] at h1
    have h1 : l[i] ≤ l[j] := h1
    have h2 : l[i] ≠ l[j] := List.pairwise_iff_getElem.1 (List.nodup_iff_pairwise_ne.1 hnd2) i j hi hj hij
    have h3 := hnn l[i] (List.getElem_mem hi)
    have h4 := hnn l[j] (List.getElem_mem hj)
    omega
  · rw [List.mem_map]
    constructor
    · rintro ⟨y, hy, rfl⟩
      obtain ⟨z, hz, e⟩ := List.mem_map.1 (hp.mem_iff.1 hy)
      have : y.toNat = z := by omega
      rw [this]; exact hz
    · intro h
      exact ⟨(x : Int), hp.mem_iff.2 (List.mem_map_of_mem h), by omega⟩
set_option maxRecDepth 100000 in
theorem insertion_nil (w : World) : Calls Try.prog 70 #[.slice none 0 0, .int .i64 0, .int .i64 0] w fun e w' => (∃ v : Value, e = .returned v) ∧ Below w.heap.size w w' := by
  go_enter Try.func70, Try.ntmps70
  go_wp2
  go_loopw [6] (fun iv wr => iv = .int .i64 1 ∧ wr = w) (fun _ _ => 0)
  case atStart => exact ⟨rfl, rfl⟩
  case round =>
    obtain ⟨rfl, rfl⟩ := hrel
    go_wp2
    go_end0
    exact ⟨⟨_, rfl⟩, Below.refl _ _⟩
theorem pdq_nil (r : Int) (w : World) : Calls Try.prog 43 #[.slice none 0 0, .int .i64 0, .int .i64 0, .int .i64 r] w fun e w' => (∃ v : Value, e = .returned v) ∧ Below w.heap.size w w' := by
  go_enter Try.func43, Try.ntmps43
  go_wp2
  go_loopw [1, 2] (fun av bv wr => av = .int .i64 0 ∧ bv = .int .i64 0 ∧ wr = w) (fun _ _ _ => 0)
  case atStart => exact ⟨rfl, rfl, rfl⟩
  case round =>
    obtain ⟨rfl, rfl, rfl⟩ := hrel
    go_wp2_with fail
    refine (insertion_nil wr).mono ?_
    rintro e w1 ⟨⟨v, rfl⟩, hB⟩
    have HB := Lib.hid hB
    clear hB
    go_wp2
    refine bodyPost_ret (results_none rfl _ _ _) rfl ?_
    exact ⟨⟨_, rfl⟩, HB.out⟩
theorem Sort_nil (w : World) : Calls Try.prog 13 #[.slice none 0 0] w fun e w' => (∃ v : Value, e = .returned v) ∧ Below w.heap.size w w' := by
  have KL := Lib.hid (len_small 0 (by omega) w)
  go_enter Try.func13, Try.ntmps13
  go_wp2_with fail
  refine KL.out.mono ?_
  rintro e w1 ⟨⟨r, rfl⟩, rfl⟩
  go_wp2_with fail
  refine (pdq_nil r w1).mono ?_
  rintro e w2 ⟨⟨v, rfl⟩, hB⟩
  have HB := Lib.hid hB
  clear hB
  go_wp2
  go_end0
  exact ⟨⟨_, rfl⟩, HB.out⟩
end Go.Proofs.Ytcecbohaajocfaa
