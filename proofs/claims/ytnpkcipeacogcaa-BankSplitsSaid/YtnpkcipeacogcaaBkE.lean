/- bank: through. -/
import Derived.Test.YtnpkcipeacogcaaBkD
import Derived.Shelf.Abstract
import Derived.Laws.EntriesVeiled

set_option linter.unusedSimpArgs false
set_option linter.unusedVariables false
namespace Go.Proofs.Ytnpkcipeacogcaa
open Go.RowKit

theorem secsL_take {l : List Spn} {k : Nat} {s : Spn} (h : l[k]? = some s) : secsL (l.take (k + 1)) = secsL (l.take k) ++ List.replicate s.secs.toNat s.power := by
  rw [take_at h]
  simp [secsL]
theorem secsL_pre {l : List Spn} {k j : Nat} {s : Spn} (h : l[k]? = some s) (hj : j < s.secs.toNat) : (secsL (l.take k) ++ List.replicate j s.power) ++ [s.power] <+: secsL l := by
  have h1 : secsL l = secsL (l.take (k + 1)) ++ secsL (l.drop (k + 1)) := by
    unfold secsL
    rw [← List.flatMap_append, List.take_append_drop]
  rw [h1, secsL_take h, List.append_assoc, show List.replicate j s.power ++ [s.power] = List.replicate (j + 1) s.power from (List.replicate_succ' ..).symm, List.append_assoc]
  refine List.prefix_append_right_inj _ |>.2 ?_
  refine ⟨List.replicate (s.secs.toNat - (j + 1)) s.power ++ secsL (l.drop (k + 1)), ?_⟩
  rw [← List.append_assoc]
  congr 1
  rw [List.replicate_append_replicate]
  congr 1
  omega
/-- What lies below B, and blocks that hold a T, are as they were. -/
structure KeepB (B : Nat) (T : TypeId) (w w' : World) : Prop where
  os : w'.os = w.os
  tape : w'.tape = w.tape
  output : w'.output = w.output
  size : w.heap.size ≤ w'.heap.size
  block : ∀ k, k < w.heap.size → (k < B ∨ ∃ cs, Blk w k T cs) → w'.heap[k]? = w.heap[k]?
theorem KeepB.refl (B : Nat) (T : TypeId) (w : World) : KeepB B T w w := ⟨rfl, rfl, rfl, Nat.le_refl _, fun _ _ _ => rfl⟩
theorem KeepB.blk {B : Nat} {T : TypeId} {w w1 : World} (h : KeepB B T w w1) {b : Nat} {cs : Array Value} (hb : Blk w b T cs) : Blk w1 b T cs := (h.block b hb.lt (Or.inr ⟨cs, hb⟩)).trans hb
theorem KeepB.trans {B : Nat} {T : TypeId} {w w1 w2 : World} (h : KeepB B T w w1) (k : KeepB B T w1 w2) : KeepB B T w w2 :=
  ⟨k.os.trans h.os, k.tape.trans h.tape, k.output.trans h.output, Nat.le_trans h.size k.size, fun i hi hs => (k.block i (Nat.lt_of_lt_of_le hi h.size) (hs.imp id fun ⟨cs, hc⟩ => ⟨cs, h.blk hc⟩)).trans (h.block i hi hs)⟩
theorem KeepB.of_below {B : Nat} {T : TypeId} {w w1 : World} (h : Below w.heap.size w w1) : KeepB B T w w1 := ⟨h.os, h.tape, h.output, h.size, fun k hk _ => h.block k hk⟩
theorem KeepB.below {B : Nat} {T : TypeId} {w w1 : World} (h : KeepB B T w w1) (hB : B ≤ w.heap.size) : Below B w w1 := ⟨h.os, h.tape, h.output, h.size, fun k hk => h.block k (by omega) (Or.inl hk)⟩
theorem KeepB.of_keep {B : Nat} {w w1 : World} {a : Adr} {p : Ply} (h : Keep a.mine w w1) (hp : PlyIn w a p) (hB : ∀ b, a.mine b → B ≤ b) : KeepB B 37 w w1 := by
  refine ⟨h.os, h.tape, h.output, h.size, fun k hk hs => h.block k hk fun hm => ?_⟩
  have hn : ∀ (t : TypeId) (cs cs' : Array Value), t ≠ 37 → Blk w k t cs → Blk w k 37 cs' → False := fun t cs cs' ht h1 h2 => by
    have e2 := (show w.heap[k]? = _ from h1).symm.trans h2
    simp only [Option.some.injEq, Obj.cells.injEq] at e2
    exact ht e2.2.1
  rcases hs with hs | ⟨cs, hs⟩
  · have := hB k hm; omega
  · rcases hm with rfl | ⟨h0, rfl⟩ | ⟨h0, rfl⟩
    · exact hn _ _ _ (by decide) hp.blk hs
    · rcases hp.cs with h1 | ⟨_, _, h1, _⟩
      · have := hp.nc; rw [h1] at this; simp at this; omega
      · exact hn _ _ _ (by decide) h1 hs
    · rcases hp.es with h1 | ⟨_, _, h1, _⟩
      · have := hp.ne; rw [h1] at this; simp at this; omega
      · exact hn _ _ _ (by decide) h1 hs
/-- A play is over. -/
def Thr (J Jx : List Int → World → Prop) (l : List Int) (w : World) : Prop := J l w ∨ ∃ pre, pre <+: l ∧ Jx pre w
/-- What a second of a play leaves. -/
def Stp (J Jx : List Int → World → Prop) (B : Nat) (pre : List Int) (w : World) (e : Ending) (w' : World) : Prop :=
  ((e = .returned (.bool true) ∧ J pre w') ∨ (e = .returned (.bool false) ∧ Jx pre w')) ∧ KeepB B 37 w w'
set_option maxRecDepth 100000 in
theorem through_any (g : Nat) (eg : Enters Try.prog g) (bd lb : Array Value) (A : Option Addr) (n c : Nat) (l : List Spn) (B : Nat) (J Jx : List Int → World → Prop) (w : World)
    (hl : Rd w B 2 Spn.enc A n l) (hn : n ≤ 100) (hok : ∀ s ∈ l, SpnOk s) (hlen : (secsL l).length ≤ 20000) (hBw : B ≤ w.heap.size)
    (h0 : J [] w) (hJa : ∀ pre W o, J pre W → J pre (W.alloc o))
    (hstep : ∀ pre x W, J pre W → pre ++ [x] <+: secsL l → 0 ≤ x → x ≤ 1000000 → ∀ t : Int, t = (pre.length : Int) → Calls Try.prog g (bd ++ (#[.int .i64 t, .int .i64 x] ++ lb)) W (Stp J Jx B (pre ++ [x]) W)) :
    Calls Try.prog 29 #[.slice A n c, .func (.func g) bd lb] w fun e w' => e = .returned (.tuple #[]) ∧ Thr J Jx (secsL l) w' ∧ KeepB B 37 w w' := by
  have HL := Lib.hid hl
  have HO := Lib.hid hok
  have HJA := Lib.hid hJa
  have HST := Lib.hid hstep
  have HN := Lib.hid hl.1
  have H0 := Lib.hid h0
  have HLEN := Lib.hid hlen
  clear hl hok hJa hstep h0 hlen
  have eg' : ∀ args W, Sem.run Try.prog (callFunc g args) W = .ok (.enter g args) W := eg
  clear eg
  go_enter Try.func29, Try.ntmps29
  go_wp2
  go_loopw [4, 9] (fun t i wr => ∃ k : Nat, k ≤ n ∧ i = .int .i64 k ∧ t = .int .i64 (secsL (l.take k)).length ∧ Hid (J (secsL (l.take k)) wr) ∧ Hid (KeepB B 37 w wr)) (fun _ i _ => n - (intOf i).toNat)
  case atStart => exact ⟨0, by omega, rfl, rfl, H0.out, KeepB.refl _ _ _⟩
  case round =>
    obtain ⟨k, hk, rfl, rfl, hJ, hK⟩ := hrel
    have hB := hK.out.below hBw
    by_cases hlt : k < n
    · obtain ⟨b, off, s, e1, hb, hx, hcx⟩ := (HL.out.below hB).at_ hlt
      obtain ⟨s0, s1, p0, p1⟩ := HO.out s (List.mem_of_getElem? hx)
      have c0 : wr.cell? ⟨b, off + k * 2, none⟩ = some (.int .i64 s.secs) := by simpa using hcx 0 _ rfl
      have c1 : wr.cell? ⟨b, off + k * 2 + 1, none⟩ = some (.int .i64 s.power) := by simpa using hcx 1 _ rfl
      have hkn : (k : Int) < (n : Int) := by omega
      have hk0 : (0 : Int) ≤ (k : Int) := by omega
      have HX := Lib.hid hx
      have hz := hB.size
      have zb : b < wr.heap.size := by omega
      obtain ⟨sn, hsn⟩ : ∃ sn : Nat, s.secs = (sn : Int) := ⟨s.secs.toNat, by omega⟩
      have HSN := Lib.hid hsn
      rw [hsn] at s0 s1 c0
      subst e1
      obtain ⟨pr, hpr⟩ : ∃ z, z = secsL (l.take k) := ⟨_, rfl⟩
      have HPR := Lib.hid hpr
      rw [← hpr] at hJ ⊢
      clear hx hcx hpr hsn hB
      obtain ⟨tn, htn⟩ : ∃ z, z = pr.length := ⟨_, rfl⟩
      have HTN := Lib.hid htn
      rw [← htn]
      clear htn
      obtain ⟨wo, hwo⟩ : ∃ z, z = wr := ⟨wr, rfl⟩
      subst hwo
      go_wp2
      go_loopw [4, 15] (fun t i wr => ∃ j : Nat, j ≤ sn ∧ i = .int .i64 j ∧ t = .int .i64 ((tn + j : Nat) : Int) ∧ Hid (J (pr ++ List.replicate j s.power) wr) ∧ Hid (KeepB B 37 w wr) ∧ Hid (Blk wr wo.heap.size 37 #[.int .i64 sn, .int .i64 s.power])) (fun _ i _ => sn - (intOf i).toNat)
      case atStart => 
        refine ⟨0, by omega, rfl, rfl, ?_, hK.out.trans (KeepB.of_below ((Below.refl _ _).alloc (Nat.le_refl _) _)), heap_alloc_new wo _⟩
        have h1 := HJA.out _ _ (.cells #[.int .i64 sn, .int .i64 s.power] 37) hJ.out
        show J (pr ++ []) _
        rw [List.append_nil]
        exact h1
      case round =>
        obtain ⟨j, hj, rfl, rfl, hJ, hK, hX⟩ := hrel
        have hz := Blk.lt hX.out
        have c1 := Blk.cell hX.out 1
        have c1 : wr.cell? ⟨wo.heap.size, 1, none⟩ = some (.int .i64 s.power) := c1
        by_cases hlt : j < sn
        · have hkn : (j : Int) < (sn : Int) := by omega
          have hk0 : (0 : Int) ≤ (j : Int) := by omega
          have hpre := secsL_pre HX.out (j := j) (by have := HSN.out; omega)
          rw [← HPR.out] at hpre
          have hle : tn + j + 1 ≤ 20000 := by
            have h1 := hpre.length_le
            have h2 := HLEN.out
            have h3 := HTN.out
            simp only [List.length_append, List.length_replicate, List.length_cons, List.length_nil] at h1
            omega
          have C := Lib.hid (HST.out _ _ wr hJ.out hpre p0 p1 ((tn : Int) + (j : Int)) (by rw [List.length_append, List.length_replicate, ← HTN.out]; omega))
          clear hpre
          go_wp2_with fail
          refine C.out.mono ?_
          rintro e w2 ⟨h2, hK2⟩
          have hK3 := Lib.hid (hK.out.trans hK2)
          rcases h2 with ⟨rfl, h2⟩ | ⟨rfl, h2⟩
          · have hX2 := Lib.hid (hK2.blk hX.out)
            have HJ2 := Lib.hid h2
            clear hK2 h2 C
            go_wp2
            go_roundw
            case rel =>
              refine ⟨j + 1, by omega, by go_num, by go_num, ?_, hK3, hX2⟩
              have h3 := HJ2.out
              rw [List.append_assoc, show List.replicate j s.power ++ [s.power] = List.replicate (j + 1) s.power from (List.replicate_succ' ..).symm] at h3
              exact h3
            case measure => simp [intOf]; omega
          · clear hK2 C
            have HJ2 := Lib.hid h2
            clear h2
            go_wp2
            refine bodyPost_ret (v := .tuple #[]) (results_none rfl _ _ _) rfl ⟨rfl, Or.inr ⟨_, secsL_pre HX.out (j := j) (by have := HSN.out; omega), ?_⟩, hK3.out⟩
            have h3 := HJ2.out
            rw [HPR.out] at h3
            exact h3
        · obtain rfl : j = sn := by omega
          go_wp2
          go_roundw
          case rel =>
            refine ⟨k + 1, by omega, by go_num, ?_, ?_, hK⟩
            · rw [secsL_take HX.out, ← HPR.out, List.length_append, List.length_replicate, HSN.out, HTN.out]; rfl
            · have h1 := hJ.out
              rw [secsL_take HX.out, ← HPR.out, HSN.out]
              exact h1
          case measure => simp [intOf]; omega
    · obtain rfl : k = n := by omega
      go_wp2
      refine bodyPost_end (v := .tuple #[]) (results_none rfl _ _ _) rfl ⟨rfl, Or.inl ?_, hK.out⟩
      have h1 := hJ.out
      rwa [← HN.out, List.take_length] at h1
end Go.Proofs.Ytnpkcipeacogcaa
