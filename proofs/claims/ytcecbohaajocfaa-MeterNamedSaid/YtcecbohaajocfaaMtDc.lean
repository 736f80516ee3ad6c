/- law11: Made: a valid case whose balances hold. -/
import Derived.Test.YtcecbohaajocfaaMtDb
import Derived.Deep.CutBlock

set_option linter.unusedSimpArgs false
set_option linter.unusedVariables false
namespace Go.Proofs.Ytcecbohaajocfaa
open Go.RowKit

def m3Phi (z n : Nat) : Nat → Value → World → (Nat → Nat) → Prop
  | 0, v, _, _ => v = .int .i64 (n : Int)
  | 1, v, W, γ => v = .slice (some ⟨γ 31, 0, none⟩) n n ∧ z ≤ γ 31 ∧ Blk W (γ 31) 107 (nodesA (List.replicate n ⟨0, 0, 0⟩))
  | 2, v, _, _ => v = .int .i64 (n : Int)
  | 3, v, W, γ => v = .slice (some ⟨γ 32, 0, none⟩) n n ∧ z ≤ γ 32 ∧ Blk W (γ 32) 3 (intsA (List.replicate n 0))
  | 4, v, _, γ => v = .agg #[.slice (some ⟨γ 31, 0, none⟩) n n, .slice (some ⟨γ 32, 0, none⟩) n n]
  | 5, v, W, γ => v = .pointer (some ⟨γ 30, 0, none⟩) ∧ z ≤ γ 30 ∧ (γ 20 = 0 → Blk W (γ 30) 35 #[.slice none 0 0, .slice none 0 0])
  | 6, _, W, γ => Blk W (γ 30) 35 #[.slice (some ⟨γ 31, 0, none⟩) n n, .slice (some ⟨γ 32, 0, none⟩) n n]
  | _, _, _, _ => True
theorem m3Phi_next {z n : Nat} {j : Nat} {v : Value} {W W' : World} {γ γ' : Nat → Nat} (hb : Below W.heap.size W W') (h1 : (j = 1 ∨ j = 4 ∨ j = 6) → γ' 31 = γ 31) (h3 : (j = 3 ∨ j = 4 ∨ j = 6) → γ' 32 = γ 32) (h6 : (j = 5 ∨ j = 6) → γ' 30 = γ 30 ∧ γ' 20 = γ 20) (h : m3Phi z n j v W γ) : m3Phi z n j v W' γ' := by
  unfold m3Phi at h ⊢
  split at h
  all_goals first | exact h | trivial | skip
  · rw [h1 (Or.inl rfl)]; exact ⟨h.1, h.2.1, h.2.2.below hb h.2.2.lt⟩
  · rw [h3 (Or.inl rfl)]; exact ⟨h.1, h.2.1, h.2.2.below hb h.2.2.lt⟩
  · rw [h1 (Or.inr (Or.inl rfl)), h3 (Or.inr (Or.inl rfl))]; exact h
  · obtain ⟨e1, e2⟩ := h6 (Or.inl rfl)
    rw [e1, e2]
    exact ⟨h.1, h.2.1, fun e => (h.2.2 e).below hb (h.2.2 e).lt⟩
  · rw [h1 (Or.inr (Or.inr rfl)), h3 (Or.inr (Or.inr rfl)), (h6 (Or.inr rfl)).1]; exact h.below hb h.lt
/-- What Made leaves. -/
structure MadeV (w w' : World) (nb vb n : Nat) (c : Ks) : Prop where
  nd : Blk w' nb 107 (nodesA c.nodes)
  vl : Blk w' vb 3 (intsA c.vals)
  ok : KsOk c
  bal : Bal c
  cn : c.n = n
  le : n ≤ 9
  ge : w.heap.size ≤ nb ∧ w.heap.size ≤ vb
  low : Below w.heap.size w w'
set_option maxRecDepth 100000 in
set_option maxHeartbeats 8000000 in
theorem Made_any (A0 : Option Addr) (n0 c0 : Nat) (l0 : List Int) (w : World) (r0 : Rd w w.heap.size 1 encU A0 n0 l0) (u0 : U8s l0) :
    Calls Try.prog 10 #[.slice A0 n0 c0] w fun e w' => ∃ (nb vb n : Nat) (c : Ks), e = .returned (.agg #[.slice (some ⟨nb, 0, none⟩) n n, .slice (some ⟨vb, 0, none⟩) n n]) ∧ MadeV w w' nb vb n c := by
  have H0 := Lib.hid (And.intro r0 u0)
  have g1 : w.heap.size < w.heap.size + 1 := by omega
  clear r0 u0
  go_enter Try.func10, Try.ntmps10
  go_wp2_with fail
  obtain ⟨rb, hrb⟩ : ∃ z, z = w.heap.size := ⟨_, rfl⟩
  obtain ⟨w1, hw1⟩ : ∃ z, z = w.alloc (.cells #[.slice none 0 0, .slice none 0 0] 35) := ⟨_, rfl⟩
  have RB : Hid (Blk w1 rb 35 #[.slice none 0 0, .slice none 0 0]) := Lib.hid (by rw [hw1, hrb]; exact heap_alloc_new w _)
  have Sw1 : Hid (w1.heap.size = rb + 1) := Lib.hid (by rw [hw1, hrb, World.size_alloc])
  have Zrb : Hid (w.heap.size ≤ rb) := Lib.hid (by rw [hrb]; exact Nat.le_refl _)
  have hBn : Below w.heap.size w w1 := by rw [hw1]; exact (Below.refl _ _).alloc (Nat.le_refl _) _
  rw [← hw1, ← hrb]
  have B0 : Hid (Below w.heap.size w w1) := Lib.hid hBn
  clear hw1 hrb hBn
  obtain ⟨dx, hdx⟩ : ∃ z, z = rb + 1 := ⟨_, rfl⟩
  obtain ⟨w2, hw2⟩ : ∃ z, z = w1.alloc (.cells #[.slice A0 n0 c0, .int .i64 0] 72) := ⟨_, rfl⟩
  have DX : Hid (Blk w2 dx 72 #[.slice A0 n0 c0, .int .i64 0]) := Lib.hid (by have e2 := heap_alloc_new w1 (.cells #[.slice A0 n0 c0, .int .i64 0] 72); rw [Sw1.out] at e2; rw [hw2, hdx]; exact e2)
  have Sw2 : Hid (w2.heap.size = dx + 1) := Lib.hid (by rw [hw2, hdx, World.size_alloc, Sw1.out])
  have Zdx : Hid (w1.heap.size = dx) := Lib.hid (by rw [Sw1.out, hdx])
  have hBn : Below w1.heap.size w1 w2 := by rw [hw2]; exact (Below.refl _ _).alloc (Nat.le_refl _) _
  rw [← hw2, ← hdx]
  have B1 : Hid (Below w1.heap.size w1 w2) := Lib.hid hBn
  clear hw2 hdx hBn
  have HZ : Hid (w.heap.size ≤ rb ∧ rb < dx ∧ w.heap.size ≤ dx) := Lib.hid (by have h1 := Zrb.out; have h2 := Zdx.out; have h3 := Sw1.out; omega)
  have K9 := next_int dx n0 c0 w.heap.size 0 9 A0 l0 w2 DX.out (H0.out.1.below (below3 B0.out B1.out (Nat.le_refl _))) HZ.out.2.2 H0.out.2 (by omega) (by omega)
  clear g1
  refine K9.mono ?_
  rintro e w3 ⟨r, rfl, hr, hk3, hd3⟩
  clear K9
  obtain ⟨n, hn⟩ : ∃ n : Nat, n = 1 + r.toNat := ⟨_, rfl⟩
  have HN : Hid (1 ≤ n ∧ n ≤ 9) := Lib.hid (by omega)
  have wn : IntKind.i64.wrap (1 + r) = (n : Int) := by rw [IntWalk.i64_in _ (by omega)]; omega
  have HB3 : Hid (Below w.heap.size w w3) := Lib.hid ((below3 B0.out B1.out (Nat.le_refl _)).trans (hk3.below (below3 B0.out B1.out (Nat.le_refl _)).size (fun b e => by rw [e]; exact HZ.out.2.2)))
  have HR3 : Hid (Blk w3 rb 35 #[.slice none 0 0, .slice none 0 0]) := Lib.hid (hk3.blk (RB.out.below B1.out RB.out.lt) (fun e => by have := HZ.out; omega))
  have HD3 := Lib.hid hd3
  clear hk3 hd3 hn hr
  go_wp2
  refine wp_region_free10 6 (by kernel_rfl) [some 17, some 18, some 19, some 20, some 21, some 5, none] [[], [0, 0], [], [2, 2], [1, 3], [], [5, 4, 0, 1, 2, 3, 4, 5]] [(4, .int .i64 (n : Int))] (fun W _ => Below w3.heap.size w3 W) (m3Phi w3.heap.size n) (fun i _ γ => i = 6 → γ 20 = 0) (by kernel_rfl) (by kernel_rfl) rfl (by kernel_rfl) ?_ ?_ ⟨fun _ => 0, (Below.refl _ _).drew, fun _ _ _ => rfl⟩ ?_ ?_
  · intro z hz
    simp only [List.mem_cons, List.mem_nil_iff, or_false] at hz
    subst hz
    all_goals exact ⟨by kernel_rfl, rfl⟩
  · intro i v W γ hi h
    rcases i with _ | _ | _ | _ | _ | _ | _ | i
    all_goals first | exact h | (simp at hi)
  · refine ⟨?_, ?_, ?_, ?_, ?_, ?_, ?_, trivial⟩
    all_goals
      intro a9 W γ ev hcc hff hfx hR hψ hpre
      simp only [List.mem_cons, List.mem_nil_iff, or_false, forall_eq, forall_eq_or_imp] at hfx
      have f0 := hfx
      clear hfx
      have HR := Lib.hid hR
      clear hR
    · refine ⟨fun hg K hK => ?_, trivial⟩
      clear hg
      clear hpre hψ
      go_simp
      exact hK _ _ γ HR.out (fun _ _ _ _ h => h) (fun _ _ _ h => h) rfl
    · refine ⟨fun hg K hK => ?_, trivial⟩
      clear hg
      have q0 : ev (.tmp 17) = _ := hpre 0 (by decide)
      have hmk := run_makeNd n (by have := HN.out; omega)
      clear hpre hψ
      go_simp
      have hB5 : Below W.heap.size W (W.alloc (.cells (nodesA (List.replicate n ⟨0, 0, 0⟩)) 107)) := (Below.refl _ _).alloc (Nat.le_refl _) _
      exact hK _ _ (fun i => if i = 31 then W.heap.size else γ i) (below3 HR.out hB5 (Nat.le_refl _)) (fun j u hj hne h => m3Phi_next hB5 (fun e => by rcases e with rfl | rfl | rfl; exact absurd rfl hne; exact absurd (by decide) hj; exact absurd (by decide) hj) (fun _ => rfl) (fun _ => ⟨rfl, rfl⟩) h) (fun _ j _ h e => h e) ⟨rfl, HR.out.size, heap_alloc_new W _⟩
    · refine ⟨fun hg K hK => ?_, trivial⟩
      clear hg
      clear hpre hψ
      go_simp
      exact hK _ _ γ HR.out (fun _ _ _ _ h => h) (fun _ _ _ h => h) rfl
    · refine ⟨fun hg K hK => ?_, trivial⟩
      clear hg
      have q0 : ev (.tmp 19) = _ := hpre 2 (by decide)
      have hmk := run_makeInts n (by have := HN.out; omega)
      clear hpre hψ
      go_simp
      have hB5 : Below W.heap.size W (W.alloc (.cells (intsA (List.replicate n 0)) 3)) := (Below.refl _ _).alloc (Nat.le_refl _) _
      exact hK _ _ (fun i => if i = 32 then W.heap.size else γ i) (below3 HR.out hB5 (Nat.le_refl _)) (fun j u hj hne h => m3Phi_next hB5 (fun _ => rfl) (fun e => by rcases e with rfl | rfl | rfl; exact absurd rfl hne; exact absurd (by decide) hj; exact absurd (by decide) hj) (fun _ => ⟨rfl, rfl⟩) h) (fun _ j _ h e => h e) ⟨rfl, HR.out.size, heap_alloc_new W _⟩
    · refine ⟨fun hg K hK => ?_, trivial⟩
      clear hg
      have q0 : ev (.tmp 18) = _ := (hpre 1 (by decide)).1
      have q1 : ev (.tmp 20) = _ := (hpre 3 (by decide)).1
      clear hpre hψ
      go_simp
      exact hK _ _ γ HR.out (fun _ _ _ _ h => h) (fun _ _ _ h => h) rfl
    · refine ⟨fun hg K hK => ?_, trivial⟩
      clear hg
      clear hpre hψ
      go_simp
      have hB5 : Below W.heap.size W (W.alloc (.cells #[.slice none 0 0, .slice none 0 0] 35)) := (Below.refl _ _).alloc (Nat.le_refl _) _
      exact hK _ _ (fun i => if i = 30 then W.heap.size else γ i) (below3 HR.out hB5 (Nat.le_refl _)) (fun j u hj hne h => m3Phi_next hB5 (fun _ => rfl) (fun _ => rfl) (fun e => by rcases e with rfl | rfl; exact absurd rfl hne; exact absurd (by decide) hj) h) (fun _ j _ h e => h e) ⟨rfl, HR.out.size, fun _ => heap_alloc_new W _⟩
    · refine ⟨fun hg K hK => ?_, trivial⟩
      clear hg
      have q0 : ev (.tmp 5) = _ := (hpre 5 (by decide)).1
      have q1 : ev (.tmp 21) = _ := hpre 4 (by decide)
      have hz := (hpre 5 (by decide)).2.1
      have hbz := (hpre 5 (by decide)).2.2 (hψ rfl)
      obtain ⟨cb, hcb⟩ : ∃ z, z = γ 30 := ⟨_, rfl⟩
      obtain ⟨nb, hnb⟩ : ∃ z, z = γ 31 := ⟨_, rfl⟩
      obtain ⟨vb, hvb⟩ : ∃ z, z = γ 32 := ⟨_, rfl⟩
      rw [← hcb] at q0 hz hbz
      rw [← hnb, ← hvb] at q1
      have zl := hbz.lt
      have fl9 := hbz.frozen
      have e0 := hbz.cell 0
      have e1 := hbz.cell 1
      simp only [List.getElem?_toArray, List.getElem?_cons_zero, List.getElem?_cons_succ] at e0 e1
      have HX := Lib.hid (And.intro hbz (And.intro hz (And.intro hcb (And.intro hnb hvb))))
      clear hpre hψ hbz hz hcb hnb hvb
      go_simp
      obtain ⟨hbz, hz, hcb, hnb, hvb⟩ := HX.out
      refine hK undef _ (fun i => if i = 20 then 1 else γ i) ((HR.out.setCell (p := ⟨cb, 0, none⟩) hz _).setCell (p := ⟨cb, 1, none⟩) hz _) (fun j u h1 h2 h3 => ?_) (fun h => absurd rfl h) ?_
      · have FB : ∀ {b : Nat} {T : TypeId} {cs : Array Value}, Blk W b T cs → T ≠ 35 → Blk ((W.setCell ⟨cb, 0, none⟩ (.slice (some ⟨nb, 0, none⟩) n n)).setCell ⟨cb, 1, none⟩ (.slice (some ⟨vb, 0, none⟩) n n)) b T cs := fun hb hT => (hb.far (blk_ne hb hbz hT) _).far (blk_ne hb hbz hT) _
        unfold m3Phi at h3 ⊢
        split at h3
        all_goals first | exact h3 | trivial | exact absurd rfl h2 | skip
        · exact ⟨h3.1, h3.2.1, FB h3.2.2 (by decide)⟩
        · exact ⟨h3.1, h3.2.1, FB h3.2.2 (by decide)⟩
        · exact ⟨h3.1, h3.2.1, fun e => by simp at e⟩
      · show Blk _ (γ 30) 35 #[.slice (some ⟨γ 31, 0, none⟩) n n, .slice (some ⟨γ 32, 0, none⟩) n n]
        rw [← hcb, ← hnb, ← hvb]
        have h := (hbz.set_ 0 (.slice (some ⟨nb, 0, none⟩) n n)).set_ 1 (.slice (some ⟨vb, 0, none⟩) n n)
        simpa using h
  · intro vs wy γ hvl hR hφ
    have q1 := hφ 1 (by decide)
    have q3 := hφ 3 (by decide)
    have q5 := hφ 5 (by decide)
    have q6 := hφ 6 (by decide)
    have HR := Lib.hid hR
    clear hφ hR
    match vs, hvl with
    | [y0, y1, y2, y3, y4, y5, y6], _ =>
    simp only [List.getD_cons_zero, List.getD_cons_succ] at q1 q3 q5 q6
    obtain ⟨nb, hnb⟩ : ∃ z, z = γ 31 := ⟨_, rfl⟩
    obtain ⟨vb, hvb⟩ : ∃ z, z = γ 32 := ⟨_, rfl⟩
    obtain ⟨cb, hcb⟩ : ∃ z, z = γ 30 := ⟨_, rfl⟩
    obtain ⟨_, z1, b1⟩ := q1
    obtain ⟨_, z3, b3⟩ := q3
    obtain ⟨q5, z5, _⟩ := q5
    replace q6 : Blk wy (γ 30) 35 #[.slice (some ⟨γ 31, 0, none⟩) n n, .slice (some ⟨γ 32, 0, none⟩) n n] := q6
    rw [← hnb] at z1 b1 q6
    rw [← hvb] at z3 b3 q6
    rw [← hcb] at z5 q5 q6
    obtain rfl : y5 = _ := q5
    have hmb := run_makeFl n (by have := HN.out; omega)
    obtain ⟨sb, hsb⟩ : ∃ z, z = wy.heap.size := ⟨_, rfl⟩
    obtain ⟨w6, hw6⟩ : ∃ z, z = wy.alloc (.cells (flagsA (List.replicate n false)) 4) := ⟨_, rfl⟩
    have hwz := HB3.out.size
    have hbw := HR.out
    have hB6 : Below wy.heap.size wy w6 := by rw [hw6]; exact (Below.refl _ _).alloc (Nat.le_refl _) _
    have HS0 : Hid (MdS w rb dx nb vb cb sb n (.slice A0 n0 c0) 1 (List.replicate n ⟨0, 0, 0⟩) (List.replicate n 0) (List.replicate n false) w6 ∧ NdI n 0 (List.replicate n ⟨0, 0, 0⟩) (List.replicate n false)) := Lib.hid ⟨⟨below3 (below3 HB3.out hbw (Nat.le_refl _)) hB6 (Nat.le_refl _), (HR3.out.below hbw HR3.out.lt).below hB6 (HR3.out.below hbw HR3.out.lt).lt, ⟨1, Nat.le_refl _, (HD3.out.below hbw HD3.out.lt).below hB6 (HD3.out.below hbw HD3.out.lt).lt⟩, b1.below hB6 b1.lt, b3.below hB6 b3.lt, q6.below hB6 q6.lt, by rw [hw6, hsb]; exact heap_alloc_new wy _, ⟨HZ.out.1, HZ.out.2.2, by omega, by omega, by omega, by have := hbw.size; omega⟩⟩, NdI.first n⟩
    clear z1 b1 z3 b3 z5 q6 hnb hvb hcb hwz hbw hB6
    simp [putAll]
    go_wp2
    rw [← hw6, ← hsb]
    clear hw6 hsb HR
    go_loopw [25] (fun iv wr => ∃ (k : Nat) (N : List Nd) (S : List Bool), k ≤ n ∧ iv = .int .i64 ((k : Nat) : Int) ∧ Hid (MdS w rb dx nb vb cb sb n (.slice A0 n0 c0) (1 + 4 * k) N (List.replicate n 0) S wr ∧ NdI n k N S)) (fun iv _ => n - (intOf iv).toNat)
    case atStart => exact ⟨0, _, _, Nat.zero_le _, rfl, HS0⟩
    case round =>
      obtain ⟨k, N, S, hk, rfl, HS⟩ := hrel
      have HND := Lib.hid HS.out.2
      by_cases hlt : k < n
      · have HK4 : Hid (k < n) := Lib.hid hlt
        have hk0 : (0 : Int) ≤ (k : Int) := by omega
        have hkn : (k : Int) < (n : Int) := by omega
        have KX := next_md H0.out.1 H0.out.2 4 HS.out.1 (by have := HN.out; omega) (by omega)
        clear hk hlt
        go_wp2_with fail
        refine KX.mono ?_
        rintro e wa ⟨a, rfl, ha, hS1, -⟩
        have HS1 := Lib.hid (And.intro hS1 ha)
        have KY := next_md H0.out.1 H0.out.2 2 hS1 (by have := HN.out; have := HK4.out; omega) (by omega)
        clear KX hS1 ha
        go_wp2_with fail
        refine KY.mono ?_
        rintro e wb ⟨b, rfl, hb, hS2, -⟩
        obtain ⟨lo, hlo⟩ : ∃ z, z = a * b := ⟨_, rfl⟩
        have HLO : Hid (0 ≤ lo ∧ lo ≤ 3) := Lib.hid (by
          have h1 := HS1.out.2
          rw [hlo]
          rcases (show b = 0 ∨ b = 1 by omega) with rfl | rfl
          · simp
          · rw [Int.mul_one]; omega)
        have wm : IntKind.i64.wrap (a * b) = lo := by rw [← hlo]; exact IntWalk.i64_in _ (by have := HLO.out; omega)
        have HS2 := Lib.hid hS2
        clear KY hS2 hb hlo
        go_wp2
        clear wm
        refine wp_region_free10 10 (by kernel_rfl) [some 33, some 34, some 35, some 36, some 37, some 38, some 39, some 40, some 41, some 42, none] [[], [0], [], [], [], [], [5], [4, 6], [3, 7], [1, 2, 0, 1, 2, 3, 4, 5, 6, 7, 8], [9, 8, 6, 0, 1, 2, 3, 4, 5, 6, 7, 8]] [(5, .pointer (some ⟨cb, 0, none⟩)), (7, .int .i64 (k : Int)), (8, .int .i64 lo), (3, .pointer (some ⟨dx, 0, none⟩))] (mdR (fun i W => MdS w rb dx nb vb cb sb n (.slice A0 n0 c0) i N (List.replicate n 0) S W) (1 + 4 * k + 2)) (mdPhi (fun r => 0 ≤ r ∧ r < 6) (fun r W => MdS w rb dx nb vb cb sb n (.slice A0 n0 c0) (1 + 4 * k + 3) (N.set k ⟨-1, lo, lo + r⟩) (List.replicate n 0) S W) 10 [.eq (.pointer (some ⟨cb, 0, none⟩)), .eq (.slice (some ⟨nb, 0, none⟩) n n), .eq (.int .i64 (k : Int)), .eq (.int .i64 lo), .eq (.int .i64 lo), .eq (.pointer (some ⟨dx, 0, none⟩)), .num (fun r => .int .i64 r), .num (fun r => .int .i64 (lo + r)), .num (fun r => .agg #[.int .i64 (-1), .int .i64 lo, .int .i64 (lo + r)]), .eq (.pointer (some ⟨nb, k * 3, none⟩))]) (mdPsi 6) (by kernel_rfl) (by kernel_rfl) rfl (by kernel_rfl) ?_ ?_ ⟨fun _ => 0, ⟨Nat.zero_le _, fun _ => by simpa using HS2.out.next (Below.refl _ _).drew⟩, fun _ _ => ⟨rfl, fun _ => rfl⟩⟩ ?_ ?_
        · intro z hz
          simp only [List.mem_cons, List.mem_nil_iff, or_false] at hz
          rcases hz with rfl | rfl | rfl | rfl
          all_goals exact ⟨by kernel_rfl, rfl⟩
        · intro i v W γ hi h
          rcases i with _ | _ | _ | _ | _ | _ | _ | _ | _ | _ | _ | i
          all_goals first | exact h | (simp at hi)
        · refine ⟨?_, ?_, ?_, ?_, ?_, ?_, ?_, ?_, ?_, ?_, ?_, trivial⟩
          all_goals
            intro a9 W γ ev hcc hff hfx hR hψ hpre
            simp only [List.mem_cons, List.mem_nil_iff, or_false, forall_eq, forall_eq_or_imp] at hfx
            obtain ⟨f0, f1, f2, f3⟩ := hfx
            have HR := Lib.hid hR
            clear hR
          · refine ⟨fun hg K hK => ?_, trivial⟩
            clear hg
            clear hpre hψ
            go_simp
            exact hK _ _ γ HR.out (fun _ _ _ _ h => h) (fun _ _ _ h => h) rfl
          · refine ⟨fun hg K hK => ?_, trivial⟩
            clear hg
            have q0 : ev (.tmp 33) = _ := hpre 0 (by decide)
            have hI := HR.out.2 hψ.1
            have s0 := hI.c.cell 0
            have s1 := hI.c.cell 1
            simp only [List.getElem?_toArray, List.getElem?_cons_zero, List.getElem?_cons_succ] at s0 s1
            have zs := hI.c.lt
            clear hI
            clear hpre hψ
            go_simp
            exact hK _ _ γ HR.out (fun _ _ _ _ h => h) (fun _ _ _ h => h) rfl
          · refine ⟨fun hg K hK => ?_, trivial⟩
            clear hg
            clear hpre hψ
            go_simp
            exact hK _ _ γ HR.out (fun _ _ _ _ h => h) (fun _ _ _ h => h) rfl
          · refine ⟨fun hg K hK => ?_, trivial⟩
            clear hg
            clear hpre hψ
            go_simp
            exact hK _ _ γ HR.out (fun _ _ _ _ h => h) (fun _ _ _ h => h) rfl
          · refine ⟨fun hg K hK => ?_, trivial⟩
            clear hg
            clear hpre hψ
            go_simp
            exact hK _ _ γ HR.out (fun _ _ _ _ h => h) (fun _ _ _ h => h) rfl
          · refine ⟨fun hg K hK => ?_, trivial⟩
            clear hg
            clear hpre hψ
            go_simp
            exact hK _ _ γ HR.out (fun _ _ _ _ h => h) (fun _ _ _ h => h) rfl
          · refine ⟨fun hg K hK => ?_, trivial⟩
            clear hg
            have q0 : ev (.tmp 38) = _ := hpre 5 (by decide)
            have hI := HR.out.2 hψ.1
            rw [hψ.2 rfl] at hI
            have C := Lib.hid (next_md H0.out.1 H0.out.2 6 hI (by have := HK4.out; have := HN.out; omega) (by omega))
            have HP := Lib.hid hψ
            clear hpre hψ hI HR
            go_simp
            refine C.out.mono ?_
            rintro e w7 ⟨r, rfl, hr, hS, _⟩
            exact hK _ w7 (fun i => if i = 2 then 1 else γ i) ⟨Nat.le_refl _, fun _ => hS⟩ (fun j u _ _ h => mdPhi_w HP.out.1 h) (fun _ j hne h => ⟨h.1, fun e => absurd e hne⟩) ⟨r, hr, rfl⟩
          · refine ⟨fun hg K hK => ?_, trivial⟩
            clear hg
            obtain ⟨r, hr, q7⟩ := hpre 6 (by decide)
            replace q7 : ev (.tmp 39) = _ := q7
            have q8 : ev (.tmp 37) = _ := hpre 4 (by decide)
            have wv : IntKind.i64.wrap (lo + r) = lo + r := IntWalk.i64_in _ (by have := HLO.out; omega)
            clear hpre hψ
            go_simp
            exact hK _ _ γ HR.out (fun _ _ _ _ h => h) (fun _ _ _ h => h) ⟨r, hr, rfl⟩
          · refine ⟨fun hg K hK => ?_, trivial⟩
            clear hg
            obtain ⟨r, hr, q7⟩ := hpre 7 (by decide)
            replace q7 : ev (.tmp 40) = _ := q7
            have q8 : ev (.tmp 36) = _ := hpre 3 (by decide)
            clear hpre hψ
            go_simp
            exact hK _ _ γ HR.out (fun _ _ _ _ h => h) (fun _ _ _ h => h) ⟨r, hr, rfl⟩
          · refine ⟨fun hg K hK => ?_, trivial⟩
            clear hg
            have q0 : ev (.tmp 34) = _ := hpre 1 (by decide)
            have q1 : ev (.tmp 35) = _ := hpre 2 (by decide)
            clear hpre hψ
            go_simp
            exact hK _ _ γ HR.out (fun _ _ _ _ h => h) (fun _ _ _ h => h) rfl
          · refine ⟨fun hg K hK => ?_, trivial⟩
            clear hg
            have q0 : ev (.tmp 42) = _ := hpre 9 (by decide)
            obtain ⟨r, hr, q7⟩ := hpre 8 (by decide)
            replace q7 : ev (.tmp 41) = _ := q7
            have hI := HR.out.2 hψ.1
            have hg2 := HR.out.1
            have zl := hI.nd.lt
            have fl9 := hI.nd.frozen
            have hkl : k < N.length := by have h1 := HND.out.len; have h2 := HK4.out; omega
            obtain ⟨e0, e1, e2⟩ := hI.nd.ndAt hkl
            have HX := Lib.hid (And.intro (hI.setN k ⟨-1, lo, lo + r⟩ hkl) (And.intro hg2 hr))
            clear hpre hψ hI hg2 HR hr
            go_simp
            exact hK undef _ (fun i => if i = 0 then 1 else γ i) ⟨HX.out.2.1, fun e => by simp at e⟩ (fun j u h1 h2 h3 => mdPhi_n h2 h3) (fun h => absurd rfl h) ⟨rfl, r, HX.out.2.2, (HX.out.1).mono (by have := HX.out.2.1; omega)⟩
        · intro vs wc γ hvl hR hφ
          have q9 := hφ 10 (by decide)
          have HR := Lib.hid hR
          clear hφ hR
          match vs, hvl with
          | [y0, y1, y2, y3, y4, y5, y6, y7, y8, y9, y10], _ =>
          simp only [List.getD_cons_zero, List.getD_cons_succ] at q9
          replace q9 : γ 0 = 1 ∧ ∃ r, (fun r => 0 ≤ r ∧ r < 6) r ∧ (fun r W => MdS w rb dx nb vb cb sb n (.slice A0 n0 c0) (1 + 4 * k + 3) (N.set k ⟨-1, lo, lo + r⟩) (List.replicate n 0) S W) r wc := q9
          obtain ⟨-, r9, hr9, hS9⟩ := q9
          clear HR
          obtain ⟨hi, hhi⟩ : ∃ z, z = lo + r9 := ⟨_, rfl⟩
          have HHI : Hid (lo ≤ hi ∧ hi ≤ 8) := Lib.hid (by have h1 := HLO.out; have h2 : 0 ≤ r9 ∧ r9 < 6 := hr9; omega)
          replace hS9 : MdS w rb dx nb vb cb sb n (.slice A0 n0 c0) (1 + 4 * k + 3) (N.set k ⟨-1, lo, lo + r9⟩) (List.replicate n 0) S wc := hS9
          rw [← hhi] at hS9
          have HS3 := Lib.hid hS9
          clear hhi hS9 hr9
          simp [putAll]
          by_cases hk9 : k = 0
          · have hz1 : ¬ ((0 : Int) < (k : Int)) := by omega
            have hz2 : ¬ (0 < k) := by omega
            have hz3 : decide (0 < k) = false := decide_eq_false hz2
            have hz4 : decide ((0 : Int) < (k : Int)) = false := decide_eq_false hz1
            have HF : Hid (MdS w rb dx nb vb cb sb n (.slice A0 n0 c0) (1 + 4 * (k + 1)) (N.set k ⟨-1, lo, hi⟩) (List.replicate n 0) S wc ∧ NdI n (k + 1) (N.set k ⟨-1, lo, hi⟩) S) := Lib.hid ⟨HS3.out.mono (by omega), by
              have h1 := HND.out
              rw [hk9] at h1 ⊢
              exact h1.step0 (by have := HN.out; omega) ⟨HLO.out.1, HHI.out⟩⟩
            clear hk9
            go_wp2
            go_roundw
            case rel =>
              refine ⟨_, _, _, ⟨k + 1, ?_, ?_, _, _, HF⟩, rfl, rfl, rfl⟩
              · have := HK4.out; omega
              · go_num
            case measure => have := HK4.out; simp [intOf]; omega
          · have HKP : Hid (0 < k) := Lib.hid (by omega)
            have hz2 : 0 < k := by omega
            have hz1 : (0 : Int) < (k : Int) := by omega
            have hz3 : decide (0 < k) = true := decide_eq_true hz2
            have hz4 : decide ((0 : Int) < (k : Int)) = true := decide_eq_true hz1
            clear hk9
            go_wp2
            clear hz3 hz4
            refine wp_region_free10 8 (by kernel_rfl) [some 45, some 46, some 47, some 48, some 49, some 50, some 51, some 52, none] [[], [0], [], [], [], [3, 4], [1, 2, 0, 1, 2, 3, 4, 5], [6, 0, 1, 2, 3, 4, 5], [7, 5, 5, 0, 1, 2, 3, 4, 5]] [(5, .pointer (some ⟨cb, 0, none⟩)), (7, .int .i64 (k : Int)), (3, .pointer (some ⟨dx, 0, none⟩))] (mdR (fun i W => MdS w rb dx nb vb cb sb n (.slice A0 n0 c0) i (N.set k ⟨-1, lo, hi⟩) (List.replicate n 0) S W) (1 + 4 * k + 3)) (mdPhi (fun r => 0 ≤ r ∧ r < (k : Int)) (fun r W => MdS w rb dx nb vb cb sb n (.slice A0 n0 c0) (1 + 4 * k + 4) (N.set k ⟨r, lo, hi⟩) (List.replicate n 0) S W) 8 [.eq (.pointer (some ⟨cb, 0, none⟩)), .eq (.slice (some ⟨nb, 0, none⟩) n n), .eq (.int .i64 (k : Int)), .eq (.pointer (some ⟨dx, 0, none⟩)), .eq (.int .i64 (k : Int)), .num (fun r => .int .i64 r), .eq (.pointer (some ⟨nb, k * 3, none⟩)), .eq (.pointer (some ⟨nb, k * 3, none⟩))]) (mdPsi 5) (by kernel_rfl) (by kernel_rfl) rfl (by kernel_rfl) ?_ ?_ ⟨fun _ => 0, ⟨Nat.zero_le _, fun _ => by simpa using HS3.out.next (Below.refl _ _).drew⟩, fun _ _ => ⟨rfl, fun _ => rfl⟩⟩ ?_ ?_
            · intro z hz
              simp only [List.mem_cons, List.mem_nil_iff, or_false] at hz
              rcases hz with rfl | rfl | rfl
              all_goals exact ⟨by kernel_rfl, rfl⟩
            · intro i v W γ hi h
              rcases i with _ | _ | _ | _ | _ | _ | _ | _ | _ | i
              all_goals first | exact h | (simp at hi)
            · refine ⟨?_, ?_, ?_, ?_, ?_, ?_, ?_, ?_, ?_, trivial⟩
              all_goals
                intro a9 W γ ev hcc hff hfx hR hψ hpre
                simp only [List.mem_cons, List.mem_nil_iff, or_false, forall_eq, forall_eq_or_imp] at hfx
                obtain ⟨f0, f1, f2⟩ := hfx
                have HR := Lib.hid hR
                clear hR
              · refine ⟨fun hg K hK => ?_, trivial⟩
                clear hg
                clear hpre hψ
                go_simp
                exact hK _ _ γ HR.out (fun _ _ _ _ h => h) (fun _ _ _ h => h) rfl
              · refine ⟨fun hg K hK => ?_, trivial⟩
                clear hg
                have q0 : ev (.tmp 45) = _ := hpre 0 (by decide)
                have hI := HR.out.2 hψ.1
                have s0 := hI.c.cell 0
                have s1 := hI.c.cell 1
                simp only [List.getElem?_toArray, List.getElem?_cons_zero, List.getElem?_cons_succ] at s0 s1
                have zs := hI.c.lt
                clear hI
                clear hpre hψ
                go_simp
                exact hK _ _ γ HR.out (fun _ _ _ _ h => h) (fun _ _ _ h => h) rfl
              · refine ⟨fun hg K hK => ?_, trivial⟩
                clear hg
                clear hpre hψ
                go_simp
                exact hK _ _ γ HR.out (fun _ _ _ _ h => h) (fun _ _ _ h => h) rfl
              · refine ⟨fun hg K hK => ?_, trivial⟩
                clear hg
                clear hpre hψ
                go_simp
                exact hK _ _ γ HR.out (fun _ _ _ _ h => h) (fun _ _ _ h => h) rfl
              · refine ⟨fun hg K hK => ?_, trivial⟩
                clear hg
                clear hpre hψ
                go_simp
                exact hK _ _ γ HR.out (fun _ _ _ _ h => h) (fun _ _ _ h => h) rfl
              · refine ⟨fun hg K hK => ?_, trivial⟩
                clear hg
                have q0 : ev (.tmp 48) = _ := hpre 3 (by decide)
                have q1 : ev (.tmp 49) = _ := hpre 4 (by decide)
                have hI := HR.out.2 hψ.1
                rw [hψ.2 rfl] at hI
                have C := Lib.hid (next_md H0.out.1 H0.out.2 (k : Int) hI (by have := HK4.out; have := HN.out; omega) (by have := HK4.out; have := HKP.out; have := HN.out; omega))
                have HP := Lib.hid hψ
                clear hpre hψ hI HR
                go_simp
                refine C.out.mono ?_
                rintro e w7 ⟨r, rfl, hr, hS, _⟩
                exact hK _ w7 (fun i => if i = 2 then 1 else γ i) ⟨Nat.le_refl _, fun _ => hS⟩ (fun j u _ _ h => mdPhi_w HP.out.1 h) (fun _ j hne h => ⟨h.1, fun e => absurd e hne⟩) ⟨r, hr, rfl⟩
              · refine ⟨fun hg K hK => ?_, trivial⟩
                clear hg
                have q0 : ev (.tmp 46) = _ := hpre 1 (by decide)
                have q1 : ev (.tmp 47) = _ := hpre 2 (by decide)
                clear hpre hψ
                go_simp
                exact hK _ _ γ HR.out (fun _ _ _ _ h => h) (fun _ _ _ h => h) rfl
              · refine ⟨fun hg K hK => ?_, trivial⟩
                clear hg
                have q0 : ev (.tmp 51) = _ := hpre 6 (by decide)
                clear hpre hψ
                go_simp
                exact hK _ _ γ HR.out (fun _ _ _ _ h => h) (fun _ _ _ h => h) rfl
              · refine ⟨fun hg K hK => ?_, trivial⟩
                clear hg
                have q0 : ev (.tmp 52) = _ := hpre 7 (by decide)
                obtain ⟨r, hr, q7⟩ := hpre 5 (by decide)
                replace q7 : ev (.tmp 50) = _ := q7
                have hI := HR.out.2 hψ.1
                have hg2 := HR.out.1
                have zl := hI.nd.lt
                have fl9 := hI.nd.frozen
                have hkl0 : k < N.length := by have h1 := HND.out.len; have h2 := HK4.out; omega
                have hkl : k < (N.set k ⟨-1, lo, hi⟩).length := by rw [List.length_set]; exact hkl0
                obtain ⟨e0, -, -⟩ := hI.nd.ndAt hkl
                have HX := Lib.hid (And.intro (hI.setUp r hkl0) (And.intro hg2 hr))
                clear hpre hψ hI hg2 HR hr
                go_simp
                exact hK undef _ (fun i => if i = 0 then 1 else γ i) ⟨HX.out.2.1, fun e => by simp at e⟩ (fun j u h1 h2 h3 => mdPhi_n h2 h3) (fun h => absurd rfl h) ⟨rfl, r, HX.out.2.2, (HX.out.1).mono (by have := HX.out.2.1; omega)⟩
            · intro vs wd γ hvl hR hφ
              have q9 := hφ 8 (by decide)
              have HR := Lib.hid hR
              clear hφ hR
              match vs, hvl with
              | [y0, y1, y2, y3, y4, y5, y6, y7, y8], _ =>
              simp only [List.getD_cons_zero, List.getD_cons_succ] at q9
              replace q9 : γ 0 = 1 ∧ ∃ r, (fun r => 0 ≤ r ∧ r < (k : Int)) r ∧ (fun r W => MdS w rb dx nb vb cb sb n (.slice A0 n0 c0) (1 + 4 * k + 4) (N.set k ⟨r, lo, hi⟩) (List.replicate n 0) S W) r wd := q9
              obtain ⟨-, r9, hr9, hS9⟩ := q9
              clear HR
              have hr10 : 0 ≤ r9 ∧ r9 < (k : Int) := hr9
              replace hS9 : MdS w rb dx nb vb cb sb n (.slice A0 n0 c0) (1 + 4 * k + 4) (N.set k ⟨r9, lo, hi⟩) (List.replicate n 0) S wd := hS9
              obtain ⟨u, hu⟩ : ∃ u : Nat, r9 = (u : Int) := ⟨r9.toNat, by omega⟩
              subst hu
              have hkl : k < N.length := by have h1 := HND.out.len; have h2 := HK4.out; omega
              have husl : u < S.length := by have h1 := HND.out.sl; have h2 := HK4.out; omega
              have cc0 := hS9.c.cell 0
              simp only [List.getElem?_toArray, List.getElem?_cons_zero, List.getElem?_cons_succ] at cc0
              have zc := hS9.c.lt
              have zn := hS9.nd.lt
              obtain ⟨e0, -, -⟩ := hS9.nd.ndAt (k := k) (by rw [List.length_set]; exact hkl)
              rw [ndA_set hkl, if_pos rfl] at e0
              have zs := hS9.s.lt
              have fs := hS9.s.frozen u
              have es := hS9.s.flagAt husl
              have u0 : (0 : Int) ≤ (u : Int) := by omega
              have un : (u : Int) < (n : Int) := by have := HK4.out; omega
              obtain ⟨W', hW'⟩ : ∃ z, z = wd.setCell ⟨sb, u, none⟩ (.bool true) := ⟨_, rfl⟩
              have HF : Hid (MdS w rb dx nb vb cb sb n (.slice A0 n0 c0) (1 + 4 * (k + 1)) (N.set k ⟨(u : Int), lo, hi⟩) (List.replicate n 0) (S.set u true) W' ∧ NdI n (k + 1) (N.set k ⟨(u : Int), lo, hi⟩) (S.set u true)) := Lib.hid ⟨by rw [hW']; exact (hS9.setS u true).mono (by omega), HND.out.step HKP.out HK4.out (by omega) ⟨HLO.out.1, HHI.out⟩⟩
              have wk : IntKind.i64.wrap ((k : Int) + 1) = (k : Int) + 1 := IntWalk.i64_in _ (by have := HK4.out; have := HN.out; omega)
              clear hr9 hr10 hS9 hkl husl
              simp [putAll]
              go_wp2
              rw [← hW']
              go_roundw
              case rel =>
                refine ⟨_, _, _, ⟨k + 1, ?_, ?_, _, _, HF⟩, rfl, rfl, rfl⟩
                · have := HK4.out; omega
                · go_num
              case measure => have := HK4.out; simp [intOf]; omega
      · obtain rfl : n = k := by omega
        clear hlt hk
        obtain ⟨wm, hwm⟩ : ∃ z, z = wr := ⟨wr, rfl⟩
        subst hwm
        have wn1 : IntKind.i64.wrap ((n : Int) - 1) = (n : Int) - 1 := IntWalk.i64_in _ (by have := HN.out; omega)
        have HV9 : Hid (MdS w rb dx nb vb cb sb n (.slice A0 n0 c0) (1 + 4 * n + 2 * (n - n)) N (List.replicate n 0) S wm ∧ VlI n n N S (List.replicate n 0)) := Lib.hid ⟨by rw [Nat.sub_self]; exact HS.out.1, VlI.first N S⟩
        clear HS HS0
        go_wp2
        clear wn1
        go_loopw [9] (fun iv wr => ∃ (j : Nat) (t : Int) (V : List Int), j ≤ n ∧ iv = .int .i64 t ∧ Hid (t = (j : Int) - 1 ∧ MdS w rb dx nb vb cb sb n (.slice A0 n0 c0) (1 + 4 * n + 2 * (n - j)) N V S wr ∧ VlI n j N S V)) (fun iv _ => (intOf iv + 1).toNat)
        case atStart => exact ⟨n, _, _, Nat.le_refl _, rfl, Lib.hid ⟨rfl, HV9.out⟩⟩
        case round =>
          obtain ⟨j, t, V, hj, rfl, HQ⟩ := hrel
          by_cases hj0 : j = 0
          · obtain rfl : t = -1 := by have := HQ.out.1; omega
            have HMD : Hid (MdS w rb dx nb vb cb sb n (.slice A0 n0 c0) (1 + 4 * n + 2 * (n - j)) N V S wr ∧ KsOk ⟨N, V⟩ ∧ Bal ⟨N, V⟩) := Lib.hid ⟨HQ.out.2.1, made_is HND.out (by have := HQ.out.2.2; rw [hj0] at this; exact this) HN.out.1 HN.out.2⟩
            have c0' := HMD.out.1.c.cell 0
            have c1' := HMD.out.1.c.cell 1
            have r0' := HMD.out.1.r.cell 0
            have r1' := HMD.out.1.r.cell 1
            simp only [List.getElem?_toArray, List.getElem?_cons_zero, List.getElem?_cons_succ] at c0' c1' r0' r1'
            have zc := HMD.out.1.c.lt
            have zr := HMD.out.1.r.lt
            have fr := HMD.out.1.r.frozen
            clear hj hj0
            obtain ⟨W', hW'⟩ : ∃ z, z = (wr.setCell ⟨rb, 0, none⟩ (.slice (some ⟨nb, 0, none⟩) n n)).setCell ⟨rb, 1, none⟩ (.slice (some ⟨vb, 0, none⟩) n n) := ⟨_, rfl⟩
            have HFIN : Hid (Blk W' rb 35 #[.slice (some ⟨nb, 0, none⟩) n n, .slice (some ⟨vb, 0, none⟩) n n] ∧ MadeV w W' nb vb n ⟨N, V⟩) := Lib.hid (by
              have h := HMD.out.1
              rw [hW']
              refine ⟨?_, ⟨(h.nd.far (blk_ne h.nd h.r (by decide)) _).far (blk_ne h.nd h.r (by decide)) _, (h.v.far (blk_ne h.v h.r (by decide)) _).far (blk_ne h.v h.r (by decide)) _, HMD.out.2.1, HMD.out.2.2, HND.out.len, HN.out.2, ⟨h.ge.2.2.1, h.ge.2.2.2.1⟩, (h.low.setCell (p := ⟨rb, 0, none⟩) h.ge.1 _).setCell (p := ⟨rb, 1, none⟩) h.ge.1 _⟩⟩
              have h9 := (h.r.set_ 0 (.slice (some ⟨nb, 0, none⟩) n n)).set_ 1 (.slice (some ⟨vb, 0, none⟩) n n)
              simpa using h9)
            have x0 := HFIN.out.1.cell 0
            have x1 := HFIN.out.1.cell 1
            simp only [List.getElem?_toArray, List.getElem?_cons_zero, List.getElem?_cons_succ] at x0 x1
            go_wp2
            rw [← hW']
            refine bodyPost_ret (v := .agg #[.slice (some ⟨nb, 0, none⟩) n n, .slice (some ⟨vb, 0, none⟩) n n]) ?_ rfl ?_
            · simp [results, Try.results10, go_sem, x0, x1]
            · exact ⟨nb, vb, n, ⟨N, V⟩, rfl, HFIN.out.2⟩
          · obtain ⟨i, rfl⟩ : ∃ i, j = i + 1 := ⟨j - 1, by omega⟩
            obtain rfl : t = (i : Int) := by have := HQ.out.1; omega
            have HI4 : Hid (i < n) := Lib.hid (by omega)
            have HVI := Lib.hid HQ.out.2.2
            have hi0 : (0 : Int) ≤ (i : Int) := by omega
            have hin : (i : Int) < (n : Int) := by omega
            obtain ⟨up, hup⟩ : ∃ z, z = (ndA N i).up := ⟨_, rfl⟩
            obtain ⟨lo, hlo⟩ : ∃ z, z = (ndA N i).lo := ⟨_, rfl⟩
            obtain ⟨hi, hhi⟩ : ∃ z, z = (ndA N i).hi := ⟨_, rfl⟩
            have HUP := Lib.hid (And.intro hup (And.intro hlo hhi))
            have HLH : Hid (0 ≤ lo ∧ lo ≤ hi ∧ hi ≤ 8) := Lib.hid (by have := HND.out.lh i HI4.out; rw [hlo, hhi]; exact this)
            obtain ⟨v0, hv0⟩ : ∃ z, z = V.getD i 0 := ⟨_, rfl⟩
            have HV0 : Hid (V.getD i 0 = v0) := Lib.hid hv0.symm
            have HVA : Hid (∀ j, 0 ≤ V.getD j 0 ∧ V.getD j 0 ≤ 28311552) := Lib.hid (fun j => by have h1 := HVI.out.bd j; have h2 := bndV_top (s := n - (i + 1)) (by have := HN.out; omega); omega)
            have HVB : Hid (0 ≤ v0 ∧ v0 ≤ 28311552) := Lib.hid (by have := HVA.out i; rw [hv0]; exact this)
            obtain ⟨s, hs⟩ : ∃ z, z = S.getD i false := ⟨_, rfl⟩
            have HSS := Lib.hid hs
            have hM := HQ.out.2.1
            have cc0 := hM.c.cell 0
            simp only [List.getElem?_toArray, List.getElem?_cons_zero, List.getElem?_cons_succ] at cc0
            have zc := hM.c.lt
            have zn := hM.nd.lt
            obtain ⟨e0, e1, e2⟩ := hM.nd.ndAt (k := i) (by rw [HND.out.len]; exact HI4.out)
            rw [← hup] at e0
            rw [← hlo] at e1
            rw [← hhi] at e2
            have zs := hM.s.lt
            have es := hM.s.flagAt (k := i) (by rw [HND.out.sl]; exact HI4.out)
            rw [← hs] at es
            obtain ⟨xb, hxb⟩ : ∃ z, z = wr.heap.size := ⟨_, rfl⟩
            obtain ⟨wx, hwx⟩ : ∃ z, z = wr.alloc (.cells #[.int .i64 up, .int .i64 lo, .int .i64 hi] 107) := ⟨_, rfl⟩
            have hBx : Below wr.heap.size wr wx := by rw [hwx]; exact (Below.refl _ _).alloc (Nat.le_refl _) _
            have HX9 : Hid (MdX w rb dx nb vb cb sb n (.slice A0 n0 c0) xb #[.int .i64 up, .int .i64 lo, .int .i64 hi] (1 + 4 * n + 2 * (n - (i + 1))) N V S wx) := Lib.hid ⟨hM.next hBx, by rw [hwx, hxb]; exact heap_alloc_new wr _⟩
            have g1 : wr.heap.size < wr.heap.size + 1 := by omega
            have es' : wx.cell? ⟨sb, i, none⟩ = some (.bool s) := (hBx.cell (p := ⟨sb, i, none⟩) zs).trans es
            have zs' : sb < wx.heap.size := Nat.lt_of_lt_of_le zs hBx.size
            clear hj hj0 hup hlo hhi hv0 hs hM hBx
            have wi : IntKind.i64.wrap ((i : Int) - 1) = (i : Int) - 1 := IntWalk.i64_in _ (by have := HI4.out; have := HN.out; omega)
            by_cases hs9 : s = true
            · have HST := Lib.hid hs9
              subst hs9
              go_wp2
              rw [← hwx, ← hxb]
              clear hwx hxb cc0 zc zn e0 e1 e2 zs es g1 es' zs'
              refine wp_region_free10 18 (by kernel_rfl) [some 77, some 78, some 79, some 80, some 81, some 82, some 83, some 84, some 85, some 86, some 87, some 88, some 89, some 90, some 91, some 92, some 93, some 94, none] [[], [0], [], [1, 2], [3], [], [5], [], [], [8], [], [10], [9, 11], [12], [7, 13], [6, 14], [4, 15], [1, 2, 0, 1, 2, 3, 4, 5, 6, 7, 8, 9, 10, 11, 12, 13, 14, 15, 16], [17, 16, 14, 0, 1, 2, 3, 4, 5, 6, 7, 8, 9, 10, 11, 12, 13, 14, 15, 16]] [(5, .pointer (some ⟨cb, 0, none⟩)), (9, .int .i64 (i : Int)), (3, .pointer (some ⟨dx, 0, none⟩)), (10, .pointer (some ⟨xb, 0, none⟩))] (mdR (fun q W => MdX w rb dx nb vb cb sb n (.slice A0 n0 c0) xb #[.int .i64 up, .int .i64 lo, .int .i64 hi] q N V S W) (1 + 4 * n + 2 * (n - (i + 1)))) (mdPhi (fun r => 0 ≤ r ∧ r < hi - lo + 1) (fun r W => MdX w rb dx nb vb cb sb n (.slice A0 n0 c0) xb #[.int .i64 up, .int .i64 lo, .int .i64 hi] (1 + 4 * n + 2 * (n - (i + 1)) + 1) N (V.set i (v0 + (lo + r))) S W) 18 [.eq (.pointer (some ⟨cb, 1, none⟩)), .eq (.slice (some ⟨vb, 0, none⟩) n n), .eq (.int .i64 (i : Int)), .eq (.pointer (some ⟨vb, i, none⟩)), .eq (.int .i64 v0), .eq (.pointer (some ⟨xb, 1, none⟩)), .eq (.int .i64 lo), .eq (.pointer (some ⟨dx, 0, none⟩)), .eq (.pointer (some ⟨xb, 2, none⟩)), .eq (.int .i64 hi), .eq (.pointer (some ⟨xb, 1, none⟩)), .eq (.int .i64 lo), .eq (.int .i64 (hi - lo)), .eq (.int .i64 (hi - lo + 1)), .num (fun r => .int .i64 r), .num (fun r => .int .i64 (lo + r)), .num (fun r => .int .i64 (v0 + (lo + r))), .eq (.pointer (some ⟨vb, i, none⟩))]) (mdPsi 14) (by kernel_rfl) (by kernel_rfl) rfl (by kernel_rfl) ?_ ?_ ⟨fun _ => 0, ⟨Nat.zero_le _, fun _ => by simpa using HX9.out.next (Below.refl _ _).drew⟩, fun _ _ => ⟨rfl, fun _ => rfl⟩⟩ ?_ ?_
              · intro z hz
                simp only [List.mem_cons, List.mem_nil_iff, or_false] at hz
                rcases hz with rfl | rfl | rfl | rfl
                all_goals exact ⟨by kernel_rfl, rfl⟩
              · intro i v W γ hi h
                rcases i with _ | _ | _ | _ | _ | _ | _ | _ | _ | _ | _ | _ | _ | _ | _ | _ | _ | _ | _ | i
                all_goals first | exact h | (simp at hi)
              · refine ⟨?_, ?_, ?_, ?_, ?_, ?_, ?_, ?_, ?_, ?_, ?_, ?_, ?_, ?_, ?_, ?_, ?_, ?_, ?_, trivial⟩
                all_goals
                  intro a9 W γ ev hcc hff hfx hR hψ hpre
                  simp only [List.mem_cons, List.mem_nil_iff, or_false, forall_eq, forall_eq_or_imp] at hfx
                  obtain ⟨f0, f1, f2, f3⟩ := hfx
                  have HR := Lib.hid hR
                  clear hR
                · refine ⟨fun hg K hK => ?_, trivial⟩
                  clear hg
                  clear hpre hψ
                  go_simp
                  exact hK _ _ γ HR.out (fun _ _ _ _ h => h) (fun _ _ _ h => h) rfl
                · refine ⟨fun hg K hK => ?_, trivial⟩
                  clear hg
                  have q0 : ev (.tmp 77) = _ := hpre 0 (by decide)
                  have hI := HR.out.2 hψ.1
                  have s0 := hI.1.c.cell 0
                  have s1 := hI.1.c.cell 1
                  simp only [List.getElem?_toArray, List.getElem?_cons_zero, List.getElem?_cons_succ] at s0 s1
                  have zs := hI.1.c.lt
                  clear hI
                  clear hpre hψ
                  go_simp
                  exact hK _ _ γ HR.out (fun _ _ _ _ h => h) (fun _ _ _ h => h) rfl
                · refine ⟨fun hg K hK => ?_, trivial⟩
                  clear hg
                  clear hpre hψ
                  go_simp
                  exact hK _ _ γ HR.out (fun _ _ _ _ h => h) (fun _ _ _ h => h) rfl
                · refine ⟨fun hg K hK => ?_, trivial⟩
                  clear hg
                  have q0 : ev (.tmp 78) = _ := hpre 1 (by decide)
                  have q1 : ev (.tmp 79) = _ := hpre 2 (by decide)
                  clear hpre hψ
                  go_simp
                  exact hK _ _ γ HR.out (fun _ _ _ _ h => h) (fun _ _ _ h => h) rfl
                · refine ⟨fun hg K hK => ?_, trivial⟩
                  clear hg
                  have q0 : ev (.tmp 80) = _ := hpre 3 (by decide)
                  have hI := HR.out.2 hψ.1
                  have hvl : i < V.length := by have h1 := HVI.out.len; have h2 := HI4.out; omega
                  have e0 := hI.1.v.intAt9 hvl
                  rw [HV0.out] at e0
                  have zl := hI.1.v.lt
                  clear hI
                  clear hpre hψ
                  go_simp
                  exact hK _ _ γ HR.out (fun _ _ _ _ h => h) (fun _ _ _ h => h) rfl
                · refine ⟨fun hg K hK => ?_, trivial⟩
                  clear hg
                  clear hpre hψ
                  go_simp
                  exact hK _ _ γ HR.out (fun _ _ _ _ h => h) (fun _ _ _ h => h) rfl
                · refine ⟨fun hg K hK => ?_, trivial⟩
                  clear hg
                  have q0 : ev (.tmp 82) = _ := hpre 5 (by decide)
                  have hI := HR.out.2 hψ.1
                  have x0 := hI.2.cell 0
                  have x1 := hI.2.cell 1
                  have x2 := hI.2.cell 2
                  simp only [List.getElem?_toArray, List.getElem?_cons_zero, List.getElem?_cons_succ] at x0 x1 x2
                  have zx := hI.2.lt
                  clear hI
                  clear hpre hψ
                  go_simp
                  exact hK _ _ γ HR.out (fun _ _ _ _ h => h) (fun _ _ _ h => h) rfl
                · refine ⟨fun hg K hK => ?_, trivial⟩
                  clear hg
                  clear hpre hψ
                  go_simp
                  exact hK _ _ γ HR.out (fun _ _ _ _ h => h) (fun _ _ _ h => h) rfl
                · refine ⟨fun hg K hK => ?_, trivial⟩
                  clear hg
                  clear hpre hψ
                  go_simp
                  exact hK _ _ γ HR.out (fun _ _ _ _ h => h) (fun _ _ _ h => h) rfl
                · refine ⟨fun hg K hK => ?_, trivial⟩
                  clear hg
                  have q0 : ev (.tmp 85) = _ := hpre 8 (by decide)
                  have hI := HR.out.2 hψ.1
                  have x0 := hI.2.cell 0
                  have x1 := hI.2.cell 1
                  have x2 := hI.2.cell 2
                  simp only [List.getElem?_toArray, List.getElem?_cons_zero, List.getElem?_cons_succ] at x0 x1 x2
                  have zx := hI.2.lt
                  clear hI
                  clear hpre hψ
                  go_simp
                  exact hK _ _ γ HR.out (fun _ _ _ _ h => h) (fun _ _ _ h => h) rfl
                · refine ⟨fun hg K hK => ?_, trivial⟩
                  clear hg
                  clear hpre hψ
                  go_simp
                  exact hK _ _ γ HR.out (fun _ _ _ _ h => h) (fun _ _ _ h => h) rfl
                · refine ⟨fun hg K hK => ?_, trivial⟩
                  clear hg
                  have q0 : ev (.tmp 87) = _ := hpre 10 (by decide)
                  have hI := HR.out.2 hψ.1
                  have x0 := hI.2.cell 0
                  have x1 := hI.2.cell 1
                  have x2 := hI.2.cell 2
                  simp only [List.getElem?_toArray, List.getElem?_cons_zero, List.getElem?_cons_succ] at x0 x1 x2
                  have zx := hI.2.lt
                  clear hI
                  clear hpre hψ
                  go_simp
                  exact hK _ _ γ HR.out (fun _ _ _ _ h => h) (fun _ _ _ h => h) rfl
                · refine ⟨fun hg K hK => ?_, trivial⟩
                  clear hg
                  have q0 : ev (.tmp 86) = _ := hpre 9 (by decide)
                  have q1 : ev (.tmp 88) = _ := hpre 11 (by decide)
                  have wv : IntKind.i64.wrap (hi - lo) = hi - lo := IntWalk.i64_in _ (by have := HLH.out; omega)
                  clear hpre hψ
                  go_simp
                  exact hK _ _ γ HR.out (fun _ _ _ _ h => h) (fun _ _ _ h => h) rfl
                · refine ⟨fun hg K hK => ?_, trivial⟩
                  clear hg
                  have q0 : ev (.tmp 89) = _ := hpre 12 (by decide)
                  have wv : IntKind.i64.wrap (hi - lo + 1) = hi - lo + 1 := IntWalk.i64_in _ (by have := HLH.out; omega)
                  clear hpre hψ
                  go_simp
                  exact hK _ _ γ HR.out (fun _ _ _ _ h => h) (fun _ _ _ h => h) rfl
                · refine ⟨fun hg K hK => ?_, trivial⟩
                  clear hg
                  have q0 : ev (.tmp 84) = _ := hpre 7 (by decide)
                  have q1 : ev (.tmp 90) = _ := hpre 13 (by decide)
                  have hI := HR.out.2 hψ.1
                  rw [hψ.2 rfl] at hI
                  have C := Lib.hid (next_mdx H0.out.1 H0.out.2 (hi - lo + 1) hI (by have := HI4.out; have := HN.out; omega) (by have := HLH.out; omega))
                  have HP := Lib.hid hψ
                  clear hpre hψ hI HR
                  go_simp
                  refine C.out.mono ?_
                  rintro e w7 ⟨r, rfl, hr, hS⟩
                  exact hK _ w7 (fun i => if i = 2 then 1 else γ i) ⟨Nat.le_refl _, fun _ => hS⟩ (fun j u _ _ h => mdPhi_w HP.out.1 h) (fun _ j hne h => ⟨h.1, fun e => absurd e hne⟩) ⟨r, hr, rfl⟩
                · refine ⟨fun hg K hK => ?_, trivial⟩
                  clear hg
                  obtain ⟨r, hr, q7⟩ := hpre 14 (by decide)
                  replace q7 : ev (.tmp 91) = _ := q7
                  have q8 : ev (.tmp 83) = _ := hpre 6 (by decide)
                  have wv : IntKind.i64.wrap (lo + r) = lo + r := IntWalk.i64_in _ (by have := HLH.out; omega)
                  clear hpre hψ
                  go_simp
                  exact hK _ _ γ HR.out (fun _ _ _ _ h => h) (fun _ _ _ h => h) ⟨r, hr, rfl⟩
                · refine ⟨fun hg K hK => ?_, trivial⟩
                  clear hg
                  obtain ⟨r, hr, q7⟩ := hpre 15 (by decide)
                  replace q7 : ev (.tmp 92) = _ := q7
                  have q8 : ev (.tmp 81) = _ := hpre 4 (by decide)
                  have wv : IntKind.i64.wrap (v0 + (lo + r)) = v0 + (lo + r) := IntWalk.i64_in _ (by have := HLH.out; have := HVB.out; omega)
                  clear hpre hψ
                  go_simp
                  exact hK _ _ γ HR.out (fun _ _ _ _ h => h) (fun _ _ _ h => h) ⟨r, hr, rfl⟩
                · refine ⟨fun hg K hK => ?_, trivial⟩
                  clear hg
                  have q0 : ev (.tmp 78) = _ := hpre 1 (by decide)
                  have q1 : ev (.tmp 79) = _ := hpre 2 (by decide)
                  clear hpre hψ
                  go_simp
                  exact hK _ _ γ HR.out (fun _ _ _ _ h => h) (fun _ _ _ h => h) rfl
                · refine ⟨fun hg K hK => ?_, trivial⟩
                  clear hg
                  have q0 : ev (.tmp 94) = _ := hpre 17 (by decide)
                  obtain ⟨r, hr, q7⟩ := hpre 16 (by decide)
                  replace q7 : ev (.tmp 93) = _ := q7
                  have hI := HR.out.2 hψ.1
                  have hg2 := HR.out.1
                  have zl := hI.1.v.lt
                  have fl9 := hI.1.v.frozen
                  have hvl : i < V.length := by have h1 := HVI.out.len; have h2 := HI4.out; omega
                  have e0 := hI.1.v.intAt9 hvl
                  have HX := Lib.hid (And.intro (hI.setV i (v0 + (lo + r))) (And.intro hg2 hr))
                  clear hpre hψ hI hg2 HR hr
                  go_simp
                  exact hK undef _ (fun i => if i = 0 then 1 else γ i) ⟨HX.out.2.1, fun e => by simp at e⟩ (fun j u h1 h2 h3 => mdPhi_n h2 h3) (fun h => absurd rfl h) ⟨rfl, r, HX.out.2.2, (HX.out.1).mono (by have := HX.out.2.1; omega)⟩
              · intro vs wc γ hvl hR hφ
                have q9 := hφ 18 (by decide)
                have HR := Lib.hid hR
                clear hφ hR
                match vs, hvl with
                | [y0, y1, y2, y3, y4, y5, y6, y7, y8, y9, y10, y11, y12, y13, y14, y15, y16, y17, y18], _ =>
                simp only [List.getD_cons_zero, List.getD_cons_succ] at q9
                replace q9 : γ 0 = 1 ∧ ∃ r, (fun r => 0 ≤ r ∧ r < hi - lo + 1) r ∧ (fun r W => MdX w rb dx nb vb cb sb n (.slice A0 n0 c0) xb #[.int .i64 up, .int .i64 lo, .int .i64 hi] (1 + 4 * n + 2 * (n - (i + 1)) + 1) N (V.set i (v0 + (lo + r))) S W) r wc := q9
                obtain ⟨-, r9, hr9, hS9⟩ := q9
                clear HR
                have hr10 : 0 ≤ r9 ∧ r9 < hi - lo + 1 := hr9
                replace hS9 : MdX w rb dx nb vb cb sb n (.slice A0 n0 c0) xb #[.int .i64 up, .int .i64 lo, .int .i64 hi] (1 + 4 * n + 2 * (n - (i + 1)) + 1) N (V.set i (v0 + (lo + r9))) S wc := hS9
                obtain ⟨y, hy⟩ : ∃ z, z = v0 + (lo + r9) := ⟨_, rfl⟩
                rw [← hy] at hS9
                have HY2 : Hid ((0 ≤ y ∧ y ≤ V.getD i 0 + 108) ∧ (S.getD i false = true → (ndA N i).lo ≤ y - V.getD i 0 ∧ y - V.getD i 0 ≤ (ndA N i).hi)) := Lib.hid (by
                  have h1 := HLH.out
                  have h2 := HUP.out
                  have h3 := HVB.out
                  rw [HV0.out, ← h2.2.1, ← h2.2.2]
                  exact ⟨by omega, fun _ => by omega⟩)
                clear hy hr10
                have HXY := Lib.hid hS9
                clear hS9 hr9
                simp [putAll]
                by_cases hi9 : i = 0
                · have hz1 : ¬ ((0 : Int) < (i : Int)) := by omega
                  have hz2 : ¬ (0 < i) := by omega
                  have hz3 : decide (0 < i) = false := decide_eq_false hz2
                  have hz4 : decide ((0 : Int) < (i : Int)) = false := decide_eq_false hz1
                  have HF : Hid ((i : Int) - 1 = (i : Int) - 1 ∧ MdS w rb dx nb vb cb sb n (.slice A0 n0 c0) (1 + 4 * n + 2 * (n - i)) N (V.set i y) S wc ∧ VlI n i N S (V.set i y)) := Lib.hid ⟨rfl, HXY.out.1.mono (by have := HI4.out; omega), HVI.out.step HND.out HI4.out HY2.out.1 HY2.out.2 (by rw [List.length_set]; exact HVI.out.len) (fun j hj => by
                    have h1 := HND.out.root (by have := HN.out; omega)
                    have h2 := HI4.out
                    have h3 := HVI.out.len
                    rw [put_getD (by omega)]
                    subst hi9
                    split
                    · rfl
                    · rw [if_neg (by rw [h1]; omega)]; omega)⟩
                  clear hi9
                  go_wp2
                  go_roundw
                  case rel => exact ⟨i, by have := HI4.out; omega, _, Lib.hid ⟨rfl, HF.out.2⟩⟩
                  case measure => have := HI4.out; simp [intOf]; omega
                · obtain ⟨p, hp⟩ : ∃ p : Nat, up = (p : Int) := ⟨up.toNat, by have := HND.out.up i (by omega) HI4.out; have := HUP.out.1; omega⟩
                  have HPI : Hid (p < i) := Lib.hid (by have h1 := HND.out.up i (by omega) HI4.out; have h2 := HUP.out.1; rw [← h2, hp] at h1; omega)
                  subst hp
                  have hz2 : 0 < i := by omega
                  have hz1 : (0 : Int) < (i : Int) := by omega
                  have hz3 : decide (0 < i) = true := decide_eq_true hz2
                  have hz4 : decide ((0 : Int) < (i : Int)) = true := decide_eq_true hz1
                  have hp0 : (0 : Int) ≤ (p : Int) := by omega
                  have hpn : (p : Int) < (n : Int) := by have := HPI.out; have := HI4.out; omega
                  obtain ⟨v1, hv1⟩ : ∃ z, z = (V.set i y).getD p 0 := ⟨_, rfl⟩
                  have hvl : i < V.length := by have h1 := HVI.out.len; have h2 := HI4.out; omega
                  have HV1 : Hid ((V.set i y).getD p 0 = v1) := Lib.hid hv1.symm
                  have HVP : Hid (v1 = V.getD p 0) := Lib.hid (by rw [hv1, put_getD hvl, if_neg (by have := HPI.out; omega)])
                  have HVY : Hid ((V.set i y).getD i 0 = y) := Lib.hid (by rw [put_getD hvl, if_pos rfl])
                  have HYB : Hid (0 ≤ v1 + y ∧ v1 + y ≤ 100000000) := Lib.hid (by have h1 := HVA.out p; have h2 := HVA.out i; have h3 := HY2.out.1; have h4 := HVP.out; omega)
                  clear hi9 hv1 hvl
                  go_wp2
                  clear hz3 hz4
                  refine wp_region_free10 13 (by kernel_rfl) [some 103, some 104, some 105, some 106, some 107, some 108, some 109, some 110, some 111, some 112, some 113, some 114, some 115, none] [[], [0], [], [2], [1, 3], [4], [], [6], [], [7, 8], [9], [5, 10], [1, 3, 0, 1, 2, 3, 4, 5, 6, 7, 8, 9, 10, 11], [12, 11, 0, 1, 2, 3, 4, 5, 6, 7, 8, 9, 10, 11]] [(5, .pointer (some ⟨cb, 0, none⟩)), (9, .int .i64 (i : Int)), (10, .pointer (some ⟨xb, 0, none⟩))] (mdR (fun q W => MdX w rb dx nb vb cb sb n (.slice A0 n0 c0) xb #[.int .i64 (p : Int), .int .i64 lo, .int .i64 hi] q N (V.set i y) S W) (1 + 4 * n + 2 * (n - (i + 1)) + 1)) (mdPhi (fun _ => True) (fun _ W => MdX w rb dx nb vb cb sb n (.slice A0 n0 c0) xb #[.int .i64 (p : Int), .int .i64 lo, .int .i64 hi] (1 + 4 * n + 2 * (n - (i + 1)) + 2) N ((V.set i y).set p (v1 + y)) S W) 13 [.eq (.pointer (some ⟨cb, 1, none⟩)), .eq (.slice (some ⟨vb, 0, none⟩) n n), .eq (.pointer (some ⟨xb, 0, none⟩)), .eq (.int .i64 (p : Int)), .eq (.pointer (some ⟨vb, p, none⟩)), .eq (.int .i64 v1), .eq (.pointer (some ⟨cb, 1, none⟩)), .eq (.slice (some ⟨vb, 0, none⟩) n n), .eq (.int .i64 (i : Int)), .eq (.pointer (some ⟨vb, i, none⟩)), .eq (.int .i64 y), .eq (.int .i64 (v1 + y)), .eq (.pointer (some ⟨vb, p, none⟩))]) (mdPsi 99) (by kernel_rfl) (by kernel_rfl) rfl (by kernel_rfl) ?_ ?_ ⟨fun _ => 0, ⟨Nat.zero_le _, fun _ => by simpa using HXY.out.next (Below.refl _ _).drew⟩, fun _ _ => ⟨rfl, fun _ => rfl⟩⟩ ?_ ?_
                  · intro z hz
                    simp only [List.mem_cons, List.mem_nil_iff, or_false] at hz
                    rcases hz with rfl | rfl | rfl
                    all_goals exact ⟨by kernel_rfl, rfl⟩
                  · intro i v W γ hi h
                    rcases i with _ | _ | _ | _ | _ | _ | _ | _ | _ | _ | _ | _ | _ | _ | i
                    all_goals first | exact h | (simp at hi)
                  · refine ⟨?_, ?_, ?_, ?_, ?_, ?_, ?_, ?_, ?_, ?_, ?_, ?_, ?_, ?_, trivial⟩
                    all_goals
                      intro a9 W γ ev hcc hff hfx hR hψ hpre
                      simp only [List.mem_cons, List.mem_nil_iff, or_false, forall_eq, forall_eq_or_imp] at hfx
                      obtain ⟨f0, f1, f2⟩ := hfx
                      have HR := Lib.hid hR
                      clear hR
                    · refine ⟨fun hg K hK => ?_, trivial⟩
                      clear hg
                      clear hpre hψ
                      go_simp
                      exact hK _ _ γ HR.out (fun _ _ _ _ h => h) (fun _ _ _ h => h) rfl
                    · refine ⟨fun hg K hK => ?_, trivial⟩
                      clear hg
                      have q0 : ev (.tmp 103) = _ := hpre 0 (by decide)
                      have hI := HR.out.2 hψ.1
                      have s0 := hI.1.c.cell 0
                      have s1 := hI.1.c.cell 1
                      simp only [List.getElem?_toArray, List.getElem?_cons_zero, List.getElem?_cons_succ] at s0 s1
                      have zs := hI.1.c.lt
                      clear hI
                      clear hpre hψ
                      go_simp
                      exact hK _ _ γ HR.out (fun _ _ _ _ h => h) (fun _ _ _ h => h) rfl
                    · refine ⟨fun hg K hK => ?_, trivial⟩
                      clear hg
                      clear hpre hψ
                      go_simp
                      exact hK _ _ γ HR.out (fun _ _ _ _ h => h) (fun _ _ _ h => h) rfl
                    · refine ⟨fun hg K hK => ?_, trivial⟩
                      clear hg
                      have q0 : ev (.tmp 105) = _ := hpre 2 (by decide)
                      have hI := HR.out.2 hψ.1
                      have x0 := hI.2.cell 0
                      have x1 := hI.2.cell 1
                      have x2 := hI.2.cell 2
                      simp only [List.getElem?_toArray, List.getElem?_cons_zero, List.getElem?_cons_succ] at x0 x1 x2
                      have zx := hI.2.lt
                      clear hI
                      clear hpre hψ
                      go_simp
                      exact hK _ _ γ HR.out (fun _ _ _ _ h => h) (fun _ _ _ h => h) rfl
                    · refine ⟨fun hg K hK => ?_, trivial⟩
                      clear hg
                      have q0 : ev (.tmp 104) = _ := hpre 1 (by decide)
                      have q1 : ev (.tmp 106) = _ := hpre 3 (by decide)
                      clear hpre hψ
                      go_simp
                      exact hK _ _ γ HR.out (fun _ _ _ _ h => h) (fun _ _ _ h => h) rfl
                    · refine ⟨fun hg K hK => ?_, trivial⟩
                      clear hg
                      have q0 : ev (.tmp 107) = _ := hpre 4 (by decide)
                      have hI := HR.out.2 hψ.1
                      have hvl : p < (V.set i y).length := by rw [List.length_set]; have h1 := HVI.out.len; have h2 := HI4.out; have h3 := HPI.out; omega
                      have e0 := hI.1.v.intAt9 hvl
                      rw [HV1.out] at e0
                      have zl := hI.1.v.lt
                      clear hI
                      clear hpre hψ
                      go_simp
                      exact hK _ _ γ HR.out (fun _ _ _ _ h => h) (fun _ _ _ h => h) rfl
                    · refine ⟨fun hg K hK => ?_, trivial⟩
                      clear hg
                      clear hpre hψ
                      go_simp
                      exact hK _ _ γ HR.out (fun _ _ _ _ h => h) (fun _ _ _ h => h) rfl
                    · refine ⟨fun hg K hK => ?_, trivial⟩
                      clear hg
                      have q0 : ev (.tmp 109) = _ := hpre 6 (by decide)
                      have hI := HR.out.2 hψ.1
                      have s0 := hI.1.c.cell 0
                      have s1 := hI.1.c.cell 1
                      simp only [List.getElem?_toArray, List.getElem?_cons_zero, List.getElem?_cons_succ] at s0 s1
                      have zs := hI.1.c.lt
                      clear hI
                      clear hpre hψ
                      go_simp
                      exact hK _ _ γ HR.out (fun _ _ _ _ h => h) (fun _ _ _ h => h) rfl
                    · refine ⟨fun hg K hK => ?_, trivial⟩
                      clear hg
                      clear hpre hψ
                      go_simp
                      exact hK _ _ γ HR.out (fun _ _ _ _ h => h) (fun _ _ _ h => h) rfl
                    · refine ⟨fun hg K hK => ?_, trivial⟩
                      clear hg
                      have q0 : ev (.tmp 110) = _ := hpre 7 (by decide)
                      have q1 : ev (.tmp 111) = _ := hpre 8 (by decide)
                      clear hpre hψ
                      go_simp
                      exact hK _ _ γ HR.out (fun _ _ _ _ h => h) (fun _ _ _ h => h) rfl
                    · refine ⟨fun hg K hK => ?_, trivial⟩
                      clear hg
                      have q0 : ev (.tmp 112) = _ := hpre 9 (by decide)
                      have hI := HR.out.2 hψ.1
                      have hvl : i < (V.set i y).length := by rw [List.length_set]; have h1 := HVI.out.len; have h2 := HI4.out; omega
                      have e0 := hI.1.v.intAt9 hvl
                      rw [HVY.out] at e0
                      have zl := hI.1.v.lt
                      clear hI
                      clear hpre hψ
                      go_simp
                      exact hK _ _ γ HR.out (fun _ _ _ _ h => h) (fun _ _ _ h => h) rfl
                    · refine ⟨fun hg K hK => ?_, trivial⟩
                      clear hg
                      have q0 : ev (.tmp 108) = _ := hpre 5 (by decide)
                      have q1 : ev (.tmp 113) = _ := hpre 10 (by decide)
                      have wv : IntKind.i64.wrap (v1 + y) = v1 + y := IntWalk.i64_in _ (by have := HYB.out; omega)
                      clear hpre hψ
                      go_simp
                      exact hK _ _ γ HR.out (fun _ _ _ _ h => h) (fun _ _ _ h => h) rfl
                    · refine ⟨fun hg K hK => ?_, trivial⟩
                      clear hg
                      have q0 : ev (.tmp 104) = _ := hpre 1 (by decide)
                      have q1 : ev (.tmp 106) = _ := hpre 3 (by decide)
                      clear hpre hψ
                      go_simp
                      exact hK _ _ γ HR.out (fun _ _ _ _ h => h) (fun _ _ _ h => h) rfl
                    · refine ⟨fun hg K hK => ?_, trivial⟩
                      clear hg
                      have q0 : ev (.tmp 114) = _ := hpre 11 (by decide)
                      have q1 : ev (.tmp 115) = _ := hpre 12 (by decide)
                      have hI := HR.out.2 hψ.1
                      have hg2 := HR.out.1
                      have zl := hI.1.v.lt
                      have fl9 := hI.1.v.frozen
                      have hvl : p < (V.set i y).length := by rw [List.length_set]; have h1 := HVI.out.len; have h2 := HI4.out; have h3 := HPI.out; omega
                      have e0 := hI.1.v.intAt9 hvl
                      have HX := Lib.hid (And.intro (hI.setV p (v1 + y)) (And.intro hg2 trivial))
                      clear hpre hψ hI hg2 HR
                      go_simp
                      exact hK undef _ (fun i => if i = 0 then 1 else γ i) ⟨HX.out.2.1, fun e => by simp at e⟩ (fun j u h1 h2 h3 => mdPhi_n h2 h3) (fun h => absurd rfl h) ⟨rfl, 0, HX.out.2.2, (HX.out.1).mono (by have := HX.out.2.1; omega)⟩
                  · intro vs wd γ hvl hR hφ
                    have q9 := hφ 13 (by decide)
                    have HR := Lib.hid hR
                    clear hφ hR
                    match vs, hvl with
                    | [y0, y1, y2, y3, y4, y5, y6, y7, y8, y9, y10, y11, y12, y13], _ =>
                    simp only [List.getD_cons_zero, List.getD_cons_succ] at q9
                    replace q9 : γ 0 = 1 ∧ ∃ r, (fun _ => True) r ∧ (fun _ W => MdX w rb dx nb vb cb sb n (.slice A0 n0 c0) xb #[.int .i64 (p : Int), .int .i64 lo, .int .i64 hi] (1 + 4 * n + 2 * (n - (i + 1)) + 2) N ((V.set i y).set p (v1 + y)) S W) r wd := q9
                    obtain ⟨-, r9, hr9, hS9⟩ := q9
                    clear HR
                    replace hS9 : MdX w rb dx nb vb cb sb n (.slice A0 n0 c0) xb #[.int .i64 (p : Int), .int .i64 lo, .int .i64 hi] (1 + 4 * n + 2 * (n - (i + 1)) + 2) N ((V.set i y).set p (v1 + y)) S wd := hS9
                    have HF : Hid ((i : Int) - 1 = (i : Int) - 1 ∧ MdS w rb dx nb vb cb sb n (.slice A0 n0 c0) (1 + 4 * n + 2 * (n - i)) N ((V.set i y).set p (v1 + y)) S wd ∧ VlI n i N S ((V.set i y).set p (v1 + y))) := Lib.hid ⟨rfl, hS9.1.mono (by have := HI4.out; omega), HVI.out.step HND.out HI4.out HY2.out.1 HY2.out.2 (by rw [List.length_set, List.length_set]; exact HVI.out.len) (fun j hj => by
                      have h1 := HUP.out.1
                      have h2 := HI4.out
                      have h3 := HVI.out.len
                      have h4 := HPI.out
                      have h5 := HVP.out
                      rw [put_getD (by rw [List.length_set]; omega), ← h1, put_getD (by omega)]
                      by_cases e1 : j = p
                      · subst e1
                        rw [if_pos rfl, if_neg (by omega), if_pos rfl, h5]
                      · rw [if_neg e1, if_neg (show ¬ ((p : Int) = (j : Int)) from fun e => e1 (by omega))]
                        split
                        · rfl
                        · omega)⟩
                    clear hS9 hr9
                    simp [putAll]
                    go_wp2
                    go_roundw
                    case rel => exact ⟨i, by have := HI4.out; omega, _, Lib.hid ⟨rfl, HF.out.2⟩⟩
                    case measure => have := HI4.out; simp [intOf]; omega
            · have HST : Hid (s = false) := Lib.hid (by simpa using hs9)
              obtain rfl : s = false := HST.out
              clear hs9
              go_wp2
              rw [← hwx, ← hxb]
              clear hwx hxb cc0 zc zn e0 e1 e2 zs es g1 es' zs'
              refine wp_region_free10 6 (by kernel_rfl) [some 95, some 96, some 97, some 98, some 99, some 100, none] [[], [0], [], [], [3], [1, 2, 0, 1, 2, 3, 4], [5, 4, 4, 0, 1, 2, 3, 4]] [(5, .pointer (some ⟨cb, 0, none⟩)), (9, .int .i64 (i : Int)), (3, .pointer (some ⟨dx, 0, none⟩))] (mdR (fun q W => MdX w rb dx nb vb cb sb n (.slice A0 n0 c0) xb #[.int .i64 up, .int .i64 lo, .int .i64 hi] q N V S W) (1 + 4 * n + 2 * (n - (i + 1)))) (mdPhi (fun r => 0 ≤ r ∧ r < 100) (fun r W => MdX w rb dx nb vb cb sb n (.slice A0 n0 c0) xb #[.int .i64 up, .int .i64 lo, .int .i64 hi] (1 + 4 * n + 2 * (n - (i + 1)) + 1) N (V.set i r) S W) 6 [.eq (.pointer (some ⟨cb, 1, none⟩)), .eq (.slice (some ⟨vb, 0, none⟩) n n), .eq (.int .i64 (i : Int)), .eq (.pointer (some ⟨dx, 0, none⟩)), .num (fun r => .int .i64 r), .eq (.pointer (some ⟨vb, i, none⟩))]) (mdPsi 4) (by kernel_rfl) (by kernel_rfl) rfl (by kernel_rfl) ?_ ?_ ⟨fun _ => 0, ⟨Nat.zero_le _, fun _ => by simpa using HX9.out.next (Below.refl _ _).drew⟩, fun _ _ => ⟨rfl, fun _ => rfl⟩⟩ ?_ ?_
              · intro z hz
                simp only [List.mem_cons, List.mem_nil_iff, or_false] at hz
                rcases hz with rfl | rfl | rfl
                all_goals exact ⟨by kernel_rfl, rfl⟩
              · intro i v W γ hi h
                rcases i with _ | _ | _ | _ | _ | _ | _ | i
                all_goals first | exact h | (simp at hi)
              · refine ⟨?_, ?_, ?_, ?_, ?_, ?_, ?_, trivial⟩
                all_goals
                  intro a9 W γ ev hcc hff hfx hR hψ hpre
                  simp only [List.mem_cons, List.mem_nil_iff, or_false, forall_eq, forall_eq_or_imp] at hfx
                  obtain ⟨f0, f1, f2⟩ := hfx
                  have HR := Lib.hid hR
                  clear hR
                · refine ⟨fun hg K hK => ?_, trivial⟩
                  clear hg
                  clear hpre hψ
                  go_simp
                  exact hK _ _ γ HR.out (fun _ _ _ _ h => h) (fun _ _ _ h => h) rfl
                · refine ⟨fun hg K hK => ?_, trivial⟩
                  clear hg
                  have q0 : ev (.tmp 95) = _ := hpre 0 (by decide)
                  have hI := HR.out.2 hψ.1
                  have s0 := hI.1.c.cell 0
                  have s1 := hI.1.c.cell 1
                  simp only [List.getElem?_toArray, List.getElem?_cons_zero, List.getElem?_cons_succ] at s0 s1
                  have zs := hI.1.c.lt
                  clear hI
                  clear hpre hψ
                  go_simp
                  exact hK _ _ γ HR.out (fun _ _ _ _ h => h) (fun _ _ _ h => h) rfl
                · refine ⟨fun hg K hK => ?_, trivial⟩
                  clear hg
                  clear hpre hψ
                  go_simp
                  exact hK _ _ γ HR.out (fun _ _ _ _ h => h) (fun _ _ _ h => h) rfl
                · refine ⟨fun hg K hK => ?_, trivial⟩
                  clear hg
                  clear hpre hψ
                  go_simp
                  exact hK _ _ γ HR.out (fun _ _ _ _ h => h) (fun _ _ _ h => h) rfl
                · refine ⟨fun hg K hK => ?_, trivial⟩
                  clear hg
                  have q0 : ev (.tmp 98) = _ := hpre 3 (by decide)
                  have hI := HR.out.2 hψ.1
                  rw [hψ.2 rfl] at hI
                  have C := Lib.hid (next_mdx H0.out.1 H0.out.2 100 hI (by have := HI4.out; have := HN.out; omega) (by omega))
                  have HP := Lib.hid hψ
                  clear hpre hψ hI HR
                  go_simp
                  refine C.out.mono ?_
                  rintro e w7 ⟨r, rfl, hr, hS⟩
                  exact hK _ w7 (fun i => if i = 2 then 1 else γ i) ⟨Nat.le_refl _, fun _ => hS⟩ (fun j u _ _ h => mdPhi_w HP.out.1 h) (fun _ j hne h => ⟨h.1, fun e => absurd e hne⟩) ⟨r, hr, rfl⟩
                · refine ⟨fun hg K hK => ?_, trivial⟩
                  clear hg
                  have q0 : ev (.tmp 96) = _ := hpre 1 (by decide)
                  have q1 : ev (.tmp 97) = _ := hpre 2 (by decide)
                  clear hpre hψ
                  go_simp
                  exact hK _ _ γ HR.out (fun _ _ _ _ h => h) (fun _ _ _ h => h) rfl
                · refine ⟨fun hg K hK => ?_, trivial⟩
                  clear hg
                  have q0 : ev (.tmp 100) = _ := hpre 5 (by decide)
                  obtain ⟨r, hr, q7⟩ := hpre 4 (by decide)
                  replace q7 : ev (.tmp 99) = _ := q7
                  have hI := HR.out.2 hψ.1
                  have hg2 := HR.out.1
                  have zl := hI.1.v.lt
                  have fl9 := hI.1.v.frozen
                  have hvl : i < V.length := by have h1 := HVI.out.len; have h2 := HI4.out; omega
                  have e0 := hI.1.v.intAt9 hvl
                  have HX := Lib.hid (And.intro (hI.setV i r) (And.intro hg2 hr))
                  clear hpre hψ hI hg2 HR hr
                  go_simp
                  exact hK undef _ (fun i => if i = 0 then 1 else γ i) ⟨HX.out.2.1, fun e => by simp at e⟩ (fun j u h1 h2 h3 => mdPhi_n h2 h3) (fun h => absurd rfl h) ⟨rfl, r, HX.out.2.2, (HX.out.1).mono (by have := HX.out.2.1; omega)⟩
              · intro vs wc γ hvl hR hφ
                have q9 := hφ 6 (by decide)
                have HR := Lib.hid hR
                clear hφ hR
                match vs, hvl with
                | [y0, y1, y2, y3, y4, y5, y6], _ =>
                simp only [List.getD_cons_zero, List.getD_cons_succ] at q9
                replace q9 : γ 0 = 1 ∧ ∃ r, (fun r => 0 ≤ r ∧ r < 100) r ∧ (fun r W => MdX w rb dx nb vb cb sb n (.slice A0 n0 c0) xb #[.int .i64 up, .int .i64 lo, .int .i64 hi] (1 + 4 * n + 2 * (n - (i + 1)) + 1) N (V.set i r) S W) r wc := q9
                obtain ⟨-, r9, hr9, hS9⟩ := q9
                clear HR
                have hr10 : 0 ≤ r9 ∧ r9 < 100 := hr9
                replace hS9 : MdX w rb dx nb vb cb sb n (.slice A0 n0 c0) xb #[.int .i64 up, .int .i64 lo, .int .i64 hi] (1 + 4 * n + 2 * (n - (i + 1)) + 1) N (V.set i r9) S wc := hS9
                obtain ⟨y, hy⟩ : ∃ z, z = r9 := ⟨_, rfl⟩
                rw [← hy] at hS9
                have HY2 : Hid ((0 ≤ y ∧ y ≤ V.getD i 0 + 108) ∧ (S.getD i false = true → (ndA N i).lo ≤ y - V.getD i 0 ∧ y - V.getD i 0 ≤ (ndA N i).hi)) := Lib.hid (by
                  have h3 := HVB.out
                  rw [HV0.out]
                  exact ⟨by omega, fun h => by rw [← HSS.out] at h; cases h⟩)
                clear hy hr10
                have HXY := Lib.hid hS9
                clear hS9 hr9
                simp [putAll]
                by_cases hi9 : i = 0
                · have hz1 : ¬ ((0 : Int) < (i : Int)) := by omega
                  have hz2 : ¬ (0 < i) := by omega
                  have hz3 : decide (0 < i) = false := decide_eq_false hz2
                  have hz4 : decide ((0 : Int) < (i : Int)) = false := decide_eq_false hz1
                  have HF : Hid ((i : Int) - 1 = (i : Int) - 1 ∧ MdS w rb dx nb vb cb sb n (.slice A0 n0 c0) (1 + 4 * n + 2 * (n - i)) N (V.set i y) S wc ∧ VlI n i N S (V.set i y)) := Lib.hid ⟨rfl, HXY.out.1.mono (by have := HI4.out; omega), HVI.out.step HND.out HI4.out HY2.out.1 HY2.out.2 (by rw [List.length_set]; exact HVI.out.len) (fun j hj => by
                    have h1 := HND.out.root (by have := HN.out; omega)
                    have h2 := HI4.out
                    have h3 := HVI.out.len
                    rw [put_getD (by omega)]
                    subst hi9
                    split
                    · rfl
                    · rw [if_neg (by rw [h1]; omega)]; omega)⟩
                  clear hi9
                  go_wp2
                  go_roundw
                  case rel => exact ⟨i, by have := HI4.out; omega, _, Lib.hid ⟨rfl, HF.out.2⟩⟩
                  case measure => have := HI4.out; simp [intOf]; omega
                · obtain ⟨p, hp⟩ : ∃ p : Nat, up = (p : Int) := ⟨up.toNat, by have := HND.out.up i (by omega) HI4.out; have := HUP.out.1; omega⟩
                  have HPI : Hid (p < i) := Lib.hid (by have h1 := HND.out.up i (by omega) HI4.out; have h2 := HUP.out.1; rw [← h2, hp] at h1; omega)
                  subst hp
                  have hz2 : 0 < i := by omega
                  have hz1 : (0 : Int) < (i : Int) := by omega
                  have hz3 : decide (0 < i) = true := decide_eq_true hz2
                  have hz4 : decide ((0 : Int) < (i : Int)) = true := decide_eq_true hz1
                  have hp0 : (0 : Int) ≤ (p : Int) := by omega
                  have hpn : (p : Int) < (n : Int) := by have := HPI.out; have := HI4.out; omega
                  obtain ⟨v1, hv1⟩ : ∃ z, z = (V.set i y).getD p 0 := ⟨_, rfl⟩
                  have hvl : i < V.length := by have h1 := HVI.out.len; have h2 := HI4.out; omega
                  have HV1 : Hid ((V.set i y).getD p 0 = v1) := Lib.hid hv1.symm
                  have HVP : Hid (v1 = V.getD p 0) := Lib.hid (by rw [hv1, put_getD hvl, if_neg (by have := HPI.out; omega)])
                  have HVY : Hid ((V.set i y).getD i 0 = y) := Lib.hid (by rw [put_getD hvl, if_pos rfl])
                  have HYB : Hid (0 ≤ v1 + y ∧ v1 + y ≤ 100000000) := Lib.hid (by have h1 := HVA.out p; have h2 := HVA.out i; have h3 := HY2.out.1; have h4 := HVP.out; omega)
                  clear hi9 hv1 hvl
                  go_wp2
                  clear hz3 hz4
                  refine wp_region_free10 13 (by kernel_rfl) [some 103, some 104, some 105, some 106, some 107, some 108, some 109, some 110, some 111, some 112, some 113, some 114, some 115, none] [[], [0], [], [2], [1, 3], [4], [], [6], [], [7, 8], [9], [5, 10], [1, 3, 0, 1, 2, 3, 4, 5, 6, 7, 8, 9, 10, 11], [12, 11, 0, 1, 2, 3, 4, 5, 6, 7, 8, 9, 10, 11]] [(5, .pointer (some ⟨cb, 0, none⟩)), (9, .int .i64 (i : Int)), (10, .pointer (some ⟨xb, 0, none⟩))] (mdR (fun q W => MdX w rb dx nb vb cb sb n (.slice A0 n0 c0) xb #[.int .i64 (p : Int), .int .i64 lo, .int .i64 hi] q N (V.set i y) S W) (1 + 4 * n + 2 * (n - (i + 1)) + 1)) (mdPhi (fun _ => True) (fun _ W => MdX w rb dx nb vb cb sb n (.slice A0 n0 c0) xb #[.int .i64 (p : Int), .int .i64 lo, .int .i64 hi] (1 + 4 * n + 2 * (n - (i + 1)) + 2) N ((V.set i y).set p (v1 + y)) S W) 13 [.eq (.pointer (some ⟨cb, 1, none⟩)), .eq (.slice (some ⟨vb, 0, none⟩) n n), .eq (.pointer (some ⟨xb, 0, none⟩)), .eq (.int .i64 (p : Int)), .eq (.pointer (some ⟨vb, p, none⟩)), .eq (.int .i64 v1), .eq (.pointer (some ⟨cb, 1, none⟩)), .eq (.slice (some ⟨vb, 0, none⟩) n n), .eq (.int .i64 (i : Int)), .eq (.pointer (some ⟨vb, i, none⟩)), .eq (.int .i64 y), .eq (.int .i64 (v1 + y)), .eq (.pointer (some ⟨vb, p, none⟩))]) (mdPsi 99) (by kernel_rfl) (by kernel_rfl) rfl (by kernel_rfl) ?_ ?_ ⟨fun _ => 0, ⟨Nat.zero_le _, fun _ => by simpa using HXY.out.next (Below.refl _ _).drew⟩, fun _ _ => ⟨rfl, fun _ => rfl⟩⟩ ?_ ?_
                  · intro z hz
                    simp only [List.mem_cons, List.mem_nil_iff, or_false] at hz
                    rcases hz with rfl | rfl | rfl
                    all_goals exact ⟨by kernel_rfl, rfl⟩
                  · intro i v W γ hi h
                    rcases i with _ | _ | _ | _ | _ | _ | _ | _ | _ | _ | _ | _ | _ | _ | i
                    all_goals first | exact h | (simp at hi)
                  · refine ⟨?_, ?_, ?_, ?_, ?_, ?_, ?_, ?_, ?_, ?_, ?_, ?_, ?_, ?_, trivial⟩
                    all_goals
                      intro a9 W γ ev hcc hff hfx hR hψ hpre
                      simp only [List.mem_cons, List.mem_nil_iff, or_false, forall_eq, forall_eq_or_imp] at hfx
                      obtain ⟨f0, f1, f2⟩ := hfx
                      have HR := Lib.hid hR
                      clear hR
                    · refine ⟨fun hg K hK => ?_, trivial⟩
                      clear hg
                      clear hpre hψ
                      go_simp
                      exact hK _ _ γ HR.out (fun _ _ _ _ h => h) (fun _ _ _ h => h) rfl
                    · refine ⟨fun hg K hK => ?_, trivial⟩
                      clear hg
                      have q0 : ev (.tmp 103) = _ := hpre 0 (by decide)
                      have hI := HR.out.2 hψ.1
                      have s0 := hI.1.c.cell 0
                      have s1 := hI.1.c.cell 1
                      simp only [List.getElem?_toArray, List.getElem?_cons_zero, List.getElem?_cons_succ] at s0 s1
                      have zs := hI.1.c.lt
                      clear hI
                      clear hpre hψ
                      go_simp
                      exact hK _ _ γ HR.out (fun _ _ _ _ h => h) (fun _ _ _ h => h) rfl
                    · refine ⟨fun hg K hK => ?_, trivial⟩
                      clear hg
                      clear hpre hψ
                      go_simp
                      exact hK _ _ γ HR.out (fun _ _ _ _ h => h) (fun _ _ _ h => h) rfl
                    · refine ⟨fun hg K hK => ?_, trivial⟩
                      clear hg
                      have q0 : ev (.tmp 105) = _ := hpre 2 (by decide)
                      have hI := HR.out.2 hψ.1
                      have x0 := hI.2.cell 0
                      have x1 := hI.2.cell 1
                      have x2 := hI.2.cell 2
                      simp only [List.getElem?_toArray, List.getElem?_cons_zero, List.getElem?_cons_succ] at x0 x1 x2
                      have zx := hI.2.lt
                      clear hI
                      clear hpre hψ
                      go_simp
                      exact hK _ _ γ HR.out (fun _ _ _ _ h => h) (fun _ _ _ h => h) rfl
                    · refine ⟨fun hg K hK => ?_, trivial⟩
                      clear hg
                      have q0 : ev (.tmp 104) = _ := hpre 1 (by decide)
                      have q1 : ev (.tmp 106) = _ := hpre 3 (by decide)
                      clear hpre hψ
                      go_simp
                      exact hK _ _ γ HR.out (fun _ _ _ _ h => h) (fun _ _ _ h => h) rfl
                    · refine ⟨fun hg K hK => ?_, trivial⟩
                      clear hg
                      have q0 : ev (.tmp 107) = _ := hpre 4 (by decide)
                      have hI := HR.out.2 hψ.1
                      have hvl : p < (V.set i y).length := by rw [List.length_set]; have h1 := HVI.out.len; have h2 := HI4.out; have h3 := HPI.out; omega
                      have e0 := hI.1.v.intAt9 hvl
                      rw [HV1.out] at e0
                      have zl := hI.1.v.lt
                      clear hI
                      clear hpre hψ
                      go_simp
                      exact hK _ _ γ HR.out (fun _ _ _ _ h => h) (fun _ _ _ h => h) rfl
                    · refine ⟨fun hg K hK => ?_, trivial⟩
                      clear hg
                      clear hpre hψ
                      go_simp
                      exact hK _ _ γ HR.out (fun _ _ _ _ h => h) (fun _ _ _ h => h) rfl
                    · refine ⟨fun hg K hK => ?_, trivial⟩
                      clear hg
                      have q0 : ev (.tmp 109) = _ := hpre 6 (by decide)
                      have hI := HR.out.2 hψ.1
                      have s0 := hI.1.c.cell 0
                      have s1 := hI.1.c.cell 1
                      simp only [List.getElem?_toArray, List.getElem?_cons_zero, List.getElem?_cons_succ] at s0 s1
                      have zs := hI.1.c.lt
                      clear hI
                      clear hpre hψ
                      go_simp
                      exact hK _ _ γ HR.out (fun _ _ _ _ h => h) (fun _ _ _ h => h) rfl
                    · refine ⟨fun hg K hK => ?_, trivial⟩
                      clear hg
                      clear hpre hψ
                      go_simp
                      exact hK _ _ γ HR.out (fun _ _ _ _ h => h) (fun _ _ _ h => h) rfl
                    · refine ⟨fun hg K hK => ?_, trivial⟩
                      clear hg
                      have q0 : ev (.tmp 110) = _ := hpre 7 (by decide)
                      have q1 : ev (.tmp 111) = _ := hpre 8 (by decide)
                      clear hpre hψ
                      go_simp
                      exact hK _ _ γ HR.out (fun _ _ _ _ h => h) (fun _ _ _ h => h) rfl
                    · refine ⟨fun hg K hK => ?_, trivial⟩
                      clear hg
                      have q0 : ev (.tmp 112) = _ := hpre 9 (by decide)
                      have hI := HR.out.2 hψ.1
                      have hvl : i < (V.set i y).length := by rw [List.length_set]; have h1 := HVI.out.len; have h2 := HI4.out; omega
                      have e0 := hI.1.v.intAt9 hvl
                      rw [HVY.out] at e0
                      have zl := hI.1.v.lt
                      clear hI
                      clear hpre hψ
                      go_simp
                      exact hK _ _ γ HR.out (fun _ _ _ _ h => h) (fun _ _ _ h => h) rfl
                    · refine ⟨fun hg K hK => ?_, trivial⟩
                      clear hg
                      have q0 : ev (.tmp 108) = _ := hpre 5 (by decide)
                      have q1 : ev (.tmp 113) = _ := hpre 10 (by decide)
                      have wv : IntKind.i64.wrap (v1 + y) = v1 + y := IntWalk.i64_in _ (by have := HYB.out; omega)
                      clear hpre hψ
                      go_simp
                      exact hK _ _ γ HR.out (fun _ _ _ _ h => h) (fun _ _ _ h => h) rfl
                    · refine ⟨fun hg K hK => ?_, trivial⟩
                      clear hg
                      have q0 : ev (.tmp 104) = _ := hpre 1 (by decide)
                      have q1 : ev (.tmp 106) = _ := hpre 3 (by decide)
                      clear hpre hψ
                      go_simp
                      exact hK _ _ γ HR.out (fun _ _ _ _ h => h) (fun _ _ _ h => h) rfl
                    · refine ⟨fun hg K hK => ?_, trivial⟩
                      clear hg
                      have q0 : ev (.tmp 114) = _ := hpre 11 (by decide)
                      have q1 : ev (.tmp 115) = _ := hpre 12 (by decide)
                      have hI := HR.out.2 hψ.1
                      have hg2 := HR.out.1
                      have zl := hI.1.v.lt
                      have fl9 := hI.1.v.frozen
                      have hvl : p < (V.set i y).length := by rw [List.length_set]; have h1 := HVI.out.len; have h2 := HI4.out; have h3 := HPI.out; omega
                      have e0 := hI.1.v.intAt9 hvl
                      have HX := Lib.hid (And.intro (hI.setV p (v1 + y)) (And.intro hg2 trivial))
                      clear hpre hψ hI hg2 HR
                      go_simp
                      exact hK undef _ (fun i => if i = 0 then 1 else γ i) ⟨HX.out.2.1, fun e => by simp at e⟩ (fun j u h1 h2 h3 => mdPhi_n h2 h3) (fun h => absurd rfl h) ⟨rfl, 0, HX.out.2.2, (HX.out.1).mono (by have := HX.out.2.1; omega)⟩
                  · intro vs wd γ hvl hR hφ
                    have q9 := hφ 13 (by decide)
                    have HR := Lib.hid hR
                    clear hφ hR
                    match vs, hvl with
                    | [y0, y1, y2, y3, y4, y5, y6, y7, y8, y9, y10, y11, y12, y13], _ =>
                    simp only [List.getD_cons_zero, List.getD_cons_succ] at q9
                    replace q9 : γ 0 = 1 ∧ ∃ r, (fun _ => True) r ∧ (fun _ W => MdX w rb dx nb vb cb sb n (.slice A0 n0 c0) xb #[.int .i64 (p : Int), .int .i64 lo, .int .i64 hi] (1 + 4 * n + 2 * (n - (i + 1)) + 2) N ((V.set i y).set p (v1 + y)) S W) r wd := q9
                    obtain ⟨-, r9, hr9, hS9⟩ := q9
                    clear HR
                    replace hS9 : MdX w rb dx nb vb cb sb n (.slice A0 n0 c0) xb #[.int .i64 (p : Int), .int .i64 lo, .int .i64 hi] (1 + 4 * n + 2 * (n - (i + 1)) + 2) N ((V.set i y).set p (v1 + y)) S wd := hS9
                    have HF : Hid ((i : Int) - 1 = (i : Int) - 1 ∧ MdS w rb dx nb vb cb sb n (.slice A0 n0 c0) (1 + 4 * n + 2 * (n - i)) N ((V.set i y).set p (v1 + y)) S wd ∧ VlI n i N S ((V.set i y).set p (v1 + y))) := Lib.hid ⟨rfl, hS9.1.mono (by have := HI4.out; omega), HVI.out.step HND.out HI4.out HY2.out.1 HY2.out.2 (by rw [List.length_set, List.length_set]; exact HVI.out.len) (fun j hj => by
                      have h1 := HUP.out.1
                      have h2 := HI4.out
                      have h3 := HVI.out.len
                      have h4 := HPI.out
                      have h5 := HVP.out
                      rw [put_getD (by rw [List.length_set]; omega), ← h1, put_getD (by omega)]
                      by_cases e1 : j = p
                      · subst e1
                        rw [if_pos rfl, if_neg (by omega), if_pos rfl, h5]
                      · rw [if_neg e1, if_neg (show ¬ ((p : Int) = (j : Int)) from fun e => e1 (by omega))]
                        split
                        · rfl
                        · omega)⟩
                    clear hS9 hr9
                    simp [putAll]
                    go_wp2
                    go_roundw
                    case rel => exact ⟨i, by have := HI4.out; omega, _, Lib.hid ⟨rfl, HF.out.2⟩⟩
                    case measure => have := HI4.out; simp [intOf]; omega
end Go.Proofs.Ytcecbohaajocfaa
