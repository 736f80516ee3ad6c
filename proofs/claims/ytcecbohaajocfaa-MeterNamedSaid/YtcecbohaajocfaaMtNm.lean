/- law11: MeterNamed. -/
import Derived.Test.YtcecbohaajocfaaMtEd
import Derived.Test.YtcecbohaajocfaaMtU
import Derived.Test.YtcecbohaajocfaaMtJ

set_option linter.unusedSimpArgs false
set_option linter.unusedVariables false
namespace Go.Proofs.Ytcecbohaajocfaa
open Go.RowKit

set_option maxRecDepth 100000 in
set_option maxHeartbeats 8000000 in
theorem named_dev (A0 A1 A2 : Option Addr) (n0 c0 n1 c1 n2 c2 : Nat) (l0 l1 l2 : List Int) (w : World) (r0 : Rd w w.heap.size 1 encU A0 n0 l0) (u0 : U8s l0) (r1 : Rd w w.heap.size 1 encU A1 n1 l1) (u1 : U8s l1) (r2 : Rd w w.heap.size 1 encW A2 n2 l2) (u2 : U16s l2) (z1 : n1 ≤ c1 ∧ n1 ≤ 9223372036854775807) (y2 : n2 ≤ 9223372036854775807) :
    Calls Try.prog 4 #[.slice A0 n0 c0, .slice A1 n1 c1, .slice A2 n2 c2] w fun e w' => e = .returned (.bool true) ∧ Below w.heap.size w w' := by
  have H1 := Lib.hid (And.intro r1 u1)
  have H2 := Lib.hid (And.intro r2 u2)
  have KM := Made_any A0 n0 c0 l0 w r0 u0
  obtain ⟨q0, hq0⟩ : ∃ z : Nat, z = min n1 n2 := ⟨_, rfl⟩
  obtain ⟨q, hq⟩ : ∃ z : Nat, z = min q0 4 := ⟨_, rfl⟩
  have HQ : Hid (q ≤ n1 ∧ q ≤ n2 ∧ q ≤ 4 ∧ q ≤ c1) := Lib.hid (by omega)
  have wq0 : min (n1 : Int) (n2 : Int) = (q0 : Int) := by omega
  have wq1 : min (q0 : Int) 4 = (q : Int) := by omega
  have wq2 : (q : Int) ≤ (c1 : Int) := by omega
  have wq3 : (0 : Int) ≤ (q : Int) := by omega
  have wq4 : q ≤ c1 := by omega
  obtain ⟨i0, hi0, hi1, hi2, hi3⟩ := info_parts intInfo
  have hi := Lib.hid (And.intro hi0 (And.intro hi1 (And.intro hi2 hi3)))
  clear r0 u0 r1 u1 r2 u2 z1 y2 hq0 hq hi0 hi1 hi2 hi3
  go_enter Try.func4, Try.ntmps4
  go_wp2_with fail
  refine KM.mono ?_
  rintro e w1 ⟨nb, vb, n, c, rfl, hM⟩
  clear KM
  have g1 : w1.heap.size < w1.heap.size + 1 := by omega
  have HM := Lib.hid hM
  clear hM
  obtain ⟨cx, hcx⟩ : ∃ z, z = w1.heap.size := ⟨_, rfl⟩
  obtain ⟨w2, hw2⟩ : ∃ z, z = w1.alloc (.cells #[.slice (some ⟨nb, 0, none⟩) n n, .slice (some ⟨vb, 0, none⟩) n n] 35) := ⟨_, rfl⟩
  have HN : Hid (1 ≤ n ∧ n ≤ 9 ∧ c.nodes.length = n ∧ c.vals.length = n) := Lib.hid ⟨by rw [← HM.out.cn]; exact HM.out.ok.n1, HM.out.le, HM.out.cn, by rw [HM.out.ok.len]; exact HM.out.cn⟩
  have HS0 : Hid (RpS w cx nb vb n c.nodes c.vals w2) := Lib.hid (by
    have h := HM.out
    have hB : Below w1.heap.size w1 w2 := by rw [hw2]; exact (Below.refl _ _).alloc (Nat.le_refl _) _
    exact ⟨below3 h.low hB (Nat.le_refl _), by rw [hw2, hcx]; exact heap_alloc_new w1 _, h.nd.below hB h.nd.lt, h.vl.below hB h.vl.lt, ⟨by rw [hcx]; exact h.low.size, h.ge⟩⟩)
  go_wp2_with fail
  rw [← hw2]
  have KB0 := Broken_any (some ⟨nb, 0, none⟩) (some ⟨vb, 0, none⟩) n n n c w2 HM.out.ok (HS0.out.ks HN.out.2.2.1 HN.out.2.2.2)
  rw [(brk_nil HM.out.ok).2 HM.out.bal] at KB0
  refine KB0.mono ?_
  rintro e w3 ⟨A9, ca9, rfl, hB⟩
  have HB3 := Lib.hid hB
  clear KB0 hB
  rw [← hcx]
  clear hw2 hcx g1
  have g1 : w3.heap.size < w3.heap.size + 1 := by omega
  obtain ⟨sx, hsx⟩ : ∃ z, z = w3.heap.size := ⟨_, rfl⟩
  obtain ⟨w4, hw4⟩ : ∃ z, z = w3.alloc (.cells #[.slice none 0 0] 22) := ⟨_, rfl⟩
  have HS4 : Hid (NmS w cx nb vb sx n c.nodes c.vals none 0 0 [] w4 ∧ c.vals.length = n ∧ (∀ x ∈ c.vals, 0 ≤ x ∧ x ≤ 1000000000) ∧ ([] : List Nat).Nodup ∧ (∀ x ∈ ([] : List Nat), x < n) ∧ (∀ i, i ∉ ([] : List Nat) → c.vals.getD i 0 = c.vals.getD i 0) ∧ ([] : List Nat).length ≤ 0) := Lib.hid (by
    have hB : Below w3.heap.size w3 w4 := by rw [hw4]; exact (Below.refl _ _).alloc (Nat.le_refl _) _
    have h := (HS0.out.next HB3.out).next hB
    exact ⟨⟨h, by rw [hw4, hsx]; exact heap_alloc_new w3 _, World.ownsRow_nil _ _ _ _, fun b h => by simp [Value.ownBlock] at h, by rw [hsx]; exact (HS0.out.next HB3.out).low.size, rfl⟩, HN.out.2.2.2, fun x hx => ok_bd HM.out.ok hx, List.nodup_nil, fun x h => by simp at h, fun i _ => rfl, Nat.le_refl _⟩)
  have hm3 := fun w ts t x y z => run_min3 (P := Try.prog) w ts t .i64 .i64 .i64 x y z
  go_wp2
  rw [← hw4, ← hsx]
  clear hw4 hsx g1 hm3
  go_loopw [46] (fun iv wr => ∃ (k : Nat) (V : List Int) (SA : Option Addr) (sn sc : Nat) (LS : List Nat), k ≤ q ∧ iv = .int .i64 ((k : Nat) : Int) ∧ Hid (NmS w cx nb vb sx n c.nodes V SA sn sc LS wr ∧ V.length = n ∧ (∀ x ∈ V, 0 ≤ x ∧ x ≤ 1000000000) ∧ LS.Nodup ∧ (∀ x ∈ LS, x < n) ∧ (∀ i, i ∉ LS → V.getD i 0 = c.vals.getD i 0) ∧ LS.length ≤ k)) (fun iv _ => q - (intOf iv).toNat)
  case atStart => exact ⟨0, c.vals, none, 0, 0, [], Nat.zero_le _, rfl, Lib.hid ⟨HS4.out.1, HS4.out.2.1, HS4.out.2.2.1, List.nodup_nil, fun x h => by simp at h, fun i _ => rfl, Nat.zero_le _⟩⟩
  case round =>
    obtain ⟨k, V, SA, sn, sc, LS, hk, rfl, HS⟩ := hrel
    by_cases hlt : k < q
    · have HLT : Hid (k < q) := Lib.hid hlt
      have hk0 : (0 : Int) ≤ (k : Int) := by omega
      have hkn : (k : Int) < (q : Int) := by omega
      obtain ⟨ab, ao, x, eA, hab, hax, hac⟩ := H1.out.1.at_ (show k < n1 by have := HQ.out; omega)
      have ca := (HS.out.1.rp.low.cell (p := ⟨ab, ao + k, none⟩) hab).trans (cellU hac)
      have za : ab < wr.heap.size := Nat.lt_of_lt_of_le hab HS.out.1.rp.low.size
      have hxb := H1.out.2 x (List.mem_of_getElem? hax)
      obtain ⟨eb, eo, y, eB, heb, hby, hbc⟩ := H2.out.1.at_ (show k < n2 by have := HQ.out; omega)
      have hyb := H2.out.2 y (List.mem_of_getElem? hby)
      have HY := Lib.hid (And.intro hxb (And.intro hyb (And.intro heb (cellW hbc))))
      obtain ⟨t, ht, htn⟩ := tmod_ix (n := n) hxb.1 HN.out.1
      have HT := Lib.hid htn
      have hn9 : ¬ ((n : Int) = 0) := by have := HN.out.1; omega
      have hn8 : ¬ (n = 0) := by have := HN.out.1; omega
      have w8 : IntKind.i64.wrap x = x := IntWalk.i64_in _ (by omega)
      have cc0 := HS.out.1.rp.c.cell 0
      simp only [List.getElem?_toArray, List.getElem?_cons_zero, List.getElem?_cons_succ] at cc0
      have zc := HS.out.1.rp.c.lt
      clear hax hac hab hxb hby hbc heb hyb hlt hk htn
      subst eB
      have HEA := Lib.hid eA
      rw [eA]
      go_wp2
      clear ca za eA w8 hk0 hkn ht hn9 hn8 cc0 zc
      refine wp_region_free10 9 (by kernel_rfl) [some 57, some 58, some 59, some 60, some 61, some 62, some 63, some 64, some 65, none] [[], [0], [], [], [], [3, 4], [5], [6], [1, 2, 0, 1, 2, 3, 4, 5, 6, 7], [8, 7, 0, 1, 2, 3, 4, 5, 6, 7]] [(7, .pointer (some ⟨cx, 0, none⟩)), (13, .int .i64 (t : Int)), (11, .int .i64 (k : Int)), (2, .slice (some ⟨eb, eo, none⟩) n2 c2)] (mdR (fun _ W => NmS w cx nb vb sx n c.nodes V SA sn sc LS W) 0) (mdPhi (fun _ => True) (fun _ W => NmS w cx nb vb sx n c.nodes (V.set t y) SA sn sc LS W) 9 [.eq (.pointer (some ⟨cx, 1, none⟩)), .eq (.slice (some ⟨vb, 0, none⟩) n n), .eq (.int .i64 (t : Int)), .eq (.slice (some ⟨eb, eo, none⟩) n2 c2), .eq (.int .i64 (k : Int)), .eq (.pointer (some ⟨eb, eo + k, none⟩)), .eq (.int .u16 y), .eq (.int .i64 y), .eq (.pointer (some ⟨vb, t, none⟩))]) (mdPsi 99) (by kernel_rfl) (by kernel_rfl) rfl (by kernel_rfl) ?_ ?_ ⟨fun _ => 0, ⟨Nat.zero_le _, fun _ => by simpa using HS.out.1.next (Below.refl _ _).drew⟩, fun _ _ => ⟨rfl, fun _ => rfl⟩⟩ ?_ ?_
      · intro z hz
        simp only [List.mem_cons, List.mem_nil_iff, or_false] at hz
        rcases hz with rfl | rfl | rfl | rfl
        all_goals exact ⟨by kernel_rfl, rfl⟩
      · intro i v W γ hi h
        rcases i with _ | _ | _ | _ | _ | _ | _ | _ | _ | _ | i
        all_goals first | exact h | (simp at hi)
      · refine ⟨?_, ?_, ?_, ?_, ?_, ?_, ?_, ?_, ?_, ?_, trivial⟩
        all_goals
          intro a9 W γ ev hcc hff hfx hR hψ hpre
          simp only [List.mem_cons, List.mem_nil_iff, or_false, forall_eq, forall_eq_or_imp] at hfx
          obtain ⟨f0, f1, f2, f3⟩ := hfx
          have HR := Lib.hid hR
          clear hR
        · refine ⟨fun hg K hK => ?_, trivial⟩
          clear hg
          clear hpre hψ
          go_simp
          exact hK _ _ γ HR.out (fun _ _ _ _ h => h) (fun _ _ _ h => h) rfl
        · refine ⟨fun hg K hK => ?_, trivial⟩
          clear hg
          have q0 : ev (.tmp 57) = _ := hpre 0 (by decide)
          have hI := HR.out.2 hψ.1
          have s1 := hI.rp.c.cell 1
          simp only [List.getElem?_toArray, List.getElem?_cons_zero, List.getElem?_cons_succ] at s1
          have zs := hI.rp.c.lt
          clear hI
          clear hpre hψ
          go_simp
          exact hK _ _ γ HR.out (fun _ _ _ _ h => h) (fun _ _ _ h => h) rfl
        · refine ⟨fun hg K hK => ?_, trivial⟩
          clear hg
          clear hpre hψ
          go_simp
          exact hK _ _ γ HR.out (fun _ _ _ _ h => h) (fun _ _ _ h => h) rfl
        · refine ⟨fun hg K hK => ?_, trivial⟩
          clear hg
          clear hpre hψ
          go_simp
          exact hK _ _ γ HR.out (fun _ _ _ _ h => h) (fun _ _ _ h => h) rfl
        · refine ⟨fun hg K hK => ?_, trivial⟩
          clear hg
          clear hpre hψ
          go_simp
          exact hK _ _ γ HR.out (fun _ _ _ _ h => h) (fun _ _ _ h => h) rfl
        · refine ⟨fun hg K hK => ?_, trivial⟩
          clear hg
          have q0 : ev (.tmp 60) = _ := hpre 3 (by decide)
          have q1 : ev (.tmp 61) = _ := hpre 4 (by decide)
          have k0 : (0 : Int) ≤ (k : Int) := by omega
          have k1 : (k : Int) < (n2 : Int) := by have := HLT.out; have := HQ.out; omega
          clear hpre hψ
          go_simp
          exact hK _ _ γ HR.out (fun _ _ _ _ h => h) (fun _ _ _ h => h) rfl
        · refine ⟨fun hg K hK => ?_, trivial⟩
          clear hg
          have q0 : ev (.tmp 62) = _ := hpre 5 (by decide)
          have hI := HR.out.2 hψ.1
          have cb := (hI.rp.low.cell (p := ⟨eb, eo + k, none⟩) HY.out.2.2.1).trans HY.out.2.2.2
          have zb : eb < W.heap.size := Nat.lt_of_lt_of_le HY.out.2.2.1 hI.rp.low.size
          clear hI
          clear hpre hψ
          go_simp
          exact hK _ _ γ HR.out (fun _ _ _ _ h => h) (fun _ _ _ h => h) rfl
        · refine ⟨fun hg K hK => ?_, trivial⟩
          clear hg
          have q0 : ev (.tmp 63) = _ := hpre 6 (by decide)
          have w8 : IntKind.i64.wrap y = y := IntWalk.i64_in _ (by have := HY.out.2.1; omega)
          clear hpre hψ
          go_simp
          exact hK _ _ γ HR.out (fun _ _ _ _ h => h) (fun _ _ _ h => h) rfl
        · refine ⟨fun hg K hK => ?_, trivial⟩
          clear hg
          have q0 : ev (.tmp 58) = _ := hpre 1 (by decide)
          have q1 : ev (.tmp 59) = _ := hpre 2 (by decide)
          have k0 : (0 : Int) ≤ (t : Int) := by omega
          have k1 : (t : Int) < (n : Int) := by have := HT.out; omega
          clear hpre hψ
          go_simp
          exact hK _ _ γ HR.out (fun _ _ _ _ h => h) (fun _ _ _ h => h) rfl
        · refine ⟨fun hg K hK => ?_, trivial⟩
          clear hg
          have q0 : ev (.tmp 64) = _ := hpre 7 (by decide)
          have q1 : ev (.tmp 65) = _ := hpre 8 (by decide)
          have hI := HR.out.2 hψ.1
          have hg2 := HR.out.1
          have zl := hI.rp.v.lt
          have fl9 := hI.rp.v.frozen
          have hvl : t < V.length := by have h1 := HS.out.2.1; have h2 := HT.out; omega
          have e0 := hI.rp.v.intAt9 hvl
          have HX := Lib.hid (And.intro (hI.setV t y) hg2)
          clear hpre hψ hI hg2 HR
          go_simp
          exact hK undef _ (fun i => if i = 0 then 1 else γ i) ⟨HX.out.2, fun e => by simp at e⟩ (fun j u h1 h2 h3 => mdPhi_n h2 h3) (fun h => absurd rfl h) ⟨rfl, 0, trivial, HX.out.1⟩
      · intro vs wd γ hvl hR hφ
        have q9 := hφ 9 (by decide)
        have HR := Lib.hid hR
        clear hφ hR
        match vs, hvl with
        | [y0, y1, y2, y3, y4, y5, y6, y7, y8, y9], _ =>
        simp only [List.getD_cons_zero, List.getD_cons_succ] at q9
        replace q9 : γ 0 = 1 ∧ ∃ r : Int, True ∧ (fun _ W => NmS w cx nb vb sx n c.nodes (V.set t y) SA sn sc LS W) r wd := q9
        obtain ⟨-, _, -, hS9⟩ := q9
        clear HR
        have HS9 : Hid (NmS w cx nb vb sx n c.nodes (V.set t y) SA sn sc LS wd) := Lib.hid hS9
        have HVL : Hid ((V.set t y).length = n ∧ ∀ x ∈ V.set t y, 0 ≤ x ∧ x ≤ 1000000000) := Lib.hid ⟨by rw [List.length_set]; exact HS.out.2.1, set_bd HS.out.2.2.1 (by have := HY.out.2.1; omega)⟩
        have wk : IntKind.i64.wrap ((k : Int) + 1) = (k : Int) + 1 := IntWalk.i64_in _ (by have := HLT.out; have := HQ.out; omega)
        have HLN : Hid (sn ≤ 4) := Lib.hid (by have h1 := HS.out.1.ln; have h2 := HS.out.2.2.2.2.2.2; have h3 := HLT.out; have h4 := HQ.out; omega)
        clear hS9
        have b0 := HS9.out.sb.cell 0
        simp only [List.getElem?_toArray, List.getElem?_cons_zero, List.getElem?_cons_succ] at b0
        have zb := HS9.out.sb.lt
        have KCN := contains_any SA sn sc (LS.map fun x => ((x : Nat) : Int)) (t : Int) wd (rd_ints (row_rd (fun _ => rfl) HS9.out.ln.symm HS9.out.row)) (by have := HLN.out; omega)
        simp [putAll]
        by_cases htm : t ∈ LS
        · have hd : decide (((t : Nat) : Int) ∈ LS.map (fun x => ((x : Nat) : Int))) = true := decide_eq_true (mem_ints.2 htm)
          rw [hd] at KCN
          have HTM := Lib.hid htm
          clear hd htm
          go_wp2_with fail
          refine KCN.mono ?_
          rintro e wq ⟨rfl, hB⟩
          have HF : Hid (NmS w cx nb vb sx n c.nodes (V.set t y) SA sn sc LS wq ∧ (V.set t y).length = n ∧ (∀ x ∈ V.set t y, 0 ≤ x ∧ x ≤ 1000000000) ∧ LS.Nodup ∧ (∀ x ∈ LS, x < n) ∧ (∀ i, i ∉ LS → (V.set t y).getD i 0 = c.vals.getD i 0) ∧ LS.length ≤ k + 1) := Lib.hid ⟨HS9.out.next hB, HVL.out.1, HVL.out.2, HS.out.2.2.2.1, HS.out.2.2.2.2.1, fun i hn => by
            rw [put_getD (by rw [HS.out.2.1]; exact HT.out), if_neg (fun e => hn (by rw [e]; exact HTM.out))]
            exact HS.out.2.2.2.2.2.1 i hn, by have := HS.out.2.2.2.2.2.2; omega⟩
          clear hB KCN b0 zb
          go_wp2
          go_roundw
          case rel => exact ⟨k + 1, _, _, _, _, _, by have := HLT.out; omega, by go_num, HF⟩
          case measure => have := HLT.out; simp [intOf]; omega
        · have hd : decide (((t : Nat) : Int) ∈ LS.map (fun x => ((x : Nat) : Int))) = false := decide_eq_false (fun h => htm (mem_ints.1 h))
          rw [hd] at KCN
          have HTM := Lib.hid htm
          clear hd htm
          go_wp2_with fail
          refine KCN.mono ?_
          rintro e wq ⟨rfl, hB⟩
          have HSQ := Lib.hid (HS9.out.next hB)
          clear hB KCN b0 zb
          have b0 := HSQ.out.sb.cell 0
          simp only [List.getElem?_toArray, List.getElem?_cons_zero, List.getElem?_cons_succ] at b0
          have zb := HSQ.out.sb.lt
          have g1 : wq.heap.size < wq.heap.size + 1 := by omega
          go_wp2_with (at_builtin; refine wpList_append_own_at _ rfl (.tmp 70) (.tmp 72) 22 rfl w.heap.size 3 i0 (.int .i64 0) 1 8 Try.underlying22 hi.out.1 hi.out.2.1 hi.out.2.2.1 hi.out.2.2.2 rfl (by decide) (.slice SA sn sc) sn (LS.flatMap encN) rfl (HSQ.out.row.alloc _) ⟨wq.heap.size, 0, none⟩ 1 1 [.int .i64 (t : Int)] rfl rfl ?_ ?_ ?_ ?_ ?_ ?_)
          case _ =>
            intro j z hz
            match j, hz with
            | 0, hz =>
              simp only [List.getElem?_cons_zero, Option.some.injEq] at hz
              subst hz
              simp [Addr.add, go_sem]
          case _ => (intro z hz; simp only [List.mem_cons, List.mem_nil_iff, or_false] at hz; subst hz; rfl)
          case _ => simp only [maxLen]; have := HLN.out; omega
          case _ => have := HLN.out; omega
          case _ => have := HSQ.out.rp.low.size; simp only [World.size_alloc]; omega
          intro v' wy hown hg8 _ hob
          obtain ⟨SA', sc', rfl⟩ := row_slice hown
          have hX : Below wq.heap.size wq (wq.alloc (.cells #[.int .i64 (t : Int)] 3)) := (Below.refl _ _).alloc (Nat.le_refl _) _
          have HSX := Lib.hid (HSQ.out.next hX)
          have HSY : Hid (RpS w cx nb vb n c.nodes (V.set t y) wy ∧ Blk wy sx 22 #[.slice SA sn sc] ∧ wy.ownsRow w.heap.size 3 1 (.slice SA' (sn + 1) sc') (sn + 1) ((LS ++ [t]).flatMap encN) ∧ ∀ b, (Value.slice SA' (sn + 1) sc').ownBlock = some b → b ≠ vb) := Lib.hid (by
            have h := HSX.out
            refine ⟨h.rp.grown hg8 (fun r e => ?_), h.sb.kept hg8 (own_ne h.row h.sb (by decide)), by rw [snoc_N]; exact hown, fun b hb => ?_⟩
            · refine ⟨(World.ownsRow.lt h.row r e).1, fun e9 => ?_, fun e9 => ?_, h.ap r e⟩
              · subst e9; exact own_ne h.row h.rp.c (by decide) e.symm
              · subst e9; exact own_ne h.row h.rp.nd (by decide) e.symm
            · rcases hob with h1 | h1
              · exact h.ap b (by rw [← h1]; exact hb)
              · have h2 := h1.symm.trans hb
                have h3 := HSQ.out.rp.v.lt
                simp only [World.size_alloc, Option.some.injEq] at h2
                omega)
          clear hown hg8 hob hX b0 zb g1
          have b0 := HSY.out.2.1.cell 0
          simp only [List.getElem?_toArray, List.getElem?_cons_zero, List.getElem?_cons_succ] at b0
          have zb := HSY.out.2.1.lt
          have fb := HSY.out.2.1.frozen
          obtain ⟨W', hW'⟩ : ∃ z, z = wy.setCell ⟨sx, 0, none⟩ (.slice SA' (sn + 1) sc') := ⟨_, rfl⟩
          have HF : Hid (NmS w cx nb vb sx n c.nodes (V.set t y) SA' (sn + 1) sc' (LS ++ [t]) W' ∧ (V.set t y).length = n ∧ (∀ x ∈ V.set t y, 0 ≤ x ∧ x ≤ 1000000000) ∧ (LS ++ [t]).Nodup ∧ (∀ x ∈ LS ++ [t], x < n) ∧ (∀ i, i ∉ LS ++ [t] → (V.set t y).getD i 0 = c.vals.getD i 0) ∧ (LS ++ [t]).length ≤ k + 1) := Lib.hid (by
            obtain ⟨h1, h2, h3, h4⟩ := HSY.out
            refine ⟨?_, HVL.out.1, HVL.out.2, ?_, ?_, fun i hn => ?_, ?_⟩
            · rw [hW']
              refine ⟨⟨h1.low.setCell (p := ⟨sx, 0, none⟩) HSX.out.sz _, h1.c.far (blk_ne h1.c h2 (by decide)) _, h1.nd.far (blk_ne h1.nd h2 (by decide)) _, h1.v.far (blk_ne h1.v h2 (by decide)) _, h1.ge⟩, ?_, h3.kept (grown_set wy sx 0 _) (Or.inr (own_ne h3 h2 (by decide)).symm), h4, HSX.out.sz, by rw [List.length_append, HSX.out.ln]; rfl⟩
              have h := h2.set_ 0 (.slice SA' (sn + 1) sc')
              simpa using h
            · rw [List.nodup_append]
              exact ⟨HS.out.2.2.2.1, by simp, fun a ha b hb => by simp at hb; subst hb; intro e; subst e; exact HTM.out ha⟩
            · intro x hx
              rcases List.mem_append.1 hx with h | h
              · exact HS.out.2.2.2.2.1 x h
              · simp at h; rw [h]; exact HT.out
            · rw [put_getD (by rw [HS.out.2.1]; exact HT.out), if_neg (fun e => hn (by rw [e]; simp))]
              exact HS.out.2.2.2.2.2.1 i (fun h => hn (List.mem_append_left _ h))
            · have := HS.out.2.2.2.2.2.2; simp only [List.length_append, List.length_singleton]; omega)
          go_wp2
          rw [← hW']
          go_roundw
          case rel => exact ⟨k + 1, _, _, _, _, _, by have := HLT.out; omega, by go_num, HF⟩
          case measure => have := HLT.out; simp [intOf]; omega
    · obtain rfl : q = k := by omega
      clear hlt hk
      obtain ⟨w5, hw5⟩ : ∃ z, z = wr := ⟨wr, rfl⟩
      subst hw5
      have HSN : Hid (sn ≤ 4) := Lib.hid (by have h1 := HS.out.1.ln; have h2 := HS.out.2.2.2.2.2.2; have h4 := HQ.out; omega)
      have KS : Calls Try.prog 13 #[.slice SA sn sc] w5 fun e w' => ∃ (v : Value) (LT : List Nat), e = .returned v ∧ RpS w cx nb vb n c.nodes V w' ∧ Blk w' sx 22 #[.slice SA sn sc] ∧ Rd w' w'.heap.size 1 encN SA sn LT ∧ Vc n LT ∧ LT.length = sn ∧ ∀ x, x ∈ LT ↔ x ∈ LS := by
        have h := HS.out.1
        have hln := h.ln
        rcases h.row.2 with ⟨e, h0⟩ | ⟨g, cap, cur, e, hg1, hg, hcp, _, _, ht⟩
        · simp only [Value.slice.injEq] at e
          obtain ⟨rfl, rfl, rfl⟩ := e
          have hnil : LS = [] := List.eq_nil_of_length_eq_zero hln.symm
          refine (Sort_nil w5).mono ?_
          rintro e w' ⟨⟨v, rfl⟩, hB⟩
          exact ⟨v, [], rfl, h.rp.next hB, h.sb.below hB h.sb.lt, Rd.nil _ _ _ _, vc_nil9 n, rfl, fun x => by rw [hnil]⟩
        · have e9 := e
          simp only [Value.slice.injEq] at e9
          obtain ⟨rfl, _, rfl⟩ := e9
          have hne : g ≠ vb := h.ap g rfl
          have hrow : RowW w5 g 3 encI (some ⟨g, 0, none⟩) (LS.map fun x => ((x : Nat) : Int)) := Or.inr ⟨rfl, cur, hg, fun j u hu => by
            rw [← encN_int, ← ht, List.getElem?_take] at hu
            split at hu
            · simpa using hu
            · cases hu⟩
          refine (Sort_any g sn sc (LS.map fun x => ((x : Nat) : Int)) w5 (by rw [List.length_map]; exact hln.symm) HSN.out hrow).mono ?_
          rintro e w' ⟨v, l, rfl, h1, h2⟩
          obtain ⟨LT, rfl, hv, hl, hm⟩ := sorted_set h1 HS.out.2.2.2.1 HS.out.2.2.2.2.1
          refine ⟨v, LT, rfl, h.rp.grown (keep_grown h2.k) (fun r e => ?_), h2.k.blk h.sb (fun e => ?_), rd_nats (h2.r.rd (fun _ => rfl) (by rw [List.length_map]; exact hl)), hv, hl, hm⟩
          · obtain rfl : g = r := Option.some.inj e
            exact ⟨hg1, blk_ne hg h.rp.c (by decide), blk_ne hg h.rp.nd (by decide), hne⟩
          · exact blk_ne h.sb hg (by decide) e
      have b0 := HS.out.1.sb.cell 0
      simp only [List.getElem?_toArray, List.getElem?_cons_zero, List.getElem?_cons_succ] at b0
      have zb := HS.out.1.sb.lt
      go_wp2_with fail
      refine KS.mono ?_
      rintro e w6 ⟨v6, LT, rfl, hp1, hp2, hp3, hp4, hp5, hp6⟩
      have HPS := Lib.hid (And.intro hp1 (And.intro hp2 (And.intro hp3 (And.intro hp4 (And.intro hp5 hp6)))))
      clear KS b0 zb hp1 hp2 hp3 hp4 hp5 hp6
      have HCV : Hid (KsOk (c.put V) ∧ canB (c.put V) LT = true) := Lib.hid (by
        have hok := put_ok HM.out.ok (l := V) (by rw [HM.out.cn]; exact HS.out.2.1) HS.out.2.2.1
        refine ⟨hok, Chg.can (c0 := c) ⟨rfl, fun i _ hn => ?_⟩ hok HM.out.bal⟩
        exact HS.out.2.2.2.2.2.1 i (fun h => hn ((HPS.out.2.2.2.2.2 i).2 h)))
      have HK6 : Hid (KsIn w6 w6.heap.size n (some ⟨nb, 0, none⟩) (some ⟨vb, 0, none⟩) (c.put V)) := Lib.hid (HPS.out.1.ks HN.out.2.2.1 HS.out.2.1)
      have hS := HPS.out.1.next (Below.refl _ _)
      have cc0 := hS.c.cell 0
      have cc1 := hS.c.cell 1
      simp only [List.getElem?_toArray, List.getElem?_cons_zero, List.getElem?_cons_succ] at cc0 cc1
      have zc := hS.c.lt
      have hb := HPS.out.2.1.below (Below.refl _ _) HPS.out.2.1.lt
      have b0 := hb.cell 0
      simp only [List.getElem?_toArray, List.getElem?_cons_zero, List.getElem?_cons_succ] at b0
      have zb := hb.lt
      clear hS hb
      have KB := Broken_any (some ⟨nb, 0, none⟩) (some ⟨vb, 0, none⟩) n n n (c.put V) w6 HCV.out.1 HK6.out
      go_wp2_with fail
      refine KB.mono ?_
      rintro e w7 ⟨A8, ca8, rfl, hB⟩
      have H7 := Lib.hid hB
      clear KB hB
      clear cc0 cc1 zc b0 zb
      have hS := HPS.out.1.next (H7.out)
      have cc0 := hS.c.cell 0
      have cc1 := hS.c.cell 1
      simp only [List.getElem?_toArray, List.getElem?_cons_zero, List.getElem?_cons_succ] at cc0 cc1
      have zc := hS.c.lt
      have hb := HPS.out.2.1.below (H7.out) HPS.out.2.1.lt
      have b0 := hb.cell 0
      simp only [List.getElem?_toArray, List.getElem?_cons_zero, List.getElem?_cons_succ] at b0
      have zb := hb.lt
      clear hS hb
      have KL := Least_any (c.put V) HCV.out.1 (some ⟨nb, 0, none⟩) (some ⟨vb, 0, none⟩) n n n w7 (HK6.out.next H7.out)
      go_wp2_with fail
      refine KL.mono ?_
      rintro e w8 ⟨hlv, hB⟩
      have H8 := Lib.hid (below3 H7.out hB (Nat.le_refl _))
      clear KL hB
      clear cc0 cc1 zc b0 zb
      obtain ⟨v, rfl, hlw⟩ : ∃ v, e = .returned (.tuple #[v, .int .i64 0]) ∧ LeastV w8 w7.heap.size (c.put V) v := by
        rcases hlv with h | ⟨_, h⟩
        · exact h
        · exfalso
          have h1 := h LT HPS.out.2.2.2.1
          rw [HCV.out.2] at h1
          cases h1
      obtain ⟨lg, lm, lca, lk, L, rfl, hlm, hlm2, hlI, hLI⟩ := least_all hlw
      have HLI := Lib.hid (And.intro hlI (And.intro hLI (And.intro hlm hlm2)))
      have hm0 : (0 : Int) < (lm : Int) := by omega
      have hm1 : ¬ ((lm : Int) < 1) := by omega
      have hm2 : ¬ (lm < 1) := by omega
      have hm3 : decide (lm < 1) = false := decide_eq_false hm2
      clear hlv hlw hlI hLI hlm hlm2
      have hS := HPS.out.1.next (H8.out)
      have cc0 := hS.c.cell 0
      have cc1 := hS.c.cell 1
      simp only [List.getElem?_toArray, List.getElem?_cons_zero, List.getElem?_cons_succ] at cc0 cc1
      have zc := hS.c.lt
      have hb := HPS.out.2.1.below (H8.out) HPS.out.2.1.lt
      have b0 := hb.cell 0
      simp only [List.getElem?_toArray, List.getElem?_cons_zero, List.getElem?_cons_succ] at b0
      have zb := hb.lt
      clear hS hb
      have KE := Explains_any (c.put V) HCV.out.1 (some ⟨nb, 0, none⟩) (some ⟨vb, 0, none⟩) SA n n n sn sc LT w8 (HK6.out.next H8.out) HPS.out.2.2.2.1 (HPS.out.2.2.1.next H8.out)
      rw [HCV.out.2] at KE
      go_wp2_with fail
      refine KE.mono ?_
      rintro e w9 ⟨rfl, hB⟩
      have H9 := Lib.hid (below3 H8.out hB (Nat.le_refl _))
      have HL9 := Lib.hid (HLI.out.1.next hB)
      clear KE hB
      clear cc0 cc1 zc b0 zb
      have HKS : Hid (lk ≤ sn) := Lib.hid (by have h1 := least_le HLI.out.2.1 (by rw [put_n, HM.out.cn]; exact HPS.out.2.2.2.1) HCV.out.2; have h2 := HPS.out.2.2.2.2.1; omega)
      go_wp2
      go_loopw [114] (fun iv wr => ∃ k : Nat, k ≤ lm ∧ iv = .int .i64 ((k : Nat) : Int) ∧ Hid (Below w9.heap.size w9 wr)) (fun iv _ => lm - (intOf iv).toNat)
      case atStart => exact ⟨0, Nat.zero_le _, rfl, Lib.hid (Below.refl _ _)⟩
      case round =>
        obtain ⟨k, hk, rfl, HX⟩ := hrel
        have HZ := Lib.hid (below3 H9.out HX.out (Nat.le_refl _))
        by_cases hlt : k < lm
        · have HLT : Hid (k < lm) := Lib.hid hlt
          have hk0 : (0 : Int) ≤ (k : Int) := by omega
          have hk1 : (k : Int) < (lm : Int) := by omega
          have wk : IntKind.i64.wrap ((k : Int) + 1) = (k : Int) + 1 := IntWalk.i64_in _ (by have := HLI.out.2.2.2; omega)
          obtain ⟨x, hx⟩ : ∃ x, L[k]? = some x := ⟨_, List.getElem?_eq_getElem (by rw [HL9.out.len]; exact hlt)⟩
          obtain ⟨x0, hx0⟩ : ∃ x, L[0]? = some x := ⟨_, List.getElem?_eq_getElem (by rw [HL9.out.len]; omega)⟩
          have hLW := HL9.out.next HX.out
          obtain ⟨cx9, rx⟩ := hLW.at_ k x hx
          obtain ⟨cx8, _⟩ := hLW.at_ 0 x0 hx0
          have zg := hLW.lt
          have hxL := HLI.out.2.1.ok x.2 (List.mem_map_of_mem (List.mem_of_getElem? hx))
          have HXL := Lib.hid hxL
          have HXX := Lib.hid (And.intro hx hx0)
          have KE := Explains_any (c.put V) HCV.out.1 (some ⟨nb, 0, none⟩) (some ⟨vb, 0, none⟩) x.1.1 n n n lk x.1.2 x.2 wr (HK6.out.next HZ.out) (by have := hxL.1; rw [put_n, HM.out.cn] at this; exact this) rx
          rw [hxL.2.2] at KE
          obtain ⟨xa, hxa⟩ : ∃ z, z = x.1.1 := ⟨_, rfl⟩
          obtain ⟨xc, hxc⟩ : ∃ z, z = x.1.2 := ⟨_, rfl⟩
          obtain ⟨ya, hya⟩ : ∃ z, z = x0.1.1 := ⟨_, rfl⟩
          obtain ⟨yc, hyc⟩ : ∃ z, z = x0.1.2 := ⟨_, rfl⟩
          rw [← hxa, ← hxc] at KE cx9
          rw [← hya, ← hyc] at cx8
          have HXA := Lib.hid (And.intro hxa hxc)
          clear hlt hk hx hx0 hLW rx hxL hxa hxc hya hyc
          have hS := HPS.out.1.next (HZ.out)
          have cc0 := hS.c.cell 0
          have cc1 := hS.c.cell 1
          simp only [List.getElem?_toArray, List.getElem?_cons_zero, List.getElem?_cons_succ] at cc0 cc1
          have zc := hS.c.lt
          have hb := HPS.out.2.1.below (HZ.out) HPS.out.2.1.lt
          have b0 := hb.cell 0
          simp only [List.getElem?_toArray, List.getElem?_cons_zero, List.getElem?_cons_succ] at b0
          have zb := hb.lt
          clear hS hb
          go_wp2_with fail
          refine KE.mono ?_
          rintro e wt ⟨rfl, hB⟩
          have HX2 := Lib.hid (below3 HX.out hB (Nat.le_refl _))
          have HZ2 := Lib.hid (below3 HZ.out hB (Nat.le_refl _))
          have cy9 := (hB.cell (p := ⟨lg, k, none⟩) zg).trans cx9
          have cy8 := (hB.cell (p := ⟨lg, 0, none⟩) zg).trans cx8
          have zg2 : lg < wt.heap.size := Nat.lt_of_lt_of_le zg hB.size
          clear KE hB cx9 cx8 zg
          clear cc0 cc1 zc b0 zb
          have hS := HPS.out.1.next (HZ2.out)
          have cc0 := hS.c.cell 0
          have cc1 := hS.c.cell 1
          simp only [List.getElem?_toArray, List.getElem?_cons_zero, List.getElem?_cons_succ] at cc0 cc1
          have zc := hS.c.lt
          have hb := HPS.out.2.1.below (HZ2.out) HPS.out.2.1.lt
          have b0 := hb.cell 0
          simp only [List.getElem?_toArray, List.getElem?_cons_zero, List.getElem?_cons_succ] at b0
          have zb := hb.lt
          clear hS hb
          have hd1 : ¬ ((sn : Int) < (lk : Int)) := by have := HKS.out; omega
          have hd2 : ¬ (sn < lk) := by have := HKS.out; omega
          have hd3 : decide (sn < lk) = false := decide_eq_false hd2
          by_cases hk9 : k = 0
          · have hz1 : ¬ ((0 : Int) < (k : Int)) := by omega
            have hz2 : ¬ (0 < k) := by omega
            have hz3 : decide (0 < k) = false := decide_eq_false hz2
            have hz4 : decide ((0 : Int) < (k : Int)) = false := decide_eq_false hz1
            clear hk9
            go_wp2
            go_roundw
            case rel => exact ⟨k + 1, by have := HLT.out; omega, by go_num, HX2⟩
            case measure => have := HLT.out; simp [intOf]; omega
          · have hz2 : 0 < k := by omega
            have hz1 : (0 : Int) < (k : Int) := by omega
            have hz3 : decide (0 < k) = true := decide_eq_true hz2
            have hz4 : decide ((0 : Int) < (k : Int)) = true := decide_eq_true hz1
            obtain ⟨k9, hk8⟩ : ∃ z, z = k - 1 := ⟨_, rfl⟩
            have hk7 : k9 + 1 = k := by omega
            have wv : IntKind.i64.wrap ((k : Int) - 1) = (k9 : Int) := by rw [IntWalk.i64_in _ (by have := HLT.out; have := HLI.out.2.2.2; omega)]; omega
            have hv0 : (0 : Int) ≤ (k9 : Int) := by omega
            have hv1 : (k9 : Int) < (lm : Int) := by omega
            obtain ⟨z, hz⟩ : ∃ z, L[k9]? = some z := ⟨_, List.getElem?_eq_getElem (by rw [HL9.out.len]; have := HLT.out; omega)⟩
            have hLT2 := (HL9.out.next HX2.out)
            obtain ⟨cz9, rz⟩ := hLT2.at_ k9 z hz
            obtain ⟨_, rx⟩ := hLT2.at_ k x HXX.out.1
            have hlex : LexLt z.2 x.2 := by
              have hs := HLI.out.2.1.sorted
              rw [List.pairwise_map, List.pairwise_iff_getElem] at hs
              have hi1 := (List.getElem?_eq_some_iff.1 hz)
              have hi2 := (List.getElem?_eq_some_iff.1 HXX.out.1)
              have := hs k9 k hi1.1 hi2.1 (by omega)
              rw [hi1.2, hi2.2] at this
              exact this
            have KC := Compare_lt z.1.1 x.1.1 lk z.1.2 x.1.2 z.2 x.2 wt rz rx hlex (by have := HKS.out; have := HSN.out; omega)
            rw [← HXA.out.1, ← HXA.out.2] at KC
            obtain ⟨za, hza⟩ : ∃ u, u = z.1.1 := ⟨_, rfl⟩
            obtain ⟨zc2, hzc2⟩ : ∃ u, u = z.1.2 := ⟨_, rfl⟩
            rw [← hza, ← hzc2] at KC cz9
            clear hk9 hz hLT2 rz rx hlex hza hzc2 hk7 hk8
            go_wp2_with fail
            refine KC.mono ?_
            rintro e wu ⟨rfl, hB⟩
            have HX3 := Lib.hid (below3 HX2.out hB (Nat.le_refl _))
            clear KC hB cz9 cy9 cy8 zg2
            go_wp2
            go_roundw
            case rel => exact ⟨k + 1, by have := HLT.out; omega, by go_num, HX3⟩
            case measure => have := HLT.out; simp [intOf]; omega
        · obtain rfl : lm = k := by omega
          clear hlt hk
          obtain ⟨x0, hx0⟩ : ∃ x, L[0]? = some x := ⟨_, List.getElem?_eq_getElem (by rw [HL9.out.len]; have := HLI.out.2.2.1; omega)⟩
          obtain ⟨cx8, _⟩ := (HL9.out.next HX.out).at_ 0 x0 hx0
          have zg := (HL9.out.next HX.out).lt
          obtain ⟨ya, hya⟩ : ∃ z, z = x0.1.1 := ⟨_, rfl⟩
          obtain ⟨yc, hyc⟩ : ∃ z, z = x0.1.2 := ⟨_, rfl⟩
          rw [← hya, ← hyc] at cx8
          have HLOW : Hid (Below w.heap.size w wr) := Lib.hid (below3 HPS.out.1.low HZ.out (Nat.le_refl _))
          clear hx0 hya hyc
          have hS := HPS.out.1.next (HZ.out)
          have cc0 := hS.c.cell 0
          have cc1 := hS.c.cell 1
          simp only [List.getElem?_toArray, List.getElem?_cons_zero, List.getElem?_cons_succ] at cc0 cc1
          have zc := hS.c.lt
          have hb := HPS.out.2.1.below (HZ.out) HPS.out.2.1.lt
          have b0 := hb.cell 0
          simp only [List.getElem?_toArray, List.getElem?_cons_zero, List.getElem?_cons_succ] at b0
          have zb := hb.lt
          clear hS hb
          clear cc0 cc1 zc
          by_cases hbk : brkL (c.put V) = []
          · have hcan : canB (c.put V) [] = true := (can_nil HCV.out.1).2 ((brk_nil HCV.out.1).1 hbk)
            have hLL := least_none_ HLI.out.2.1 hcan
            have hk0 : lk = 0 := by have := least_le HLI.out.2.1 (vc_nil9 _) hcan; simpa using this
            have hm9 : lm = 1 := by
              have h1 := congrArg List.length hLL
              rw [List.length_map, HL9.out.len] at h1
              simpa using h1
            have HBL : Hid ((brkL (c.put V)).length = 0) := Lib.hid (by rw [hbk]; rfl)
            have hb9 := HBL.out
            subst hk0 hm9
            clear hbk hcan hLL
            rw [hb9]
            go_wp2_with fail
            refine (awake_yes _).mono ?_
            rintro e w19 ⟨rfl, hB⟩
            have HF := Lib.hid (below3 HLOW.out hB (Nat.le_refl _))
            clear hB
            go_wp2
            go_ret
            exact ⟨rfl, HF.out⟩
          · have hcan : canB (c.put V) [] = false := by
              cases e : canB (c.put V) [] with
              | false => rfl
              | true => exact absurd ((brk_nil HCV.out.1).2 ((can_nil HCV.out.1).1 e)) hbk
            have HK1 : Hid (1 ≤ lk) := Lib.hid (least_pos HLI.out.2.1 hcan)
            obtain ⟨bl, hbl⟩ : ∃ z, z = (brkL (c.put V)).length := ⟨_, rfl⟩
            have hbl0 : ¬ (bl = 0) := by rw [hbl]; intro h; exact hbk (List.eq_nil_of_length_eq_zero h)
            have hbl1 : ¬ ((bl : Int) = 0) := by omega
            rw [← hbl]
            clear hbk hcan hbl
            by_cases hs1 : sn = 1
            · have hk1 : lk = 1 := by have h1 := HK1.out; have h2 := HKS.out; omega
              have hmem : ∃ (p : Nat) (x : SetE), L[p]? = some x ∧ x.2 = LT := by
                have h := HLI.out.2.1.all LT (by rw [put_n, HM.out.cn]; exact HPS.out.2.2.2.1) (by rw [HPS.out.2.2.2.2.1, hs1, hk1]) HCV.out.2
                obtain ⟨x, hx, e⟩ := List.mem_map.1 h
                obtain ⟨p, hp⟩ := List.getElem?_of_mem hx
                exact ⟨p, x, hp, e⟩
              obtain ⟨p, hp⟩ := hmem
              have KQ0 := fun (hs1 : sn = 1) (hk1 : lk = 1) => containsQ lg lm lca L SA sc sx p LT wr (by have := HL9.out.next HX.out; rw [hk1] at this; exact this) HLI.out.2.2.2 (by have := HPS.out.2.2.1.next HZ.out; rw [hs1] at this; exact this) (by rw [← hs1]; exact b0) zb hp
              have KQ := Lib.hid (KQ0 hs1 hk1)
              clear hp KQ0
              subst hs1 hk1
              go_wp2_with fail
              refine KQ.out.mono ?_
              rintro e w18 ⟨rfl, hB8⟩
              have H18 := Lib.hid (below3 HLOW.out hB8 (Nat.le_refl _))
              clear hB8 KQ
              go_wp2_with fail
              refine (awake_yes _).mono ?_
              rintro e w19 ⟨rfl, hB⟩
              have HF := Lib.hid (below3 H18.out hB (Nat.le_refl _))
              clear hB
              go_wp2
              go_ret
              exact ⟨rfl, HF.out⟩
            · have hs2 : ¬ ((sn : Int) = 1) := by omega
              have hk1 : (1 : Int) ≤ (lk : Int) := by have := HK1.out; omega
              have hk2 : 1 ≤ lk := HK1.out
              have hk3 : decide (1 ≤ lk) = true := decide_eq_true hk2
              go_wp2_with fail
              refine (awake_yes _).mono ?_
              rintro e w19 ⟨rfl, hB⟩
              have HF := Lib.hid (below3 HLOW.out hB (Nat.le_refl _))
              clear hB
              go_wp2
              go_ret
              exact ⟨rfl, HF.out⟩
end Go.Proofs.Ytcecbohaajocfaa
