/- law11: MeterRepairs. -/
import Derived.Test.YtcecbohaajocfaaMtDg
import Derived.Test.YtcecbohaajocfaaMtJ

set_option linter.unusedSimpArgs false
set_option linter.unusedVariables false
namespace Go.Proofs.Ytcecbohaajocfaa
open Go.RowKit

/-- The first of the least sets. -/
theorem least_first {W : World} {z : Nat} {c : Ks} {v : Value} (h : LeastV W z c v) : ∃ (g m ca k : Nat) (xA : Option Addr) (xc : Nat) (LL : List (List Nat)), v = .slice (some ⟨g, 0, none⟩) m ca ∧ 1 ≤ m ∧ g < W.heap.size ∧ W.cell? ⟨g, 0, none⟩ = some (.slice xA k xc) ∧ LeastIs c LL k := by
  obtain ⟨A, ca, k, L, rfl, hL, hr, _⟩ := h
  match L, hL, hr with
  | [], hL, _ => exact absurd rfl hL.some_
  | x :: L', hL, hr =>
    rcases hr.2 with ⟨_, h0⟩ | ⟨g, cap, cur, e, _, hg, _, _, _, ht⟩
    · simp at h0
    · cases e
      refine ⟨g, _, ca, k, x.1.1, x.1.2, _, rfl, by simp, (Array.getElem?_eq_some_iff.1 hg).1, ?_, hL⟩
      rw [Blk.cell hg 0]
      have h1 : (cur.toList.take ((x :: L').length * 1))[0]? = some (.slice x.1.1 k x.1.2) := by rw [ht]; rfl
      rw [List.getElem?_take] at h1
      split at h1
      · simpa using h1
      · cases h1
theorem rd_kept {α : Type} {f : α → List Value} {size n : Nat} {W : World} {n₀ : Nat} {T : TypeId} {A : Option Addr} {c : Nat} {xs : List α} (hf : ∀ x, (f x).length = size) (hl : xs.length = n) (h : W.ownsRow n₀ T size (.slice A n c) n (xs.flatMap f)) {W' : World} (hb : Below W.heap.size W W') : Rd W' W'.heap.size size f A n xs := (row_rd hf hl h).next hb
/-- A repaired case. -/
structure RepS (c : Ks) (set : List Nat) (R : List Int) : Prop where
  len : R.length = c.n
  rep : Rep c (narS c (iniS c set)) (fun i => R.getD i 0)
  sol : Sol c (fun i => R.getD i 0)
  fits : Fits c set (fun i => R.getD i 0)
  bd : ∀ x ∈ R, 0 ≤ x ∧ x ≤ 1000000000
theorem rep_s {c : Ks} (ok : KsOk c) {set : List Nat} (hc : canB c set = true) {R : List Int} (h : RepK c (narS c (iniS c set)) c.n R) : RepS c set R := by
  obtain ⟨h1, h2⟩ := can_sol ok hc h.rep
  refine ⟨h.len, h.rep, h1, h2, fun x hx => ?_⟩
  obtain ⟨i, hi, e⟩ := List.getElem_of_mem hx
  have := h.bd i
  rw [List.getD_eq_getElem?_getD, List.getElem?_eq_getElem hi, e] at this
  exact this
theorem rep_brk {c : Ks} (ok : KsOk c) {set : List Nat} {R : List Int} (h : RepS c set R) : KsOk (c.put R) ∧ brkL (c.put R) = [] := by
  have okR := put_ok ok h.len h.bd
  exact ⟨okR, (brk_nil okR).2 (sol_put.2 h.sol)⟩
set_option maxRecDepth 100000 in
set_option maxHeartbeats 8000000 in
theorem repairs_dev (A0 A1 A2 : Option Addr) (n0 c0 n1 c1 n2 c2 : Nat) (l0 l1 l2 : List Int) (x3 x4 : Int) (w : World) (r0 : Rd w w.heap.size 1 encU A0 n0 l0) (u0 : U8s l0) (r1 : Rd w w.heap.size 1 encU A1 n1 l1) (u1 : U8s l1) (r2 : Rd w w.heap.size 1 encW A2 n2 l2) (u2 : U16s l2) (b3 : 0 ≤ x3 ∧ x3 ≤ 65535) (b4 : 0 ≤ x4 ∧ x4 ≤ 255) (z1 : n1 ≤ c1 ∧ n1 ≤ 9223372036854775807) (y2 : n2 ≤ 9223372036854775807) :
    Calls Try.prog 5 #[.slice A0 n0 c0, .slice A1 n1 c1, .slice A2 n2 c2, .int .u16 x3, .int .u8 x4] w fun e w' => e = .returned (.bool true) ∧ Below w.heap.size w w' := by
  have H1 := Lib.hid (And.intro r1 u1)
  have H2 := Lib.hid (And.intro r2 u2)
  have HB := Lib.hid (And.intro b3 b4)
  have KM := Made_any A0 n0 c0 l0 w r0 u0
  obtain ⟨q0, hq0⟩ : ∃ z : Nat, z = min n1 n2 := ⟨_, rfl⟩
  obtain ⟨q, hq⟩ : ∃ z : Nat, z = min q0 4 := ⟨_, rfl⟩
  have HQ : Hid (q ≤ n1 ∧ q ≤ n2 ∧ q ≤ 4 ∧ q ≤ c1) := Lib.hid (by omega)
  have wq0 : min (n1 : Int) (n2 : Int) = (q0 : Int) := by omega
  have wq1 : min (q0 : Int) 4 = (q : Int) := by omega
  have wq2 : (q : Int) ≤ (c1 : Int) := by omega
  have wq3 : (0 : Int) ≤ (q : Int) := by omega
  have wq4 : q ≤ c1 := by omega
  obtain ⟨i0, hi0, hi1, hi2, hi3⟩ := info_parts intInfo
  have hi := Lib.hid (And.intro hi0 (And.intro hi1 (And.intro hi2 hi3)))
  clear r0 u0 r1 u1 r2 u2 b3 b4 z1 y2 hq0 hq hi0 hi1 hi2 hi3
  go_enter Try.func5, Try.ntmps5
  go_wp2_with fail
  refine KM.mono ?_
  rintro e w1 ⟨nb, vb, n, c, rfl, hM⟩
  clear KM
  have g1 : w1.heap.size < w1.heap.size + 1 := by omega
  have HM := Lib.hid hM
  clear hM
  obtain ⟨cx, hcx⟩ : ∃ z, z = w1.heap.size := ⟨_, rfl⟩
  obtain ⟨w2, hw2⟩ : ∃ z, z = w1.alloc (.cells #[.slice (some ⟨nb, 0, none⟩) n n, .slice (some ⟨vb, 0, none⟩) n n] 35) := ⟨_, rfl⟩
  have HN : Hid (1 ≤ n ∧ n ≤ 9 ∧ c.nodes.length = n ∧ c.vals.length = n) := Lib.hid ⟨by rw [← HM.out.cn]; exact HM.out.ok.n1, HM.out.le, HM.out.cn, by rw [HM.out.ok.len]; exact HM.out.cn⟩
  have HS0 : Hid (RpS w cx nb vb n c.nodes c.vals w2 ∧ c.vals.length = n ∧ ∀ x ∈ c.vals, 0 ≤ x ∧ x ≤ 1000000000) := Lib.hid (by
    have h := HM.out
    have hB : Below w1.heap.size w1 w2 := by rw [hw2]; exact (Below.refl _ _).alloc (Nat.le_refl _) _
    refine ⟨⟨below3 h.low hB (Nat.le_refl _), by rw [hw2, hcx]; exact heap_alloc_new w1 _, h.nd.below hB h.nd.lt, h.vl.below hB h.vl.lt, ⟨by rw [hcx]; exact h.low.size, h.ge⟩⟩, HN.out.2.2.2, fun x hx => ok_bd h.ok hx⟩)
  have hm3 := fun w ts t x y z => run_min3 (P := Try.prog) w ts t .i64 .i64 .i64 x y z
  go_wp2
  rw [← hw2, ← hcx]
  clear hw2 hcx g1 hm3
  go_loopw [45] (fun iv wr => ∃ (k : Nat) (V : List Int), k ≤ q ∧ iv = .int .i64 ((k : Nat) : Int) ∧ Hid (RpS w cx nb vb n c.nodes V wr ∧ V.length = n ∧ ∀ x ∈ V, 0 ≤ x ∧ x ≤ 1000000000)) (fun iv _ => q - (intOf iv).toNat)
  case atStart => exact ⟨0, _, Nat.zero_le _, rfl, HS0⟩
  case round =>
    obtain ⟨k, V, hk, rfl, HS⟩ := hrel
    by_cases hlt : k < q
    · have HLT : Hid (k < q) := Lib.hid hlt
      have hk0 : (0 : Int) ≤ (k : Int) := by omega
      have hkn : (k : Int) < (q : Int) := by omega
      obtain ⟨ab, ao, x, eA, hab, hax, hac⟩ := H1.out.1.at_ (show k < n1 by have := HQ.out; omega)
      have ca := (HS.out.1.low.cell (p := ⟨ab, ao + k, none⟩) hab).trans (cellU hac)
      have za : ab < wr.heap.size := Nat.lt_of_lt_of_le hab HS.out.1.low.size
      have hxb := H1.out.2 x (List.mem_of_getElem? hax)
      obtain ⟨eb, eo, y, eB, heb, hby, hbc⟩ := H2.out.1.at_ (show k < n2 by have := HQ.out; omega)
      have hyb := H2.out.2 y (List.mem_of_getElem? hby)
      have HY := Lib.hid (And.intro hxb (And.intro hyb (And.intro heb (cellW hbc))))
      obtain ⟨t, ht, htn⟩ := tmod_ix (n := n) hxb.1 HN.out.1
      have HT := Lib.hid (And.intro ht htn)
      clear hax hac hab hxb hby hbc heb hyb hlt hk ht htn
      subst eB
      have HEA := Lib.hid eA
      rw [eA]
      have w8 : IntKind.i64.wrap x = x := IntWalk.i64_in _ (by have := HY.out.1; omega)
      go_wp2
      clear ca za eA w8 hk0 hkn
      refine wp_region_free10 14 (by kernel_rfl) [some 50, some 51, some 52, some 53, some 54, some 55, some 56, some 57, some 58, some 59, some 60, some 61, some 62, some 63, none] [[], [0], [], [2], [], [4], [5], [3, 6], [], [], [8, 9], [10], [11], [1, 7, 0, 1, 2, 3, 4, 5, 6, 7, 8, 9, 10, 11, 12], [13, 12, 0, 1, 2, 3, 4, 5, 6, 7, 8, 9, 10, 11, 12]] [(11, .pointer (some ⟨cx, 0, none⟩)), (13, .int .u8 x), (12, .int .i64 (k : Int)), (2, .slice (some ⟨eb, eo, none⟩) n2 c2)] (mdR (fun _ W => RpS w cx nb vb n c.nodes V W) 0) (mdPhi (fun _ => True) (fun _ W => RpS w cx nb vb n c.nodes (V.set t y) W) 14 [.eq (.pointer (some ⟨cx, 1, none⟩)), .eq (.slice (some ⟨vb, 0, none⟩) n n), .eq (.int .u8 x), .eq (.int .i64 x), .eq (.pointer (some ⟨cx, 0, none⟩)), .eq (.slice (some ⟨nb, 0, none⟩) n n), .eq (.int .i64 (n : Int)), .eq (.int .i64 (t : Int)), .eq (.slice (some ⟨eb, eo, none⟩) n2 c2), .eq (.int .i64 (k : Int)), .eq (.pointer (some ⟨eb, eo + k, none⟩)), .eq (.int .u16 y), .eq (.int .i64 y), .eq (.pointer (some ⟨vb, t, none⟩))]) (mdPsi 99) (by kernel_rfl) (by kernel_rfl) rfl (by kernel_rfl) ?_ ?_ ⟨fun _ => 0, ⟨Nat.zero_le _, fun _ => by simpa using HS.out.1.next (Below.refl _ _).drew⟩, fun _ _ => ⟨rfl, fun _ => rfl⟩⟩ ?_ ?_
      · intro z hz
        simp only [List.mem_cons, List.mem_nil_iff, or_false] at hz
        rcases hz with rfl | rfl | rfl | rfl
        all_goals exact ⟨by kernel_rfl, rfl⟩
      · intro i v W γ hi h
        rcases i with _ | _ | _ | _ | _ | _ | _ | _ | _ | _ | _ | _ | _ | _ | _ | i
        all_goals first | exact h | (simp at hi)
      · refine ⟨?_, ?_, ?_, ?_, ?_, ?_, ?_, ?_, ?_, ?_, ?_, ?_, ?_, ?_, ?_, trivial⟩
        all_goals
          intro a9 W γ ev hcc hff hfx hR hψ hpre
          simp only [List.mem_cons, List.mem_nil_iff, or_false, forall_eq, forall_eq_or_imp] at hfx
          obtain ⟨f0, f1, f2, f3⟩ := hfx
          have HR := Lib.hid hR
          clear hR
        · refine ⟨fun hg K hK => ?_, trivial⟩
          clear hg
          clear hpre hψ
          go_simp
          exact hK _ _ γ HR.out (fun _ _ _ _ h => h) (fun _ _ _ h => h) rfl
        · refine ⟨fun hg K hK => ?_, trivial⟩
          clear hg
          have q0 : ev (.tmp 50) = _ := hpre 0 (by decide)
          have hI := HR.out.2 hψ.1
          have s0 := hI.c.cell 0
          have s1 := hI.c.cell 1
          simp only [List.getElem?_toArray, List.getElem?_cons_zero, List.getElem?_cons_succ] at s0 s1
          have zs := hI.c.lt
          clear hI
          clear hpre hψ
          go_simp
          exact hK _ _ γ HR.out (fun _ _ _ _ h => h) (fun _ _ _ h => h) rfl
        · refine ⟨fun hg K hK => ?_, trivial⟩
          clear hg
          clear hpre hψ
          go_simp
          exact hK _ _ γ HR.out (fun _ _ _ _ h => h) (fun _ _ _ h => h) rfl
        · refine ⟨fun hg K hK => ?_, trivial⟩
          clear hg
          have q0 : ev (.tmp 52) = _ := hpre 2 (by decide)
          have w8 : IntKind.i64.wrap x = x := IntWalk.i64_in _ (by have := HY.out.1; omega)
          clear hpre hψ
          go_simp
          exact hK _ _ γ HR.out (fun _ _ _ _ h => h) (fun _ _ _ h => h) rfl
        · refine ⟨fun hg K hK => ?_, trivial⟩
          clear hg
          clear hpre hψ
          go_simp
          exact hK _ _ γ HR.out (fun _ _ _ _ h => h) (fun _ _ _ h => h) rfl
        · refine ⟨fun hg K hK => ?_, trivial⟩
          clear hg
          have q0 : ev (.tmp 54) = _ := hpre 4 (by decide)
          have hI := HR.out.2 hψ.1
          have s0 := hI.c.cell 0
          have s1 := hI.c.cell 1
          simp only [List.getElem?_toArray, List.getElem?_cons_zero, List.getElem?_cons_succ] at s0 s1
          have zs := hI.c.lt
          clear hI
          clear hpre hψ
          go_simp
          exact hK _ _ γ HR.out (fun _ _ _ _ h => h) (fun _ _ _ h => h) rfl
        · refine ⟨fun hg K hK => ?_, trivial⟩
          clear hg
          have q0 : ev (.tmp 55) = _ := hpre 5 (by decide)
          clear hpre hψ
          go_simp
          exact hK _ _ γ HR.out (fun _ _ _ _ h => h) (fun _ _ _ h => h) rfl
        · refine ⟨fun hg K hK => ?_, trivial⟩
          clear hg
          have q0 : ev (.tmp 53) = _ := hpre 3 (by decide)
          have q1 : ev (.tmp 56) = _ := hpre 6 (by decide)
          have ht := HT.out.1
          have hn9 : ¬ ((n : Int) = 0) := by have := HN.out.1; omega
          have hn8 : ¬ (n = 0) := by have := HN.out.1; omega
          clear hpre hψ
          go_simp
          exact hK _ _ γ HR.out (fun _ _ _ _ h => h) (fun _ _ _ h => h) rfl
        · refine ⟨fun hg K hK => ?_, trivial⟩
          clear hg
          clear hpre hψ
          go_simp
          exact hK _ _ γ HR.out (fun _ _ _ _ h => h) (fun _ _ _ h => h) rfl
        · refine ⟨fun hg K hK => ?_, trivial⟩
          clear hg
          clear hpre hψ
          go_simp
          exact hK _ _ γ HR.out (fun _ _ _ _ h => h) (fun _ _ _ h => h) rfl
        · refine ⟨fun hg K hK => ?_, trivial⟩
          clear hg
          have q0 : ev (.tmp 58) = _ := hpre 8 (by decide)
          have q1 : ev (.tmp 59) = _ := hpre 9 (by decide)
          have k0 : (0 : Int) ≤ (k : Int) := by omega
          have k1 : (k : Int) < (n2 : Int) := by have := HLT.out; have := HQ.out; omega
          clear hpre hψ
          go_simp
          exact hK _ _ γ HR.out (fun _ _ _ _ h => h) (fun _ _ _ h => h) rfl
        · refine ⟨fun hg K hK => ?_, trivial⟩
          clear hg
          have q0 : ev (.tmp 60) = _ := hpre 10 (by decide)
          have hI := HR.out.2 hψ.1
          have cb := (hI.low.cell (p := ⟨eb, eo + k, none⟩) HY.out.2.2.1).trans HY.out.2.2.2
          have zb : eb < W.heap.size := Nat.lt_of_lt_of_le HY.out.2.2.1 hI.low.size
          clear hI
          clear hpre hψ
          go_simp
          exact hK _ _ γ HR.out (fun _ _ _ _ h => h) (fun _ _ _ h => h) rfl
        · refine ⟨fun hg K hK => ?_, trivial⟩
          clear hg
          have q0 : ev (.tmp 61) = _ := hpre 11 (by decide)
          have w8 : IntKind.i64.wrap y = y := IntWalk.i64_in _ (by have := HY.out.2.1; omega)
          clear hpre hψ
          go_simp
          exact hK _ _ γ HR.out (fun _ _ _ _ h => h) (fun _ _ _ h => h) rfl
        · refine ⟨fun hg K hK => ?_, trivial⟩
          clear hg
          have q0 : ev (.tmp 51) = _ := hpre 1 (by decide)
          have q1 : ev (.tmp 57) = _ := hpre 7 (by decide)
          have k0 : (0 : Int) ≤ (t : Int) := by omega
          have k1 : (t : Int) < (n : Int) := by have := HT.out.2; omega
          clear hpre hψ
          go_simp
          exact hK _ _ γ HR.out (fun _ _ _ _ h => h) (fun _ _ _ h => h) rfl
        · refine ⟨fun hg K hK => ?_, trivial⟩
          clear hg
          have q0 : ev (.tmp 62) = _ := hpre 12 (by decide)
          have q1 : ev (.tmp 63) = _ := hpre 13 (by decide)
          have hI := HR.out.2 hψ.1
          have hg2 := HR.out.1
          have zl := hI.v.lt
          have fl9 := hI.v.frozen
          have hvl : t < V.length := by have h1 := HS.out.2.1; have h2 := HT.out.2; omega
          have e0 := hI.v.intAt9 hvl
          have HX := Lib.hid (And.intro (hI.setV t y) hg2)
          clear hpre hψ hI hg2 HR
          go_simp
          exact hK undef _ (fun i => if i = 0 then 1 else γ i) ⟨HX.out.2, fun e => by simp at e⟩ (fun j u h1 h2 h3 => mdPhi_n h2 h3) (fun h => absurd rfl h) ⟨rfl, 0, trivial, HX.out.1⟩
      · intro vs wd γ hvl hR hφ
        have q9 := hφ 14 (by decide)
        have HR := Lib.hid hR
        clear hφ hR
        match vs, hvl with
        | [y0, y1, y2, y3, y4, y5, y6, y7, y8, y9, y10, y11, y12, y13, y14], _ =>
        simp only [List.getD_cons_zero, List.getD_cons_succ] at q9
        replace q9 : γ 0 = 1 ∧ ∃ r : Int, True ∧ (fun _ W => RpS w cx nb vb n c.nodes (V.set t y) W) r wd := q9
        obtain ⟨-, _, -, hS9⟩ := q9
        clear HR
        replace hS9 : RpS w cx nb vb n c.nodes (V.set t y) wd := hS9
        have HF : Hid (RpS w cx nb vb n c.nodes (V.set t y) wd ∧ (V.set t y).length = n ∧ ∀ x ∈ V.set t y, 0 ≤ x ∧ x ≤ 1000000000) := Lib.hid ⟨hS9, by rw [List.length_set]; exact HS.out.2.1, set_bd HS.out.2.2 (by have := HY.out.2.1; omega)⟩
        have wk : IntKind.i64.wrap ((k : Int) + 1) = (k : Int) + 1 := IntWalk.i64_in _ (by have := HLT.out; have := HQ.out; omega)
        clear hS9
        simp [putAll]
        go_wp2
        go_roundw
        case rel => exact ⟨k + 1, _, by have := HLT.out; omega, by go_num, HF⟩
        case measure => have := HLT.out; simp [intOf]; omega
    · obtain rfl : q = k := by omega
      clear hlt hk
      obtain ⟨w3, hw3⟩ : ∃ z, z = wr := ⟨wr, rfl⟩
      subst hw3
      have HCV : Hid (KsOk (c.put V) ∧ Sol (c.put V) c.v) := Lib.hid ⟨put_ok HM.out.ok (by rw [HM.out.cn]; exact HS.out.2.1) HS.out.2.2, sol_put.2 HM.out.bal⟩
      have cc0 := HS.out.1.c.cell 0
      simp only [List.getElem?_toArray, List.getElem?_cons_zero, List.getElem?_cons_succ] at cc0
      have zc := HS.out.1.c.lt
      have hn0 : (0 : Int) ≤ (n : Int) := by omega
      go_wp2
      clear cc0 zc
      have HI0 : Hid (SetI w3 0 none 0 0 none 0 0 [] [] w3) := Lib.hid ⟨Below.refl _ _, World.ownsRow_nil _ _ _ _, World.ownsRow_nil _ _ _ _, apart_nil _, ⟨List.Pairwise.nil, fun x h => by simp at h⟩, ⟨List.Pairwise.nil, fun x h => by simp at h⟩, fun x h => by simp at h, ⟨rfl, rfl, Nat.zero_le _, Nat.zero_le _⟩⟩
      obtain ⟨t9, ht9, htn9⟩ := tmod_ix (n := n) (x := x4) HB.out.2.1 HN.out.1
      have wx4 : IntKind.i64.wrap x4 = x4 := IntWalk.i64_in _ (by have := HB.out; omega)
      have hn9 : ¬ ((n : Int) = 0) := by have := HN.out.1; omega
      have hn8 : ¬ (n = 0) := by have := HN.out.1; omega
      go_loopw [14, 15, 68] (fun sv dv iv wr => ∃ (k : Nat) (SA : Option Addr) (sn sc : Nat) (DA : Option Addr) (dn dc : Nat) (LS LD : List Nat), k ≤ n ∧ sv = .slice SA sn sc ∧ dv = .slice DA dn dc ∧ iv = .int .i64 ((k : Nat) : Int) ∧ Hid (SetI w3 k SA sn sc DA dn dc LS LD wr)) (fun _ _ iv _ => n - (intOf iv).toNat)
      case atStart => exact ⟨0, _, _, _, _, _, _, [], [], Nat.zero_le _, rfl, rfl, rfl, HI0⟩
      case round =>
        obtain ⟨k, SA, sn, sc, DA, dn, dc, LS, LD, hk, rfl, rfl, rfl, HI⟩ := hrel
        by_cases hlt : k < n
        · have HLT : Hid (k < n) := Lib.hid hlt
          have hk0 : (0 : Int) ≤ (k : Int) := by omega
          have hkn : (k : Int) < (n : Int) := by omega
          have hk9 : (k : Int) ≤ 9 := by have := HN.out; omega
          have hS := HS.out.1.next HI.out.low
          have cc0 := hS.c.cell 0
          simp only [List.getElem?_toArray, List.getElem?_cons_zero, List.getElem?_cons_succ] at cc0
          have zc := hS.c.lt
          have HLN : Hid (sn ≤ 9 ∧ dn ≤ 9) := Lib.hid (by have := HI.out.ln; have := HN.out; omega)
          have g1 : wr.heap.size < wr.heap.size + 1 := by omega
          have wk : IntKind.i64.wrap ((k : Int) + 1) = (k : Int) + 1 := IntWalk.i64_in _ (by omega)
          clear hlt hk hS
          by_cases hb : (bits BinOp.and IntKind.u16 (x3 / 2 ^ k) 1 == 1) = true
          · skip
            go_wp2_with (at_builtin; refine wpList_append_own_at _ rfl (.tmp 76) (.tmp 78) 22 rfl w3.heap.size 3 i0 (.int .i64 0) 1 8 Try.underlying22 hi.out.1 hi.out.2.1 hi.out.2.2.1 hi.out.2.2.2 rfl (by decide) (.slice SA sn sc) sn (LS.flatMap encN) rfl (HI.out.s.alloc _) ⟨wr.heap.size, 0, none⟩ 1 1 [.int .i64 (k : Int)] rfl rfl ?_ ?_ ?_ ?_ ?_ ?_)
            case _ =>
              intro j z hz
              match j, hz with
              | 0, hz =>
                simp only [List.getElem?_cons_zero, Option.some.injEq] at hz
                subst hz
                simp [Addr.add, go_sem]
            case _ => (intro z hz; simp only [List.mem_cons, List.mem_nil_iff, or_false] at hz; subst hz; rfl)
            case _ => simp only [maxLen]; have := HLN.out; omega
            case _ => have := HLN.out; omega
            case _ => have := HI.out.low.size; simp only [World.size_alloc]; omega
            intro v' wy hown hg8 _ hob
            obtain ⟨SA', sc', rfl⟩ := row_slice hown
            have hX : Below wr.heap.size wr (wr.alloc (.cells #[.int .i64 (k : Int)] 3)) := (Below.refl _ _).alloc (Nat.le_refl _) _
            have HLY : Hid (Below w3.heap.size w3 wy) := Lib.hid ((below3 HI.out.low hX (Nat.le_refl _)).grown hg8 (by have := hX.size; have := HI.out.low.size; omega) (fun r e => (World.ownsRow.lt HI.out.s r e).1))
            have HOY : Hid (wy.ownsRow w3.heap.size 3 1 (.slice SA' (sn + 1) sc') (sn + 1) ((LS ++ [k]).flatMap encN)) := Lib.hid (by rw [snoc_N]; exact hown)
            have HDY : Hid (wy.ownsRow w3.heap.size 3 1 (.slice DA dn dc) dn (LD.flatMap encN)) := Lib.hid (HI.out.ap.kept (HI.out.d.alloc _) hg8)
            have HAY : Hid (Apart (.slice SA' (sn + 1) sc') (.slice DA dn dc)) := Lib.hid (HI.out.ap.grow HI.out.d (by first | omega | (simp only [World.size_alloc]; omega)) hob)
            have g2 : wy.heap.size < wy.heap.size + 1 := by omega
            have hS := HS.out.1.next HLY.out
            have cc1 := hS.c.cell 0
            simp only [List.getElem?_toArray, List.getElem?_cons_zero, List.getElem?_cons_succ] at cc1
            have zc1 := hS.c.lt
            clear hown hg8 hob hX cc0 zc g1 hS
            go_wp2_with (at_builtin; refine wpList_append_own_at _ rfl (.tmp 95) (.tmp 97) 22 rfl w3.heap.size 3 i0 (.int .i64 0) 1 8 Try.underlying22 hi.out.1 hi.out.2.1 hi.out.2.2.1 hi.out.2.2.2 rfl (by decide) (.slice DA dn dc) dn (LD.flatMap encN) rfl (HDY.out.alloc _) ⟨wy.heap.size, 0, none⟩ 1 1 [.int .i64 (k : Int)] rfl rfl ?_ ?_ ?_ ?_ ?_ ?_)
            case _ =>
              intro j z hz
              match j, hz with
              | 0, hz =>
                simp only [List.getElem?_cons_zero, Option.some.injEq] at hz
                subst hz
                simp [Addr.add, go_sem]
            case _ => (intro z hz; simp only [List.mem_cons, List.mem_nil_iff, or_false] at hz; subst hz; rfl)
            case _ => simp only [maxLen]; have := HLN.out; omega
            case _ => have := HLN.out; omega
            case _ => have := HLY.out.size; simp only [World.size_alloc]; omega
            intro v' wz hown hg8 _ hob
            obtain ⟨DA', dc', rfl⟩ := row_slice hown
            have hX : Below wy.heap.size wy (wy.alloc (.cells #[.int .i64 (k : Int)] 3)) := (Below.refl _ _).alloc (Nat.le_refl _) _
            have HF : Hid (SetI w3 (k + 1) SA' (sn + 1) sc' DA' (dn + 1) dc' (LS ++ [k]) (LD ++ [k]) wz) := Lib.hid ⟨(below3 HLY.out hX (Nat.le_refl _)).grown hg8 (by have := hX.size; have := HLY.out.size; omega) (fun r e => (World.ownsRow.lt HDY.out r e).1), HAY.out.symm.kept (HOY.out.alloc _) hg8, by rw [snoc_N]; exact hown, (HAY.out.symm.grow HOY.out (by first | omega | (simp only [World.size_alloc]; omega)) hob).symm, up_snoc HI.out.so, up_snoc HI.out.do_, fun x hx => by
              rcases List.mem_append.1 hx with h | h
              · exact List.mem_append_left _ (HI.out.sub x h)
              · exact List.mem_append_right _ h, by have := HI.out.ln; simp only [List.length_append, List.length_singleton]; omega⟩
            clear hown hg8 hob hX cc1 zc1 g2
            go_wp2
            go_roundw
            case rel => exact ⟨k + 1, SA', sn + 1, sc', DA', dn + 1, dc', _, _, by have := HLT.out; omega, rfl, rfl, by go_num, HF⟩
            case measure => have := HLT.out; simp [intOf]; omega
          · have hb0 : (bits BinOp.and IntKind.u16 (x3 / 2 ^ k) 1 == 1) = false := by simpa using hb
            clear hb
            by_cases he : k = t9
            · have he1 : ((k : Int) = (t9 : Int)) := by omega
              have he2 : decide (k = t9) = true := decide_eq_true he
              have he3 : decide ((k : Int) = (t9 : Int)) = true := decide_eq_true he1
              have he4 : ((k : Int) == (t9 : Int)) = true := by rw [beq_iff_eq]; exact he1
              have HE := Lib.hid he
              clear he he1
              go_wp2_with (at_builtin; refine wpList_append_own_at _ rfl (.tmp 95) (.tmp 97) 22 rfl w3.heap.size 3 i0 (.int .i64 0) 1 8 Try.underlying22 hi.out.1 hi.out.2.1 hi.out.2.2.1 hi.out.2.2.2 rfl (by decide) (.slice DA dn dc) dn (LD.flatMap encN) rfl (HI.out.d.alloc _) ⟨wr.heap.size, 0, none⟩ 1 1 [.int .i64 (k : Int)] rfl rfl ?_ ?_ ?_ ?_ ?_ ?_)
              case _ =>
                intro j z hz
                match j, hz with
                | 0, hz =>
                  simp only [List.getElem?_cons_zero, Option.some.injEq] at hz
                  subst hz
                  simp [Addr.add, go_sem]
              case _ => (intro z hz; simp only [List.mem_cons, List.mem_nil_iff, or_false] at hz; subst hz; rfl)
              case _ => simp only [maxLen]; have := HLN.out; omega
              case _ => have := HLN.out; omega
              case _ => have := HI.out.low.size; simp only [World.size_alloc]; omega
              intro v' wz hown hg8 _ hob
              obtain ⟨DA', dc', rfl⟩ := row_slice hown
              have hX : Below wr.heap.size wr (wr.alloc (.cells #[.int .i64 (k : Int)] 3)) := (Below.refl _ _).alloc (Nat.le_refl _) _
              have HF : Hid (SetI w3 (k + 1) SA sn sc DA' (dn + 1) dc' LS (LD ++ [k]) wz) := Lib.hid ⟨(below3 HI.out.low hX (Nat.le_refl _)).grown hg8 (by have := hX.size; have := HI.out.low.size; omega) (fun r e => (World.ownsRow.lt HI.out.d r e).1), HI.out.ap.symm.kept (HI.out.s.alloc _) hg8, by rw [snoc_N]; exact hown, (HI.out.ap.symm.grow HI.out.s (by first | omega | (simp only [World.size_alloc]; omega)) hob).symm, up_more HI.out.so, up_snoc HI.out.do_, fun x hx => List.mem_append_left _ (HI.out.sub x hx), by have := HI.out.ln; simp only [List.length_append, List.length_singleton]; omega⟩
              clear hown hg8 hob hX cc0 zc g1
              go_wp2
              go_roundw
              case rel => exact ⟨k + 1, SA, sn, sc, DA', dn + 1, dc', _, _, by have := HLT.out; omega, rfl, rfl, by go_num, HF⟩
              case measure => have := HLT.out; simp [intOf]; omega
            · have he1 : ¬ ((k : Int) = (t9 : Int)) := by omega
              have he2 : decide (k = t9) = false := decide_eq_false he
              have he3 : decide ((k : Int) = (t9 : Int)) = false := decide_eq_false he1
              have he4 : ((k : Int) == (t9 : Int)) = false := by rw [beq_eq_false_iff_ne]; exact he1
              have HF : Hid (SetI w3 (k + 1) SA sn sc DA dn dc LS LD wr) := Lib.hid ⟨HI.out.low, HI.out.s, HI.out.d, HI.out.ap, up_more HI.out.so, up_more HI.out.do_, HI.out.sub, by have := HI.out.ln; omega⟩
              go_wp2
              go_roundw
              case rel => exact ⟨k + 1, SA, sn, sc, DA, dn, dc, _, _, by have := HLT.out; omega, rfl, rfl, by go_num, HF⟩
              case measure => have := HLT.out; simp [intOf]; omega
        · obtain rfl : n = k := by omega
          have hS9 := HS.out.1.next HI.out.low
          have cc9 := hS9.c.cell 0
          clear hlt hk wx4 ht9 hS9 cc9
          have HVS : Hid (Vc n LS ∧ Vc n LD) := Lib.hid ⟨sorted_vc HI.out.so.1 HI.out.so.2, sorted_vc HI.out.do_.1 HI.out.do_.2⟩
          have HRS : Hid (Rd wr wr.heap.size 1 encN SA sn LS ∧ Rd wr wr.heap.size 1 encN DA dn LD) := Lib.hid ⟨row_rd (fun _ => rfl) HI.out.ln.1.symm HI.out.s, row_rd (fun _ => rfl) HI.out.ln.2.1.symm HI.out.d⟩
          have HK5 : Hid (KsIn wr wr.heap.size n (some ⟨nb, 0, none⟩) (some ⟨vb, 0, none⟩) (c.put V)) := Lib.hid ((HS.out.1.next HI.out.low).ks HN.out.2.2.1 HS.out.2.1)
          obtain ⟨w5, hw5⟩ : ∃ z, z = wr := ⟨wr, rfl⟩
          subst hw5
          have hsn9 : (0 : Int) ≤ (sn : Int) := by omega
          by_cases hc : canB (c.put V) LS = true
          · skip
            have KE1 := Lib.hid (Explains_any (c.put V) HCV.out.1 (some ⟨nb, 0, none⟩) (some ⟨vb, 0, none⟩) SA n n n sn sc LS w5 HK5.out HVS.out.1 HRS.out.1)
            have HE1v := KE1.out
            rw [hc] at HE1v
            have hS := HS.out.1.next (HI.out.low)
            have cc0 := hS.c.cell 0
            have cc1 := hS.c.cell 1
            simp only [List.getElem?_toArray, List.getElem?_cons_zero, List.getElem?_cons_succ] at cc0 cc1
            have zc := hS.c.lt
            clear hS
            go_wp2_with fail
            refine HE1v.mono ?_
            rintro e w6 ⟨rfl, hB6⟩
            have H6 := Lib.hid hB6
            clear hB6 HE1v KE1
            clear cc0 cc1 zc
            have hS := HS.out.1.next (below3 HI.out.low H6.out (Nat.le_refl _))
            have cc0 := hS.c.cell 0
            have cc1 := hS.c.cell 1
            simp only [List.getElem?_toArray, List.getElem?_cons_zero, List.getElem?_cons_succ] at cc0 cc1
            have zc := hS.c.lt
            clear hS
            have hcd : canB (c.put V) LD = true := can_mono HCV.out.1 HI.out.sub hc
            have KE2 := Explains_any (c.put V) HCV.out.1 (some ⟨nb, 0, none⟩) (some ⟨vb, 0, none⟩) DA n n n dn dc LD w6 (HK5.out.next H6.out) HVS.out.2 (HRS.out.2.next H6.out)
            rw [hcd] at KE2
            clear hcd
            go_wp2_with fail
            refine KE2.mono ?_
            rintro e w7 ⟨rfl, hB7⟩
            have H7 := Lib.hid (below3 H6.out hB7 (Nat.le_refl _))
            clear hB7 KE2
            clear cc0 cc1 zc
            have hS := HS.out.1.next (below3 HI.out.low H7.out (Nat.le_refl _))
            have cc0 := hS.c.cell 0
            have cc1 := hS.c.cell 1
            simp only [List.getElem?_toArray, List.getElem?_cons_zero, List.getElem?_cons_succ] at cc0 cc1
            have zc := hS.c.lt
            clear hS
            have KLE := Least_any (c.put V) HCV.out.1 (some ⟨nb, 0, none⟩) (some ⟨vb, 0, none⟩) n n n w7 (HK5.out.next H7.out)
            go_wp2_with fail
            refine KLE.mono ?_
            rintro e w8 ⟨hlv, hB8⟩
            have H8 := Lib.hid (below3 H7.out hB8 (Nat.le_refl _))
            clear hB8 KLE
            clear cc0 cc1 zc
            obtain ⟨v, rfl, hlw⟩ : ∃ v, e = .returned (.tuple #[v, .int .i64 0]) ∧ LeastV w8 w7.heap.size (c.put V) v := by
              rcases hlv with h | ⟨_, h⟩
              · exact h
              · exfalso
                have h1 := h ((List.range n).filter fun _ => true) (vc_range n _)
                rw [can_of_sol HCV.out.1 HCV.out.2 (fun i hi hn => by exfalso; apply hn; have := HM.out.cn; rw [put_n, this] at hi; simp [hi])] at h1
                cases h1
            obtain ⟨lg, lm, lca, lk, xA, xc, LL, rfl, hlm, hlg, hlc, hLI⟩ := least_first hlw
            have hm0 : (0 : Int) < (lm : Int) := by omega
            have hkl : lk ≤ sn := by have h1 := least_le hLI (by rw [put_n, HM.out.cn]; exact HVS.out.1) hc; have h2 := HI.out.ln; omega
            have hd1 : decide (sn < lk) = false := decide_eq_false (by omega)
            have hd2 : ¬ (sn < lk) := by omega
            have hd3 : ¬ ((sn : Int) < (lk : Int)) := by omega
            clear hlv hlw hLI
            have hS := HS.out.1.next (below3 HI.out.low H8.out (Nat.le_refl _))
            have cc0 := hS.c.cell 0
            have cc1 := hS.c.cell 1
            simp only [List.getElem?_toArray, List.getElem?_cons_zero, List.getElem?_cons_succ] at cc0 cc1
            have zc := hS.c.lt
            clear hS
            go_wp2_with fail
            have KR := Repair_any (c.put V) HCV.out.1 (some ⟨nb, 0, none⟩) (some ⟨vb, 0, none⟩) SA n n n sn sc LS w8 (HK5.out.next H8.out) HVS.out.1 (HRS.out.1.next H8.out)
            refine KR.mono ?_
            rintro e w9 ⟨hrp, hB9⟩
            obtain ⟨v, rfl, rb, R, rfl, hrb, hrk, hrz⟩ : ∃ v, e = .returned (.tuple #[v, .int .i64 0]) ∧ RepV w9 w8.heap.size n (c.put V) LS v := by
              rcases hrp with ⟨_, h⟩ | ⟨h, _⟩
              · exact h
              · rw [hc] at h; cases h
            have H9 := Lib.hid (below3 H8.out hB9 (Nat.le_refl _))
            have HRP : Hid (RepS (c.put V) LS R) := Lib.hid (rep_s HCV.out.1 hc (by rw [put_n, HM.out.cn]; exact hrk))
            have HRL : Hid (R.length = n) := Lib.hid (by rw [HRP.out.len, put_n, HM.out.cn])
            have HRB := Lib.hid hrb
            have HC := Lib.hid hc
            clear hB9 hrp KR hc hrb hrk hrz cc0 cc1 zc hd1 hd2 hd3 hkl hlm hlg hlc hm0
            have hS := HS.out.1.next (below3 HI.out.low H9.out (Nat.le_refl _))
            have cc0 := hS.c.cell 0
            have cc1 := hS.c.cell 1
            simp only [List.getElem?_toArray, List.getElem?_cons_zero, List.getElem?_cons_succ] at cc0 cc1
            have zc := hS.c.lt
            clear hS
            have KB := Broken_any (some ⟨nb, 0, none⟩) (some ⟨rb, 0, none⟩) n n n ((c.put V).put R) w9 (rep_brk HCV.out.1 HRP.out).1 ⟨(HK5.out.next H9.out).nd, by have := HRB.out.rdI; rw [HRL.out] at this; exact this⟩
            rw [(rep_brk HCV.out.1 HRP.out).2] at KB
            go_wp2_with fail
            refine KB.mono ?_
            rintro e w10 ⟨A9, ca9, rfl, hB⟩
            have H10 := Lib.hid (below3 H9.out hB (Nat.le_refl _))
            have HR10 := Lib.hid (HRB.out.below hB HRB.out.lt)
            clear hB KB
            clear cc0 cc1 zc
            go_wp2
            go_loopw [186] (fun iv wr => ∃ k : Nat, k ≤ n ∧ iv = .int .i64 ((k : Nat) : Int) ∧ Hid (Below w10.heap.size w10 wr)) (fun iv _ => n - (intOf iv).toNat)
            case atStart => exact ⟨0, Nat.zero_le _, rfl, Lib.hid (Below.refl _ _)⟩
            case round =>
              obtain ⟨k, hk, rfl, HW⟩ := hrel
              have HZ := Lib.hid (below3 H10.out HW.out (Nat.le_refl _))
              by_cases hlt : k < n
              · have HLT : Hid (k < n) := Lib.hid hlt
                have hk0 : (0 : Int) ≤ (k : Int) := by omega
                have hkn : (k : Int) < (n : Int) := by omega
                have hS := HS.out.1.next (below3 HI.out.low HZ.out (Nat.le_refl _))
                have cc1 := hS.c.cell 1
                simp only [List.getElem?_toArray, List.getElem?_cons_zero, List.getElem?_cons_succ] at cc1
                have zc := hS.c.lt
                have ev := hS.v.intAt9 (k := k) (by rw [HS.out.2.1]; exact hlt)
                have zv := hS.v.lt
                have hrb := HR10.out.below HW.out HR10.out.lt
                have er := hrb.intAt9 (k := k) (by rw [HRL.out]; exact hlt)
                have zr := hrb.lt
                obtain ⟨rk, hrk⟩ : ∃ z, z = R.getD k 0 := ⟨_, rfl⟩
                obtain ⟨vk, hvk⟩ : ∃ z, z = V.getD k 0 := ⟨_, rfl⟩
                rw [← hrk] at er
                rw [← hvk] at ev
                have HRV := Lib.hid (And.intro hrk hvk)
                have wk : IntKind.i64.wrap ((k : Int) + 1) = (k : Int) + 1 := IntWalk.i64_in _ (by have := HN.out; omega)
                clear hS hrb hrk hvk hlt hk
                by_cases hv : rk = vk
                · subst hv
                  go_wp2
                  go_roundw
                  case rel => exact ⟨k + 1, by have := HLT.out; omega, by go_num, HW⟩
                  case measure => have := HLT.out; simp [intOf]; omega
                · have hv1 : (rk == vk) = false := by rw [beq_eq_false_iff_ne]; exact hv
                  have hv2 : (rk != vk) = true := by rw [bne_iff_ne]; exact hv
                  have HMEM : Hid (decide (((k : Nat) : Int) ∈ LS.map (fun x => ((x : Nat) : Int))) = true) := Lib.hid (by
                    rw [decide_eq_true_iff, mem_ints]
                    apply Classical.byContradiction
                    intro hn
                    apply hv
                    rw [HRV.out.1, HRV.out.2]
                    exact HRP.out.fits k (by rw [put_n, HM.out.cn]; exact HLT.out) hn)
                  have KCN := contains_any SA sn sc (LS.map fun x => ((x : Nat) : Int)) (k : Int) wr (rd_ints (HRS.out.1.next HZ.out)) (by have := HI.out.ln; have := HN.out; omega)
                  rw [HMEM.out] at KCN
                  go_wp2_with fail
                  refine KCN.mono ?_
                  rintro e wq ⟨rfl, hB⟩
                  have HW2 := Lib.hid (below3 HW.out hB (Nat.le_refl _))
                  clear hB KCN cc1 zc ev zv er zr hv
                  go_wp2
                  go_roundw
                  case rel => exact ⟨k + 1, by have := HLT.out; omega, by go_num, HW2⟩
                  case measure => have := HLT.out; simp [intOf]; omega
              · obtain rfl : n = k := by omega
                obtain ⟨w11, hw11⟩ : ∃ z, z = wr := ⟨wr, rfl⟩
                subst hw11
                have HR11 := Lib.hid (HR10.out.below HW.out HR10.out.lt)
                clear hlt hk
                go_wp2
                go_loopw [207] (fun iv wr => ∃ j : Nat, j ≤ sn ∧ iv = .int .i64 ((j : Nat) : Int) ∧ Hid (Below w11.heap.size w11 wr)) (fun iv _ => sn - (intOf iv).toNat)
                case atStart => exact ⟨0, Nat.zero_le _, rfl, Lib.hid (Below.refl _ _)⟩
                case round =>
                  obtain ⟨j, hj, rfl, HX⟩ := hrel
                  by_cases hjl : j < sn
                  · have HJL : Hid (j < sn) := Lib.hid hjl
                    have hj0 : (0 : Int) ≤ (j : Int) := by omega
                    have hjn : (j : Int) < (sn : Int) := by omega
                    have HSN : Hid (sn ≤ 9) := Lib.hid (by have := HI.out.ln; have := HN.out; omega)
                    obtain ⟨gb, go9, i, eA, hgb, hx, hcx⟩ := (HRS.out.1.next HZ.out).at_ hjl
                    have cx8 := hcx 0 _ rfl
                    rw [Nat.mul_one, Nat.add_zero] at cx8
                    have cx9 := (HX.out.cell (p := ⟨gb, go9 + j, none⟩) hgb).trans cx8
                    have zx : gb < wr.heap.size := Nat.lt_of_lt_of_le hgb HX.out.size
                    have him : i ∈ LS := List.mem_of_getElem? hx
                    have hin := vc_mem HVS.out.1 him
                    have HII := Lib.hid (And.intro him hin)
                    have hi0 : (0 : Int) ≤ (i : Int) := by omega
                    have hi1 : (i : Int) < (n : Int) := by omega
                    have hrb := HR11.out.below HX.out HR11.out.lt
                    have er := hrb.intAt9 (k := i) (by rw [HRL.out]; exact hin)
                    have zr := hrb.lt
                    obtain ⟨ri, hri⟩ : ∃ z, z = R.getD i 0 := ⟨_, rfl⟩
                    rw [← hri] at er
                    have HRI := Lib.hid hri
                    have HRB2 : Hid (0 ≤ ri ∧ ri ≤ 1000000000) := Lib.hid (by
                      rw [hri, List.getD_eq_getElem?_getD, List.getElem?_eq_getElem (by rw [HRL.out]; exact hin)]
                      exact HRP.out.bd _ (List.getElem_mem (by rw [HRL.out]; exact hin)))
                    have wj : IntKind.i64.wrap ((j : Int) + 1) = (j : Int) + 1 := IntWalk.i64_in _ (by have := HSN.out; omega)
                    clear hx hcx cx8 hgb him hin hrb hri hjl hj
                    subst eA
                    by_cases hz : ri = 0
                    · have HZ0 := Lib.hid hz
                      subst hz
                      go_wp2
                      go_roundw
                      case rel => exact ⟨j + 1, by have := HJL.out; omega, by go_num, HX⟩
                      case measure => have := HJL.out; simp [intOf]; omega
                    · have hz1 : (ri == 0) = false := by rw [beq_eq_false_iff_ne]; exact hz
                      have HZ0 := Lib.hid hz
                      go_wp2
                      clear hz hz1 er zr cx9 zx
                      refine wp_region_free10 7 (by kernel_rfl) [some 216, some 217, some 218, some 219, some 220, some 221, some 29, none] [[], [0], [], [2], [3], [1, 4], [], [6, 5, 4, 0, 1, 2, 3, 4, 5, 6]] [(11, .pointer (some ⟨cx, 0, none⟩))] (fun W _ => Below wr.heap.size wr W) (d39Phi wr.heap.size cx nb vb n V) (fun i _ γ => i = 7 → γ 20 = 0) (by kernel_rfl) (by kernel_rfl) rfl (by kernel_rfl) ?_ ?_ ⟨fun _ => 0, (Below.refl _ _).drew, fun _ _ _ => rfl⟩ ?_ ?_
                      · intro z hz
                        simp only [List.mem_cons, List.mem_nil_iff, or_false] at hz
                        subst hz
                        all_goals exact ⟨by kernel_rfl, rfl⟩
                      · intro i v W γ hi h
                        rcases i with _ | _ | _ | _ | _ | _ | _ | _ | i
                        all_goals first | exact h | (simp at hi)
                      · refine ⟨?_, ?_, ?_, ?_, ?_, ?_, ?_, ?_, trivial⟩
                        all_goals
                          intro a9 W γ ev hcc hff hfx hR hψ hpre
                          simp only [List.mem_cons, List.mem_nil_iff, or_false, forall_eq, forall_eq_or_imp] at hfx
                          have f0 := hfx
                          clear hfx
                          have HR := Lib.hid hR
                          clear hR
                        · refine ⟨fun hg K hK => ?_, trivial⟩
                          clear hg
                          clear hpre hψ
                          go_simp
                          exact hK _ _ γ HR.out (fun _ _ _ _ h => h) (fun _ _ _ h => h) rfl
                        · refine ⟨fun hg K hK => ?_, trivial⟩
                          clear hg
                          have q0 : ev (.tmp 216) = _ := hpre 0 (by decide)
                          have hS := HS.out.1.next (below3 HI.out.low (below3 (below3 HZ.out HX.out (Nat.le_refl _)) HR.out (Nat.le_refl _)) (Nat.le_refl _))
                          have s0 := hS.c.cell 0
                          have s1 := hS.c.cell 1
                          simp only [List.getElem?_toArray, List.getElem?_cons_zero, List.getElem?_cons_succ] at s0 s1
                          have zs := hS.c.lt
                          clear hS
                          clear hpre hψ
                          go_simp
                          exact hK _ _ γ HR.out (fun _ _ _ _ h => h) (fun _ _ _ h => h) rfl
                        · refine ⟨fun hg K hK => ?_, trivial⟩
                          clear hg
                          clear hpre hψ
                          go_simp
                          exact hK _ _ γ HR.out (fun _ _ _ _ h => h) (fun _ _ _ h => h) rfl
                        · refine ⟨fun hg K hK => ?_, trivial⟩
                          clear hg
                          have q0 : ev (.tmp 218) = _ := hpre 2 (by decide)
                          have hS := HS.out.1.next (below3 HI.out.low (below3 (below3 HZ.out HX.out (Nat.le_refl _)) HR.out (Nat.le_refl _)) (Nat.le_refl _))
                          have s0 := hS.c.cell 0
                          have s1 := hS.c.cell 1
                          simp only [List.getElem?_toArray, List.getElem?_cons_zero, List.getElem?_cons_succ] at s0 s1
                          have zs := hS.c.lt
                          clear hS
                          clear hpre hψ
                          go_simp
                          exact hK _ _ γ HR.out (fun _ _ _ _ h => h) (fun _ _ _ h => h) rfl
                        · refine ⟨fun hg K hK => ?_, trivial⟩
                          clear hg
                          have q0 : ev (.tmp 219) = _ := hpre 3 (by decide)
                          have hS := HS.out.1.next (below3 HI.out.low (below3 (below3 HZ.out HX.out (Nat.le_refl _)) HR.out (Nat.le_refl _)) (Nat.le_refl _))
                          have C := Lib.hid (clone_ints (some ⟨vb, 0, none⟩) n n V W (by have := hS.v.rdI; rw [HS.out.2.1] at this; exact this) (by have := HN.out; omega))
                          have HR9 := HR
                          clear hpre hψ hS HR
                          go_simp
                          refine C.out.mono ?_
                          rintro e w7 ⟨A', c', rfl, ho, hB, _⟩
                          obtain ⟨db, rfl, hdz, hdc, hdr⟩ : ∃ db, A' = some ⟨db, 0, none⟩ ∧ W.heap.size ≤ db ∧ n ≤ c' ∧ RowW w7 db 3 encI (some ⟨db, 0, none⟩) V := by
                            rcases ho.2 with ⟨_, h0⟩ | ⟨g, cap, cur, e, hg1, hg, hcp, _, _, ht⟩
                            · have := HN.out; omega
                            · cases e
                              refine ⟨g, rfl, hg1, hcp, Or.inr ⟨rfl, cur, hg, fun j u hu => ?_⟩⟩
                              rw [← ht, List.getElem?_take] at hu
                              split at hu
                              · simpa using hu
                              · cases hu
                          exact hK _ w7 (fun i => if i = 31 then db else if i = 32 then c' else γ i) (below3 HR9.out hB (Nat.le_refl _)) (fun j u hj hne h => d39Phi_next hB (fun e => by rcases e with rfl | rfl | rfl; exact absurd rfl hne; exact absurd (by decide) hj; exact absurd (by decide) hj) (fun _ => ⟨rfl, rfl⟩) h) (fun _ j _ h e => h e) ⟨rfl, Nat.le_trans HR9.out.size hdz, hdc, hdr⟩
                        · refine ⟨fun hg K hK => ?_, trivial⟩
                          clear hg
                          have q0 : ev (.tmp 217) = _ := hpre 1 (by decide)
                          have q1 : ev (.tmp 220) = _ := (hpre 4 (by decide)).1
                          clear hpre hψ
                          go_simp
                          exact hK _ _ γ HR.out (fun _ _ _ _ h => h) (fun _ _ _ h => h) rfl
                        · refine ⟨fun hg K hK => ?_, trivial⟩
                          clear hg
                          clear hpre hψ
                          go_simp
                          have hB5 : Below W.heap.size W (W.alloc (.cells #[.slice none 0 0, .slice none 0 0] 35)) := (Below.refl _ _).alloc (Nat.le_refl _) _
                          exact hK _ _ (fun i => if i = 30 then W.heap.size else γ i) (below3 HR.out hB5 (Nat.le_refl _)) (fun j u hj hne h => d39Phi_next hB5 (fun _ => ⟨rfl, rfl⟩) (fun e => by rcases e with rfl | rfl; exact absurd rfl hne; exact absurd (by decide) hj) h) (fun _ j _ h e => h e) ⟨rfl, HR.out.size, fun _ => heap_alloc_new W _⟩
                        · refine ⟨fun hg K hK => ?_, trivial⟩
                          clear hg
                          have q0 : ev (.tmp 29) = _ := (hpre 6 (by decide)).1
                          have q1 : ev (.tmp 221) = _ := hpre 5 (by decide)
                          have hz := (hpre 6 (by decide)).2.1
                          have hbz := (hpre 6 (by decide)).2.2 (hψ rfl)
                          obtain ⟨cb, hcb⟩ : ∃ z, z = γ 30 := ⟨_, rfl⟩
                          obtain ⟨db, hdb⟩ : ∃ z, z = γ 31 := ⟨_, rfl⟩
                          obtain ⟨dc, hdc⟩ : ∃ z, z = γ 32 := ⟨_, rfl⟩
                          rw [← hcb] at q0 hz hbz
                          rw [← hdb, ← hdc] at q1
                          have zl := hbz.lt
                          have fl9 := hbz.frozen
                          have e0 := hbz.cell 0
                          have e1 := hbz.cell 1
                          simp only [List.getElem?_toArray, List.getElem?_cons_zero, List.getElem?_cons_succ] at e0 e1
                          have HX9 := Lib.hid (And.intro hbz (And.intro hz (And.intro hcb (And.intro hdb hdc))))
                          clear hpre hψ hbz hz hcb hdb hdc
                          go_simp
                          obtain ⟨hbz, hz, hcb, hdb, hdc⟩ := HX9.out
                          refine hK undef _ (fun i => if i = 20 then 1 else γ i) ((HR.out.setCell (p := ⟨cb, 0, none⟩) hz _).setCell (p := ⟨cb, 1, none⟩) hz _) (fun j u h1 h2 h3 => ?_) (fun h => absurd rfl h) ?_
                          · have FB : ∀ {b : Nat} {T : TypeId} {cs : Array Value}, Blk W b T cs → T ≠ 35 → Blk ((W.setCell ⟨cb, 0, none⟩ (.slice (some ⟨nb, 0, none⟩) n n)).setCell ⟨cb, 1, none⟩ (.slice (some ⟨db, 0, none⟩) n dc)) b T cs := fun hb hT => (hb.far (blk_ne hb hbz hT) _).far (blk_ne hb hbz hT) _
                            unfold d39Phi at h3 ⊢
                            split at h3
                            all_goals first | exact h3 | trivial | exact absurd rfl h2 | skip
                            · exact ⟨h3.1, h3.2.1, h3.2.2.1, h3.2.2.2.kept (fun _ cur hc => FB hc (by decide))⟩
                            · exact ⟨h3.1, h3.2.1, fun e => by simp at e⟩
                          · show Blk _ (γ 30) 35 #[.slice (some ⟨nb, 0, none⟩) n n, .slice (some ⟨γ 31, 0, none⟩) n (γ 32)]
                            rw [← hcb, ← hdb, ← hdc]
                            have h := (hbz.set_ 0 (.slice (some ⟨nb, 0, none⟩) n n)).set_ 1 (.slice (some ⟨db, 0, none⟩) n dc)
                            simpa using h
                      · intro vs wy γ hvl hR hφ
                        have q4 := hφ 4 (by decide)
                        have q6 := hφ 6 (by decide)
                        have q7 := hφ 7 (by decide)
                        have HR := Lib.hid hR
                        clear hφ hR
                        match vs, hvl with
                        | [y0, y1, y2, y3, y4, y5, y6, y7], _ =>
                        simp only [List.getD_cons_zero, List.getD_cons_succ] at q4 q6 q7
                        obtain ⟨db, hdb⟩ : ∃ z, z = γ 31 := ⟨_, rfl⟩
                        obtain ⟨dc, hdc⟩ : ∃ z, z = γ 32 := ⟨_, rfl⟩
                        obtain ⟨dx, hdx⟩ : ∃ z, z = γ 30 := ⟨_, rfl⟩
                        obtain ⟨q4e, z4, c4, b4⟩ := q4
                        clear q4e
                        obtain ⟨q6, z6, _⟩ := q6
                        replace q7 : Blk wy (γ 30) 35 #[.slice (some ⟨nb, 0, none⟩) n n, .slice (some ⟨γ 31, 0, none⟩) n (γ 32)] := q7
                        rw [← hdb, ← hdc, ← hdx] at q7
                        rw [← hdb] at z4 b4
                        rw [← hdc] at c4
                        rw [← hdx] at q6 z6
                        obtain rfl : y6 = _ := q6
                        have HD0 : Hid (DvS wr dx nb db dc n V wy) := Lib.hid ⟨HR.out, q7, b4, ⟨z6, z4⟩, ⟨HS.out.2.1, c4, HN.out.1⟩⟩
                        clear HR q7 b4 z6 z4 c4 hdb hdc hdx
                        have HRZ := Lib.hid (HR11.out.below HX.out HR11.out.lt)
                        simp [putAll]
                        go_wp2
                        refine wp_region_free10 7 (by kernel_rfl) [some 222, some 223, some 224, some 225, some 226, some 227, some 228, some 229] [[], [0], [], [1, 2], [], [], [4, 5], [3, 6]] [(29, .pointer (some ⟨dx, 0, none⟩)), (28, .int .i64 (i : Int)), (23, .slice (some ⟨rb, 0, none⟩) n n)] (mdR (fun _ W => DvS wr dx nb db dc n V W) 0) (mdPhi (fun _ => True) (fun _ W => DvS wr dx nb db dc n (R.take i ++ V.drop i) W) 7 [.eq (.pointer (some ⟨dx, 1, none⟩)), .eq (.slice (some ⟨db, 0, none⟩) n dc), .eq (.int .i64 (i : Int)), .eq (.slice (some ⟨db, 0, none⟩) i dc), .eq (.slice (some ⟨rb, 0, none⟩) n n), .eq (.int .i64 (i : Int)), .eq (.slice (some ⟨rb, 0, none⟩) i n)]) (mdPsi 99) (by kernel_rfl) (by kernel_rfl) rfl (by kernel_rfl) ?_ ?_ ⟨fun _ => 0, ⟨Nat.zero_le _, fun _ => by simpa using HD0.out.next (Below.refl _ _).drew⟩, fun _ _ => ⟨rfl, fun _ => rfl⟩⟩ ?_ ?_
                        · intro z hz
                          simp only [List.mem_cons, List.mem_nil_iff, or_false] at hz
                          rcases hz with rfl | rfl | rfl
                          all_goals exact ⟨by kernel_rfl, rfl⟩
                        · intro i v W γ hi h
                          rcases i with _ | _ | _ | _ | _ | _ | _ | _ | i
                          all_goals first | exact h | (simp at hi)
                        · refine ⟨?_, ?_, ?_, ?_, ?_, ?_, ?_, ?_, trivial⟩
                          all_goals
                            intro a9 W γ ev hcc hff hfx hR hψ hpre
                            simp only [List.mem_cons, List.mem_nil_iff, or_false, forall_eq, forall_eq_or_imp] at hfx
                            obtain ⟨f0, f1, f2⟩ := hfx
                            have HR := Lib.hid hR
                            clear hR
                          · refine ⟨fun hg K hK => ?_, trivial⟩
                            clear hg
                            clear hpre hψ
                            go_simp
                            exact hK _ _ γ HR.out (fun _ _ _ _ h => h) (fun _ _ _ h => h) rfl
                          · refine ⟨fun hg K hK => ?_, trivial⟩
                            clear hg
                            have q0 : ev (.tmp 222) = _ := hpre 0 (by decide)
                            have hI := HR.out.2 hψ.1
                            have s1 := hI.b.cell 1
                            simp only [List.getElem?_toArray, List.getElem?_cons_zero, List.getElem?_cons_succ] at s1
                            have zs := hI.b.lt
                            clear hI
                            clear hpre hψ
                            go_simp
                            exact hK _ _ γ HR.out (fun _ _ _ _ h => h) (fun _ _ _ h => h) rfl
                          · refine ⟨fun hg K hK => ?_, trivial⟩
                            clear hg
                            clear hpre hψ
                            go_simp
                            exact hK _ _ γ HR.out (fun _ _ _ _ h => h) (fun _ _ _ h => h) rfl
                          · refine ⟨fun hg K hK => ?_, trivial⟩
                            clear hg
                            have q0 : ev (.tmp 223) = _ := hpre 1 (by decide)
                            have q1 : ev (.tmp 224) = _ := hpre 2 (by decide)
                            have k0 : (0 : Int) ≤ (i : Int) := by omega
                            have k1 : (i : Int) ≤ (dc : Int) := by have h1 := HII.out.2; have h2 := HD0.out.len; omega
                            have k2 : i ≤ dc := by omega
                            clear hpre hψ
                            go_simp
                            exact hK _ _ γ HR.out (fun _ _ _ _ h => h) (fun _ _ _ h => h) rfl
                          · refine ⟨fun hg K hK => ?_, trivial⟩
                            clear hg
                            clear hpre hψ
                            go_simp
                            exact hK _ _ γ HR.out (fun _ _ _ _ h => h) (fun _ _ _ h => h) rfl
                          · refine ⟨fun hg K hK => ?_, trivial⟩
                            clear hg
                            clear hpre hψ
                            go_simp
                            exact hK _ _ γ HR.out (fun _ _ _ _ h => h) (fun _ _ _ h => h) rfl
                          · refine ⟨fun hg K hK => ?_, trivial⟩
                            clear hg
                            have q0 : ev (.tmp 226) = _ := hpre 4 (by decide)
                            have q1 : ev (.tmp 227) = _ := hpre 5 (by decide)
                            have k0 : (0 : Int) ≤ (i : Int) := by omega
                            have k1 : (i : Int) ≤ (n : Int) := by have h1 := HII.out.2; omega
                            have k2 : i ≤ n := by omega
                            clear hpre hψ
                            go_simp
                            exact hK _ _ γ HR.out (fun _ _ _ _ h => h) (fun _ _ _ h => h) rfl
                          · refine ⟨fun hg K hK => ?_, trivial⟩
                            clear hg
                            have q0 : ev (.tmp 225) = _ := hpre 3 (by decide)
                            have q1 : ev (.tmp 228) = _ := hpre 6 (by decide)
                            have hI := HR.out.2 hψ.1
                            have hg2 := HR.out.1
                            obtain ⟨Wc, hcp, hD⟩ := hI.copy (HRZ.out.below hI.low HRZ.out.lt) HRL.out (i := i) (by have := HII.out.2; omega)
                            have HX9 := Lib.hid (And.intro hD hg2)
                            clear hpre hψ hI hg2 HR hD
                            go_simp
                            exact hK _ _ (fun i => if i = 0 then 1 else γ i) ⟨HX9.out.2, fun e => by simp at e⟩ (fun j u h1 h2 h3 => mdPhi_n h2 h3) (fun h => absurd rfl h) ⟨rfl, 0, trivial, HX9.out.1⟩
                        · intro vs wz γ hvl hR hφ
                          have q9 := hφ 7 (by decide)
                          have HR := Lib.hid hR
                          clear hφ hR
                          match vs, hvl with
                          | [y0, y1, y2, y3, y4, y5, y6, y7], _ =>
                          simp only [List.getD_cons_zero, List.getD_cons_succ] at q9
                          replace q9 : γ 0 = 1 ∧ ∃ r : Int, True ∧ (fun _ W => DvS wr dx nb db dc n (R.take i ++ V.drop i) W) r wz := q9
                          obtain ⟨-, _, -, hS9⟩ := q9
                          clear HR
                          have HD1 : Hid (DvS wr dx nb db dc n (R.take i ++ V.drop i) wz) := Lib.hid hS9
                          clear hS9
                          simp [putAll]
                          go_wp2
                          refine wp_region_free10 9 (by kernel_rfl) [some 230, some 231, some 232, some 233, some 234, some 235, some 236, some 237, some 238, none] [[], [0], [], [], [], [3, 4], [5], [6], [1, 2, 0, 1, 2, 3, 4, 5, 6, 7], [8, 7, 0, 1, 2, 3, 4, 5, 6, 7]] [(29, .pointer (some ⟨dx, 0, none⟩)), (28, .int .i64 (i : Int)), (23, .slice (some ⟨rb, 0, none⟩) n n)] (mdR (fun _ W => DvS wr dx nb db dc n (R.take i ++ V.drop i) W) 0) (mdPhi (fun _ => True) (fun _ W => DvS wr dx nb db dc n ((R.take i ++ V.drop i).set i (ri - 1)) W) 9 [.eq (.pointer (some ⟨dx, 1, none⟩)), .eq (.slice (some ⟨db, 0, none⟩) n dc), .eq (.int .i64 (i : Int)), .eq (.slice (some ⟨rb, 0, none⟩) n n), .eq (.int .i64 (i : Int)), .eq (.pointer (some ⟨rb, i, none⟩)), .eq (.int .i64 ri), .eq (.int .i64 (ri - 1)), .eq (.pointer (some ⟨db, i, none⟩))]) (mdPsi 99) (by kernel_rfl) (by kernel_rfl) rfl (by kernel_rfl) ?_ ?_ ⟨fun _ => 0, ⟨Nat.zero_le _, fun _ => by simpa using HD1.out.next (Below.refl _ _).drew⟩, fun _ _ => ⟨rfl, fun _ => rfl⟩⟩ ?_ ?_
                          · intro z hz
                            simp only [List.mem_cons, List.mem_nil_iff, or_false] at hz
                            rcases hz with rfl | rfl | rfl
                            all_goals exact ⟨by kernel_rfl, rfl⟩
                          · intro i v W γ hi h
                            rcases i with _ | _ | _ | _ | _ | _ | _ | _ | _ | _ | i
                            all_goals first | exact h | (simp at hi)
                          · refine ⟨?_, ?_, ?_, ?_, ?_, ?_, ?_, ?_, ?_, ?_, trivial⟩
                            all_goals
                              intro a9 W γ ev hcc hff hfx hR hψ hpre
                              simp only [List.mem_cons, List.mem_nil_iff, or_false, forall_eq, forall_eq_or_imp] at hfx
                              obtain ⟨f0, f1, f2⟩ := hfx
                              have HR := Lib.hid hR
                              clear hR
                            · refine ⟨fun hg K hK => ?_, trivial⟩
                              clear hg
                              clear hpre hψ
                              go_simp
                              exact hK _ _ γ HR.out (fun _ _ _ _ h => h) (fun _ _ _ h => h) rfl
                            · refine ⟨fun hg K hK => ?_, trivial⟩
                              clear hg
                              have q0 : ev (.tmp 230) = _ := hpre 0 (by decide)
                              have hI := HR.out.2 hψ.1
                              have s1 := hI.b.cell 1
                              simp only [List.getElem?_toArray, List.getElem?_cons_zero, List.getElem?_cons_succ] at s1
                              have zs := hI.b.lt
                              clear hI
                              clear hpre hψ
                              go_simp
                              exact hK _ _ γ HR.out (fun _ _ _ _ h => h) (fun _ _ _ h => h) rfl
                            · refine ⟨fun hg K hK => ?_, trivial⟩
                              clear hg
                              clear hpre hψ
                              go_simp
                              exact hK _ _ γ HR.out (fun _ _ _ _ h => h) (fun _ _ _ h => h) rfl
                            · refine ⟨fun hg K hK => ?_, trivial⟩
                              clear hg
                              clear hpre hψ
                              go_simp
                              exact hK _ _ γ HR.out (fun _ _ _ _ h => h) (fun _ _ _ h => h) rfl
                            · refine ⟨fun hg K hK => ?_, trivial⟩
                              clear hg
                              clear hpre hψ
                              go_simp
                              exact hK _ _ γ HR.out (fun _ _ _ _ h => h) (fun _ _ _ h => h) rfl
                            · refine ⟨fun hg K hK => ?_, trivial⟩
                              clear hg
                              have q0 : ev (.tmp 233) = _ := hpre 3 (by decide)
                              have q1 : ev (.tmp 234) = _ := hpre 4 (by decide)
                              have k0 : (0 : Int) ≤ (i : Int) := by omega
                              have k1 : (i : Int) < (n : Int) := by have h1 := HII.out.2; omega
                              clear hpre hψ
                              go_simp
                              exact hK _ _ γ HR.out (fun _ _ _ _ h => h) (fun _ _ _ h => h) rfl
                            · refine ⟨fun hg K hK => ?_, trivial⟩
                              clear hg
                              have q0 : ev (.tmp 235) = _ := hpre 5 (by decide)
                              have hI := HR.out.2 hψ.1
                              have hb := HRZ.out.below hI.low HRZ.out.lt
                              have er := hb.intAt9 (k := i) (by rw [HRL.out]; exact HII.out.2)
                              rw [← HRI.out] at er
                              have zr := hb.lt
                              clear hI hb
                              clear hpre hψ
                              go_simp
                              exact hK _ _ γ HR.out (fun _ _ _ _ h => h) (fun _ _ _ h => h) rfl
                            · refine ⟨fun hg K hK => ?_, trivial⟩
                              clear hg
                              have q0 : ev (.tmp 236) = _ := hpre 6 (by decide)
                              have wv : IntKind.i64.wrap (ri - 1) = ri - 1 := IntWalk.i64_in _ (by have := HRB2.out; omega)
                              clear hpre hψ
                              go_simp
                              exact hK _ _ γ HR.out (fun _ _ _ _ h => h) (fun _ _ _ h => h) rfl
                            · refine ⟨fun hg K hK => ?_, trivial⟩
                              clear hg
                              have q0 : ev (.tmp 231) = _ := hpre 1 (by decide)
                              have q1 : ev (.tmp 232) = _ := hpre 2 (by decide)
                              have k0 : (0 : Int) ≤ (i : Int) := by omega
                              have k1 : (i : Int) < (n : Int) := by have h1 := HII.out.2; omega
                              clear hpre hψ
                              go_simp
                              exact hK _ _ γ HR.out (fun _ _ _ _ h => h) (fun _ _ _ h => h) rfl
                            · refine ⟨fun hg K hK => ?_, trivial⟩
                              clear hg
                              have q0 : ev (.tmp 237) = _ := hpre 7 (by decide)
                              have q1 : ev (.tmp 238) = _ := hpre 8 (by decide)
                              have hI := HR.out.2 hψ.1
                              have hg2 := HR.out.1
                              obtain ⟨e0, zl, fl9⟩ := hI.at_ HII.out.2
                              have HX := Lib.hid (And.intro (hI.setD HII.out.2 (ri - 1)) hg2)
                              clear hpre hψ hI hg2 HR
                              go_simp
                              exact hK undef _ (fun i => if i = 0 then 1 else γ i) ⟨HX.out.2, fun e => by simp at e⟩ (fun j u h1 h2 h3 => mdPhi_n h2 h3) (fun h => absurd rfl h) ⟨rfl, 0, trivial, HX.out.1⟩
                          · intro vs wu γ hvl hR hφ
                            have q9 := hφ 9 (by decide)
                            have HR := Lib.hid hR
                            clear hφ hR
                            match vs, hvl with
                            | [y0, y1, y2, y3, y4, y5, y6, y7, y8, y9], _ =>
                            simp only [List.getD_cons_zero, List.getD_cons_succ] at q9
                            replace q9 : γ 0 = 1 ∧ ∃ r : Int, True ∧ (fun _ W => DvS wr dx nb db dc n ((R.take i ++ V.drop i).set i (ri - 1)) W) r wu := q9
                            obtain ⟨-, _, -, hS9⟩ := q9
                            clear HR
                            have HD2 : Hid (DvS wr dx nb db dc n ((R.take i ++ V.drop i).set i (ri - 1)) wu) := Lib.hid hS9
                            clear hS9
                            have HWU : Hid (Below w5.heap.size w5 wu) := Lib.hid (below3 (below3 HZ.out HX.out (Nat.le_refl _)) HD2.out.low (Nat.le_refl _))
                            simp [putAll]
                            go_wp2
                            go_loopw [30, 241] (fun rv iv wr => ∃ (k : Nat) (RA : Option Addr) (rn rc : Nat) (LR : List Nat), k ≤ sn ∧ rv = .slice RA rn rc ∧ iv = .int .i64 ((k : Nat) : Int) ∧ Hid (LR = (LS.take k).filter (fun x => decide (i < x)) ∧ rn = LR.length ∧ Below wu.heap.size wu wr ∧ wr.ownsRow wu.heap.size 3 1 (.slice RA rn rc) rn (LR.flatMap encN))) (fun _ iv _ => sn - (intOf iv).toNat)
                            case atStart => exact ⟨0, none, 0, 0, [], Nat.zero_le _, rfl, rfl, Lib.hid ⟨by simp, rfl, Below.refl _ _, World.ownsRow_nil _ _ _ _⟩⟩
                            case round =>
                              obtain ⟨k, RA, rn, rc, LR, hk, rfl, rfl, HY⟩ := hrel
                              by_cases hlt : k < sn
                              · have HLT : Hid (k < sn) := Lib.hid hlt
                                have hk0 : (0 : Int) ≤ (k : Int) := by omega
                                have hkn : (k : Int) < (sn : Int) := by omega
                                have hWQ := below3 HWU.out HY.out.2.2.1 (Nat.le_refl _)
                                obtain ⟨gb, go9, x, eA, hgb, hx, hcx⟩ := HRS.out.1.at_ hlt
                                have cx8 := hcx 0 _ rfl
                                rw [Nat.mul_one, Nat.add_zero] at cx8
                                have cx9 := (hWQ.cell (p := ⟨gb, go9 + k, none⟩) hgb).trans cx8
                                have zx : gb < wr.heap.size := Nat.lt_of_lt_of_le hgb hWQ.size
                                have hxn := vc_mem HVS.out.1 (List.mem_of_getElem? hx)
                                have HXN := Lib.hid (And.intro hx hxn)
                                have HRN : Hid (rn ≤ 9) := Lib.hid (by
                                  have h1 := List.length_filter_le (fun x => decide (i < x)) (LS.take k)
                                  rw [← HY.out.1, ← HY.out.2.1, List.length_take] at h1
                                  have := HSN.out
                                  omega)
                                have wk : IntKind.i64.wrap ((k : Int) + 1) = (k : Int) + 1 := IntWalk.i64_in _ (by have := HSN.out; omega)
                                have g1 : wr.heap.size < wr.heap.size + 1 := by omega
                                clear hlt hk hWQ hx hcx cx8 hgb hxn
                                cases eA
                                by_cases hix : i < x
                                · have hx1 : (i : Int) < (x : Int) := by omega
                                  have hx2 : decide (i < x) = true := decide_eq_true hix
                                  have hx3 : decide ((i : Int) < (x : Int)) = true := decide_eq_true hx1
                                  have HLR : Hid ((LS.take (k + 1)).filter (fun x => decide (i < x)) = LR ++ [x]) := Lib.hid (by
                                    rw [List.take_add_one, HXN.out.1, List.filter_append, ← HY.out.1]
                                    simp [hix])
                                  go_wp2_with (at_builtin; refine wpList_append_own_at _ rfl (.tmp 248) (.tmp 250) 22 rfl wu.heap.size 3 i0 (.int .i64 0) 1 8 Try.underlying22 hi.out.1 hi.out.2.1 hi.out.2.2.1 hi.out.2.2.2 rfl (by decide) (.slice RA rn rc) rn (LR.flatMap encN) rfl (HY.out.2.2.2.alloc _) ⟨wr.heap.size, 0, none⟩ 1 1 [.int .i64 (x : Int)] rfl rfl ?_ ?_ ?_ ?_ ?_ ?_)
                                  case _ =>
                                    intro j z hz
                                    match j, hz with
                                    | 0, hz =>
                                      simp only [List.getElem?_cons_zero, Option.some.injEq] at hz
                                      subst hz
                                      simp [Addr.add, go_sem]
                                  case _ => (intro z hz; simp only [List.mem_cons, List.mem_nil_iff, or_false] at hz; subst hz; rfl)
                                  case _ => simp only [maxLen]; have := HRN.out; omega
                                  case _ => have := HRN.out; omega
                                  case _ => have := HY.out.2.2.1.size; simp only [World.size_alloc]; omega
                                  intro v' wv hown hg8 _ hob
                                  obtain ⟨RA', rc', rfl⟩ := row_slice hown
                                  have hX : Below wr.heap.size wr (wr.alloc (.cells #[.int .i64 (x : Int)] 3)) := (Below.refl _ _).alloc (Nat.le_refl _) _
                                  have HF : Hid (LR ++ [x] = (LS.take (k + 1)).filter (fun x => decide (i < x)) ∧ rn + 1 = (LR ++ [x]).length ∧ Below wu.heap.size wu wv ∧ wv.ownsRow wu.heap.size 3 1 (.slice RA' (rn + 1) rc') (rn + 1) ((LR ++ [x]).flatMap encN)) := Lib.hid ⟨HLR.out.symm, by rw [List.length_append, HY.out.2.1]; rfl, (below3 HY.out.2.2.1 hX (Nat.le_refl _)).grown hg8 (by have := hX.size; have := HY.out.2.2.1.size; omega) (fun r e => (World.ownsRow.lt HY.out.2.2.2 r e).1), by rw [snoc_N]; exact hown⟩
                                  clear hown hg8 hob hX g1 cx9 zx hix
                                  go_wp2
                                  go_roundw
                                  case rel => exact ⟨k + 1, RA', rn + 1, rc', _, by have := HLT.out; omega, rfl, by go_num, HF⟩
                                  case measure => have := HLT.out; simp [intOf]; omega
                                · have hx1 : ¬ ((i : Int) < (x : Int)) := by omega
                                  have hx2 : decide (i < x) = false := decide_eq_false hix
                                  have hx3 : decide ((i : Int) < (x : Int)) = false := decide_eq_false hx1
                                  have HF : Hid (LR = (LS.take (k + 1)).filter (fun x => decide (i < x)) ∧ rn = LR.length ∧ Below wu.heap.size wu wr ∧ wr.ownsRow wu.heap.size 3 1 (.slice RA rn rc) rn (LR.flatMap encN)) := Lib.hid ⟨by
                                    rw [List.take_add_one, HXN.out.1, List.filter_append, ← HY.out.1]
                                    simp [hix], HY.out.2⟩
                                  go_wp2
                                  go_roundw
                                  case rel => exact ⟨k + 1, RA, rn, rc, _, by have := HLT.out; omega, rfl, by go_num, HF⟩
                                  case measure => have := HLT.out; simp [intOf]; omega
                              · obtain rfl : sn = k := by omega
                                have hLR : LR = LS.filter (fun x => decide (i < x)) := by rw [HY.out.1, ← HRS.out.1.1, List.take_length]
                                have hDQ := HD2.out.next HY.out.2.2.1
                                have hNQ : Blk wr nb 107 (nodesA c.nodes) := (HS.out.1.next (below3 HI.out.low (below3 HWU.out HY.out.2.2.1 (Nat.le_refl _)) (Nat.le_refl _))).nd
                                have hld := less_d HCV.out.1 (by rw [put_n, HM.out.cn]; exact HVS.out.1) HC.out HRP.out.rep HRP.out.len HRP.out.bd HII.out.1 (by rw [← HRI.out]; exact HZ0.out)
                                rw [← HRI.out] at hld
                                have KE3 := Explains_any (c.put ((R.take i ++ V.drop i).set i (ri - 1))) hld.1 (some ⟨nb, 0, none⟩) (some ⟨db, 0, none⟩) RA n n dc rn rc LR wr (hDQ.ks hNQ HN.out.2.2.1) (by rw [hLR]; exact vc_filter HVS.out.1 _) (row_rd (fun _ => rfl) HY.out.2.1.symm HY.out.2.2.2)
                                rw [hLR, show canB (c.put ((R.take i ++ V.drop i).set i (ri - 1))) (LS.filter fun x => decide (i < x)) = false from hld.2] at KE3
                                have d0 := hDQ.b.cell 0
                                have d1 := hDQ.b.cell 1
                                simp only [List.getElem?_toArray, List.getElem?_cons_zero, List.getElem?_cons_succ] at d0 d1
                                have zd := hDQ.b.lt
                                have HQ9 := Lib.hid (below3 (below3 HX.out HD2.out.low (Nat.le_refl _)) HY.out.2.2.1 (Nat.le_refl _))
                                clear hLR hDQ hNQ hld hlt hk
                                go_wp2_with fail
                                refine KE3.mono ?_
                                rintro e wt ⟨rfl, hB⟩
                                have HX2 := Lib.hid (below3 HQ9.out hB (Nat.le_refl _))
                                clear hB KE3 d0 d1 zd
                                go_wp2
                                go_roundw
                                case rel => exact ⟨j + 1, by have := HJL.out; omega, by go_num, HX2⟩
                                case measure => have := HJL.out; simp [intOf]; omega
                  · obtain rfl : sn = j := by omega
                    clear hjl hj
                    go_wp2_with fail
                    refine (awake_yes _).mono ?_
                    rintro e w19 ⟨rfl, hB⟩
                    have HF := Lib.hid (below3 (below3 HS.out.1.low HI.out.low (Nat.le_refl _)) (below3 (below3 HZ.out HX.out (Nat.le_refl _)) hB (Nat.le_refl _)) (Nat.le_refl _))
                    clear hB
                    go_wp2
                    go_ret
                    exact ⟨rfl, HF.out⟩
          · replace hc : canB (c.put V) LS = false := by simpa using hc
            have KE1 := Lib.hid (Explains_any (c.put V) HCV.out.1 (some ⟨nb, 0, none⟩) (some ⟨vb, 0, none⟩) SA n n n sn sc LS w5 HK5.out HVS.out.1 HRS.out.1)
            have HE1v := KE1.out
            rw [hc] at HE1v
            have hS := HS.out.1.next (HI.out.low)
            have cc0 := hS.c.cell 0
            have cc1 := hS.c.cell 1
            simp only [List.getElem?_toArray, List.getElem?_cons_zero, List.getElem?_cons_succ] at cc0 cc1
            have zc := hS.c.lt
            clear hS
            go_wp2_with fail
            refine HE1v.mono ?_
            rintro e w6 ⟨rfl, hB6⟩
            have H6 := Lib.hid hB6
            clear hB6 HE1v KE1
            clear cc0 cc1 zc
            have hS := HS.out.1.next (below3 HI.out.low H6.out (Nat.le_refl _))
            have cc0 := hS.c.cell 0
            have cc1 := hS.c.cell 1
            simp only [List.getElem?_toArray, List.getElem?_cons_zero, List.getElem?_cons_succ] at cc0 cc1
            have zc := hS.c.lt
            clear hS
            obtain ⟨ab, hab⟩ : ∃ z, z = canB (c.put V) LD := ⟨_, rfl⟩
            have KE2 := Explains_any (c.put V) HCV.out.1 (some ⟨nb, 0, none⟩) (some ⟨vb, 0, none⟩) DA n n n dn dc LD w6 (HK5.out.next H6.out) HVS.out.2 (HRS.out.2.next H6.out)
            rw [← hab] at KE2
            clear hab
            go_wp2_with fail
            refine KE2.mono ?_
            rintro e w7 ⟨rfl, hB7⟩
            have H7 := Lib.hid (below3 H6.out hB7 (Nat.le_refl _))
            clear hB7 KE2
            clear cc0 cc1 zc
            have hS := HS.out.1.next (below3 HI.out.low H7.out (Nat.le_refl _))
            have cc0 := hS.c.cell 0
            have cc1 := hS.c.cell 1
            simp only [List.getElem?_toArray, List.getElem?_cons_zero, List.getElem?_cons_succ] at cc0 cc1
            have zc := hS.c.lt
            clear hS
            have KLE := Least_any (c.put V) HCV.out.1 (some ⟨nb, 0, none⟩) (some ⟨vb, 0, none⟩) n n n w7 (HK5.out.next H7.out)
            go_wp2_with fail
            refine KLE.mono ?_
            rintro e w8 ⟨hlv, hB8⟩
            have H8 := Lib.hid (below3 H7.out hB8 (Nat.le_refl _))
            clear hB8 KLE
            clear cc0 cc1 zc
            obtain ⟨v, rfl, hlw⟩ : ∃ v, e = .returned (.tuple #[v, .int .i64 0]) ∧ LeastV w8 w7.heap.size (c.put V) v := by
              rcases hlv with h | ⟨_, h⟩
              · exact h
              · exfalso
                have h1 := h ((List.range n).filter fun _ => true) (vc_range n _)
                rw [can_of_sol HCV.out.1 HCV.out.2 (fun i hi hn => by exfalso; apply hn; have := HM.out.cn; rw [put_n, this] at hi; simp [hi])] at h1
                cases h1
            obtain ⟨lg, lm, lca, lk, xA, xc, LL, rfl, hlm, hlg, hlc, hLI⟩ := least_first hlw
            have hm0 : (0 : Int) < (lm : Int) := by omega
            clear hlv hlw hLI
            have hS := HS.out.1.next (below3 HI.out.low H8.out (Nat.le_refl _))
            have cc0 := hS.c.cell 0
            have cc1 := hS.c.cell 1
            simp only [List.getElem?_toArray, List.getElem?_cons_zero, List.getElem?_cons_succ] at cc0 cc1
            have zc := hS.c.lt
            clear hS
            go_wp2_with fail
            have KR := Repair_any (c.put V) HCV.out.1 (some ⟨nb, 0, none⟩) (some ⟨vb, 0, none⟩) SA n n n sn sc LS w8 (HK5.out.next H8.out) HVS.out.1 (HRS.out.1.next H8.out)
            refine KR.mono ?_
            rintro e w9 ⟨hrp, hB9⟩
            obtain rfl : e = .returned (.tuple #[.slice none 0 0, .int .i64 4]) := by
              rcases hrp with ⟨h, _⟩ | ⟨_, h⟩
              · rw [hc] at h; cases h
              · exact h
            have H9 := Lib.hid (below3 H8.out hB9 (Nat.le_refl _))
            clear hB9 hrp KR hc
            go_wp2_with fail
            refine (awake_yes _).mono ?_
            rintro e w10 ⟨rfl, hB⟩
            have HF := Lib.hid (below3 (below3 HS.out.1.low HI.out.low (Nat.le_refl _)) (below3 H9.out hB (Nat.le_refl _)) (Nat.le_refl _))
            clear hB
            go_wp2
            go_ret
            exact ⟨rfl, HF.out⟩
end Go.Proofs.Ytcecbohaajocfaa
