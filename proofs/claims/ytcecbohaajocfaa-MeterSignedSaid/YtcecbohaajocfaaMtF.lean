/- meter: narrow, freed. -/
import Derived.Test.YtcecbohaajocfaaMtN
import Derived.Laws.EntriesVeiled

set_option linter.unusedSimpArgs false
set_option linter.unusedVariables false
namespace Go.Proofs.Ytcecbohaajocfaa
open Go.RowKit

theorem madeCells_rep (z : Array Value) (hz : 0 < z.size) (n : Nat) : madeCells z (n * z.size) = ((List.replicate n z.toList).flatten).toArray := by
  unfold madeCells
  rw [← Array.toList_inj, Array.toList_map, Array.toList_range]
  show (List.range (n * z.size)).map _ = (List.replicate n z.toList).flatten
  induction n with
  | zero => simp
  | succ n ih =>
    rw [Nat.succ_mul, List.range_add, List.map_append, ih, List.replicate_succ', List.flatten_append, List.flatten_singleton, List.map_map]
    congr 1
    apply List.ext_getElem
    · simp
    · intro i h1 h2
      have h3 : i < z.size := by simpa using h2
      simp only [List.getElem_map, List.getElem_range, Function.comp_apply]
      rw [Nat.mul_comm n, Nat.mul_add_mod, Nat.mod_eq_of_lt h3, getElem!_pos z i h3]
      simp
theorem block_of_cell {w : World} {b o : Nat} {v : Value} (h : w.cell? ⟨b, o, none⟩ = some v) : b < w.heap.size := by
  unfold World.cell? at h
  split at h
  · rename_i hb
    exact (Array.getElem?_eq_some_iff.1 hb).1
  · cases h
def mpS (f : Nat → Sp) (n : Nat) : List Sp := (List.range n).map f
theorem mpS_get {f : Nat → Sp} {n i : Nat} (h : i < n) : (mpS f n)[i]? = some (f i) := by simp [mpS, h]
theorem mpS_len (f : Nat → Sp) (n : Nat) : (mpS f n).length = n := by simp [mpS]
theorem mpS_set {f : Nat → Sp} {n k : Nat} (y : Sp) : (mpS f n).set k y = mpS (fun i => if i = k then y else f i) n := by
  apply List.ext_getElem
  · simp [mpS]
  · intro i h1 h2
    simp only [mpS, List.getElem_set, List.getElem_map, List.getElem_range]
    by_cases e : k = i
    · subst e; simp
    · rw [if_neg e, if_neg (fun h => e h.symm)]
theorem mpS_congr {f g : Nat → Sp} {n : Nat} (h : ∀ i, i < n → f i = g i) : mpS f n = mpS g n := List.map_congr_left fun i hi => h i (List.mem_range.1 hi)
theorem mpS_of {f : Nat → Sp} {n : Nat} {S : List Sp} (hl : S.length = n) (h : ∀ i, i < n → S.getD i (0, 0) = f i) : S = mpS f n := by
  apply List.ext_getElem
  · rw [mpS_len, hl]
  · intro i h1 h2
    have := h i (by omega)
    rw [List.getD_eq_getElem?_getD, List.getElem?_eq_getElem h1] at this
    simpa [mpS] using this
/-- make([]span, n). -/
theorem run_makeSp (n : Nat) (hn : n ≤ 100000) (w : World) : (Instr.makeSlice 116 (.int .i64 n) (.int .i64 n)).run Try.prog w = .ok (.slice (some ⟨w.heap.size, 0, none⟩) n n) (w.alloc (.cells ((mpS (fun _ => (0, 0)) n).flatMap encS).toArray 138)) := by
  obtain ⟨i, hi, hz, hs, hb⟩ := info_parts spanInfo
  have h := run_make (P := Try.prog) w 116 138 i _ Try.underlying116 hi hz .i64 .i64 n n (by omega) (by omega) (by rw [hb]; omega) (by omega)
  have e : madeCells (Value.agg #[.int .i64 0, .int .i64 0]).cells (n * 2) = ((mpS (fun _ => (0, 0)) n).flatMap encS).toArray := by
    have := madeCells_rep #[.int .i64 0, .int .i64 0] (by simp) n
    have e2 : mpS (fun _ => ((0, 0) : Sp)) n = List.replicate n (0, 0) := by simp [mpS, List.map_const']
    rw [e2, List.flatMap_replicate]
    exact this
  simp only [Int.toNat_natCast, hs, e] at h
  exact h
theorem row_blkS {W : World} {b : Nat} {S : List Sp} (h : Blk W b 138 (S.flatMap encS).toArray) : RowW W b 138 encS (some ⟨b, 0, none⟩) S := Or.inr ⟨rfl, _, h, fun j u hu => by simpa using hu⟩
set_option maxRecDepth 100000 in
set_option maxHeartbeats 2000000 in
theorem narrow_all (c : Ks) (ok : KsOk c) (s0 : Nat → Sp) (hs0 : SpB c s0) (nA vA : Option Addr) (n nc vc sc sp B : Nat) (w : World) (hcn : c.n = n) (hin : KsIn w B n nA vA c) (hlo : B ≤ sp) (hR : RowW w sp 138 encS (some ⟨sp, 0, none⟩) (mpS s0 n)) :
    Calls Try.prog 83 #[.agg #[.slice nA n nc, .slice vA n vc, .slice (some ⟨sp, 0, none⟩) n sc]] w fun e w' => e = .returned (.tuple #[]) ∧ Keep (fun b => b = sp) w w' ∧ RowW w' sp 138 encS (some ⟨sp, 0, none⟩) (mpS (narS c s0) n) := by
  have h1n : 1 ≤ n := by rw [← hcn]; exact ok.n1
  have hlt : sp < w.heap.size := (rowS_at hR (mpS_get (f := s0) (show 0 < n by omega))).2.2.1
  have HIN := Lib.hid (And.intro hin (And.intro hlo (And.intro hlt hR)))
  have KN := Lib.hid (fun (tB fB : Nat) (W : World) (hW : Below w.heap.size w W) (hb : Blk W tB 118 #[.slice nA n nc, .slice vA n vc, .slice (some ⟨sp, 0, none⟩) n sc]) (hf : Blk W fB 139 #[.func (.func 105) #[] #[.pointer (some ⟨tB, 0, none⟩), .pointer (some ⟨fB, 0, none⟩)]]) (ht : w.heap.size ≤ tB ∧ w.heap.size ≤ fB) => narrow_any c ok s0 hs0 nA vA n nc vc sc tB fB sp B hcn n 0 (mpS s0 n) W (by omega) (by omega) ⟨hb, hf, ⟨hin.nd.below (hW.mono (by omega)), hin.vl.below (hW.mono (by omega))⟩, Nat.lt_of_lt_of_le hlt hW.size, hlo, by omega, by omega⟩ (hR.below9 hW) ⟨by rw [mpS_len, hcn], fun j hj => Or.inl (by rw [List.getD_eq_getElem?_getD, mpS_get (by omega)]; rfl)⟩)
  have HC := Lib.hid (And.intro hcn (And.intro h1n ok))
  have g1 : w.heap.size < w.heap.size + 1 := by omega
  have g2 : w.heap.size + 1 < w.heap.size + 1 + 1 := by omega
  clear hin hlo hlt hR hcn h1n ok hs0
  go_enter Try.func83, Try.ntmps83
  go_wp2_with fail
  obtain ⟨tB, htB⟩ : ∃ z, z = w.heap.size := ⟨_, rfl⟩
  obtain ⟨w1, hw1⟩ : ∃ z, z = w.alloc (.cells #[.slice nA n nc, .slice vA n vc, .slice (some ⟨sp, 0, none⟩) n sc] 118) := ⟨_, rfl⟩
  have TB : Hid (Blk w1 tB 118 #[.slice nA n nc, .slice vA n vc, .slice (some ⟨sp, 0, none⟩) n sc]) := Lib.hid (by rw [hw1, htB]; exact heap_alloc_new w _)
  have Sw1 : Hid (w1.heap.size = tB + 1) := Lib.hid (by rw [hw1, htB, World.size_alloc])
  have ZtB : Hid (w.heap.size ≤ tB) := Lib.hid (by rw [htB]; exact Nat.le_refl _)
  have hBn : Below w.heap.size w w1 := by rw [hw1]; exact (Below.refl _ _).alloc (Nat.le_refl _) _
  rw [← hw1, ← htB]
  have B0 : Hid (Below w.heap.size w w1) := Lib.hid hBn
  clear hw1 htB hBn
  obtain ⟨fB, hfB⟩ : ∃ z, z = tB + 1 := ⟨_, rfl⟩
  rw [← hfB]
  obtain ⟨w2, hw2⟩ : ∃ z, z = w1.alloc (.cells #[.func (.func 105) #[] #[.pointer (some ⟨tB, 0, none⟩), .pointer (some ⟨fB, 0, none⟩)]] 139) := ⟨_, rfl⟩
  have FB : Hid (Blk w2 fB 139 #[.func (.func 105) #[] #[.pointer (some ⟨tB, 0, none⟩), .pointer (some ⟨fB, 0, none⟩)]]) := Lib.hid (by
    have e2 := heap_alloc_new w1 (.cells #[.func (.func 105) #[] #[.pointer (some ⟨tB, 0, none⟩), .pointer (some ⟨fB, 0, none⟩)]] 139)
    have e3 : w1.heap.size = fB := by rw [Sw1.out, hfB]
    rw [e3] at e2
    rw [hw2]
    exact e2)
  have ZfB : Hid (w1.heap.size = fB) := Lib.hid (by rw [Sw1.out, hfB])
  have hBn : Below w1.heap.size w1 w2 := by rw [hw2]; exact (Below.refl _ _).alloc (Nat.le_refl _) _
  rw [← hw2]
  have B1 : Hid (Below w1.heap.size w1 w2) := Lib.hid hBn
  clear hw2 hfB hBn
  clear g1 g2
  have CN := Lib.hid (KN.out tB fB w2 (below3 B0.out B1.out (Nat.le_refl _)) (TB.out.below B1.out TB.out.lt) FB.out (by have h1 := ZtB.out; have h2 := ZfB.out; have h3 := Sw1.out; exact ⟨h1, by omega⟩))
  go_wp2_with fail
  refine CN.out.mono ?_
  rintro e w3 ⟨rfl, hk, S', hS, hE⟩
  have HF : Hid (Keep (fun b => b = sp) w w3 ∧ RowW w3 sp 138 encS (some ⟨sp, 0, none⟩) (mpS (narS c s0) n)) := Lib.hid ⟨keep_from (below3 B0.out B1.out (Nat.le_refl _)) hk (fun b e _ => e), by
    rw [← mpS_of (S := S') (by rw [hE.len, HC.out.1]) (fun i hi => hE.new i (dsc_all HC.out.2.2 i (by rw [HC.out.1]; exact hi)))]
    exact hS⟩
  clear hk hS hE CN
  go_wp2
  go_end0
  exact ⟨rfl, HF.out⟩
def frPhi (z bx n nc vc : Nat) (nA vA : Option Addr) : Nat → Value → World → (Nat → Nat) → Prop
  | 0, v, _, _ => v = .agg #[.slice nA n nc, .slice vA n vc]
  | 1, v, _, _ => v = .pointer (some ⟨bx, 0, none⟩)
  | 2, v, _, _ => v = .slice nA n nc
  | 3, v, _, _ => v = .int .i64 (n : Int)
  | 4, v, W, γ => v = .slice (some ⟨γ 31, 0, none⟩) n n ∧ z ≤ γ 31 ∧ Blk W (γ 31) 138 ((mpS (fun _ => (0, 0)) n).flatMap encS).toArray
  | 5, v, _, γ => v = .agg #[.slice nA n nc, .slice vA n vc, .slice (some ⟨γ 31, 0, none⟩) n n]
  | 6, v, W, γ => v = .pointer (some ⟨γ 30, 0, none⟩) ∧ z ≤ γ 30 ∧ (γ 20 = 0 → Blk W (γ 30) 118 #[.slice none 0 0, .slice none 0 0, .slice none 0 0])
  | 7, _, W, γ => Blk W (γ 30) 118 #[.slice nA n nc, .slice vA n vc, .slice (some ⟨γ 31, 0, none⟩) n n]
  | _, _, _, _ => True
theorem frPhi_next {z bx n nc vc : Nat} {nA vA : Option Addr} {j : Nat} {v : Value} {W W' : World} {γ γ' : Nat → Nat} (hb : Below W.heap.size W W') (h4 : (j = 4 ∨ j = 5 ∨ j = 7) → γ' 31 = γ 31) (h6 : (j = 6 ∨ j = 7) → γ' 30 = γ 30 ∧ γ' 20 = γ 20) (h : frPhi z bx n nc vc nA vA j v W γ) : frPhi z bx n nc vc nA vA j v W' γ' := by
  unfold frPhi at h ⊢
  split at h
  all_goals first | exact h | trivial | skip
  · rw [h4 (Or.inl rfl)]; exact ⟨h.1, h.2.1, h.2.2.below hb h.2.2.lt⟩
  · rw [h4 (Or.inr (Or.inl rfl))]; exact h
  · obtain ⟨e1, e2⟩ := h6 (Or.inl rfl)
    rw [e1, e2]
    exact ⟨h.1, h.2.1, fun e => (h.2.2 e).below hb (h.2.2 e).lt⟩
  · rw [h4 (Or.inr (Or.inr rfl)), (h6 (Or.inr rfl)).1]; exact h.below hb h.lt
theorem iniS_take {c : Ks} {set : List Nat} {k x : Nat} (hx : set[k]? = some x) (i : Nat) : iniS c (set.take (k + 1)) i = if i = x then (0, 1000000000) else iniS c (set.take k) i := by
  have e : set.take (k + 1) = set.take k ++ [x] := by rw [List.take_add_one, hx]; rfl
  unfold iniS
  rw [e]
  by_cases h : i = x
  · rw [if_pos h, if_pos (by rw [h]; simp)]
  · rw [if_neg h]
    by_cases h2 : i ∈ set.take k
    · rw [if_pos (List.mem_append_left _ h2), if_pos h2]
    · rw [if_neg (by intro h3; rcases List.mem_append.1 h3 with h3 | h3; exact h2 h3; exact h (by simpa using h3)), if_neg h2]
set_option maxRecDepth 100000 in
set_option maxHeartbeats 4000000 in
theorem freed_any (c : Ks) (ok : KsOk c) (nA vA aA : Option Addr) (n nc vc an ac : Nat) (set : List Nat) (w : World) (hin : KsIn w w.heap.size n nA vA c) (hset : Rd w w.heap.size 1 encN aA an set) (hlt : ∀ x ∈ set, x < n) (han : an ≤ 1000) :
    Calls Try.prog 47 #[.agg #[.slice nA n nc, .slice vA n vc], .slice aA an ac] w fun e w' => ∃ sp, e = .returned (.agg #[.slice nA n nc, .slice vA n vc, .slice (some ⟨sp, 0, none⟩) n n]) ∧ w.heap.size ≤ sp ∧ RowW w' sp 138 encS (some ⟨sp, 0, none⟩) (mpS (narS c (iniS c set)) n) ∧ Below w.heap.size w w' := by
  have hcn := hin.len
  have h14 : n ≤ 14 := by rw [← hcn]; exact ok.n14
  have hmk := run_makeSp n (by omega)
  have HC := Lib.hid (And.intro hcn (And.intro h14 (And.intro ok han)))
  have HIN := Lib.hid (And.intro hin (And.intro hset hlt))
  have HS0 : Hid (SpB c (iniS c set)) := Lib.hid (fun i hi => iniS_bd ok set hi)
  have KNA := Lib.hid (fun (sp : Nat) (W : World) (hW : Below w.heap.size w W) (hs : w.heap.size ≤ sp) (hR : RowW W sp 138 encS (some ⟨sp, 0, none⟩) (mpS (iniS c set) n)) => narrow_all c ok (iniS c set) (fun i hi => iniS_bd ok set hi) nA vA n nc vc n sp w.heap.size W hcn ⟨hin.nd.below hW, hin.vl.below hW⟩ hs hR)
  have g1 : w.heap.size < w.heap.size + 1 := by omega
  have g2 : w.heap.size + 1 < w.heap.size + 1 + 1 := by omega
  clear hin hset hlt hcn h14 ok han
  go_enter Try.func47, Try.ntmps47
  go_wp2_with fail
  obtain ⟨bx, hbx⟩ : ∃ z, z = w.heap.size := ⟨_, rfl⟩
  obtain ⟨w1, hw1⟩ : ∃ z, z = w.alloc (.cells #[.slice nA n nc, .slice vA n vc] 35) := ⟨_, rfl⟩
  have BX : Hid (Blk w1 bx 35 #[.slice nA n nc, .slice vA n vc]) := Lib.hid (by rw [hw1, hbx]; exact heap_alloc_new w _)
  have Sw1 : Hid (w1.heap.size = bx + 1) := Lib.hid (by rw [hw1, hbx, World.size_alloc])
  have Zbx : Hid (w.heap.size ≤ bx) := Lib.hid (by rw [hbx]; exact Nat.le_refl _)
  have hBn : Below w.heap.size w w1 := by rw [hw1]; exact (Below.refl _ _).alloc (Nat.le_refl _) _
  rw [← hw1, ← hbx]
  have B0 : Hid (Below w.heap.size w w1) := Lib.hid hBn
  clear hw1 hbx hBn
  obtain ⟨rb, hrb⟩ : ∃ z, z = bx + 1 := ⟨_, rfl⟩
  obtain ⟨w2, hw2⟩ : ∃ z, z = w1.alloc (.cells #[.slice none 0 0, .slice none 0 0, .slice none 0 0] 118) := ⟨_, rfl⟩
  have RB : Hid (Blk w2 rb 118 #[.slice none 0 0, .slice none 0 0, .slice none 0 0]) := Lib.hid (by have e2 := heap_alloc_new w1 (.cells #[.slice none 0 0, .slice none 0 0, .slice none 0 0] 118); rw [Sw1.out] at e2; rw [hw2, hrb]; exact e2)
  have Sw2 : Hid (w2.heap.size = rb + 1) := Lib.hid (by rw [hw2, hrb, World.size_alloc, Sw1.out])
  have Zrb : Hid (w1.heap.size = rb) := Lib.hid (by rw [Sw1.out, hrb])
  have hBn : Below w1.heap.size w1 w2 := by rw [hw2]; exact (Below.refl _ _).alloc (Nat.le_refl _) _
  rw [← hw2, ← hrb]
  have B1 : Hid (Below w1.heap.size w1 w2) := Lib.hid hBn
  clear hw2 hrb hBn
  clear g1 g2
  refine wp_region_free10 7 (by kernel_rfl) [some 10, some 11, some 12, some 13, some 14, some 15, some 5, none] [[], [], [1], [2], [3, 3], [0, 4], [], [6, 5, 0, 1, 2, 3, 4, 5, 6]] [(2, .pointer (some ⟨bx, 0, none⟩))] (fun W _ => Below w2.heap.size w2 W) (frPhi w2.heap.size bx n nc vc nA vA) (fun i _ γ => (i = 6 ∨ i = 7) → γ 20 = 0) (by kernel_rfl) (by kernel_rfl) rfl (by kernel_rfl) ?_ ?_ ⟨fun _ => 0, (Below.refl _ _).drew, fun _ _ _ => rfl⟩ ?_ ?_
  · intro z hz
    simp only [List.mem_cons, List.mem_nil_iff, or_false] at hz
    subst hz
    all_goals exact ⟨by kernel_rfl, rfl⟩
  · intro i v W γ hi h
    rcases i with _ | _ | _ | _ | _ | _ | _ | _ | i
    all_goals first | exact h | (simp at hi)
  · refine ⟨?_, ?_, ?_, ?_, ?_, ?_, ?_, ?_, trivial⟩
    all_goals
      intro a9 W γ ev hcc hff hfx hR hψ hpre
      simp only [List.mem_cons, List.mem_nil_iff, or_false, forall_eq, forall_eq_or_imp] at hfx
      have f0 := hfx
      clear hfx
      have HR := Lib.hid hR
      clear hR
    · refine ⟨fun hg K hK => ?_, trivial⟩
      clear hg
      have hbk := BX.out.below (below3 B1.out HR.out (Nat.le_refl _)) BX.out.lt
      have hzg := hbk.lt
      have e0 := hbk.cell 0
      have e1 := hbk.cell 1
      simp only [List.getElem?_toArray, List.getElem?_cons_zero, List.getElem?_cons_succ] at e0 e1
      clear hbk
      clear hpre hψ
      go_simp
      exact hK _ _ γ HR.out (fun _ _ _ _ h => h) (fun _ _ _ h => h) rfl
    · refine ⟨fun hg K hK => ?_, trivial⟩
      clear hg
      clear hpre hψ
      go_simp
      exact hK _ _ γ HR.out (fun _ _ _ _ h => h) (fun _ _ _ h => h) rfl
    · refine ⟨fun hg K hK => ?_, trivial⟩
      clear hg
      have q0 : ev (.tmp 11) = _ := hpre 1 (by decide)
      have hbk := BX.out.below (below3 B1.out HR.out (Nat.le_refl _)) BX.out.lt
      have hzg := hbk.lt
      have e0 := hbk.cell 0
      have e1 := hbk.cell 1
      simp only [List.getElem?_toArray, List.getElem?_cons_zero, List.getElem?_cons_succ] at e0 e1
      clear hbk
      clear hpre hψ
      go_simp
      exact hK _ _ γ HR.out (fun _ _ _ _ h => h) (fun _ _ _ h => h) rfl
    · refine ⟨fun hg K hK => ?_, trivial⟩
      clear hg
      have q0 : ev (.tmp 12) = _ := hpre 2 (by decide)
      clear hpre hψ
      go_simp
      exact hK _ _ γ HR.out (fun _ _ _ _ h => h) (fun _ _ _ h => h) rfl
    · refine ⟨fun hg K hK => ?_, trivial⟩
      clear hg
      have q0 : ev (.tmp 13) = _ := hpre 3 (by decide)
      have HXA := HR
      clear hpre hψ
      go_simp
      have hB5 : Below W.heap.size W (W.alloc (.cells ((mpS (fun _ => (0, 0)) n).flatMap encS).toArray 138)) := (Below.refl _ _).alloc (Nat.le_refl _) _
      refine hK _ _ (fun i => if i = 31 then W.heap.size else γ i) (below3 HXA.out hB5 (Nat.le_refl _)) (fun j u hj hne h => frPhi_next hB5 (fun e => ?_) (fun e => ⟨by simp, by simp⟩) h) (fun _ j hj h => by simpa using h) ⟨by simp, by simp only [if_pos]; exact HXA.out.size, by simp only [if_pos]; exact heap_alloc_new W _⟩
      rcases e with e | e | e
      · exact absurd e hne
      · subst e; exact absurd (by decide) hj
      · subst e; exact absurd (by decide) hj
    · refine ⟨fun hg K hK => ?_, trivial⟩
      clear hg
      have q0 : ev (.tmp 10) = _ := hpre 0 (by decide)
      obtain ⟨q4, _⟩ := hpre 4 (by decide)
      replace q4 : ev (.tmp 14) = _ := q4
      have HXA := HR
      clear hpre hψ
      go_simp
      exact hK _ _ γ HXA.out (fun _ _ _ _ h => h) (fun _ _ _ h => h) rfl
    · refine ⟨fun hg K hK => ?_, trivial⟩
      clear hg
      have HXA := HR
      have HPS : Hid (γ 20 = 0) := Lib.hid ((hψ : (6 = 6 ∨ 6 = 7) → γ 20 = 0) (Or.inl rfl))
      clear hpre hψ
      go_simp
      have hB5 : Below W.heap.size W (W.alloc (.cells #[.slice none 0 0, .slice none 0 0, .slice none 0 0] 118)) := (Below.refl _ _).alloc (Nat.le_refl _) _
      refine hK _ _ (fun i => if i = 30 then W.heap.size else γ i) (below3 HXA.out hB5 (Nat.le_refl _)) (fun j u hj hne h => frPhi_next hB5 (fun e => by simp) (fun e => ?_) h) (fun _ j hj h => by simpa using h) ⟨by simp, by simp only [if_pos]; exact HXA.out.size, fun _ => by simp only [if_pos]; exact heap_alloc_new W _⟩
      rcases e with e | e
      · exact absurd e hne
      · subst e; exact absurd (by decide) hj
    · refine ⟨fun hg K hK => ?_, trivial⟩
      clear hg
      have q0 : ev (.tmp 15) = _ := hpre 5 (by decide)
      obtain ⟨q6, hz6, hb6⟩ := hpre 6 (by decide)
      obtain ⟨_, hz4, hb4⟩ := hpre 4 (by decide)
      replace q6 : ev (.tmp 5) = _ := q6
      have hb6 := hb6 ((hψ : (7 = 6 ∨ 7 = 7) → γ 20 = 0) (Or.inr rfl))
      obtain ⟨bb, hbb⟩ : ∃ z, z = γ 30 := ⟨_, rfl⟩
      obtain ⟨cc, hcc⟩ : ∃ z, z = γ 31 := ⟨_, rfl⟩
      rw [← hbb] at q6 hz6 hb6
      rw [← hcc] at q0 hz4 hb4
      have d0 := hb6.cell 0
      have d1 := hb6.cell 1
      have d2 := hb6.cell 2
      simp only [List.getElem?_toArray, List.getElem?_cons_zero, List.getElem?_cons_succ] at d0 d1 d2
      have zr := hb6.lt
      have fr := hb6.frozen
      obtain ⟨W', hW'⟩ : ∃ z, z = (((W.setCell ⟨bb, 0, none⟩ (.slice nA n nc)).setCell ⟨bb, 1, none⟩ (.slice vA n vc)).setCell ⟨bb, 2, none⟩ (.slice (some ⟨cc, 0, none⟩) n n)) := ⟨_, rfl⟩
      have hkk : Keep (fun b => b = bb) W W' := by rw [hW']; exact ((((Keep.refl (fun b => b = bb) W).setCell rfl _).setCell rfl _).setCell rfl _)
      have hrow : Blk W' bb 118 #[.slice nA n nc, .slice vA n vc, .slice (some ⟨cc, 0, none⟩) n n] := by
        have h := (((hb6.set_ 0 (.slice nA n nc)).set_ 1 (.slice vA n vc)).set_ 2 (.slice (some ⟨cc, 0, none⟩) n n))
        rw [hW']
        simpa using h
      have hne9 : cc ≠ bb := blk_ne hb4 hb6 (by decide)
      have HXA := Lib.hid (And.intro hrow (And.intro hkk (And.intro hz6 (And.intro hz4 (And.intro hb4 (And.intro hne9 (And.intro hbb hcc)))))))
      have HRW := HR
      clear hpre hψ hrow hkk hz6 hz4 hb4 hb6 hne9 hbb hcc
      go_simp
      rw [← hW']
      obtain ⟨hrow, hkk, hz6, hz4, hb4, hne9, hbb, hcc⟩ := HXA.out
      refine hK undef _ (fun i => if i = 20 then 1 else γ i) (HRW.out.trans (hkk.below HRW.out.size (fun b e => by rw [e]; exact hz6))) (fun j u hj hne h => ?_) (fun h => absurd rfl h) (by show Blk W' (γ 30) _ #[_, _, .slice (some ⟨γ 31, 0, none⟩) n n]; rw [← hbb, ← hcc]; exact hrow)
      unfold frPhi at h ⊢
      split at h
      all_goals first | exact h | trivial | skip
      · exact ⟨h.1, h.2.1, by show Blk W' (γ 31) _ _; rw [← hcc]; exact hkk.blk hb4 hne9⟩
      · exact ⟨h.1, h.2.1, fun e => absurd e (by simp)⟩
  · intro vs w3 γ hvl hR hφ
    have q4 := hφ 4 (by decide)
    have q6 := hφ 6 (by decide)
    have q7 := hφ 7 (by decide)
    have HR := Lib.hid hR
    clear hφ hR
    match vs, hvl with
    | [y0, y1, y2, y3, y4, y5, y6, y7], _ =>
    simp only [List.getD_cons_zero, List.getD_cons_succ] at q4 q6 q7
    obtain ⟨_, hz4, hb4⟩ := q4
    obtain ⟨q6, hz6, _⟩ := q6
    have q7 : Blk w3 (γ 30) 118 #[.slice nA n nc, .slice vA n vc, .slice (some ⟨γ 31, 0, none⟩) n n] := q7
    obtain ⟨tb, htb⟩ : ∃ z, z = γ 30 := ⟨_, rfl⟩
    obtain ⟨sp, hsp⟩ : ∃ z, z = γ 31 := ⟨_, rfl⟩
    rw [← htb] at q6 hz6 q7
    rw [← hsp] at hz4 hb4 q7
    obtain rfl : y6 = _ := q6
    have TB := Lib.hid q7
    have RS := Lib.hid (row_blkS hb4)
    have hB9 := HR.out
    have HNE : Hid (tb ≠ sp ∧ bx ≠ sp ∧ rb ≠ sp ∧ w2.heap.size ≤ sp ∧ w2.heap.size ≤ tb) := Lib.hid (by
      have h1 := blk_ne q7 hb4 (by decide)
      have h3 := RB.out.lt
      have h4 := BX.out.lt
      have h5 := B1.out.size
      exact ⟨h1, by omega, by omega, hz4, hz6⟩)
    have B2 : Hid (Below w2.heap.size w2 w3) := Lib.hid hB9
    clear HR hz4 hb4 hz6 q7 htb hsp hB9
    have hbk := BX.out.below (below3 B1.out B2.out (Nat.le_refl _)) BX.out.lt
    have e0 := hbk.cell 0
    have e1 := hbk.cell 1
    have ze := hbk.lt
    simp only [List.getElem?_toArray, List.getElem?_cons_zero, List.getElem?_cons_succ] at e0 e1
    clear hbk
    simp [putAll]
    go_wp2
    clear e0 e1 ze
    go_loopw [19] (fun iv wr => ∃ (k : Nat) (f : Nat → Sp), k ≤ n ∧ iv = .int .i64 ((k : Nat) : Int) ∧ Hid (Keep (fun b => b = sp) w3 wr ∧ RowW wr sp 138 encS (some ⟨sp, 0, none⟩) (mpS f n) ∧ ∀ i, i < k → f i = (c.v i, c.v i))) (fun iv _ => n - (intOf iv).toNat)
    case atStart => exact ⟨0, _, Nat.zero_le _, rfl, Lib.hid ⟨Keep.refl _ _, RS.out, fun i hi => absurd hi (by omega)⟩⟩
    case round =>
      obtain ⟨k, f, hk, rfl, HW⟩ := hrel
      have hkeep := HW.out.1.blk TB.out HNE.out.1
      have HTB := Lib.hid hkeep
      by_cases hlt : k < n
      · have HLT : Hid (k < n) := Lib.hid hlt
        have hk0 : (0 : Int) ≤ (k : Int) := by omega
        have hkn : (k : Int) < (n : Int) := by omega
        have hk9 : (k : Int) ≤ 14 := by have := HC.out; omega
        obtain ⟨vb, vo, eV, hvb, cv⟩ := HIN.out.1.vlAt hlt
        have cv1 : w3.cell? ⟨vb, vo + k, none⟩ = some (.int .i64 (c.v k)) := (Below.cell (below3 (below3 B0.out B1.out (Nat.le_refl _)) B2.out (Nat.le_refl _)) (p := ⟨vb, vo + k, none⟩) hvb).trans cv
        have hv3 : vb < w3.heap.size := Nat.lt_of_lt_of_le hvb (below3 (below3 B0.out B1.out (Nat.le_refl _)) B2.out (Nat.le_refl _)).size
        have cv2 := HW.out.1.cell hv3 (by have := HNE.out; have h8 := (below3 B0.out B1.out (Nat.le_refl _)).size; have h7 := B2.out.size; omega) cv1
        have zv : vb < wr.heap.size := block_of_cell cv2
        obtain ⟨v, hv⟩ : ∃ z, z = c.v k := ⟨_, rfl⟩
        rw [← hv] at cv2
        have HV := Lib.hid hv
        have t2 := hkeep.cell 2
        have zt := hkeep.lt
        simp only [List.getElem?_toArray, List.getElem?_cons_zero, List.getElem?_cons_succ] at t2
        obtain ⟨s0, s1, zs, fr⟩ := rowS_at HW.out.2.1 (mpS_get hlt)
        have fr0 := fr (k * 2)
        have fr1 := fr (k * 2 + 1)
        obtain ⟨W', hW'⟩ : ∃ z, z = (wr.setCell ⟨sp, k * 2, none⟩ (.int .i64 v)).setCell ⟨sp, k * 2 + 1, none⟩ (.int .i64 v) := ⟨_, rfl⟩
        have HN9 : Hid (Keep (fun b => b = sp) w3 W' ∧ RowW W' sp 138 encS (some ⟨sp, 0, none⟩) (mpS (fun i => if i = k then (v, v) else f i) n) ∧ ∀ i, i < k + 1 → (fun i => if i = k then (v, v) else f i) i = (c.v i, c.v i)) := Lib.hid (by
          refine ⟨?_, ?_, fun i hi => ?_⟩
          · rw [hW']; exact (HW.out.1.setCell rfl _).setCell rfl _
          · rw [← mpS_set, hW']; exact rowS_set HW.out.2.1 (mpS_get hlt) (v, v)
          · dsimp only
            split
            · rename_i e; rw [e, hv]
            · exact HW.out.2.2 i (by omega))
        clear hvb cv cv1 hv3 hv hlt hkeep fr hk
        subst eV
        go_wp2
        rw [← hW']
        go_roundw
        case rel => exact ⟨k + 1, _, by have := HLT.out; omega, by go_num, HN9⟩
        case measure => have := HLT.out; simp [intOf]; omega
      · obtain rfl : n = k := by omega
        have HA1 := Lib.hid (And.intro HIN.out.2.1.1 HC.out.2.2.2)
        have han0 : (0 : Int) ≤ (an : Int) := by omega
        obtain ⟨wm, hwm⟩ : ∃ z, z = wr := ⟨wr, rfl⟩
        subst hwm
        have HW0 : Hid (RowW wm sp 138 encS (some ⟨sp, 0, none⟩) (mpS f n) ∧ ∀ i, i < n → f i = iniS c (set.take 0) i) := Lib.hid ⟨HW.out.2.1, fun i hi => by rw [HW.out.2.2 i hi]; simp [iniS]⟩
        clear hkeep hlt hk
        go_wp2
        go_loopw [34] (fun iv wr => ∃ (k : Nat) (f : Nat → Sp), k ≤ an ∧ iv = .int .i64 ((k : Nat) : Int) ∧ Hid (Keep (fun b => b = sp) w3 wr ∧ RowW wr sp 138 encS (some ⟨sp, 0, none⟩) (mpS f n) ∧ ∀ i, i < n → f i = iniS c (set.take k) i)) (fun iv _ => an - (intOf iv).toNat)
        case atStart => exact ⟨0, f, Nat.zero_le _, rfl, Lib.hid ⟨HW.out.1, HW0.out⟩⟩
        case round =>
          obtain ⟨k, f2, hk, rfl, HX⟩ := hrel
          have hkeep := HX.out.1.blk TB.out HNE.out.1
          by_cases hlt : k < an
          · have HLT : Hid (k < an) := Lib.hid hlt
            have hk0 : (0 : Int) ≤ (k : Int) := by omega
            have hkn : (k : Int) < (an : Int) := by omega
            have hk9 : (k : Int) ≤ 1000 := by have := HA1.out; omega
            obtain ⟨vb, vo, x, eV, hvb, hx, hcx⟩ := HIN.out.2.1.at_ hlt
            have cv := hcx 0 _ rfl
            rw [Nat.mul_one, Nat.add_zero] at cv
            have cv1 : w3.cell? ⟨vb, vo + k, none⟩ = some (.int .i64 ((x : Nat) : Int)) := (Below.cell (below3 (below3 B0.out B1.out (Nat.le_refl _)) B2.out (Nat.le_refl _)) (p := ⟨vb, vo + k, none⟩) hvb).trans cv
            have hv3 : vb < w3.heap.size := Nat.lt_of_lt_of_le hvb (below3 (below3 B0.out B1.out (Nat.le_refl _)) B2.out (Nat.le_refl _)).size
            have cv2 := HX.out.1.cell hv3 (by have := HNE.out; have h8 := (below3 B0.out B1.out (Nat.le_refl _)).size; have h7 := B2.out.size; omega) cv1
            have zv : vb < wr.heap.size := block_of_cell cv2
            have hxn : x < n := HIN.out.2.2 x (List.mem_of_getElem? hx)
            have hx0 : (0 : Int) ≤ (x : Int) := by omega
            have hxi : (x : Int) < (n : Int) := by omega
            have hx14 : (x : Int) ≤ 14 := by have := HC.out; omega
            have t2 := hkeep.cell 2
            have zt := hkeep.lt
            simp only [List.getElem?_toArray, List.getElem?_cons_zero, List.getElem?_cons_succ] at t2
            obtain ⟨s0, s1, zs, fr⟩ := rowS_at HX.out.2.1 (mpS_get hxn)
            have fr0 := fr (x * 2)
            have fr1 := fr (x * 2 + 1)
            obtain ⟨W', hW'⟩ : ∃ z, z = (wr.setCell ⟨sp, x * 2, none⟩ (.int .i64 0)).setCell ⟨sp, x * 2 + 1, none⟩ (.int .i64 1000000000) := ⟨_, rfl⟩
            have HN9 : Hid (Keep (fun b => b = sp) w3 W' ∧ RowW W' sp 138 encS (some ⟨sp, 0, none⟩) (mpS (fun i => if i = x then (0, 1000000000) else f2 i) n) ∧ ∀ i, i < n → (fun i => if i = x then (0, 1000000000) else f2 i) i = iniS c (set.take (k + 1)) i) := Lib.hid (by
              refine ⟨?_, ?_, fun i hi => ?_⟩
              · rw [hW']; exact (HX.out.1.setCell rfl _).setCell rfl _
              · rw [← mpS_set, hW']; exact rowS_set HX.out.2.1 (mpS_get hxn) (0, 1000000000)
              · rw [iniS_take hx i]
                dsimp only
                split
                · rfl
                · exact HX.out.2.2 i hi)
            have HXN := Lib.hid hxn
            clear hvb cv cv1 hv3 hx hcx hlt hkeep fr hk
            subst eV
            go_wp2
            rw [← hW']
            go_roundw
            case rel => exact ⟨k + 1, _, by have := HLT.out; omega, by go_num, HN9⟩
            case measure => have := HLT.out; simp [intOf]; omega
          · obtain rfl : an = k := by omega
            have HRN : Hid (RowW wr sp 138 encS (some ⟨sp, 0, none⟩) (mpS (iniS c set) n) ∧ Below w.heap.size w wr) := Lib.hid (by
              have h1 : mpS f2 n = mpS (iniS c set) n := mpS_congr (fun i hi => by rw [HX.out.2.2 i hi, ← HIN.out.2.1.1, List.take_length])
              rw [← h1]
              exact ⟨HX.out.2.1, (below3 (below3 B0.out B1.out (Nat.le_refl _)) B2.out (Nat.le_refl _)).trans (HX.out.1.below (below3 (below3 B0.out B1.out (Nat.le_refl _)) B2.out (Nat.le_refl _)).size (fun b e => by rw [e]; have := HNE.out; have h8 := (below3 B0.out B1.out (Nat.le_refl _)).size; omega))⟩)
            have HZ9 : Hid (w.heap.size ≤ sp ∧ rb ≠ sp ∧ rb < wr.heap.size ∧ w.heap.size ≤ rb) := Lib.hid (by
              have h1 := HNE.out
              have h2 := RB.out.lt
              have h3 := (below3 B0.out B1.out (Nat.le_refl _)).size
              have h4 := HRN.out.2.size
              have h5 := B2.out.size
              have h6 := HX.out.1.size
              have h7 := Zbx.out
              have h8 := Zrb.out
              have h9 := Sw1.out
              exact ⟨by omega, h1.2.2.1, by omega, by omega⟩)
            have C := Lib.hid (KNA.out sp wr HRN.out.2 HZ9.out.1 HRN.out.1)
            have hrb0 := HX.out.1.blk (RB.out.below B2.out RB.out.lt) HNE.out.2.2.1
            have HRB := Lib.hid hrb0
            have HTBX := Lib.hid hkeep
            have t0 := hkeep.cell 0
            have t1 := hkeep.cell 1
            have t2 := hkeep.cell 2
            have zt := hkeep.lt
            simp only [List.getElem?_toArray, List.getElem?_cons_zero, List.getElem?_cons_succ] at t0 t1 t2
            clear hkeep hrb0 hlt hk
            go_wp2_with fail
            refine C.out.mono ?_
            rintro e w8 ⟨rfl, hk8, hR8⟩
            have HR8 := Lib.hid hR8
            have HK8 := Lib.hid hk8
            have hbk := hk8.blk HTBX.out HNE.out.1
            have t0 := hbk.cell 0
            have t1 := hbk.cell 1
            have t2 := hbk.cell 2
            have zt := hbk.lt
            simp only [List.getElem?_toArray, List.getElem?_cons_zero, List.getElem?_cons_succ] at t0 t1 t2
            have hrb := hk8.blk HRB.out HZ9.out.2.1
            clear hbk hk8 hR8
            have d0 := hrb.cell 0
            have d1 := hrb.cell 1
            have d2 := hrb.cell 2
            simp only [List.getElem?_toArray, List.getElem?_cons_zero, List.getElem?_cons_succ] at d0 d1 d2
            have zr := hrb.lt
            have fr := hrb.frozen
            obtain ⟨W', hW'⟩ : ∃ z, z = (((w8.setCell ⟨rb, 0, none⟩ (.slice nA n nc)).setCell ⟨rb, 1, none⟩ (.slice vA n vc)).setCell ⟨rb, 2, none⟩ (.slice (some ⟨sp, 0, none⟩) n n)) := ⟨_, rfl⟩
            have hkk : Keep (fun b => b = rb) w8 W' := by rw [hW']; exact ((((Keep.refl (fun b => b = rb) w8).setCell rfl _).setCell rfl _).setCell rfl _)
            have hrow : Blk W' rb 118 #[.slice nA n nc, .slice vA n vc, .slice (some ⟨sp, 0, none⟩) n n] := by
              have h := (((hrb.set_ 0 (.slice nA n nc)).set_ 1 (.slice vA n vc)).set_ 2 (.slice (some ⟨sp, 0, none⟩) n n))
              rw [hW']
              simpa using h
            have HRS := Lib.hid hrow
            have HF : Hid (w.heap.size ≤ sp ∧ RowW W' sp 138 encS (some ⟨sp, 0, none⟩) (mpS (narS c (iniS c set)) n) ∧ Below w.heap.size w W') := Lib.hid ⟨HZ9.out.1, rowW_keep HR8.out hkk (fun e => HZ9.out.2.1 e.symm), (HRN.out.2.trans (HK8.out.below HRN.out.2.size (fun b e => by rw [e]; exact HZ9.out.1))).trans (hkk.below (Nat.le_trans HRN.out.2.size HK8.out.size) (fun b e => by rw [e]; exact HZ9.out.2.2.2))⟩
            clear hrow hkk hrb
            go_wp2
            rw [← hW']
            refine bodyPost_ret (v := .agg #[.slice nA n nc, .slice vA n vc, .slice (some ⟨sp, 0, none⟩) n n]) (results_cell_row rfl _ _ rb 118 #[.slice nA n nc, .slice vA n vc, .slice (some ⟨sp, 0, none⟩) n n] _ _ rfl HRS.out Try.underlying118 rfl (by kernel_rfl)) rfl ?_
            exact ⟨sp, rfl, HF.out⟩
end Go.Proofs.Ytcecbohaajocfaa
