/- meter: explaining: a range over sets. -/
import Derived.Test.YtcecbohaajocfaaMtS
import Derived.Maps.AppendAt

set_option linter.unusedSimpArgs false
set_option linter.unusedVariables false
namespace Go.Proofs.Ytcecbohaajocfaa
open Go.RowKit Go.Shelf
attribute [local go_sem] Oper.semAt_some

def bvC (n : Nat) (l : List Nat) : Nat := (l.map fun k => 2 ^ (n - 1 - k)).sum
theorem bv_lt {n : Nat} {l : List Nat} (hp : l.Pairwise (· < ·)) (hm : ∀ k ∈ l, k < n) (hn : 1 ≤ n) : bvC n l < 2 ^ n := by
  cases l with
  | nil => simp [bvC]; exact Nat.two_pow_pos _
  | cons x l =>
    rw [List.pairwise_cons] at hp
    have hx := hm x (List.mem_cons_self ..)
    have h2 := pow_sum (n := n) l x hp.2 (fun j hj => ⟨hp.1 j hj, hm j (List.mem_cons_of_mem _ hj)⟩) hx
    have h3 : 2 ^ (n - 1 - x) + 2 ^ (n - 1 - x) ≤ 2 ^ n := by
      rw [← Nat.two_mul, ← Nat.pow_succ']
      exact Nat.pow_le_pow_right (by omega) (by omega)
    show 2 ^ (n - 1 - x) + (l.map fun k => 2 ^ (n - 1 - k)).sum < _
    omega
theorem bv_lex {n : Nat} : ∀ (a b : List Nat), a.length = b.length → b.Pairwise (· < ·) → (∀ k ∈ b, k < n) → (∀ k ∈ a, k < n) → LexLt a b → bvC n b < bvC n a := by
  intro a
  induction a with
  | nil => rintro b _ _ _ _ ⟨j, h, _⟩; simp at h
  | cons x a ih =>
    intro b hl hp hm hma h
    cases b with
    | nil => cases hl
    | cons y b =>
      obtain ⟨j, h1, h2, h3⟩ := h
      have hx := hma x (List.mem_cons_self ..)
      cases j with
      | zero =>
        have h4 : x < y := by simpa using h3
        rw [List.pairwise_cons] at hp
        have h5 := pow_sum (n := n) (y :: b) x (List.pairwise_cons.2 hp) (fun k hk => ⟨by rcases List.mem_cons.1 hk with rfl | hk; exact h4; exact Nat.lt_trans h4 (hp.1 k hk), hm k hk⟩) hx
        show bvC n (y :: b) < 2 ^ (n - 1 - x) + _
        unfold bvC
        omega
      | succ j =>
        have h4 : x = y := by simpa using h2 0 (by omega)
        subst h4
        have := ih b (by simpa using hl) (List.pairwise_cons.1 hp).2 (fun k hk => hm k (List.mem_cons_of_mem _ hk)) (fun k hk => hma k (List.mem_cons_of_mem _ hk)) ⟨j, by simpa using h1, fun i hi => by simpa using h2 (i + 1) (by omega), by simpa using h3⟩
        show 2 ^ (n - 1 - x) + bvC n b < 2 ^ (n - 1 - x) + bvC n a
        omega
theorem Vc.pw {n : Nat} {c : List Nat} (h : Vc n c) : c.Pairwise (· < ·) ∧ ∀ k ∈ c, k < n := by
  refine ⟨List.pairwise_iff_getElem.2 fun i j hi hj hij => ?_, fun k hk => ?_⟩
  · have := h.mono i j hij hj
    rw [List.getD_eq_getElem?_getD, List.getD_eq_getElem?_getD, List.getElem?_eq_getElem hi, List.getElem?_eq_getElem hj] at this
    exact this
  · obtain ⟨i, hi, e⟩ := List.getElem_of_mem hk
    have := h.lt i hi
    rw [List.getD_eq_getElem?_getD, List.getElem?_eq_getElem hi, e] at this
    exact this
theorem up_len9 {n k : Nat} (hk : k ≤ n) (hn : 1 ≤ n) {xs : List (List Nat)} (h : UpC n k xs) : ∀ ys c, xs = ys ++ [c] → xs.length + bvC n c ≤ 2 ^ n := by
  induction h with
  | first =>
    intro ys c e
    have e2 := snoc_inj (show ([] : List (List Nat)) ++ [firstC k] = ys ++ [c] from e)
    rw [← e2.2]
    have h1 := (firstC_ok hk).pw
    have := bv_lt h1.1 h1.2 hn
    simp only [List.length_cons, List.length_nil]
    omega
  | @next zs c last h hl ih =>
    intro ys d e
    have e2 := snoc_inj e
    rw [← e2.2]
    have h1 := ih zs c rfl
    have hv := (up_is hk h).ok c (by simp)
    have h2 := (nxtC_ok hv.1 hl).pw
    have h3 := bv_lex (n := n) c (nxtC c last) (by rw [nxtC_len hl.1]) h2.1 h2.2 hv.1.pw.2 (lex_next hl)
    rw [List.length_append]
    simp only [List.length_cons, List.length_nil]
    omega
theorem up_len {n k : Nat} (hk : k ≤ n) (hn : n ≤ 14) {xs : List (List Nat)} (h : UpC n k xs) : xs.length ≤ 20000 := by
  by_cases h0 : n = 0
  · subst h0
    obtain rfl : k = 0 := by omega
    cases h with
    | first => simp
    | next h hl =>
      have hv := (up_is hk h).ok _ (List.mem_append_right _ (List.mem_singleton.2 rfl))
      have := hl.1
      omega
  · have h1 : ∃ ys c, xs = ys ++ [c] := by
      cases h with
      | first => exact ⟨[], _, rfl⟩
      | next h hl => exact ⟨_, _, rfl⟩
    obtain ⟨ys, c, e⟩ := h1
    have h2 := up_len9 hk (by omega) h ys c e
    have h3 : 2 ^ n ≤ 2 ^ 14 := Nat.pow_le_pow_right (by omega) hn
    omega
theorem intsInfo : (Try.prog.info? 22).map (fun i => (i.zero, i.size, i.bytes)) = some (some (.slice none 0 0), 1, 24) := by kernel_rfl
def setV (k : Nat) (x : SetE) : List Value := [.slice x.1.1 k x.1.2]
structure ExI (w0 : World) (c : Ks) (k bx lB lo : Nat) (cv : Array Value) (v : Value) (pre : List SetE) (V : World) : Prop where
  cs : Blk V bx 35 cv
  box : Blk V lB 43 #[v]
  row : V.ownsRow lo 22 1 v (pre.filter fun x => canB c x.2).length ((pre.filter fun x => canB c x.2).flatMap (setV k))
  els : ∀ x ∈ pre.filter fun x => canB c x.2, ∃ b, lo ≤ b ∧ RowW V b 3 encN x.1.1 x.2
  low : Below w0.heap.size w0 V
theorem blk1_set {W : World} {z g : Nat} {T : TypeId} {v : Value} (h : Blk W z T #[v]) (u : Value) : Blk (W.setCell ⟨z, 0, none⟩ u) z T #[u] := by
  have h9 := h.set_ 0 u
  simpa using h9
theorem own_nc {W : World} {lo k n : Nat} {e : TypeId} {size : Nat} {v : Value} {xs : List Value} {o : Obj} (h : W.ownsRow lo e size v n xs) (hk : W.heap[k]? = some o) (ho : o.isCells = false) : some k ≠ v.ownBlock := by
  rcases h.2 with ⟨e9, _⟩ | ⟨g, cap, cur, e9, hb, hgg, _⟩
  · rw [e9]; intro h9; cases h9
  · rw [e9]
    intro h9
    obtain rfl : k = g := by simpa [Value.ownBlock] using h9
    rw [hgg] at hk
    cases hk
    cases ho
theorem own_obj {W : World} {lo k n : Nat} {e : TypeId} {size : Nat} {v : Value} {xs : List Value} {o : Obj} (h : W.ownsRow lo e size v n xs) (hv : v.ownBlock = some k) (hk : W.heap[k]? = some o) : lo ≤ k ∧ ∃ cs, o = .cells cs e := by
  rcases h.2 with ⟨e9, _⟩ | ⟨g, cap, cur, e9, hb, hgg, _⟩
  · rw [e9] at hv; cases hv
  · rw [e9] at hv
    obtain rfl : g = k := by simpa [Value.ownBlock] using hv
    rw [hgg] at hk
    cases hk
    exact ⟨hb, _, rfl⟩
theorem ExI.own {w0 V V' : World} {c : Ks} {k bx lB lo : Nat} {cv : Array Value} {v : Value} {pre : List SetE} {row : Option Nat} (h : ExI w0 c k bx lB lo cv v pre V) (hg : V.grownBy V' row) (hr : ∀ r, row = some r → w0.heap.size ≤ r ∧ r ≠ bx ∧ r ≠ lB ∧ (r < lo ∨ ∃ o : Obj, V.heap[r]? = some o ∧ o.isCells = false)) : ExI w0 c k bx lB lo cv v pre V' := by
  refine ⟨h.cs.kept hg (fun e => (hr _ e.symm).2.1 rfl), h.box.kept hg (fun e => (hr _ e.symm).2.2.1 rfl), h.row.kept hg ?_, fun x hx => ?_, h.low.grown hg h.low.size (fun r e => (hr r e).1)⟩
  · rcases h.row.2 with ⟨e, _⟩ | ⟨g, cap, cur, e, hb, hgg, _⟩
    · left; rw [e]; rfl
    · right
      rw [e]
      intro e9
      rcases (hr g (by simpa [Value.ownBlock] using e9.symm)).2.2.2 with h9 | ⟨o, ho, hc⟩
      · omega
      · rw [hgg] at ho; cases ho; cases hc
  · obtain ⟨b, hlb, hb⟩ := h.els x hx
    refine ⟨b, hlb, hb.kept (fun hne cur hc => hc.kept hg (fun e => ?_))⟩
    rcases (hr b e.symm).2.2.2 with h9 | ⟨o, ho, hc9⟩
    · omega
    · rw [show V.heap[b]? = _ from hc] at ho; cases ho; cases hc9
set_option maxRecDepth 100000 in
set_option maxHeartbeats 8000000 in
theorem explaining_any (c : Ks) (ok : KsOk c) (nA vA : Option Addr) (n nc vc k : Nat) (w : World) (hk : k ≤ n) (hin : KsIn w w.heap.size n nA vA c) :
    Calls Try.prog 45 #[.agg #[.slice nA n nc, .slice vA n vc], .int .i64 (k : Int)] w fun e w' => ∃ (v : Value) (pre : List SetE), e = .returned v ∧ AllC n k (pre.map Prod.snd) ∧ w'.ownsRow w.heap.size 22 1 v (pre.filter fun x => canB c x.2).length ((pre.filter fun x => canB c x.2).flatMap (setV k)) ∧ (∀ x ∈ pre.filter fun x => canB c x.2, ∃ b, RowW w' b 3 encN x.1.1 x.2) ∧ Below w.heap.size w w' := by
  obtain ⟨i0, hi, hz0, hz1, hz2⟩ := info_parts intsInfo
  have hcn := hin.len
  have h14 : n ≤ 14 := by rw [← hcn]; exact ok.n14
  have KS := Lib.hid (fun W => sets_any n k W)
  have KF := Lib.hid (fun (x : SetE) (W : World) (hW : Below w.heap.size w W) (hb : ∃ b, RowW W b 3 encN x.1.1 x.2) (hl : x.2.length = k) (hv : Vc n x.2) => freed_any c ok nA vA x.1.1 n nc vc k x.1.2 x.2 W (hin.next hW) (by obtain ⟨b, h9⟩ := hb; exact h9.rd (fun _ => rfl) hl (size := 1)) (fun y hy => by
    obtain ⟨i, hi, e⟩ := List.getElem_of_mem hy
    have h9 := hv.lt i hi
    rw [List.getD_eq_getElem?_getD, List.getElem?_eq_getElem hi, e] at h9
    exact h9) (by omega))
  have KH := Lib.hid (fun (sp : Nat) (S : Nat → Sp) (W : World) (h9 : RowW W sp 138 encS (some ⟨sp, 0, none⟩) (mpS S n)) => canHold_any nA vA n nc vc n sp S W (by omega) h9)
  have HC := Lib.hid (And.intro hcn (And.intro h14 hk))
  have HBIG : Hid (∀ (pre : List SetE) (x : SetE), UpC n k ((pre ++ [x]).map Prod.snd) → (pre.filter fun x => canB c x.2).length ≤ 1000000) := Lib.hid (fun pre x h => by
    have h1 := up_len hk h14 h
    have h2 := List.length_filter_le (fun x : SetE => canB c x.2) pre
    simp only [List.length_map, List.length_append, List.length_cons, List.length_nil] at h1
    omega)
  have g1 : w.heap.size < w.heap.size + 1 := by omega
  have g2 : w.heap.size < w.heap.size + 1 + 1 := by omega
  clear hin ok hcn h14 hk
  refine (callsIn_wide (n := 8)).1 ?_
  refine callsIn_of_wp_marks Try.func45 rfl trivial ?_ rfl
  simp only [Try.ntmps45, List.size_toArray, List.length_cons, List.length_nil, Nat.reduceAdd, Nat.reduceSub, Array.replicate_succ, Array.replicate_zero, List.push_toArray, List.append_toArray, List.nil_append, List.cons_append]
  gi_wp2_with fail
  obtain ⟨bx, hbx⟩ : ∃ z, z = w.heap.size := ⟨_, rfl⟩
  obtain ⟨w1, hw1⟩ : ∃ z, z = w.alloc (.cells #[.slice nA n nc, .slice vA n vc] 35) := ⟨_, rfl⟩
  have BX : Hid (Blk w1 bx 35 #[.slice nA n nc, .slice vA n vc] ∧ w1.heap.size = bx + 1) := Lib.hid (by rw [hw1, hbx]; exact ⟨heap_alloc_new w _, World.size_alloc _ _⟩)
  have B0 : Hid (Below w.heap.size w w1) := Lib.hid (by rw [hw1]; exact (Below.refl _ _).alloc (Nat.le_refl _) _)
  rw [← hw1, ← hbx]
  obtain ⟨lB, hlB⟩ : ∃ z, z = bx + 1 := ⟨_, rfl⟩
  obtain ⟨w2, hw2⟩ : ∃ z, z = w1.alloc (.cells #[.slice none 0 0] 43) := ⟨_, rfl⟩
  have LB : Hid (Blk w2 lB 43 #[.slice none 0 0] ∧ w2.heap.size = lB + 1 ∧ lB = bx + 1 ∧ bx = w.heap.size) := Lib.hid (by
    have e2 := heap_alloc_new w1 (.cells #[.slice none 0 0] 43)
    rw [BX.out.2] at e2
    rw [hw2, hlB, hbx]
    refine ⟨by rw [← hbx]; exact e2, by rw [World.size_alloc, BX.out.2, hbx], rfl, rfl⟩)
  have B1 : Hid (Below w1.heap.size w1 w2) := Lib.hid (by rw [hw2]; exact (Below.refl _ _).alloc (Nat.le_refl _) _)
  rw [← hw2, ← hlB]
  clear hw1 hw2 hlB hbx g1 g2
  refine ⟨trivial, ?_⟩
  refine (callsIn_wide.2 (KS.out w2)).mono ?_
  rintro e w3 ⟨kB, nB, rfl, hkB, hnB, hz1x, hz2x, hB⟩
  have B2 : Hid (Below w2.heap.size w2 w3) := Lib.hid hB
  have HZ : Hid (bx < lB ∧ lB < kB ∧ lB < nB ∧ kB < w3.heap.size ∧ nB < w3.heap.size ∧ bx = w.heap.size) := Lib.hid (by have h1 := LB.out.2; have h2 := hkB.lt; have h3 := hnB.lt; exact ⟨by omega, by omega, by omega, by omega, by omega, h1.2.2⟩)
  have HKN := Lib.hid (And.intro hkB hnB)
  clear hkB hnB hz1x hz2x hB
  gi_wp2_with fail
  obtain ⟨Sf, hSf⟩ : ∃ z : Nat → Obj → Prop, z = fun b o => b ≠ lB ∧ (w3.heap.size + 3 ≤ b → ∃ cs, o = .cells cs 3) := ⟨_, rfl⟩
  have HF : Hid (∀ b o, Sf b o ↔ b ≠ lB ∧ (w3.heap.size + 3 ≤ b → ∃ cs, o = .cells cs 3)) := Lib.hid (fun b o => by rw [hSf])
  clear hSf
  have HC0 : Hid (ExI w c k bx lB (w3.heap.size + 3) #[.slice nA n nc, .slice vA n vc] (.slice none 0 0) [] w3) := Lib.hid ⟨BX.out.1.below (below3 B1.out B2.out (Nat.le_refl _)) BX.out.1.lt, LB.out.1.below B2.out LB.out.1.lt, World.ownsRow_nil _ _ _ _, fun x h => by simp at h, below3 (below3 B0.out B1.out (Nat.le_refl _)) B2.out (Nat.le_refl _)⟩
  refine wpIn_range_y rfl (by omega) (gf := 104) (lb := #[.pointer (some ⟨kB, 0, none⟩), .pointer (some ⟨nB, 0, none⟩)]) rfl trivial (enters_of Try.func104 (by kernel_rfl) rfl) (sets_y 7 (by omega) n k kB nB HC.out.2.2 HC.out.2.1 Sf w3 HKN.out.1 HKN.out.2 (fun o => ⟨(HF.out _ o).2 ?a1, (HF.out _ o).2 ?a2⟩) (fun cs => (HF.out _ _).2 ?a3)) (fun _ => rfl)
    (fun h k => KpO.trans h k) (fun W l o o' _ ho hc _ => KpO.putObj W l o o' ho hc)
    (fun (pre : List SetE) V => ∃ v, ExI w c k bx lB (w3.heap.size + 3) #[.slice nA n nc, .slice vA n vc] v pre V)
    (fun _ _ => False)
    ?own ?ownx ?start
    (fun pre x a' V => a' = { tmps := #[.agg #[.slice nA n nc, .slice vA n vc], .int .i64 (k : Int), .pointer (some ⟨bx, 0, none⟩), undef, .slice none 0 0, .pointer (some ⟨lB, 0, none⟩), .slice x.1.1 k x.1.2, .pointer (some ⟨bx, 0, none⟩), .slice nA n nc, .int .i64 (n : Int), .int .i64 (k : Int), .func (.func 104) #[] #[.pointer (some ⟨kB, 0, none⟩), .pointer (some ⟨nB, 0, none⟩)], .slice x.1.1 k x.1.2, undef, undef, undef, undef, undef, undef, undef, undef, undef], defers := [] })
    ?hAx ?hX ?assign ?body ?done ?stop
  case a1 => exact ⟨by have := HZ.out; omega, fun h9 => absurd h9 (by have := HZ.out; omega)⟩
  case a2 => exact ⟨by have := HZ.out; omega, fun h9 => absurd h9 (by have := HZ.out; omega)⟩
  case a3 => exact ⟨by have := HZ.out; omega, fun _ => ⟨cs, rfl⟩⟩
  case own =>
    rintro pre A B row ⟨v, h1⟩ hg hr
    have hz := HZ.out
    refine ⟨v, h1.own hg (fun r e => ?_)⟩
    obtain ⟨q1, q2⟩ := hr r e
    refine ⟨by omega, by omega, by omega, ?_⟩
    rcases q2 with q2 | q2
    · exact Or.inl (by omega)
    · exact Or.inr q2
  case ownx =>
    intro pre A B row h
    exact h.elim
  case start => exact ⟨_, HC0.out⟩
  case hAx =>
    intro pre x a' V l o o' h _ _ _
    exact h
  case hX =>
    rintro pre x V l9 o o' ⟨h1, ⟨b, hb9, h2⟩, h3⟩ hl9 ho hc
    refine ⟨Nat.le_trans h1 (grownBy_putObj' V l9 o').size, ⟨b, hb9, h2.kept (fun hne cur hb => hb.kept (grownBy_putObj' V l9 o') (by intro e; cases e; rw [show V.heap[_]? = _ from hb] at ho; cases ho; cases hc))⟩, h3⟩
  case assign =>
    intro l9 pre x V K hI hx hK
    unfold encE
    gi_wp2
    exact hK _ _ (KeepsFrom.refl _ _) (KpO.refl _ _) hI hx rfl
  case body =>
    rintro l9 pre x a' V hl9 ⟨r9, hr9⟩ ⟨v, hI⟩ ⟨k1, ⟨bb, kb1, kb2⟩, k2, k3, k4⟩ rfl
    have HI := Lib.hid hI
    have HV := Lib.hid (And.intro k1 (And.intro kb1 kb2))
    have C := Lib.hid (KF.out x V hI.low ⟨bb, kb2⟩ k2 k3)
    have d0 := hI.cs.cell 0
    have d1 := hI.cs.cell 1
    simp only [List.getElem?_toArray, List.getElem?_cons_zero, List.getElem?_cons_succ] at d0 d1
    have zd := hI.cs.lt
    have HK4 := Lib.hid k4
    clear hI k1 kb1 kb2 k2 k3 k4 hr9
    gi_wp2_with fail
    refine ⟨trivial, ?_⟩
    refine (CallsIn.inRound l9 (callsIn_wide.2 C.out)).mono ?_
    rintro e V1 ⟨sp, rfl, hsp, hrS, hB1⟩
    have HB1 := Lib.hid hB1
    have C2 := Lib.hid (KH.out sp _ V1 hrS)
    rw [← HC.out.1, allS_can, HC.out.1] at C2
    clear hsp hrS hB1 C d0 d1 zd
    gi_wp2_with fail
    refine ⟨trivial, ?_⟩
    refine (CallsIn.inRound l9 (callsIn_wide.2 C2.out)).mono ?_
    rintro e V2 ⟨rfl, hB2⟩
    have HB2 : Hid (Below V.heap.size V V2) := Lib.hid (below3 HB1.out hB2 (Nat.le_refl _))
    clear hB2 C2
    have hIB : ExI w c k bx lB (w3.heap.size + 3) #[.slice nA n nc, .slice vA n vc] v pre V2 := HI.out.own (row := none) (grown_of_below HB2.out) (fun r e => by cases e)
    have HI2 := Lib.hid hIB
    obtain ⟨gd, hgd⟩ : ∃ z, z = canB c x.2 := ⟨_, rfl⟩
    rw [← hgd]
    have HG := Lib.hid hgd
    have hbig : w3.heap.size + 3 ≤ V2.heap.size := by have := HV.out.1; have := HB2.out.size; omega
    have HBG := Lib.hid hbig
    cases gd
    · have HN9 : Hid (ExI w c k bx lB (w3.heap.size + 3) #[.slice nA n nc, .slice vA n vc] v (pre ++ [x]) V2) := Lib.hid (by
        have e : (pre ++ [x]).filter (fun x => canB c x.2) = pre.filter (fun x => canB c x.2) := by
          rw [List.filter_append, List.filter_cons, if_neg (by rw [← HG.out]; simp), List.filter_nil, List.append_nil]
        refine ⟨hIB.cs, hIB.box, ?_, ?_, hIB.low⟩
        · rw [e]; exact hIB.row
        · rw [e]; exact hIB.els)
      clear hIB hgd hbig
      gi_wp2
      exact ⟨KeepsFrom.of_grownBy (grown_of_below HB2.out) (fun r e => by cases e), KpO.below HB2.out, _, HN9.out⟩
    · obtain ⟨A9, c9, rfl⟩ := row_slice hIB.row
      have c0 := hIB.box.cell 0
      simp only [List.getElem?_toArray, List.getElem?_cons_zero] at c0
      have z0 := hIB.box.lt
      obtain ⟨ln, hln⟩ : ∃ z, z = (pre.filter fun x => canB c x.2).length := ⟨_, rfl⟩
      have HLN := Lib.hid hln
      rw [← hln] at c0
      have hL : ln ≤ 1000000 := by rw [hln]; exact HBIG.out pre x HK4.out
      have HROW : Hid (V2.ownsRow (w3.heap.size + 3) 22 1 (.slice A9 ln c9) ln ((pre.filter fun x => canB c x.2).flatMap (setV k))) := Lib.hid (by rw [hln]; exact hIB.row)
      clear hIB hgd hln
      gi_wp2_with (gi_at_builtin; refine wpListIn_append_own_at _ rfl (.tmp 17) (.tmp 19) 43 rfl (w3.heap.size + 3) 22 i0 (.slice none 0 0) 1 24 Try.underlying43 hi hz0 hz1 hz2 rfl (by decide) (.slice A9 ln c9) _ _ rfl (HROW.out.alloc _) ⟨V2.heap.size, 0, none⟩ 1 1 [.slice x.1.1 k x.1.2] rfl rfl (cell_one_new _ _ _) ?_ ?_ ?_ ?_ ?_)
      case _ =>
        intro z hz
        simp only [List.mem_cons, List.mem_nil_iff, or_false] at hz
        subst hz
        rfl
      case _ => simp only [maxLen]; omega
      case _ => omega
      case _ => simp; omega
      intro v' w5 hown hg5 _ _
      obtain ⟨A8, c8, rfl⟩ := row_slice hown
      have hga := World.grownBy_alloc V2 (.cells #[.slice x.1.1 k x.1.2] 22) none
      have hra := HROW.out.alloc (.cells #[.slice x.1.1 k x.1.2] 22)
      have hbx : Blk w5 lB 43 #[.slice A9 (pre.filter fun x => canB c x.2).length c9] := (Blk.alloc HI2.out.box _).kept hg5 (own_ne hra (Blk.alloc HI2.out.box _) (by decide))
      rw [← HLN.out] at hbx
      have c1 := hbx.cell 0
      simp only [List.getElem?_toArray, List.getElem?_cons_zero] at c1
      have z1 := hbx.lt
      have f1 := hbx.frozen
      have HX := Lib.hid (And.intro hown (And.intro hg5 (And.intro hga (And.intro hra hbx))))
      clear hown hg5 hga hra hbx c0 z0 hbig
      gi_wp2
      obtain ⟨hown, hg5, hga, hra, hbx⟩ := HX.out
      have gB := grown_set w5 lB 0 (.slice A8 (ln + 1) c8)
      have hz := HZ.out
      have hrow : ∀ r, (Value.slice A9 ln c9).ownBlock = some r → ∀ o, (V2.alloc (.cells #[.slice x.1.1 k x.1.2] 22)).heap[r]? = some o → w3.heap.size + 3 ≤ r ∧ ∃ cs, o = .cells cs 22 := fun r e o ho => own_obj hra e ho
      have F1 : KeepsFrom w3.heap.size V2 w5 := ⟨Nat.le_trans hga.size hg5.size, fun k o hB hk ho => by
        have h1 := (hga.block k (Array.getElem?_eq_some_iff.1 hk).1 (fun e => by cases e)).trans hk
        exact (hg5.block k (Array.getElem?_eq_some_iff.1 h1).1 (own_nc hra h1 ho)).trans h1⟩
      have P1 : KpO Sf V2 w5 := (KpO.grown hga (fun r o e => by cases e)).trans (KpO.grown hg5 (fun r o e ho hs => by
        obtain ⟨h1, cs, h2⟩ := hrow r e o ho
        obtain ⟨cs2, h3⟩ := ((HF.out r o).1 hs).2 h1
        rw [h2] at h3
        simp at h3))
      refine ⟨((KeepsFrom.of_grownBy (grown_of_below HB2.out) (fun r e => by cases e)).trans F1).trans (KeepsFrom.of_grownBy gB (fun r e => by cases e; omega)), ((KpO.below HB2.out).trans P1).trans (KpO.grown gB (fun r o e _ hs => by cases e; exact ((HF.out _ o).1 hs).1 rfl)), .slice A8 (ln + 1) c8, ?_⟩
      have e : (pre ++ [x]).filter (fun x => canB c x.2) = pre.filter (fun x => canB c x.2) ++ [x] := by
        rw [List.filter_append, List.filter_cons, if_pos HG.out.symm, List.filter_nil]
      have keepB : ∀ {b : Nat} {T : TypeId} {cs : Array Value}, T ≠ 22 → b ≠ lB → Blk V2 b T cs → Blk (w5.setCell ⟨lB, 0, none⟩ (.slice A8 (ln + 1) c8)) b T cs := fun hT hb h9 => ((Blk.alloc h9 _).kept hg5 (own_ne hra (Blk.alloc h9 _) hT)).far (p := ⟨lB, 0, none⟩) hb _
      refine ⟨keepB (by decide) (by omega) HI2.out.cs, blk1_set (g := lB) hbx _, ?_, ?_, ?_⟩
      · rw [e, List.length_append, List.length_singleton, List.flatMap_append, ← HLN.out]
        exact hown.kept gB (Or.inr (own_ne hown hbx (by decide)).symm)
      · intro y hy
        rw [e] at hy
        rcases List.mem_append.1 hy with hy | hy
        · obtain ⟨b, hlb, hb⟩ := HI2.out.els y hy
          exact ⟨b, hlb, hb.kept (fun _ cur hc => keepB (by decide) (by omega) hc)⟩
        · obtain rfl := List.mem_singleton.1 hy
          obtain ⟨_, hlb, hb⟩ := HV.out
          exact ⟨bb, hlb, (hb.below9 HB2.out).kept (fun _ cur hc => keepB (by decide) (by omega) hc)⟩
      · have h1 := HI2.out.low.grown hga HI2.out.low.size (fun r e => by cases e)
        have h2 := h1.grown hg5 h1.size (fun r e => (by
          obtain ⟨o, ho⟩ : ∃ o, (V2.alloc (.cells #[.slice x.1.1 k x.1.2] 22)).heap[r]? = some o := by
            rcases hra.2 with ⟨e9, _⟩ | ⟨g, cap, cur, e9, hb, hgg, _⟩
            · rw [e9] at e; cases e
            · rw [e9] at e
              obtain rfl : g = r := by simpa [Value.ownBlock] using e
              exact ⟨_, hgg⟩
          have := (hrow r e o ho).1
          omega))
        exact h2.grown gB h2.size (fun r e => by cases e; omega)
  case done =>
    rintro D ys V hD hys ⟨v, hI⟩ hK
    obtain ⟨A9, c9, rfl⟩ := row_slice hI.row
    have c0 := hI.box.cell 0
    simp only [List.getElem?_toArray, List.getElem?_cons_zero] at c0
    have z0 := hI.box.lt
    have HKD := Lib.hid hK
    have HI := Lib.hid hI
    have HYS := Lib.hid hys
    obtain ⟨ln, hln⟩ : ∃ z, z = (ys.filter fun x => canB c x.2).length := ⟨_, rfl⟩
    rw [← hln] at c0
    have HLN := Lib.hid hln
    have hz : Hid (w.heap.size ≤ D ∧ w.heap.size ≤ w3.heap.size + 3 ∧ D ≠ lB ∧ D ≠ bx) := Lib.hid (by have := HZ.out; omega)
    clear hI hK hys hln
    gi_wp2
    refine ⟨by simp, .inl ⟨_, _, rfl, run_takeDeferred HKD.out, ?_⟩⟩
    have H2 := HI.out.own (grownBy_putObj' V D (.deferred none)) (fun r e => by cases e; exact ⟨hz.out.1, hz.out.2.2.2, hz.out.2.2.1, Or.inr ⟨_, HKD.out, rfl⟩⟩)
    refine ⟨_, results_tmp rfl _ _ _, _, ys, rfl, HYS.out, ?_, fun x hx => by obtain ⟨b, _, hb⟩ := H2.els x hx; exact ⟨b, hb⟩, H2.low⟩
    have h9 := row_low H2.row hz.out.2.1
    rw [HLN.out]
    exact h9
  case stop =>
    intro D pre V _ h _
    exact h.elim
end Go.Proofs.Ytcecbohaajocfaa
