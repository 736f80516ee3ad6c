/- heat: halls, and what flows in them (plain). -/
import Derived.Test.YtldbciflpnhfpaaKpG

set_option linter.unusedSimpArgs false
set_option linter.unusedVariables false
namespace Go.Proofs.Ytldbciflpnhfpaa
open Go.RowKit

/-- A room, a wall, a branch, a cooler, a hall. -/
structure Rom where
  (st lim : Int)
structure Wal where
  (a b p : Int)
structure Brn where
  (up op lk : Int)
structure Clr where
  (rm br gn cr sp : Int)
structure Hl where
  rooms : List Rom
  walls : List Wal
  brs : List Brn
  crs : List Clr
/-- The sum of Pass of the walls of a room. -/
def slW (i : Int) : List Wal → Int
  | [] => 0
  | x :: l => (if x.a = i ∨ x.b = i then x.p else 0) + slW i l
/-- The sum of Gain of the coolers of a room. -/
def slC (i : Int) : List Clr → Int
  | [] => 0
  | x :: l => (if x.rm = i then x.gn else 0) + slC i l
def slopeF (h : Hl) (i : Int) : Int := slW i h.walls + slC i h.crs
/-- The sum of Open of those that hang on a branch. -/
def opS (b : Int) : List Brn → Int
  | [] => 0
  | x :: l => (if x.up = b then x.op else 0) + opS b l
theorem slW_snoc (i : Int) (l : List Wal) (x : Wal) : slW i (l ++ [x]) = slW i l + if x.a = i ∨ x.b = i then x.p else 0 := by
  induction l with
  | nil => simp [slW]
  | cons a l ih => simp only [List.cons_append, slW, ih]; omega
theorem slC_snoc (i : Int) (l : List Clr) (x : Clr) : slC i (l ++ [x]) = slC i l + if x.rm = i then x.gn else 0 := by
  induction l with
  | nil => simp [slC]
  | cons a l ih => simp only [List.cons_append, slC, ih]; omega
theorem opS_snoc (b : Int) (l : List Brn) (x : Brn) : opS b (l ++ [x]) = opS b l + if x.up = b then x.op else 0 := by
  induction l with
  | nil => simp [opS]
  | cons a l ih => simp only [List.cons_append, opS, ih]; omega
theorem opS_ge {b : Int} {l : List Brn} (h : ∀ x ∈ l, 0 ≤ x.op) : 0 ≤ opS b l ∧ ∀ x ∈ l, x.up = b → x.op ≤ opS b l := by
  induction l with
  | nil => exact ⟨Int.le_refl _, fun x h => by simp at h⟩
  | cons a l ih =>
    obtain ⟨i1, i2⟩ := ih (fun x hx => h x (List.mem_cons_of_mem _ hx))
    have ha := h a List.mem_cons_self
    refine ⟨by simp only [opS]; split <;> omega, fun x hx e => ?_⟩
    simp only [opS]
    rcases List.mem_cons.1 hx with rfl | hx
    · rw [if_pos e]; omega
    · have := i2 x hx e
      split <;> omega
theorem opS_le {b : Int} {l : List Brn} {m : Nat} (h : ∀ x ∈ l, x.op ≤ m) : opS b l ≤ l.length * m := by
  induction l with
  | nil => simp [opS]
  | cons a l ih =>
    have i1 := ih (fun x hx => h x (List.mem_cons_of_mem _ hx))
    have ha := h a List.mem_cons_self
    simp only [opS, List.length_cons, Int.natCast_add, Int.add_mul, Int.natCast_one, Int.one_mul]
    split
    · omega
    · have : (0 : Int) ≤ m := by omega
      omega
def br0 : Brn := ⟨-1, 0, 0⟩
def Hl.br (h : Hl) (i : Nat) : Brn := h.brs.getD i br0
/-- A valid hall. -/
structure HlOk (h : Hl) : Prop where
  n1 : 1 ≤ h.rooms.length
  n8 : h.rooms.length ≤ 8
  w16 : h.walls.length ≤ 16
  b16 : h.brs.length ≤ 16
  c16 : h.crs.length ≤ 16
  rom : ∀ x ∈ h.rooms, (1 ≤ x.st ∧ x.st ≤ 1000000) ∧ 0 ≤ x.lim ∧ x.lim ≤ 1000000
  wal : ∀ x ∈ h.walls, (0 ≤ x.a ∧ x.a < h.rooms.length) ∧ (x.b = -1 ∨ ((0 ≤ x.b ∧ x.b < h.rooms.length) ∧ x.b ≠ x.a)) ∧ 0 ≤ x.p ∧ x.p ≤ 100000
  brn : ∀ i < h.brs.length, ((i = 0 ∧ (h.br i).up = -1) ∨ (0 ≤ (h.br i).up ∧ (h.br i).up < i)) ∧ (0 ≤ (h.br i).op ∧ (h.br i).op ≤ 100) ∧ 0 ≤ (h.br i).lk ∧ (h.br i).lk ≤ 100000
  clr : ∀ x ∈ h.crs, (0 ≤ x.rm ∧ x.rm < h.rooms.length) ∧ (0 ≤ x.br ∧ x.br < h.brs.length) ∧ (0 ≤ x.gn ∧ x.gn ≤ 100000) ∧ (0 ≤ x.cr ∧ x.cr ≤ 1000) ∧ 0 ≤ x.sp ∧ x.sp ≤ 1000000
  slp : ∀ i < h.rooms.length, slopeF h i ≤ (h.rooms.getD i ⟨0, 0⟩).st
theorem br_mem {h : Hl} {i : Nat} (hi : i < h.brs.length) : h.br i ∈ h.brs := by
  unfold Hl.br
  rw [List.getD_eq_getElem?_getD, List.getElem?_eq_getElem hi]
  exact List.getElem_mem hi
theorem mem_br {h : Hl} {x : Brn} (hx : x ∈ h.brs) : ∃ i < h.brs.length, x = h.br i := by
  obtain ⟨i, hi, e⟩ := List.mem_iff_getElem.1 hx
  refine ⟨i, hi, ?_⟩
  unfold Hl.br
  rw [List.getD_eq_getElem?_getD, List.getElem?_eq_getElem hi]
  exact e.symm
theorem HlOk.op0 {h : Hl} (ok : HlOk h) : ∀ x ∈ h.brs, 0 ≤ x.op := fun x hx => by
  obtain ⟨i, hi, rfl⟩ := mem_br hx
  exact (ok.brn i hi).2.1.1
theorem HlOk.op1 {h : Hl} (ok : HlOk h) {b : Int} : 0 ≤ opS b h.brs ∧ opS b h.brs ≤ 1600 := by
  refine ⟨(opS_ge ok.op0).1, ?_⟩
  have h1 := opS_le (b := b) (l := h.brs) (m := 100) (fun x hx => by
    obtain ⟨i, hi, rfl⟩ := mem_br hx
    exact (ok.brn i hi).2.1.2)
  have := ok.b16
  omega
/-- The flow of a branch. -/
def flF (h : Hl) (pump : Int) : Nat → Nat → Int
  | 0, _ => 0
  | f + 1, i => max 0 ((if i = 0 then pump else if 0 < opS (h.br i).up h.brs then flF h pump f (h.br i).up.toNat * (h.br i).op / opS (h.br i).up h.brs else 0) - (h.br i).lk)
def fl (h : Hl) (pump : Int) (i : Nat) : Int := flF h pump (i + 1) i
theorem flF_fuel {h : Hl} (ok : HlOk h) (pump : Int) : ∀ (f i : Nat), i < h.brs.length → i < f → flF h pump f i = fl h pump i := by
  intro f
  induction f with
  | zero => intro i _ h; omega
  | succ f ih =>
    intro i hi hf
    unfold fl
    by_cases h0 : i = 0
    · subst h0
      simp only [flF, if_pos]
    · rcases (ok.brn i hi).1 with ⟨e, _⟩ | ⟨h1, h2⟩
      · exact absurd e h0
      have e1 := ih (h.br i).up.toNat (by omega) (by omega)
      simp only [flF, if_neg h0]
      rw [e1]
      have e2 : flF h pump i (h.br i).up.toNat = fl h pump (h.br i).up.toNat := by
        have key : ∀ (f g j : Nat), j < h.brs.length → j < f → j < g → flF h pump f j = flF h pump g j := by
          intro f
          induction f with
          | zero => intro g j _ h; omega
          | succ f ih =>
            intro g j hj hf hg
            obtain ⟨g, rfl⟩ : ∃ z, g = z + 1 := ⟨g - 1, by omega⟩
            by_cases h0 : j = 0
            · subst h0; simp only [flF, if_pos]
            · rcases (ok.brn j hj).1 with ⟨e, _⟩ | ⟨h1, h2⟩
              · exact absurd e h0
              simp only [flF, if_neg h0]
              rw [ih g (h.br j).up.toNat (by omega) (by omega) (by omega)]
        exact key i _ _ (by omega) (by omega) (by omega)
      rw [e2]
/-- What flows, out of what flows further up. -/
theorem fl_step {h : Hl} (ok : HlOk h) (pump : Int) {i : Nat} (hi : i < h.brs.length) : fl h pump i = max 0 ((if i = 0 then pump else if 0 < opS (h.br i).up h.brs then fl h pump (h.br i).up.toNat * (h.br i).op / opS (h.br i).up h.brs else 0) - (h.br i).lk) := by
  by_cases h0 : i = 0
  · subst h0; unfold fl; simp only [flF, if_pos]
  · rcases (ok.brn i hi).1 with ⟨e, _⟩ | ⟨h1, h2⟩
    · exact absurd e h0
    rw [← flF_fuel ok pump i (h.br i).up.toNat (by omega) (by omega)]
    rfl
theorem fl_nonneg {h : Hl} (ok : HlOk h) (pump : Int) {i : Nat} (hi : i < h.brs.length) : 0 ≤ fl h pump i := by
  rw [fl_step ok pump hi]; omega
theorem share_le {f op S : Int} (hf : 0 ≤ f) (h0 : 0 ≤ op) (hS : op ≤ S) (hp : 0 < S) : 0 ≤ f * op / S ∧ f * op / S ≤ f := by
  refine ⟨Int.ediv_nonneg (Int.mul_nonneg hf h0) (by omega), ?_⟩
  have h1 : f * op ≤ f * S := Int.mul_le_mul_of_nonneg_left hS hf
  have h2 : f * op / S ≤ f * S / S := Int.ediv_le_ediv hp h1
  rwa [Int.mul_ediv_cancel _ (by omega)] at h2
theorem fl_le {h : Hl} (ok : HlOk h) {pump : Int} (hp : 0 ≤ pump) : ∀ i, i < h.brs.length → fl h pump i ≤ pump := by
  intro i
  induction i using Nat.strongRecOn with
  | ind i ih =>
    intro hi
    rw [fl_step ok pump hi]
    obtain ⟨h1, h2, h3, _⟩ := ok.brn i hi
    by_cases h0 : i = 0
    · rw [if_pos h0]; omega
    · rw [if_neg h0]
      rcases h1 with ⟨e, _⟩ | ⟨h4, h5⟩
      · exact absurd e h0
      have hu : (h.br i).up.toNat < h.brs.length := by omega
      have h6 := ih (h.br i).up.toNat (by omega) hu
      split
      · rename_i hS
        have h7 := share_le (fl_nonneg ok pump hu) h2.1 ((opS_ge ok.op0).2 _ (br_mem hi) rfl) hS
        omega
      · omega
/-- A stronger pump gives no branch less. -/
theorem fl_mono {h : Hl} (ok : HlOk h) {p q : Int} (hpq : p ≤ q) : ∀ i, i < h.brs.length → fl h p i ≤ fl h q i := by
  intro i
  induction i using Nat.strongRecOn with
  | ind i ih =>
    intro hi
    rw [fl_step ok p hi, fl_step ok q hi]
    obtain ⟨h1, h2, h3, _⟩ := ok.brn i hi
    by_cases h0 : i = 0
    · rw [if_pos h0, if_pos h0]; omega
    · rw [if_neg h0, if_neg h0]
      rcases h1 with ⟨e, _⟩ | ⟨h4, h5⟩
      · exact absurd e h0
      have h6 := ih (h.br i).up.toNat (by omega) (by omega)
      split
      · rename_i hS
        have h7 : fl h p (h.br i).up.toNat * (h.br i).op / opS (h.br i).up h.brs ≤ fl h q (h.br i).up.toNat * (h.br i).op / opS (h.br i).up h.brs := Int.ediv_le_ediv hS (Int.mul_le_mul_of_nonneg_right h6 h2.1)
        omega
      · omega
/-- The flow in what hangs on b, taken together. -/
def flS (h : Hl) (pump : Int) (b : Int) : Nat → Int
  | 0 => 0
  | k + 1 => flS h pump b k + if (h.br k).up = b ∧ k ≠ 0 then fl h pump k else 0
theorem opS_take {h : Hl} {b : Int} {k : Nat} (hk : k < h.brs.length) : opS b (h.brs.take (k + 1)) = opS b (h.brs.take k) + if (h.br k).up = b then (h.br k).op else 0 := by
  rw [List.take_add_one, List.getElem?_eq_getElem hk, show (some h.brs[k]).toList = [h.brs[k]] from rfl, opS_snoc]
  have e : h.br k = h.brs[k] := by unfold Hl.br; rw [List.getD_eq_getElem?_getD, List.getElem?_eq_getElem hk]; rfl
  rw [e]
theorem flS_le {h : Hl} (ok : HlOk h) {pump : Int} {b : Nat} (hb : b < h.brs.length) : flS h pump b h.brs.length ≤ fl h pump b := by
  have h0 := fl_nonneg ok pump hb
  by_cases hS : 0 < opS b h.brs
  · have key : ∀ k ≤ h.brs.length, opS b h.brs * flS h pump b k ≤ fl h pump b * opS b (h.brs.take k) := by
      intro k
      induction k with
      | zero => intro _; simp [flS, opS]
      | succ k ih =>
        intro hk
        have i1 := ih (by omega)
        obtain ⟨h1, h2, h3, _⟩ := ok.brn k (by omega)
        rw [opS_take (by omega)]
        simp only [flS]
        by_cases hu : (h.br k).up = b ∧ k ≠ 0
        · rw [if_pos hu, if_pos hu.1, Int.mul_add, Int.mul_add]
          have h6 : opS b h.brs * fl h pump k ≤ fl h pump b * (h.br k).op := by
            rw [fl_step ok pump (show k < h.brs.length by omega), if_neg hu.2, hu.1, if_pos hS, Int.toNat_natCast]
            have h7 : 0 ≤ fl h pump b * (h.br k).op := Int.mul_nonneg h0 h2.1
            have h8 : opS b h.brs * (fl h pump b * (h.br k).op / opS b h.brs) ≤ fl h pump b * (h.br k).op := Int.mul_ediv_self_le (by omega)
            have h9 : 0 ≤ fl h pump b * (h.br k).op / opS b h.brs := Int.ediv_nonneg h7 (by omega)
            have h10 : max 0 (fl h pump b * (h.br k).op / opS b h.brs - (h.br k).lk) ≤ fl h pump b * (h.br k).op / opS b h.brs := by omega
            exact Int.le_trans (Int.mul_le_mul_of_nonneg_left h10 (by omega)) h8
          omega
        · rw [if_neg hu, Int.add_zero]
          have h7 : 0 ≤ fl h pump b * (if (h.br k).up = b then (h.br k).op else 0) := Int.mul_nonneg h0 (by split <;> omega)
          rw [Int.mul_add]
          omega
    have h1 := key _ (Nat.le_refl _)
    rw [List.take_length, Int.mul_comm] at h1
    exact Int.le_of_mul_le_mul_right h1 hS
  · have key : ∀ k ≤ h.brs.length, flS h pump b k ≤ 0 := by
      intro k
      induction k with
      | zero => intro _; simp [flS]
      | succ k ih =>
        intro hk
        have i1 := ih (by omega)
        obtain ⟨h1, h2, h3, h4⟩ := ok.brn k (by omega)
        simp only [flS]
        split
        · rename_i hu
          rw [fl_step ok pump (show k < h.brs.length by omega), if_neg hu.2, hu.1, if_neg hS]
          omega
        · omega
    have := key _ (Nat.le_refl _)
    omega
/-- What hangs on a branch, over whatever branches. -/
inductive Desc (h : Hl) : Nat → Nat → Prop
  | refl (b : Nat) : Desc h b b
  | step {b c j : Nat} (hc : c < h.brs.length) (hu : (h.br c).up = (b : Int)) (hd : Desc h c j) : Desc h b j
theorem Desc.snoc {h : Hl} {b u j : Nat} (hd : Desc h b u) (hj : j < h.brs.length) (hu : (h.br j).up = (u : Int)) : Desc h b j := by
  induction hd with
  | refl b => exact .step hj hu (.refl j)
  | step hc hu' _ ih => exact .step hc hu' (ih hu)
theorem desc_all {h : Hl} (ok : HlOk h) : ∀ j, j < h.brs.length → Desc h 0 j := by
  intro j
  induction j using Nat.strongRecOn with
  | ind j ih =>
    intro hj
    rcases (ok.brn j hj).1 with ⟨e, _⟩ | ⟨h1, h2⟩
    · rw [e]; exact .refl 0
    · exact (ih (h.br j).up.toNat (by omega) (by omega)).snoc hj (by omega)
theorem desc_lt {h : Hl} (ok : HlOk h) {b j : Nat} (hd : Desc h b j) (hb : b < h.brs.length) : j < h.brs.length := by
  induction hd with
  | refl b => exact hb
  | step hc _ _ ih => exact ih hc
theorem fl_dry {h : Hl} (ok : HlOk h) {pump : Int} {b i : Nat} (hi : i < h.brs.length) (hu : (h.br i).up = (b : Int)) (hz : fl h pump b = 0 ∨ ¬ 0 < opS b h.brs) : fl h pump i = 0 := by
  obtain ⟨h1, h2, h3, _⟩ := ok.brn i hi
  rw [fl_step ok pump hi]
  have h0 : i ≠ 0 := by rcases h1 with ⟨e, h4⟩ | ⟨h4, h5⟩ <;> omega
  rw [if_neg h0, hu, Int.toNat_natCast]
  rcases hz with hz | hz
  · rw [hz, Int.zero_mul, Int.zero_ediv]
    split <;> omega
  · rw [if_neg hz]; omega
theorem desc_dry {h : Hl} (ok : HlOk h) {pump : Int} {b j : Nat} (hd : Desc h b j) (hz : fl h pump b = 0) : fl h pump j = 0 := by
  induction hd with
  | refl b => exact hz
  | step hc hu _ ih => exact ih (fl_dry ok hc hu (Or.inl hz))
/-- A greater leak gives none more. -/
theorem fl_leak {h g : Hl} (ok : HlOk h) (ok' : HlOk g) {p : Int} (hl : g.brs.length = h.brs.length) (hs : ∀ i < h.brs.length, (g.br i).up = (h.br i).up ∧ (g.br i).op = (h.br i).op ∧ (h.br i).lk ≤ (g.br i).lk) (ho : ∀ b, opS b g.brs = opS b h.brs) : ∀ i, i < h.brs.length → fl g p i ≤ fl h p i := by
  intro i
  induction i using Nat.strongRecOn with
  | ind i ih =>
    intro hi
    rw [fl_step ok p hi, fl_step ok' p (by omega)]
    obtain ⟨h1, h2, h3, _⟩ := ok.brn i hi
    obtain ⟨e1, e2, e3⟩ := hs i hi
    rw [e1, e2, ho]
    by_cases h0 : i = 0
    · rw [if_pos h0, if_pos h0]; omega
    · rw [if_neg h0, if_neg h0]
      rcases h1 with ⟨e, _⟩ | ⟨h4, h5⟩
      · exact absurd e h0
      have h6 := ih (h.br i).up.toNat (by omega) (by omega)
      split
      · rename_i hS
        have h7 : fl g p (h.br i).up.toNat * (h.br i).op / opS (h.br i).up h.brs ≤ fl h p (h.br i).up.toNat * (h.br i).op / opS (h.br i).up h.brs := Int.ediv_le_ediv hS (Int.mul_le_mul_of_nonneg_right h6 h2.1)
        omega
      · omega
/-- The sums of Open of the first branches, for all branches. -/
def opL (n : Nat) (l : List Brn) : List Int := (List.range n).map (fun b : Nat => opS (b : Int) l)
theorem opL_len (n : Nat) (l : List Brn) : (opL n l).length = n := by simp [opL]
theorem opL_get {n u : Nat} {l : List Brn} (h : u < n) : (opL n l)[u]? = some (opS (u : Int) l) := by simp [opL, h]
theorem opL_nil (n : Nat) : opL n [] = List.replicate n 0 := by
  apply List.ext_getElem?
  intro i
  by_cases h : i < n
  · rw [opL_get h]; simp [opS, h]
  · rw [List.getElem?_eq_none (by rw [opL_len]; omega), List.getElem?_eq_none (by simp; omega)]
theorem opL_skip {n : Nat} {l : List Brn} {x : Brn} (h : x.up = -1) : opL n (l ++ [x]) = opL n l := by
  unfold opL
  apply List.map_congr_left
  intro b _
  rw [opS_snoc, if_neg (by omega), Int.add_zero]
theorem opL_set {n u : Nat} {l : List Brn} {x : Brn} (hu : u < n) (h : x.up = (u : Int)) : (opL n l).set u (opS (u : Int) l + x.op) = opL n (l ++ [x]) := by
  apply List.ext_getElem?
  intro i
  by_cases hi : i < n
  · rw [opL_get hi, List.getElem?_set]
    by_cases e : u = i
    · subst e
      rw [if_pos rfl, if_pos (by rw [opL_len]; exact hi), opS_snoc, if_pos h]
    · rw [if_neg e, opL_get hi, opS_snoc, if_neg (by omega), Int.add_zero]
  · rw [List.getElem?_eq_none (by rw [List.length_set, opL_len]; omega), List.getElem?_eq_none (by rw [opL_len]; omega)]
theorem block_of_cell {w : World} {p : Addr} {v : Value} (h : w.cell? p = some v) : p.block < w.heap.size := by
  rcases Nat.lt_or_ge p.block w.heap.size with h1 | h1
  · exact h1
  · simp [World.cell?, Array.getElem?_eq_none h1] at h
def Rom.enc (x : Rom) : List Value := [.int .i64 x.st, .int .i64 x.lim]
def Wal.enc (x : Wal) : List Value := [.int .i64 x.a, .int .i64 x.b, .int .i64 x.p]
def Brn.enc (x : Brn) : List Value := [.int .i64 x.up, .int .i64 x.op, .int .i64 x.lk]
def Clr.enc (x : Clr) : List Value := [.int .i64 x.rm, .int .i64 x.br, .int .i64 x.gn, .int .i64 x.cr, .int .i64 x.sp]
theorem Rom.cells {w : World} {b o : Nat} {x : Rom} (h : ∀ j u, x.enc[j]? = some u → w.cell? ⟨b, o + j, none⟩ = some u) :
    w.cell? ⟨b, o, none⟩ = some (.int .i64 x.st) ∧ w.cell? ⟨b, o + 1, none⟩ = some (.int .i64 x.lim) := ⟨h 0 _ rfl, h 1 _ rfl⟩
theorem Wal.cells {w : World} {b o : Nat} {x : Wal} (h : ∀ j u, x.enc[j]? = some u → w.cell? ⟨b, o + j, none⟩ = some u) :
    w.cell? ⟨b, o, none⟩ = some (.int .i64 x.a) ∧ w.cell? ⟨b, o + 1, none⟩ = some (.int .i64 x.b) ∧ w.cell? ⟨b, o + 2, none⟩ = some (.int .i64 x.p) := ⟨h 0 _ rfl, h 1 _ rfl, h 2 _ rfl⟩
theorem Brn.cells {w : World} {b o : Nat} {x : Brn} (h : ∀ j u, x.enc[j]? = some u → w.cell? ⟨b, o + j, none⟩ = some u) :
    w.cell? ⟨b, o, none⟩ = some (.int .i64 x.up) ∧ w.cell? ⟨b, o + 1, none⟩ = some (.int .i64 x.op) ∧ w.cell? ⟨b, o + 2, none⟩ = some (.int .i64 x.lk) := ⟨h 0 _ rfl, h 1 _ rfl, h 2 _ rfl⟩
theorem Clr.cells {w : World} {b o : Nat} {x : Clr} (h : ∀ j u, x.enc[j]? = some u → w.cell? ⟨b, o + j, none⟩ = some u) :
    w.cell? ⟨b, o, none⟩ = some (.int .i64 x.rm) ∧ w.cell? ⟨b, o + 1, none⟩ = some (.int .i64 x.br) ∧ w.cell? ⟨b, o + 2, none⟩ = some (.int .i64 x.gn) ∧ w.cell? ⟨b, o + 3, none⟩ = some (.int .i64 x.cr) ∧ w.cell? ⟨b, o + 4, none⟩ = some (.int .i64 x.sp) := ⟨h 0 _ rfl, h 1 _ rfl, h 2 _ rfl, h 3 _ rfl, h 4 _ rfl⟩
/-- Where a hall's lists lie. -/
structure HA where
  (rA wA bA cA : Option Addr)
  (rn wn bn cn : Nat)
/-- A hall in memory. -/
structure HlIn (w : World) (B : Nat) (a : HA) (h : Hl) : Prop where
  rm : Rd w B 2 Rom.enc a.rA a.rn h.rooms
  wl : Rd w B 3 Wal.enc a.wA a.wn h.walls
  br : Rd w B 3 Brn.enc a.bA a.bn h.brs
  cl : Rd w B 5 Clr.enc a.cA a.cn h.crs
theorem HlIn.next {w w' : World} {a : HA} {h : Hl} (hh : HlIn w w.heap.size a h) (hb : Below w.heap.size w w') : HlIn w' w'.heap.size a h := ⟨hh.rm.next hb, hh.wl.next hb, hh.br.next hb, hh.cl.next hb⟩
theorem Rd.brAt {w : World} {B n : Nat} {A : Option Addr} {h : Hl} (hr : Rd w B 3 Brn.enc A n h.brs) {k : Nat} (hk : k < n) : ∃ b off, A = some ⟨b, off, none⟩ ∧ b < B ∧ h.brs[k]? = some (h.br k) ∧ w.cell? ⟨b, off + k * 3, none⟩ = some (.int .i64 (h.br k).up) ∧ w.cell? ⟨b, off + k * 3 + 1, none⟩ = some (.int .i64 (h.br k).op) ∧ w.cell? ⟨b, off + k * 3 + 2, none⟩ = some (.int .i64 (h.br k).lk) := by
  obtain ⟨b, off, x, e, hb, hx, hc⟩ := hr.at_ hk
  have e1 : h.br k = x := by unfold Hl.br; rw [List.getD_eq_getElem?_getD, hx]; rfl
  rw [e1]
  obtain ⟨c0, c1, c2⟩ := Brn.cells hc
  exact ⟨b, off, e, hb, hx, c0, c1, c2⟩
end Go.Proofs.Ytldbciflpnhfpaa
