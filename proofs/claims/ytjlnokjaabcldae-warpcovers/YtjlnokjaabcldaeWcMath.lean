/-
  Cells cover just the times of messages, none twice; all of a cell has one state: plain mathematics, without any program.
-/
import Derived.Test.YtjlnokjaabcldaeWpMath
namespace Go.Proofs.Ytjlnokjaabcldae

/-- does a cell have the time? -/
def inC (t : Int) (c : Cl) : Bool := decide (c.1 ≤ t) && decide (t < c.2.1)
theorem inC_iff (t : Int) (c : Cl) : inC t c = true ↔ c.1 ≤ t ∧ t < c.2.1 := by unfold inC; simp only [Bool.and_eq_true, decide_eq_true_eq]
/-- how many cells have the time -/
def cn (t : Int) (cs : List Cl) : Nat := cs.countP (inC t)
theorem cn_take_yes {t : Int} {cs : List Cl} {k : Nat} (hk : k < cs.length) (h : inC t cs[k] = true) : cn t (cs.take (k + 1)) = cn t (cs.take k) + 1 := by
  unfold cn; rw [take_succ_get cs k hk, List.countP_append]; simp [h]
theorem cn_take_no {t : Int} {cs : List Cl} {k : Nat} (hk : k < cs.length) (h : inC t cs[k] = false) : cn t (cs.take (k + 1)) = cn t (cs.take k) := by
  unfold cn; rw [take_succ_get cs k hk, List.countP_append]; simp [h]
theorem cn_le (t : Int) (cs : List Cl) (k : Nat) : cn t (cs.take k) ≤ k := by
  unfold cn
  have h1 := List.countP_le_length (p := inC t) (l := cs.take k)
  rw [List.length_take] at h1
  omega

theorem rising_getD {S : List Int} (hS : S.Pairwise (· < ·)) {a b : Nat} (hab : a ≤ b) (hb : b < S.length) : S.getD a 0 ≤ S.getD b 0 := by
  rw [List.pairwise_iff_getElem] at hS
  rw [getD_get' (by omega : a < S.length), getD_get' hb]
  by_cases e : a = b
  · subst e; exact Int.le_refl _
  · exact Int.le_of_lt (hS a b (by omega) hb (by omega))

theorem cn_cells {m l : List (Int × Int × Int)} {how : Int} {S : List Int} (hS : S.Pairwise (· < ·)) (t : Int) (i : Nat) (hi : i + 1 ≤ S.length ∨ i = 0) : cn t (cellsTo m l how S i) = if (mseg S (mix how l) i t).isSome = true then 1 else 0 := by
  induction i with
  | zero => rfl
  | succ i ih =>
    have hi' : i + 1 < S.length := by omega
    have ih := ih (by omega)
    rw [cellsTo, cn, List.countP_append, mseg_succ]
    unfold cn at ih
    rw [ih]
    unfold cellAt
    cases hm : mix how l (S.getD i 0) with
    | none => simp
    | some v =>
      simp only [List.countP_cons, List.countP_nil, Nat.zero_add]
      by_cases hin : S.getD i 0 ≤ t ∧ t < S.getD (i + 1) 0
      · have h0 : mseg S (mix how l) i t = none := mseg_none fun k hk hc => by
          have := rising_getD hS (a := k + 1) (b := i) (by omega) (by omega)
          omega
        rw [if_pos hin, h0, if_pos (show inC t (S.getD i 0, S.getD (i + 1) 0, (tel m (S.getD i 0)).getD 0, (tel m (S.getD i 0)).isSome, v) = true from (inC_iff _ _).2 hin)]
        rfl
      · rw [if_neg hin, if_neg (fun h => hin ((inC_iff _ _).1 h))]
        simp

theorem cells_low {m l : List (Int × Int × Int)} {how : Int} {S : List Int} (hS : S.Pairwise (· < ·)) {i : Nat} (hi : i + 1 ≤ S.length ∨ i = 0) : ∀ c ∈ cellsTo m l how S i, c.1 < c.2.1 ∧ c.2.1 ≤ S.getD i 0 := by
  intro c hc
  obtain ⟨j, hj, hji, v, _, rfl⟩ := cellsTo_mem hi hc
  have hS' := hS
  rw [List.pairwise_iff_getElem] at hS'
  refine ⟨hS' j (j + 1) (by omega) hj (by omega), ?_⟩
  have := rising_getD hS (a := j + 1) (b := i) (by omega) (by omega)
  rw [getD_get' hj] at this
  exact this
theorem cells_rise {m l : List (Int × Int × Int)} {how : Int} {S : List Int} (hS : S.Pairwise (· < ·)) (i : Nat) (hi : i + 1 ≤ S.length ∨ i = 0) : (cellsTo m l how S i).Pairwise (fun c d => c.2.1 ≤ d.1) := by
  induction i with
  | zero => exact List.Pairwise.nil
  | succ i ih =>
    rw [cellsTo, List.pairwise_append]
    refine ⟨ih (by omega), ?_, fun c hc d hd => ?_⟩
    · unfold cellAt; split <;> simp
    · have := (cells_low hS (by omega) c hc).2
      unfold cellAt at hd
      split at hd
      · simp at hd
      · simp only [List.mem_singleton] at hd
        subst hd; exact this
theorem cells_next {m l : List (Int × Int × Int)} {how : Int} {S : List Int} (hS : S.Pairwise (· < ·)) {i k : Nat} (hi : i + 1 ≤ S.length ∨ i = 0) (hk : k + 1 < (cellsTo m l how S i).length) : (cellsTo m l how S i)[k].2.1 ≤ (cellsTo m l how S i)[k + 1].1 := by
  have := cells_rise (m := m) (l := l) (how := how) hS i hi
  rw [List.pairwise_iff_getElem] at this
  exact this k (k + 1) (by omega) hk (by omega)

/-- what is told at the times of a cell -/
theorem cells_at {m l : List (Int × Int × Int)} {how t : Int} {S : List Int} (hO : Ordered (turnsOf m ++ turnsOf l) S) {i : Nat} (hi : i + 1 ≤ S.length ∨ i = 0) {c : Cl} (hc : c ∈ cellsTo m l how S i) (ht : inC t c = true) : c.2.2.1 = (tel m t).getD 0 ∧ c.2.2.2.1 = (tel m t).isSome ∧ mix how l t = some c.2.2.2.2 := by
  obtain ⟨j, hj, hji, v, hv, rfl⟩ := cellsTo_mem hi hc
  rw [inC_iff] at ht
  simp only at ht ⊢
  have hS' := hO.inc
  rw [List.pairwise_iff_getElem] at hS'
  have hb : ∀ x, x ∈ turnsOf m ++ turnsOf l → ¬ (S[j] < x ∧ x ≤ t) := by
    intro x hx hc
    obtain ⟨k, hk, rfl⟩ := List.getElem_of_mem ((hO.mem x).2 hx)
    by_cases h1 : k ≤ j
    · by_cases e : k = j
      · subst e; omega
      · have := hS' k j hk (by omega) (by omega); omega
    · by_cases e : k = j + 1
      · subst e; omega
      · have := hS' (j + 1) k hj hk (by omega); omega
  have h1 : tel m S[j] = tel m t := tel_same ht.1 fun x hx => hb x (List.mem_append.2 (.inl hx))
  have h2 : mix how l S[j] = mix how l t := (mix_turns (S := S) fun x hx => (hO.mem x).2 (List.mem_append.2 (.inr hx))).same S[j] t ht.1 fun x hx => hb x ((hO.mem x).1 hx)
  rw [← h1, ← h2]
  exact ⟨rfl, rfl, hv⟩

theorem cn_all {m l : List (Int × Int × Int)} {how : Int} {S : List Int} (hO : Ordered (turnsOf m ++ turnsOf l) S) (t : Int) : cn t (cellsTo m l how S (S.length - 1)) = if (mix how l t).isSome = true then 1 else 0 := by
  rw [cn_cells hO.inc t _ (by omega), mseg_turns hO.inc (mix_turns fun x hx => (hO.mem x).2 (List.mem_append.2 (.inr hx)))]
theorem mix_any (how : Int) (l : List (Int × Int × Int)) (t : Int) : l.any (fun p => inP p t) = (mix how l t).isSome := by
  cases h : mix how l t with
  | none =>
    rw [mix_cons_none] at h
    rw [Option.isSome_none, List.any_eq_false]
    intro p hp
    rw [h p hp]; decide
  | some v =>
    rw [Option.isSome_some]
    by_cases hh : l.any (fun p => inP p t) = true
    · exact hh
    · rw [Bool.not_eq_true, List.any_eq_false] at hh
      have : mix how l t = none := mix_cons_none.2 fun p hp => by simpa using hh p hp
      rw [h] at this; cases this

/-- the cells that the law asks ahead of all -/
def exC : List Cl := [(3, 5, 3, true, 9), (5, 8, 0, false, 9)]
theorem exC_is : CellsIs [(0, 5, 3)] [(3, 8, 9)] 1 0 exC := by
  refine ⟨[0, 3, 5, 8], ⟨by simp, fun x => ?_, by simp [turnsOf]⟩, .inr (.inr ⟨?_, ?_, rfl, ?_⟩)⟩
  · simp [turnsOf]; omega
  · intro c hc
    have : cellsTo [(0, 5, 3)] [(3, 8, 9)] 1 [0, 3, 5, 8] ([0, 3, 5, 8] : List Int).length.pred = exC := by decide
    have hc' : c ∈ exC := this ▸ hc
    simp [exC] at hc'
    rcases hc' with rfl | rfl <;> simp [nearB]
  · have : cellsTo [(0, 5, 3)] [(3, 8, 9)] 1 [0, 3, 5, 8] ([0, 3, 5, 8] : List Int).length.pred = exC := by decide
    show (cellsTo [(0, 5, 3)] [(3, 8, 9)] 1 [0, 3, 5, 8] ([0, 3, 5, 8] : List Int).length.pred).length ≤ 200
    rw [this]; decide
  · show exC = cellsTo [(0, 5, 3)] [(3, 8, 9)] 1 [0, 3, 5, 8] ([0, 3, 5, 8] : List Int).length.pred
    decide

end Go.Proofs.Ytjlnokjaabcldae
