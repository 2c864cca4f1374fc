/-
  What is told turns at some times alone: then the map of what is told at those times tells it at all times. Plain mathematics, without any program.
-/
import Derived.Test.YtanbbkoleekmjagPk1
import Derived.Test.YtanbbkoleekmjagTh
namespace Go.Proofs.Ytanbbkoleekmjag

structure MTurns (S : List Int) (f : Int → Option Int) : Prop where
  same : ∀ s t, s ≤ t → (∀ x ∈ S, ¬ (s < x ∧ x ≤ t)) → f s = f t
  low : ∀ t, (∀ x ∈ S, t < x) → f t = none
  high : ∀ t, (∀ x ∈ S, x ≤ t) → f t = none

theorem mseg_none {S : List Int} {f : Int → Option Int} {i : Nat} {t : Int} (h : ∀ k, k < i → ¬ (S.getD k 0 ≤ t ∧ t < S.getD (k + 1) 0)) : mseg S f i t = none := by
  induction i with
  | zero => rfl
  | succ i ih => rw [mseg_succ, ih (fun k hk => h k (by omega)), if_neg (h i (by omega))]; rfl

theorem mseg_at {S : List Int} {f : Int → Option Int} {i k : Nat} {t : Int} (hS : S.Pairwise (· < ·)) (hi : i < S.length) (hk : k < i) (h : S.getD k 0 ≤ t ∧ t < S.getD (k + 1) 0) : mseg S f i t = f (S.getD k 0) := by
  rw [List.pairwise_iff_getElem] at hS
  have mono : ∀ a b, a ≤ b → b < S.length → S.getD a 0 ≤ S.getD b 0 := by
    intro a b hab hb
    rw [getD_get (by omega : a < S.length), getD_get hb]
    by_cases e : a = b
    · subst e; exact Int.le_refl _
    · exact Int.le_of_lt (hS a b (by omega) hb (by omega))
  induction i with
  | zero => omega
  | succ i ih =>
    rw [mseg_succ]
    by_cases e : k = i
    · subst e
      rw [mseg_none (fun j hj hc => ?_), if_pos h]
      · rfl
      · have := mono (j + 1) k (by omega) (by omega); omega
    · rw [ih (by omega) (by omega), if_neg (fun hc => ?_)]
      · cases f (S.getD k 0) <;> rfl
      · have := mono (k + 1) i (by omega) (by omega); omega

theorem mseg_turns {S : List Int} {f : Int → Option Int} (hS : S.Pairwise (· < ·)) (h : MTurns S f) (t : Int) : mseg S f (S.length - 1) t = f t := by
  have hc := fun j hj => cnt_index hS t j hj
  rcases Nat.eq_zero_or_pos (cnt S t) with h0 | h0
  · rw [h.low t (fun x hx => by
      obtain ⟨j, hj, rfl⟩ := List.getElem_of_mem hx
      have := hc j hj; omega)]
    refine mseg_none fun k hk hh => ?_
    rw [getD_get (by omega : k < S.length)] at hh
    have := (hc k (by omega)).1 hh.1; omega
  rcases Nat.lt_or_ge (cnt S t) S.length with h1 | h1
  · have a1 := (hc (cnt S t - 1) (by omega)).2 (by omega)
    have a2 : ¬ S[cnt S t - 1 + 1] ≤ t := fun hh => by have := (hc (cnt S t - 1 + 1) (by omega)).1 hh; omega
    rw [mseg_at (k := cnt S t - 1) hS (by omega) (by omega) (by rw [getD_get (by omega : cnt S t - 1 < S.length), getD_get (by omega : cnt S t - 1 + 1 < S.length)]; omega), getD_get (by omega : cnt S t - 1 < S.length)]
    refine h.same _ t a1 fun x hx hcx => ?_
    obtain ⟨j, hj, rfl⟩ := List.getElem_of_mem hx
    have hS' := hS
    rw [List.pairwise_iff_getElem] at hS'
    by_cases hjk : j ≤ cnt S t - 1
    · by_cases e : j = cnt S t - 1
      · subst e; omega
      · have := hS' j (cnt S t - 1) hj (by omega) (by omega); omega
    · have := (hc j hj).1 hcx.2; omega
  · rw [h.high t (fun x hx => by
      obtain ⟨j, hj, rfl⟩ := List.getElem_of_mem hx
      have := hc j hj; omega)]
    refine mseg_none fun k hk hh => ?_
    rw [getD_get (by omega : k + 1 < S.length)] at hh
    have := (hc (k + 1) (by omega)).2 (by omega); omega

theorem inP_same {p : Int × Int × Int} {s t : Int} (hst : s ≤ t) (h1 : ¬ (s < p.1 ∧ p.1 ≤ t)) (h2 : ¬ (s < p.2.1 ∧ p.2.1 ≤ t)) : inP p s = inP p t := by
  rw [Bool.eq_iff_iff, inP_iff, inP_iff]; omega
theorem tel_same {m : List (Int × Int × Int)} {s t : Int} (hst : s ≤ t) (h : ∀ x ∈ turnsOf m, ¬ (s < x ∧ x ≤ t)) : tel m s = tel m t := by
  induction m with
  | nil => rfl
  | cons p m ih =>
    have hp := mem_turnsOf (m := p :: m) (p := p) (by simp)
    rw [tel_cons, tel_cons, inP_same hst (h _ hp.1) (h _ hp.2), ih fun x hx => h x (by unfold turnsOf at hx ⊢; rw [List.flatMap_cons, List.mem_append]; exact .inr hx)]
theorem inP_low {p : Int × Int × Int} {t : Int} (h : t < p.1) : inP p t = false := by unfold inP; simp only [Bool.and_eq_false_iff, decide_eq_false_iff_not]; omega
theorem inP_high {p : Int × Int × Int} {t : Int} (h : p.2.1 ≤ t) : inP p t = false := by unfold inP; simp only [Bool.and_eq_false_iff, decide_eq_false_iff_not]; omega
theorem tel_low {m : List (Int × Int × Int)} {t : Int} (h : ∀ x ∈ turnsOf m, t < x) : tel m t = none := tel_none fun _ hp => inP_low (h _ (mem_turnsOf hp).1)
theorem tel_high {m : List (Int × Int × Int)} {t : Int} (h : ∀ x ∈ turnsOf m, x ≤ t) : tel m t = none := tel_none fun _ hp => inP_high (h _ (mem_turnsOf hp).2)

/-- what Put tells -/
def putF (m : List (Int × Int × Int)) (p : Int × Int × Int) (t : Int) : Option Int := if inP p t then some p.2.2 else tel m t
theorem putF_turns {m : List (Int × Int × Int)} {p : Int × Int × Int} {S : List Int} (hm : ∀ x, x ∈ S ↔ x ∈ turnsOf m ++ [p.1, p.2.1]) : MTurns S (putF m p) := by
  have h1 : ∀ x ∈ turnsOf m, x ∈ S := fun x hx => (hm x).2 (by simp [hx])
  have h2 : p.1 ∈ S := (hm _).2 (by simp)
  have h3 : p.2.1 ∈ S := (hm _).2 (by simp)
  refine ⟨fun s t hst h => ?_, fun t h => ?_, fun t h => ?_⟩
  · unfold putF; rw [inP_same hst (h _ h2) (h _ h3), tel_same hst fun x hx => h x (h1 x hx)]
  · unfold putF; rw [inP_low (h _ h2), tel_low fun x hx => h x (h1 x hx)]; rfl
  · unfold putF; rw [inP_high (h _ h3), tel_high fun x hx => h x (h1 x hx)]; rfl

/-- what Cut (b false) and Keep (b true) tell -/
def onlyF (m : List (Int × Int × Int)) (l : List (Int × Int)) (b : Bool) (t : Int) : Option Int := if has l t = b then tel m t else none
theorem onlyF_turns {m : List (Int × Int × Int)} {l : List (Int × Int)} {b : Bool} {S : List Int} (hm : ∀ x, x ∈ S ↔ x ∈ turnsOf m ++ flat l) : MTurns S (onlyF m l b) := by
  have h1 : ∀ x ∈ turnsOf m, x ∈ S := fun x hx => (hm x).2 (by simp [hx])
  have h2 : ∀ x ∈ flat l, x ∈ S := fun x hx => (hm x).2 (by simp [hx])
  refine ⟨fun s t hst h => ?_, fun t h => ?_, fun t h => ?_⟩
  · unfold onlyF; rw [has_same hst fun x hx => h x (h2 x hx), tel_same hst fun x hx => h x (h1 x hx)]
  · unfold onlyF; rw [tel_low fun x hx => h x (h1 x hx)]; simp
  · unfold onlyF; rw [tel_high fun x hx => h x (h1 x hx)]; simp

/-- two values put together -/
def both (how x y : Int) : Int := if how = 1 then min x y else if how = 2 then max x y else x + y
/-- is it a way to put together? -/
def isHow (how : Int) : Bool := decide (how = 1 ∨ how = 2 ∨ how = 3)
theorem isHow_yes {how : Int} (h : how = 1 ∨ how = 2 ∨ how = 3) : isHow how = true := by unfold isHow; rw [decide_eq_true_eq]; exact h
theorem isHow_no {how : Int} (h : ¬ (how = 1 ∨ how = 2 ∨ how = 3)) : isHow how = false := by unfold isHow; rw [decide_eq_false_iff_not]; exact h
/-- a number that two may be put together of -/
def wideB (x : Int) : Prop := -1000000000000 ≤ x ∧ x ≤ 1000000000000
theorem wide_of_near {x : Int} (h : nearB x) : wideB x := by unfold nearB at h; unfold wideB; omega
def mrg (how : Int) : Option Int → Option Int → Option Int
  | none, y => y
  | some x, none => some x
  | some x, some y => some (both how x y)
/-- what Merge tells -/
def mergeF (a b : List (Int × Int × Int)) (how t : Int) : Option Int := mrg how (tel a t) (tel b t)
theorem mergeF_turns {a b : List (Int × Int × Int)} {how : Int} {S : List Int} (hm : ∀ x, x ∈ S ↔ x ∈ turnsOf a ++ turnsOf b) : MTurns S (mergeF a b how) := by
  have h1 : ∀ x ∈ turnsOf a, x ∈ S := fun x hx => (hm x).2 (by simp [hx])
  have h2 : ∀ x ∈ turnsOf b, x ∈ S := fun x hx => (hm x).2 (by simp [hx])
  refine ⟨fun s t hst h => ?_, fun t h => ?_, fun t h => ?_⟩
  · unfold mergeF; rw [tel_same hst fun x hx => h x (h1 x hx), tel_same hst fun x hx => h x (h2 x hx)]
  · unfold mergeF; rw [tel_low fun x hx => h x (h1 x hx), tel_low fun x hx => h x (h2 x hx)]; rfl
  · unfold mergeF; rw [tel_high fun x hx => h x (h1 x hx), tel_high fun x hx => h x (h2 x hx)]; rfl

/-- what the map that is told tells -/
theorem tl_tel {A S : List Int} {f : Int → Option Int} {o : List (Int × Int × Int)} (hO : Ordered A S) (hf : MTurns S f) (T : Tl S f (S.length - 1) o) (t : Int) : tel o t = f t := by
  rw [T.pts, mseg_turns hO.inc hf]

end Go.Proofs.Ytanbbkoleekmjag
