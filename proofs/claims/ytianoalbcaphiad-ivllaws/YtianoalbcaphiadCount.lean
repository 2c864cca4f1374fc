/-
  How many times two sets have: the plain mathematics, without any program.
-/
import Derived.Test.YtianoalbcaphiadSets
namespace Go.Proofs.Ytianoalbcaphiad

/-- how many of n numbers from lo on are told? -/
def cntB (f : Int → Bool) (lo : Int) : Nat → Int
  | 0 => 0
  | n + 1 => cntB f lo n + if f (lo + n) = true then 1 else 0

theorem cntB_congr {f g : Int → Bool} (h : ∀ t, f t = g t) (lo : Int) (n : Nat) : cntB f lo n = cntB g lo n := by
  induction n with
  | zero => rfl
  | succ n ih => rw [cntB, cntB, ih, h]
theorem cntB_false (lo : Int) (n : Nat) : cntB (fun _ => false) lo n = 0 := by
  induction n with
  | zero => rfl
  | succ n ih => rw [cntB, ih]; simp
theorem cntB_or {f g : Int → Bool} (lo : Int) (n : Nat) : cntB (fun t => f t || g t) lo n + cntB (fun t => f t && g t) lo n = cntB f lo n + cntB g lo n := by
  induction n with
  | zero => rfl
  | succ n ih =>
    rw [cntB, cntB, cntB, cntB]
    cases f (lo + n) <;> cases g (lo + n) <;> simp <;> omega
theorem cntB_one (p : Int × Int) (lo : Int) (n : Nat) (h1 : lo ≤ p.1) (h2 : p.1 ≤ p.2) : cntB (fun t => decide (p.1 ≤ t) && decide (t < p.2)) lo n = if lo + n ≤ p.1 then 0 else min (lo + n) p.2 - p.1 := by
  induction n with
  | zero => rw [cntB, if_pos (by simp; omega)]
  | succ n ih =>
    rw [cntB, ih]
    have e : ((n + 1 : Nat) : Int) = (n : Int) + 1 := by omega
    rw [e]
    by_cases a : p.1 ≤ lo + n
    · by_cases b : lo + n < p.2
      · simp only [a, b, decide_true, Bool.and_self, if_true]
        split <;> split <;> omega
      · simp only [a, b, decide_true, decide_false, Bool.and_false, Bool.false_eq_true, if_false]
        split <;> split <;> omega
    · simp only [a, decide_false, Bool.false_and, Bool.false_eq_true, if_false]
      split <;> split <;> omega

theorem cntB_size {l : List (Int × Int)} (h : Canon l) (lo : Int) (n : Nat) (hb : ∀ x ∈ flat l, lo ≤ x ∧ x ≤ lo + n) : cntB (has l) lo n = size l := by
  induction l with
  | nil => exact cntB_false lo n
  | cons p l ih =>
    have hc := h
    unfold Canon at hc
    rw [flat_cons, List.pairwise_cons, List.pairwise_cons] at hc
    rw [flat_cons] at hb
    have ih' := ih hc.2.2 (fun x hx => hb x (by simp [hx]))
    have b1 := hb p.1 (by simp)
    have b2 := hb p.2 (by simp)
    have h12 := hc.1 p.2 (by simp)
    have ho := cntB_or (f := fun t => decide (p.1 ≤ t) && decide (t < p.2)) (g := has l) lo n
    have hz : cntB (fun t => (decide (p.1 ≤ t) && decide (t < p.2)) && has l t) lo n = 0 := by
      rw [cntB_congr (g := fun _ => false) _ lo n, cntB_false]
      intro t
      by_cases a : t < p.2
      · have : has l t = false := by
          rw [canon_has hc.2.2, cnt_none (fun x hx => by have := hc.2.1 x hx; omega)]; rfl
        rw [this]; simp
      · simp [a]
    rw [hz, cntB_one p lo n b1.1 (by omega), ih', if_neg (by omega)] at ho
    rw [size_cons]
    have e : cntB (has (p :: l)) lo n = cntB (fun t => (decide (p.1 ≤ t) && decide (t < p.2)) || has l t) lo n := cntB_congr (fun t => has_cons p l t) lo n
    rw [e]
    omega

theorem size_both {a b u m : List (Int × Int)} (ha : Canon a) (hb : Canon b) (hu : Canon u) (hm : Canon m) (na : ∀ x ∈ flat a, nearB x) (nb : ∀ x ∈ flat b, nearB x) (nu : ∀ x ∈ flat u, nearB x) (nm : ∀ x ∈ flat m, nearB x)
    (h1 : ∀ t, has u t = (has a t || has b t)) (h2 : ∀ t, has m t = (has a t && has b t)) : size a + size b = size u + size m := by
  have key : ∀ {l : List (Int × Int)}, Canon l → (∀ x ∈ flat l, nearB x) → ∀ N : Nat, (N : Int) = 2000000000 → cntB (has l) (-1000000000) N = size l := fun hc hn N hN =>
    cntB_size hc _ _ fun x hx => by have := hn x hx; unfold nearB at this; omega
  obtain ⟨N, hN⟩ : ∃ N : Nat, (N : Int) = 2000000000 := ⟨2000000000, rfl⟩
  rw [← key ha na N hN, ← key hb nb N hN, ← key hu nu N hN, ← key hm nm N hN, cntB_congr h1, cntB_congr h2]
  exact (cntB_or _ _).symm

end Go.Proofs.Ytianoalbcaphiad
