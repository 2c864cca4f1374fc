/-
  What visitsFrom, atLast and leastPrices of the program's states answer; Costs and Hops.
-/
import Derived.Test.YthgelfnflafoiagChC
import Derived.Test.YthgelfnflafoiagErB
namespace Go.Proofs.Ythgelfnflafoiag
open Go.RowKit

/-- the states of who is at v at t and has paid nothing yet -/
def VisOk (g : Gr) (pr : Ri → Int) (v t : Int) (M : Mp) : Prop := (aliveB t g.lives v = true ∧ SpE g (F1 v t) pr M) ∨ (aliveB t g.lives v = false ∧ M = fun _ _ => none)
theorem VisOk.snd {g : Gr} {pr : Ri → Int} {v t : Int} {M : Mp} (h : VisOk g pr v t M) {x y : Int} {z : Vs} (hz : M x y = some z) : Pay g pr v t x y z.1 := by
  rcases h with ⟨ha, h⟩ | ⟨_, rfl⟩
  · exact ⟨ha, h.snd _ _ _ hz⟩
  · cases hz
theorem VisOk.all {g : Gr} {pr : Ri → Int} {v t : Int} {M : Mp} (h : VisOk g pr v t M) {x y p : Int} (hp : Pay g pr v t x y p) : ∃ z, M x y = some z ∧ z.1 ≤ p := by
  rcases h with ⟨_, h⟩ | ⟨ha, _⟩
  · exact h.all _ _ _ hp.2
  · rw [hp.1] at ha; cases ha
theorem Pay.waits {g : Gr} (R : Right g) {pr : Ri → Int} {v0 t0 v t t' p : Int} (h0 : 0 ≤ v0) (h : Pay g pr v0 t0 v t p) (ht : t ≤ t') (ha : aliveB t' g.lives v = true) : Pay g pr v0 t0 v t' p := ⟨h.1, h.2.waits R (F1_ok h0 h.1) ht ha⟩
theorem Pay.place {g : Gr} (R : Right g) {pr : Ri → Int} {v0 t0 v t p : Int} (h0 : 0 ≤ v0) (h : Pay g pr v0 t0 v t p) : 0 ≤ v ∧ v < g.lives.length ∧ aliveB t g.lives v = true ∧ 0 ≤ t ∧ t < g.hor ∧ t0 ≤ t := h.2.place R (F1_ok h0 h.1)
/-- a state's price, or Inf -/
def prF (M : Mp) (v t : Int) : Int := match M v t with | none => 1099511627776 | some z => z.1
/-- the last time of a vertex -/
def lastT (g : Gr) (v : Nat) : Int := (g.lives.getD v (0, 0)).2 - 1
theorem lastT_at {g : Gr} {v : Nat} (hv : v < g.lives.length) : lastT g v = g.lives[v].2 - 1 := by unfold lastT; rw [List.getD_eq_getElem?_getD, List.getElem?_eq_getElem hv]; rfl
theorem last_alive {g : Gr} (R : Right g) {v : Nat} (hv : v < g.lives.length) : aliveB (lastT g v) g.lives (v : Int) = true ∧ (∀ t, aliveB t g.lives (v : Int) = true → t ≤ lastT g v) ∧ 0 ≤ lastT g v ∧ lastT g v < 100 := by
  have h := R.life _ (List.getElem_mem hv)
  have hh := R.hor
  rw [lastT_at hv]
  refine ⟨?_, fun t ht => ?_, by omega, by omega⟩
  · rw [aliveB_at _ _ _ hv]; exact (hasB_iff _ _ _).2 (by omega)
  · rw [aliveB_at _ _ _ hv] at ht; have := (hasB_iff _ _ _).1 ht; omega
/-- all but the first k numbers are 0 -/
def fillL (f : Nat → Int) (n k : Nat) : List Int := (List.range n).map fun x => if x < k then f x else 0
theorem fill_len (f : Nat → Int) (n k : Nat) : (fillL f n k).length = n := by simp [fillL]
theorem fill_get (f : Nat → Int) (n k x : Nat) (hx : x < n) : (fillL f n k).getD x 0 = if x < k then f x else 0 := by simp [fillL, List.getD_eq_getElem?_getD, hx]
theorem fill_zero (f : Nat → Int) (n : Nat) : fillL f n 0 = List.replicate n 0 := by
  refine list_ext_gd (by simp [fillL]) fun x hx => ?_
  rw [fill_len] at hx
  rw [fill_get _ _ _ _ hx]
  simp [List.getD_eq_getElem?_getD, hx]
theorem fill_set (f : Nat → Int) (n k : Nat) (hk : k < n) : (fillL f n k).set k (f k) = fillL f n (k + 1) := by
  refine list_ext_gd (by simp [fillL]) fun x hx => ?_
  rw [List.length_set, fill_len] at hx
  rw [getD_setI _ _ _ _ (by rw [fill_len]; exact hk), fill_get _ _ _ _ hx, fill_get _ _ _ _ hx]
  by_cases e : x = k
  · subst e; simp
  · rw [if_neg e]
    by_cases h : x < k
    · rw [if_pos h, if_pos (by omega)]
    · rw [if_neg h, if_neg (by omega)]
theorem least_of {g : Gr} (R : Right g) {pr : Ri → Int} {v t : Int} (h0 : 0 ≤ v) {M : Mp} (h : VisOk g pr v t M) : LeastIs g pr v t (fillL (fun x => prF M (x : Int) (lastT g x)) g.lives.length g.lives.length) := by
  refine ⟨fill_len _ _ _, fun x hx => ?_, fun x hx t' p hp => ?_⟩
  · rw [fill_get _ _ _ _ hx, if_pos hx]
    unfold prF
    cases hz : M (x : Int) (lastT g x) with
    | none => exact .inl rfl
    | some z => exact .inr ⟨_, h.snd hz⟩
  · rw [fill_get _ _ _ _ hx, if_pos hx]
    obtain ⟨k1, k2, _⟩ := last_alive R hx
    obtain ⟨z, hz, hzp⟩ := h.all (hp.waits R h0 (k2 _ (hp.place R h0).2.2.1) k1)
    unfold prF; rw [hz]; exact hzp

end Go.Proofs.Ythgelfnflafoiag
