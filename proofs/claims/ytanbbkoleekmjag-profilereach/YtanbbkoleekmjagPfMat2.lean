/-
  What the maps of arrivals are like: they rise; and those of the graph of two vertices.
-/
import Derived.Test.YtanbbkoleekmjagPfC
import Derived.Test.YtanbbkoleekmjagBsSm
import Derived.Test.YtanbbkoleekmjagPair
namespace Go.Proofs.Ytanbbkoleekmjag

theorem tel_in {m : List (Int × Int × Int)} (hm : MCan m) {p : Int × Int × Int} (hp : p ∈ m) {t : Int} (h1 : p.1 ≤ t) (h2 : t < p.2.1) : tel m t = some p.2.2 := by
  induction m with
  | nil => simp at hp
  | cons x m ih =>
    rcases List.mem_cons.1 hp with e | e
    · subst e; exact tel_first h1 h2
    · have hl := mcan_low hm p e
      rw [tel_later (by omega)]
      refine ih ?_ e
      cases m with
      | nil => trivial
      | cons y m => exact hm.2.2
theorem profF_mono {g : Gr} (R : Right g) {v q : Nat} (hq : q < g.lives.length) {s t x y : Int} (hst : s ≤ t) (h1 : profF g v q s = some x) (h2 : profF g v q t = some y) : x ≤ y := by
  have k1 := (profF_val R hq h1).1
  have k2 := (profF_val R hq h2).1
  have hs : Rch g (v : Int) s (v : Int) s := .base k1.src
  have h3 := (hs.waits R hst k2.src).trans k2
  have L := (erF_ok R (v := (v : Int)) (by omega) k1.src).2 _ _ h3
  unfold profF at h1
  split at h1
  · simp only [Option.some.injEq] at h1
    rw [Int.toNat_natCast] at L
    omega
  · cases h1
/-- the value of the piece ahead of a piece -/
def lastV (m : List (Int × Int × Int)) : Nat → Int
  | 0 => 0
  | k + 1 => (m.getD k (0, 0, 0)).2.2
theorem rises {g : Gr} (R : Right g) {v q : Nat} (hq : q < g.lives.length) {m : List (Int × Int × Int)} (hm : MCan m) (ht : ∀ t, tel m t = profF g v q t) (k : Nat) (hk : k < m.length) : lastV m k ≤ m[k].2.2 ∧ m[k].2.1 - 1 ≤ m[k].2.2 ∧ 0 ≤ m[k].2.1 ∧ m[k].2.1 ≤ 200 := by
  have hp := mcan_pos hm m[k] (List.getElem_mem hk)
  have h1 := tel_in hm (List.getElem_mem hk) (t := m[k].2.1 - 1) (by omega) (by omega)
  have h2 := tel_in hm (List.getElem_mem hk) (t := m[k].1) (by omega) (by omega)
  rw [ht] at h1 h2
  have k1 := profF_val R hq h1
  have k2 := profF_val R hq h2
  have p1 := alive_hor R k1.1.src
  have p2 := alive_hor R k2.1.src
  have hor := R.hor
  refine ⟨?_, k1.2.1, by omega, by omega⟩
  cases k with
  | zero => simp only [lastV]; omega
  | succ j =>
    have hj : j < m.length := by omega
    have e : m.getD j (0, 0, 0) = m[j] := by simp [List.getD_eq_getElem?_getD, hj]
    simp only [lastV]
    rw [e]
    have h3 := tel_in hm (List.getElem_mem hj) (t := m[j].1) (by omega) (mcan_pos hm _ (List.getElem_mem hj))
    rw [ht] at h3
    have hs := mcan_starts hm
    rw [List.pairwise_iff_getElem] at hs
    have := hs j (j + 1) (by simpa using hj) (by simpa using hk) (by omega)
    simp only [List.getElem_map] at this
    exact profF_mono R hq (by omega) h3 h2
/-- the map of the graph of two vertices -/
def mPair : List (Int × Int × Int) := [(0, 2, 4), (2, 3, 5), (3, 4, 6)]
theorem pair_chk : gChk gPair = 0 := by decide
theorem pair_prof (t : Int) : tel mPair t = profF gPair 0 1 t := by
  by_cases h : 0 ≤ t ∧ t < 10
  · have : t = 0 ∨ t = 1 ∨ t = 2 ∨ t = 3 ∨ t = 4 ∨ t = 5 ∨ t = 6 ∨ t = 7 ∨ t = 8 ∨ t = 9 := by omega
    rcases this with rfl | rfl | rfl | rfl | rfl | rfl | rfl | rfl | rfl | rfl <;> decide +kernel
  · rw [profF_life (g := gPair) (v := 0) (q := 1) (by decide) (by simp only [gPair, List.getElem_cons_zero]; omega)]
    refine tel_none fun p hp => ?_
    simp only [mPair, List.mem_cons, List.not_mem_nil, or_false] at hp
    rcases hp with rfl | rfl | rfl
    all_goals unfold inP; simp only [Bool.and_eq_false_iff, decide_eq_false_iff_not]; omega
theorem pair_can : MCan mPair := by
  unfold mPair
  refine ⟨by decide, fun q h => ?_, by decide, fun q h => ?_, by decide, (fun q h => by cases h), trivial⟩
  · cases h; exact .inr ⟨by decide, by decide⟩
  · cases h; exact .inr ⟨by decide, by decide⟩
theorem of_pair {e : Int} {m : List (Int × Int × Int)} (h : OfIs gPair 0 1 e m) : e = 0 ∧ m = mPair := by
  rcases h with ⟨h1, _⟩ | ⟨_, h1, _⟩ | ⟨_, ⟨V', Q', e1, e2, _, _, h1⟩, h2, h3, h4⟩
  · exact absurd pair_chk h1
  · exfalso
    have : (gPair.lives.length : Int) = 2 := rfl
    omega
  · have : V' = 0 := by omega
    have : Q' = 1 := by omega
    subst V' Q'
    exact ⟨h2, mcan_unique h3 pair_can (fun t => by rw [h1, pair_prof])⟩
theorem pair_reachE : reachE gPair 0 4 = 0 := by decide
theorem pair_row0 : reachR gPair 0 4 0 = [true, true] := by decide +kernel
theorem pair_row1 : reachR gPair 0 4 1 = [false, false] := by decide +kernel

end Go.Proofs.Ytanbbkoleekmjag
