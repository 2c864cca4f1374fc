/-
  Time turned round: what the reference makes of a graph, as mathematics.
-/
import Derived.Test.YtanbbkoleekmjagPk1
namespace Go.Proofs.Ytanbbkoleekmjag

def revIv (h : Int) (p : Int × Int) : Int × Int := (h - p.2, h - p.1)
/-- the first time at which one leaves, and the time behind the last one -/
def rvA (h : Int) (l : Lg) : Int := max 0 (h - l.2.2.1 - l.2.1)
def rvB (h : Int) (l : Lg) : Int := h - l.2.2.1 - l.1
def revLg (h : Int) (l : Lg) : Lg := (rvA h l, rvB h l, l.2.2.1, l.2.2.2)
/-- the edges that an edge's first k legs give -/
def revE (h : Int) (e : Ed) (k : Nat) : List Ed := (e.2.2.take k).flatMap fun l => if 0 < rvB h l then [(e.2.1, e.1, [revLg h l])] else []
/-- .. and the first i edges -/
def revEs (g : Gr) (i : Nat) : List Ed := (g.edges.take i).flatMap fun e => revE g.hor e e.2.2.length
def revG (g : Gr) : Gr := ⟨g.hor, g.lives.map (revIv g.hor), revEs g g.edges.length⟩
/-- what Reverse of the reference answers -/
def revA (g : Gr) : Gr × Int := if 30 < (revG g).edges.length then (⟨0, [], []⟩, 2) else (revG g, 0)

theorem revE_succ {h : Int} {e : Ed} {k : Nat} (hk : k < e.2.2.length) : revE h e (k + 1) = revE h e k ++ if 0 < rvB h e.2.2[k] then [(e.2.1, e.1, [revLg h e.2.2[k]])] else [] := by
  unfold revE; rw [List.take_succ_eq_append_getElem hk, List.flatMap_append]; simp
theorem revEs_succ {g : Gr} {i : Nat} (hi : i < g.edges.length) : revEs g (i + 1) = revEs g i ++ revE g.hor g.edges[i] g.edges[i].2.2.length := by
  unfold revEs; rw [List.take_succ_eq_append_getElem hi, List.flatMap_append]; simp
theorem revE_len (h : Int) (e : Ed) (k : Nat) : (revE h e k).length ≤ k := by
  induction k with
  | zero => simp [revE]
  | succ k ih =>
    by_cases hk : k < e.2.2.length
    · rw [revE_succ hk, List.length_append]
      split <;> simp <;> omega
    · have : e.2.2.take (k + 1) = e.2.2.take k := by rw [List.take_of_length_le (by omega), List.take_of_length_le (by omega)]
      unfold revE at ih ⊢
      rw [this]; omega
theorem revEs_len {g : Gr} (R : Right g) (i : Nat) (hi : i ≤ g.edges.length) : (revEs g i).length ≤ i * 6 := by
  induction i with
  | zero => simp [revEs]
  | succ i ih =>
    have h1 := ih (by omega)
    have h2 := revE_len g.hor g.edges[i] g.edges[i].2.2.length
    have h3 := (R.ends _ (List.getElem_mem (show i < g.edges.length by omega))).2.2
    rw [revEs_succ (by omega), List.length_append]
    omega

/-- the scan of the times: from and to behind the first k times -/
def scF (h : Int) (l : Lg) (k : Nat) : Int := if rvA h l < min (k : Int) (rvB h l) then rvA h l else -1
def scT (h : Int) (l : Lg) (k : Nat) : Int := if rvA h l < min (k : Int) (rvB h l) then min (k : Int) (rvB h l) else -1
theorem sc_start (h : Int) (l : Lg) : scF h l 0 = -1 ∧ scT h l 0 = -1 := by
  unfold scF scT rvA
  constructor <;> rw [if_neg (by omega)]
theorem sc_in {h : Int} {l : Lg} {k : Nat} (h1 : l.1 ≤ h - 1 - (k : Int) - l.2.2.1) (h2 : h - 1 - (k : Int) - l.2.2.1 < l.2.1) : (scF h l (k + 1) = if scF h l k < 0 then (k : Int) else scF h l k) ∧ scT h l (k + 1) = (k : Int) + 1 := by
  unfold scF scT
  have ha : rvA h l ≤ (k : Int) := by unfold rvA; omega
  have hb : (k : Int) < rvB h l := by unfold rvB; omega
  have h0 : 0 ≤ rvA h l := by unfold rvA; omega
  have e1 : min ((k + 1 : Nat) : Int) (rvB h l) = (k : Int) + 1 := by omega
  have e2 : min (k : Int) (rvB h l) = (k : Int) := by omega
  rw [e1, e2]
  refine ⟨?_, by rw [if_pos (by omega)]⟩
  rw [if_pos (show rvA h l < (k : Int) + 1 by omega)]
  by_cases c : rvA h l < (k : Int)
  · rw [if_pos c, if_neg (by omega)]
  · rw [if_neg c, if_pos (by omega)]; omega
theorem sc_out {h : Int} {l : Lg} {k : Nat} (hc : ¬ (l.1 ≤ h - 1 - (k : Int) - l.2.2.1 ∧ h - 1 - (k : Int) - l.2.2.1 < l.2.1)) : scF h l (k + 1) = scF h l k ∧ scT h l (k + 1) = scT h l k := by
  unfold scF scT
  have hk : rvB h l ≤ (k : Int) ∨ (k : Int) < rvA h l := by unfold rvB rvA; omega
  rcases hk with c | c
  · have e1 : min ((k + 1 : Nat) : Int) (rvB h l) = rvB h l := by omega
    have e2 : min (k : Int) (rvB h l) = rvB h l := by omega
    rw [e1, e2]
    exact ⟨rfl, rfl⟩
  · rw [if_neg (by omega), if_neg (by omega), if_neg (by omega), if_neg (by omega)]
    exact ⟨rfl, rfl⟩
theorem sc_end {H : Nat} {l : Lg} (hf : fitB l (H : Int) = true) : (0 < rvB (H : Int) l → scF H l H = rvA H l ∧ scT H l H = rvB H l ∧ 0 ≤ rvA H l) ∧ (¬ 0 < rvB (H : Int) l → scF H l H = -1) := by
  have h := (fitB_iff l (H : Int)).1 hf
  have hle : rvB (H : Int) l < (H : Int) := by unfold rvB; omega
  unfold scF scT
  have e : min ((H : Nat) : Int) (rvB (H : Int) l) = rvB (H : Int) l := by omega
  rw [e]
  constructor
  · intro hb
    have : rvA (H : Int) l < rvB (H : Int) l := by unfold rvA; unfold rvB at hb ⊢; omega
    rw [if_pos this, if_pos this]
    exact ⟨rfl, rfl, by unfold rvA; omega⟩
  · intro hb
    rw [if_neg (by unfold rvA; omega)]

end Go.Proofs.Ytanbbkoleekmjag
