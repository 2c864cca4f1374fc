/-
  What Arrivals and Departures of the reference answer is what one look at each ride tells.
-/
import Derived.Test.YtanbbkoleekmjacRDep
import Derived.Test.YtanbbkoleekmjacErMath
namespace Go.Proofs.Ytanbbkoleekmjac
open Go.RowKit

theorem arrG_spec (f : Nat → Int) (h : Nat) : ∀ j, j ≤ h → (arrG f h j = 1099511627776 ∨ ∃ t, t < h ∧ arrG f h j = (t : Int) ∧ f t < 1099511627776) ∧ ∀ t, h - j ≤ t → t < h → f t < 1099511627776 → arrG f h j ≤ (t : Int)
  | 0, _ => ⟨.inl rfl, fun t h1 h2 _ => by omega⟩
  | j + 1, hj => by
    obtain ⟨h1, h2⟩ := arrG_spec f h j (by omega)
    rw [arrG]
    split
    · rename_i hf
      exact ⟨.inr ⟨h - (j + 1), by omega, rfl, hf⟩, fun t k1 k2 k3 => by omega⟩
    · rename_i hf
      refine ⟨h1, fun t k1 k2 k3 => ?_⟩
      by_cases e : t = h - (j + 1)
      · subst e; exact absurd k3 hf
      · exact h2 t (by omega) k2 k3
theorem list_ext_getD {a b : List Int} (h : a.length = b.length) (k : ∀ v, v < a.length → a.getD v 0 = b.getD v 0) : a = b := by
  apply List.ext_getElem h
  intro v h1 h2
  have := k v h1
  rw [List.getD_eq_getElem?_getD, List.getD_eq_getElem?_getD, List.getElem?_eq_getElem h1, List.getElem?_eq_getElem h2] at this
  exact this
theorem arr_is {g : Gr} (R : Right g) {v t : Int} (h0 : 0 ≤ v) {X Y : Tb} (S : SumIs g v t X Y) : arrL X g.hor.toNat g.lives.length = (erF g v t).1 := by
  have hh := R.hor
  have hr := sum_reach R (pr := id) (fun c h1 h2 => ⟨h1, h2⟩) h0 S.costs S.tmX
  refine list_ext_getD (by rw [arrL_len, (erF_len g v t).1]) fun x hx => ?_
  rw [arrL_len] at hx
  rw [arrL_get _ _ _ _ hx]
  obtain ⟨a1, a2⟩ := arrG_spec (tat X x) g.hor.toNat g.hor.toNat (Nat.le_refl _)
  by_cases ha : aliveB t g.lives v = true
  · obtain ⟨E, L⟩ := erF_ok R h0 ha
    rcases E.is x hx with e | e
    · rcases a1 with k | ⟨y, k1, k2, k3⟩
      · rw [k, e]
      · have := L x y ((hr x y hx k1).1 k3)
        simp only [Int.toNat_natCast] at this
        omega
    · have hp := e.place R h0
      generalize hz : (erF g v t).1.getD x 0 = z at *
      have e2 : z = ((z.toNat : Nat) : Int) := by omega
      have h1 := a2 z.toNat (by omega) (by omega) ((hr x z.toNat hx (by omega)).2 (by rw [← e2]; exact e))
      rcases a1 with k | ⟨y, k1, k2, k3⟩
      · omega
      · have := L x y ((hr x y hx k1).1 k3)
        simp only [Int.toNat_natCast] at this
        omega
  · rw [erF_away ha, rep_getD _ _ _ hx]
    rcases a1 with k | ⟨y, k1, k2, k3⟩
    · exact k
    · exact absurd ((hr x y hx k1).1 k3).src ha
theorem calls_some {P : Program} {f : FuncId} {args : Array Value} {w : World} {Q : Ending → World → Prop} (h : Calls P f args w Q) : ∃ e w', Q e w' := by
  obtain ⟨e, w', _, h, _⟩ := h []
  exact ⟨e, w', h⟩
theorem arrF_is {g : Gr} {la ea : Option Addr} {w : World} (hG : GAt w la ea g) {v t : Int} (hp : placeE g v t = 0) : arrF g v t = (erF g v t).1 := by
  obtain ⟨_, _, u, X, Y, _, S, _⟩ := calls_some (Arrivals_any g la ea 0 0 v t w hG hp)
  obtain ⟨h0, hv, ht⟩ := placeE_zero hp
  rw [arrF_eq S]
  exact arr_is (gChk_right h0) hv.1 S

theorem depG_spec (g : Gr) (q d v : Nat) : ∀ k, (depG g q d v k = -1 ∨ ∃ t, t < k ∧ depG g q d v k = ((t : Nat) : Int) ∧ aliveB (t : Int) g.lives (v : Int) = true ∧ (arrF g v t).getD q 0 ≤ (d : Int)) ∧ ∀ t : Nat, t < k → aliveB (t : Int) g.lives (v : Int) = true → (arrF g v t).getD q 0 ≤ (d : Int) → (t : Int) ≤ depG g q d v k
  | 0 => ⟨.inl rfl, fun t h => by omega⟩
  | k + 1 => by
    obtain ⟨h1, h2⟩ := depG_spec g q d v k
    rw [depG]
    split
    · rename_i h
      exact ⟨.inr ⟨k, by omega, rfl, h⟩, fun t k1 _ _ => by omega⟩
    · rename_i h
      refine ⟨?_, fun t k1 k2 k3 => ?_⟩
      · rcases h1 with e | ⟨t, e1, e2⟩
        · exact .inl e
        · exact .inr ⟨t, by omega, e2⟩
      · by_cases e : t = k
        · subst e; exact absurd ⟨k2, k3⟩ h
        · exact h2 t (by omega) k2 k3
theorem dep_is {g : Gr} {la ea : Option Addr} {w : World} (hG : GAt w la ea g) {q d : Nat} (hp : placeE g q d = 0) : depL g q d g.lives.length = ltF g q d := by
  obtain ⟨h0, hq, hd⟩ := placeE_zero hp
  have R := gChk_right h0
  refine list_ext_getD (by rw [ltF_len]; simp [depL]) fun x hx => ?_
  have hx : x < g.lives.length := by simpa [depL] using hx
  have e1 : (depL g q d g.lives.length).getD x 0 = depV g q d x := by simp [depL, List.getD_eq_getElem?_getD, hx]
  rw [e1]
  unfold depV
  by_cases ha : aliveB (d : Int) g.lives (q : Int) = true
  · rw [if_pos ha]
    obtain ⟨E, L⟩ := ltF_ok R (q := (q : Int)) (d := (d : Int)) (by omega) ha
    obtain ⟨a1, a2⟩ := depG_spec g q d x (d + 1)
    have hA : ∀ t : Nat, (t : Int) < g.hor → arrF g x t = (erF g x t).1 := fun t ht => arrF_is hG (placeE_of h0 ⟨by omega, by omega⟩ ⟨by omega, ht⟩)
    have hc : ∀ t : Nat, t < d + 1 → ((aliveB (t : Int) g.lives (x : Int) = true ∧ (arrF g x t).getD q 0 ≤ (d : Int)) ↔ Rch g x t q d) := fun t ht => by
      rw [hA t (by omega)]
      constructor
      · rintro ⟨k1, k2⟩
        obtain ⟨E1, _⟩ := erF_ok R (v := (x : Int)) (t := (t : Int)) (by omega) k1
        rcases E1.is q (by omega) with e | e
        · have := R.hor; omega
        · exact e.waits R k2 ha
      · intro k
        have := (erF_ok R (v := (x : Int)) (t := (t : Int)) (by omega) k.src).2 _ _ k
        exact ⟨k.src, by simpa using this⟩
    rcases E.is x hx with e | e
    · rw [e]
      rcases a1 with k | ⟨t, k1, k2, k3⟩
      · exact k
      · have := L x t (by omega) ((hc t k1).1 k3)
        simp only [Int.toNat_natCast] at this
        omega
    · have hp2 := alive_hor R e.src
      have hle := e.le R
      generalize hz : (ltF g q d).getD x 0 = z at *
      have e2 : z = ((z.toNat : Nat) : Int) := by omega
      rw [e2] at e
      have k0 := (hc z.toNat (by omega)).2 e
      have h1 := a2 z.toNat (by omega) k0.1 k0.2
      rcases a1 with k | ⟨t, k1, k2, k3⟩
      · omega
      · have := L x t (by omega) ((hc t k1).1 k3)
        simp only [Int.toNat_natCast] at this
        omega
  · rw [if_neg ha, ltF_away ha, rep_getD _ _ _ hx]

end Go.Proofs.Ytanbbkoleekmjac
