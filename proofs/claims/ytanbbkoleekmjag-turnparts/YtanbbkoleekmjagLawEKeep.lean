/-
  What the laws on the earliest have in common: the graph of two vertices; what is told of times and of ways.
-/
import Derived.Test.YtanbbkoleekmjagErC
import Derived.Test.YtanbbkoleekmjagPair
import Derived.Test.YtanbbkoleekmjagEqI
import Derived.Test.YtanbbkoleekmjagRSnap
namespace Go.Proofs.Ytanbbkoleekmjag
open Go.RowKit

theorem pair_arr : arrA gPair 0 0 = [0, 4] := by decide +kernel
theorem pair_dep : depA gPair 1 5 = [2, 5] := by decide +kernel
theorem pair_p0 : placeE gPair 0 0 = 0 := by decide +kernel
theorem pair_p1 : placeE gPair 1 5 = 0 := by decide +kernel

theorem two_ints (w : World) (T : TypeId) (a b : Int) : ZsAt (w.alloc (.cells #[.int .i64 a, .int .i64 b] T)) (some ⟨w.heap.size, 0, none⟩) [a, b] := by
  refine .inr ⟨_, _, rfl, by simp, fun j hj => ?_⟩
  have hj' : j = 0 ∨ j = 1 := by simp at hj; omega
  rcases hj' with rfl | rfl
  · exact new_cell rfl rfl
  · exact new_cell rfl rfl

set_option maxRecDepth 100000 in
set_option maxHeartbeats 400000 in
theorem early0_any (w : World) : Calls Try.prog 25 #[] w fun r w' => r = .returned (.bool true) ∧ Below w.heap.size w w' := by
  have h1 := fun la ea W (hG : GAt W la ea gPair) => eArr_any gPair la ea 2 1 0 0 W hG
  have h2 := fun la ea W (hG : GAt W la ea gPair) => eDep_any gPair la ea 2 1 1 5 W hG
  rw [pair_arr, pair_p0] at h1
  rw [pair_dep, pair_p1] at h2
  have hp := fun W => pair_any W
  generalize gPair = gp at *
  have HP := hideg hp
  have H1 := hideg h1
  have H2 := hideg h2
  clear hp h1 h2
  go_enter Try.func25, Try.ntmps25
  go_wp2_with fail
  refine (HP.out _).mono ?_
  rintro r w1 ⟨la, ea, rfl, hG1, hb1⟩
  go_wp2_with fail
  refine (H1.out la ea _ hG1).mono ?_
  rintro r w2 ⟨u2, rfl, ho2, hb2⟩
  have hbb := ptg hb1 hb2
  clear hb1 hb2 hG1
  go_wp2_with fail
  refine (HP.out _).mono ?_
  rintro r w3 ⟨la3, ea3, rfl, hG3, hb3⟩
  have ho2 := ownsRow_below ho2 hb3
  go_wp2_with fail
  refine (H2.out la3 ea3 _ hG3).mono ?_
  rintro r w4 ⟨u4, rfl, ho4, hb4⟩
  have ho2 := ownsRow_below ho2 hb4
  have hbF := ptg hbb (ptg hb3 hb4)
  clear hb3 hb4 hbb hG3 HP H1 H2
  obtain ⟨a2, c2, rfl, z2⟩ := zsAt_of_owns ho2
  obtain ⟨a4, c4, rfl, z4⟩ := zsAt_of_owns ho4
  have hE1 := EqualI_any a2 (some ⟨w4.heap.size, 0, none⟩) c2 2 [0, 4] [0, 4] (w4.alloc (.cells #[.int .i64 0, .int .i64 4] 3)) (z2.below (gal _ _)) (two_ints _ _ _ _) (by simp)
  have hE2 := fun W (hb : Below w4.heap.size w4 W) => EqualI_any a4 (some ⟨W.heap.size, 0, none⟩) c4 2 [2, 5] [2, 5] (W.alloc (.cells #[.int .i64 2, .int .i64 5] 3)) (z4.below (ptg hb (gal _ _))) (two_ints _ _ _ _) (by simp)
  rw [show decide (([0, 4] : List Int) = [0, 4]) = true from by decide] at hE1
  rw [show decide (([2, 5] : List Int) = [2, 5]) = true from by decide] at hE2
  simp only [List.length_cons, List.length_nil, Nat.zero_add] at hE1 hE2
  have HE2 := hideg hE2
  clear hE2 z2 z4 ho2 ho4
  go_wp2_with fail
  refine hE1.mono ?_
  rintro r w5 ⟨rfl, hb5⟩
  have hb45 := ptg (gal w4 _) hb5
  have hE3 := HE2.out _ hb45
  have hbF5 := ptg hbF hb45
  clear hE1 hb5 HE2 hb45 hbF
  go_wp2_with fail
  refine hE3.mono ?_
  rintro r w6 ⟨rfl, hb6⟩
  have hbF6 := ptg hbF5 (ptg (gal w5 _) hb6)
  clear hE3 hb6 hbF5
  go_wp2
  go_ret
  exact ⟨rfl, hbF6⟩

/-- who starts later, where one could have waited, comes no earlier -/
theorem arr_later {g : Gr} (R : Right g) {v a b : Int} (h0 : 0 ≤ v) (hab : a ≤ b) (ha : aliveB a g.lives v = true) (x : Nat) (hx : x < g.lives.length) : (erF g v a).1.getD x 0 ≤ (erF g v b).1.getD x 0 := by
  obtain ⟨E, L⟩ := erF_ok R h0 ha
  have hle : (erF g v a).1.getD x 0 ≤ 1099511627776 := by
    rcases E.is x hx with e | e
    · omega
    · have := (e.place R h0).2.2.2; have := R.hor; omega
  by_cases hb : aliveB b g.lives v = true
  · obtain ⟨E2, _⟩ := erF_ok R h0 hb
    rcases E2.is x hx with e | e
    · rw [e]; exact hle
    · have := L x _ (((Rch.base ha).waits R hab hb).trans e)
      simpa using this
  · rw [erF_away hb, rep_getD _ _ _ hx]; exact hle
/-- by way of another vertex one comes no earlier -/
theorem arr_via {g : Gr} (R : Right g) {v t : Int} (h0 : 0 ≤ v) {m : Nat} (hm : m < g.lives.length) (hf : (erF g v t).1.getD m 0 ≠ 1099511627776) :
    (aliveB t g.lives v = true) ∧ (0 ≤ (erF g v t).1.getD m 0 ∧ (erF g v t).1.getD m 0 < g.hor) ∧ (erF g v t).1.getD v.toNat 0 = t ∧ ∀ x, x < g.lives.length → (erF g v t).1.getD x 0 ≤ (erF g m ((erF g v t).1.getD m 0)).1.getD x 0 := by
  have ha : aliveB t g.lives v = true := by
    refine Classical.byContradiction fun h => hf ?_
    rw [erF_away h, rep_getD _ _ _ hm]
  obtain ⟨E, L⟩ := erF_ok R h0 ha
  rcases E.is m hm with e | e
  · exact absurd e hf
  have hp := e.place R h0
  refine ⟨ha, hp.2.2, E.at0, fun x hx => ?_⟩
  obtain ⟨E2, _⟩ := erF_ok R (v := (m : Int)) (t := (erF g v t).1.getD m 0) (by omega) (e.alive R)
  rcases E2.is x hx with k | k
  · rw [k]
    rcases E.is x hx with q | q
    · omega
    · have := (q.place R h0).2.2.2; have := R.hor; omega
  · have := L x _ (e.trans k)
    simpa using this
/-- one comes by an end just if the latest time to be there is not earlier -/
theorem arr_back {g : Gr} (R : Right g) {v t q d : Int} (h0 : 0 ≤ v) (hq : 0 ≤ q) (hv1 : v < g.lives.length) (hq1 : q < g.lives.length) (ha : aliveB t g.lives v = true) (hb : aliveB d g.lives q = true) : (erF g v t).1.getD q.toNat 0 ≤ d ↔ t ≤ (ltF g q d).getD v.toNat 0 := by
  obtain ⟨E, L⟩ := erF_ok R h0 ha
  obtain ⟨F, M⟩ := ltF_ok R hq hb
  have hd := (alive_hor R hb).2
  have ht := (alive_hor R ha).2
  have hh := R.hor
  constructor
  · intro h
    rcases E.is q.toNat (by omega) with e | e
    · omega
    · rw [show ((q.toNat : Nat) : Int) = q by omega] at e
      exact M v t h0 (e.waits R h hb)
  · intro h
    rcases F.is v.toNat (by omega) with e | e
    · omega
    · rw [show ((v.toNat : Nat) : Int) = v by omega] at e
      exact L q d (((Rch.base ha).waits R h e.src).trans e)

end Go.Proofs.Ytanbbkoleekmjag
