/-
  Rest of the reference at any number above nought, and walk: some hops from a place.
-/
import Derived.Test.YtanbbkoleekmjaiJpD
import Derived.Test.YtanbbkoleekmjaiPair
namespace Go.Proofs.Ytanbbkoleekmjai
open Go.RowKit

theorem restN_any (n m : Int) (hm : 0 < m) (hM : m < 4611686018427387904) (w : World) :
    Calls Try.prog 26 #[.int .i64 n, .int .i64 m] w fun e w' => (∃ k : Int, 0 ≤ k ∧ k < m ∧ e = .returned (.int .i64 k)) ∧ w' = w := by
  have h1 := Int.tmod_lt_of_pos n hm
  have h2 := Int.lt_tmod_of_pos n hm
  have hz : ¬ m = 0 := by omega
  have hz' : (m == 0) = false := by simpa using hz
  have hw0 : IntKind.i64.wrap (n.tmod m) = n.tmod m := wrap_nj _ (by omega) (by omega)
  by_cases h0 : n.tmod m < 0
  · have d : decide (n.tmod m < 0) = true := by simpa using h0
    have hw : IntKind.i64.wrap (n.tmod m + m) = n.tmod m + m := wrap_nj _ (by omega) (by omega)
    have HQ : Hid (0 ≤ n.tmod m + m ∧ n.tmod m + m < m) := ⟨by omega, by omega⟩
    go_enter Try.func26, Try.ntmps26
    go_wp2
    go_ret
    exact ⟨⟨_, HQ.out.1, HQ.out.2, rfl⟩, rfl⟩
  · have d : decide (n.tmod m < 0) = false := by simpa using h0
    have HQ : Hid (0 ≤ n.tmod m ∧ n.tmod m < m) := ⟨by omega, by omega⟩
    go_enter Try.func26, Try.ntmps26
    go_wp2
    go_ret
    exact ⟨⟨_, HQ.out.1, HQ.out.2, rfl⟩, rfl⟩

theorem outsF_len {g : Gr} {v t : Int} (hp : placeE g v t = 0) : (outsF g v t).length ≤ 3000 := by
  obtain ⟨hg0, _, ht0, _⟩ := placeE_zero hp
  have hR := gChk_right hg0
  have h1 := hR.hor
  have h2 := hR.eds
  unfold outsF
  split
  · exact Nat.le_trans (outsTo_len g v t _) (Nat.le_trans (Nat.mul_le_mul (show (g.hor - t).toNat ≤ 100 by omega) h2) (by omega))
  · simp

/-- what walk tells: a journey, and where one is behind it -/
def WalkIs (g : Gr) (v t : Int) (l : List Hp) (a b : Int) : Prop := (l = [] ∧ a = v ∧ b = t) ∨ (gChk g = 0 ∧ There g (v, t, 0) ∧ ∃ c, goF g (some (v, t, 0)) l = some (a, b, c))
theorem WalkIs.more {g : Gr} {v t a b n u c : Int} {l : List Hp} {h : Hp} (hw : WalkIs g v t l a b) (hg : goAns g a b [h] = (n, u, c, 0)) : WalkIs g v t (l ++ [h]) n u := by
  obtain ⟨h1, h2, _, h3⟩ := goAns_right hg
  right
  rcases hw with ⟨rfl, rfl, rfl⟩ | ⟨k1, k2, c', k3⟩
  · exact ⟨h1, h2, c, h3⟩
  · refine ⟨k1, k2, c + c', ?_⟩
    rw [goF_append, k3, goF_cost, h3]
    rfl

theorem results_tmp3j {fn : Func} {t u v : Tmp} (h : fn.results = #[.tmp t, .tmp u, .tmp v]) (tmps : Array Value) (P : Program) (w : World) :
    (results fn tmps).run P w = .ok (.tuple #[tmps.getD t undef, tmps.getD u undef, tmps.getD v undef]) w := by
  simp [results, h]

end Go.Proofs.Ytanbbkoleekmjai
