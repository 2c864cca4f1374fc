/-
  How much a graph that comes in weighs: its list of lives is no longer than memory bears.
-/
import Derived.Test.YtanbbkoleekmjagGOpen
import Derived.SizedLaws
namespace Go.Proofs.Ytanbbkoleekmjag
open Go.ChangeShapes Go.WideShapes Go.ChangeAt Go.RowKit Go.Deep

theorem Try.bytesIvl : Try.prog.bytesOf 55 = 16 := by kernel_rfl

set_option maxRecDepth 100000 in
theorem graph_weight {H : Type} {enc : TypeId × Value → H} {W : World} {v0 v2 : Value} {la : Option Addr} {n lc : Nat} {d : DataW H} {ps : List MemPlace}
    (h : DataW.Trod enc Try.prog W 0 (fun _ => true) true 25 (.agg #[v0, .slice la n lc, v2]) d ps) : n = 0 ∨ ∃ m ∈ d.weights Try.prog 25, n * 16 ≤ m := by
  obtain ⟨fuel, h2⟩ := h
  obtain ⟨xs, k, hk, hxy, _, hxl, hff⟩ := DataW.trod_struct Try.underlying25 h2
  match xs, hxl with
  | [y0, y1, y2], _ =>
    have g1 := hff 1 _ rfl
    simp [Try.cellsIvls, Value.cells] at g1
    simp only [Prod.mk.injEq] at hxy
    obtain ⟨rfl, _⟩ := hxy
    rcases open_slice Try.underlying22 g1 with ⟨hcs, _⟩ | ⟨x, len, cap, m, nn, D, Pl, hcs, _, hl, hm, hmm, hy, hx⟩
    · left
      simp at hcs
      exact hcs.2.1
    · right
      simp at hcs
      obtain ⟨rfl, rfl, rfl⟩ := hcs
      rw [hy]
      refine ⟨(((List.range n).map D).length + ((List.range (m - n)).map fun j => D (n + j)).length) * Try.prog.bytesOf 55, ?_, ?_⟩
      · simp [DataW.weights, DataW.weightsEach, Try.underlying25, Try.underlying22]
      · rw [Try.bytesIvl]; simp; omega
theorem graph_small {H : Type} {enc : TypeId × Value → H} {W : World} {v0 v2 : Value} {la : Option Addr} {n lc : Nat} {d : DataW H} {ps : List MemPlace} {ts : List TypeId} {ds : List (DataW H)} {j : Nat}
    (hsz : (DataW.weightsEach Try.prog ts ds).all (· ≤ reachBytes) = true) (ht : ts[j]? = some 25) (hd : ds[j]? = some d) (h : DataW.Trod enc Try.prog W 0 (fun _ => true) true 25 (.agg #[v0, .slice la n lc, v2]) d ps) : n * 16 ≤ 140737488351232 := by
  rcases graph_weight h with rfl | ⟨m, hm, hle⟩
  · omega
  · have h1 := List.all_eq_true.1 hsz _ (DataW.weights_mem_each ht hd m hm)
    have h2 : m ≤ reachBytes := by simpa using h1
    have h3 : reachBytes = 140737488351232 := by decide
    omega

end Go.Proofs.Ytanbbkoleekmjag
