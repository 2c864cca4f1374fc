/-
  How a graph that comes in to a law is read.
-/
import Derived.Test.YtjjhhmlogddnkaiDoorPk1
import Derived.Test.YtjjhhmlogddnkaiDoorOpen
namespace Go.Proofs.YtjjhhmlogddnkaiDoor
open Go.ChangeShapes Go.WideShapes Go.ChangeAt Go.RowKit Go.Deep

theorem Tryd.cellsLeg : Tryd.prog.cellsOf 56 = 4 := by kernel_rfl
theorem Tryd.cellsEdge : Tryd.prog.cellsOf 54 = 3 := by kernel_rfl
theorem Tryd.cellsGraph : Tryd.prog.cellsOf 25 = 3 := by kernel_rfl
theorem Tryd.cellsLegs : Tryd.prog.cellsOf 52 = 1 := by kernel_rfl
theorem Tryd.cellsIvls : Tryd.prog.cellsOf 22 = 1 := by kernel_rfl
theorem Tryd.cellsEdges : Tryd.prog.cellsOf 23 = 1 := by kernel_rfl

theorem open_ivs_c {H : Type} {enc : TypeId × Value → H} {W : World} {fuel : Nat} {cs : List Value} {d : DataW H} {ps : List MemPlace}
    (hf : DataW.trod enc Tryd.prog W 0 (fun _ => true) true fuel 22 cs = some (d, ps)) : ∃ a cap, ∃ l : List (Int × Int), cs = [.slice a l.length cap] ∧ IvAt W a l ∧ l.length ≤ cap ∧ cap ≤ 9223372036854775807 := by
  have h : ∃ a n c, cs = [.slice a n c] := by
    rcases open_slice Tryd.underlying22 hf with ⟨hcs, _⟩ | ⟨x, l, c, m, n, D, Pl, hcs, _⟩
    · exact ⟨_, _, _, hcs⟩
    · exact ⟨_, _, _, hcs⟩
  obtain ⟨a, n, c, rfl⟩ := h
  obtain ⟨l, rfl, h1, h2, h3⟩ := open_ivs (a := a) (len := n) (cap := c) ⟨fuel, hf⟩
  exact ⟨a, c, l, rfl, h1, h2, h3⟩

set_option maxRecDepth 100000 in
theorem open_legs_c {H : Type} {enc : TypeId × Value → H} {W : World} {fuel : Nat} {cs : List Value} {d : DataW H} {ps : List MemPlace}
    (hf : DataW.trod enc Tryd.prog W 0 (fun _ => true) true fuel 52 cs = some (d, ps)) : ∃ a cap, ∃ l : List Lg, cs = [.slice a l.length cap] ∧ LgAt W a l ∧ l.length ≤ cap ∧ cap ≤ 9223372036854775807 := by
  rcases open_slice Tryd.underlying52 hf with ⟨hcs, _⟩ | ⟨x, len, cap, m, n, D, Pl, hcs, _, hl, hm, hmm, _, hx⟩
  · exact ⟨none, 0, [], hcs, .inl rfl, Nat.le_refl _, by omega⟩
  · simp only [if_true] at hmm
    subst hmm
    have each : ∀ i, i < len → ∃ q : Lg, W.cell? (x.add (i * 4)) = some (.int .i64 q.1) ∧ W.cell? (x.add (i * 4 + 1)) = some (.int .i64 q.2.1) ∧ W.cell? (x.add (i * 4 + 2)) = some (.int .i64 q.2.2.1) ∧ W.cell? (x.add (i * 4 + 3)) = some (.int .i64 q.2.2.2) := by
      intro i hi
      obtain ⟨cs', h1, h2⟩ := hx i (by omega)
      rw [Tryd.cellsLeg] at h1
      obtain ⟨_, hlen, hcell⟩ := World.cells?_some h1
      obtain ⟨xs, k, hk, hxy, _, hxl, hff⟩ := DataW.trod_struct Tryd.underlying56 h2
      match xs, hxl, cs', hlen with
      | [y0, y1, y2, y3], _, [v0, v1, v2, v3], _ =>
        have g0 := hff 0 _ rfl
        have g1 := hff 1 _ rfl
        have g2 := hff 2 _ rfl
        have g3 := hff 3 _ rfl
        simp [Tryd.cellsInt] at g0 g1 g2 g3
        have e0 := hcell 0 (by omega)
        have e1 := hcell 1 (by omega)
        have e2 := hcell 2 (by omega)
        have e3 := hcell 3 (by omega)
        rw [add_add] at e0 e1 e2 e3
        obtain ⟨z0, f0, _, _⟩ := DataW.trod_int Tryd.underlying3 g0
        obtain ⟨z1, f1, _, _⟩ := DataW.trod_int Tryd.underlying3 g1
        obtain ⟨z2, f2, _, _⟩ := DataW.trod_int Tryd.underlying3 g2
        obtain ⟨z3, f3, _, _⟩ := DataW.trod_int Tryd.underlying3 g3
        simp only [List.cons.injEq, and_true] at f0 f1 f2 f3
        subst f0
        subst f1
        subst f2
        subst f3
        exact ⟨(z0, z1, z2, z3), by simpa using e0, by simpa using e1, by simpa using e2, by simpa using e3⟩
    obtain ⟨q, hq⟩ := choose_lt each
    refine ⟨some x, m, (List.range len).map q, by rw [hcs]; simp, ?_, by simpa using hl, by unfold maxLen at hm; omega⟩
    by_cases h0 : len = 0
    · subst h0; exact .inl (by simp)
    · obtain ⟨b, off, spot⟩ := x
      have hc0 := (hq 0 (by omega)).1
      have hspot : spot = none := by simpa [Addr.add] using World.cell?_spot hc0
      subst hspot
      have hlt := World.block_lt_of_cell? W _ hc0
      refine .inr ⟨b, off, rfl, by simpa [Addr.add] using hlt, fun j hj => ?_⟩
      simp only [List.length_map, List.length_range] at hj
      have hg : ((List.range len).map q).getD j (0, 0, 0, 0) = q j := by simp [List.getD_eq_getElem?_getD, hj]
      rw [hg]
      have := hq j hj
      rw [add_plain, add_plain, add_plain, add_plain] at this
      simpa [Nat.add_assoc] using this

set_option maxRecDepth 100000 in
theorem open_eds_c {H : Type} {enc : TypeId × Value → H} {W : World} {fuel : Nat} {cs : List Value} {d : DataW H} {ps : List MemPlace}
    (hf : DataW.trod enc Tryd.prog W 0 (fun _ => true) true fuel 23 cs = some (d, ps)) : ∃ a cap, ∃ l : List Ed, cs = [.slice a l.length cap] ∧ EdAt W a l ∧ l.length ≤ cap ∧ cap ≤ 9223372036854775807 := by
  rcases open_slice Tryd.underlying23 hf with ⟨hcs, _⟩ | ⟨x, len, cap, m, n, D, Pl, hcs, _, hl, hm, hmm, _, hx⟩
  · exact ⟨none, 0, [], hcs, .inl rfl, Nat.le_refl _, by omega⟩
  · simp only [if_true] at hmm
    subst hmm
    have each : ∀ i, i < len → ∃ q : Ed, W.cell? (x.add (i * 3)) = some (.int .i64 q.1) ∧ W.cell? (x.add (i * 3 + 1)) = some (.int .i64 q.2.1) ∧ ∃ la lc, W.cell? (x.add (i * 3 + 2)) = some (.slice la q.2.2.length lc) ∧ LgAt W la q.2.2 ∧ q.2.2.length ≤ lc ∧ lc ≤ 9223372036854775807 := by
      intro i hi
      obtain ⟨cs', h1, h2⟩ := hx i (by omega)
      rw [Tryd.cellsEdge] at h1
      obtain ⟨_, hlen, hcell⟩ := World.cells?_some h1
      obtain ⟨xs, k, hk, hxy, _, hxl, hff⟩ := DataW.trod_struct Tryd.underlying54 h2
      match xs, hxl, cs', hlen with
      | [y0, y1, y2], _, [v0, v1, v2], _ =>
        have g0 := hff 0 _ rfl
        have g1 := hff 1 _ rfl
        have g2 := hff 2 _ rfl
        simp [Tryd.cellsInt, Tryd.cellsLegs] at g0 g1 g2
        have e0 := hcell 0 (by omega)
        have e1 := hcell 1 (by omega)
        have e2 := hcell 2 (by omega)
        rw [add_add] at e0 e1 e2
        obtain ⟨z0, f0, _, _⟩ := DataW.trod_int Tryd.underlying3 g0
        obtain ⟨z1, f1, _, _⟩ := DataW.trod_int Tryd.underlying3 g1
        obtain ⟨la, lc, ls, f2, hL, hn, hm'⟩ := open_legs_c (d := y2.1) (ps := y2.2) g2
        simp only [List.cons.injEq, and_true] at f0 f1 f2
        subst f0
        subst f1
        subst f2
        exact ⟨(z0, z1, ls), by simpa using e0, by simpa using e1, la, lc, by simpa using e2, hL, hn, hm'⟩
    obtain ⟨q, hq⟩ := choose_lt each
    refine ⟨some x, m, (List.range len).map q, by rw [hcs]; simp, ?_, by simpa using hl, by unfold maxLen at hm; omega⟩
    by_cases h0 : len = 0
    · subst h0; exact .inl (by simp)
    · obtain ⟨b, off, spot⟩ := x
      have hc0 := (hq 0 (by omega)).1
      have hspot : spot = none := by simpa [Addr.add] using World.cell?_spot hc0
      subst hspot
      have hlt := World.block_lt_of_cell? W _ hc0
      refine .inr ⟨b, off, rfl, by simpa [Addr.add] using hlt, fun j hj => ?_⟩
      simp only [List.length_map, List.length_range] at hj
      have hg : ((List.range len).map q)[j]'(by simpa using hj) = q j := by simp
      rw [hg]
      obtain ⟨r0, r1, la, lc, r2, r3⟩ := hq j hj
      rw [add_plain] at r0 r1 r2
      exact ⟨by simpa [Nat.add_assoc] using r0, by simpa [Nat.add_assoc] using r1, la, lc, by simpa [Nat.add_assoc] using r2, r3⟩

theorem three_ofG {α : Type} {cs : Array α} (h : cs.size = 3) : ∃ x y z, cs = #[x, y, z] := by
  obtain ⟨l⟩ := cs
  match l, h with
  | [x, y, z], _ => exact ⟨x, y, z, rfl⟩

set_option maxRecDepth 100000 in
theorem open_graph {H : Type} {enc : TypeId × Value → H} {W : World} {r : Reach} {b0 : Nat} {v : Value} {d : DataW H} {ps : List MemPlace}
    (hv : Value.okWide Tryd.prog W r b0 25 v) (h : DataW.Trod enc Tryd.prog W 0 (fun _ => true) true 25 v d ps) :
    ∃ (g : Gr) (la ea : Option Addr) (lc ec : Nat), v = .agg #[.int .i64 g.hor, .slice la g.lives.length lc, .slice ea g.edges.length ec] ∧ GAt W la ea g ∧ g.lives.length ≤ lc ∧ lc ≤ 9223372036854775807 := by
  obtain ⟨cs, rfl, hsz⟩ := okWide_struct Tryd.underlying25 hv
  obtain ⟨v0, v1, v2, rfl⟩ := three_ofG (hsz.trans Tryd.cellsGraph)
  obtain ⟨fuel, h2⟩ := h
  obtain ⟨xs, k, hk, hxy, _, hxl, hff⟩ := DataW.trod_struct Tryd.underlying25 h2
  match xs, hxl with
  | [y0, y1, y2], _ =>
    have g0 := hff 0 _ rfl
    have g1 := hff 1 _ rfl
    have g2 := hff 2 _ rfl
    simp [Tryd.cellsInt, Tryd.cellsIvls, Tryd.cellsEdges, Value.cells] at g0 g1 g2
    obtain ⟨z0, f0, _, _⟩ := DataW.trod_int Tryd.underlying3 g0
    obtain ⟨la, lc, ls, f1, hL, hn, hm⟩ := open_ivs_c (d := y1.1) (ps := y1.2) g1
    obtain ⟨ea, ec, es, f2, hE, hn2, hm2⟩ := open_eds_c (d := y2.1) (ps := y2.2) g2
    simp only [List.cons.injEq, and_true] at f0 f1 f2
    subst f0
    subst f1
    subst f2
    exact ⟨⟨z0, ls, es⟩, la, ea, lc, ec, rfl, ⟨hL, hE, by simp only; omega, by simp only; omega⟩, hn, hm⟩

end Go.Proofs.YtjjhhmlogddnkaiDoor
