/-
  Three boxes that a call makes of its arguments, and an append of a row to a row of the call's own, at a step of a region that draws its order.
-/
import Derived.Test.YtanbbkoleekmjagPk1
import Derived.Deep.RegionHeld3
import Derived.Deep.AppendLies
namespace Go.Proofs.Ytanbbkoleekmjag
open Go.RowKit

structure Bx3 (w W : World) (x y z : Value) : Prop where
  c1 : W.cell? ⟨w.heap.size, 0, none⟩ = some x
  c2 : W.cell? ⟨w.heap.size + 1, 0, none⟩ = some y
  c3 : W.cell? ⟨w.heap.size + 1 + 1, 0, none⟩ = some z
  bel : Below w.heap.size w W
  lt : w.heap.size + 2 < W.heap.size

theorem bx3_start (w : World) (x y z : Value) (t1 t2 t3 : TypeId) : Bx3 w (((w.alloc (.cells #[x] t1)).alloc (.cells #[y] t2)).alloc (.cells #[z] t3)) x y z := by
  refine ⟨?_, ?_, ?_, ptw (pal _ _) (ptw (pal _ _) (pal _ _)), by simp⟩
  · rw [World.cell?_alloc_past _ _ _ (by simp; omega), World.cell?_alloc_past _ _ _ (by simp), World.cell?_alloc_at _ _ _ _ rfl]; rfl
  · rw [World.cell?_alloc_past _ _ _ (by simp), World.cell?_alloc_at _ _ _ _ (by simp)]; rfl
  · rw [World.cell?_alloc_at _ _ _ _ (by simp)]; rfl
theorem Bx3.below {w W W' : World} {x y z : Value} (h : Bx3 w W x y z) (hb : Below W.heap.size W W') : Bx3 w W' x y z := by
  have l := h.lt
  refine ⟨?_, ?_, ?_, ptw h.bel hb, Nat.lt_of_lt_of_le l hb.size⟩
  · rw [hb.cell (p := ⟨w.heap.size, 0, none⟩) (by show w.heap.size < _; omega)]; exact h.c1
  · rw [hb.cell (p := ⟨w.heap.size + 1, 0, none⟩) (by show w.heap.size + 1 < _; omega)]; exact h.c2
  · rw [hb.cell (p := ⟨w.heap.size + 1 + 1, 0, none⟩) (by show w.heap.size + 1 + 1 < _; omega)]; exact h.c3

/-- append of a row (it may be empty) to a row that is not nil, at a step of a region that draws its order -/
theorem step_append_row {P : Program} (w : World) {ops : Array Oper} {o : Oper} {a : Act} {K : Act → World → Prop} {Q : Exit → Act → World → Prop} {E : Prop} (hgd : o.guard = none) (s x : Operand) (t : TypeId)
    (ho : o.op = .call { callee := .builtin .append, args := #[s, x], argTypes := #[t, t] })
    (base : Nat) (e : TypeId) (i : TypeInfo) (z : Value) (size bytes : Nat) (ht : P.underlying t = some (.slice e)) (hi : P.info? e = some i) (hz : i.zero = some z)
    (hsize : i.size = size) (hby : i.bytes = bytes) (hzs : z.cells.size = size) (hsz : 0 < size)
    (g0 n c0 : Nat) (xs : List Value) (hs : a.eval s = .slice (some ⟨g0, 0, none⟩) n c0) (hown : w.ownsRow base e size (.slice (some ⟨g0, 0, none⟩) n c0) n xs)
    (ad : Addr) (m c : Nat) (news : List Value) (hx : a.eval x = .slice (some ad) m c) (hl : news.length = m * size) (hnews : ∀ j u, news[j]? = some u → w.cell? (ad.add j) = some u) (h1 : ∀ u ∈ news, u.oneCell' = true)
    (h63 : n + m ≤ maxLen) (hbytes : (n + m) * bytes ≤ 140737488355328) (hbase : base ≤ w.heap.size)
    (h : ∀ g cap w', w'.ownsRow base e size (.slice (some ⟨g, 0, none⟩) (n + m) cap) (n + m) (xs ++ news) → w.grownBy w' (some g0) → K (a.put o.dst (.slice (some ⟨g, 0, none⟩) (n + m) cap)) w') :
    if Region.wanted o (yielded ops a.tmps) = true then Oper.wp P o a w K Q else E := by
  have hw : Region.wanted o (yielded ops a.tmps) = true := by simp [Region.wanted, hgd]
  rw [if_pos hw]
  obtain ⟨v', w', hr, h2, h3, h4⟩ := run_append_own (P := P) w base t o.type e i z size bytes ht hi hz hsize hby hzs hsz _ n xs hown ad m c news hl hnews h1 h63 hbytes hbase
  rcases h2.2 with ⟨hv, _⟩ | ⟨g, cap, cur, hv, _⟩
  · exact absurd (h4.1 hv).1 (by simp)
  · subst hv
    unfold Oper.wp execOp
    simp only [ho, resolve, invoke, builtin, Sem.run_bind, Sem.run_pure, Result.andThen_ok, List.map_toArray, List.map_cons, List.map_nil, hs, hx, hr]
    exact h g cap w' h2 h3

theorem mchk_bad {m : List (Int × Int × Int)} (h : ¬ mchk m = 0) : ∃ n, mchk m = n ∧ (n = 2 ∨ n = 5) := by
  rcases mchk_cases m with e | e | ⟨e, _⟩
  · exact ⟨2, e, .inl rfl⟩
  · exact ⟨5, e, .inr rfl⟩
  · exact absurd e h
theorem mchk_good {m : List (Int × Int × Int)} (h : mchk m = 0) : m.length ≤ 200 ∧ MCan m ∧ ∀ p ∈ m, NearP p := by
  rcases mchk_cases m with e | e | ⟨_, h1, h2⟩
  · omega
  · omega
  · exact ⟨h1, mcan_of_good h2, near_of_good h2⟩
theorem tel_near {m : List (Int × Int × Int)} (hn : ∀ p ∈ m, NearP p) {t v : Int} (h : tel m t = some v) : nearB v := by
  obtain ⟨p, hp, _, rfl⟩ := tel_mem h
  exact (hn p hp).2.2
theorem turnsOf_near {m : List (Int × Int × Int)} (hn : ∀ p ∈ m, NearP p) : ∀ x ∈ turnsOf m, nearB x := by
  intro x hx
  obtain ⟨p, hp, h⟩ := turnsOf_mem hx
  have := hn p hp
  rcases h with rfl | rfl
  · exact this.1
  · exact this.2.1

end Go.Proofs.Ytanbbkoleekmjag
