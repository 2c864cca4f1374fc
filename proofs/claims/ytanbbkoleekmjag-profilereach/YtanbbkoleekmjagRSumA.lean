/-
  Tables by vertex and time in memory: rows of numbers of the call's own; what the closure of Sums of the reference does.
-/
import Derived.Test.YtanbbkoleekmjagPk1
import Derived.Test.YtanbbkoleekmjagHeldB
import Derived.Maps.AppendAt
namespace Go.Proofs.Ytanbbkoleekmjag
open Go.RowKit

theorem Try.infoInts : (Try.prog.info? 30).map (fun i => (i.zero, i.size, i.bytes)) = some (some (.slice none 0 0), 1, 24) := by kernel_rfl

/-- the block of row v -/
def bk (bl : List (Nat × Nat)) (v : Nat) : Nat := (bl.getD v (0, 0)).1
def ck (bl : List (Nat × Nat)) (v : Nat) : Nat := (bl.getD v (0, 0)).2
/-- the slices of some rows -/
def sls (h : Nat) (bl : List (Nat × Nat)) : List Value := bl.map fun p => .slice (some ⟨p.1, 0, none⟩) h p.2
theorem sls_len (h : Nat) (bl : List (Nat × Nat)) : (sls h bl).length = bl.length := by simp [sls]
theorem sls_snoc (h : Nat) (bl : List (Nat × Nat)) (p : Nat × Nat) : sls h (bl ++ [p]) = sls h bl ++ [.slice (some ⟨p.1, 0, none⟩) h p.2] := by simp [sls]
theorem sls_get (h : Nat) (bl : List (Nat × Nat)) (v : Nat) (hv : v < bl.length) : (sls h bl)[v]? = some (.slice (some ⟨bk bl v, 0, none⟩) h (ck bl v)) := by
  simp [sls, bk, ck, List.getD_eq_getElem?_getD, hv]

/-- a table in memory -/
structure TabM (W : World) (base go : Nat) (bl : List (Nat × Nat)) (h : Nat) (T : Tb) : Prop where
  out : ∀ v, v < bl.length → W.cell? ⟨go, v, none⟩ = some (.slice (some ⟨bk bl v, 0, none⟩) h (ck bl v))
  inn : ∀ v, v < bl.length → Zo W base (bk bl v) h (ck bl v) (T.getD v [])
  lt : go < W.heap.size
theorem TabM.below {W W' : World} {base go : Nat} {bl : List (Nat × Nat)} {h : Nat} {T : Tb} (M : TabM W base go bl h T) (hb : Below W.heap.size W W') : TabM W' base go bl h T :=
  ⟨fun v hv => (hb.cell (p := ⟨go, v, none⟩) M.lt).trans (M.out v hv), fun v hv => (M.inn v hv).below hb, Nat.lt_of_lt_of_le M.lt hb.size⟩
theorem TabM.kept {W W' : World} {base go : Nat} {bl : List (Nat × Nat)} {h : Nat} {T : Tb} {g : Nat} (M : TabM W base go bl h T) (hg : W.grownBy W' (some g)) (h1 : go ≠ g) (h2 : ∀ v, v < bl.length → bk bl v ≠ g) : TabM W' base go bl h T :=
  ⟨fun v hv => (hg.cell_far ⟨go, v, none⟩ M.lt (fun e => h1 (Option.some.inj e))).trans (M.out v hv), fun v hv => World.ownsRow.kept (M.inn v hv) hg (.inr (fun e => h2 v hv (Option.some.inj e))), Nat.lt_of_lt_of_le M.lt hg.size⟩
theorem TabM.cell {W : World} {base go : Nat} {bl : List (Nat × Nat)} {h : Nat} {T : Tb} (M : TabM W base go bl h T) {v t : Nat} (hv : v < bl.length) (ht : t < h) : W.cell? ⟨bk bl v, t, none⟩ = some (.int .i64 (tat T v t)) := (M.inn v hv).cell ht
theorem TabM.set {W : World} {base go : Nat} {bl : List (Nat × Nat)} {h : Nat} {T : Tb} (M : TabM W base go bl h T) {v t : Nat} (hv : v < bl.length) (hT : T.length = bl.length) (m : Int) (h1 : go ≠ bk bl v) (h2 : ∀ v', v' < bl.length → v' ≠ v → bk bl v' ≠ bk bl v) : TabM (W.setCell ⟨bk bl v, t, none⟩ (.int .i64 m)) base go bl h (tset T v t m) := by
  have hg := gby_set W (bk bl v) t (.int .i64 m)
  refine ⟨fun v' hv' => (hg.cell_far ⟨go, v', none⟩ M.lt (fun e => h1 (Option.some.inj e))).trans (M.out v' hv'), fun v' hv' => ?_, Nat.lt_of_lt_of_le M.lt hg.size⟩
  unfold tset
  rw [getD_set_row _ _ _ _ (by rw [hT]; exact hv)]
  by_cases e : v' = v
  · subst e
    rw [if_pos rfl]
    exact (M.inn v' hv').set t m
  · rw [if_neg e]
    exact World.ownsRow.kept (M.inn v' hv') hg (.inr (fun e' => h2 v' hv' e (Option.some.inj e')))

/-- which rows are apart -/
structure Dis (n goC goH : Nat) (bc bh : List (Nat × Nat)) : Prop where
  lc : bc.length = n
  lh : bh.length = n
  cc : ∀ v v', v < n → v' < n → v' ≠ v → bk bc v' ≠ bk bc v
  hh : ∀ v v', v < n → v' < n → v' ≠ v → bk bh v' ≠ bk bh v
  ch : ∀ v v', v < n → v' < n → bk bc v ≠ bk bh v'
  gc : ∀ v, v < n → goC ≠ bk bc v ∧ goH ≠ bk bc v
  gh : ∀ v, v < n → goC ≠ bk bh v ∧ goH ≠ bk bh v
/-- the state of Sums: both tables, and whether something has turned -/
structure SS (w1 : World) (n h goC goH : Nat) (bc bh : List (Nat × Nat)) (Bm : Nat) (X Y : Tb) (ch : Bool) (W : World) : Prop where
  c : TabM W w1.heap.size goC bc h X
  y : TabM W w1.heap.size goH bh h Y
  m : W.heap[Bm]? = some (.cells #[.bool ch] 4 (0, 0))
  far : goC ≠ Bm ∧ goH ≠ Bm ∧ ∀ v, v < n → bk bc v ≠ Bm ∧ bk bh v ≠ Bm
  bel : Below w1.heap.size w1 W
  ge : w1.heap.size ≤ Bm
theorem SS.lt {w1 : World} {n h goC goH : Nat} {bc bh : List (Nat × Nat)} {Bm : Nat} {X Y : Tb} {ch : Bool} {W : World} (S : SS w1 n h goC goH bc bh Bm X Y ch W) : Bm < W.heap.size := (Array.getElem?_eq_some_iff.1 S.m).1
theorem SS.below {w1 : World} {n h goC goH : Nat} {bc bh : List (Nat × Nat)} {Bm : Nat} {X Y : Tb} {ch : Bool} {W W' : World} (S : SS w1 n h goC goH bc bh Bm X Y ch W) (hb : Below W.heap.size W W') : SS w1 n h goC goH bc bh Bm X Y ch W' :=
  ⟨S.c.below hb, S.y.below hb, by rw [hb.block Bm S.lt]; exact S.m, S.far, S.bel.trans (hb.mono S.bel.size), S.ge⟩
/-- what the closure leaves -/
def putW (W : World) (b t Bm : Nat) (m x : Int) : World := if m < x then (W.setCell ⟨b, t, none⟩ (.int .i64 m)).setCell ⟨Bm, 0, none⟩ (.bool true) else W
theorem SS.putC {w1 : World} {n h goC goH : Nat} {bc bh : List (Nat × Nat)} {Bm : Nat} {X Y : Tb} {ch : Bool} {W : World} (S : SS w1 n h goC goH bc bh Bm X Y ch W) (D : Dis n goC goH bc bh) (hX : X.length = n) {v t : Nat} (hv : v < n) (m : Int) (hge : w1.heap.size ≤ bk bc v) :
    SS w1 n h goC goH bc bh Bm (putT X v t m) Y (ch || decide (m < tat X v t)) (putW W (bk bc v) t Bm m (tat X v t)) := by
  unfold putT putW
  by_cases hm : m < tat X v t
  · rw [if_pos hm, if_pos hm, show decide (m < tat X v t) = true from by simpa using hm, Bool.or_true]
    have f := S.far
    have hc1 := S.c.set (t := t) (v := v) (by rw [D.lc]; exact hv) (by rw [D.lc]; exact hX) m (D.gc v hv).1 (fun v' hv' hne => D.cc v v' hv (by rw [← D.lc]; exact hv') hne)
    have hy1 := S.y.kept (gby_set W (bk bc v) t (.int .i64 m)) (D.gc v hv).2 (fun v' hv' => (D.ch v v' hv (by rw [← D.lh]; exact hv')).symm)
    have hm1 : (W.setCell ⟨bk bc v, t, none⟩ (.int .i64 m)).heap[Bm]? = some (.cells #[.bool ch] 4 (0, 0)) := by rw [heap_setCell_other W _ Bm _ (fun e => (f.2.2 v hv).1 e.symm)]; exact S.m
    have g2 := gby_set (W.setCell ⟨bk bc v, t, none⟩ (.int .i64 m)) Bm 0 (.bool true)
    refine ⟨hc1.kept g2 f.1 (fun v' hv' => (f.2.2 v' (by rw [← D.lc]; exact hv')).1), hy1.kept g2 f.2.1 (fun v' hv' => (f.2.2 v' (by rw [← D.lh]; exact hv')).2), heap_setCell_same _ Bm 0 _ _ (.bool true) hm1, f, (S.bel.setCell (p := ⟨bk bc v, t, none⟩) hge _).setCell (p := ⟨Bm, 0, none⟩) S.ge _, S.ge⟩
  · rw [if_neg hm, if_neg hm, show decide (m < tat X v t) = false from by simpa using hm, Bool.or_false]
    exact S
theorem SS.putH {w1 : World} {n h goC goH : Nat} {bc bh : List (Nat × Nat)} {Bm : Nat} {X Y : Tb} {ch : Bool} {W : World} (S : SS w1 n h goC goH bc bh Bm X Y ch W) (D : Dis n goC goH bc bh) (hY : Y.length = n) {v t : Nat} (hv : v < n) (m : Int) (hge : w1.heap.size ≤ bk bh v) :
    SS w1 n h goC goH bc bh Bm X (putT Y v t m) (ch || decide (m < tat Y v t)) (putW W (bk bh v) t Bm m (tat Y v t)) := by
  unfold putT putW
  by_cases hm : m < tat Y v t
  · rw [if_pos hm, if_pos hm, show decide (m < tat Y v t) = true from by simpa using hm, Bool.or_true]
    have f := S.far
    have hy1 := S.y.set (t := t) (v := v) (by rw [D.lh]; exact hv) (by rw [D.lh]; exact hY) m (D.gh v hv).2 (fun v' hv' hne => D.hh v v' hv (by rw [← D.lh]; exact hv') hne)
    have hc1 := S.c.kept (gby_set W (bk bh v) t (.int .i64 m)) (D.gh v hv).1 (fun v' hv' => D.ch v' v (by rw [← D.lc]; exact hv') hv)
    have hm1 : (W.setCell ⟨bk bh v, t, none⟩ (.int .i64 m)).heap[Bm]? = some (.cells #[.bool ch] 4 (0, 0)) := by rw [heap_setCell_other W _ Bm _ (fun e => (f.2.2 v hv).2 e.symm)]; exact S.m
    have g2 := gby_set (W.setCell ⟨bk bh v, t, none⟩ (.int .i64 m)) Bm 0 (.bool true)
    refine ⟨hc1.kept g2 f.1 (fun v' hv' => (f.2.2 v' (by rw [← D.lc]; exact hv')).1), hy1.kept g2 f.2.1 (fun v' hv' => (f.2.2 v' (by rw [← D.lh]; exact hv')).2), heap_setCell_same _ Bm 0 _ _ (.bool true) hm1, f, (S.bel.setCell (p := ⟨bk bh v, t, none⟩) hge _).setCell (p := ⟨Bm, 0, none⟩) S.ge _, S.ge⟩
  · rw [if_neg hm, if_neg hm, show decide (m < tat Y v t) = false from by simpa using hm, Bool.or_false]
    exact S

end Go.Proofs.Ytanbbkoleekmjag
