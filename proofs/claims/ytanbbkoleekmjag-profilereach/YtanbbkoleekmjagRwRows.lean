/-
  Rows of rows in memory of the call's own, while they are made and written into.
-/
import Derived.Test.YtanbbkoleekmjagRSumC
import Derived.Test.YtanbbkoleekmjagErB
namespace Go.Proofs.Ytanbbkoleekmjag
open Go.RowKit

def upF {α : Type} (f : Nat → α) (v : Nat) (x : α) : Nat → α := fun i => if i = v then x else f i
theorem upF_same {α : Type} (f : Nat → α) (v : Nat) (x : α) : upF f v x v = x := by simp [upF]
theorem upF_far {α : Type} (f : Nat → α) {v i : Nat} (x : α) (h : i ≠ v) : upF f v x i = f i := by simp [upF, h]

/-- n slices, the first of them of rows of h cells, the others nil -/
structure RM (base oT eT go n h : Nat) (W : World) (bl : List (Nat × Nat)) (T : Nat → List Value) : Prop where
  own : W.ownsRow base oT 1 (.slice (some ⟨go, 0, none⟩) n n) n (sls h bl ++ List.replicate (n - bl.length) (.slice none 0 0))
  inn : ∀ v, v < bl.length → W.ownsRow base eT 1 (.slice (some ⟨bk bl v, 0, none⟩) h (ck bl v)) h (T v)
  ap : ∀ v v', v < bl.length → v' < bl.length → v' ≠ v → bk bl v' ≠ bk bl v
  le : bl.length ≤ n
theorem RM.below {base oT eT go n h : Nat} {W W' : World} {bl : List (Nat × Nat)} {T : Nat → List Value} (M : RM base oT eT go n h W bl T) (hb : Below W.heap.size W W') : RM base oT eT go n h W' bl T :=
  ⟨ownsRow_below M.own hb, fun v hv => ownsRow_below (M.inn v hv) hb, M.ap, M.le⟩
theorem RM.far {base oT eT go n h : Nat} {W : World} {bl : List (Nat × Nat)} {T : Nat → List Value} (M : RM base oT eT go n h W bl T) (he : oT ≠ eT) {v : Nat} (hv : v < bl.length) : bk bl v ≠ go := by
  rcases su_apart (M.inn v hv) M.own he.symm with e | e
  · cases e
  · exact fun h => e (by rw [h]; rfl)
theorem RM.lt {base oT eT go n h : Nat} {W : World} {bl : List (Nat × Nat)} {T : Nat → List Value} (M : RM base oT eT go n h W bl T) : base ≤ go ∧ go < W.heap.size := World.ownsRow.lt M.own _ rfl
theorem RM.ltI {base oT eT go n h : Nat} {W : World} {bl : List (Nat × Nat)} {T : Nat → List Value} (M : RM base oT eT go n h W bl T) {v : Nat} (hv : v < bl.length) : base ≤ bk bl v ∧ bk bl v < W.heap.size := World.ownsRow.lt (M.inn v hv) _ rfl
theorem RM.out {base oT eT go n h : Nat} {W : World} {bl : List (Nat × Nat)} {T : Nat → List Value} (M : RM base oT eT go n h W bl T) {v : Nat} (hv : v < bl.length) : W.cell? ⟨go, v, none⟩ = some (.slice (some ⟨bk bl v, 0, none⟩) h (ck bl v)) := by
  have := M.le
  rw [World.ownsRow.cellAt M.own v (by omega), List.getElem?_append_left (by rw [sls_len]; exact hv), sls_get h bl v hv]
theorem RM.nil {base oT eT go n h : Nat} {W : World} {bl : List (Nat × Nat)} {T : Nat → List Value} (M : RM base oT eT go n h W bl T) {v : Nat} (hv : bl.length ≤ v) (hn : v < n) : W.cell? ⟨go, v, none⟩ = some (.slice none 0 0) := by
  rw [World.ownsRow.cellAt M.own v (by omega), List.getElem?_append_right (by rw [sls_len]; exact hv), sls_len, List.getElem?_replicate, if_pos (by omega)]
theorem RM.len {base oT eT go n h : Nat} {W : World} {bl : List (Nat × Nat)} {T : Nat → List Value} (M : RM base oT eT go n h W bl T) {v : Nat} (hv : v < bl.length) : (T v).length = h := by have := (M.inn v hv).1; simpa using this
theorem RM.cell {base oT eT go n h : Nat} {W : World} {bl : List (Nat × Nat)} {T : Nat → List Value} (M : RM base oT eT go n h W bl T) {v t : Nat} (hv : v < bl.length) (ht : t < h) : W.cell? ⟨bk bl v, t, none⟩ = (T v)[t]? := by
  rw [World.ownsRow.cellAt (M.inn v hv) t (by omega)]
theorem bk_snoc (bl : List (Nat × Nat)) (p : Nat × Nat) : bk (bl ++ [p]) bl.length = p.1 ∧ ck (bl ++ [p]) bl.length = p.2 := by simp [bk, ck, List.getD_eq_getElem?_getD]
theorem bk_old (bl : List (Nat × Nat)) (p : Nat × Nat) {v : Nat} (hv : v < bl.length) : bk (bl ++ [p]) v = bk bl v ∧ ck (bl ++ [p]) v = ck bl v := by simp [bk, ck, List.getD_eq_getElem?_getD, List.getElem?_append_left hv]
theorem sls_put (h n : Nat) (bl : List (Nat × Nat)) (p : Nat × Nat) (hk : bl.length < n) : (sls h bl ++ List.replicate (n - bl.length) (Value.slice none 0 0)).set bl.length (.slice (some ⟨p.1, 0, none⟩) h p.2) = sls h (bl ++ [p]) ++ List.replicate (n - (bl ++ [p]).length) (.slice none 0 0) := by
  have e : n - bl.length = (n - (bl ++ [p]).length) + 1 := by simp; omega
  rw [List.set_append_right _ _ (by rw [sls_len]; exact Nat.le_refl _), sls_len, Nat.sub_self, e, List.replicate_succ, List.set_cons_zero, sls_snoc, List.append_assoc]
  rfl
/-- a row more -/
theorem RM.put {base oT eT go n h : Nat} {W : World} {bl : List (Nat × Nat)} {T : Nat → List Value} (M : RM base oT eT go n h W bl T) (he : oT ≠ eT) (hk : bl.length < n) {gb cap : Nat} {row : List Value} (hnew : W.ownsRow base eT 1 (.slice (some ⟨gb, 0, none⟩) h cap) h row) (hf : ∀ v, v < bl.length → bk bl v ≠ gb) :
    RM base oT eT go n h (W.setCell ⟨go, bl.length, none⟩ (.slice (some ⟨gb, 0, none⟩) h cap)) (bl ++ [(gb, cap)]) (upF T bl.length row) := by
  have hgb : gb ≠ go := by
    rcases su_apart hnew M.own he.symm with e | e
    · cases e
    · exact fun h => e (by rw [h]; rfl)
  refine ⟨?_, fun v hv => ?_, fun v v' hv hv' hne => ?_, by simp; omega⟩
  · have := (World.ownsRow.stored M.own bl.length (.slice (some ⟨gb, 0, none⟩) h cap)).1
    rw [sls_put h n bl (gb, cap) hk] at this
    exact this
  · by_cases e : v = bl.length
    · subst e
      rw [(bk_snoc bl _).1, (bk_snoc bl _).2, upF_same]
      exact ownsRow_setCell_other hnew (by simp [Value.ownBlock]; exact hgb) _
    · have hv2 : v < bl.length := by simp at hv; omega
      rw [(bk_old bl _ hv2).1, (bk_old bl _ hv2).2, upF_far _ _ e]
      exact ownsRow_setCell_other (M.inn v hv2) (by simp [Value.ownBlock]; exact M.far he hv2) _
  · have hl : (bl ++ [(gb, cap)]).length = bl.length + 1 := by simp
    by_cases e : v = bl.length
    · have hv2 : v' < bl.length := by omega
      subst e
      rw [(bk_snoc bl _).1, (bk_old bl _ hv2).1]
      exact hf v' hv2
    · have hv1 : v < bl.length := by omega
      rw [(bk_old bl _ hv1).1]
      by_cases e' : v' = bl.length
      · subst e'
        rw [(bk_snoc bl _).1]
        exact fun h => hf v hv1 h.symm
      · have hv2 : v' < bl.length := by omega
        rw [(bk_old bl _ hv2).1]
        exact M.ap v v' hv1 hv2 hne
/-- a cell is written -/
theorem RM.set {base oT eT go n h : Nat} {W : World} {bl : List (Nat × Nat)} {T : Nat → List Value} (M : RM base oT eT go n h W bl T) (he : oT ≠ eT) {v : Nat} (hv : v < bl.length) (t : Nat) (x : Value) : RM base oT eT go n h (W.setCell ⟨bk bl v, t, none⟩ x) bl (upF T v ((T v).set t x)) := by
  refine ⟨ownsRow_setCell_other M.own (by simp [Value.ownBlock]; exact fun h => M.far he hv h.symm) _, fun v' hv' => ?_, M.ap, M.le⟩
  by_cases e : v' = v
  · subst e
    rw [upF_same]
    exact (World.ownsRow.stored (M.inn v' hv') t x).1
  · rw [upF_far _ _ e]
    exact ownsRow_setCell_other (M.inn v' hv') (by simp [Value.ownBlock]; exact M.ap v v' hv hv' e) _
theorem RM.kept {base oT eT go n h : Nat} {W W' : World} {bl : List (Nat × Nat)} {T : Nat → List Value} {x : Nat} (M : RM base oT eT go n h W bl T) (hg : W.grownBy W' (some x)) (h1 : go ≠ x) (h2 : ∀ v, v < bl.length → bk bl v ≠ x) : RM base oT eT go n h W' bl T :=
  ⟨World.ownsRow.kept M.own hg (.inr (fun e => h1 (Option.some.inj e))), fun v hv => World.ownsRow.kept (M.inn v hv) hg (.inr (fun e => h2 v hv (Option.some.inj e))), M.ap, M.le⟩
theorem RM.congr {base oT eT go n h : Nat} {W : World} {bl : List (Nat × Nat)} {T T' : Nat → List Value} (M : RM base oT eT go n h W bl T) (e : ∀ v, v < bl.length → T v = T' v) : RM base oT eT go n h W bl T' :=
  ⟨M.own, fun v hv => by rw [← e v hv]; exact M.inn v hv, M.ap, M.le⟩
theorem RM.base {base base' oT eT go n h : Nat} {W : World} {bl : List (Nat × Nat)} {T : Nat → List Value} (M : RM base oT eT go n h W bl T) (hb : base' ≤ base) : RM base' oT eT go n h W bl T :=
  ⟨owns_base2 M.own hb, fun v hv => owns_base2 (M.inn v hv) hb, M.ap, M.le⟩
/-- a table of numbers -/
def tbV (T : Tb) (v : Nat) : List Value := (T.getD v []).map (Value.int .i64)
theorem rm_tab {base go n h : Nat} {W : World} {bl : List (Nat × Nat)} {T : Tb} (M : RM base 30 3 go n h W bl (tbV T)) : TabM W base go bl h T :=
  ⟨fun _ hv => M.out hv, fun v hv => M.inn v hv, M.lt.2⟩
theorem tbV_set {T : Tb} {v : Nat} (hv : v < T.length) (r : List Int) : tbV (T.set v r) = upF (tbV T) v (r.map (Value.int .i64)) := by
  funext i
  unfold tbV upF
  rw [getD_set_row _ _ _ _ hv]
  split <;> rfl

end Go.Proofs.Ytanbbkoleekmjag
