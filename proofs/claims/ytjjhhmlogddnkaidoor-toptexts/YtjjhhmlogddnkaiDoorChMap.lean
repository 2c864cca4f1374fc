/-
  The map of states in memory: what it tells, what a look-up finds, what a store leaves.
-/
import Derived.Test.YtjjhhmlogddnkaiDoorChMath
import Derived.Test.YtjjhhmlogddnkaiDoorGby
import Derived.Maps.OwnSet
import Derived.DeepKeys4
namespace Go.Proofs.YtjjhhmlogddnkaiDoor
open Go.RowKit Go.Maps

theorem Tryd.laidOutC : laidOutB Tryd.prog = true := by kernel_rfl
theorem Tryd.rowSt : (93 : TypeId) < Tryd.prog.types.size := of_decide_eq_true (by kernel_rfl)
theorem Tryd.wideSt : (match Tryd.prog.underlying 93 with | some (.array _ _) | some (.struct _) => true | _ => false) = true := by rw [Tryd.underlying93]
theorem Tryd.keyAtSt : Tryd.prog.keyTypeAt 2 93 = true := by kernel_rfl
set_option maxRecDepth 100000 in
theorem Tryd.lawSt : Keyed Tryd.prog 93 := Keyed.of_law (deep_law_laid Tryd.laidOutC (m := 2) (by omega) Tryd.rowSt Tryd.keyAtSt Tryd.wideSt)
theorem Tryd.keySt : Tryd.prog.keyType 93 = true := by kernel_rfl

theorem Tryd.cellsSt : Tryd.prog.cellsOf 93 = 2 := by kernel_rfl
theorem Tryd.cellsI : Tryd.prog.cellsOf 3 = 1 := by kernel_rfl
/-- numbers that a key may have -/
def Wi (n : Int) : Prop := -9223372036854775808 ≤ n ∧ n ≤ 9223372036854775807
theorem wi_wf {n : Int} (h : Wi n) : (Lit.int .i64 n).wf = true := WalkArith.wf_i64 h
def keyV (v t : Int) : Value := .agg #[.int .i64 v, .int .i64 t]
def kOf (v t : Int) : Lit := .string (keyBytes [.int .i64 v, .int .i64 t])
theorem key_of {v t : Int} (hv : Wi v) (ht : Wi t) : keyOf Tryd.prog 93 (keyV v t) = some (kOf v t) := by
  have w1 := wi_wf hv
  have w2 := wi_wf ht
  obtain ⟨m, hm⟩ : ∃ m, Tryd.prog.types.size = m + 1 := ⟨Tryd.prog.types.size - 1, by have : (0 : Nat) < Tryd.prog.types.size := Nat.lt_of_le_of_lt (Nat.zero_le _) Tryd.rowSt; omega⟩
  unfold keyOf
  simp only [Tryd.underlying93]
  rw [if_pos (by rw [Tryd.keySt]; kernel_rfl), hm]
  unfold Program.keyLits
  simp only [Tryd.underlying93, Value.cells, keyV]
  rw [if_pos ⟨by rw [Tryd.cellsSt]; rfl, by kernel_rfl⟩]
  simp [Program.keyLits, Tryd.underlying3, Tryd.cellsI, w1, w2, kOf]
theorem keyV_inj {v t a b : Int} (h : keyV v t = keyV a b) : v = a ∧ t = b := by
  unfold keyV at h
  simp at h
  exact h
theorem kOf_ne {v t a b : Int} (hv : Wi v) (ht : Wi t) (ha : Wi a) (hb : Wi b) (h : ¬ (a = v ∧ b = t)) : kOf a b ≠ kOf v t := fun e => by
  have h1 := key_of hv ht
  rw [← e] at h1
  have := keyV_inj (Tryd.lawSt.inj (key_of ha hb) h1)
  exact h this

/-- a visit as a value -/
def encV (x : Vs) : Value := .agg #[.int .i64 x.1, .int .i64 x.2.1, .int .i64 x.2.2.1, .int .i64 x.2.2.2.1, .int .i64 x.2.2.2.2.1, .int .i64 x.2.2.2.2.2.1, .int .i64 x.2.2.2.2.2.2]
/-- .. as a datum -/
def datV (x : Vs) : DataW Unit := .agg [.lit (.int .i64 x.1), .lit (.int .i64 x.2.1), .lit (.int .i64 x.2.2.1), .lit (.int .i64 x.2.2.2.1), .lit (.int .i64 x.2.2.2.2.1), .lit (.int .i64 x.2.2.2.2.2.1), .lit (.int .i64 x.2.2.2.2.2.2)]
def ofL : List Value → Option Vs
  | [.int .i64 a, .int .i64 b, .int .i64 c, .int .i64 d, .int .i64 e, .int .i64 f, .int .i64 g] => some (a, b, c, d, e, f, g)
  | _ => none
def ofV : Value → Option Vs
  | .agg cs => ofL cs.toList
  | _ => none
def rdV (v : Value) : Option (DataW Unit × List MemPlace) := (ofV v).map fun x => (datV x, [])
theorem ofL_inv {l : List Value} {x : Vs} (h : ofL l = some x) : l = [.int .i64 x.1, .int .i64 x.2.1, .int .i64 x.2.2.1, .int .i64 x.2.2.2.1, .int .i64 x.2.2.2.2.1, .int .i64 x.2.2.2.2.2.1, .int .i64 x.2.2.2.2.2.2] := by
  unfold ofL at h
  split at h
  · cases h; rfl
  · cases h
theorem ofV_inv {v : Value} {x : Vs} (h : ofV v = some x) : v = encV x := by
  unfold ofV at h
  split at h
  · rename_i cs
    have := ofL_inv h
    unfold encV
    rw [← this]
  · cases h
theorem rdV_enc (x : Vs) : rdV (encV x) = some (datV x, []) := rfl
theorem datV_inj {x y : Vs} (h : datV x = datV y) : x = y := by
  obtain ⟨a, b, c, d, e, f, g⟩ := x
  obtain ⟨a', b', c', d', e', f', g'⟩ := y
  simp [datV] at h
  simp [h]
theorem rdV_inv {v : Value} {x : Vs} {ps : List MemPlace} (h : rdV v = some (datV x, ps)) : v = encV x := by
  unfold rdV at h
  cases e : ofV v with
  | none => rw [e] at h; cases h
  | some y =>
    rw [e] at h
    simp at h
    rw [ofV_inv e, datV_inj h.1]

/-- block b of w is a map of at most n states that tells M -/
def MapAt (w : World) (b n : Nat) (M : Mp) : Prop := ∃ D : DataW Unit, w.ownsMap Tryd.prog 93 rdV b n D ∧ ∀ v t, Wi v → Wi t → ∀ z, D.atKey (kOf v t) z = match M v t with | none => z | some x => datV x
theorem MapAt.mono {w : World} {b n n' : Nat} {M : Mp} (h : MapAt w b n M) (hn : n ≤ n') : MapAt w b n' M := by
  obtain ⟨D, h1, h2⟩ := h
  exact ⟨D, h1.mono hn, h2⟩
theorem MapAt.lt {w : World} {b n : Nat} {M : Mp} (h : MapAt w b n M) : b < w.heap.size := by
  obtain ⟨D, h1, h2⟩ := h
  exact h1.lt
theorem MapAt.kept {w w' : World} {b n : Nat} {M : Mp} {row : Option Nat} (h : MapAt w b n M) (hg : w.grownBy w' row) (hne : some b ≠ row) : MapAt w' b n M := by
  obtain ⟨D, h1, h2⟩ := h
  exact ⟨D, h1.kept hg hne, h2⟩
theorem MapAt.below {w w' : World} {b n : Nat} {M : Mp} (h : MapAt w b n M) (hb : Below w.heap.size w w') : MapAt w' b n M := h.kept (gby_of_below hb none) (by simp)
theorem MapAt.alloc {w : World} {b n : Nat} {M : Mp} (h : MapAt w b n M) (o : Obj) : MapAt (w.alloc o) b n M := h.below ((Below.refl _ _).alloc (Nat.le_refl _) o)
theorem mapAt_made (w : World) : MapAt (w.alloc (.map #[] 0)) w.heap.size 0 (fun _ _ => none) := ⟨.map [], World.ownsMap_made _ _ _ _, fun _ _ _ _ _ => rfl⟩
theorem MapAt.look {w : World} {b n : Nat} {M : Mp} (h : MapAt w b n M) {v t : Int} (hv : Wi v) (ht : Wi t) : (Instr.lookup 87 (.map (some b)) (keyV v t) true).run Tryd.prog w = .ok (.tuple #[encV ((M v t).getD (0, 0, 0, 0, 0, 0, 0)), .bool (M v t).isSome]) w := by
  obtain ⟨D, h1, h2⟩ := h
  obtain ⟨x, ps, hr, hx⟩ := h1.look_ok Tryd.lawSt Tryd.underlying87 (z := encV (0, 0, 0, 0, 0, 0, 0)) (Tryd.zeroValue90 w) (rdV_enc _) (key_of hv ht)
  rw [hr]
  have hk := h2 v t hv ht
  cases hm : M v t with
  | none =>
    rw [hm] at hk
    have hk : ∀ z, D.atKey (kOf v t) z = z := hk
    rw [hk] at hx
    rw [rdV_inv hx, Maps.has_false_of_atKey hk]
    rfl
  | some y =>
    rw [hm] at hk
    have hk : ∀ z, D.atKey (kOf v t) z = datV y := hk
    rw [hk] at hx
    rw [rdV_inv hx, Maps.has_true_of_atKey hk]
    rfl
theorem MapAt.look1 {w : World} {b n : Nat} {M : Mp} (h : MapAt w b n M) {v t : Int} (hv : Wi v) (ht : Wi t) : (Instr.lookup 87 (.map (some b)) (keyV v t) false).run Tryd.prog w = .ok (encV ((M v t).getD (0, 0, 0, 0, 0, 0, 0))) w := by
  obtain ⟨D, h1, h2⟩ := h
  obtain ⟨x, ps, hr, hx⟩ := h1.lookup Tryd.lawSt Tryd.underlying87 (z := encV (0, 0, 0, 0, 0, 0, 0)) (Tryd.zeroValue90 w) (rdV_enc _) (key_of hv ht)
  rw [hr]
  have hk := h2 v t hv ht
  cases hm : M v t with
  | none =>
    rw [hm] at hk
    have hk : ∀ z, D.atKey (kOf v t) z = z := hk
    rw [hk] at hx
    rw [rdV_inv hx]
    rfl
  | some y =>
    rw [hm] at hk
    have hk : ∀ z, D.atKey (kOf v t) z = datV y := hk
    rw [hk] at hx
    rw [rdV_inv hx]
    rfl
theorem MapAt.store {w : World} {b n : Nat} {M : Mp} (h : MapAt w b n M) (hn : n < maxLen) {v t : Int} (hv : Wi v) (ht : Wi t) (x : Vs) : ∃ w', (Instr.mapUpdate 87 (.map (some b)) (keyV v t) (encV x)).run Tryd.prog w = .ok () w' ∧ MapAt w' b (n + 1) (mset M v t x) ∧ w.grownBy w' (some b) := by
  obtain ⟨D, h1, h2⟩ := h
  obtain ⟨w', hr, h3, h4⟩ := h1.update Tryd.lawSt Tryd.underlying87 hn (key_of hv ht) (rdV_enc x)
  refine ⟨w', hr, ⟨_, h3, fun a c ha hc z => ?_⟩, h4⟩
  by_cases e : a = v ∧ c = t
  · obtain ⟨rfl, rfl⟩ := e
    rw [mset_same]
    exact Maps.atKey_put_same h1.isMap (Tryd.lawSt.key (key_of hv ht)) _ _
  · rw [mset_other _ _ e, Maps.atKey_put_other (kOf_ne hv ht ha hc e)]
    exact h2 a c ha hc z

end Go.Proofs.YtjjhhmlogddnkaiDoor
