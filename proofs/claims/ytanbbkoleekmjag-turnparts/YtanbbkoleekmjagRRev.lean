/-
  What Reverse of the reference answers.
-/
import Derived.Test.YtanbbkoleekmjagPk1
import Derived.Test.YtanbbkoleekmjagJpB
namespace Go.Proofs.Ytanbbkoleekmjag
open Go.RowKit

/-- an edge with its legs at once -/
theorem GOwn.edgeL {B b : Nat} {w wa w1 : World} {hor : Int} {vL vE v' v : Value} {lives : List (Int × Int)} {L : List (Ed × Value)} {x y : Int} {legs : List Lg} (h : GOwn B b w hor vL vE lives L) (hb : Below w.heap.size w wa) (hg : wa.grownBy w1 vE.ownBlock)
    (hv : wa.ownsRow B 75 4 v legs.length (enc4 legs)) (hf : ∀ k, v.ownBlock = some k → w.heap.size ≤ k) (ho : w1.ownsRow B 78 3 v' (L.length + 1) (encE L ++ [.int .i64 x, .int .i64 y, v])) :
    w1.heap[b]? = some (.cells #[.int .i64 hor, vL, vE] 25 (0, 0)) ∧ GOwn B b (w1.setCell ⟨b, 2, none⟩ v') hor vL v' lives (L ++ [((x, y, legs), v)]) := by
  have ha := h.below hb
  have hbox : w1.heap[b]? = some (.cells #[.int .i64 hor, vL, vE] 25 (0, 0)) := by rw [hg.block b (heap_ltg ha.box) (fun k => row_ne ha.ed ha.box (by decide) k.symm)]; exact ha.box
  have hlv := row_grown ha.lv ha.ed hg (by decide)
  have hlg := fun p hp => row_grown (ha.lg p hp) ha.ed hg (by decide)
  have hv1 := row_grown hv ha.ed hg (by decide)
  refine ⟨hbox, by rw [box_set hbox]; rfl, h.low, row_set hlv (row_ne hlv hbox (by decide)), ?_, fun p hp => ?_, fun M p e q hq => ?_⟩
  · have := row_set (b := b) (j := 2) (u := v') ho (row_ne ho hbox (by decide))
    rw [List.length_append, encE_append]
    exact this
  · rcases List.mem_append.1 hp with k | k
    · exact row_set (hlg p k) (row_ne (hlg p k) hbox (by decide))
    · rw [List.mem_singleton.1 k]
      exact row_set hv1 (row_ne hv1 hbox (by decide))
  · have e2 := List.append_inj_right' e rfl
    have e1 := List.append_inj_left' e rfl
    simp only [List.cons.injEq, and_true] at e2
    subst e2 e1
    cases hq' : q.2.ownBlock with
    | none => exact .inl rfl
    | some k =>
      right
      intro hk
      have h1 := ((h.lg q hq).lt k hq').2
      have h2 := hf k hk.symm
      omega

theorem GOwn.setLow {B b R : Nat} {w : World} {hor : Int} {vL vE : Value} {lives : List (Int × Int)} {L : List (Ed × Value)} (h : GOwn B b w hor vL vE lives L) (hR : R < B) (j : Nat) (u : Value) : GOwn B b (w.setCell ⟨R, j, none⟩ u) hor vL vE lives L := by
  have ne : ∀ {e size n : Nat} {v : Value} {xs : List Value}, w.ownsRow B e size v n xs → v.ownBlock ≠ some R := fun h e => by have := (h.lt R e).1; omega
  have hl := h.low
  exact ⟨by rw [Below.heap_setCell _ _ _ _ (by show b ≠ R; omega)]; exact h.box, h.low, row_set h.lv (ne h.lv), row_set h.ed (ne h.ed), fun p hp => row_set (h.lg p hp) (ne (h.lg p hp)), h.ap⟩

/-- a graph in memory from base on: whatever becomes of what lies below, it lies there -/
def GNew (base : Nat) (w : World) (la ea : Option Addr) (g : Gr) : Prop := ∀ W : World, w.heap.size ≤ W.heap.size → (∀ b, base ≤ b → b < w.heap.size → W.heap[b]? = w.heap[b]?) → GAt W la ea g
theorem GNew.gat {base : Nat} {w : World} {la ea : Option Addr} {g : Gr} (h : GNew base w la ea g) : GAt w la ea g := h w (Nat.le_refl _) (fun _ _ _ => rfl)
theorem GNew.below {base : Nat} {w w' : World} {la ea : Option Addr} {g : Gr} (h : GNew base w la ea g) (hb : Below w.heap.size w w') : GNew base w' la ea g := fun W h1 h2 => h W (Nat.le_trans hb.size h1) fun b k1 k2 => (h2 b k1 (Nat.lt_of_lt_of_le k2 hb.size)).trans (hb.block b k2)
theorem GNew.set {base : Nat} {w : World} {la ea : Option Addr} {g : Gr} (h : GNew base w la ea g) {D : Nat} (hD : D < base) (j : Nat) (u : Value) : GNew base (w.setCell ⟨D, j, none⟩ u) la ea g := fun W h1 h2 => h W (by simpa [World.setCell] using h1) fun b k1 k2 => by
  rw [h2 b k1 (by simpa [World.setCell] using k2), Below.heap_setCell _ _ _ _ (by show b ≠ D; omega)]
theorem GNew.zero (base : Nat) (w : World) : GNew base w none none ⟨0, [], []⟩ := fun _ _ _ => ⟨.inl rfl, .inl rfl, by simp, by simp⟩
theorem row_moved {w W : World} {B e size n : Nat} {v : Value} {xs : List Value} (h : w.ownsRow B e size v n xs) (h2 : ∀ b, B ≤ b → b < w.heap.size → W.heap[b]? = w.heap[b]?) : W.ownsRow B e size v n xs := by
  refine ⟨h.1, ?_⟩
  rcases h.2 with h0 | ⟨g, cap, cur, e1, hb, hh, h3⟩
  · exact .inl h0
  · exact .inr ⟨g, cap, cur, e1, hb, by rw [h2 g hb (heap_ltg hh)]; exact hh, h3⟩
theorem GOwn.new {B b base : Nat} {w : World} {hor : Int} {vL vE : Value} {lives : List (Int × Int)} {L : List (Ed × Value)} (h : GOwn B b w hor vL vE lives L) (hB : base ≤ B) {la ea : Option Addr} {lc ec : Nat} (e1 : vL = .slice la lives.length lc) (e2 : vE = .slice ea L.length ec) : GNew base w la ea ⟨hor, lives, L.map (·.1)⟩ := by
  intro W _ h2
  have h3 : ∀ b, B ≤ b → b < w.heap.size → W.heap[b]? = w.heap[b]? := fun b k1 k2 => h2 b (by omega) k2
  have hW : GOwn B b W hor vL vE lives L := ⟨by rw [h3 b h.low (heap_ltg h.box)]; exact h.box, h.low, row_moved h.lv h3, row_moved h.ed h3, fun p hp => row_moved (h.lg p hp) h3, h.ap⟩
  obtain ⟨la', lc', ea', ec', k1, k2, k3, _⟩ := hW.gat
  rw [e1] at k1
  rw [e2] at k2
  simp only [Value.slice.injEq] at k1 k2
  obtain ⟨rfl, _, rfl⟩ := k1
  obtain ⟨rfl, _, rfl⟩ := k2
  exact k3

theorem Try.infoIvlT : (Try.prog.info? 55).map (fun i => (i.zero, i.size, i.bytes)) = some (some (.agg #[.int .i64 0, .int .i64 0]), 2, 16) := by kernel_rfl
theorem Try.infoEdgeT : (Try.prog.info? 78).map (fun i => (i.zero, i.size, i.bytes)) = some (some (.agg #[.int .i64 0, .int .i64 0, .slice none 0 0]), 3, 40) := by kernel_rfl
theorem take_map_rev (h : Int) (l : List (Int × Int)) (k : Nat) (hk : k < l.length) : (l.take (k + 1)).map (revIv h) = (l.take k).map (revIv h) ++ [(h - l[k].2, h - l[k].1)] := by
  rw [List.take_succ_eq_append_getElem hk, List.map_append]; rfl

end Go.Proofs.Ytanbbkoleekmjag
