/-
  A graph that is being read: its box and its lists, in memory of the call's own, and what a line more makes of them.
-/
import Derived.Test.YtjjhhmlogddnkaaDoorPk1
import Derived.Test.YtjjhhmlogddnkaaDoorGText
namespace Go.Proofs.YtjjhhmlogddnkaaDoor
open Go.RowKit

/-- the cells of legs, of edges -/
def enc4 (m : List Lg) : List Value := m.flatMap fun l => [.int .i64 l.1, .int .i64 l.2.1, .int .i64 l.2.2.1, .int .i64 l.2.2.2]
def encE (L : List (Ed × Value)) : List Value := L.flatMap fun p => [.int .i64 p.1.1, .int .i64 p.1.2.1, p.2]
theorem enc4_append (a b : List Lg) : enc4 (a ++ b) = enc4 a ++ enc4 b := by unfold enc4; rw [List.flatMap_append]
theorem encE_append (a b : List (Ed × Value)) : encE (a ++ b) = encE a ++ encE b := by unfold encE; rw [List.flatMap_append]
theorem enc4_cons (l : Lg) (m : List Lg) : enc4 (l :: m) = .int .i64 l.1 :: .int .i64 l.2.1 :: .int .i64 l.2.2.1 :: .int .i64 l.2.2.2 :: enc4 m := by unfold enc4; rw [List.flatMap_cons]; rfl
theorem encE_cons (p : Ed × Value) (m : List (Ed × Value)) : encE (p :: m) = .int .i64 p.1.1 :: .int .i64 p.1.2.1 :: p.2 :: encE m := by unfold encE; rw [List.flatMap_cons]; rfl
theorem enc4_length : ∀ m : List Lg, (enc4 m).length = m.length * 4
  | [] => rfl
  | l :: m => by rw [enc4_cons]; have := enc4_length m; simp [this]; omega
theorem encE_length : ∀ m : List (Ed × Value), (encE m).length = m.length * 3
  | [] => rfl
  | l :: m => by rw [encE_cons]; have := encE_length m; simp [this]; omega
theorem enc4_get : ∀ (m : List Lg) (j : Nat) (h : j < m.length), (enc4 m)[j * 4]? = some (.int .i64 m[j].1) ∧ (enc4 m)[j * 4 + 1]? = some (.int .i64 m[j].2.1) ∧ (enc4 m)[j * 4 + 2]? = some (.int .i64 m[j].2.2.1) ∧ (enc4 m)[j * 4 + 3]? = some (.int .i64 m[j].2.2.2)
  | [], j, h => by simp at h
  | l :: m, 0, _ => by rw [enc4_cons]; exact ⟨rfl, rfl, rfl, rfl⟩
  | l :: m, j + 1, h => by
    have := enc4_get m j (by simp at h; omega)
    rw [enc4_cons, show (j + 1) * 4 = j * 4 + 4 by omega]
    simpa using this
theorem encE_get : ∀ (m : List (Ed × Value)) (j : Nat) (h : j < m.length), (encE m)[j * 3]? = some (.int .i64 m[j].1.1) ∧ (encE m)[j * 3 + 1]? = some (.int .i64 m[j].1.2.1) ∧ (encE m)[j * 3 + 2]? = some m[j].2
  | [], j, h => by simp at h
  | l :: m, 0, _ => by rw [encE_cons]; exact ⟨rfl, rfl, rfl⟩
  | l :: m, j + 1, h => by
    have := encE_get m j (by simp at h; omega)
    rw [encE_cons, show (j + 1) * 3 = j * 3 + 3 by omega]
    simpa using this
theorem encE_set (M : List (Ed × Value)) (A B : Int) (l l' : List Lg) (v v' : Value) : (encE (M ++ [((A, B, l), v)])).set (M.length * 3 + 2) v' = encE (M ++ [((A, B, l'), v')]) := by
  rw [encE_append, encE_append, List.set_append_right _ _ (by rw [encE_length]; omega), encE_length, show M.length * 3 + 2 - M.length * 3 = 2 by omega]
  rfl

theorem encs_app2 (a b : List (Int × Int)) : encs (a ++ b) = encs a ++ encs b := by unfold encs flat; rw [List.flatMap_append, List.map_append]

theorem row_ne {w : World} {base e size : Nat} {v : Value} {n : Nat} {xs : List Value} {b : Nat} {cs : Array Value} {T : TypeId} {fr : Nat × Nat} (h : w.ownsRow base e size v n xs) (hb : w.heap[b]? = some (.cells cs T fr)) (hT : T ≠ e) : v.ownBlock ≠ some b := by
  rcases h.2 with ⟨rfl, _⟩ | ⟨g, cap, cur, rfl, _, hg, _⟩
  · simp [Value.ownBlock]
  · intro h
    simp only [Value.ownBlock, Option.some.injEq] at h
    subst h
    rw [hg] at hb
    simp only [Option.some.injEq, Obj.cells.injEq] at hb
    exact hT hb.2.1.symm
theorem row_set {w : World} {base e size : Nat} {v : Value} {n : Nat} {xs : List Value} {b j : Nat} {u : Value} (h : w.ownsRow base e size v n xs) (hne : v.ownBlock ≠ some b) : (w.setCell ⟨b, j, none⟩ u).ownsRow base e size v n xs :=
  h.kept (row := some b) ⟨rfl, rfl, rfl, by simp [World.setCell], fun k _ hk => Below.heap_setCell _ _ _ _ (fun e => hk (by simp [e]))⟩ (Or.inr hne)
theorem row_block {w : World} {base e size : Nat} {v : Value} {n : Nat} {xs : List Value} {b : Nat} (h : w.ownsRow base e size v n xs) (hb : v.ownBlock = some b) : ∃ cur, w.heap[b]? = some (.cells cur e (0, 0)) := by
  rcases h.2 with ⟨rfl, _⟩ | ⟨g, cap, cur, rfl, _, hg, _⟩
  · simp [Value.ownBlock] at hb
  · simp only [Value.ownBlock, Option.some.injEq] at hb
    subst hb
    exact ⟨cur, hg⟩
theorem row_grown {w w' : World} {base e e' size size' : Nat} {v v' : Value} {n n' : Nat} {xs xs' : List Value} (h : w.ownsRow base e size v n xs) (h' : w.ownsRow base e' size' v' n' xs') (hg : w.grownBy w' v'.ownBlock) (hne : e ≠ e') : w'.ownsRow base e size v n xs := by
  refine h.kept hg ?_
  cases hv : v.ownBlock with
  | none => simp
  | some b =>
    obtain ⟨cur, hb⟩ := row_block h hv
    exact .inr fun k => row_ne h' hb hne k.symm
theorem heap_ltg {w : World} {b : Nat} {o : Obj} (h : w.heap[b]? = some o) : b < w.heap.size := by
  rcases Nat.lt_or_ge b w.heap.size with k | k
  · exact k
  · rw [Array.getElem?_eq_none k] at h; simp at h

/-- a graph that is being read: its box b and its lists, from B on -/
structure GOwn (B b : Nat) (w : World) (hor : Int) (vL vE : Value) (lives : List (Int × Int)) (L : List (Ed × Value)) : Prop where
  box : w.heap[b]? = some (.cells #[.int .i64 hor, vL, vE] 25 (0, 0))
  low : B ≤ b
  lv : w.ownsRow B 49 2 vL lives.length (encs lives)
  ed : w.ownsRow B 52 3 vE L.length (encE L)
  lg : ∀ p ∈ L, w.ownsRow B 54 4 p.2 p.1.2.2.length (enc4 p.1.2.2)
  ap : ∀ M p, L = M ++ [p] → ∀ q ∈ M, q.2.ownBlock = none ∨ q.2.ownBlock ≠ p.2.ownBlock

theorem GOwn.below {B b : Nat} {w w' : World} {hor : Int} {vL vE : Value} {lives : List (Int × Int)} {L : List (Ed × Value)} (h : GOwn B b w hor vL vE lives L) (hb : Below w.heap.size w w') : GOwn B b w' hor vL vE lives L :=
  ⟨by rw [hb.block _ (heap_ltg h.box)]; exact h.box, h.low, ownsRow_below h.lv hb, ownsRow_below h.ed hb, fun p hp => ownsRow_below (h.lg p hp) hb, h.ap⟩
theorem GOwn.first (B b : Nat) (w : World) (hb : w.heap[b]? = some (.cells #[.int .i64 0, .slice none 0 0, .slice none 0 0] 25 (0, 0))) (hB : B ≤ b) : GOwn B b w 0 (.slice none 0 0) (.slice none 0 0) [] [] :=
  ⟨hb, hB, World.ownsRow_nil _ _ _ _, World.ownsRow_nil _ _ _ _, fun p hp => by simp at hp, fun M p h => by simp at h⟩
theorem box_set {w : World} {b : Nat} {cs : Array Value} {T : TypeId} {fr : Nat × Nat} (h : w.heap[b]? = some (.cells cs T fr)) (j : Nat) (u : Value) : (w.setCell ⟨b, j, none⟩ u).heap[b]? = some (.cells (cs.setIfInBounds j u) T fr) := by
  simp [World.setCell, Array.getElem?_modify, h]

theorem GOwn.setHor {B b : Nat} {w : World} {hor : Int} {vL vE : Value} {lives : List (Int × Int)} {L : List (Ed × Value)} (h : GOwn B b w hor vL vE lives L) (x : Int) : GOwn B b (w.setCell ⟨b, 0, none⟩ (.int .i64 x)) x vL vE lives L :=
  ⟨by rw [box_set h.box]; rfl, h.low, row_set h.lv (row_ne h.lv h.box (by decide)), row_set h.ed (row_ne h.ed h.box (by decide)), fun p hp => row_set (h.lg p hp) (row_ne (h.lg p hp) h.box (by decide)), h.ap⟩
theorem GOwn.life {B b : Nat} {w wa w1 : World} {hor : Int} {vL vE v' : Value} {lives : List (Int × Int)} {L : List (Ed × Value)} {x y : Int} (h : GOwn B b w hor vL vE lives L) (hb : Below w.heap.size w wa) (hg : wa.grownBy w1 vL.ownBlock) (ho : w1.ownsRow B 49 2 v' (lives.length + 1) (encs lives ++ [.int .i64 x, .int .i64 y])) :
    w1.heap[b]? = some (.cells #[.int .i64 hor, vL, vE] 25 (0, 0)) ∧ GOwn B b (w1.setCell ⟨b, 1, none⟩ v') hor v' vE (lives ++ [(x, y)]) L := by
  have ha := h.below hb
  have hbox : w1.heap[b]? = some (.cells #[.int .i64 hor, vL, vE] 25 (0, 0)) := by rw [hg.block b (heap_ltg ha.box) (fun k => row_ne ha.lv ha.box (by decide) k.symm)]; exact ha.box
  have hed := row_grown ha.ed ha.lv hg (by decide)
  have hlg := fun p hp => row_grown (ha.lg p hp) ha.lv hg (by decide)
  refine ⟨hbox, by rw [box_set hbox]; rfl, h.low, ?_, row_set hed (row_ne hed hbox (by decide)), fun p hp => row_set (hlg p hp) (row_ne (hlg p hp) hbox (by decide)), h.ap⟩
  have := row_set (b := b) (j := 1) (u := v') ho (row_ne ho hbox (by decide))
  rw [List.length_append, encs_app2]
  exact this
theorem GOwn.edge {B b : Nat} {w wa w1 : World} {hor : Int} {vL vE v' : Value} {lives : List (Int × Int)} {L : List (Ed × Value)} {x y : Int} (h : GOwn B b w hor vL vE lives L) (hb : Below w.heap.size w wa) (hg : wa.grownBy w1 vE.ownBlock) (ho : w1.ownsRow B 52 3 v' (L.length + 1) (encE L ++ [.int .i64 x, .int .i64 y, .slice none 0 0])) :
    w1.heap[b]? = some (.cells #[.int .i64 hor, vL, vE] 25 (0, 0)) ∧ GOwn B b (w1.setCell ⟨b, 2, none⟩ v') hor vL v' lives (L ++ [((x, y, []), .slice none 0 0)]) := by
  have ha := h.below hb
  have hbox : w1.heap[b]? = some (.cells #[.int .i64 hor, vL, vE] 25 (0, 0)) := by rw [hg.block b (heap_ltg ha.box) (fun k => row_ne ha.ed ha.box (by decide) k.symm)]; exact ha.box
  have hlv := row_grown ha.lv ha.ed hg (by decide)
  have hlg := fun p hp => row_grown (ha.lg p hp) ha.ed hg (by decide)
  refine ⟨hbox, by rw [box_set hbox]; rfl, h.low, row_set hlv (row_ne hlv hbox (by decide)), ?_, fun p hp => ?_, fun M p e q hq => ?_⟩
  · have := row_set (b := b) (j := 2) (u := v') ho (row_ne ho hbox (by decide))
    rw [List.length_append, encE_append]
    exact this
  · rcases List.mem_append.1 hp with k | k
    · exact row_set (hlg p k) (row_ne (hlg p k) hbox (by decide))
    · rw [List.mem_singleton.1 k]
      exact World.ownsRow_nil _ _ _ _
  · have e2 := List.append_inj_right' e rfl
    simp only [List.cons.injEq, and_true] at e2
    subst e2
    cases q.2.ownBlock <;> simp [Value.ownBlock]
theorem GOwn.leg {B b : Nat} {w wa w1 : World} {hor : Int} {vL v : Value} {ge cap : Nat} {lives : List (Int × Int)} {M : List (Ed × Value)} {A C : Int} {legs : List Lg} {l : Lg} {g' n' c' H : Nat} (h : GOwn B b w hor vL (.slice (some ⟨ge, 0, none⟩) (M.length + 1) cap) lives (M ++ [((A, C, legs), v)])) (hb : Below w.heap.size w wa) (hg : wa.grownBy w1 v.ownBlock)
    (ho : w1.ownsRow B 54 4 (.slice (some ⟨g', 0, none⟩) n' c') (legs.length + 1) (enc4 legs ++ [.int .i64 l.1, .int .i64 l.2.1, .int .i64 l.2.2.1, .int .i64 l.2.2.2])) (hat : v.ownBlock = some g' ∨ g' = H) (hH : w.heap.size ≤ H) :
    w1.heap[b]? = some (.cells #[.int .i64 hor, vL, .slice (some ⟨ge, 0, none⟩) (M.length + 1) cap] 25 (0, 0)) ∧ w1.cell? ⟨ge, M.length * 3 + 2, none⟩ = some v ∧ w1.frozen? ⟨ge, M.length * 3 + 2, none⟩ = false ∧
    GOwn B b (w1.setCell ⟨ge, M.length * 3 + 2, none⟩ (.slice (some ⟨g', 0, none⟩) n' c')) hor vL (.slice (some ⟨ge, 0, none⟩) (M.length + 1) cap) lives (M ++ [((A, C, legs ++ [l]), .slice (some ⟨g', 0, none⟩) n' c')]) := by
  have ha := h.below hb
  have hlast := ha.lg ((A, C, legs), v) (by simp)
  have hbox : w1.heap[b]? = some (.cells #[.int .i64 hor, vL, .slice (some ⟨ge, 0, none⟩) (M.length + 1) cap] 25 (0, 0)) := by rw [hg.block b (heap_ltg ha.box) (fun k => row_ne hlast ha.box (by decide) k.symm)]; exact ha.box
  have hlv := row_grown ha.lv hlast hg (by decide)
  have hed := row_grown ha.ed hlast hg (by decide)
  have hlen : (M ++ [((A, C, legs), v)]).length = M.length + 1 := by simp
  rw [hlen] at hed
  obtain ⟨cur, hge⟩ := row_block hed (b := ge) rfl
  have hlg : ∀ q ∈ M, w1.ownsRow B 54 4 q.2 q.1.2.2.length (enc4 q.1.2.2) := fun q hq => (ha.lg q (by simp [hq])).kept hg (h.ap M _ rfl q hq)
  have hst := (hed.stored (M.length * 3 + 2) (.slice (some ⟨g', 0, none⟩) n' c')).1
  have hgb : ge ≠ b := fun e => by subst e; rw [hbox] at hge; simp at hge
  refine ⟨hbox, ?_, hed.frozenAt _, ?_, h.low, row_set hlv (row_ne hlv hge (by decide)), ?_, fun p hp => ?_, fun M' p e q hq => ?_⟩
  · rw [hed.cellAt _ (by omega)]
    have := (encE_get (M ++ [((A, C, legs), v)]) M.length (by simp)).2.2
    simpa using this
  · rw [Below.heap_setCell _ _ _ _ (Ne.symm hgb)]; exact hbox
  · rw [encE_set M A C legs (legs ++ [l])] at hst
    simpa using hst
  · rcases List.mem_append.1 hp with k | k
    · exact row_set (hlg p k) (row_ne (hlg p k) hge (by decide))
    · rw [List.mem_singleton.1 k]
      have := row_set (b := ge) (j := M.length * 3 + 2) (u := .slice (some ⟨g', 0, none⟩) n' c') ho (row_ne ho hge (by decide))
      rw [List.length_append, enc4_append]
      exact this
  · have e2 := List.append_inj_right' e rfl
    have e1 := List.append_inj_left' e rfl
    simp only [List.cons.injEq, and_true] at e2
    subst e2 e1
    cases hq' : q.2.ownBlock with
    | none => simp
    | some k =>
      right
      intro hk
      simp only [Value.ownBlock] at hk
      rcases hat with hat | hat
      · have := h.ap M _ rfl q hq
        rw [hq'] at this
        rcases this with k' | k'
        · simp at k'
        · exact k' (by rw [hk, hat])
      · have := ((h.lg q (by simp [hq])).lt k hq').2
        simp at hk
        omega

/-- a graph that is being read -/
def GO (B b : Nat) (w : World) (g : Gr) : Prop := ∃ vL vE L, GOwn B b w g.hor vL vE g.lives L ∧ g.edges = L.map (·.1)
theorem GO.below {B b : Nat} {w w' : World} {g : Gr} (h : GO B b w g) (hb : Below w.heap.size w w') : GO B b w' g := by
  obtain ⟨vL, vE, L, h, e⟩ := h
  exact ⟨vL, vE, L, h.below hb, e⟩
theorem lgAt_of_owns {w : World} {base e : Nat} {v : Value} {n : Nat} {m : List Lg} (h : w.ownsRow base e 4 v n (enc4 m)) : ∃ ao cap, v = .slice ao m.length cap ∧ LgAt w ao m ∧ m.length ≤ cap ∧ cap ≤ 9223372036854775807 := by
  obtain ⟨h1, h2⟩ := h
  simp only [enc4_length] at h1
  have hn : n = m.length := by omega
  subst hn
  rcases h2 with ⟨rfl, h0⟩ | ⟨g, cap, cur, rfl, hb, hh, h3, h4, h5, h6⟩
  · exact ⟨none, 0, by rw [h0], .inl (List.eq_nil_of_length_eq_zero h0), by omega, by omega⟩
  · have hown : w.ownsRow base e 4 (.slice (some ⟨g, 0, none⟩) m.length cap) m.length (enc4 m) := ⟨by simp [enc4_length], .inr ⟨g, cap, cur, rfl, hb, hh, h3, h4, h5, h6⟩⟩
    refine ⟨_, cap, rfl, .inr ⟨g, 0, rfl, (Array.getElem?_eq_some_iff.1 hh).1, fun j hj => ?_⟩, h3, by unfold maxLen at h4; omega⟩
    obtain ⟨f0, f1, f2, f3⟩ := enc4_get m j hj
    rw [Nat.zero_add, hown.cellAt (j * 4) (by omega), hown.cellAt (j * 4 + 1) (by omega), hown.cellAt (j * 4 + 2) (by omega), hown.cellAt (j * 4 + 3) (by omega), List.getD_eq_getElem?_getD, List.getElem?_eq_getElem hj]
    exact ⟨f0, f1, f2, f3⟩
theorem row_form {w : World} {base e size : Nat} {v : Value} {n : Nat} {xs : List Value} (h : w.ownsRow base e size v n xs) : ∃ ao cap, v = .slice ao n cap ∧ n ≤ cap ∧ cap ≤ 9223372036854775807 := by
  rcases h.2 with ⟨rfl, h0⟩ | ⟨g, cap, cur, rfl, hb, hh, h3, h4, _⟩
  · exact ⟨none, 0, by rw [h0], by omega, by omega⟩
  · exact ⟨_, cap, rfl, h3, by unfold maxLen at h4; omega⟩
theorem GOwn.gat {B b : Nat} {w : World} {hor : Int} {vL vE : Value} {lives : List (Int × Int)} {L : List (Ed × Value)} (h : GOwn B b w hor vL vE lives L) :
    ∃ la lc ea ec, vL = .slice la lives.length lc ∧ vE = .slice ea L.length ec ∧ GAt w la ea ⟨hor, lives, L.map (·.1)⟩ ∧ lives.length ≤ lc ∧ lc ≤ 9223372036854775807 := by
  obtain ⟨la, lc, rfl, hlv⟩ := ivAt_of_owns h.lv
  obtain ⟨_, _, e1, n1, n2⟩ := row_form h.lv
  simp only [Value.slice.injEq] at e1
  obtain ⟨rfl, _, rfl⟩ := e1
  obtain ⟨ea, ec, rfl, n3, n4⟩ := row_form h.ed
  refine ⟨la, lc, ea, ec, rfl, rfl, ⟨hlv, ?_, by simp only; omega, by simp only [List.length_map]; omega⟩, n1, n2⟩
  rcases h.ed.2 with ⟨_, h0⟩ | ⟨g, cap, cur, e2, hb, hh, _⟩
  · exact .inl (by simp only; rw [List.eq_nil_of_length_eq_zero h0]; rfl)
  · simp only [Value.slice.injEq] at e2
    obtain ⟨rfl, _, rfl⟩ := e2
    refine .inr ⟨g, 0, rfl, (Array.getElem?_eq_some_iff.1 hh).1, fun j hj => ?_⟩
    have hj' : j < L.length := by simpa using hj
    obtain ⟨f0, f1, f2⟩ := encE_get L j hj'
    obtain ⟨a, c, hv, hl, m1, m2⟩ := lgAt_of_owns (h.lg L[j] (List.getElem_mem hj'))
    have ej : (L.map (·.1))[j] = L[j].1 := by simp
    unfold EdOne
    simp only [ej]
    rw [Nat.zero_add, h.ed.cellAt (j * 3) (by omega), h.ed.cellAt (j * 3 + 1) (by omega), h.ed.cellAt (j * 3 + 2) (by omega)]
    exact ⟨f0, f1, a, c, by rw [f2, hv], hl, m1, m2⟩

end Go.Proofs.YtjjhhmlogddnkaaDoor
