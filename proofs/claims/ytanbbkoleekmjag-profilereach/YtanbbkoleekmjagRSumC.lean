/-
  The rounds of Sums of the reference: what is kept from way to way.
-/
import Derived.Test.YtanbbkoleekmjagRSumB
import Derived.Shelf.Abstract
namespace Go.Proofs.Ytanbbkoleekmjag
open Go.RowKit

/-- a table as it stands in memory -/
def rdT (W : World) (bl : List (Nat × Nat)) (h : Nat) : Tb := (List.range bl.length).map fun v => rdL W (bk bl v) h
theorem TabM.rd {W : World} {base go : Nat} {bl : List (Nat × Nat)} {h : Nat} {T : Tb} (M : TabM W base go bl h T) (hT : T.length = bl.length) : rdT W bl h = T := by
  apply List.ext_getElem (by simp [rdT, hT])
  intro v h1 h2
  simp only [rdT, List.getElem_map, List.getElem_range]
  rw [(M.inn v (by omega)).rd, List.getD_eq_getElem?_getD, List.getElem?_eq_getElem h2]; rfl
theorem TabM.base {W : World} {base base' go : Nat} {bl : List (Nat × Nat)} {h : Nat} {T : Tb} (M : TabM W base go bl h T) (hb : base' ≤ base) : TabM W base' go bl h T := ⟨M.out, fun v hv => owns_base2 (M.inn v hv) hb, M.lt⟩
def flagAt (W : World) (v : Value) : Nat :=
  match v with
  | .pointer (some a) => flagOf ((W.cell? a).getD (.bool false))
  | _ => 0
theorem SS.cell {w1 : World} {n h goC goH : Nat} {bc bh : List (Nat × Nat)} {Bm : Nat} {X Y : Tb} {ch : Bool} {W : World} (S : SS w1 n h goC goH bc bh Bm X Y ch W) : W.cell? ⟨Bm, 0, none⟩ = some (.bool ch) := cell_of_row W Bm 0 _ _ (0, 0) S.m
theorem SS.flag {w1 : World} {n h goC goH : Nat} {bc bh : List (Nat × Nat)} {Bm : Nat} {X Y : Tb} {ch : Bool} {W : World} (S : SS w1 n h goC goH bc bh Bm X Y ch W) : flagAt W (.pointer (some ⟨Bm, 0, none⟩)) = if ch = true then 1 else 0 := by
  simp only [flagAt]; rw [S.cell]; cases ch <;> rfl
theorem SS.frz {w1 : World} {n h goC goH : Nat} {bc bh : List (Nat × Nat)} {Bm : Nat} {X Y : Tb} {ch : Bool} {W : World} (S : SS w1 n h goC goH bc bh Bm X Y ch W) : W.frozen? ⟨Bm, 0, none⟩ = false := frozen_of_row W Bm 0 _ _ S.m
/-- nothing has turned yet -/
theorem SS.clear {w1 : World} {n h goC goH : Nat} {bc bh : List (Nat × Nat)} {Bm : Nat} {X Y : Tb} {ch : Bool} {W : World} (S : SS w1 n h goC goH bc bh Bm X Y ch W) (D : Dis n goC goH bc bh) (b : Bool) : SS w1 n h goC goH bc bh Bm X Y b (W.setCell ⟨Bm, 0, none⟩ (.bool b)) := by
  have g2 := gby_set W Bm 0 (.bool b)
  have f := S.far
  exact ⟨S.c.kept g2 f.1 (fun v' hv' => (f.2.2 v' (by rw [← D.lc]; exact hv')).1), S.y.kept g2 f.2.1 (fun v' hv' => (f.2.2 v' (by rw [← D.lh]; exact hv')).2), heap_setCell_same _ Bm 0 _ _ (.bool b) S.m, f, S.bel.setCell (p := ⟨Bm, 0, none⟩) S.ge _, S.ge⟩
/-- the flag in a new box -/
theorem ss_box {w1 W : World} {n h goC goH : Nat} {bc bh : List (Nat × Nat)} {X Y : Tb} (hc : TabM W w1.heap.size goC bc h X) (hy : TabM W w1.heap.size goH bh h Y) (D : Dis n goC goH bc bh) (hb : Below w1.heap.size w1 W) (b : Bool) : SS w1 n h goC goH bc bh W.heap.size X Y b (W.alloc (.cells #[.bool b] 4)) := by
  refine ⟨hc.below (pal _ _), hy.below (pal _ _), heap_alloc_new W _, ⟨?_, ?_, fun v hv => ⟨?_, ?_⟩⟩, hb.alloc hb.size _, hb.size⟩
  · have := hc.lt; omega
  · have := hy.lt; omega
  · exact Nat.ne_of_lt (World.ownsRow.lt (hc.inn v (by rw [D.lc]; exact hv)) _ rfl).2
  · exact Nat.ne_of_lt (World.ownsRow.lt (hy.inn v (by rw [D.lh]; exact hv)) _ rfl).2

/-- a round under way: the ways dC, dH are done -/
def RS (w1 : World) (n h goC goH : Nat) (bc bh : List (Nat × Nat)) (Bm : Nat) (first : Nat → Nat → Int) (aC aH : List JA) (X0 Y0 : Tb) (dC dH : List JA) (W : World) : Prop :=
  ∃ X Y cC cH, SS w1 n h goC goH bc bh Bm X Y (cC || cH) W ∧ Tn n h first aC X0 X cC dC ∧ Tn n h first aH Y0 Y cH dH ∧ Tm n h X ∧ Tm n h Y ∧ Pr n h X Y
theorem RS.below {w1 W W' : World} {n h goC goH : Nat} {bc bh : List (Nat × Nat)} {Bm : Nat} {first : Nat → Nat → Int} {aC aH : List JA} {X0 Y0 : Tb} {dC dH : List JA} (R : RS w1 n h goC goH bc bh Bm first aC aH X0 Y0 dC dH W) (hb : Below W.heap.size W W') : RS w1 n h goC goH bc bh Bm first aC aH X0 Y0 dC dH W' := by
  obtain ⟨X, Y, cC, cH, S, r⟩ := R
  exact ⟨X, Y, cC, cH, S.below hb, r⟩
theorem jmid_first {n h : Nat} {first : Nat → Nat → Int} {arcs : List JA} {T : Tb} (S : Shp n h T) (e : ∀ v t, v < n → t < h → tat T v t = first v t) : JMid n h first arcs T :=
  ⟨S, fun v t hv ht => by rw [e v t hv ht]; exact Int.le_refl _, fun y hy v t hv ht => by rw [e v t hv ht]; exact hy.le v t hv ht⟩
theorem tm_first {n h : Nat} {first : Nat → Nat → Int} {T : Tb} (e : ∀ v t, v < n → t < h → tat T v t = first v t) (hf : ∀ v t, first v t = 1099511627776 ∨ first v t = 0) : Tm n h T := by
  intro v t hv ht
  rw [e v t hv ht]
  rcases hf v t with k | k
  · exact .inl k
  · right; rw [k]; omega
theorem pr_self (n h : Nat) (T : Tb) : Pr n h T T := fun _ _ _ _ => Iff.rfl
theorem firstT_two (g : Gr) (v t : Int) (v' t' : Nat) : firstT g v t v' t' = 1099511627776 ∨ firstT g v t v' t' = 0 := by unfold firstT; split <;> simp

/-- one way more, along which nothing is told -/
theorem tn_skips {n h : Nat} {first : Nat → Nat → Int} {arcs : List JA} {x z : Tb} {ch : Bool} {done more : List JA} (T : Tn n h first arcs x z ch done) (ok : ∀ a ∈ more, JOk n h a) (hf : ∀ v t, v < n → t < h → first v t ≤ 1099511627776) (hi : ∀ a ∈ more, src z a = 1099511627776) : Tn n h first arcs x z ch (done ++ more) := by
  induction more generalizing done with
  | nil => exact tn_nil T
  | cons a more ih =>
    have := ih (done := done ++ [a]) (tn_inf T (ok a (by simp)) hf (hi a (by simp))) (fun b hb => ok b (by simp [hb])) (fun b hb => hi b (by simp [hb]))
    rw [List.append_assoc] at this
    exact this
/-- one way more, along which a number is told in each table -/
theorem ss_put {w1 W : World} {n h goC goH : Nat} {bc bh : List (Nat × Nat)} {Bm : Nat} {first : Nat → Nat → Int} {aC aH : List JA} {X0 Y0 X Y : Tb} {cC cH : Bool} {dC dH : List JA} {a b : JA}
    (S : SS w1 n h goC goH bc bh Bm X Y (cC || cH) W) (TC : Tn n h first aC X0 X cC dC) (TH : Tn n h first aH Y0 Y cH dH) (hX : Tm n h X) (hY : Tm n h Y) (hP : Pr n h X Y) (D : Dis n goC goH bc bh)
    (ha : a ∈ aC) (hb : b ∈ aH) (okC : ∀ a ∈ aC, JOk n h a) (okH : ∀ a ∈ aH, JOk n h a) (hf0 : ∀ v t, v < n → t < h → 0 ≤ first v t) (e : b.1 = a.1 ∧ b.2.1 = a.2.1 ∧ b.2.2.1 = a.2.2.1 ∧ b.2.2.2.1 = a.2.2.2.1) (hh : h ≤ 100) (hs : src X a ≠ 1099511627776)
    (hge : ∀ v, v < n → w1.heap.size ≤ bk bc v ∧ w1.heap.size ≤ bk bh v) :
    SS w1 n h goC goH bc bh Bm (putT X a.2.2.1 a.2.2.2.1 (src X a + a.2.2.2.2)) Y ((cC || cH) || decide (src X a + a.2.2.2.2 < dst X a)) (putW W (bk bc a.2.2.1) a.2.2.2.1 Bm (src X a + a.2.2.2.2) (dst X a)) ∧
    RS w1 n h goC goH bc bh Bm first aC aH X0 Y0 (dC ++ [a]) (dH ++ [b]) (putW (putW W (bk bc a.2.2.1) a.2.2.2.1 Bm (src X a + a.2.2.2.2) (dst X a)) (bk bh b.2.2.1) b.2.2.2.1 Bm (src Y b + b.2.2.2.2) (dst Y b)) := by
  have oka := okC a ha
  have okb := okH b hb
  have hsb : src Y b ≠ 1099511627776 := by
    unfold src at hs ⊢
    rw [e.1, e.2.1]
    exact fun h => hs ((hP a.1 a.2.1 oka.v oka.t).2 h)
  have S1 := S.putC D TC.mid.shp.rows (v := a.2.2.1) (t := a.2.2.2.1) oka.v' (src X a + a.2.2.2.2) (hge _ oka.v').1
  refine ⟨S1, ?_⟩
  have S2 := S1.putH D TH.mid.shp.rows (v := b.2.2.1) (t := b.2.2.2.1) okb.v' (src Y b + b.2.2.2.2) (hge _ okb.v').2
  refine ⟨_, _, _, _, ?_, tn_put TC ha okC hf0, tn_put TH hb okH hf0, (tm_put TC.mid.shp hX oka hh hs).1, (tm_put TH.mid.shp hY okb hh hsb).1, pr_put TC.mid.shp TH.mid.shp hX hY hP oka okb hh e hs⟩
  have e1 : (cC || cH || decide (src X a + a.2.2.2.2 < tat X a.2.2.1 a.2.2.2.1) || decide (src Y b + b.2.2.2.2 < tat Y b.2.2.1 b.2.2.2.1)) = ((cC || decide (src X a + a.2.2.2.2 < dst X a)) || (cH || decide (src Y b + b.2.2.2.2 < dst Y b))) := by
    unfold dst
    cases cC <;> cases cH <;> cases decide (src X a + a.2.2.2.2 < tat X a.2.2.1 a.2.2.2.1) <;> cases decide (src Y b + b.2.2.2.2 < tat Y b.2.2.1 b.2.2.2.1) <;> rfl
  rw [e1] at S2
  exact S2

/-- the second half, a while later -/
theorem ss_putB {w1 W1 : World} {n h goC goH : Nat} {bc bh : List (Nat × Nat)} {Bm : Nat} {first : Nat → Nat → Int} {aC aH : List JA} {X0 Y0 X Y : Tb} {cC cH : Bool} {dC dH : List JA} {a b : JA}
    (S1 : SS w1 n h goC goH bc bh Bm (putT X a.2.2.1 a.2.2.2.1 (src X a + a.2.2.2.2)) Y ((cC || cH) || decide (src X a + a.2.2.2.2 < dst X a)) W1) (TC : Tn n h first aC X0 X cC dC) (TH : Tn n h first aH Y0 Y cH dH) (hX : Tm n h X) (hY : Tm n h Y) (hP : Pr n h X Y) (D : Dis n goC goH bc bh)
    (ha : a ∈ aC) (hb : b ∈ aH) (okC : ∀ a ∈ aC, JOk n h a) (okH : ∀ a ∈ aH, JOk n h a) (hf0 : ∀ v t, v < n → t < h → 0 ≤ first v t) (e : b.1 = a.1 ∧ b.2.1 = a.2.1 ∧ b.2.2.1 = a.2.2.1 ∧ b.2.2.2.1 = a.2.2.2.1) (hh : h ≤ 100) (hs : src X a ≠ 1099511627776)
    (hge : ∀ v, v < n → w1.heap.size ≤ bk bc v ∧ w1.heap.size ≤ bk bh v) :
    RS w1 n h goC goH bc bh Bm first aC aH X0 Y0 (dC ++ [a]) (dH ++ [b]) (putW W1 (bk bh b.2.2.1) b.2.2.2.1 Bm (src Y b + b.2.2.2.2) (dst Y b)) := by
  have oka := okC a ha
  have okb := okH b hb
  have hsb : src Y b ≠ 1099511627776 := by
    unfold src at hs ⊢
    rw [e.1, e.2.1]
    exact fun h => hs ((hP a.1 a.2.1 oka.v oka.t).2 h)
  have S2 := S1.putH D TH.mid.shp.rows (v := b.2.2.1) (t := b.2.2.2.1) okb.v' (src Y b + b.2.2.2.2) (hge _ okb.v').2
  refine ⟨_, _, _, _, ?_, tn_put TC ha okC hf0, tn_put TH hb okH hf0, (tm_put TC.mid.shp hX oka hh hs).1, (tm_put TH.mid.shp hY okb hh hsb).1, pr_put TC.mid.shp TH.mid.shp hX hY hP oka okb hh e hs⟩
  have e1 : (cC || cH || decide (src X a + a.2.2.2.2 < dst X a) || decide (src Y b + b.2.2.2.2 < tat Y b.2.2.1 b.2.2.2.1)) = ((cC || decide (src X a + a.2.2.2.2 < dst X a)) || (cH || decide (src Y b + b.2.2.2.2 < dst Y b))) := by
    unfold dst
    cases cC <;> cases cH <;> cases decide (src X a + a.2.2.2.2 < tat X a.2.2.1 a.2.2.2.1) <;> cases decide (src Y b + b.2.2.2.2 < tat Y b.2.2.1 b.2.2.2.1) <;> rfl
  rw [e1] at S2
  exact S2
theorem putW_size (W : World) (b t Bm : Nat) (m x : Int) : W.heap.size ≤ (putW W b t Bm m x).heap.size := by
  unfold putW
  split
  · exact Nat.le_trans (gby_set W b t (.int .i64 m)).size (gby_set (W.setCell ⟨b, t, none⟩ (.int .i64 m)) Bm 0 (.bool true)).size
  · exact Nat.le_refl _
theorem putW_far (W : World) (b t Bm : Nat) (m x : Int) {B i : Nat} (h : B < W.heap.size) (e1 : B ≠ b) (e2 : B ≠ Bm) : (putW W b t Bm m x).cell? ⟨B, i, none⟩ = W.cell? ⟨B, i, none⟩ := by
  unfold putW
  split
  · have g1 := gby_set W b t (.int .i64 m)
    exact ((gby_set (W.setCell ⟨b, t, none⟩ (.int .i64 m)) Bm 0 (.bool true)).cell_far ⟨B, i, none⟩ (Nat.lt_of_lt_of_le h g1.size) (fun e => e2 (Option.some.inj e))).trans (g1.cell_far ⟨B, i, none⟩ h (fun e => e1 (Option.some.inj e)))
  · rfl

theorem waitA_no {g : Gr} {t k : Nat} (h : ¬ (((t : Int) + 1 < g.hor) ∧ aliveB ((t : Int) + 1) g.lives (k : Int) = true)) : waitA g t (k + 1) = waitA g t k ++ [] := by rw [waitA, if_neg h]
theorem waitA_yes {g : Gr} {t k : Nat} (h : ((t : Int) + 1 < g.hor) ∧ aliveB ((t : Int) + 1) g.lives (k : Int) = true) : waitA g t (k + 1) = waitA g t k ++ [(k, t, k, t + 1, 0)] := by rw [waitA, if_pos h]
theorem legA_no {g : Gr} {pr : Int → Int} {t i : Nat} (hi : i < g.edges.length) (h : lands g g.edges[i] (t : Int) = none) : legA g pr t (i + 1) = legA g pr t i ++ [] := by
  have hg : g.edges.getD i (0, 0, []) = g.edges[i] := by simp [List.getD_eq_getElem?_getD, List.getElem?_eq_getElem hi]
  rw [legA, hg, h]
theorem legA_yes {g : Gr} {pr : Int → Int} {t i : Nat} (hi : i < g.edges.length) {q : Int × Int} (h : lands g g.edges[i] (t : Int) = some q) : legA g pr t (i + 1) = legA g pr t i ++ [(g.edges[i].1.toNat, t, g.edges[i].2.1.toNat, q.1.toNat, pr q.2)] := by
  have hg : g.edges.getD i (0, 0, []) = g.edges[i] := by simp [List.getD_eq_getElem?_getD, List.getElem?_eq_getElem hi]
  rw [legA, hg, h]
/-- a way that is told of lies in all of them -/
theorem wait_mem {g : Gr} {pr : Int → Int} {t k H : Nat} (ht : t < H) (hk : k < g.lives.length) (h : ((t : Int) + 1 < g.hor) ∧ aliveB ((t : Int) + 1) g.lives (k : Int) = true) : ((k, t, k, t + 1, 0) : JA) ∈ allA g pr H := by
  refine allA_sub (k := t + 1) ht _ ?_
  rw [allA, List.mem_append, List.mem_append]
  exact .inr (.inl (waitA_sub (k := k + 1) hk _ (by rw [waitA_yes h]; simp)))
theorem leg_mem {g : Gr} {pr : Int → Int} {t i H : Nat} (ht : t < H) (hi : i < g.edges.length) {q : Int × Int} (h : lands g g.edges[i] (t : Int) = some q) : ((g.edges[i].1.toNat, t, g.edges[i].2.1.toNat, q.1.toNat, pr q.2) : JA) ∈ allA g pr H := by
  refine allA_sub (k := t + 1) ht _ ?_
  rw [allA, List.mem_append, List.mem_append]
  exact .inr (.inr (legA_sub (i := i + 1) hi _ (by rw [legA_yes hi h]; simp)))

end Go.Proofs.Ytanbbkoleekmjag
